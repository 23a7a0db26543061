/- What the program's calls answer: Wants, Abort, Outcome; walked. No statement is proved here. -/
import Derived.Test.YthaepkpmpnofgaaGreatHWays
import Derived.Test.YthaepkpmpnofgaaGreatHSgaWalkA
set_option linter.unusedVariables false
set_option linter.unusedSimpArgs false
namespace Go.Proofs.YthaepkpmpnofgaaGreat.SgaWalkB
open Go.RowKit Go.Proofs.YthaepkpmpnofgaaGreat.Kit Go.Proofs.YthaepkpmpnofgaaGreat.Stq Go.Proofs.YthaepkpmpnofgaaGreat.Pln Go.Proofs.YthaepkpmpnofgaaGreat.Sag Go.Proofs.YthaepkpmpnofgaaGreat.SagAt Go.Proofs.YthaepkpmpnofgaaGreat.Ways
open Go.Proofs.YthaepkpmpnofgaaGreat.State (Only cell_at free_at lt_at)

/-- A box and a place for what is handed back, both new. -/
theorem two_new (w : World) (a b c d a' b' c' d' : Value) : Box4 ((w.alloc (.cells #[a, b, c, d] 49)).alloc (.cells #[a', b', c', d'] 49)) w.heap.size a b c d ∧ Box4 ((w.alloc (.cells #[a, b, c, d] 49)).alloc (.cells #[a', b', c', d'] 49)) (w.heap.size + 1) a' b' c' d' ∧
    Below w.heap.size w ((w.alloc (.cells #[a, b, c, d] 49)).alloc (.cells #[a', b', c', d'] 49)) := by
  have h1 := Box4.new w a b c d
  have h2 := Box4.new (w.alloc (.cells #[a, b, c, d] 49)) a' b' c' d'
  rw [show (w.alloc (.cells #[a, b, c, d] 49)).heap.size = w.heap.size + 1 by simp] at h2
  exact ⟨h1.below ((Below.refl _ _).alloc (Nat.le_refl _) _), h2, ((Below.refl _ _).alloc (Nat.le_refl _) _).alloc (by simp) _⟩
/-- What was written into blocks of the call's own. -/
theorem only_below {B : Nat} {S : Nat → Prop} {w w1 w2 : World} (h : Below B w w1) (k : Only S w1 w2) (hS : ∀ q, S q → B ≤ q) (hB : B ≤ w1.heap.size) : Below B w w2 := h.trans (k.below hB hS)

theorem bo2 (w : World) (o o' : Obj) : Below w.heap.size w ((w.alloc o).alloc o') := ((Below.refl _ _).alloc (Nat.le_refl _) _).alloc (by simp) _
theorem bo1 (w : World) (o : Obj) : Below w.heap.size w (w.alloc o) := (Below.refl _ _).alloc (Nat.le_refl _) _

set_option maxRecDepth 100000 in
set_option maxHeartbeats 2000000 in
theorem forward_any (A : Option Addr) (c : Nat) (s : Sg) (w : World) (h0 : 0 ≤ s.cu) (h1 : s.cu < s.l.length) (h63 : s.l.length ≤ 9223372036854775807) :
    Calls Tryz.prog 101 #[sgV A c s] w fun e w' => e = .returned (sgV A c (fwd s)) ∧ Below w.heap.size w w' := by
  obtain ⟨l, st, cu, fa⟩ := s
  simp only at h0 h1 h63
  obtain ⟨k, rfl⟩ := Int.eq_ofNat_of_zero_le h0
  have hw : IntKind.i64.wrap ((k : Int) + 1) = (k : Int) + 1 := by rw [IntKind.wrap_i64]; omega
  unfold sgV fwd
  simp only
  by_cases he : (k : Int) + 1 = (l.length : Int)
  · have he' : ((k : Int) + 1 == (l.length : Int)) = true := by simp; omega
    rw [if_pos he]
    clear he
    go_enter Tryz.func101, Tryz.ntmps101
    go_wp2
    refine bodyPost_ret (res1 rfl _ rfl (two_new _ _ _ _ _ _ _ _ _).2.1) rfl ?_
    exact ⟨rfl, bo2 _ _ _⟩
  · have he' : ((k : Int) + 1 == (l.length : Int)) = false := by simp; omega
    rw [if_neg he]
    clear he
    go_enter Tryz.func101, Tryz.ntmps101
    go_wp2
    refine bodyPost_ret (res1 rfl _ rfl (two_new _ _ _ _ _ _ _ _ _).2.1) rfl ?_
    exact ⟨rfl, bo2 _ _ _⟩
set_option maxRecDepth 100000 in
set_option maxHeartbeats 2000000 in
theorem back_any (A : Option Addr) (c : Nat) (s : Sg) (k : Int) (w : World) :
    Calls Tryz.prog 102 #[sgV A c s, .int .i64 k] w fun e w' => e = .returned (sgV A c (back s k)) ∧ Below w.heap.size w w' := by
  obtain ⟨l, st, cu, fa⟩ := s
  unfold back
  by_cases he : k < 0
  · rw [if_pos he]
    unfold sgV
    simp only
    go_enter Tryz.func102, Tryz.ntmps102
    go_wp2
    refine bodyPost_ret (res1 rfl _ rfl (two_new _ _ _ _ _ _ _ _ _).2.1) rfl ?_
    exact ⟨rfl, bo2 _ _ _⟩
  · rw [if_neg he]
    unfold sgV
    simp only
    go_enter Tryz.func102, Tryz.ntmps102
    go_wp2
    refine bodyPost_ret (res1 rfl _ rfl (two_new _ _ _ _ _ _ _ _ _).2.1) rfl ?_
    exact ⟨rfl, bo2 _ _ _⟩
set_option maxRecDepth 100000 in
set_option maxHeartbeats 2000000 in
theorem rback_any (A : Option Addr) (c : Nat) (s : Sg) (k : Int) (w : World) :
    Calls Tryz.prog 75 #[sgV A c s, .int .i64 k] w fun e w' => e = .returned (sgV A c (back s k)) ∧ Below w.heap.size w w' := by
  obtain ⟨l, st, cu, fa⟩ := s
  unfold back
  by_cases he : k < 0
  · rw [if_pos he]
    unfold sgV
    simp only
    go_enter Tryz.func75, Tryz.ntmps75
    go_wp2
    refine bodyPost_ret (res1 rfl _ rfl (two_new _ _ _ _ _ _ _ _ _).2.1) rfl ?_
    exact ⟨rfl, bo2 _ _ _⟩
  · rw [if_neg he]
    unfold sgV
    simp only
    go_enter Tryz.func75, Tryz.ntmps75
    go_wp2
    refine bodyPost_ret (res1 rfl _ rfl (two_new _ _ _ _ _ _ _ _ _).2.1) rfl ?_
    exact ⟨rfl, bo2 _ _ _⟩
set_option maxRecDepth 100000 in
set_option maxHeartbeats 4000000 in
theorem fail_any {w : World} {A : Option Addr} (c : Nat) {s : Sg} (h : At w A s.l) (h0 : 0 ≤ s.cu) (h1 : s.cu < s.l.length) (f0 : 0 ≤ s.fa) (f1 : s.fa < bud s.l s.cu) (hbg : bud s.l s.cu ≤ 9) :
    Calls Tryz.prog 103 #[sgV A c s] w fun e w' => e = .returned (sgV A c (fail s)) ∧ Below w.heap.size w w' := by
  obtain ⟨l, st, cu, fa⟩ := s
  simp only at h h0 h1 f0 f1 hbg
  obtain ⟨k, rfl⟩ := Int.eq_ofNat_of_zero_le h0
  obtain ⟨bk, o, e, rfl, hbl, he, hthree⟩ := RS.at_ h.rs (show k < l.length by omega)
  have hbu := bud_at he
  have t2 := hthree.c2
  obtain ⟨pt, nm, bg⟩ := e
  simp only at t2 hbu
  rw [hbu] at f1 hbg
  have hw : IntKind.i64.wrap (fa + 1) = fa + 1 := by rw [IntKind.wrap_i64]; omega
  unfold sgV fail
  simp only
  rw [hbu]
  have hne : bk ≠ w.heap.size := by omega
  have hne1 : bk ≠ w.heap.size + 1 := by omega
  clear hthree he hbu h
  by_cases hq : fa + 1 = bg
  · have hq' : (fa + 1 == bg) = true := by simpa using hq
    rw [if_pos hq]
    clear hq
    go_enter Tryz.func103, Tryz.ntmps103
    go_wp2_with fail
    go_region
    all_goals go_wp2
    all_goals refine bodyPost_ret (res1 rfl _ rfl ((two_new _ _ _ _ _ _ _ _ _).2.1.below (below_drewN (Below.refl _ _) 1))) rfl ?_
    all_goals exact ⟨rfl, below_drewN (bo2 _ _ _) 1⟩
  · have hq' : (fa + 1 == bg) = false := by simpa using hq
    rw [if_neg hq]
    clear hq
    go_enter Tryz.func103, Tryz.ntmps103
    go_wp2_with fail
    go_region
    all_goals go_wp2
    all_goals refine bodyPost_ret (res1 rfl _ rfl ((two_new _ _ _ _ _ _ _ _ _).2.1.below (below_drewN (Below.refl _ _) 1))) rfl ?_
    all_goals exact ⟨rfl, below_drewN (bo2 _ _ _) 1⟩

/-- A saga apart: one whose steps lie in a block of their own. -/
def Apart (w : World) (s : Sg) (e : Ending) (w' : World) : Prop := ∃ A c, e = .returned (sgV A c s) ∧ At w' A s.l ∧ Fresh w.heap.size A s.l.length ∧ Below w.heap.size w w'
set_option maxRecDepth 100000 in
set_option maxHeartbeats 4000000 in
theorem apart_any {w : World} {A : Option Addr} (c : Nat) {s : Sg} (h : At w A s.l) : Calls Tryz.prog 99 #[sgV A c s] w (Apart w s) := by
  obtain ⟨l, st, cu, fa⟩ := s
  simp only at h
  obtain ⟨hx, hy, hbo⟩ := two_new w (.slice A l.length c) (.int .i64 st) (.int .i64 cu) (.int .i64 fa) (.slice none 0 0) (.int .i64 0) (.int .i64 0) (.int .i64 0)
  obtain ⟨w0, hw0⟩ : ∃ w0, (w.alloc (.cells #[.slice A l.length c, .int .i64 st, .int .i64 cu, .int .i64 fa] 49)).alloc (.cells #[.slice none 0 0, .int .i64 0, .int .i64 0, .int .i64 0] 49) = w0 := ⟨_, rfl⟩
  rw [hw0] at hx hy hbo
  have h0 := h.below hbo
  have HW0 := Lib.hid hw0
  have hcl := clone_any A c h0
  have HY2 := Lib.hid hy
  unfold Apart sgV
  simp only
  clear hw0
  go_enter Tryz.func99, Tryz.ntmps99
  go_wp2_with fail
  rw [HW0.out]
  go_wp2_with fail
  with_reducible refine hcl.mono ?_
  rintro e w1 ⟨A1, c1, rfl, hr1, hb1, hf1⟩
  have hx1 := hx.below hb1
  have hy1 := hy.below hb1
  have c0 := hx1.c0
  have c1' := hx1.c1
  have c2 := hx1.c2
  have c3 := hx1.c3
  have f0 := hx1.free 0
  have lt0 := hx1.lt
  have g0 := hy1.free 0
  have g1 := hy1.free 1
  have g2 := hy1.free 2
  have g3 := hy1.free 3
  have lt1 := hy1.lt
  have d0 := hy1.c0
  have d1 := hy1.c1
  have d2 := hy1.c2
  have d3 := hy1.c3
  have HX := Lib.hid hx1
  have HY := Lib.hid hy1
  have HB := Lib.hid (hbo.trans (hb1.mono hbo.size))
  have HF := Lib.hid hf1
  have HR := Lib.hid hr1
  have HH := Lib.hid h
  have HBO := Lib.hid hbo
  clear hx hy hbo hx1 hy1 hb1 hf1 hr1 h0 hcl h
  go_wp2
  have s1 := HX.out.set0 (.slice A1 l.length c1)
  have y1 := HY.out.keep s1.2 (by omega)
  have s2 := y1.set (.slice A1 l.length c1) (.int .i64 st) (.int .i64 cu) (.int .i64 fa)
  refine bodyPost_ret (res1 rfl _ rfl s2.1) rfl ?_
  have hsz := HBO.out.size
  have hlow : 0 < l.length → ∀ ad, A1 = some ad → w0.heap.size ≤ ad.block := HF.out
  have h1 : At w1 A1 l := ⟨HR.out, HH.out.room, HH.out.nm⟩
  have hw0 : w.heap.size + 1 < w0.heap.size := HY2.out.lt
  refine ⟨A1, c1, rfl, (h1.only s1.2 fun hn ad e => ?_).only s2.2 fun hn ad e => ?_, fun hn ad e => ?_, only_below (only_below HB.out s1.2 (fun q hq => by omega) HB.out.size) s2.2 (fun q hq => by omega) (Nat.le_trans HB.out.size s1.2.size)⟩
  · have := hlow hn ad e; omega
  · have := hlow hn ad e; omega
  · have := hlow hn ad e; omega
end Go.Proofs.YthaepkpmpnofgaaGreat.SgaWalkB
set_option linter.unusedVariables false
set_option linter.unusedSimpArgs false
namespace Go.Proofs.YthaepkpmpnofgaaGreat.SgaWalkC
open Go.RowKit Go.Proofs.YthaepkpmpnofgaaGreat.Kit Go.Proofs.YthaepkpmpnofgaaGreat.Stq Go.Proofs.YthaepkpmpnofgaaGreat.Pln Go.Proofs.YthaepkpmpnofgaaGreat.Sag Go.Proofs.YthaepkpmpnofgaaGreat.SagAt Go.Proofs.YthaepkpmpnofgaaGreat.Ways Go.Proofs.YthaepkpmpnofgaaGreat.SgaWalkA Go.Proofs.YthaepkpmpnofgaaGreat.SgaWalkB
open Go.Proofs.YthaepkpmpnofgaaGreat.State (Only cell_at free_at lt_at)

set_option maxRecDepth 100000 in
set_option maxHeartbeats 4000000 in
theorem wants_any {w : World} {A : Option Addr} (cc : Nat) {s : Sg} (h : At w A s.l) {q : Int} {b x : Bool} (hq : Hid (wantC s = q)) (hb : Hid (wantB s = b)) (hx : Hid (opn s = x)) :
    Calls Tryz.prog 100 #[sgV A cc s] w fun e w' => e = .returned (.tuple #[.int .i64 q, .bool b, .bool x]) ∧ Below w.heap.size w w' := by
  obtain ⟨u, hu⟩ : ∃ u, sound s = u := ⟨_, rfl⟩
  obtain ⟨v, hv⟩ : ∃ v, ended s = v := ⟨_, rfl⟩
  have hcase : (u = false ∧ q = 0 ∧ b = false ∧ x = false) ∨ (u = true ∧ v = true ∧ q = 0 ∧ b = false ∧ x = false) ∨ (u = true ∧ v = false ∧ q = s.cu ∧ (s.st == 2) = b ∧ x = true) := by
    have ho := opn_ended s
    have h1 := hq.out
    have h2 := hb.out
    have h3 := hx.out
    unfold wantC at h1
    unfold wantB at h2
    rw [h3] at h1 h2
    rw [hu, hv, h3] at ho
    cases u <;> cases v <;> simp at ho <;> subst ho <;> simp_all
    rw [← h2]
    rfl
  have hsd : ∀ w A c, At w A s.l → Calls Tryz.prog 109 #[sgV A c s] w fun e w' => e = .returned (.bool u) ∧ Below w.heap.size w w' := fun w A c h => sound_any h hu
  have hed : ∀ w A c, Calls Tryz.prog 123 #[sgV A c s] w fun e w' => e = .returned (.bool v) ∧ Below w.heap.size w w' := fun w A c => ended_any A c s w hv
  obtain ⟨l, st, cu, fa⟩ := s
  simp only at h hcase
  unfold sgV at hsd hed ⊢
  simp only at hsd hed ⊢
  have hbo := bo1 w (.cells #[.slice A l.length cc, .int .i64 st, .int .i64 cu, .int .i64 fa] 49)
  have hx0 := Box4.new w (.slice A l.length cc) (.int .i64 st) (.int .i64 cu) (.int .i64 fa)
  have h0 := h.below hbo
  obtain ⟨w1, hw1⟩ : ∃ w1, w.alloc (.cells #[.slice A l.length cc, .int .i64 st, .int .i64 cu, .int .i64 fa] 49) = w1 := ⟨_, rfl⟩
  rw [hw1] at hbo hx0 h0
  have HW1 := Lib.hid hw1
  have HSD := Lib.hid hsd
  have HED := Lib.hid hed
  clear hw1 h hb hq hx hu hv hsd hed
  rcases hcase with ⟨rfl, rfl, rfl, rfl⟩ | ⟨rfl, rfl, rfl, rfl, rfl⟩ | ⟨rfl, rfl, rfl, hst, rfl⟩
  all_goals go_enter Tryz.func100, Tryz.ntmps100
  all_goals go_wp2_with fail
  all_goals rw [HW1.out]
  all_goals go_wp2_with fail
  all_goals with_reducible refine (HSD.out _ _ _ h0).mono ?_
  all_goals rintro e w2 ⟨rfl, hb2⟩
  all_goals have hx2 := hx0.below hb2
  all_goals have hB := hbo.trans (hb2.mono hbo.size)
  · go_wp2
    refine bodyPost_ret (results_tmp3 rfl _ _ _) rfl ?_
    exact ⟨rfl, hB⟩
  all_goals have c0 := hx2.c0
  all_goals have c1 := hx2.c1
  all_goals have c2 := hx2.c2
  all_goals have c3 := hx2.c3
  all_goals go_wp2_with fail
  all_goals with_reducible refine (HED.out _ _ _).mono ?_
  all_goals rintro e w3 ⟨rfl, hb3⟩
  all_goals have hB3 := hB.trans (hb3.mono hB.size)
  · go_wp2
    refine bodyPost_ret (results_tmp3 rfl _ _ _) rfl ?_
    exact ⟨rfl, hB3⟩
  have hx3 := hx2.below hb3
  clear c0 c1 c2 c3
  have c0 := hx3.c0
  have c1 := hx3.c1
  have c2 := hx3.c2
  have c3 := hx3.c3
  go_wp2_with fail
  go_region
  all_goals go_wp2
  all_goals refine bodyPost_ret (results_tmp3 rfl _ _ _) rfl ?_
  all_goals exact ⟨rfl, below_drewN hB3 _⟩

/-- A saga is handed back, with a word. -/
def SagP (w : World) (s : Sg) (b : Bool) (e : Ending) (w' : World) : Prop := ∃ A c, e = .returned (.tuple #[sgV A c s, .bool b]) ∧ At w' A s.l ∧ Fresh w.heap.size A s.l.length ∧ Below w.heap.size w w'

/-- What Abort and Outcome begin with: a saga apart in their own box. -/
theorem set_apart {w1 : World} {b : Nat} {v0 v1 v2 v3 u0 u1 u2 u3 : Value} (hx : Box4 w1 b v0 v1 v2 v3) (hy : Box4 w1 (b + 1) u0 u1 u2 u3) (a0 a1 a2 a3 : Value) :
    ∃ w2, (((w1.setCell ⟨b, 0, none⟩ a0).setCell ⟨b, 1, none⟩ a1).setCell ⟨b, 2, none⟩ a2).setCell ⟨b, 3, none⟩ a3 = w2 ∧ Box4 w2 b a0 a1 a2 a3 ∧ Box4 w2 (b + 1) u0 u1 u2 u3 ∧ Only (fun q => q = b) w1 w2 :=
  ⟨_, rfl, (hx.set a0 a1 a2 a3).1, hy.keep (hx.set a0 a1 a2 a3).2 (by omega), (hx.set a0 a1 a2 a3).2⟩
theorem set_back {w1 : World} {b : Nat} {v0 v1 v2 v3 u0 u1 u2 u3 : Value} (hx : Box4 w1 b v0 v1 v2 v3) (hy : Box4 w1 (b + 1) u0 u1 u2 u3) (a0 a1 a2 a3 : Value) :
    ∃ w2, (((w1.setCell ⟨b + 1, 0, none⟩ a0).setCell ⟨b + 1, 1, none⟩ a1).setCell ⟨b + 1, 2, none⟩ a2).setCell ⟨b + 1, 3, none⟩ a3 = w2 ∧ Box4 w2 (b + 1) a0 a1 a2 a3 ∧ Box4 w2 b v0 v1 v2 v3 ∧ Only (fun q => q = b + 1) w1 w2 :=
  ⟨_, rfl, (hy.set a0 a1 a2 a3).1, hx.keep (hy.set a0 a1 a2 a3).2 (by omega), (hy.set a0 a1 a2 a3).2⟩

set_option maxRecDepth 100000 in
set_option maxHeartbeats 8000000 in
theorem abort_any {w : World} {A : Option Addr} (cc : Nat) {s : Sg} (h : At w A s.l) {s' : Sg} {b : Bool} (hs : Hid (abort s = s')) (hb : Hid (aborts s = b)) :
    Calls Tryz.prog 108 #[sgV A cc s] w (SagP w s' b) := by
  obtain ⟨u, hu⟩ : ∃ u, sound s = u := ⟨_, rfl⟩
  have hcase : (u = false ∧ b = false ∧ s' = s) ∨ (u = true ∧ (s.st != 1) = true ∧ b = false ∧ s' = s) ∨ (u = true ∧ (s.st != 1) = false ∧ b = true ∧ s' = back s s.cu) := by
    have h1 := hs.out
    have h2 := hb.out
    unfold abort at h1
    rw [h2] at h1
    unfold aborts at h2
    rw [hu] at h2
    by_cases hst : s.st = 1
    · cases u <;> simp [hst] at h2 <;> subst h2 <;> simp_all
    · cases u <;> simp [hst] at h2 <;> subst h2 <;> simp_all
  have hap := fun w A c h => apart_any (w := w) (A := A) c (s := s) h
  have hsd : ∀ w A c, At w A s.l → Calls Tryz.prog 109 #[sgV A c s] w fun e w' => e = .returned (.bool u) ∧ Below w.heap.size w w' := fun w A c h => sound_any h hu
  have hbk := fun A c w => back_any A c s s.cu w
  obtain ⟨⟨l', st', cu', fa'⟩, hs''⟩ : ∃ t, back s s.cu = t := ⟨_, rfl⟩
  have hl' : l' = s.l := by have := back_l s s.cu; rw [hs''] at this; exact this
  subst hl'
  rw [hs''] at hbk hcase
  obtain ⟨l, st, cu, fa⟩ := s
  simp only at h hcase hbk hs''
  unfold Apart at hap
  unfold sgV at hsd hap hbk ⊢
  simp only at hsd hap hbk ⊢
  obtain ⟨hx, hy, hbo⟩ := two_new w (.slice A l.length cc) (.int .i64 st) (.int .i64 cu) (.int .i64 fa) (.slice none 0 0) (.int .i64 0) (.int .i64 0) (.int .i64 0)
  obtain ⟨w0, hw0⟩ : ∃ w0, (w.alloc (.cells #[.slice A l.length cc, .int .i64 st, .int .i64 cu, .int .i64 fa] 49)).alloc (.cells #[.slice none 0 0, .int .i64 0, .int .i64 0, .int .i64 0] 49) = w0 := ⟨_, rfl⟩
  rw [hw0] at hx hy hbo
  have h0 := h.below hbo
  have HW0 := Lib.hid hw0
  have HAP := Lib.hid (hap _ _ cc h0)
  have HSD := Lib.hid hsd
  have HBK := Lib.hid hbk
  have HBO := Lib.hid hbo
  have hlt0 := hy.lt
  have HX := Lib.hid hx
  have HY := Lib.hid hy
  clear hw0 hs hb hu hsd hap hbk hs'' h h0 hx hy hbo
  go_enter Tryz.func108, Tryz.ntmps108
  go_wp2_with fail
  rw [HW0.out]
  go_wp2_with fail
  with_reducible refine HAP.out.mono ?_
  rintro e w1 ⟨A1, cA, rfl, hat1, hf1, hb1⟩
  have hx1 := HX.out.below hb1
  have hy1 := HY.out.below hb1
  have c0 := hx1.c0
  have c1 := hx1.c1
  have c2 := hx1.c2
  have c3 := hx1.c3
  have f0 := hx1.free 0
  have f1 := hx1.free 1
  have f2 := hx1.free 2
  have f3 := hx1.free 3
  have ltx := hx1.lt
  have g0 := hy1.free 0
  have g1 := hy1.free 1
  have g2 := hy1.free 2
  have g3 := hy1.free 3
  have d0 := hy1.c0
  have d1 := hy1.c1
  have d2 := hy1.c2
  have d3 := hy1.c3
  have lty := hy1.lt
  obtain ⟨w2, hw2, hx2, hy2, ho2⟩ := set_apart hx1 hy1 (.slice A1 l.length cA) (.int .i64 st) (.int .i64 cu) (.int .i64 fa)
  have HW2 := Lib.hid hw2
  have hlow : 0 < l.length → ∀ ad, A1 = some ad → w0.heap.size ≤ ad.block := hf1
  have hat2 : At w2 A1 l := hat1.only ho2 fun hn ad e => by have := hlow hn ad e; omega
  have hB2 : Below w.heap.size w w2 := only_below (HBO.out.trans (hb1.mono HBO.out.size)) ho2 (fun q hq => by omega) (Nat.le_trans HBO.out.size hb1.size)
  have HX2 := Lib.hid hx2
  have HY2 := Lib.hid hy2
  have HAT2 := Lib.hid hat2
  have HB2 := Lib.hid hB2
  have HF1 := Lib.hid hlow
  clear hx1 hy1 hw2 hx2 hy2 ho2 hat1 hf1 hb1 hat2 hB2 hlow
  go_wp2_with fail
  rw [HW2.out]
  clear c0 c1 c2 c3 f0 f1 f2 f3 ltx g0 g1 g2 g3 d0 d1 d2 d3 lty
  with_reducible refine (HSD.out _ _ _ HAT2.out).mono ?_
  rintro e w3 ⟨rfl, hb3⟩
  have hx3 := HX2.out.below hb3
  have hy3 := HY2.out.below hb3
  have c0 := hx3.c0
  have c1 := hx3.c1
  have c2 := hx3.c2
  have c3 := hx3.c3
  have f0 := hx3.free 0
  have f1 := hx3.free 1
  have f2 := hx3.free 2
  have f3 := hx3.free 3
  have ltx := hx3.lt
  have g0 := hy3.free 0
  have g1 := hy3.free 1
  have g2 := hy3.free 2
  have g3 := hy3.free 3
  have d0 := hy3.c0
  have d1 := hy3.c1
  have d2 := hy3.c2
  have d3 := hy3.c3
  have lty := hy3.lt
  have hat3 := HAT2.out.below hb3
  have hB3 : Below w.heap.size w w3 := HB2.out.trans (hb3.mono HB2.out.size)
  have HX3 := Lib.hid hx3
  have HY3 := Lib.hid hy3
  have HAT3 := Lib.hid hat3
  have HB3 := Lib.hid hB3
  clear hx3 hy3 hat3 hB3 hb3
  have hend : ∀ (W : World) (a0 a1 a2 a3 : Value), ((W.setCell ⟨w.heap.size + 1, 0, none⟩ a0).setCell ⟨w.heap.size + 1, 1, none⟩ a1).setCell ⟨w.heap.size + 1, 2, none⟩ a2 = ((W.setCell ⟨w.heap.size + 1, 0, none⟩ a0).setCell ⟨w.heap.size + 1, 1, none⟩ a1).setCell ⟨w.heap.size + 1, 2, none⟩ a2 := fun _ _ _ _ _ => rfl
  clear hend
  rcases hcase with ⟨rfl, rfl, rfl⟩ | ⟨rfl, hne, rfl, rfl⟩ | ⟨rfl, hne, rfl, rfl⟩
  · go_wp2
    obtain ⟨w4, hw4, hy4, hx4, ho4⟩ := set_back HX3.out HY3.out (.slice A1 l.length cA) (.int .i64 st) (.int .i64 cu) (.int .i64 fa)
    rw [hw4]
    refine bodyPost_ret (res2 (p := 2) (u := 3) rfl _ rfl hy4) rfl ?_
    exact ⟨A1, cA, rfl, HAT3.out.only ho4 fun hn ad e => by have := HF1.out hn ad e; omega, fun hn ad e => by have := HF1.out hn ad e; omega, only_below HB3.out ho4 (fun q hq => by omega) HB3.out.size⟩
  · go_wp2
    obtain ⟨w4, hw4, hy4, hx4, ho4⟩ := set_back HX3.out HY3.out (.slice A1 l.length cA) (.int .i64 st) (.int .i64 cu) (.int .i64 fa)
    rw [hw4]
    refine bodyPost_ret (res2 (p := 2) (u := 3) rfl _ rfl hy4) rfl ?_
    exact ⟨A1, cA, rfl, HAT3.out.only ho4 fun hn ad e => by have := HF1.out hn ad e; omega, fun hn ad e => by have := HF1.out hn ad e; omega, only_below HB3.out ho4 (fun q hq => by omega) HB3.out.size⟩
  · go_wp2_with fail
    with_reducible refine (HBK.out _ _ _).mono ?_
    rintro e w4 ⟨rfl, hb4⟩
    have hx4 := HX3.out.below hb4
    have hy4 := HY3.out.below hb4
    clear c0 c1 c2 c3 f0 f1 f2 f3 ltx g0 g1 g2 g3 d0 d1 d2 d3 lty
    have c0 := hx4.c0
    have c1 := hx4.c1
    have c2 := hx4.c2
    have c3 := hx4.c3
    have f0 := hx4.free 0
    have f1 := hx4.free 1
    have f2 := hx4.free 2
    have f3 := hx4.free 3
    have ltx := hx4.lt
    have g0 := hy4.free 0
    have g1 := hy4.free 1
    have g2 := hy4.free 2
    have g3 := hy4.free 3
    have d0 := hy4.c0
    have d1 := hy4.c1
    have d2 := hy4.c2
    have d3 := hy4.c3
    have lty := hy4.lt
    have hB4 : Below w.heap.size w w4 := HB3.out.trans (hb4.mono HB3.out.size)
    have hat4 := HAT3.out.below hb4
    obtain ⟨w5, hw5, hy5, hx5, ho5⟩ := set_back hx4 hy4 (.slice A1 l.length cA) (.int .i64 st') (.int .i64 cu') (.int .i64 fa')
    have HY5 := Lib.hid hy5
    have HW5 := Lib.hid hw5
    have HAT5 : Hid (At w5 A1 l) := hat4.only ho5 fun hn ad e => by have := HF1.out hn ad e; omega
    have HB5 : Hid (Below w.heap.size w w5) := only_below hB4 ho5 (fun q hq => by omega) hB4.size
    clear hx4 hy4 hb4 hB4 hat4 hy5 hw5 hx5 ho5
    go_wp2
    rw [HW5.out]
    refine bodyPost_ret (res2 (p := 2) (u := 3) rfl _ rfl HY5.out) rfl ?_
    exact ⟨A1, cA, rfl, HAT5.out, fun hn ad e => by have := HF1.out hn ad e; omega, HB5.out⟩

set_option maxRecDepth 100000 in
set_option maxHeartbeats 8000000 in
theorem outcome_any {w : World} {A : Option Addr} (cc : Nat) {s : Sg} (h : At w A s.l) (step : Int) (taken : Bool) (tr : Int) (ok : Bool) {s' : Sg} {b : Bool} (hs : Hid (outc s step taken tr ok = s')) (hb : Hid (takes s step taken tr ok = b)) :
    Calls Tryz.prog 69 #[sgV A cc s, .int .i64 step, .bool taken, .int .i64 tr, .bool ok] w (SagP w s' b) := by
  obtain ⟨q, hq⟩ : ∃ q, wantC s = q := ⟨_, rfl⟩
  obtain ⟨y, hy0⟩ : ∃ y, wantB s = y := ⟨_, rfl⟩
  obtain ⟨x, hx0⟩ : ∃ x, opn s = x := ⟨_, rfl⟩
  have hcase := ways6 hs.out hb.out hq hy0 hx0
  have hap := fun w A c h => apart_any (w := w) (A := A) c (s := s) h
  have hwt := fun w A c h => wants_any (w := w) (A := A) c (s := s) h hq hy0 hx0
  have hfw : x = true → ∀ A c w, Calls Tryz.prog 101 #[sgV A c s] w fun e w' => e = .returned (sgV A c (fwd s)) ∧ Below w.heap.size w w' := fun e A c w => forward_any A c s w (opn_in (hx0.trans e)).1 (opn_in (hx0.trans e)).2 h.few
  have hbk := fun A c w => back_any A c s (s.cu - 1) w
  have hfl : x = true → y = true → ∀ A c w, At w A s.l → Calls Tryz.prog 103 #[sgV A c s] w fun e w' => e = .returned (sgV A c (fail s)) ∧ Below w.heap.size w w' := fun e e' A c w h => fail_any c h (opn_in (hx0.trans e)).1 (opn_in (hx0.trans e)).2 (opn_back (hx0.trans e) (hy0.trans e')).1 (opn_back (hx0.trans e) (hy0.trans e')).2.1 (opn_back (hx0.trans e) (hy0.trans e')).2.2
  obtain ⟨l', st', cu', fa'⟩ := s'
  have hl' : l' = s.l := by have := outc_l s step taken tr ok; rw [hs.out] at this; exact this
  subst hl'
  have hwr : x = true → IntKind.i64.wrap (s.cu - 1) = s.cu - 1 := fun e => by have := opn_in (hx0.trans e); have := h.room; rw [IntKind.wrap_i64]; omega
  have HCASE := Lib.hid hcase
  have HFW := Lib.hid hfw
  have HFL := Lib.hid hfl
  have HBK := Lib.hid hbk
  have HWT := Lib.hid hwt
  have HWR := Lib.hid hwr
  clear hcase hfw hfl hbk hwt hwr hs hb hq hy0 hx0
  obtain ⟨l, st, cu, fa⟩ := s
  simp only at h HCASE HWR
  unfold Apart at hap
  unfold sgV at hap HFW HFL HBK HWT ⊢
  simp only at hap HFW HFL HBK HWT ⊢
  obtain ⟨hx, hy, hbo⟩ := two_new w (.slice A l.length cc) (.int .i64 st) (.int .i64 cu) (.int .i64 fa) (.slice none 0 0) (.int .i64 0) (.int .i64 0) (.int .i64 0)
  obtain ⟨w0, hw0⟩ : ∃ w0, (w.alloc (.cells #[.slice A l.length cc, .int .i64 st, .int .i64 cu, .int .i64 fa] 49)).alloc (.cells #[.slice none 0 0, .int .i64 0, .int .i64 0, .int .i64 0] 49) = w0 := ⟨_, rfl⟩
  rw [hw0] at hx hy hbo
  have h0 := h.below hbo
  have HW0 := Lib.hid hw0
  have HAP := Lib.hid (hap _ _ cc h0)
  have HBO := Lib.hid hbo
  have hlt0 := hy.lt
  have HX := Lib.hid hx
  have HY := Lib.hid hy
  clear hw0 hap h h0 hx hy hbo
  go_enter Tryz.func69, Tryz.ntmps69
  go_wp2_with fail
  rw [HW0.out]
  go_wp2_with fail
  with_reducible refine HAP.out.mono ?_
  rintro e w1 ⟨A1, cA, rfl, hat1, hf1, hb1⟩
  have hx1 := HX.out.below hb1
  have hy1 := HY.out.below hb1
  have c0 := hx1.c0
  have c1 := hx1.c1
  have c2 := hx1.c2
  have c3 := hx1.c3
  have f0 := hx1.free 0
  have f1 := hx1.free 1
  have f2 := hx1.free 2
  have f3 := hx1.free 3
  have ltx := hx1.lt
  have g0 := hy1.free 0
  have g1 := hy1.free 1
  have g2 := hy1.free 2
  have g3 := hy1.free 3
  have d0 := hy1.c0
  have d1 := hy1.c1
  have d2 := hy1.c2
  have d3 := hy1.c3
  have lty := hy1.lt
  obtain ⟨w2, hw2, hx2, hy2, ho2⟩ := set_apart hx1 hy1 (.slice A1 l.length cA) (.int .i64 st) (.int .i64 cu) (.int .i64 fa)
  have HW2 := Lib.hid hw2
  have hlow : 0 < l.length → ∀ ad, A1 = some ad → w0.heap.size ≤ ad.block := hf1
  have hat2 : At w2 A1 l := hat1.only ho2 fun hn ad e => by have := hlow hn ad e; omega
  have hB2 : Below w.heap.size w w2 := only_below (HBO.out.trans (hb1.mono HBO.out.size)) ho2 (fun q hq => by omega) (Nat.le_trans HBO.out.size hb1.size)
  have HX2 := Lib.hid hx2
  have HY2 := Lib.hid hy2
  have HAT2 := Lib.hid hat2
  have HB2 := Lib.hid hB2
  have HF1 := Lib.hid hlow
  clear hx1 hy1 hw2 hx2 hy2 ho2 hat1 hf1 hb1 hat2 hB2 hlow
  go_wp2_with fail
  rw [HW2.out]
  clear c0 c1 c2 c3 f0 f1 f2 f3 ltx g0 g1 g2 g3 d0 d1 d2 d3 lty
  with_reducible refine (HWT.out _ _ _ HAT2.out).mono ?_
  rintro e w3 ⟨rfl, hb3⟩
  have hx3 := HX2.out.below hb3
  have hy3 := HY2.out.below hb3
  have c0 := hx3.c0
  have c1 := hx3.c1
  have c2 := hx3.c2
  have c3 := hx3.c3
  have f0 := hx3.free 0
  have f1 := hx3.free 1
  have f2 := hx3.free 2
  have f3 := hx3.free 3
  have ltx := hx3.lt
  have g0 := hy3.free 0
  have g1 := hy3.free 1
  have g2 := hy3.free 2
  have g3 := hy3.free 3
  have d0 := hy3.c0
  have d1 := hy3.c1
  have d2 := hy3.c2
  have d3 := hy3.c3
  have lty := hy3.lt
  have hat3 := HAT2.out.below hb3
  have hB3 : Below w.heap.size w w3 := HB2.out.trans (hb3.mono HB2.out.size)
  have HX3 := Lib.hid hx3
  have HY3 := Lib.hid hy3
  have HAT3 := Lib.hid hat3
  have HB3 := Lib.hid hB3
  clear hx3 hy3 hat3 hB3 hb3
  rcases HCASE.out with ⟨hno, rfl, heq⟩ | ⟨rfl, rfl, rfl, hst, rfl, hyes, heq⟩
  · obtain ⟨rfl, rfl, rfl⟩ : st = st' ∧ cu = cu' ∧ fa = fa' := by
      have := heq
      simp only [Sg.mk.injEq, true_and] at this
      exact ⟨this.1.symm, this.2.1.symm, this.2.2.symm⟩
    obtain ⟨w4, hw4, hy4, hx4, ho4⟩ := set_back HX3.out HY3.out (.slice A1 l.length cA) (.int .i64 st) (.int .i64 cu) (.int .i64 fa)
    have HW4 := Lib.hid hw4
    have HY4 := Lib.hid hy4
    have HO4 := Lib.hid ho4
    clear hw4 hx4 hy4 ho4 heq HCASE HFW HFL HBK HWR
    rcases hno with rfl | ⟨rfl, hne⟩ | ⟨rfl, hne, hty⟩ | ⟨rfl, hne, hty, rfl, htr⟩
    · go_wp2
      rw [HW4.out]
      refine bodyPost_ret (res2 (p := 10) (u := 11) rfl _ rfl HY4.out) rfl ?_
      exact ⟨A1, cA, rfl, HAT3.out.only HO4.out fun hn ad e => by have := HF1.out hn ad e; omega, fun hn ad e => by have := HF1.out hn ad e; omega, only_below HB3.out HO4.out (fun q hq => by omega) HB3.out.size⟩
    · go_wp2
      rw [HW4.out]
      refine bodyPost_ret (res2 (p := 10) (u := 11) rfl _ rfl HY4.out) rfl ?_
      exact ⟨A1, cA, rfl, HAT3.out.only HO4.out fun hn ad e => by have := HF1.out hn ad e; omega, fun hn ad e => by have := HF1.out hn ad e; omega, only_below HB3.out HO4.out (fun q hq => by omega) HB3.out.size⟩
    · rcases hty with ⟨rfl, rfl⟩ | ⟨rfl, rfl⟩
      all_goals go_wp2
      all_goals rw [HW4.out]
      all_goals refine bodyPost_ret (res2 (p := 10) (u := 11) rfl _ rfl HY4.out) rfl ?_
      all_goals exact ⟨A1, cA, rfl, HAT3.out.only HO4.out fun hn ad e => by have := HF1.out hn ad e; omega, fun hn ad e => by have := HF1.out hn ad e; omega, only_below HB3.out HO4.out (fun q hq => by omega) HB3.out.size⟩
    · subst hty
      cases taken
      all_goals go_wp2
      all_goals rw [HW4.out]
      all_goals refine bodyPost_ret (res2 (p := 10) (u := 11) rfl _ rfl HY4.out) rfl ?_
      all_goals exact ⟨A1, cA, rfl, HAT3.out.only HO4.out fun hn ad e => by have := HF1.out hn ad e; omega, fun hn ad e => by have := HF1.out hn ad e; omega, only_below HB3.out HO4.out (fun q hq => by omega) HB3.out.size⟩
  · have h1 := HCASE
    clear h1
    have HFW' := Lib.hid (HFW.out rfl)
    have HFL' := Lib.hid (HFL.out rfl)
    have hwr := HWR.out rfl
    clear HFW HFL HWR HCASE
    cases taken
    · cases ok
      · have htr : (tr != fa) = false := by rcases hyes with h | ⟨_, h⟩; cases h; exact h
        clear hyes
        have hn : back ⟨l, st, q, fa⟩ (q - 1) = ⟨l, st', cu', fa'⟩ := by rw [heq]; rfl
        rw [hn] at HBK
        go_wp2_with fail
        with_reducible refine (HBK.out _ _ _).mono ?_
        rintro e w4 ⟨rfl, hb4⟩
        have hx4 := HX3.out.below hb4
        have hy4 := HY3.out.below hb4
        clear c0 c1 c2 c3 f0 f1 f2 f3 ltx g0 g1 g2 g3 d0 d1 d2 d3 lty
        have c0 := hx4.c0
        have c1 := hx4.c1
        have c2 := hx4.c2
        have c3 := hx4.c3
        have f0 := hx4.free 0
        have f1 := hx4.free 1
        have f2 := hx4.free 2
        have f3 := hx4.free 3
        have ltx := hx4.lt
        have g0 := hy4.free 0
        have g1 := hy4.free 1
        have g2 := hy4.free 2
        have g3 := hy4.free 3
        have d0 := hy4.c0
        have d1 := hy4.c1
        have d2 := hy4.c2
        have d3 := hy4.c3
        have lty := hy4.lt
        have hB4 : Below w.heap.size w w4 := HB3.out.trans (hb4.mono HB3.out.size)
        have hat4 := HAT3.out.below hb4
        obtain ⟨w5, hw5, hx5, hy5, ho5⟩ := set_apart hx4 hy4 (.slice A1 l.length cA) (.int .i64 st') (.int .i64 cu') (.int .i64 fa')
        obtain ⟨w6, hw6, hy6, hx6, ho6⟩ := set_back hx5 hy5 (.slice A1 l.length cA) (.int .i64 st') (.int .i64 cu') (.int .i64 fa')
        have HY6 := Lib.hid hy6
        have HW6 : Hid ((((((((w4.setCell ⟨w.heap.size, 0, none⟩ (.slice A1 l.length cA)).setCell ⟨w.heap.size, 1, none⟩ (.int .i64 st')).setCell ⟨w.heap.size, 2, none⟩ (.int .i64 cu')).setCell ⟨w.heap.size, 3, none⟩ (.int .i64 fa')).setCell ⟨w.heap.size + 1, 0, none⟩ (.slice A1 l.length cA)).setCell ⟨w.heap.size + 1, 1, none⟩ (.int .i64 st')).setCell ⟨w.heap.size + 1, 2, none⟩ (.int .i64 cu')).setCell ⟨w.heap.size + 1, 3, none⟩ (.int .i64 fa') = w6) := by
          rw [← hw5] at hw6
          exact hw6
        have HAT6 : Hid (At w6 A1 l) := (hat4.only ho5 fun hn ad e => by have := HF1.out hn ad e; omega).only ho6 fun hn ad e => by have := HF1.out hn ad e; omega
        have HB6 : Hid (Below w.heap.size w w6) := only_below (only_below hB4 ho5 (fun q hq => by omega) hB4.size) ho6 (fun q hq => by omega) (Nat.le_trans hB4.size ho5.size)
        clear hx4 hy4 hb4 hB4 hat4 hy5 hw5 hx5 ho5 hy6 hw6 hx6 ho6
        go_wp2
        rw [HW6.out]
        refine bodyPost_ret (res2 (p := 10) (u := 11) rfl _ rfl HY6.out) rfl ?_
        exact ⟨A1, cA, rfl, HAT6.out, fun hn ad e => by have := HF1.out hn ad e; omega, HB6.out⟩
      · clear hyes
        have hn : fwd ⟨l, st, q, fa⟩ = ⟨l, st', cu', fa'⟩ := by rw [heq]; rfl
        rw [hn] at HFW'
        go_wp2_with fail
        with_reducible refine (HFW'.out _ _ _).mono ?_
        rintro e w4 ⟨rfl, hb4⟩
        have hx4 := HX3.out.below hb4
        have hy4 := HY3.out.below hb4
        clear c0 c1 c2 c3 f0 f1 f2 f3 ltx g0 g1 g2 g3 d0 d1 d2 d3 lty
        have c0 := hx4.c0
        have c1 := hx4.c1
        have c2 := hx4.c2
        have c3 := hx4.c3
        have f0 := hx4.free 0
        have f1 := hx4.free 1
        have f2 := hx4.free 2
        have f3 := hx4.free 3
        have ltx := hx4.lt
        have g0 := hy4.free 0
        have g1 := hy4.free 1
        have g2 := hy4.free 2
        have g3 := hy4.free 3
        have d0 := hy4.c0
        have d1 := hy4.c1
        have d2 := hy4.c2
        have d3 := hy4.c3
        have lty := hy4.lt
        have hB4 : Below w.heap.size w w4 := HB3.out.trans (hb4.mono HB3.out.size)
        have hat4 := HAT3.out.below hb4
        obtain ⟨w5, hw5, hx5, hy5, ho5⟩ := set_apart hx4 hy4 (.slice A1 l.length cA) (.int .i64 st') (.int .i64 cu') (.int .i64 fa')
        obtain ⟨w6, hw6, hy6, hx6, ho6⟩ := set_back hx5 hy5 (.slice A1 l.length cA) (.int .i64 st') (.int .i64 cu') (.int .i64 fa')
        have HY6 := Lib.hid hy6
        have HW6 : Hid ((((((((w4.setCell ⟨w.heap.size, 0, none⟩ (.slice A1 l.length cA)).setCell ⟨w.heap.size, 1, none⟩ (.int .i64 st')).setCell ⟨w.heap.size, 2, none⟩ (.int .i64 cu')).setCell ⟨w.heap.size, 3, none⟩ (.int .i64 fa')).setCell ⟨w.heap.size + 1, 0, none⟩ (.slice A1 l.length cA)).setCell ⟨w.heap.size + 1, 1, none⟩ (.int .i64 st')).setCell ⟨w.heap.size + 1, 2, none⟩ (.int .i64 cu')).setCell ⟨w.heap.size + 1, 3, none⟩ (.int .i64 fa') = w6) := by
          rw [← hw5] at hw6
          exact hw6
        have HAT6 : Hid (At w6 A1 l) := (hat4.only ho5 fun hn ad e => by have := HF1.out hn ad e; omega).only ho6 fun hn ad e => by have := HF1.out hn ad e; omega
        have HB6 : Hid (Below w.heap.size w w6) := only_below (only_below hB4 ho5 (fun q hq => by omega) hB4.size) ho6 (fun q hq => by omega) (Nat.le_trans hB4.size ho5.size)
        clear hx4 hy4 hb4 hB4 hat4 hy5 hw5 hx5 ho5 hy6 hw6 hx6 ho6
        go_wp2
        rw [HW6.out]
        refine bodyPost_ret (res2 (p := 10) (u := 11) rfl _ rfl HY6.out) rfl ?_
        exact ⟨A1, cA, rfl, HAT6.out, fun hn ad e => by have := HF1.out hn ad e; omega, HB6.out⟩
    · cases ok
      · have htr : (tr != fa) = false := by rcases hyes with h | ⟨_, h⟩; cases h; exact h
        clear hyes
        have hn : fail ⟨l, st, q, fa⟩ = ⟨l, st', cu', fa'⟩ := by rw [heq]; rfl
        rw [hn] at HFL'
        go_wp2_with fail
        with_reducible refine (HFL'.out (by first | rfl | trivial) _ _ _ HAT3.out).mono ?_
        rintro e w4 ⟨rfl, hb4⟩
        have hx4 := HX3.out.below hb4
        have hy4 := HY3.out.below hb4
        clear c0 c1 c2 c3 f0 f1 f2 f3 ltx g0 g1 g2 g3 d0 d1 d2 d3 lty
        have c0 := hx4.c0
        have c1 := hx4.c1
        have c2 := hx4.c2
        have c3 := hx4.c3
        have f0 := hx4.free 0
        have f1 := hx4.free 1
        have f2 := hx4.free 2
        have f3 := hx4.free 3
        have ltx := hx4.lt
        have g0 := hy4.free 0
        have g1 := hy4.free 1
        have g2 := hy4.free 2
        have g3 := hy4.free 3
        have d0 := hy4.c0
        have d1 := hy4.c1
        have d2 := hy4.c2
        have d3 := hy4.c3
        have lty := hy4.lt
        have hB4 : Below w.heap.size w w4 := HB3.out.trans (hb4.mono HB3.out.size)
        have hat4 := HAT3.out.below hb4
        obtain ⟨w5, hw5, hx5, hy5, ho5⟩ := set_apart hx4 hy4 (.slice A1 l.length cA) (.int .i64 st') (.int .i64 cu') (.int .i64 fa')
        obtain ⟨w6, hw6, hy6, hx6, ho6⟩ := set_back hx5 hy5 (.slice A1 l.length cA) (.int .i64 st') (.int .i64 cu') (.int .i64 fa')
        have HY6 := Lib.hid hy6
        have HW6 : Hid ((((((((w4.setCell ⟨w.heap.size, 0, none⟩ (.slice A1 l.length cA)).setCell ⟨w.heap.size, 1, none⟩ (.int .i64 st')).setCell ⟨w.heap.size, 2, none⟩ (.int .i64 cu')).setCell ⟨w.heap.size, 3, none⟩ (.int .i64 fa')).setCell ⟨w.heap.size + 1, 0, none⟩ (.slice A1 l.length cA)).setCell ⟨w.heap.size + 1, 1, none⟩ (.int .i64 st')).setCell ⟨w.heap.size + 1, 2, none⟩ (.int .i64 cu')).setCell ⟨w.heap.size + 1, 3, none⟩ (.int .i64 fa') = w6) := by
          rw [← hw5] at hw6
          exact hw6
        have HAT6 : Hid (At w6 A1 l) := (hat4.only ho5 fun hn ad e => by have := HF1.out hn ad e; omega).only ho6 fun hn ad e => by have := HF1.out hn ad e; omega
        have HB6 : Hid (Below w.heap.size w w6) := only_below (only_below hB4 ho5 (fun q hq => by omega) hB4.size) ho6 (fun q hq => by omega) (Nat.le_trans hB4.size ho5.size)
        clear hx4 hy4 hb4 hB4 hat4 hy5 hw5 hx5 ho5 hy6 hw6 hx6 ho6
        go_wp2
        rw [HW6.out]
        refine bodyPost_ret (res2 (p := 10) (u := 11) rfl _ rfl HY6.out) rfl ?_
        exact ⟨A1, cA, rfl, HAT6.out, fun hn ad e => by have := HF1.out hn ad e; omega, HB6.out⟩
      · clear hyes
        have hn : back ⟨l, st, q, fa⟩ (q - 1) = ⟨l, st', cu', fa'⟩ := by rw [heq]; rfl
        rw [hn] at HBK
        go_wp2_with fail
        with_reducible refine (HBK.out _ _ _).mono ?_
        rintro e w4 ⟨rfl, hb4⟩
        have hx4 := HX3.out.below hb4
        have hy4 := HY3.out.below hb4
        clear c0 c1 c2 c3 f0 f1 f2 f3 ltx g0 g1 g2 g3 d0 d1 d2 d3 lty
        have c0 := hx4.c0
        have c1 := hx4.c1
        have c2 := hx4.c2
        have c3 := hx4.c3
        have f0 := hx4.free 0
        have f1 := hx4.free 1
        have f2 := hx4.free 2
        have f3 := hx4.free 3
        have ltx := hx4.lt
        have g0 := hy4.free 0
        have g1 := hy4.free 1
        have g2 := hy4.free 2
        have g3 := hy4.free 3
        have d0 := hy4.c0
        have d1 := hy4.c1
        have d2 := hy4.c2
        have d3 := hy4.c3
        have lty := hy4.lt
        have hB4 : Below w.heap.size w w4 := HB3.out.trans (hb4.mono HB3.out.size)
        have hat4 := HAT3.out.below hb4
        obtain ⟨w5, hw5, hx5, hy5, ho5⟩ := set_apart hx4 hy4 (.slice A1 l.length cA) (.int .i64 st') (.int .i64 cu') (.int .i64 fa')
        obtain ⟨w6, hw6, hy6, hx6, ho6⟩ := set_back hx5 hy5 (.slice A1 l.length cA) (.int .i64 st') (.int .i64 cu') (.int .i64 fa')
        have HY6 := Lib.hid hy6
        have HW6 : Hid ((((((((w4.setCell ⟨w.heap.size, 0, none⟩ (.slice A1 l.length cA)).setCell ⟨w.heap.size, 1, none⟩ (.int .i64 st')).setCell ⟨w.heap.size, 2, none⟩ (.int .i64 cu')).setCell ⟨w.heap.size, 3, none⟩ (.int .i64 fa')).setCell ⟨w.heap.size + 1, 0, none⟩ (.slice A1 l.length cA)).setCell ⟨w.heap.size + 1, 1, none⟩ (.int .i64 st')).setCell ⟨w.heap.size + 1, 2, none⟩ (.int .i64 cu')).setCell ⟨w.heap.size + 1, 3, none⟩ (.int .i64 fa') = w6) := by
          rw [← hw5] at hw6
          exact hw6
        have HAT6 : Hid (At w6 A1 l) := (hat4.only ho5 fun hn ad e => by have := HF1.out hn ad e; omega).only ho6 fun hn ad e => by have := HF1.out hn ad e; omega
        have HB6 : Hid (Below w.heap.size w w6) := only_below (only_below hB4 ho5 (fun q hq => by omega) hB4.size) ho6 (fun q hq => by omega) (Nat.le_trans hB4.size ho5.size)
        clear hx4 hy4 hb4 hB4 hat4 hy5 hw5 hx5 ho5 hy6 hw6 hx6 ho6
        go_wp2
        rw [HW6.out]
        refine bodyPost_ret (res2 (p := 10) (u := 11) rfl _ rfl HY6.out) rfl ?_
        exact ⟨A1, cA, rfl, HAT6.out, fun hn ad e => by have := HF1.out hn ad e; omega, HB6.out⟩
end Go.Proofs.YthaepkpmpnofgaaGreat.SgaWalkC
