/- What the program's calls make of a saga, walked: apart, forward, backFrom, failBack, Wants. No statement is proved here. -/
import Derived.Test.YtcpnocjfafbnaaaWays
set_option linter.unusedVariables false
set_option linter.unusedSimpArgs false
namespace Go.Proofs.Ytcpnocjfafbnaaa.WalkB
open Go.RowKit Go.Proofs.Ytcpnocjfafbnaaa.Kit Go.Proofs.Ytcpnocjfafbnaaa.Stq Go.Proofs.Ytcpnocjfafbnaaa.Pln Go.Proofs.Ytcpnocjfafbnaaa.Sag Go.Proofs.Ytcpnocjfafbnaaa.SagAt Go.Proofs.Ytcpnocjfafbnaaa.Ways
open Go.Proofs.Ytcpnocjfafbnaaa.State (Only cell_at free_at lt_at)

/-- A box and a place for what is handed back, both new. -/
theorem two_new (w : World) (a b c d a' b' c' d' : Value) : Box4 ((w.alloc (.cells #[a, b, c, d] 24)).alloc (.cells #[a', b', c', d'] 24)) w.heap.size a b c d ∧ Box4 ((w.alloc (.cells #[a, b, c, d] 24)).alloc (.cells #[a', b', c', d'] 24)) (w.heap.size + 1) a' b' c' d' ∧
    Below w.heap.size w ((w.alloc (.cells #[a, b, c, d] 24)).alloc (.cells #[a', b', c', d'] 24)) := by
  have h1 := Box4.new w a b c d
  have h2 := Box4.new (w.alloc (.cells #[a, b, c, d] 24)) a' b' c' d'
  rw [show (w.alloc (.cells #[a, b, c, d] 24)).heap.size = w.heap.size + 1 by simp] at h2
  exact ⟨h1.below ((Below.refl _ _).alloc (Nat.le_refl _) _), h2, ((Below.refl _ _).alloc (Nat.le_refl _) _).alloc (by simp) _⟩
/-- What was written into blocks of the call's own. -/
theorem only_below {B : Nat} {S : Nat → Prop} {w w1 w2 : World} (h : Below B w w1) (k : Only S w1 w2) (hS : ∀ q, S q → B ≤ q) (hB : B ≤ w1.heap.size) : Below B w w2 := h.trans (k.below hB hS)

theorem bo2 (w : World) (o o' : Obj) : Below w.heap.size w ((w.alloc o).alloc o') := ((Below.refl _ _).alloc (Nat.le_refl _) _).alloc (by simp) _
theorem bo1 (w : World) (o : Obj) : Below w.heap.size w (w.alloc o) := (Below.refl _ _).alloc (Nat.le_refl _) _

set_option maxRecDepth 100000 in
set_option maxHeartbeats 2000000 in
theorem forward_any (A : Option Addr) (c : Nat) (s : Sg) (w : World) (h0 : 0 ≤ s.cu) (h1 : s.cu < s.l.length) (h63 : s.l.length ≤ 9223372036854775807) :
    Calls Try.prog 30 #[sgV A c s] w fun e w' => e = .returned (sgV A c (fwd s)) ∧ Below w.heap.size w w' := by
  obtain ⟨l, st, cu, fa⟩ := s
  simp only at h0 h1 h63
  obtain ⟨k, rfl⟩ := Int.eq_ofNat_of_zero_le h0
  have hw : IntKind.i64.wrap ((k : Int) + 1) = (k : Int) + 1 := by rw [IntKind.wrap_i64]; omega
  unfold sgV fwd
  simp only
  by_cases he : (k : Int) + 1 = (l.length : Int)
  · have he' : ((k : Int) + 1 == (l.length : Int)) = true := by simp; omega
    rw [if_pos he]
    clear he
    go_enter Try.func30, Try.ntmps30
    go_wp2
    refine bodyPost_ret (res1 rfl _ rfl (two_new _ _ _ _ _ _ _ _ _).2.1) rfl ?_
    exact ⟨rfl, bo2 _ _ _⟩
  · have he' : ((k : Int) + 1 == (l.length : Int)) = false := by simp; omega
    rw [if_neg he]
    clear he
    go_enter Try.func30, Try.ntmps30
    go_wp2
    refine bodyPost_ret (res1 rfl _ rfl (two_new _ _ _ _ _ _ _ _ _).2.1) rfl ?_
    exact ⟨rfl, bo2 _ _ _⟩
set_option maxRecDepth 100000 in
set_option maxHeartbeats 2000000 in
theorem back_any (A : Option Addr) (c : Nat) (s : Sg) (k : Int) (w : World) :
    Calls Try.prog 31 #[sgV A c s, .int .i64 k] w fun e w' => e = .returned (sgV A c (back s k)) ∧ Below w.heap.size w w' := by
  obtain ⟨l, st, cu, fa⟩ := s
  unfold back
  by_cases he : k < 0
  · rw [if_pos he]
    unfold sgV
    simp only
    go_enter Try.func31, Try.ntmps31
    go_wp2
    refine bodyPost_ret (res1 rfl _ rfl (two_new _ _ _ _ _ _ _ _ _).2.1) rfl ?_
    exact ⟨rfl, bo2 _ _ _⟩
  · rw [if_neg he]
    unfold sgV
    simp only
    go_enter Try.func31, Try.ntmps31
    go_wp2
    refine bodyPost_ret (res1 rfl _ rfl (two_new _ _ _ _ _ _ _ _ _).2.1) rfl ?_
    exact ⟨rfl, bo2 _ _ _⟩
set_option maxRecDepth 100000 in
set_option maxHeartbeats 2000000 in
theorem rback_any (A : Option Addr) (c : Nat) (s : Sg) (k : Int) (w : World) :
    Calls Try.prog 33 #[sgV A c s, .int .i64 k] w fun e w' => e = .returned (sgV A c (back s k)) ∧ Below w.heap.size w w' := by
  obtain ⟨l, st, cu, fa⟩ := s
  unfold back
  by_cases he : k < 0
  · rw [if_pos he]
    unfold sgV
    simp only
    go_enter Try.func33, Try.ntmps33
    go_wp2
    refine bodyPost_ret (res1 rfl _ rfl (two_new _ _ _ _ _ _ _ _ _).2.1) rfl ?_
    exact ⟨rfl, bo2 _ _ _⟩
  · rw [if_neg he]
    unfold sgV
    simp only
    go_enter Try.func33, Try.ntmps33
    go_wp2
    refine bodyPost_ret (res1 rfl _ rfl (two_new _ _ _ _ _ _ _ _ _).2.1) rfl ?_
    exact ⟨rfl, bo2 _ _ _⟩
set_option maxRecDepth 100000 in
set_option maxHeartbeats 4000000 in
theorem fail_any {w : World} {A : Option Addr} (c : Nat) {s : Sg} (h : At w A s.l) (h0 : 0 ≤ s.cu) (h1 : s.cu < s.l.length) (f0 : 0 ≤ s.fa) (f1 : s.fa < bud s.l s.cu) (hbg : bud s.l s.cu ≤ 9) :
    Calls Try.prog 32 #[sgV A c s] w fun e w' => e = .returned (sgV A c (fail s)) ∧ Below w.heap.size w w' := by
  obtain ⟨l, st, cu, fa⟩ := s
  simp only at h h0 h1 f0 f1 hbg
  obtain ⟨k, rfl⟩ := Int.eq_ofNat_of_zero_le h0
  obtain ⟨bk, o, e, rfl, hbl, he, hthree⟩ := RS.at_ h.rs (show k < l.length by omega)
  have hbu := bud_at he
  have t2 := hthree.c2
  obtain ⟨pt, nm, bg⟩ := e
  simp only at t2 hbu
  rw [hbu] at f1 hbg
  have hw : IntKind.i64.wrap (fa + 1) = fa + 1 := by rw [IntKind.wrap_i64]; omega
  unfold sgV fail
  simp only
  rw [hbu]
  have hne : bk ≠ w.heap.size := by omega
  have hne1 : bk ≠ w.heap.size + 1 := by omega
  clear hthree he hbu h
  by_cases hq : fa + 1 = bg
  · have hq' : (fa + 1 == bg) = true := by simpa using hq
    rw [if_pos hq]
    clear hq
    go_enter Try.func32, Try.ntmps32
    go_wp2_with fail
    go_region
    all_goals go_wp2
    all_goals refine bodyPost_ret (res1 rfl _ rfl ((two_new _ _ _ _ _ _ _ _ _).2.1.below (below_drewN (Below.refl _ _) 1))) rfl ?_
    all_goals exact ⟨rfl, below_drewN (bo2 _ _ _) 1⟩
  · have hq' : (fa + 1 == bg) = false := by simpa using hq
    rw [if_neg hq]
    clear hq
    go_enter Try.func32, Try.ntmps32
    go_wp2_with fail
    go_region
    all_goals go_wp2
    all_goals refine bodyPost_ret (res1 rfl _ rfl ((two_new _ _ _ _ _ _ _ _ _).2.1.below (below_drewN (Below.refl _ _) 1))) rfl ?_
    all_goals exact ⟨rfl, below_drewN (bo2 _ _ _) 1⟩

/-- A saga apart: one whose steps lie in a block of their own. -/
def Apart (w : World) (s : Sg) (e : Ending) (w' : World) : Prop := ∃ A c, e = .returned (sgV A c s) ∧ At w' A s.l ∧ Fresh w.heap.size A s.l.length ∧ Below w.heap.size w w'
set_option maxRecDepth 100000 in
set_option maxHeartbeats 4000000 in
theorem apart_any {w : World} {A : Option Addr} (c : Nat) {s : Sg} (h : At w A s.l) : Calls Try.prog 29 #[sgV A c s] w (Apart w s) := by
  obtain ⟨l, st, cu, fa⟩ := s
  simp only at h
  obtain ⟨hx, hy, hbo⟩ := two_new w (.slice A l.length c) (.int .i64 st) (.int .i64 cu) (.int .i64 fa) (.slice none 0 0) (.int .i64 0) (.int .i64 0) (.int .i64 0)
  obtain ⟨w0, hw0⟩ : ∃ w0, (w.alloc (.cells #[.slice A l.length c, .int .i64 st, .int .i64 cu, .int .i64 fa] 24)).alloc (.cells #[.slice none 0 0, .int .i64 0, .int .i64 0, .int .i64 0] 24) = w0 := ⟨_, rfl⟩
  rw [hw0] at hx hy hbo
  have h0 := h.below hbo
  have HW0 := Lib.hid hw0
  have hcl := clone_any A c h0
  have HY2 := Lib.hid hy
  unfold Apart sgV
  simp only
  clear hw0
  go_enter Try.func29, Try.ntmps29
  go_wp2_with fail
  rw [HW0.out]
  go_wp2_with fail
  with_reducible refine hcl.mono ?_
  rintro e w1 ⟨A1, c1, rfl, hr1, hb1, hf1⟩
  have hx1 := hx.below hb1
  have hy1 := hy.below hb1
  have c0 := hx1.c0
  have c1' := hx1.c1
  have c2 := hx1.c2
  have c3 := hx1.c3
  have f0 := hx1.free 0
  have lt0 := hx1.lt
  have g0 := hy1.free 0
  have g1 := hy1.free 1
  have g2 := hy1.free 2
  have g3 := hy1.free 3
  have lt1 := hy1.lt
  have d0 := hy1.c0
  have d1 := hy1.c1
  have d2 := hy1.c2
  have d3 := hy1.c3
  have HX := Lib.hid hx1
  have HY := Lib.hid hy1
  have HB := Lib.hid (hbo.trans (hb1.mono hbo.size))
  have HF := Lib.hid hf1
  have HR := Lib.hid hr1
  have HH := Lib.hid h
  have HBO := Lib.hid hbo
  clear hx hy hbo hx1 hy1 hb1 hf1 hr1 h0 hcl h
  go_wp2
  have s1 := HX.out.set0 (.slice A1 l.length c1)
  have y1 := HY.out.keep s1.2 (by omega)
  have s2 := y1.set (.slice A1 l.length c1) (.int .i64 st) (.int .i64 cu) (.int .i64 fa)
  refine bodyPost_ret (res1 rfl _ rfl s2.1) rfl ?_
  have hsz := HBO.out.size
  have hlow : 0 < l.length → ∀ ad, A1 = some ad → w0.heap.size ≤ ad.block := HF.out
  have h1 : At w1 A1 l := ⟨HR.out, HH.out.room, HH.out.nm⟩
  have hw0 : w.heap.size + 1 < w0.heap.size := HY2.out.lt
  refine ⟨A1, c1, rfl, (h1.only s1.2 fun hn ad e => ?_).only s2.2 fun hn ad e => ?_, fun hn ad e => ?_, only_below (only_below HB.out s1.2 (fun q hq => by omega) HB.out.size) s2.2 (fun q hq => by omega) (Nat.le_trans HB.out.size s1.2.size)⟩
  · have := hlow hn ad e; omega
  · have := hlow hn ad e; omega
  · have := hlow hn ad e; omega
end Go.Proofs.Ytcpnocjfafbnaaa.WalkB
