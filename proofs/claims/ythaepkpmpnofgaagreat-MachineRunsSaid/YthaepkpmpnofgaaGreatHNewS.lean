/- A new saga; a saga in a variable of the statement's; walked. No statement is proved here. -/
import Derived.Test.YthaepkpmpnofgaaGreatGG
set_option linter.unusedVariables false
set_option linter.unusedSimpArgs false
namespace Go.Proofs.YthaepkpmpnofgaaGreat.NewS
open Go.RowKit Go.Proofs.YthaepkpmpnofgaaGreat.Kit Go.Proofs.YthaepkpmpnofgaaGreat.Stq Go.Proofs.YthaepkpmpnofgaaGreat.Pln Go.Proofs.YthaepkpmpnofgaaGreat.Sag Go.Proofs.YthaepkpmpnofgaaGreat.SagAt Go.Proofs.YthaepkpmpnofgaaGreat.SgaWalkB Go.Proofs.YthaepkpmpnofgaaGreat.SgaWalkC
open Go.Proofs.YthaepkpmpnofgaaGreat.PlnWalkA (check_any)
open Go.Proofs.YthaepkpmpnofgaaGreat.State (Only cell_at free_at lt_at)

def freshS (l : List Sp) : Sg := ⟨l, 1, 0, 0⟩
theorem fresh_snd {l : List Sp} (h : chk l = 0) : Snd (freshS l) := ⟨h, .inl ⟨rfl, ⟨Int.le_refl _, by have := len_def h; show (0 : Int) < (l.length : Int); omega⟩, rfl⟩⟩
set_option maxRecDepth 100000 in
set_option maxHeartbeats 2000000 in
theorem new_no {w : World} {A : Option Addr} (cc : Nat) {l : List Sp} (h : At w A l) (hz : Hid (chk l = 44)) :
    Calls Tryz.prog 124 #[.slice A l.length cc] w fun e w' => e = .returned (.tuple #[.agg #[.slice none 0 0, .int .i64 0, .int .i64 0, .int .i64 0], .int .i64 44]) ∧ Below w.heap.size w w' := by
  have hbo := bo1 w (.cells #[.slice none 0 0, .int .i64 0, .int .i64 0, .int .i64 0] 49)
  have hx := Box4.new w (.slice none 0 0) (.int .i64 0) (.int .i64 0) (.int .i64 0)
  have h0 := h.below hbo
  obtain ⟨w0, hw0⟩ : ∃ w0, w.alloc (.cells #[.slice none 0 0, .int .i64 0, .int .i64 0, .int .i64 0] 49) = w0 := ⟨_, rfl⟩
  rw [hw0] at hbo hx h0
  have HW0 := Lib.hid hw0
  clear hw0 h
  go_enter Tryz.func124, Tryz.ntmps124
  go_wp2_with fail
  rw [HW0.out]
  go_wp2_with fail
  with_reducible refine (check_any h0.rs h0.few h0.nm hz).mono ?_
  rintro e w1 ⟨rfl, hb1⟩
  have hx1 := hx.below hb1
  have c0 := hx1.c0
  have c1 := hx1.c1
  have c2 := hx1.c2
  have c3 := hx1.c3
  have f0 := hx1.free 0
  have f1 := hx1.free 1
  have f2 := hx1.free 2
  have f3 := hx1.free 3
  have ltx := hx1.lt
  have hB := hbo.trans (hb1.mono hbo.size)
  have hs := hx1.set (.slice none 0 0) (.int .i64 0) (.int .i64 0) (.int .i64 0)
  have HS := Lib.hid hs
  clear hx hx1 hs hb1 h0
  go_wp2
  refine bodyPost_ret (res2 (p := 2) (u := 3) rfl _ rfl HS.out.1) rfl ?_
  exact ⟨rfl, only_below hB HS.out.2 (fun q hq => by omega) hB.size⟩
set_option maxRecDepth 100000 in
set_option maxHeartbeats 2000000 in
theorem new_yes {w : World} {A : Option Addr} (cc : Nat) {l : List Sp} (h : At w A l) (hz : Hid (chk l = 0)) :
    Calls Tryz.prog 124 #[.slice A l.length cc] w fun e w' => ∃ A' c', e = .returned (.tuple #[.agg #[.slice A' l.length c', .int .i64 1, .int .i64 0, .int .i64 0], .int .i64 0]) ∧ At w' A' l ∧ Fresh w.heap.size A' l.length ∧ Below w.heap.size w w' := by
  have hbo := bo1 w (.cells #[.slice none 0 0, .int .i64 0, .int .i64 0, .int .i64 0] 49)
  have hx := Box4.new w (.slice none 0 0) (.int .i64 0) (.int .i64 0) (.int .i64 0)
  have h0 := h.below hbo
  obtain ⟨w0, hw0⟩ : ∃ w0, w.alloc (.cells #[.slice none 0 0, .int .i64 0, .int .i64 0, .int .i64 0] 49) = w0 := ⟨_, rfl⟩
  rw [hw0] at hbo hx h0
  have HW0 := Lib.hid hw0
  clear hw0 h
  go_enter Tryz.func124, Tryz.ntmps124
  go_wp2_with fail
  rw [HW0.out]
  go_wp2_with fail
  with_reducible refine (check_any h0.rs h0.few h0.nm hz).mono ?_
  rintro e w1 ⟨rfl, hb1⟩
  have hB1 := hbo.trans (hb1.mono hbo.size)
  have h1 := h0.below hb1
  have hx1 := hx.below hb1
  clear hb1
  go_wp2_with fail
  with_reducible refine (clone_any A cc h1).mono ?_
  rintro e w2 ⟨A2, cA, rfl, hr2, hb2, hf2⟩
  have hx2 := hx1.below hb2
  have c0 := hx2.c0
  have c1 := hx2.c1
  have c2 := hx2.c2
  have c3 := hx2.c3
  have f0 := hx2.free 0
  have f1 := hx2.free 1
  have f2 := hx2.free 2
  have f3 := hx2.free 3
  have ltx := hx2.lt
  have ltx1 := hx1.lt
  have hB2 := hB1.trans (hb2.mono hB1.size)
  have HS := Lib.hid (hx2.set (.slice A2 l.length cA) (.int .i64 1) (.int .i64 0) (.int .i64 0))
  have HA : Hid (At w2 A2 l) := ⟨hr2, h1.room, h1.nm⟩
  have hlow : 0 < l.length → ∀ ad, A2 = some ad → w1.heap.size ≤ ad.block := hf2
  have HF := Lib.hid hlow
  have HB := Lib.hid hB2
  clear hx hx1 hx2 h0 h1 hr2 hb2 hf2 hB1 hB2 hlow
  go_wp2
  refine bodyPost_ret (res2 (p := 2) (u := 3) rfl _ rfl HS.out.1) rfl ?_
  refine ⟨A2, cA, rfl, HA.out.only HS.out.2 fun hn ad e => ?_, fun hn ad e => ?_, only_below HB.out HS.out.2 (fun q hq => by omega) HB.out.size⟩
  · have := HF.out hn ad e; omega
  · have := HF.out hn ad e; omega

/-! ### A saga in a variable -/
/-- A saga lies in the block p, which came behind a world. -/
structure SB (w0 W : World) (p : Nat) (A : Option Addr) (c : Nat) (s : Sg) : Prop where
  box : Box4 W p (.slice A s.l.length c) (.int .i64 s.st) (.int .i64 s.cu) (.int .i64 s.fa)
  at_ : At W A s.l
  ne : 0 < s.l.length → ∀ ad, A = some ad → ad.block ≠ p
  low : w0.heap.size ≤ p
  bel : Below w0.heap.size w0 W
section
variable {w0 W W' : World} {p c c' : Nat} {A A' : Option Addr} {s s' : Sg}
theorem SB.below (h : SB w0 W p A c s) (k : Below W.heap.size W W') : SB w0 W' p A c s := ⟨h.box.below k, h.at_.below k, h.ne, h.low, h.bel.trans (k.mono h.bel.size)⟩
theorem sb_new (h : Below w0.heap.size w0 W) (ha : At W A s.l) : SB w0 (W.alloc (.cells #[.slice A s.l.length c, .int .i64 s.st, .int .i64 s.cu, .int .i64 s.fa] 49)) W.heap.size A c s := by
  have hb := bo1 W (.cells #[.slice A s.l.length c, .int .i64 s.st, .int .i64 s.cu, .int .i64 s.fa] 49)
  refine ⟨Box4.new _ _ _ _ _, ha.below hb, fun hn ad e => ?_, h.size, h.trans (hb.mono h.size)⟩
  obtain ⟨ad', e', hlt, _⟩ := ha.rs.2 hn
  rw [e] at e'
  cases e'
  omega
/-- What a call handed back is stored. -/
theorem SB.put (h : SB w0 W p A c s) (k : Below W.heap.size W W') (ha : At W' A' s'.l) (hf : Fresh W.heap.size A' s'.l.length) :
    ∃ w2, (((W'.setCell ⟨p, 0, none⟩ (.slice A' s'.l.length c')).setCell ⟨p, 1, none⟩ (.int .i64 s'.st)).setCell ⟨p, 2, none⟩ (.int .i64 s'.cu)).setCell ⟨p, 3, none⟩ (.int .i64 s'.fa) = w2 ∧ SB w0 w2 p A' c' s' := by
  have hs := (h.box.below k).set (.slice A' s'.l.length c') (.int .i64 s'.st) (.int .i64 s'.cu) (.int .i64 s'.fa)
  have hlt := h.box.lt
  have hB := h.bel.trans (k.mono h.bel.size)
  refine ⟨_, rfl, hs.1, ha.only hs.2 fun hn ad e => ?_, fun hn ad e => ?_, h.low, only_below hB hs.2 (fun q hq => by have := h.low; omega) hB.size⟩
  · have := hf hn ad e; omega
  · have := hf hn ad e; omega
end
end Go.Proofs.YthaepkpmpnofgaaGreat.NewS
