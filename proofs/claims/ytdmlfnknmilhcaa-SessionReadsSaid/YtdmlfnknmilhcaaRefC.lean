/- What the document's End leaves, walked. No statement is proved here. -/
import Derived.Test.YtdmlfnknmilhcaaBoxs
import Derived.Test.YtdmlfnknmilhcaaRefA
import Derived.Deep.RegionLaw
set_option linter.unusedVariables false
set_option linter.unusedSimpArgs false
namespace Go.Proofs.Ytdmlfnknmilhcaa.RefC
open Go.RowKit Go.Proofs.Ytdmlfnknmilhcaa.Kit Go.Proofs.Ytdmlfnknmilhcaa.Blocks Go.Proofs.Ytdmlfnknmilhcaa.Ses Go.Proofs.Ytdmlfnknmilhcaa.Rws Go.Proofs.Ytdmlfnknmilhcaa.WalkA Go.Proofs.Ytdmlfnknmilhcaa.Boxs

section
variable {B : Nat} {w : World} {p : Nat} {v : Value} {m : Tb}
theorem rend_no (h : DT B w p v m) (id s : Nat) (hn : seek m.rows id = none) (y : Ry) :
    Calls Try.prog 28 #[.pointer (some ⟨p, 0, none⟩), .int .u64 (id : Int), .int .u64 (s : Int), ryV y] w fun e w' => e = .returned (.bool false) ∧ DLeft B w p v m w' := by
  obtain ⟨ye, yn, yx⟩ := y
  unfold ryV
  simp only
  have hbo : Below w.heap.size w (w.alloc (.cells #[.int .i64 ye, .int .u64 (yn : Int), .int .u64 (yx : Int)] 33)) := (Below.refl _ _).alloc (Nat.le_refl _) _
  have HF := Lib.hid (RefA.rfind_no (h.below hbo) id hn)
  have HH := Lib.hid h
  clear h hn
  go_enter Try.func28, Try.ntmps28
  go_wp2_with fail
  with_reducible refine HF.out.mono ?_
  rintro e w1 ⟨rfl, rfl⟩
  go_wp2
  go_ret
  exact ⟨rfl, LeftT.of_below HH.out hbo⟩
set_option maxRecDepth 100000 in
set_option maxHeartbeats 4000000 in
theorem rend_stale (h : DT B w p v m) (id s : Nat) (hs : U s) {i : Nat} (hn : seek m.rows id = some i) {r : Rw} (hi : m.rows[i]? = some r) (hb : isNext r s = false) (y : Ry) :
    Calls Try.prog 28 #[.pointer (some ⟨p, 0, none⟩), .int .u64 (id : Int), .int .u64 (s : Int), ryV y] w fun e w' => e = .returned (.bool false) ∧ DLeft B w p v m w' := by
  obtain ⟨ye, yn, yx⟩ := y
  unfold ryV
  simp only
  have hbo : Below w.heap.size w (w.alloc (.cells #[.int .i64 ye, .int .u64 (yn : Int), .int .u64 (yx : Int)] 33)) := (Below.refl _ _).alloc (Nat.le_refl _) _
  have h0 := h.below hbo
  obtain ⟨g, c, hv, hnc, hcm, hBg, hgl, hgp, hsix, hfr⟩ := h0.row hi
  have HF := Lib.hid (RefA.rfind_yes h0 id hn)
  have c2 := h0.c2
  have hp0 := h0.plt
  rw [hv] at c2
  obtain ⟨NR, hNR⟩ : ∃ x, m.rows.length = x := ⟨_, rfl⟩
  have hil : i < m.rows.length := (List.getElem?_eq_some_iff.1 hi).1
  rw [hNR] at c2 hil hnc
  have s2 := hsix.c2
  obtain ⟨rs, hrs⟩ : ∃ q, r.seq = q := ⟨_, rfl⟩
  rw [hrs] at s2
  unfold isNext at hb
  rw [hrs] at hb
  have hiI : (i : Int) < (NR : Int) := by omega
  have HH := Lib.hid h
  rcases Nat.eq_zero_or_pos s with e0 | e0
  · have e0I : (s : Int) = 0 := by omega
    clear h h0 hn hi hb hsix hfr hv hrs hNR
    go_enter Try.func28, Try.ntmps28
    go_wp2_with fail
    with_reducible refine HF.out.mono ?_
    rintro e w1 ⟨rfl, rfl⟩
    go_wp2
    go_ret
    exact ⟨rfl, LeftT.of_below HH.out hbo⟩
  · have m2 : s - 1 ≠ rs := fun e => by rw [decide_eq_true (show s ≠ 0 by omega), decide_eq_true e] at hb; cases hb
    have e0I : ¬ (s : Int) = 0 := by omega
    have z0B : ((s : Int) == 0) = false := by simp; omega
    have hw : IntKind.u64.wrap ((s : Int) - 1) = ((s - 1 : Nat) : Int) := by rw [show (s : Int) - 1 = ((s - 1 : Nat) : Int) by omega]; exact IntWalk.u64_in _ ⟨by omega, by omega⟩
    obtain ⟨kk, hkk⟩ : ∃ k, s - 1 = k := ⟨_, rfl⟩
    rw [hkk] at hw m2
    have m2I : ¬ (kk : Int) = (rs : Int) := by omega
    have m2B : ((kk : Int) != (rs : Int)) = true := by simp; omega
    clear h h0 hn hi hb hsix hfr hv hrs hNR
    go_enter Try.func28, Try.ntmps28
    go_wp2_with fail
    with_reducible refine HF.out.mono ?_
    rintro e w1 ⟨rfl, rfl⟩
    go_wp2
    go_ret
    exact ⟨rfl, LeftT.of_below HH.out hbo⟩
set_option maxRecDepth 100000 in
set_option maxHeartbeats 4000000 in
theorem rend_yes (h : DT B w p v m) (id s : Nat) (hs : U s) {i : Nat} (hn : seek m.rows id = some i) {r : Rw} (hi : m.rows[i]? = some r) (hb : isNext r s = true) (y : Ry) :
    Calls Try.prog 28 #[.pointer (some ⟨p, 0, none⟩), .int .u64 (id : Int), .int .u64 (s : Int), ryV y] w fun e w' => e = .returned (.bool true) ∧ DLeft B w p v ⟨m.now, m.next, m.rows.set i (endRow r s y)⟩ w' := by
  have hbo : Below w.heap.size w (w.alloc (.cells #[.int .i64 y.err, .int .u64 (y.num : Int), .int .u64 (y.ext : Int)] 33)) := (Below.refl _ _).alloc (Nat.le_refl _) _
  obtain ⟨w0, hw0⟩ : ∃ w0, w.alloc (.cells #[.int .i64 y.err, .int .u64 (y.num : Int), .int .u64 (y.ext : Int)] 33) = w0 := ⟨_, rfl⟩
  have hx := Box3.new w (.int .i64 y.err) (.int .u64 (y.num : Int)) (.int .u64 (y.ext : Int))
  rw [hw0] at hbo hx
  have hlt0 : w.heap.size < w0.heap.size := by rw [← hw0]; simp
  have h0 := h.below hbo
  obtain ⟨g, c, hv, hnc, hcm, hBg, hgl, hgp, hsix, hfr⟩ := h0.row hi
  have hgo : v.ownBlock = some g := by rw [hv]; rfl
  have hglw : g < w.heap.size := (h.own.lt g hgo).2
  have hf := RefA.rfind_yes h0 id hn
  have hil : i < m.rows.length := (List.getElem?_eq_some_iff.1 hi).1
  obtain ⟨h1, o1⟩ := Boxs.TAt.seqd h0 hi hgo s
  obtain ⟨h2, o2⟩ := Boxs.TAt.replied h1 (i := i) (r := endRow r s r.y) (by show (m.rows.set i _)[i]? = _; rw [List.getElem?_set_self hil]) hgo y
  simp only [List.set_set] at h2
  have HFIN : Hid (DLeft B w p v ⟨m.now, m.next, m.rows.set i (endRow r s y)⟩ ((((w0.setCell ⟨g, i * 6 + 2, none⟩ (.int .u64 (s : Int))).setCell ⟨g, i * 6 + 3, none⟩ (.int .i64 y.err)).setCell ⟨g, i * 6 + 4, none⟩ (.int .u64 (y.num : Int))).setCell ⟨g, i * 6 + 5, none⟩ (.int .u64 (y.ext : Int))).drew) :=
    LeftT.afterBelow hbo ⟨v, h2.below ((Below.refl _ _).drew), (o1.trans o2).drew.mono fun q _ e => .inr (by rw [hgo, e]), fun g hg => .inl hg⟩
  have HW0 := Lib.hid hw0
  have HF := Lib.hid hf
  have x0 := hx.c0
  have x1 := hx.c1
  have x2 := hx.c2
  have ltx := hx.lt
  have s2 := hsix.c2
  have s3 := hsix.c3
  have s4 := hsix.c4
  have s5 := hsix.c5
  have f2 := hfr (i * 6 + 2)
  have f3 := hfr (i * 6 + 3)
  have f4 := hfr (i * 6 + 4)
  have f5 := hfr (i * 6 + 5)
  have hgw : g ≠ w.heap.size := by omega
  have c2 := h0.c2
  have hp0 := h0.plt
  rw [hv] at c2
  obtain ⟨NR, hNR⟩ : ∃ x, m.rows.length = x := ⟨_, rfl⟩
  rw [hNR] at c2 hil hnc
  obtain ⟨rs, hrs⟩ : ∃ q, r.seq = q := ⟨_, rfl⟩
  rw [hrs] at s2
  unfold isNext at hb
  rw [hrs] at hb
  simp only [Bool.and_eq_true, decide_eq_true_eq] at hb
  obtain ⟨m0, m1⟩ := hb
  have hiI : (i : Int) < (NR : Int) := by omega
  have e0I : ¬ (s : Int) = 0 := by omega
  have z0B : ((s : Int) == 0) = false := by simp; omega
  have hw : IntKind.u64.wrap ((s : Int) - 1) = (rs : Int) := by rw [show (s : Int) - 1 = (rs : Int) by omega]; exact IntWalk.u64_in _ ⟨by omega, by omega⟩
  have hgp' : p ≠ g := fun e => hgp e.symm
  have hgw' : w.heap.size ≠ g := by omega
  obtain ⟨ye, yn, yx⟩ := y
  unfold ryV
  simp only at x0 x1 x2 HFIN HW0 ⊢
  clear hw0 hbo hx hv hrs hNR h h0 hsix hfr hf h1 o1 h2 o2 hn hi
  go_enter Try.func28, Try.ntmps28
  go_wp2_with fail
  rw [HW0.out]
  go_wp2_with fail
  with_reducible refine HF.out.mono ?_
  rintro e w1 ⟨rfl, rfl⟩
  go_wp2_with fail
  go_region
  all_goals go_wp2
  all_goals go_ret
  all_goals exact ⟨rfl, HFIN.out⟩
end
end Go.Proofs.Ytdmlfnknmilhcaa.RefC
