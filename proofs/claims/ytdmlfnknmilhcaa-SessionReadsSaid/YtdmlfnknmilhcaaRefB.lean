/- What the document's Begin leaves, walked. No statement is proved here. -/
import Derived.Test.YtdmlfnknmilhcaaBoxs
import Derived.Test.YtdmlfnknmilhcaaRefA
import Derived.Deep.RegionLaw
set_option linter.unusedVariables false
set_option linter.unusedSimpArgs false
namespace Go.Proofs.Ytdmlfnknmilhcaa.RefB
open Go.RowKit Go.Proofs.Ytdmlfnknmilhcaa.Kit Go.Proofs.Ytdmlfnknmilhcaa.Blocks Go.Proofs.Ytdmlfnknmilhcaa.Ses Go.Proofs.Ytdmlfnknmilhcaa.Rws Go.Proofs.Ytdmlfnknmilhcaa.WalkA Go.Proofs.Ytdmlfnknmilhcaa.Boxs

section
variable {B : Nat} {w : World} {p : Nat} {v : Value} {m : Tb}
theorem rbegin_no (h : DT B w p v m) (id s : Nat) (hn : seek m.rows id = none) :
    Calls Try.prog 27 #[.pointer (some ⟨p, 0, none⟩), .int .u64 (id : Int), .int .u64 (s : Int)] w fun e w' => e = .returned (.tuple #[ryV (yE 40), .bool false]) ∧ DLeft B w p v m w' := by
  have hbo : Below w.heap.size w (w.alloc (.cells #[.int .i64 0, .int .u64 0, .int .u64 0] 33)) := (Below.refl _ _).alloc (Nat.le_refl _) _
  have hx := Box3.new w (.int .i64 0) (.int .u64 0) (.int .u64 0)
  obtain ⟨w0, hw0⟩ : ∃ w0, w.alloc (.cells #[.int .i64 0, .int .u64 0, .int .u64 0] 33) = w0 := ⟨_, rfl⟩
  rw [hw0] at hbo hx
  have HW0 := Lib.hid hw0
  have hf := RefA.rfind_no (h.below hbo) id hn
  have x0 := hx.c0
  have x1 := hx.c1
  have x2 := hx.c2
  have f0 := hx.free 0
  have f1 := hx.free 1
  have f2 := hx.free 2
  have ltx := hx.lt
  have hs := hx.set (.int .i64 40) (.int .u64 0) (.int .u64 0)
  have HS := Lib.hid hs
  have HB := Lib.hid hbo
  have HF := Lib.hid hf
  have HH := Lib.hid h
  clear hw0 hx hs hbo hf h hn
  go_enter Try.func27, Try.ntmps27
  go_wp2_with fail
  rw [HW0.out]
  go_wp2_with fail
  with_reducible refine HF.out.mono ?_
  rintro e w1 ⟨rfl, rfl⟩
  go_wp2
  refine bodyPost_ret (res2 (p := 6) (u := 7) rfl _ rfl HS.out.1) rfl ?_
  exact ⟨rfl, LeftT.of_below HH.out (below_only HB.out HS.out.2 (Nat.le_refl _) (fun q hq => by omega))⟩
set_option maxRecDepth 100000 in
set_option maxHeartbeats 4000000 in
theorem rbegin_yes (h : DT B w p v m) (id s : Nat) (hs : U s) {i : Nat} (hn : seek m.rows id = some i) {r : Rw} (hi : m.rows[i]? = some r) (hq : U r.seq) {y : Ry} {b : Bool} (hb : Hid (isNext r s = b)) (hy : Hid ((if isNext r s then y0 else if isLast r s then r.y else yE 41) = y)) :
    Calls Try.prog 27 #[.pointer (some ⟨p, 0, none⟩), .int .u64 (id : Int), .int .u64 (s : Int)] w fun e w' => e = .returned (.tuple #[ryV y, .bool b]) ∧ DLeft B w p v ⟨m.now, m.next, m.rows.set i (usedRow m r)⟩ w' := by
  have hbo : Below w.heap.size w (w.alloc (.cells #[.int .i64 0, .int .u64 0, .int .u64 0] 33)) := (Below.refl _ _).alloc (Nat.le_refl _) _
  have hx := Box3.new w (.int .i64 0) (.int .u64 0) (.int .u64 0)
  obtain ⟨w0, hw0⟩ : ∃ w0, w.alloc (.cells #[.int .i64 0, .int .u64 0, .int .u64 0] 33) = w0 := ⟨_, rfl⟩
  rw [hw0] at hbo hx
  have HW0 := Lib.hid hw0
  have h0 := h.below hbo
  obtain ⟨g, c, hv, hnc, hcm, hBg, hgl, hgp, hsix, hfr⟩ := h0.row hi
  have hf := RefA.rfind_yes h0 id hn
  have hgo : v.ownBlock = some g := by rw [hv]; rfl
  have hglw : g < w.heap.size := (h.own.lt g hgo).2
  have c0 := h0.c0
  have c2 := h0.c2
  have hp0 := h0.plt
  have k1 := hsix.c1
  have fk := hfr (i * 6 + 1)
  obtain ⟨hu0, ou0⟩ := Boxs.TAt.used h0 hi hgo
  have hu := hu0.below ((Below.refl _ _).drew)
  have ou := ou0.drew
  clear hu0 ou0
  obtain ⟨w1, hw1⟩ : ∃ w1, (w0.setCell ⟨g, i * 6 + 1, none⟩ (.int .u64 (m.now : Int))).drew = w1 := ⟨_, rfl⟩
  rw [hw1] at hu ou
  have HW1 := Lib.hid hw1
  have d2 := hu.c2
  have hp1 := hu.plt
  have hil : i < m.rows.length := (List.getElem?_eq_some_iff.1 hi).1
  obtain ⟨g', c', hv', _, _, _, hgl1, _, hsix1, hfr1⟩ := hu.row (i := i) (r := usedRow m r) (by show (m.rows.set i _)[i]? = _; rw [List.getElem?_set_self hil])
  have : g' = g := by rw [hv] at hv'; injection hv' with e; injection e with e; injection e with e; exact e.symm
  subst this
  have hx1 := hx.keep ou (fun e => by omega)
  have x0 := hx1.c0
  have x1 := hx1.c1
  have x2 := hx1.c2
  have f0 := hx1.free 0
  have f1 := hx1.free 1
  have f2 := hx1.free 2
  have ltx := hx1.lt
  have s2 := hsix1.c2
  have s3 := hsix1.c3
  have s4 := hsix1.c4
  have s5 := hsix1.c5
  simp only [usedRow] at s2 s3 s4 s5
  have hset := hx1.set (.int .i64 y.err) (.int .u64 (y.num : Int)) (.int .u64 (y.ext : Int))
  have hlt0 : w.heap.size < w0.heap.size := by rw [← hw0]; simp
  have HFIN : Hid (∀ w4, Only (fun q => q = w.heap.size) w1 w4 → DLeft B w p v ⟨m.now, m.next, m.rows.set i (usedRow m r)⟩ w4) := fun w4 o4 =>
    LeftT.boxed h hbo ⟨v, hu, ou.mono fun q _ e => .inr (by rw [hgo, e]), fun g hg => .inl hg⟩ (r := w.heap.size) (Nat.le_refl _) hlt0 o4
  have HS := Lib.hid hset
  have HF := Lib.hid hf
  obtain ⟨P0, hP0⟩ : ∃ P0, w.heap.size = P0 := ⟨_, rfl⟩
  obtain ⟨NW, hNW⟩ : ∃ NW, m.now = NW := ⟨_, rfl⟩
  rw [hNW] at c0 hw1 HW1
  obtain ⟨⟨ye, yn, yx⟩, hyy⟩ : ∃ q, r.y = q := ⟨_, rfl⟩
  rw [hyy] at s3 s4 s5 hy
  obtain ⟨rs, hrs⟩ : ∃ q, r.seq = q := ⟨_, rfl⟩
  rw [hrs] at s2 hq
  have HRS := Lib.hid hrs
  simp only at s3 s4 s5
  have hcase : (b = true ∧ y = y0) ∨ (b = false ∧ s ≠ 0 ∧ s = rs ∧ y = ⟨ye, yn, yx⟩) ∨ (b = false ∧ (s = 0 ∨ s ≠ 0 ∧ s ≠ rs) ∧ y = yE 41) := by
    have h1 := hb.out
    have h2 := hy.out
    unfold isLast at h2
    rw [hrs] at h2
    rw [h1] at h2
    cases b
    · by_cases e0 : s = 0
      · exact .inr (.inr ⟨rfl, .inl e0, by rw [← h2, e0]; rfl⟩)
      · by_cases e1 : s = rs
        · exact .inr (.inl ⟨rfl, e0, e1, by rw [← h2, decide_eq_true e0, decide_eq_true e1]; rfl⟩)
        · exact .inr (.inr ⟨rfl, .inr ⟨e0, e1⟩, by rw [← h2, decide_eq_true e0, decide_eq_false e1]; rfl⟩)
    · exact .inl ⟨rfl, h2.symm⟩
  rw [hv] at c2 d2
  obtain ⟨NR, hNR⟩ : ∃ x, m.rows.length = x := ⟨_, rfl⟩
  rw [hNR] at c2 d2 hil hnc
  have hiI : (i : Int) < (NR : Int) := by omega
  have HNXT := Lib.hid hb.out
  have HH := Lib.hid hcase
  have HNW := Lib.hid hNW
  clear h h0 hbo hx hx1 hw0 hw1 hset hf hu ou hsix hsix1 hfr hfr1 hb hy hi hn hcase hyy hrs hNW hv hv' hP0 hgo hNR
  rcases HH.out with ⟨rfl, rfl⟩ | ⟨rfl, e0, e1, rfl⟩ | ⟨rfl, e0, rfl⟩
  · have hnx := HNXT.out
    unfold isNext at hnx
    simp only [Bool.and_eq_true, decide_eq_true_eq] at hnx
    obtain ⟨m0, m1⟩ := hnx
    have m2 : s - 1 = rs := by rw [← HRS.out]; exact m1
    have e0I : ¬ (s : Int) = 0 := by omega
    have e0B : ((s : Int) != 0) = true := by simp; omega
    have e1I : ¬ (s : Int) = (rs : Int) := by omega
    have e1B : ((s : Int) == (rs : Int)) = false := by simp; omega
    have hw : IntKind.u64.wrap ((s : Int) - 1) = (rs : Int) := by rw [show (s : Int) - 1 = (rs : Int) by omega]; exact IntWalk.u64_in _ ⟨by omega, by omega⟩
    have z0B : ((s : Int) == 0) = false := by simp; omega
    clear HH HNXT
    go_enter Try.func27, Try.ntmps27
    go_wp2_with fail
    rw [HW0.out]
    go_wp2_with fail
    with_reducible refine HF.out.mono ?_
    rintro e w2 ⟨rfl, rfl⟩
    go_wp2_with fail
    go_region
    all_goals rw [HW1.out]
    all_goals go_wp2
    all_goals refine bodyPost_ret (res2 (p := 6) (u := 7) rfl _ rfl HS.out.1) rfl ?_
    all_goals exact ⟨rfl, HFIN.out _ HS.out.2⟩
  · clear HH HNXT
    subst e1
    have e0I : ¬ (s : Int) = 0 := by omega
    have e0B : ((s : Int) != 0) = true := by simp; omega
    go_enter Try.func27, Try.ntmps27
    go_wp2_with fail
    rw [HW0.out]
    go_wp2_with fail
    with_reducible refine HF.out.mono ?_
    rintro e w2 ⟨rfl, rfl⟩
    go_wp2_with fail
    go_region
    all_goals rw [HW1.out]
    all_goals go_wp2
    all_goals refine bodyPost_ret (res2 (p := 6) (u := 7) rfl _ rfl HS.out.1) rfl ?_
    all_goals exact ⟨rfl, HFIN.out _ HS.out.2⟩
  · have hnx := HNXT.out
    unfold isNext at hnx
    rw [HRS.out] at hnx
    rcases e0 with e0 | ⟨e0, e1⟩
    · have e0I : (s : Int) = 0 := by omega
      have e0B : ((s : Int) != 0) = false := by rw [e0I]; rfl
      clear HH HNXT
      go_enter Try.func27, Try.ntmps27
      go_wp2_with fail
      rw [HW0.out]
      go_wp2_with fail
      with_reducible refine HF.out.mono ?_
      rintro e w2 ⟨rfl, rfl⟩
      go_wp2_with fail
      go_region
      all_goals rw [HW1.out]
      all_goals go_wp2
      all_goals refine bodyPost_ret (res2 (p := 6) (u := 7) rfl _ rfl HS.out.1) rfl ?_
      all_goals exact ⟨rfl, HFIN.out _ HS.out.2⟩
    · have m2 : s - 1 ≠ rs := fun e => by rw [decide_eq_true e0, decide_eq_true e] at hnx; cases hnx
      have e0I : ¬ (s : Int) = 0 := by omega
      have e1I : ¬ (s : Int) = (rs : Int) := by omega
      have e0B : ((s : Int) != 0) = true := by simp; omega
      have e1B : ((s : Int) == (rs : Int)) = false := by simp; omega
      have z0B : ((s : Int) == 0) = false := by simp; omega
      have hw : IntKind.u64.wrap ((s : Int) - 1) = ((s - 1 : Nat) : Int) := by rw [show (s : Int) - 1 = ((s - 1 : Nat) : Int) by omega]; exact IntWalk.u64_in _ ⟨by omega, by omega⟩
      obtain ⟨kk, hkk⟩ : ∃ k, s - 1 = k := ⟨_, rfl⟩
      rw [hkk] at hw m2
      have m2I : ¬ (kk : Int) = (rs : Int) := by omega
      have m2B : ((kk : Int) != (rs : Int)) = true := by simp; omega
      clear HH HNXT
      go_enter Try.func27, Try.ntmps27
      go_wp2_with fail
      rw [HW0.out]
      go_wp2_with fail
      with_reducible refine HF.out.mono ?_
      rintro e w2 ⟨rfl, rfl⟩
      go_wp2_with fail
      go_region
      all_goals rw [HW1.out]
      all_goals go_wp2
      all_goals refine bodyPost_ret (res2 (p := 6) (u := 7) rfl _ rfl HS.out.1) rfl ?_
      all_goals exact ⟨rfl, HFIN.out _ HS.out.2⟩
end
end Go.Proofs.Ytdmlfnknmilhcaa.RefB
