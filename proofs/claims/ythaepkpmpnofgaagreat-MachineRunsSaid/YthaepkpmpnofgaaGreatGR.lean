/- The document's calls on a table, by what the table becomes. No statement is proved here. -/
import Derived.Test.YthaepkpmpnofgaaGreatGSs
import Derived.Test.YthaepkpmpnofgaaGreatHRefA
import Derived.Deep.RegionLaw
import Derived.Test.YthaepkpmpnofgaaGreatGSu
set_option linter.unusedVariables false
set_option linter.unusedSimpArgs false
namespace Go.Proofs.YthaepkpmpnofgaaGreat.RefB
open Go.RowKit Go.Proofs.YthaepkpmpnofgaaGreat.Kit Go.Proofs.YthaepkpmpnofgaaGreat.Blocks Go.Proofs.YthaepkpmpnofgaaGreat.Ses Go.Proofs.YthaepkpmpnofgaaGreat.Rws Go.Proofs.YthaepkpmpnofgaaGreat.SsnWalkA Go.Proofs.YthaepkpmpnofgaaGreat.Boxs

section
variable {T : Shape} {B : Nat} {w : World} {p : Nat} {v : Value} {m : Tb}
set_option maxRecDepth 100000 in
theorem rbegin_no (h : DT T B w p v m) (id s : Nat) (hn : seek m.rows id = none) :
    Calls Tryz.prog 34 #[.pointer (some ⟨p, 0, none⟩), .int .u64 (id : Int), .int .u64 (s : Int)] w fun e w' => e = .returned (.tuple #[ryV (yE 40), .bool false]) ∧ DLeft T B w p v m w' := by
  have hbo : Below w.heap.size w (w.alloc (.cells #[.int .i64 0, .int .u64 0, .int .u64 0] 32)) := (Below.refl _ _).alloc (Nat.le_refl _) _
  have hx := Box3.new w (.int .i64 0) (.int .u64 0) (.int .u64 0)
  obtain ⟨w0, hw0⟩ : ∃ w0, w.alloc (.cells #[.int .i64 0, .int .u64 0, .int .u64 0] 32) = w0 := ⟨_, rfl⟩
  rw [hw0] at hbo hx
  have HW0 := Lib.hid hw0
  have hf := RefA.rfind_no (h.below hbo) id hn
  have x0 := hx.c0
  have x1 := hx.c1
  have x2 := hx.c2
  have f0 := hx.free 0
  have f1 := hx.free 1
  have f2 := hx.free 2
  have ltx := hx.lt
  have hs := hx.set (.int .i64 40) (.int .u64 0) (.int .u64 0)
  have HS := Lib.hid hs
  have HB := Lib.hid hbo
  have HF := Lib.hid hf
  have HH := Lib.hid h
  clear hw0 hx hs hbo hf h hn
  go_enter Tryz.func34, Tryz.ntmps34
  go_wp2_with fail
  rw [HW0.out]
  go_wp2_with fail
  with_reducible refine HF.out.mono ?_
  rintro e w1 ⟨rfl, rfl⟩
  go_wp2
  refine bodyPost_ret (res2 (p := 6) (u := 7) rfl _ rfl HS.out.1) rfl ?_
  exact ⟨rfl, LeftT.of_below HH.out (below_only HB.out HS.out.2 (Nat.le_refl _) (fun q hq => by omega))⟩
set_option maxRecDepth 100000 in
set_option maxHeartbeats 4000000 in
theorem rbegin_yes (h : DT T B w p v m) (id s : Nat) (hs : U s) {i : Nat} (hn : seek m.rows id = some i) {r : Rw} (hi : m.rows[i]? = some r) (hq : U r.seq) {y : Ry} {b : Bool} (hb : Hid (isNext r s = b)) (hy : Hid ((if isNext r s then y0 else if isLast r s then r.y else yE 41) = y)) :
    Calls Tryz.prog 34 #[.pointer (some ⟨p, 0, none⟩), .int .u64 (id : Int), .int .u64 (s : Int)] w fun e w' => e = .returned (.tuple #[ryV y, .bool b]) ∧ DLeft T B w p v ⟨m.now, m.next, m.rows.set i (usedRow m r)⟩ w' := by
  have hbo : Below w.heap.size w (w.alloc (.cells #[.int .i64 0, .int .u64 0, .int .u64 0] 32)) := (Below.refl _ _).alloc (Nat.le_refl _) _
  have hx := Box3.new w (.int .i64 0) (.int .u64 0) (.int .u64 0)
  obtain ⟨w0, hw0⟩ : ∃ w0, w.alloc (.cells #[.int .i64 0, .int .u64 0, .int .u64 0] 32) = w0 := ⟨_, rfl⟩
  rw [hw0] at hbo hx
  have HW0 := Lib.hid hw0
  have h0 := h.below hbo
  obtain ⟨g, c, hv, hnc, hcm, hBg, hgl, hgp, hsix, hfr⟩ := h0.row hi
  have hf := RefA.rfind_yes h0 id hn
  have hgo : v.ownBlock = some g := by rw [hv]; rfl
  have hglw : g < w.heap.size := (h.own.lt g hgo).2
  have c0 := h0.c0
  have c2 := h0.c2
  have hp0 := h0.plt
  have k1 := hsix.c1
  have fk := hfr (i * 6 + 1)
  obtain ⟨hu0, ou0⟩ := Boxs.TAt.used h0 hi hgo
  have hu := hu0.below ((Below.refl _ _).drew)
  have ou := ou0.drew
  clear hu0 ou0
  obtain ⟨w1, hw1⟩ : ∃ w1, (w0.setCell ⟨g, i * 6 + 1, none⟩ (.int .u64 (m.now : Int))).drew = w1 := ⟨_, rfl⟩
  rw [hw1] at hu ou
  have HW1 := Lib.hid hw1
  have d2 := hu.c2
  have hp1 := hu.plt
  have hil : i < m.rows.length := (List.getElem?_eq_some_iff.1 hi).1
  obtain ⟨g', c', hv', _, _, _, hgl1, _, hsix1, hfr1⟩ := hu.row (i := i) (r := usedRow m r) (by show (m.rows.set i _)[i]? = _; rw [List.getElem?_set_self hil])
  have : g' = g := by rw [hv] at hv'; injection hv' with e; injection e with e; injection e with e; exact e.symm
  subst this
  have hx1 := hx.keep ou (fun e => by omega)
  have x0 := hx1.c0
  have x1 := hx1.c1
  have x2 := hx1.c2
  have f0 := hx1.free 0
  have f1 := hx1.free 1
  have f2 := hx1.free 2
  have ltx := hx1.lt
  have s2 := hsix1.c2
  have s3 := hsix1.c3
  have s4 := hsix1.c4
  have s5 := hsix1.c5
  simp only [usedRow] at s2 s3 s4 s5
  have hset := hx1.set (.int .i64 y.err) (.int .u64 (y.num : Int)) (.int .u64 (y.ext : Int))
  have hlt0 : w.heap.size < w0.heap.size := by rw [← hw0]; simp
  have HFIN : Hid (∀ w4, Only (fun q => q = w.heap.size) w1 w4 → DLeft T B w p v ⟨m.now, m.next, m.rows.set i (usedRow m r)⟩ w4) := fun w4 o4 =>
    LeftT.boxed h hbo ⟨v, hu, ou.mono fun q _ e => .inr (by rw [hgo, e]), fun g hg => .inl hg⟩ (r := w.heap.size) (Nat.le_refl _) hlt0 o4
  have HS := Lib.hid hset
  have HF := Lib.hid hf
  obtain ⟨P0, hP0⟩ : ∃ P0, w.heap.size = P0 := ⟨_, rfl⟩
  obtain ⟨NW, hNW⟩ : ∃ NW, m.now = NW := ⟨_, rfl⟩
  rw [hNW] at c0 hw1 HW1
  obtain ⟨⟨ye, yn, yx⟩, hyy⟩ : ∃ q, r.y = q := ⟨_, rfl⟩
  rw [hyy] at s3 s4 s5 hy
  obtain ⟨rs, hrs⟩ : ∃ q, r.seq = q := ⟨_, rfl⟩
  rw [hrs] at s2 hq
  have HRS := Lib.hid hrs
  simp only at s3 s4 s5
  have hcase : (b = true ∧ y = y0) ∨ (b = false ∧ s ≠ 0 ∧ s = rs ∧ y = ⟨ye, yn, yx⟩) ∨ (b = false ∧ (s = 0 ∨ s ≠ 0 ∧ s ≠ rs) ∧ y = yE 41) := by
    have h1 := hb.out
    have h2 := hy.out
    unfold isLast at h2
    rw [hrs] at h2
    rw [h1] at h2
    cases b
    · by_cases e0 : s = 0
      · exact .inr (.inr ⟨rfl, .inl e0, by rw [← h2, e0]; rfl⟩)
      · by_cases e1 : s = rs
        · exact .inr (.inl ⟨rfl, e0, e1, by rw [← h2, decide_eq_true e0, decide_eq_true e1]; rfl⟩)
        · exact .inr (.inr ⟨rfl, .inr ⟨e0, e1⟩, by rw [← h2, decide_eq_true e0, decide_eq_false e1]; rfl⟩)
    · exact .inl ⟨rfl, h2.symm⟩
  rw [hv] at c2 d2
  obtain ⟨NR, hNR⟩ : ∃ x, m.rows.length = x := ⟨_, rfl⟩
  rw [hNR] at c2 d2 hil hnc
  have hiI : (i : Int) < (NR : Int) := by omega
  have HNXT := Lib.hid hb.out
  have HH := Lib.hid hcase
  have HNW := Lib.hid hNW
  clear h h0 hbo hx hx1 hw0 hw1 hset hf hu ou hsix hsix1 hfr hfr1 hb hy hi hn hcase hyy hrs hNW hv hv' hP0 hgo hNR
  rcases HH.out with ⟨rfl, rfl⟩ | ⟨rfl, e0, e1, rfl⟩ | ⟨rfl, e0, rfl⟩
  · have hnx := HNXT.out
    unfold isNext at hnx
    simp only [Bool.and_eq_true, decide_eq_true_eq] at hnx
    obtain ⟨m0, m1⟩ := hnx
    have m2 : s - 1 = rs := by rw [← HRS.out]; exact m1
    have e0I : ¬ (s : Int) = 0 := by omega
    have e0B : ((s : Int) != 0) = true := by simp; omega
    have e1I : ¬ (s : Int) = (rs : Int) := by omega
    have e1B : ((s : Int) == (rs : Int)) = false := by simp; omega
    have hw : IntKind.u64.wrap ((s : Int) - 1) = (rs : Int) := by rw [show (s : Int) - 1 = (rs : Int) by omega]; exact IntWalk.u64_in _ ⟨by omega, by omega⟩
    have z0B : ((s : Int) == 0) = false := by simp; omega
    clear HH HNXT
    go_enter Tryz.func34, Tryz.ntmps34
    go_wp2_with fail
    rw [HW0.out]
    go_wp2_with fail
    with_reducible refine HF.out.mono ?_
    rintro e w2 ⟨rfl, rfl⟩
    go_wp2_with fail
    go_region
    all_goals rw [HW1.out]
    all_goals go_wp2
    all_goals refine bodyPost_ret (res2 (p := 6) (u := 7) rfl _ rfl HS.out.1) rfl ?_
    all_goals exact ⟨rfl, HFIN.out _ HS.out.2⟩
  · clear HH HNXT
    subst e1
    have e0I : ¬ (s : Int) = 0 := by omega
    have e0B : ((s : Int) != 0) = true := by simp; omega
    go_enter Tryz.func34, Tryz.ntmps34
    go_wp2_with fail
    rw [HW0.out]
    go_wp2_with fail
    with_reducible refine HF.out.mono ?_
    rintro e w2 ⟨rfl, rfl⟩
    go_wp2_with fail
    go_region
    all_goals rw [HW1.out]
    all_goals go_wp2
    all_goals refine bodyPost_ret (res2 (p := 6) (u := 7) rfl _ rfl HS.out.1) rfl ?_
    all_goals exact ⟨rfl, HFIN.out _ HS.out.2⟩
  · have hnx := HNXT.out
    unfold isNext at hnx
    rw [HRS.out] at hnx
    rcases e0 with e0 | ⟨e0, e1⟩
    · have e0I : (s : Int) = 0 := by omega
      have e0B : ((s : Int) != 0) = false := by rw [e0I]; rfl
      clear HH HNXT
      go_enter Tryz.func34, Tryz.ntmps34
      go_wp2_with fail
      rw [HW0.out]
      go_wp2_with fail
      with_reducible refine HF.out.mono ?_
      rintro e w2 ⟨rfl, rfl⟩
      go_wp2_with fail
      go_region
      all_goals rw [HW1.out]
      all_goals go_wp2
      all_goals refine bodyPost_ret (res2 (p := 6) (u := 7) rfl _ rfl HS.out.1) rfl ?_
      all_goals exact ⟨rfl, HFIN.out _ HS.out.2⟩
    · have m2 : s - 1 ≠ rs := fun e => by rw [decide_eq_true e0, decide_eq_true e] at hnx; cases hnx
      have e0I : ¬ (s : Int) = 0 := by omega
      have e1I : ¬ (s : Int) = (rs : Int) := by omega
      have e0B : ((s : Int) != 0) = true := by simp; omega
      have e1B : ((s : Int) == (rs : Int)) = false := by simp; omega
      have z0B : ((s : Int) == 0) = false := by simp; omega
      have hw : IntKind.u64.wrap ((s : Int) - 1) = ((s - 1 : Nat) : Int) := by rw [show (s : Int) - 1 = ((s - 1 : Nat) : Int) by omega]; exact IntWalk.u64_in _ ⟨by omega, by omega⟩
      obtain ⟨kk, hkk⟩ : ∃ k, s - 1 = k := ⟨_, rfl⟩
      rw [hkk] at hw m2
      have m2I : ¬ (kk : Int) = (rs : Int) := by omega
      have m2B : ((kk : Int) != (rs : Int)) = true := by simp; omega
      clear HH HNXT
      go_enter Tryz.func34, Tryz.ntmps34
      go_wp2_with fail
      rw [HW0.out]
      go_wp2_with fail
      with_reducible refine HF.out.mono ?_
      rintro e w2 ⟨rfl, rfl⟩
      go_wp2_with fail
      go_region
      all_goals rw [HW1.out]
      all_goals go_wp2
      all_goals refine bodyPost_ret (res2 (p := 6) (u := 7) rfl _ rfl HS.out.1) rfl ?_
      all_goals exact ⟨rfl, HFIN.out _ HS.out.2⟩
end
end Go.Proofs.YthaepkpmpnofgaaGreat.RefB
set_option linter.unusedVariables false
set_option linter.unusedSimpArgs false
namespace Go.Proofs.YthaepkpmpnofgaaGreat.RefC
open Go.RowKit Go.Proofs.YthaepkpmpnofgaaGreat.Kit Go.Proofs.YthaepkpmpnofgaaGreat.Blocks Go.Proofs.YthaepkpmpnofgaaGreat.Ses Go.Proofs.YthaepkpmpnofgaaGreat.Rws Go.Proofs.YthaepkpmpnofgaaGreat.SsnWalkA Go.Proofs.YthaepkpmpnofgaaGreat.Boxs

section
variable {T : Shape} {B : Nat} {w : World} {p : Nat} {v : Value} {m : Tb}
set_option maxRecDepth 100000 in
theorem rend_no (h : DT T B w p v m) (id s : Nat) (hn : seek m.rows id = none) (y : Ry) :
    Calls Tryz.prog 37 #[.pointer (some ⟨p, 0, none⟩), .int .u64 (id : Int), .int .u64 (s : Int), ryV y] w fun e w' => e = .returned (.bool false) ∧ DLeft T B w p v m w' := by
  obtain ⟨ye, yn, yx⟩ := y
  unfold ryV
  simp only
  have hbo : Below w.heap.size w (w.alloc (.cells #[.int .i64 ye, .int .u64 (yn : Int), .int .u64 (yx : Int)] 32)) := (Below.refl _ _).alloc (Nat.le_refl _) _
  have HF := Lib.hid (RefA.rfind_no (h.below hbo) id hn)
  have HH := Lib.hid h
  clear h hn
  go_enter Tryz.func37, Tryz.ntmps37
  go_wp2_with fail
  with_reducible refine HF.out.mono ?_
  rintro e w1 ⟨rfl, rfl⟩
  go_wp2
  go_ret
  exact ⟨rfl, LeftT.of_below HH.out hbo⟩
set_option maxRecDepth 100000 in
set_option maxHeartbeats 4000000 in
theorem rend_stale (h : DT T B w p v m) (id s : Nat) (hs : U s) {i : Nat} (hn : seek m.rows id = some i) {r : Rw} (hi : m.rows[i]? = some r) (hb : isNext r s = false) (y : Ry) :
    Calls Tryz.prog 37 #[.pointer (some ⟨p, 0, none⟩), .int .u64 (id : Int), .int .u64 (s : Int), ryV y] w fun e w' => e = .returned (.bool false) ∧ DLeft T B w p v m w' := by
  obtain ⟨ye, yn, yx⟩ := y
  unfold ryV
  simp only
  have hbo : Below w.heap.size w (w.alloc (.cells #[.int .i64 ye, .int .u64 (yn : Int), .int .u64 (yx : Int)] 32)) := (Below.refl _ _).alloc (Nat.le_refl _) _
  have h0 := h.below hbo
  obtain ⟨g, c, hv, hnc, hcm, hBg, hgl, hgp, hsix, hfr⟩ := h0.row hi
  have HF := Lib.hid (RefA.rfind_yes h0 id hn)
  have c2 := h0.c2
  have hp0 := h0.plt
  rw [hv] at c2
  obtain ⟨NR, hNR⟩ : ∃ x, m.rows.length = x := ⟨_, rfl⟩
  have hil : i < m.rows.length := (List.getElem?_eq_some_iff.1 hi).1
  rw [hNR] at c2 hil hnc
  have s2 := hsix.c2
  obtain ⟨rs, hrs⟩ : ∃ q, r.seq = q := ⟨_, rfl⟩
  rw [hrs] at s2
  unfold isNext at hb
  rw [hrs] at hb
  have hiI : (i : Int) < (NR : Int) := by omega
  have HH := Lib.hid h
  rcases Nat.eq_zero_or_pos s with e0 | e0
  · have e0I : (s : Int) = 0 := by omega
    clear h h0 hn hi hb hsix hfr hv hrs hNR
    go_enter Tryz.func37, Tryz.ntmps37
    go_wp2_with fail
    with_reducible refine HF.out.mono ?_
    rintro e w1 ⟨rfl, rfl⟩
    go_wp2
    go_ret
    exact ⟨rfl, LeftT.of_below HH.out hbo⟩
  · have m2 : s - 1 ≠ rs := fun e => by rw [decide_eq_true (show s ≠ 0 by omega), decide_eq_true e] at hb; cases hb
    have e0I : ¬ (s : Int) = 0 := by omega
    have z0B : ((s : Int) == 0) = false := by simp; omega
    have hw : IntKind.u64.wrap ((s : Int) - 1) = ((s - 1 : Nat) : Int) := by rw [show (s : Int) - 1 = ((s - 1 : Nat) : Int) by omega]; exact IntWalk.u64_in _ ⟨by omega, by omega⟩
    obtain ⟨kk, hkk⟩ : ∃ k, s - 1 = k := ⟨_, rfl⟩
    rw [hkk] at hw m2
    have m2I : ¬ (kk : Int) = (rs : Int) := by omega
    have m2B : ((kk : Int) != (rs : Int)) = true := by simp; omega
    clear h h0 hn hi hb hsix hfr hv hrs hNR
    go_enter Tryz.func37, Tryz.ntmps37
    go_wp2_with fail
    with_reducible refine HF.out.mono ?_
    rintro e w1 ⟨rfl, rfl⟩
    go_wp2
    go_ret
    exact ⟨rfl, LeftT.of_below HH.out hbo⟩
set_option maxRecDepth 100000 in
set_option maxHeartbeats 4000000 in
theorem rend_yes (h : DT T B w p v m) (id s : Nat) (hs : U s) {i : Nat} (hn : seek m.rows id = some i) {r : Rw} (hi : m.rows[i]? = some r) (hb : isNext r s = true) (y : Ry) :
    Calls Tryz.prog 37 #[.pointer (some ⟨p, 0, none⟩), .int .u64 (id : Int), .int .u64 (s : Int), ryV y] w fun e w' => e = .returned (.bool true) ∧ DLeft T B w p v ⟨m.now, m.next, m.rows.set i (endRow r s y)⟩ w' := by
  have hbo : Below w.heap.size w (w.alloc (.cells #[.int .i64 y.err, .int .u64 (y.num : Int), .int .u64 (y.ext : Int)] 32)) := (Below.refl _ _).alloc (Nat.le_refl _) _
  obtain ⟨w0, hw0⟩ : ∃ w0, w.alloc (.cells #[.int .i64 y.err, .int .u64 (y.num : Int), .int .u64 (y.ext : Int)] 32) = w0 := ⟨_, rfl⟩
  have hx := Box3.new w (.int .i64 y.err) (.int .u64 (y.num : Int)) (.int .u64 (y.ext : Int))
  rw [hw0] at hbo hx
  have hlt0 : w.heap.size < w0.heap.size := by rw [← hw0]; simp
  have h0 := h.below hbo
  obtain ⟨g, c, hv, hnc, hcm, hBg, hgl, hgp, hsix, hfr⟩ := h0.row hi
  have hgo : v.ownBlock = some g := by rw [hv]; rfl
  have hglw : g < w.heap.size := (h.own.lt g hgo).2
  have hf := RefA.rfind_yes h0 id hn
  have hil : i < m.rows.length := (List.getElem?_eq_some_iff.1 hi).1
  obtain ⟨h1, o1⟩ := Boxs.TAt.seqd h0 hi hgo s
  obtain ⟨h2, o2⟩ := Boxs.TAt.replied h1 (i := i) (r := endRow r s r.y) (by show (m.rows.set i _)[i]? = _; rw [List.getElem?_set_self hil]) hgo y
  simp only [List.set_set] at h2
  have HFIN : Hid (DLeft T B w p v ⟨m.now, m.next, m.rows.set i (endRow r s y)⟩ ((((w0.setCell ⟨g, i * 6 + 2, none⟩ (.int .u64 (s : Int))).setCell ⟨g, i * 6 + 3, none⟩ (.int .i64 y.err)).setCell ⟨g, i * 6 + 4, none⟩ (.int .u64 (y.num : Int))).setCell ⟨g, i * 6 + 5, none⟩ (.int .u64 (y.ext : Int))).drew) :=
    LeftT.afterBelow hbo ⟨v, h2.below ((Below.refl _ _).drew), (o1.trans o2).drew.mono fun q _ e => .inr (by rw [hgo, e]), fun g hg => .inl hg⟩
  have HW0 := Lib.hid hw0
  have HF := Lib.hid hf
  have x0 := hx.c0
  have x1 := hx.c1
  have x2 := hx.c2
  have ltx := hx.lt
  have s2 := hsix.c2
  have s3 := hsix.c3
  have s4 := hsix.c4
  have s5 := hsix.c5
  have f2 := hfr (i * 6 + 2)
  have f3 := hfr (i * 6 + 3)
  have f4 := hfr (i * 6 + 4)
  have f5 := hfr (i * 6 + 5)
  have hgw : g ≠ w.heap.size := by omega
  have c2 := h0.c2
  have hp0 := h0.plt
  rw [hv] at c2
  obtain ⟨NR, hNR⟩ : ∃ x, m.rows.length = x := ⟨_, rfl⟩
  rw [hNR] at c2 hil hnc
  obtain ⟨rs, hrs⟩ : ∃ q, r.seq = q := ⟨_, rfl⟩
  rw [hrs] at s2
  unfold isNext at hb
  rw [hrs] at hb
  simp only [Bool.and_eq_true, decide_eq_true_eq] at hb
  obtain ⟨m0, m1⟩ := hb
  have hiI : (i : Int) < (NR : Int) := by omega
  have e0I : ¬ (s : Int) = 0 := by omega
  have z0B : ((s : Int) == 0) = false := by simp; omega
  have hw : IntKind.u64.wrap ((s : Int) - 1) = (rs : Int) := by rw [show (s : Int) - 1 = (rs : Int) by omega]; exact IntWalk.u64_in _ ⟨by omega, by omega⟩
  have hgp' : p ≠ g := fun e => hgp e.symm
  have hgw' : w.heap.size ≠ g := by omega
  obtain ⟨ye, yn, yx⟩ := y
  unfold ryV
  simp only at x0 x1 x2 HFIN HW0 ⊢
  clear hw0 hbo hx hv hrs hNR h h0 hsix hfr hf h1 o1 h2 o2 hn hi
  go_enter Tryz.func37, Tryz.ntmps37
  go_wp2_with fail
  rw [HW0.out]
  go_wp2_with fail
  with_reducible refine HF.out.mono ?_
  rintro e w1 ⟨rfl, rfl⟩
  go_wp2_with fail
  go_region
  all_goals go_wp2
  all_goals go_ret
  all_goals exact ⟨rfl, HFIN.out⟩
end
end Go.Proofs.YthaepkpmpnofgaaGreat.RefC
set_option linter.unusedVariables false
set_option linter.unusedSimpArgs false
namespace Go.Proofs.YthaepkpmpnofgaaGreat.RefD
open Go.RowKit Go.Proofs.YthaepkpmpnofgaaGreat.Kit Go.Proofs.YthaepkpmpnofgaaGreat.Blocks Go.Proofs.YthaepkpmpnofgaaGreat.Ses Go.Proofs.YthaepkpmpnofgaaGreat.Rws Go.Proofs.YthaepkpmpnofgaaGreat.SsnWalkA

section
variable {T : Shape} {B : Nat} {w : World} {p : Nat} {v : Value} {m : Tb}
set_option maxRecDepth 100000 in
theorem rclock_no (h : DT T B w p v m) {t : Nat} (ht : t ≤ m.now) : Calls Tryz.prog 29 #[.pointer (some ⟨p, 0, none⟩), .int .u64 (t : Int)] w fun e w' => e = .returned (.tuple #[]) ∧ Below w.heap.size w w' := by
  have c0 := h.c0
  have hp := h.plt
  have htI : (t : Int) ≤ (m.now : Int) := by omega
  clear h ht
  go_enter Tryz.func29, Tryz.ntmps29
  go_wp2
  refine bodyPost_ret (results_none rfl _ _ _) rfl ?_
  exact ⟨rfl, Below.refl _ _⟩
/-- What is asked of each row. -/
theorem ask {t us : Nat} (hU : U t) (hu : us ≤ t) (r : Rw) (hr : r.used = us) : ∃ u : Nat, IntKind.u64.wrap ((us : Int) + 1000) = (u : Int) ∧ U u ∧ ((kept t r = true ∧ t ≤ u) ∨ (kept t r = true ∧ u < t ∧ u < 1000) ∨ (kept t r = false ∧ u < t ∧ 1000 ≤ u)) := by
  refine ⟨(us + 1000) % 18446744073709551616, by rw [IntKind.wrap_u64]; omega, by show _ < _; omega, ?_⟩
  unfold kept
  rw [hr]
  by_cases hk : t - us ≤ 1000
  · rw [decide_eq_true hk]
    by_cases h2 : us + 1000 < 18446744073709551616
    · exact .inl ⟨rfl, by omega⟩
    · exact .inr (.inl ⟨rfl, by omega, by omega⟩)
  · rw [decide_eq_false hk]
    exact .inr (.inr ⟨rfl, by omega, by omega⟩)
set_option maxRecDepth 100000 in
set_option maxHeartbeats 4000000 in
theorem rclock_yes (h : DT T B w p v m) {t : Nat} (ht : m.now < t) (hU : U t) (h16 : m.rows.length ≤ 16) (hu : ∀ r ∈ m.rows, r.used ≤ m.now) : Calls Tryz.prog 29 #[.pointer (some ⟨p, 0, none⟩), .int .u64 (t : Int)] w fun e w' => e = .returned (.tuple #[]) ∧ DLeft T B w p v ⟨t, m.next, m.rows.filter (kept t)⟩ w' := by
  have c0 := h.c0
  have f0 := h.free 0
  have hp := h.plt
  have htI : ¬ (t : Int) ≤ (m.now : Int) := by omega
  obtain ⟨h1, o1⟩ := h.timed t
  obtain ⟨w1, hw1⟩ : ∃ w1, w.setCell ⟨p, 0, none⟩ (.int .u64 (t : Int)) = w1 := ⟨_, rfl⟩
  rw [hw1] at h1 o1
  have d2 := h1.c2
  have hp1 := h1.plt
  have hB1 := h1.base
  obtain ⟨A, c, hv, hnc, hcm, hr⟩ := h1.form
  obtain ⟨n, hn⟩ : ∃ n, m.rows.length = n := ⟨_, rfl⟩
  obtain ⟨L, hL⟩ : ∃ L, m.rows = L := ⟨_, rfl⟩
  simp only at hv hnc hr
  rw [hn] at hv hnc hr h16
  rw [hL] at hr hu
  rw [hv] at d2
  have HL : Hid (L.length = n) := by rw [← hL]; exact hn
  have HR := Lib.hid hr
  have HU : Hid (∀ r ∈ L, r.used ≤ t) := fun r hr => by have := hu r hr; omega
  have HV := Lib.hid hv
  have HH1 := Lib.hid h1
  have HW1 := Lib.hid hw1
  have HFIN : Hid (∀ wr v' A' c' k, v' = .slice A' k c' → k = (L.filter (kept t)).length → wr.ownsRow w1.heap.size 125 6 v' k (rcells (L.filter (kept t))) → Below w1.heap.size w1 wr →
      wr.cell? ⟨p, 2, none⟩ = some v ∧ wr.frozen? ⟨p, 2, none⟩ = false ∧ p < wr.heap.size ∧ DLeft T B w p v ⟨t, m.next, L.filter (kept t)⟩ (wr.setCell ⟨p, 2, none⟩ v')) := by
    intro wr v' A' c' k hv' hk hown hb
    obtain ⟨q1, q2, q3, q4⟩ := h1.rowed (L := L.filter (kept t)) ((Only.of_below hb) : Only (fun q => v.ownBlock = some q) w1 wr) (own_base hown hB1) hk rfl (fun q hq => .inr (hown.lt q hq).1)
    exact ⟨q1, q2, q3, LeftT.then (o1.mono fun q _ hq => .inl hq) (fun g hg => .inl hg) q4⟩
  rw [hL]
  clear h h1 o1 hw1 hv hr hu hn hL ht
  go_enter Tryz.func29, Tryz.ntmps29
  go_wp2_with fail
  rw [HW1.out]
  go_loopw [4, 5] (fun x y wr => ∃ (j k : Nat) (v' : Value), j ≤ n ∧ x = v' ∧ y = .int .i64 (j : Int) ∧ k ≤ 16 ∧ Hid (((L.take j).filter (kept t)).length = k) ∧ Hid (wr.ownsRow w1.heap.size 125 6 v' k (rcells ((L.take j).filter (kept t)))) ∧ Hid (Below w1.heap.size w1 wr)) (fun _ y _ => n - (intOf y).toNat)
  case atStart => exact ⟨0, 0, _, by omega, rfl, rfl, by omega, by simp [Hid], World.ownsRow_nil _ _ _ _, Below.refl _ _⟩
  case round =>
    obtain ⟨j, k, v', hj, rfl, rfl, hk16, hlen, hown, hbel⟩ := hrel
    have e2 := (hbel.out.cell (p := ⟨p, 2, none⟩) hp1).trans d2
    have hplt := Nat.lt_of_lt_of_le hp1 hbel.out.size
    by_cases hjn : j < n
    · have HJ := Lib.hid hjn
      obtain ⟨bk, o, r, rfl, hbl, hrj, hsix⟩ := RR.at_ HR.out hjn
      obtain ⟨y0, y1, y2, y3, y4, y5⟩ := hsix.below hbel.out hbl
      have hlt := Nat.lt_of_lt_of_le hbl hbel.out.size
      obtain ⟨u, hw, hUu, hcase⟩ := ask hU (HU.out r (List.mem_of_getElem? hrj)) r rfl
      have htake := SsnWalkE.take_snoc L j r hrj
      have hjnI : (j : Int) < (n : Int) := by omega
      obtain ⟨A', c', hv', _, _, _⟩ := own_form hown.out
      subst hv'
      obtain ⟨id, us, sq, ⟨ye, yn, yx⟩⟩ := r
      simp only at y0 y1 y2 y3 y4 y5 hw
      have HT := Lib.hid htake
      have hba : ∀ o, Below wr.heap.size wr (wr.alloc o) := fun o => (Below.refl _ _).alloc (Nat.le_refl _) o
      have HO : Hid (∀ o, (wr.alloc o).ownsRow w1.heap.size 125 6 (.slice A' k c') k (rcells ((L.take j).filter (kept t)))) := fun o => (Only.of_below (S := fun _ => False) (hba o)).own hown.out (by simp)
      have HNW : Hid (RR (wr.alloc (.cells #[.int .u64 (id : Int), .int .u64 (us : Int), .int .u64 (sq : Int), .int .i64 ye, .int .u64 (yn : Int), .int .u64 (yx : Int)] 125)) (wr.heap.size + 1) (some ⟨wr.heap.size, 0, none⟩) 1 [⟨id, us, sq, ⟨ye, yn, yx⟩⟩]) := rw_new wr ⟨id, us, sq, ⟨ye, yn, yx⟩⟩ 125
      have HBS : Hid (∀ o, w1.heap.size ≤ (wr.alloc o).heap.size) := fun o => Nat.le_trans hbel.out.size (hba o).size
      have HBL : Hid (∀ o, Below w1.heap.size w1 (wr.alloc o)) := fun o => hbel.out.trans ((hba o).mono hbel.out.size)
      have HG : Hid (∀ g, (Value.slice A' k c').ownBlock = some g → w1.heap.size ≤ g) := fun g hg => (hown.out.lt g hg).1
      clear hsix htake hba hrj
      have hkeep : kept t ⟨id, us, sq, ⟨ye, yn, yx⟩⟩ = true → ((L.take (j + 1)).filter (kept t)) = (L.take j).filter (kept t) ++ [⟨id, us, sq, ⟨ye, yn, yx⟩⟩] := fun hh => by rw [HT.out, List.filter_append]; simp [hh]
      have hdrop : kept t ⟨id, us, sq, ⟨ye, yn, yx⟩⟩ = false → ((L.take (j + 1)).filter (kept t)) = (L.take j).filter (kept t) := fun hh => by rw [HT.out, List.filter_append]; simp [hh]
      have HKEEP := Lib.hid hkeep
      have HDROP := Lib.hid hdrop
      have hkj : k ≤ j := by rw [← hlen.out]; exact Nat.le_trans (List.length_filter_le _ _) (by rw [List.length_take]; omega)
      have HK1 : Hid (k + 1 ≤ 16) := by show k + 1 ≤ 16; omega
      clear hkeep hdrop HT
      rcases hcase with ⟨hk, k1⟩ | ⟨hk, k1, k2⟩ | ⟨hk, k1, k2⟩
      · have HKK := Lib.hid hk
        have p1 : (t : Int) ≤ (u : Int) := by omega
        clear hk
        go_wp2_with (first
          | (at_builtin
             refine AppD.wpList_app (v := .slice A' k c') (xs := rcells ((L.take j).filter (kept t))) _ rfl _ _ rfl w1.heap.size rfl (HO.out _) rfl HNW.out (rcells_one _) (by omega) (HBS.out _) ?_
             intro A7 c7 w7 hown7 hg7 hat7
             have HO7 := Lib.hid hown7
             have HB7 := Lib.hid ((HBL.out _).grown hg7 (HBS.out _) HG.out)
             clear hat7 hg7 hown7))
        go_roundw
        case rel => exact ⟨j + 1, k + 1, _, HJ.out, rfl, by go_num, HK1.out, by rw [HKEEP.out HKK.out, List.length_append, hlen.out]; rfl, by rw [HKEEP.out HKK.out, rcells_append]; exact HO7.out, HB7.out⟩
        case measure => have := HJ.out; simp [intOf]; omega
      · have HKK := Lib.hid hk
        have p1 : ¬ (t : Int) ≤ (u : Int) := by omega
        have p2 : (u : Int) < 1000 := by omega
        clear hk
        go_wp2_with (first
          | (at_builtin
             refine AppD.wpList_app (v := .slice A' k c') (xs := rcells ((L.take j).filter (kept t))) _ rfl _ _ rfl w1.heap.size rfl (HO.out _) rfl HNW.out (rcells_one _) (by omega) (HBS.out _) ?_
             intro A7 c7 w7 hown7 hg7 hat7
             have HO7 := Lib.hid hown7
             have HB7 := Lib.hid ((HBL.out _).grown hg7 (HBS.out _) HG.out)
             clear hat7 hg7 hown7))
        go_roundw
        case rel => exact ⟨j + 1, k + 1, _, HJ.out, rfl, by go_num, HK1.out, by rw [HKEEP.out HKK.out, List.length_append, hlen.out]; rfl, by rw [HKEEP.out HKK.out, rcells_append]; exact HO7.out, HB7.out⟩
        case measure => have := HJ.out; simp [intOf]; omega
      · have HKK := Lib.hid hk
        have p1 : ¬ (t : Int) ≤ (u : Int) := by omega
        have p2 : ¬ (u : Int) < 1000 := by omega
        clear hk
        go_wp2
        go_roundw
        case rel => exact ⟨j + 1, k, _, HJ.out, rfl, by go_num, hk16, by rw [HDROP.out HKK.out]; exact hlen.out, by rw [HDROP.out HKK.out]; exact hown.out, hbel.out⟩
        case measure => have := HJ.out; simp [intOf]; omega
    · obtain rfl : j = n := by omega
      have hall : L.take j = L := List.take_of_length_le (by rw [HL.out]; exact Nat.le_refl _)
      have hown' := hown.out
      have hlen' := hlen.out
      rw [hall] at hown' hlen'
      obtain ⟨A', c', hv', _, _, _⟩ := own_form hown'
      subst hv'
      obtain ⟨q1, q2, q3, q4⟩ := HFIN.out wr _ A' c' k rfl hlen'.symm hown' hbel.out
      have Q4 := Lib.hid q4
      clear q4 hown hown' q1
      go_wp2
      go_end0
      exact ⟨rfl, Q4.out⟩
end
end Go.Proofs.YthaepkpmpnofgaaGreat.RefD
set_option linter.unusedVariables false
set_option linter.unusedSimpArgs false
namespace Go.Proofs.YthaepkpmpnofgaaGreat.CalD
open Go.RowKit Go.Proofs.YthaepkpmpnofgaaGreat.Kit Go.Proofs.YthaepkpmpnofgaaGreat.Blocks Go.Proofs.YthaepkpmpnofgaaGreat.Ses Go.Proofs.YthaepkpmpnofgaaGreat.Rws Go.Proofs.YthaepkpmpnofgaaGreat.SsnWalkA

section
variable {T : Shape} {B : Nat} {w : World} {p : Nat} {v : Value} {m : Tb}
theorem rclock_any (h : DT T B w p v m) (hG : Sane m) {t : Nat} (ht : U t) {m' : Tb} (hm : Hid (clock m t = m')) : Calls Tryz.prog 29 #[.pointer (some ⟨p, 0, none⟩), .int .u64 (t : Int)] w fun e w' => e = .returned (.tuple #[]) ∧ DLeft T B w p v m' w' := by
  have hm' := hm.out
  unfold clock at hm'
  split at hm'
  · subst hm'
    exact (RefD.rclock_no h (by assumption)).mono fun e w' k => ⟨k.1, LeftT.of_below h k.2⟩
  · subst hm'
    exact RefD.rclock_yes h (by omega) ht hG.few fun r hr => (hG.fits r hr).1
theorem rreg_any (h : DT T B w p v m) (hG : Sane m) {m' : Tb} {id : Nat} {e0 : Int} (hm : Hid (regT m = m')) (hi : Hid (regId m = id)) (he : Hid (regE m = e0)) : Calls Tryz.prog 30 #[.pointer (some ⟨p, 0, none⟩)] w fun e w' => e = .returned (.tuple #[.int .u64 (id : Int), .int .i64 e0]) ∧ DLeft T B w p v m' w' := by
  have hm' := hm.out
  have hi' := hi.out
  have he' := he.out
  unfold regT at hm'
  unfold regId at hi'
  unfold regE at he'
  by_cases hc : canReg m = true
  · rw [if_pos hc] at hm' hi' he'
    subst hm' hi' he'
    exact RefA.rreg_yes h hG.next hc
  · rw [if_neg hc] at hm' hi' he'
    subst hm' hi' he'
    exact (RefA.rreg_no h hG.next hG.few (by simpa using hc)).mono fun e w' k => ⟨k.1, by rw [k.2]; exact LeftT.refl h⟩
theorem rbeg_any (h : DT T B w p v m) (hG : Sane m) (id : Nat) {s : Nat} (hs : U s) {m' : Tb} {y : Ry} {b : Bool} (hm : Hid (begT m id = m')) (hy : Hid (begY m id s = y)) (hb : Hid (begF m id s = b)) :
    Calls Tryz.prog 34 #[.pointer (some ⟨p, 0, none⟩), .int .u64 (id : Int), .int .u64 (s : Int)] w fun e w' => e = .returned (.tuple #[ryV y, .bool b]) ∧ DLeft T B w p v m' w' := by
  have hm' := hm.out
  have hy' := hy.out
  have hb' := hb.out
  unfold begT at hm'
  unfold begY at hy'
  unfold begF at hb'
  cases hl : seek m.rows id with
  | none =>
    simp only [hl] at hm' hy' hb'
    subst hm' hy' hb'
    exact RefB.rbegin_no h id s hl
  | some i =>
    obtain ⟨r, h1, h2, h3, h4⟩ := seek_some hl
    simp only [hl, h1] at hm' hy' hb'
    subst hm'
    exact RefB.rbegin_yes h id s hs hl h1 (hG.fits r (List.mem_of_getElem? h1)).2.2.1 (Lib.hid hb') (Lib.hid hy')
theorem rend_any (h : DT T B w p v m) (hG : Sane m) (id : Nat) {s : Nat} (hs : U s) (y : Ry) {m' : Tb} {b : Bool} (hm : Hid (endT m id s y = m')) (hb : Hid (endF m id s = b)) :
    Calls Tryz.prog 37 #[.pointer (some ⟨p, 0, none⟩), .int .u64 (id : Int), .int .u64 (s : Int), ryV y] w fun e w' => e = .returned (.bool b) ∧ DLeft T B w p v m' w' := by
  have hm' := hm.out
  have hb' := hb.out
  unfold endT at hm'
  unfold endF begF at hb'
  cases hl : seek m.rows id with
  | none =>
    simp only [hl] at hm' hb'
    subst hm' hb'
    exact RefC.rend_no h id s hl y
  | some i =>
    obtain ⟨r, h1, h2, h3, h4⟩ := seek_some hl
    simp only [hl, h1] at hm' hb'
    cases b with
    | false =>
      rw [if_neg (by rw [hb']; decide)] at hm'
      subst hm'
      exact RefC.rend_stale h id s hs hl h1 hb' y
    | true =>
      rw [if_pos hb'] at hm'
      subst hm'
      exact RefC.rend_yes h id s hs hl h1 hb' y
end
end Go.Proofs.YthaepkpmpnofgaaGreat.CalD
