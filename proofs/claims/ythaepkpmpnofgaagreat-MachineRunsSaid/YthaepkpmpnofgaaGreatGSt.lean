/- What Register leaves, walked. No statement is proved here. -/
import Derived.Test.YthaepkpmpnofgaaGreatGSs
import Derived.Deep.RegionLaw
set_option linter.unusedVariables false
set_option linter.unusedSimpArgs false
namespace Go.Proofs.YthaepkpmpnofgaaGreat.SsnWalkC
open Go.RowKit Go.Proofs.YthaepkpmpnofgaaGreat.Kit Go.Proofs.YthaepkpmpnofgaaGreat.Blocks Go.Proofs.YthaepkpmpnofgaaGreat.Ses Go.Proofs.YthaepkpmpnofgaaGreat.Rws Go.Proofs.YthaepkpmpnofgaaGreat.SsnWalkA Go.Proofs.YthaepkpmpnofgaaGreat.Boxs

set_option maxRecDepth 100000 in
theorem begin_none (id s : Nat) (w : World) :
    Calls Tryz.prog 71 #[.pointer none, .int .u64 (id : Int), .int .u64 (s : Int)] w fun e w' => e = .returned (.tuple #[ryV (yE 40), .bool false]) ∧ Below w.heap.size w w' := by
  have hbo : Below w.heap.size w (w.alloc (.cells #[.int .i64 0, .int .u64 0, .int .u64 0] 32)) := (Below.refl _ _).alloc (Nat.le_refl _) _
  have hx := Box3.new w (.int .i64 0) (.int .u64 0) (.int .u64 0)
  obtain ⟨w0, hw0⟩ : ∃ w0, w.alloc (.cells #[.int .i64 0, .int .u64 0, .int .u64 0] 32) = w0 := ⟨_, rfl⟩
  rw [hw0] at hbo hx
  have HW0 := Lib.hid hw0
  have hf := find_none id w0
  have x0 := hx.c0
  have x1 := hx.c1
  have x2 := hx.c2
  have f0 := hx.free 0
  have f1 := hx.free 1
  have f2 := hx.free 2
  have ltx := hx.lt
  have hs := hx.set (.int .i64 40) (.int .u64 0) (.int .u64 0)
  have HS := Lib.hid hs
  have HB := Lib.hid hbo
  have HF := Lib.hid hf
  clear hw0 hx hs hbo hf
  go_enter Tryz.func71, Tryz.ntmps71
  go_wp2_with fail
  rw [HW0.out]
  go_wp2_with fail
  with_reducible refine HF.out.mono ?_
  rintro e w1 ⟨rfl, rfl⟩
  go_wp2
  refine bodyPost_ret (res2 (p := 6) (u := 7) rfl _ rfl HS.out.1) rfl ?_
  exact ⟨rfl, below_only HB.out HS.out.2 (Nat.le_refl _) (fun q hq => by omega)⟩
section
variable {T : Shape} {B : Nat} {w : World} {p : Nat} {v : Value} {m : Tb}
set_option maxRecDepth 100000 in
theorem begin_no (h : PT T B w p v m) (id s : Nat) (hn : seek m.rows id = none) :
    Calls Tryz.prog 71 #[.pointer (some ⟨p, 0, none⟩), .int .u64 (id : Int), .int .u64 (s : Int)] w fun e w' => e = .returned (.tuple #[ryV (yE 40), .bool false]) ∧ PLeft T B w p v m w' := by
  have hbo : Below w.heap.size w (w.alloc (.cells #[.int .i64 0, .int .u64 0, .int .u64 0] 32)) := (Below.refl _ _).alloc (Nat.le_refl _) _
  have hx := Box3.new w (.int .i64 0) (.int .u64 0) (.int .u64 0)
  obtain ⟨w0, hw0⟩ : ∃ w0, w.alloc (.cells #[.int .i64 0, .int .u64 0, .int .u64 0] 32) = w0 := ⟨_, rfl⟩
  rw [hw0] at hbo hx
  have HW0 := Lib.hid hw0
  have hf := find_no (h.below hbo) id hn
  have x0 := hx.c0
  have x1 := hx.c1
  have x2 := hx.c2
  have f0 := hx.free 0
  have f1 := hx.free 1
  have f2 := hx.free 2
  have ltx := hx.lt
  have hs := hx.set (.int .i64 40) (.int .u64 0) (.int .u64 0)
  have HS := Lib.hid hs
  have HB := Lib.hid hbo
  have HF := Lib.hid hf
  have HH := Lib.hid h
  clear hw0 hx hs hbo hf h hn
  go_enter Tryz.func71, Tryz.ntmps71
  go_wp2_with fail
  rw [HW0.out]
  go_wp2_with fail
  with_reducible refine HF.out.mono ?_
  rintro e w1 ⟨rfl, rfl⟩
  go_wp2
  refine bodyPost_ret (res2 (p := 6) (u := 7) rfl _ rfl HS.out.1) rfl ?_
  exact ⟨rfl, LeftT.of_below HH.out (below_only HB.out HS.out.2 (Nat.le_refl _) (fun q hq => by omega))⟩
set_option maxRecDepth 100000 in
set_option maxHeartbeats 4000000 in
theorem begin_yes (h : PT T B w p v m) (id s : Nat) (hs : U s) {i : Nat} (hn : seek m.rows id = some i) {r : Rw} (hi : m.rows[i]? = some r) (hq : U r.seq) {y : Ry} {b : Bool} (hb : Hid (isNext r s = b)) (hy : Hid ((if isNext r s then y0 else if isLast r s then r.y else yE 41) = y)) :
    Calls Tryz.prog 71 #[.pointer (some ⟨p, 0, none⟩), .int .u64 (id : Int), .int .u64 (s : Int)] w fun e w' => e = .returned (.tuple #[ryV y, .bool b]) ∧ PLeft T B w p v ⟨m.now, m.next, m.rows.set i (usedRow m r)⟩ w' := by
  have hbo : Below w.heap.size w (w.alloc (.cells #[.int .i64 0, .int .u64 0, .int .u64 0] 32)) := (Below.refl _ _).alloc (Nat.le_refl _) _
  have hx := Box3.new w (.int .i64 0) (.int .u64 0) (.int .u64 0)
  obtain ⟨w0, hw0⟩ : ∃ w0, w.alloc (.cells #[.int .i64 0, .int .u64 0, .int .u64 0] 32) = w0 := ⟨_, rfl⟩
  rw [hw0] at hbo hx
  have HW0 := Lib.hid hw0
  have h0 := h.below hbo
  obtain ⟨g, c, hv, hnc, hcm, hBg, hgl, hgp, hsix, hfr⟩ := h0.row hi
  have hf := find_yes h0 id hn hv
  have hgo : v.ownBlock = some g := by rw [hv]; rfl
  have hglw : g < w.heap.size := (h.own.lt g hgo).2
  have c0 := h0.c0
  have hp0 := h0.plt
  have k1 := hsix.c1
  have fk := hfr (i * 6 + 1)
  obtain ⟨hu, ou⟩ := Boxs.TAt.used h0 hi hgo
  obtain ⟨w1, hw1⟩ : ∃ w1, w0.setCell ⟨g, i * 6 + 1, none⟩ (.int .u64 (m.now : Int)) = w1 := ⟨_, rfl⟩
  rw [hw1] at hu ou
  have HW1 := Lib.hid hw1
  have hil : i < m.rows.length := (List.getElem?_eq_some_iff.1 hi).1
  obtain ⟨g', c', hv', _, _, _, hgl1, _, hsix1, hfr1⟩ := hu.row (i := i) (r := usedRow m r) (by show (m.rows.set i _)[i]? = _; rw [List.getElem?_set_self hil])
  have : g' = g := by rw [hv] at hv'; injection hv' with e; injection e with e; injection e with e; exact e.symm
  subst this
  have hne := next_any (s := s) (b := b) hsix1 hgl1 hs (by exact hb)
  have hx1 := hx.keep ou (fun e => by omega)
  have x0 := hx1.c0
  have x1 := hx1.c1
  have x2 := hx1.c2
  have f0 := hx1.free 0
  have f1 := hx1.free 1
  have f2 := hx1.free 2
  have ltx := hx1.lt
  have s2 := hsix1.c2
  have s3 := hsix1.c3
  have s4 := hsix1.c4
  have s5 := hsix1.c5
  simp only [usedRow] at s2 s3 s4 s5
  have hset := hx1.set (.int .i64 y.err) (.int .u64 (y.num : Int)) (.int .u64 (y.ext : Int))
  have hlt0 : w.heap.size < w0.heap.size := by rw [← hw0]; simp
  have HFIN : Hid (∀ w4, Only (fun q => q = w.heap.size) w1 w4 → PLeft T B w p v ⟨m.now, m.next, m.rows.set i (usedRow m r)⟩ w4) := fun w4 o4 =>
    LeftT.boxed h hbo ⟨v, hu, ou.mono fun q _ e => .inr (by rw [hgo, e]), fun g hg => .inl hg⟩ (r := w.heap.size) (Nat.le_refl _) hlt0 o4
  have HS := Lib.hid hset
  have HF := Lib.hid hf
  have HNE := Lib.hid hne
  obtain ⟨P0, hP0⟩ : ∃ P0, w.heap.size = P0 := ⟨_, rfl⟩
  obtain ⟨NW, hNW⟩ : ∃ NW, m.now = NW := ⟨_, rfl⟩
  rw [hNW] at c0 hw1 HW1
  obtain ⟨⟨ye, yn, yx⟩, hyy⟩ : ∃ q, r.y = q := ⟨_, rfl⟩
  rw [hyy] at s3 s4 s5 hy
  obtain ⟨rs, hrs⟩ : ∃ q, r.seq = q := ⟨_, rfl⟩
  rw [hrs] at s2 hq
  simp only at s3 s4 s5
  have hcase : (b = true ∧ y = y0) ∨ (b = false ∧ s ≠ 0 ∧ s = rs ∧ y = ⟨ye, yn, yx⟩) ∨ (b = false ∧ (s = 0 ∨ s ≠ 0 ∧ s ≠ rs) ∧ y = yE 41) := by
    have h1 := hb.out
    have h2 := hy.out
    unfold isLast at h2
    rw [hrs] at h2
    rw [h1] at h2
    cases b
    · by_cases e0 : s = 0
      · exact .inr (.inr ⟨rfl, .inl e0, by rw [← h2, e0]; rfl⟩)
      · by_cases e1 : s = rs
        · exact .inr (.inl ⟨rfl, e0, e1, by rw [← h2, decide_eq_true e0, decide_eq_true e1]; rfl⟩)
        · exact .inr (.inr ⟨rfl, .inr ⟨e0, e1⟩, by rw [← h2, decide_eq_true e0, decide_eq_false e1]; rfl⟩)
    · exact .inl ⟨rfl, h2.symm⟩
  have HH := Lib.hid hcase
  have HNW := Lib.hid hNW
  clear h h0 hbo hx hx1 hw0 hw1 hset hf hne hu ou hsix hsix1 hfr hfr1 hb hy hi hn hil hcase hyy hrs hNW hv hv' hP0 hgo hnc hcm
  rcases HH.out with ⟨rfl, rfl⟩ | ⟨rfl, e0, e1, rfl⟩ | ⟨rfl, e0, rfl⟩
  · clear HH
    go_enter Tryz.func71, Tryz.ntmps71
    go_wp2_with fail
    rw [HW0.out]
    go_wp2_with fail
    with_reducible refine HF.out.mono ?_
    rintro e w2 ⟨rfl, rfl⟩
    go_wp2_with fail
    rw [HW1.out]
    go_wp2_with fail
    with_reducible refine HNE.out.mono ?_
    rintro e w3 ⟨rfl, rfl⟩
    go_wp2
    refine bodyPost_ret (res2 (p := 6) (u := 7) rfl _ rfl HS.out.1) rfl ?_
    exact ⟨rfl, HFIN.out _ HS.out.2⟩
  · clear HH
    subst e1
    have e0I : ¬ (s : Int) = 0 := by omega
    go_enter Tryz.func71, Tryz.ntmps71
    go_wp2_with fail
    rw [HW0.out]
    go_wp2_with fail
    with_reducible refine HF.out.mono ?_
    rintro e w2 ⟨rfl, rfl⟩
    go_wp2_with fail
    rw [HW1.out]
    go_wp2_with fail
    with_reducible refine HNE.out.mono ?_
    rintro e w3 ⟨rfl, rfl⟩
    go_wp2
    refine bodyPost_ret (res2 (p := 6) (u := 7) rfl _ rfl HS.out.1) rfl ?_
    exact ⟨rfl, HFIN.out _ HS.out.2⟩
  · clear HH
    rcases e0 with e0 | ⟨e0, e1⟩
    · have e0I : (s : Int) = 0 := by omega
      have e0B : ((s : Int) != 0) = false := by rw [e0I]; rfl
      have hne0 := HNE.out
      rw [e0I] at hne0
      have HNE0 := Lib.hid hne0
      clear hne0
      go_enter Tryz.func71, Tryz.ntmps71
      go_wp2_with fail
      rw [HW0.out]
      go_wp2_with fail
      with_reducible refine HF.out.mono ?_
      rintro e w2 ⟨rfl, rfl⟩
      go_wp2_with fail
      rw [HW1.out]
      go_wp2_with fail
      with_reducible refine HNE0.out.mono ?_
      rintro e w3 ⟨rfl, rfl⟩
      go_wp2
      refine bodyPost_ret (res2 (p := 6) (u := 7) rfl _ rfl HS.out.1) rfl ?_
      exact ⟨rfl, HFIN.out _ HS.out.2⟩
    · have e0I : ¬ (s : Int) = 0 := by omega
      have e1I : ¬ (s : Int) = (rs : Int) := by omega
      have e0B : ((s : Int) != 0) = true := by simp; omega
      have e1B : ((s : Int) == (rs : Int)) = false := by simp; omega
      go_enter Tryz.func71, Tryz.ntmps71
      go_wp2_with fail
      rw [HW0.out]
      go_wp2_with fail
      with_reducible refine HF.out.mono ?_
      rintro e w2 ⟨rfl, rfl⟩
      go_wp2_with fail
      rw [HW1.out]
      go_wp2_with fail
      with_reducible refine HNE.out.mono ?_
      rintro e w3 ⟨rfl, rfl⟩
      go_wp2
      refine bodyPost_ret (res2 (p := 6) (u := 7) rfl _ rfl HS.out.1) rfl ?_
      exact ⟨rfl, HFIN.out _ HS.out.2⟩

/-! ### End -/
set_option maxRecDepth 100000 in
theorem end_none (id s : Nat) (y : Ry) (w : World) :
    Calls Tryz.prog 73 #[.pointer none, .int .u64 (id : Int), .int .u64 (s : Int), ryV y] w fun e w' => e = .returned (.bool false) ∧ Below w.heap.size w w' := by
  obtain ⟨ye, yn, yx⟩ := y
  unfold ryV
  simp only
  have hbo : Below w.heap.size w (w.alloc (.cells #[.int .i64 ye, .int .u64 (yn : Int), .int .u64 (yx : Int)] 32)) := (Below.refl _ _).alloc (Nat.le_refl _) _
  have HF := Lib.hid fun w => find_none id w
  go_enter Tryz.func73, Tryz.ntmps73
  go_wp2_with fail
  with_reducible refine (HF.out _).mono ?_
  rintro e w1 ⟨rfl, rfl⟩
  go_wp2
  go_ret
  exact ⟨rfl, hbo⟩
set_option maxRecDepth 100000 in
theorem end_no (h : PT T B w p v m) (id s : Nat) (hn : seek m.rows id = none) (y : Ry) :
    Calls Tryz.prog 73 #[.pointer (some ⟨p, 0, none⟩), .int .u64 (id : Int), .int .u64 (s : Int), ryV y] w fun e w' => e = .returned (.bool false) ∧ PLeft T B w p v m w' := by
  obtain ⟨ye, yn, yx⟩ := y
  unfold ryV
  simp only
  have hbo : Below w.heap.size w (w.alloc (.cells #[.int .i64 ye, .int .u64 (yn : Int), .int .u64 (yx : Int)] 32)) := (Below.refl _ _).alloc (Nat.le_refl _) _
  have HF := Lib.hid (find_no (h.below hbo) id hn)
  have HH := Lib.hid h
  clear h hn
  go_enter Tryz.func73, Tryz.ntmps73
  go_wp2_with fail
  with_reducible refine HF.out.mono ?_
  rintro e w1 ⟨rfl, rfl⟩
  go_wp2
  go_ret
  exact ⟨rfl, LeftT.of_below HH.out hbo⟩
set_option maxRecDepth 100000 in
set_option maxHeartbeats 4000000 in
theorem end_stale (h : PT T B w p v m) (id s : Nat) (hs : U s) {i : Nat} (hn : seek m.rows id = some i) {r : Rw} (hi : m.rows[i]? = some r) (hb : isNext r s = false) (y : Ry) :
    Calls Tryz.prog 73 #[.pointer (some ⟨p, 0, none⟩), .int .u64 (id : Int), .int .u64 (s : Int), ryV y] w fun e w' => e = .returned (.bool false) ∧ PLeft T B w p v m w' := by
  obtain ⟨ye, yn, yx⟩ := y
  unfold ryV
  simp only
  have hbo : Below w.heap.size w (w.alloc (.cells #[.int .i64 ye, .int .u64 (yn : Int), .int .u64 (yx : Int)] 32)) := (Below.refl _ _).alloc (Nat.le_refl _) _
  have h0 := h.below hbo
  obtain ⟨g, c, hv, hnc, hcm, hBg, hgl, hgp, hsix, hfr⟩ := h0.row hi
  have HF := Lib.hid (find_yes h0 id hn hv)
  have HNE := Lib.hid (next_any (s := s) (b := false) hsix hgl hs (Lib.hid hb))
  have HH := Lib.hid h
  clear h h0 hn hi hb hsix hfr hv
  go_enter Tryz.func73, Tryz.ntmps73
  go_wp2_with fail
  with_reducible refine HF.out.mono ?_
  rintro e w1 ⟨rfl, rfl⟩
  go_wp2_with fail
  with_reducible refine HNE.out.mono ?_
  rintro e w2 ⟨rfl, rfl⟩
  go_wp2
  go_ret
  exact ⟨rfl, LeftT.of_below HH.out hbo⟩
set_option maxRecDepth 100000 in
set_option maxHeartbeats 4000000 in
theorem end_yes (h : PT T B w p v m) (id s : Nat) (hs : U s) {i : Nat} (hn : seek m.rows id = some i) {r : Rw} (hi : m.rows[i]? = some r) (hb : isNext r s = true) (y : Ry) :
    Calls Tryz.prog 73 #[.pointer (some ⟨p, 0, none⟩), .int .u64 (id : Int), .int .u64 (s : Int), ryV y] w fun e w' => e = .returned (.bool true) ∧ PLeft T B w p v ⟨m.now, m.next, m.rows.set i (endRow r s y)⟩ w' := by
  have hbo : Below w.heap.size w (w.alloc (.cells #[.int .i64 y.err, .int .u64 (y.num : Int), .int .u64 (y.ext : Int)] 32)) := (Below.refl _ _).alloc (Nat.le_refl _) _
  obtain ⟨w0, hw0⟩ : ∃ w0, w.alloc (.cells #[.int .i64 y.err, .int .u64 (y.num : Int), .int .u64 (y.ext : Int)] 32) = w0 := ⟨_, rfl⟩
  have hx := Box3.new w (.int .i64 y.err) (.int .u64 (y.num : Int)) (.int .u64 (y.ext : Int))
  rw [hw0] at hbo hx
  have hlt0 : w.heap.size < w0.heap.size := by rw [← hw0]; simp
  have h0 := h.below hbo
  obtain ⟨g, c, hv, hnc, hcm, hBg, hgl, hgp, hsix, hfr⟩ := h0.row hi
  have hgo : v.ownBlock = some g := by rw [hv]; rfl
  have hglw : g < w.heap.size := (h.own.lt g hgo).2
  have hf := find_yes h0 id hn hv
  have hne := next_any (s := s) (b := true) hsix hgl hs (Lib.hid hb)
  have hil : i < m.rows.length := (List.getElem?_eq_some_iff.1 hi).1
  have hd := h0.below ((Below.refl _ _).drew)
  obtain ⟨h1, o1⟩ := Boxs.TAt.seqd hd hi hgo s
  obtain ⟨h2, o2⟩ := Boxs.TAt.replied h1 (i := i) (r := endRow r s r.y) (by show (m.rows.set i _)[i]? = _; rw [List.getElem?_set_self hil]) hgo y
  simp only [List.set_set] at h2
  have HFIN : Hid (PLeft T B w p v ⟨m.now, m.next, m.rows.set i (endRow r s y)⟩ ((((w0.drew.setCell ⟨g, i * 6 + 2, none⟩ (.int .u64 (s : Int))).setCell ⟨g, i * 6 + 3, none⟩ (.int .i64 y.err)).setCell ⟨g, i * 6 + 4, none⟩ (.int .u64 (y.num : Int))).setCell ⟨g, i * 6 + 5, none⟩ (.int .u64 (y.ext : Int)))) :=
    LeftT.afterBelow (hbo.trans (((Below.refl w0.heap.size w0).drew).mono hbo.size)) ⟨v, h2, (o1.trans o2).mono fun q _ e => .inr (by rw [hgo, e]), fun g hg => .inl hg⟩
  have HW0 := Lib.hid hw0
  have HF := Lib.hid hf
  have HNE := Lib.hid hne
  have x0 := hx.c0
  have x1 := hx.c1
  have x2 := hx.c2
  have ltx := hx.lt
  have s2 := hsix.c2
  have s3 := hsix.c3
  have s4 := hsix.c4
  have s5 := hsix.c5
  have f2 := hfr (i * 6 + 2)
  have f3 := hfr (i * 6 + 3)
  have f4 := hfr (i * 6 + 4)
  have f5 := hfr (i * 6 + 5)
  have hgw : g ≠ w.heap.size := by omega
  have hgw' : w.heap.size ≠ g := by omega
  obtain ⟨ye, yn, yx⟩ := y
  unfold ryV
  simp only at x0 x1 x2 HFIN HW0 ⊢
  clear hw0 hbo hx h h0 hsix hfr hf hne hd h1 o1 h2 o2 hn hb hi hil
  go_enter Tryz.func73, Tryz.ntmps73
  go_wp2_with fail
  rw [HW0.out]
  go_wp2_with fail
  with_reducible refine HF.out.mono ?_
  rintro e w1 ⟨rfl, rfl⟩
  go_wp2_with fail
  with_reducible refine HNE.out.mono ?_
  rintro e w2 ⟨rfl, rfl⟩
  go_wp2_with fail
  go_region
  all_goals go_wp2
  all_goals go_ret
  all_goals exact ⟨rfl, HFIN.out⟩
end
end Go.Proofs.YthaepkpmpnofgaaGreat.SsnWalkC
set_option linter.unusedVariables false
namespace Go.Proofs.YthaepkpmpnofgaaGreat.AppP
open Go.RowKit Go.Proofs.YthaepkpmpnofgaaGreat.Kit Go.Proofs.YthaepkpmpnofgaaGreat.Rws

section
variable {B n m c : Nat} {A : Option Addr} {v : Value} {xs news : List Value}
theorem run_app (w : World) (base : Nat) (hown : w.ownsRow base 63 6 v n xs) (hr : Reads w B 6 A m news) (h1 : ∀ u ∈ news, u.oneCell' = true) (hb : (n + m) * 48 ≤ 140737488355328) (hbase : base ≤ w.heap.size) (ty : TypeId) :
    ∃ A' c' w', (Builtin.append_ #[60, 60] ty #[v, .slice A m c]).run Tryz.prog w = .ok (.slice A' (n + m) c') w' ∧ w'.ownsRow base 63 6 (.slice A' (n + m) c') (n + m) (xs ++ news) ∧ w.grownBy w' v.ownBlock ∧
      ((Value.slice A' (n + m) c').ownBlock = v.ownBlock ∨ (Value.slice A' (n + m) c').ownBlock = some w.heap.size) := by
  obtain ⟨i0, hi0, hz0, hz1, hz2⟩ := info_parts infoP
  obtain ⟨v', w', hrun, h2, h3, h4⟩ := run_append_any (P := Tryz.prog) w base 60 ty 63 i0 _ 6 48 Tryz.underlying60 hi0 hz0 hz1 hz2 rfl (by decide) v n xs hown B A m c news hr h1 (by unfold maxLen; omega) hb hbase
  obtain ⟨A', c', rfl, _, _, _⟩ := own_form h2
  exact ⟨A', c', w', hrun, h2, h3, h4⟩
theorem wp_app {o : Oper} {a : Act} {K : Act → World → Prop} {Q : Exit → Act → World → Prop} (w : World) (s x : Operand) 
    (ho : o.op = .call { callee := .builtin .append, args := #[s, x], argTypes := #[60, 60] })
    (base : Nat) (hs : a.eval s = v) (hown : w.ownsRow base 63 6 v n xs) (hx : a.eval x = .slice A m c) (hr : Reads w B 6 A m news) (h1 : ∀ u ∈ news, u.oneCell' = true) (hb : (n + m) * 48 ≤ 140737488355328) (hbase : base ≤ w.heap.size)
    (h : ∀ A' c' w', w'.ownsRow base 63 6 (.slice A' (n + m) c') (n + m) (xs ++ news) → w.grownBy w' v.ownBlock →
      ((Value.slice A' (n + m) c').ownBlock = v.ownBlock ∨ (Value.slice A' (n + m) c').ownBlock = some w.heap.size) → K (a.put o.dst (.slice A' (n + m) c')) w') : o.wp Tryz.prog a w K Q := by
  obtain ⟨A', c', w', hrun, h2, h3, h4⟩ := run_app (c := c) w base hown hr h1 hb hbase o.type
  unfold Oper.wp execOp
  simp only [ho, resolve, invoke, builtin, Sem.run_bind, Sem.run_pure, Result.andThen_ok, List.map_toArray, List.map_cons, List.map_nil, hs, hx, hrun]
  exact h A' c' w' h2 h3 h4
theorem wpList_app {ops : Array Oper} {rest : List Oper} {o : Oper} {a : Act} {Q : Exit → Act → World → Prop} (w : World) (hgd : o.guard = none) (s x : Operand) 
    (ho : o.op = .call { callee := .builtin .append, args := #[s, x], argTypes := #[60, 60] })
    (base : Nat) (hs : a.eval s = v) (hown : w.ownsRow base 63 6 v n xs) (hx : a.eval x = .slice A m c) (hr : Reads w B 6 A m news) (h1 : ∀ u ∈ news, u.oneCell' = true) (hb : (n + m) * 48 ≤ 140737488355328) (hbase : base ≤ w.heap.size)
    (h : ∀ A' c' w', w'.ownsRow base 63 6 (.slice A' (n + m) c') (n + m) (xs ++ news) → w.grownBy w' v.ownBlock →
      ((Value.slice A' (n + m) c').ownBlock = v.ownBlock ∨ (Value.slice A' (n + m) c').ownBlock = some w.heap.size) → wpList Tryz.prog ops Q rest (a.put o.dst (.slice A' (n + m) c')) w') : wpList Tryz.prog ops Q (o :: rest) a w :=
  wpList_plain hgd fun _ hK => wp_app w s x ho base hs hown hx hr h1 hb hbase fun A' c' w' h2 h3 h4 => hK _ _ (h A' c' w' h2 h3 h4)
theorem step_app {ops : Array Oper} {o : Oper} {a : Act} {K : Act → World → Prop} {Q : Exit → Act → World → Prop} {E : Prop} (w : World) (hgd : o.guard = none) (s x : Operand) 
    (ho : o.op = .call { callee := .builtin .append, args := #[s, x], argTypes := #[60, 60] })
    (base : Nat) (hs : a.eval s = v) (hown : w.ownsRow base 63 6 v n xs) (hx : a.eval x = .slice A m c) (hr : Reads w B 6 A m news) (h1 : ∀ u ∈ news, u.oneCell' = true) (hb : (n + m) * 48 ≤ 140737488355328) (hbase : base ≤ w.heap.size)
    (h : ∀ A' c' w', w'.ownsRow base 63 6 (.slice A' (n + m) c') (n + m) (xs ++ news) → w.grownBy w' v.ownBlock →
      ((Value.slice A' (n + m) c').ownBlock = v.ownBlock ∨ (Value.slice A' (n + m) c').ownBlock = some w.heap.size) → K (a.put o.dst (.slice A' (n + m) c')) w') :
    if Region.wanted o (yielded ops a.tmps) = true then Oper.wp Tryz.prog o a w K Q else E := by
  have hw : Region.wanted o (yielded ops a.tmps) = true := by simp [Region.wanted, hgd]
  rw [if_pos hw]
  exact wp_app w s x ho base hs hown hx hr h1 hb hbase h
end
end Go.Proofs.YthaepkpmpnofgaaGreat.AppP
set_option linter.unusedVariables false
set_option linter.unusedSimpArgs false
namespace Go.Proofs.YthaepkpmpnofgaaGreat.SsnWalkB
open Go.RowKit Go.Proofs.YthaepkpmpnofgaaGreat.Kit Go.Proofs.YthaepkpmpnofgaaGreat.Blocks Go.Proofs.YthaepkpmpnofgaaGreat.Ses Go.Proofs.YthaepkpmpnofgaaGreat.Rws Go.Proofs.YthaepkpmpnofgaaGreat.SsnWalkA

/-- One more row is laid behind the others. -/
theorem TAt.added {B : Nat} {T : Shape} {E : TypeId} {w W : World} {p n : Nat} {v : Value} {m : Tb} (h : TAt B T E w p v m) (hn : m.rows.length = n) (r : Rw) (hK : Below w.heap.size w W) (A' : Option Addr) (c' : Nat) (w3 : World)
    (hown : w3.ownsRow B E 6 (.slice A' (n + 1) c') (n + 1) (rcells m.rows ++ rcells [r])) (hg : W.grownBy w3 v.ownBlock) (hat : (Value.slice A' (n + 1) c').ownBlock = v.ownBlock ∨ (Value.slice A' (n + 1) c').ownBlock = some W.heap.size) :
    w3.cell? ⟨p, 2, none⟩ = some v ∧ w3.frozen? ⟨p, 2, none⟩ = false ∧ p < w3.heap.size ∧ LeftT B T E w p v ⟨m.now, m.next, m.rows ++ [r]⟩ (w3.setCell ⟨p, 2, none⟩ (.slice A' (n + 1) c')) := by
  have s2 := hK.size
  refine h.rowed ((Only.of_below hK).grown hg fun g e => .inr e) hown (by simp [hn]) (by rw [rcells_append]) fun q hq => ?_
  rcases hat with h1 | h1
  · exact .inl (h1 ▸ hq)
  · rw [hq] at h1; cases h1; exact .inr (by omega)
section
variable {T : Shape} {B : Nat} {w : World} {p : Nat} {v : Value} {m : Tb}
set_option maxRecDepth 100000 in
theorem reg_none (w : World) : Calls Tryz.prog 68 #[.pointer none] w fun e w' => e = .returned (.tuple #[.int .u64 0, .int .i64 11]) ∧ w' = w := by
  go_enter Tryz.func68, Tryz.ntmps68
  go_wp2
  go_ret2
  exact ⟨rfl, rfl⟩
set_option maxRecDepth 100000 in
theorem reg_no (h : PT T B w p v m) (hx : U m.next) (hr : canReg m = false) : Calls Tryz.prog 68 #[.pointer (some ⟨p, 0, none⟩)] w fun e w' => e = .returned (.tuple #[.int .u64 0, .int .i64 11]) ∧ w' = w := by
  have c1 := h.c1
  have c2 := h.c2
  have hp := h.plt
  obtain ⟨A, c, rfl, hnc, hcm, _⟩ := h.form
  obtain ⟨n, hl⟩ : ∃ n, m.rows.length = n := ⟨_, rfl⟩
  unfold canReg at hr
  rw [hl] at hnc c2 hr
  clear h hl
  by_cases h16 : 16 ≤ n
  · have hI : (16 : Int) ≤ (n : Int) := by omega
    clear hr
    go_enter Tryz.func68, Tryz.ntmps68
    go_wp2
    go_ret2
    exact ⟨rfl, rfl⟩
  · have hI : ¬ (16 : Int) ≤ (n : Int) := by omega
    have hnx : m.next = 18446744073709551615 := by
      rw [decide_eq_true (show n < 16 by omega), Bool.true_and] at hr
      have := of_decide_eq_false hr
      omega
    rw [hnx] at c1
    clear hr
    go_enter Tryz.func68, Tryz.ntmps68
    go_wp2
    go_ret2
    exact ⟨rfl, rfl⟩
set_option maxRecDepth 100000 in
set_option maxHeartbeats 4000000 in
theorem reg_yes (h : PT T B w p v m) (hx : U m.next) (hr : canReg m = true) : Calls Tryz.prog 68 #[.pointer (some ⟨p, 0, none⟩)] w fun e w' => e = .returned (.tuple #[.int .u64 (m.next : Int), .int .i64 0]) ∧ PLeft T B w p v ⟨m.now, m.next + 1, m.rows ++ [freshRow m]⟩ w' := by
  unfold canReg at hr
  simp only [Bool.and_eq_true, decide_eq_true_eq] at hr
  obtain ⟨hr1, hr2⟩ := hr
  have c1 := h.c1
  have c2 := h.c2
  have hp := h.plt
  have f1 := h.free 1
  obtain ⟨A, c, hv, hnc, hcm, _⟩ := h.form
  obtain ⟨n, hl⟩ : ∃ n, m.rows.length = n := ⟨_, rfl⟩
  rw [hl] at hnc hv hr1
  rw [hv] at c2
  have hI : ¬ (16 : Int) ≤ (n : Int) := by omega
  have hI2 : ¬ (m.next : Int) = 18446744073709551615 := by omega
  have hw : IntKind.u64.wrap ((m.next : Int) + 1) = ((m.next + 1 : Nat) : Int) := by rw [show (m.next : Int) + 1 = ((m.next + 1 : Nat) : Int) by omega]; exact IntWalk.u64_in _ ⟨by omega, by omega⟩
  obtain ⟨h1, o1⟩ := h.nexted (m.next + 1)
  obtain ⟨w1, hw1⟩ : ∃ w1, w.setCell ⟨p, 1, none⟩ (.int .u64 ((m.next + 1 : Nat) : Int)) = w1 := ⟨_, rfl⟩
  rw [hw1] at h1 o1
  obtain ⟨N1, hN1⟩ : ∃ N1, m.next + 1 = N1 := ⟨_, rfl⟩
  obtain ⟨NX, hNX⟩ : ∃ NX, m.next = NX := ⟨_, rfl⟩
  obtain ⟨NW, hNW⟩ : ∃ NW, m.now = NW := ⟨_, rfl⟩
  rw [hN1] at hw hw1 h1
  rw [hNX] at hw hI2 c1
  have d0 := h1.c0
  have d2 := h1.c2
  rw [hv] at d2
  have hp1 := h1.plt
  simp only at d0
  rw [hNW] at d0
  have HB : Hid (∀ o, Below w1.heap.size w1 (w1.drew.alloc o)) := fun o => ((Below.refl _ _).drew).alloc (Nat.le_refl _) o
  have HO : Hid (∀ o, (w1.drew.alloc o).ownsRow B 63 6 (.slice A n c) n (rcells m.rows)) := fun o => by
    have := (h1.below (HB.out o)).own
    rw [hv] at this
    simpa only [hl] using this
  have HNW : Hid (RR (w1.drew.alloc (.cells #[.int .u64 (NX : Int), .int .u64 (NW : Int), .int .u64 0, .int .i64 0, .int .u64 0, .int .u64 0] 63)) (w1.heap.size + 1) (some ⟨w1.heap.size, 0, none⟩) 1 [freshRow m]) := by
    rw [← hNX, ← hNW]; exact rw_new w1.drew (freshRow m) 63
  have HBS : Hid (∀ o, B ≤ (w1.drew.alloc o).heap.size) := fun o => by have := h1.base; simp; omega
  have HFIN := Lib.hid (fun o => TAt.added (W := w1.drew.alloc o) h1 hl (freshRow m) (HB.out o))
  have HV := Lib.hid hv
  have HW1 := Lib.hid hw1
  have HO1 := Lib.hid o1
  have HH := Lib.hid h
  rw [hN1, hNX]
  have HNW1 := Lib.hid hNW
  clear h h1 o1 hv hw1 hl hN1 hNX hNW
  go_enter Tryz.func68, Tryz.ntmps68
  go_wp2_with fail
  rw [HW1.out]
  go_region_law (
     refine AppP.step_app (v := .slice A n c) (xs := rcells m.rows) _ rfl _ _ rfl B rfl (HO.out _) rfl HNW.out (rcells_one _) (by omega) (HBS.out _) ?_
     intro A' c' w3 hown3 hg3 hat3
     obtain ⟨q1, q2, q3, q4⟩ := HFIN.out _ A' c' w3 hown3 (by rw [HV.out]; exact hg3) (by rw [HV.out]; exact hat3)
     rw [HV.out] at q1
     have Q4 := Lib.hid q4
     clear q4 hown3 hg3 hat3)
  all_goals go_wp2
  all_goals go_ret2
  all_goals exact ⟨rfl, LeftT.then (HO1.out.mono fun q _ hq => .inl hq) (fun g hg => .inl hg) Q4.out⟩
end
end Go.Proofs.YthaepkpmpnofgaaGreat.SsnWalkB
