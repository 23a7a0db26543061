/- What the program's Compact and Install leave, walked. -/
import Derived.Test.YtokifeghoodkgaaRlgWalkJ
set_option linter.unusedVariables false
namespace Go.Proofs.Ytokifeghoodkgaa.RlgWalkK
open Go.RowKit Go.Proofs.Ytokifeghoodkgaa.Kit Go.Proofs.Ytokifeghoodkgaa.Blocks Go.Proofs.Ytokifeghoodkgaa.Rlog Go.Proofs.Ytokifeghoodkgaa.Ents Go.Proofs.Ytokifeghoodkgaa.LogAt Go.Proofs.Ytokifeghoodkgaa.App Go.Proofs.Ytokifeghoodkgaa.RlgWalkA Go.Proofs.Ytokifeghoodkgaa.RlgWalkB Go.Proofs.Ytokifeghoodkgaa.RlgWalkC Go.Proofs.Ytokifeghoodkgaa.RlgWalkD Go.Proofs.Ytokifeghoodkgaa.RlgWalkE Go.Proofs.Ytokifeghoodkgaa.RlgWalkF Go.Proofs.Ytokifeghoodkgaa.RlgWalkG Go.Proofs.Ytokifeghoodkgaa.RlgWalkH Go.Proofs.Ytokifeghoodkgaa.RlgWalkI Go.Proofs.Ytokifeghoodkgaa.RlgWalkJ
open Go.Proofs.Ytokifeghoodkgaa.Quorum (sound)

/-- A call that answers a number leaves this log. -/
def Answers (T : TypeId) (B : Nat) (w : World) (p : Nat) (v : Value) (r : Int × G) (e : Ending) (w' : World) : Prop := e = .returned (.int .i64 r.1) ∧ LeftL T B w p v r.2 w'
section
variable {B p : Nat} {v : Value} {g : G} {w : World} (h : LP B w p v g) (f : Fine g)
include h
include f
/-! ### Install -/
/-- A log, and a snapshot's box beside it, since a world. -/
structure InSt (B p : Nat) (v : Value) (g : G) (s : Snap) (w W : World) : Prop where
  log : LP B W p v g
  box : Box4 W w.heap.size (.int .u64 (s.idx : Int)) (.int .u64 (s.term : Int)) (.int .u64 (s.cfg : Int)) (.string s.data) 30
  since : Below w.heap.size w W
omit h f in
theorem InSt.drewN {s : Snap} {W : World} (k : InSt B p v g s w W) (n : Nat) : InSt B p v g s w (W.drewN n) :=
  ⟨k.log.below (below_drewN (Below.refl _ _) n), k.box.below (below_drewN (Below.refl _ _) n), below_drewN k.since n⟩
omit f in
theorem InSt.new (s : Snap) : InSt B p v g s w (w.alloc (.cells #[.int .u64 (s.idx : Int), .int .u64 (s.term : Int), .int .u64 (s.cfg : Int), .string s.data] 30)) :=
  have hb : Below w.heap.size w (w.alloc (.cells #[.int .u64 (s.idx : Int), .int .u64 (s.term : Int), .int .u64 (s.cfg : Int), .string s.data] 30)) := (Below.refl _ _).alloc (Nat.le_refl _) _
  ⟨h.below hb, Box4.new w _ _ _ _ _, hb⟩
section
variable {s : Snap} (hs : SnapB s)
include hs
omit f in
set_option maxRecDepth 100000 in
theorem install_mad (h1 : sound s.cfg = false) : Calls Try.prog 66 #[.pointer (some ⟨p, 0, none⟩), snapV s] w (Answers 63 B w p v (1, g)) := by
  have hcf := hs.cfg
  obtain ⟨ix, tm, cf, d⟩ := s
  simp only at *
  have HS := Lib.hid h1
  clear h1 hs
  have hba : Below w.heap.size w (w.alloc (.cells #[.int .u64 (ix : Int), .int .u64 (tm : Int), .int .u64 (cf : Int), .string d] 30)) := (Below.refl _ _).alloc (Nat.le_refl _) _
  unfold snapV
  go_enter Try.func66, Try.ntmps66
  go_wp2_with fail
  refine (sound_hid hcf HS _).mono ?_
  rintro e w1 ⟨rfl, rfl⟩
  go_wp2
  go_ret
  exact ⟨rfl, LeftL.of_below h hba⟩
omit f in
set_option maxRecDepth 100000 in
theorem install_old (h1 : sound s.cfg = true) (h2 : s.idx ≤ g.snap.idx) : Calls Try.prog 66 #[.pointer (some ⟨p, 0, none⟩), snapV s] w (Answers 63 B w p v (20, g)) := by
  have hcf := hs.cfg
  have c0 := h.c0
  have hlt := h.lt
  obtain ⟨S, hS⟩ : ∃ S, g.snap.idx = S := ⟨_, rfl⟩
  rw [hS] at c0 h2
  obtain ⟨ix, tm, cf, d⟩ := s
  simp only at *
  have HS := Lib.hid h1
  have h21 : decide (ix ≤ S) = true := decide_eq_true h2
  clear h1 hs hS
  have hba : Below w.heap.size w (w.alloc (.cells #[.int .u64 (ix : Int), .int .u64 (tm : Int), .int .u64 (cf : Int), .string d] 30)) := (Below.refl _ _).alloc (Nat.le_refl _) _
  unfold snapV
  go_enter Try.func66, Try.ntmps66
  go_wp2_with fail
  refine (sound_hid hcf HS _).mono ?_
  rintro e w1 ⟨rfl, rfl⟩
  go_wp2_with fail
  go_quiet (fail)
  all_goals go_wp2
  all_goals go_ret
  all_goals exact ⟨rfl, LeftL.of_below h (below_drewN hba _)⟩
omit f hs in
/-- Behind drop: the snapshot is laid. -/
theorem install_end {wq w4 : World} {n : Nat} (hq : Below w.heap.size w wq) (hx : Box4 wq w.heap.size (.int .u64 (s.idx : Int)) (.int .u64 (s.term : Int)) (.int .u64 (s.cfg : Int)) (.string s.data) 30) (hL : LeftL 63 B wq p v { g with es := g.es.drop n } w4) :
    Box4 w4 w.heap.size (.int .u64 (s.idx : Int)) (.int .u64 (s.term : Int)) (.int .u64 (s.cfg : Int)) (.string s.data) 30 ∧ (∃ a b c d v', w4.heap[p]? = some (.cells #[a, b, c, d, v'] 63 (0, 0))) ∧
      LeftL 63 B w p v ⟨s, g.es.drop n⟩ ((((w4.setCell ⟨p, 0, none⟩ (.int .u64 (s.idx : Int))).setCell ⟨p, 1, none⟩ (.int .u64 (s.term : Int))).setCell ⟨p, 2, none⟩ (.int .u64 (s.cfg : Int))).setCell ⟨p, 3, none⟩ (.string s.data)) := by
  obtain ⟨v4, h4, o4, f4⟩ := hL
  refine ⟨hx.keep o4 fun e => ?_, ⟨_, _, _, _, _, h4.cell⟩, LeftL.afterBelow hq (LeftL.then o4 f4 (h4.snapped s))⟩
  have := (h.foot_lt e).2
  omega
omit f in
set_option maxRecDepth 100000 in
set_option maxHeartbeats 1000000 in
/-- A newer one, its index not in the log. -/
theorem install_far (h1 : sound s.cfg = true) (h2 : ¬ s.idx ≤ g.snap.idx) (hp : place g s.idx = none) (hl : g.es.length * 40 ≤ 140737488355328) : Calls Try.prog 66 #[.pointer (some ⟨p, 0, none⟩), snapV s] w (Answers 63 B w p v (0, ⟨s, []⟩)) := by
  have hcf := hs.cfg
  have hib := hs.idx
  have c0 := h.c0
  have hlt := h.lt
  obtain ⟨S, hS⟩ : ∃ S, g.snap.idx = S := ⟨_, rfl⟩
  rw [hS] at c0 h2
  have HST := Lib.hid (InSt.new h s)
  obtain ⟨ix, tm, cf, d⟩ := s
  simp only at *
  have HS := Lib.hid h1
  have h21 : decide (ix ≤ S) = false := decide_eq_false h2
  have H := Lib.hid h
  have c4 := h.c4
  obtain ⟨A, c, rfl, hnc, hcm, hr⟩ := h.form
  obtain ⟨n, hn⟩ : ∃ n, g.es.length = n := ⟨_, rfl⟩
  rw [hn] at c4 hnc
  have HN := Lib.hid hn
  have HNP := Lib.hid hp
  clear h1 hs hS hp h hn hr
  unfold snapV
  go_enter Try.func66, Try.ntmps66
  go_wp2_with fail
  refine (sound_hid hcf HS _).mono ?_
  rintro e w1 ⟨rfl, rfl⟩
  go_wp2_with fail
  go_quiet (fail)
  have hst := HST.out.drewN nq
  generalize (w.alloc (.cells #[.int .u64 (ix : Int), .int .u64 (tm : Int), .int .u64 (cf : Int), .string d] 30)).drewN nq = wq at hst ⊢
  have c4q := hst.log.c4
  rw [HN.out] at c4q
  have HQ := Lib.hid hst
  have hltq := hst.log.lt
  have x0 := hst.box.c0
  have x1 := hst.box.c1
  have hltx := hst.box.lt
  simp only at x0 x1
  have HPL := Lib.hid (place_not hst.log hib HNP.out)
  clear hst
  go_wp2_with fail
  refine HPL.out.mono ?_
  rintro e w1 ⟨rfl, rfl⟩
  go_wp2_with fail
  go_quiet (fail)
  have hsr := HQ.out.drewN nq
  generalize wq.drewN nq = wr at hsr ⊢
  have y0 := hsr.box.c0
  have y1 := hsr.box.c1
  have y2 := hsr.box.c2
  have y3 := hsr.box.c3
  have hlty := hsr.box.lt
  have HSR := Lib.hid hsr
  simp only at y0 y1 y2 y3
  clear hsr
  go_wp2_with fail
  refine (drop_any HSR.out.log n (by rw [HN.out]; exact Nat.le_refl _) hl).mono ?_
  rintro e w4 ⟨rfl, hL⟩
  obtain ⟨hx4, ⟨a1, a2, a3, a4, v', hc4⟩, hfin⟩ := install_end (s := ⟨ix, tm, cf, d⟩) H.out HSR.out.since HSR.out.box hL
  have z0 := hx4.c0
  have z1 := hx4.c1
  have z2 := hx4.c2
  have z3 := hx4.c3
  have hlt4 := lt_at hc4
  have hltz := hx4.lt
  have q0 : w4.cell? ⟨p, 0, none⟩ = some a1 := by rw [cell_at hc4]; rfl
  have q1 : w4.cell? ⟨p, 1, none⟩ = some a2 := by rw [cell_at hc4]; rfl
  have q2 : w4.cell? ⟨p, 2, none⟩ = some a3 := by rw [cell_at hc4]; rfl
  have q3 : w4.cell? ⟨p, 3, none⟩ = some a4 := by rw [cell_at hc4]; rfl
  have f0 := free_at hc4 0
  have f1 := free_at hc4 1
  have f2 := free_at hc4 2
  have f3 := free_at hc4 3
  simp only at z0 z1 z2 z3
  have HFin := Lib.hid hfin
  clear hfin hx4 hc4 hL
  go_wp2
  go_ret
  have hF := HFin.out
  rw [List.drop_of_length_le (by rw [HN.out]; exact Nat.le_refl _)] at hF
  exact ⟨rfl, hF⟩
omit f in
set_option maxRecDepth 100000 in
set_option maxHeartbeats 1000000 in
/-- A newer one, its index in the log, with the term b tells of. -/
theorem install_near {k : Nat} {ee : Ent} (h1 : sound s.cfg = true) (h2 : ¬ s.idx ≤ g.snap.idx) (hp : place g s.idx = some k) (hk : g.es[k]? = some ee) (hl : g.es.length * 40 ≤ 140737488355328) (ht : ee.term = s.term) :
    Calls Try.prog 66 #[.pointer (some ⟨p, 0, none⟩), snapV s] w (Answers 63 B w p v (0, ⟨s, g.es.drop (k + 1)⟩)) := by
  have hcf := hs.cfg
  have hib := hs.idx
  have c0 := h.c0
  have hlt := h.lt
  obtain ⟨S, hS⟩ : ∃ S, g.snap.idx = S := ⟨_, rfl⟩
  rw [hS] at c0 h2
  have HST := Lib.hid (InSt.new h s)
  obtain ⟨ix, tm, cf, d⟩ := s
  simp only at *
  have HS := Lib.hid h1
  have h21 : decide (ix ≤ S) = false := decide_eq_false h2
  have H := Lib.hid h
  have c4 := h.c4
  obtain ⟨A, c, rfl, hnc, hcm, hr⟩ := h.form
  have hkl := (place_lt hp).1
  obtain ⟨b, o, e', rfl, hbl, he', hfour⟩ := RE.at_ hr hkl
  obtain rfl : ee = e' := by rw [hk] at he'; exact Option.some.inj he'
  have d0 := hfour.c0
  rw [ht] at d0
  obtain ⟨n, hn⟩ : ∃ n, g.es.length = n := ⟨_, rfl⟩
  rw [hn] at c4 hnc hkl
  have HN := Lib.hid hn
  have HNP := Lib.hid hp
  have HK1 : Hid (((k + 1 : Nat) : Int) = (k : Int) + 1) := by show _ = _; omega
  clear h1 hs hS hp h hn hr hk ht he' hfour
  unfold snapV
  go_enter Try.func66, Try.ntmps66
  go_wp2_with fail
  refine (sound_hid hcf HS _).mono ?_
  rintro e w1 ⟨rfl, rfl⟩
  go_wp2_with fail
  go_quiet (fail)
  have hst := HST.out.drewN nq
  generalize (w.alloc (.cells #[.int .u64 (ix : Int), .int .u64 (tm : Int), .int .u64 (cf : Int), .string d] 30)).drewN nq = wq at hst ⊢
  have c4q := hst.log.c4
  rw [HN.out] at c4q
  have HQ := Lib.hid hst
  have hltq := hst.log.lt
  have x0 := hst.box.c0
  have x1 := hst.box.c1
  have hltx := hst.box.lt
  simp only at x0 x1
  have HPL := Lib.hid (place_some hst.log hib HNP.out)
  have d0q := (hst.since.cell (p := ⟨b, o + k * 4, none⟩) hbl).trans d0
  have heq : ((tm : Int) == (tm : Int)) = true := by simp
  clear hst
  go_wp2_with fail
  refine HPL.out.mono ?_
  rintro e w1 ⟨rfl, rfl⟩
  go_wp2_with fail
  go_quiet (fail)
  have hsr := HQ.out.drewN nq
  generalize wq.drewN nq = wr at hsr ⊢
  have y0 := hsr.box.c0
  have y1 := hsr.box.c1
  have y2 := hsr.box.c2
  have y3 := hsr.box.c3
  have hlty := hsr.box.lt
  have HSR := Lib.hid hsr
  simp only at y0 y1 y2 y3
  clear hsr
  go_wp2_with fail
  have hdrop := drop_any HSR.out.log (k + 1) (by rw [HN.out]; omega) hl
  rw [HK1.out] at hdrop
  refine hdrop.mono ?_
  rintro e w4 ⟨rfl, hL⟩
  obtain ⟨hx4, ⟨a1, a2, a3, a4, v', hc4⟩, hfin⟩ := install_end (s := ⟨ix, tm, cf, d⟩) H.out HSR.out.since HSR.out.box hL
  have z0 := hx4.c0
  have z1 := hx4.c1
  have z2 := hx4.c2
  have z3 := hx4.c3
  have hlt4 := lt_at hc4
  have hltz := hx4.lt
  have q0 : w4.cell? ⟨p, 0, none⟩ = some a1 := by rw [cell_at hc4]; rfl
  have q1 : w4.cell? ⟨p, 1, none⟩ = some a2 := by rw [cell_at hc4]; rfl
  have q2 : w4.cell? ⟨p, 2, none⟩ = some a3 := by rw [cell_at hc4]; rfl
  have q3 : w4.cell? ⟨p, 3, none⟩ = some a4 := by rw [cell_at hc4]; rfl
  have f0 := free_at hc4 0
  have f1 := free_at hc4 1
  have f2 := free_at hc4 2
  have f3 := free_at hc4 3
  simp only at z0 z1 z2 z3
  have HFin := Lib.hid hfin
  clear hfin hx4 hc4 hL
  go_wp2
  go_ret
  exact ⟨rfl, HFin.out⟩
omit f in
set_option maxRecDepth 100000 in
set_option maxHeartbeats 1000000 in
theorem install_other {k : Nat} {ee : Ent} (h1 : sound s.cfg = true) (h2 : ¬ s.idx ≤ g.snap.idx) (hp : place g s.idx = some k) (hk : g.es[k]? = some ee) (hl : g.es.length * 40 ≤ 140737488355328) (ht : ee.term ≠ s.term) :
    Calls Try.prog 66 #[.pointer (some ⟨p, 0, none⟩), snapV s] w (Answers 63 B w p v (0, ⟨s, []⟩)) := by
  have hcf := hs.cfg
  have hib := hs.idx
  have c0 := h.c0
  have hlt := h.lt
  obtain ⟨S, hS⟩ : ∃ S, g.snap.idx = S := ⟨_, rfl⟩
  rw [hS] at c0 h2
  have HST := Lib.hid (InSt.new h s)
  obtain ⟨ix, tm, cf, d⟩ := s
  simp only at *
  have HS := Lib.hid h1
  have h21 : decide (ix ≤ S) = false := decide_eq_false h2
  have H := Lib.hid h
  have c4 := h.c4
  obtain ⟨A, c, rfl, hnc, hcm, hr⟩ := h.form
  have hkl := (place_lt hp).1
  obtain ⟨b, o, e', rfl, hbl, he', hfour⟩ := RE.at_ hr hkl
  obtain rfl : ee = e' := by rw [hk] at he'; exact Option.some.inj he'
  have d0 := hfour.c0
  have heq : ((ee.term : Int) == (tm : Int)) = false := by simp; omega
  obtain ⟨te, hte⟩ : ∃ te, ee.term = te := ⟨_, rfl⟩
  rw [hte] at d0 heq
  obtain ⟨n, hn⟩ : ∃ n, g.es.length = n := ⟨_, rfl⟩
  rw [hn] at c4 hnc hkl
  have HN := Lib.hid hn
  have HNP := Lib.hid hp
  clear h1 hs hS hp h hn hr hk ht he' hfour hte
  unfold snapV
  go_enter Try.func66, Try.ntmps66
  go_wp2_with fail
  refine (sound_hid hcf HS _).mono ?_
  rintro e w1 ⟨rfl, rfl⟩
  go_wp2_with fail
  go_quiet (fail)
  have hst := HST.out.drewN nq
  generalize (w.alloc (.cells #[.int .u64 (ix : Int), .int .u64 (tm : Int), .int .u64 (cf : Int), .string d] 30)).drewN nq = wq at hst ⊢
  have c4q := hst.log.c4
  rw [HN.out] at c4q
  have HQ := Lib.hid hst
  have hltq := hst.log.lt
  have x0 := hst.box.c0
  have x1 := hst.box.c1
  have hltx := hst.box.lt
  simp only at x0 x1
  have HPL := Lib.hid (place_some hst.log hib HNP.out)
  have d0q := (hst.since.cell (p := ⟨b, o + k * 4, none⟩) hbl).trans d0
  clear hst
  go_wp2_with fail
  refine HPL.out.mono ?_
  rintro e w1 ⟨rfl, rfl⟩
  go_wp2_with fail
  go_quiet (fail)
  have hsr := HQ.out.drewN nq
  generalize wq.drewN nq = wr at hsr ⊢
  have y0 := hsr.box.c0
  have y1 := hsr.box.c1
  have y2 := hsr.box.c2
  have y3 := hsr.box.c3
  have hlty := hsr.box.lt
  have HSR := Lib.hid hsr
  simp only at y0 y1 y2 y3
  clear hsr
  go_wp2_with fail
  refine (drop_any HSR.out.log n (by rw [HN.out]; exact Nat.le_refl _) hl).mono ?_
  rintro e w4 ⟨rfl, hL⟩
  obtain ⟨hx4, ⟨a1, a2, a3, a4, v', hc4⟩, hfin⟩ := install_end (s := ⟨ix, tm, cf, d⟩) H.out HSR.out.since HSR.out.box hL
  have z0 := hx4.c0
  have z1 := hx4.c1
  have z2 := hx4.c2
  have z3 := hx4.c3
  have hlt4 := lt_at hc4
  have hltz := hx4.lt
  have q0 : w4.cell? ⟨p, 0, none⟩ = some a1 := by rw [cell_at hc4]; rfl
  have q1 : w4.cell? ⟨p, 1, none⟩ = some a2 := by rw [cell_at hc4]; rfl
  have q2 : w4.cell? ⟨p, 2, none⟩ = some a3 := by rw [cell_at hc4]; rfl
  have q3 : w4.cell? ⟨p, 3, none⟩ = some a4 := by rw [cell_at hc4]; rfl
  have f0 := free_at hc4 0
  have f1 := free_at hc4 1
  have f2 := free_at hc4 2
  have f3 := free_at hc4 3
  simp only at z0 z1 z2 z3
  have HFin := Lib.hid hfin
  clear hfin hx4 hc4 hL
  go_wp2
  go_ret
  have hF := HFin.out
  rw [List.drop_of_length_le (by rw [HN.out]; exact Nat.le_refl _)] at hF
  exact ⟨rfl, hF⟩
omit f in
/-- Whatever snapshot comes. -/
theorem install_any (hl : g.es.length * 40 ≤ 140737488355328) : Calls Try.prog 66 #[.pointer (some ⟨p, 0, none⟩), snapV s] w (Answers 63 B w p v (install g s)) := by
  unfold install
  cases h1 : sound s.cfg with
  | false => rw [if_pos rfl]; exact install_mad h hs h1
  | true =>
    rw [if_neg (by simp)]
    by_cases h2 : s.idx ≤ g.snap.idx
    · rw [if_pos h2]; exact install_old h hs h1 h2
    · rw [if_neg h2]
      unfold behind
      cases hp : place g s.idx with
      | none => exact install_far h hs h1 h2 hp hl
      | some k =>
        have hk := List.getElem?_eq_getElem (place_lt hp).1
        simp only [hk, Option.map_some, Option.some.injEq]
        by_cases ht : (g.es[k]'(place_lt hp).1).term = s.term
        · rw [if_pos ht]; exact install_near h hs h1 h2 hp hk hl ht
        · rw [if_neg ht]; exact install_other h hs h1 h2 hp hk hl ht
end
end
end Go.Proofs.Ytokifeghoodkgaa.RlgWalkK
