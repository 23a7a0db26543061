/- What the document's Install leaves, walked. -/
import Derived.Test.YtndehdnffajigaaRefG
set_option linter.unusedVariables false
namespace Go.Proofs.Ytndehdnffajigaa.RefH
open Go.RowKit Go.Proofs.Ytndehdnffajigaa.Kit Go.Proofs.Ytndehdnffajigaa.Blocks Go.Proofs.Ytndehdnffajigaa.Rlog Go.Proofs.Ytndehdnffajigaa.Ents Go.Proofs.Ytndehdnffajigaa.LogAt Go.Proofs.Ytndehdnffajigaa.App Go.Proofs.Ytndehdnffajigaa.WalkA Go.Proofs.Ytndehdnffajigaa.WalkB Go.Proofs.Ytndehdnffajigaa.WalkC Go.Proofs.Ytndehdnffajigaa.WalkD Go.Proofs.Ytndehdnffajigaa.WalkF Go.Proofs.Ytndehdnffajigaa.WalkG Go.Proofs.Ytndehdnffajigaa.WalkH Go.Proofs.Ytndehdnffajigaa.WalkK Go.Proofs.Ytndehdnffajigaa.RefB Go.Proofs.Ytndehdnffajigaa.RefC Go.Proofs.Ytndehdnffajigaa.RefD Go.Proofs.Ytndehdnffajigaa.RefG
open Go.Proofs.Ytndehdnffajigaa.Quorum (sound)

/-- A snapshot, and a row of the call's own behind it, are laid. -/
theorem laid_both {T : TypeId} {B : Nat} {w wr : World} {p n : Nat} {v v1 : Value} {g : G} {es : List Ent} (h : LogAt T B w p v g) (hb : Below w.heap.size w wr) (hown : wr.ownsRow w.heap.size 47 4 v1 n (ecells es)) (hn : n = es.length) (s : Snap) :
    (snapAt wr p s.idx s.term s.cfg s.data).cell? ⟨p, 4, none⟩ = some v ∧ (snapAt wr p s.idx s.term s.cfg s.data).frozen? ⟨p, 4, none⟩ = false ∧
      LeftL T B w p v ⟨s, es⟩ ((snapAt wr p s.idx s.term s.cfg s.data).setCell ⟨p, 4, none⟩ v1) := by
  subst hn
  obtain ⟨h5, o5⟩ := snapped_at (h.below hb) s
  have hset : Only (fun q => q = p) (snapAt wr p s.idx s.term s.cfg s.data) ((snapAt wr p s.idx s.term s.cfg s.data).setCell ⟨p, 4, none⟩ v1) := (Only.refl (fun q => q = p) _).setCell (a := ⟨p, 4, none⟩) (.inr rfl) v1
  have hlt := h.lt
  have hne : ∀ q, v1.ownBlock = some q → q ≠ p := fun q hq => by have := (hown.lt q hq).1; omega
  refine ⟨h5.c4, free_at h5.cell 4, v1, ⟨h.low, by rw [set_at h5.cell]; rfl, ?_, fun e => hne p e rfl⟩, ?_, fun q hq => .inr (hown.lt q hq).1⟩
  · exact hset.own (o5.own (own_base hown h.base) hne) hne
  · exact (Only.of_below (S := Foot p v) hb).trans ((o5.trans hset).mono fun q _ hq => .inl hq)

section
variable {B p : Nat} {v : Value} {g : G} {w : World} (h : LR B w p v g) (f : Fine g)
include h
variable {s : Snap} (hs : SnapB s)
include hs
theorem rinstall_mad (h1 : sound s.cfg = false) : Calls Try.prog 37 #[.pointer (some ⟨p, 0, none⟩), snapV s] w (Answers 73 B w p v (1, g)) := by
  have hcf := hs.cfg
  obtain ⟨ix, tm, cf, d⟩ := s
  simp only at *
  have HS := Lib.hid h1
  clear h1 hs
  have hba : Below w.heap.size w (w.alloc (.cells #[.int .u64 (ix : Int), .int .u64 (tm : Int), .int .u64 (cf : Int), .string d] 24)) := (Below.refl _ _).alloc (Nat.le_refl _) _
  unfold snapV
  go_enter Try.func37, Try.ntmps37
  go_wp2_with fail
  refine (rsound_hid hcf HS _).mono ?_
  rintro e w1 ⟨rfl, rfl⟩
  go_wp2
  go_ret
  exact ⟨rfl, LeftL.of_below h hba⟩
theorem rinstall_old (h1 : sound s.cfg = true) (h2 : s.idx ≤ g.snap.idx) : Calls Try.prog 37 #[.pointer (some ⟨p, 0, none⟩), snapV s] w (Answers 73 B w p v (20, g)) := by
  have hcf := hs.cfg
  have c0 := h.c0
  have hlt := h.lt
  obtain ⟨S, hS⟩ : ∃ S, g.snap.idx = S := ⟨_, rfl⟩
  rw [hS] at c0 h2
  obtain ⟨ix, tm, cf, d⟩ := s
  simp only at *
  have HS := Lib.hid h1
  have h21 : decide (ix ≤ S) = true := decide_eq_true h2
  clear h1 hs hS
  have hba : Below w.heap.size w (w.alloc (.cells #[.int .u64 (ix : Int), .int .u64 (tm : Int), .int .u64 (cf : Int), .string d] 24)) := (Below.refl _ _).alloc (Nat.le_refl _) _
  unfold snapV
  go_enter Try.func37, Try.ntmps37
  go_wp2_with fail
  refine (rsound_hid hcf HS _).mono ?_
  rintro e w1 ⟨rfl, rfl⟩
  go_wp2_with fail
  go_quiet (fail)
  all_goals go_wp2
  all_goals go_ret
  all_goals exact ⟨rfl, LeftL.of_below h (below_drewN hba _)⟩
include f
set_option maxHeartbeats 2000000 in
/-- A newer one whose index hasn't its term in the log. -/
theorem rinstall_no (h1 : sound s.cfg = true) (h2 : ¬ s.idx ≤ g.snap.idx) (h3 : term g s.idx ≠ some s.term) : Calls Try.prog 37 #[.pointer (some ⟨p, 0, none⟩), snapV s] w (Answers 73 B w p v (0, ⟨s, []⟩)) := by
  have hcf := hs.cfg
  have hib := hs.idx
  have c0 := h.c0
  have hlt := h.lt
  obtain ⟨S, hS⟩ : ∃ S, g.snap.idx = S := ⟨_, rfl⟩
  rw [hS] at c0 h2
  obtain ⟨ix, tm, cf, d⟩ := s
  simp only at *
  have HS := Lib.hid h1
  have h21 : decide (ix ≤ S) = false := decide_eq_false h2
  have H := Lib.hid h
  have HF := Lib.hid f
  have c4 := h.c4
  obtain ⟨A, c, rfl, hnc, hcm, hr⟩ := h.form
  obtain ⟨n, hn⟩ : ∃ n, g.es.length = n := ⟨_, rfl⟩
  rw [hn] at c4 hnc hr
  have hba : Below w.heap.size w (w.alloc (.cells #[.int .u64 (ix : Int), .int .u64 (tm : Int), .int .u64 (cf : Int), .string d] 24)) := (Below.refl _ _).alloc (Nat.le_refl _) _
  have hbx := Box4.new w (.int .u64 (ix : Int)) (.int .u64 (tm : Int)) (.int .u64 (cf : Int)) (.string d) 24
  obtain ⟨r, hr3⟩ : ∃ r, term g ix = r := ⟨_, rfl⟩
  rw [hr3] at h3
  have HR3 := Lib.hid hr3
  have HBX := Lib.hid hbx
  clear h1 hs hS h hn f hr3 hbx
  unfold snapV
  go_enter Try.func37, Try.ntmps37
  go_wp2_with fail
  refine (rsound_hid hcf HS _).mono ?_
  rintro e w1 ⟨rfl, rfl⟩
  go_wp2_with fail
  go_quiet (fail)
  have hbq := below_drewN hba nq
  have hxq := HBX.out.below (below_drewN (Below.refl _ _) nq)
  generalize (w.alloc (.cells #[.int .u64 (ix : Int), .int .u64 (tm : Int), .int .u64 (cf : Int), .string d] 24)).drewN nq = wq at hbq hxq ⊢
  have hrt := rterm_any (H.out.below hbq) HF.out ix
  rw [HR3.out] at hrt
  have HRT := Lib.hid hrt
  have x0 := hxq.c0
  have x1 := hxq.c1
  have hltx := hxq.lt
  have HXQ := Lib.hid hxq
  clear hrt hxq
  go_wp2_with fail
  refine HRT.out.mono ?_
  rintro e w1 ⟨rfl, rfl⟩
  obtain ⟨E6, hE6⟩ : ∃ E6 : Int, (if r.isSome then 0 else 20) = E6 := ⟨_, rfl⟩
  obtain ⟨T5, hT5⟩ : ∃ T5, r.getD 0 = T5 := ⟨_, rfl⟩
  rw [hE6, hT5]
  have hcase : (E6 == 0) = false ∨ ((E6 == 0) = true ∧ ((T5 : Int) == (tm : Int)) = false) := by
    cases r with
    | none => left; subst hE6; rfl
    | some t =>
      right
      subst hE6 hT5
      refine ⟨rfl, ?_⟩
      simp
      intro e
      exact h3 (congrArg some (by omega))
  clear hE6 hT5
  go_wp2_with fail
  go_loopw [7, 8] (fun s x wr => ∃ k : Nat, k ≤ n ∧ s = .slice none 0 0 ∧ x = .int .i64 (k : Int) ∧ Below wq.heap.size wq wr) (fun _ x _ => n - (intOf x).toNat)
  case atStart => exact ⟨0, by omega, rfl, rfl, Below.refl _ _⟩
  case round =>
    obtain ⟨k, hk, rfl, rfl, hbel⟩ := hrel
    have hsz := hbel.size
    have hB := hbq.trans (hbel.mono hbq.size)
    have c4r := (hB.cell (p := ⟨p, 4, none⟩) hlt).trans c4
    have hxr := HXQ.out.below hbel
    have y0 := hxr.c0
    have y1 := hxr.c1
    have y2 := hxr.c2
    have y3 := hxr.c3
    have hlty := hxr.lt
    clear hxr
    by_cases hkn : k < n
    · obtain ⟨b, o, e, rfl, hbl, he, hfour⟩ := RE.at_ hr hkn
      have hfr := Four.below hfour hB hbl
      have d1 := hfr.c1
      obtain ⟨ie, hie⟩ : ∃ ie, e.idx = ie := ⟨_, rfl⟩
      rw [hie] at d1
      clear hfr hfour he hie
      by_cases hgt : ix < ie
      · have hg1 : decide (ix < ie) = true := decide_eq_true hgt
        rcases hcase with he6 | ⟨he6, hne⟩
        · go_wp2_with fail
          go_quiet (fail)
          all_goals go_wp2
          all_goals
            go_roundw
            case rel => exact ⟨k + 1, by omega, rfl, by go_num, below_drewN hbel _⟩
            case measure => simp [intOf]; omega
        · go_wp2_with fail
          go_quiet (fail)
          all_goals go_wp2
          all_goals
            go_roundw
            case rel => exact ⟨k + 1, by omega, rfl, by go_num, below_drewN hbel _⟩
            case measure => simp [intOf]; omega
      · have hg1 : decide (ix < ie) = false := decide_eq_false hgt
        go_wp2_with fail
        go_quiet (fail)
        all_goals go_wp2
        all_goals
          go_roundw
          case rel => exact ⟨k + 1, by omega, rfl, by go_num, below_drewN hbel _⟩
          case measure => simp [intOf]; omega
    · obtain rfl : k = n := by omega
      have h1 := H.out.below hB
      have z0 := h1.c0
      have z1 := h1.c1
      have z2 := h1.c2
      have z3 := h1.c3
      have hlt1 := h1.lt
      have f0 := free_at h1.cell 0
      have f1 := free_at h1.cell 1
      have f2 := free_at h1.cell 2
      have f3 := free_at h1.cell 3
      obtain ⟨hc5, hf5, hleft⟩ := laid_both (v1 := .slice none 0 0) (n := 0) (es := []) H.out hB (World.ownsRow_nil _ _ _ _) rfl ⟨ix, tm, cf, d⟩
      have HLeft := Lib.hid hleft
      simp only at hc5 hf5
      clear h1 hleft
      go_wp2_with fail
      go_ret
      exact ⟨rfl, HLeft.out⟩
omit h f hs in
theorem term_is {w w' : World} {e : Ending} {t : Nat} (k : TermIs w (some t) e w') : e = .returned (.tuple #[.int .u64 (t : Int), .int .i64 0]) ∧ w = w' := k
set_option maxHeartbeats 2000000 in
/-- A newer one whose index has its term in the log. -/
theorem rinstall_yes {q : Nat} {ee : Ent} (h1 : sound s.cfg = true) (h2 : ¬ s.idx ≤ g.snap.idx) (hp : place g s.idx = some q) (hk : g.es[q]? = some ee) (ht : ee.term = s.term) (hl : g.es.length * 40 ≤ 140737488355328) :
    Calls Try.prog 37 #[.pointer (some ⟨p, 0, none⟩), snapV s] w (Answers 73 B w p v (0, ⟨s, g.es.drop (q + 1)⟩)) := by
  have hcf := hs.cfg
  have hib := hs.idx
  have c0 := h.c0
  have hlt := h.lt
  have hterm : term g s.idx = some s.term := by
    rw [show s.idx = ee.idx by rw [(f.at_ hk).1]; exact (place_lt hp).2, term_at f hk, ht]
  obtain ⟨hqn, hqi⟩ := place_lt hp
  obtain ⟨S, hS⟩ : ∃ S, g.snap.idx = S := ⟨_, rfl⟩
  rw [hS] at c0 h2
  obtain ⟨Q, hQ⟩ : ∃ Q, q + 1 = Q := ⟨_, rfl⟩
  rw [hQ]
  have hqi2 : s.idx = g.snap.idx + Q := by omega
  obtain ⟨ix, tm, cf, d⟩ := s
  simp only at *
  have HS := Lib.hid h1
  have h21 : decide (ix ≤ S) = false := decide_eq_false h2
  have H := Lib.hid h
  have HF := Lib.hid f
  have HI := Lib.hid hqi2
  have c4 := h.c4
  obtain ⟨A, c, rfl, hnc, hcm, hr⟩ := h.form
  obtain ⟨n, hn⟩ : ∃ n, g.es.length = n := ⟨_, rfl⟩
  rw [hn] at c4 hnc hr hl hqn
  have hQn : Q ≤ n := by omega
  have HN := Lib.hid hn
  have hba : Below w.heap.size w (w.alloc (.cells #[.int .u64 (ix : Int), .int .u64 (tm : Int), .int .u64 (cf : Int), .string d] 24)) := (Below.refl _ _).alloc (Nat.le_refl _) _
  have hbx := Box4.new w (.int .u64 (ix : Int)) (.int .u64 (tm : Int)) (.int .u64 (cf : Int)) (.string d) 24
  have HT := Lib.hid hterm
  have HBX := Lib.hid hbx
  clear h1 hs hS h hn f hbx hp hk ht hqi hqi2 hQ hqn hterm
  unfold snapV
  go_enter Try.func37, Try.ntmps37
  go_wp2_with fail
  refine (rsound_hid hcf HS _).mono ?_
  rintro e w1 ⟨rfl, rfl⟩
  go_wp2_with fail
  go_quiet (fail)
  have hbq := below_drewN hba nq
  have hxq := HBX.out.below (below_drewN (Below.refl _ _) nq)
  generalize (w.alloc (.cells #[.int .u64 (ix : Int), .int .u64 (tm : Int), .int .u64 (cf : Int), .string d] 24)).drewN nq = wq at hbq hxq ⊢
  have hrt := rterm_any (H.out.below hbq) HF.out ix
  rw [HT.out] at hrt
  have HRT := Lib.hid hrt
  have x0 := hxq.c0
  have x1 := hxq.c1
  have hltx := hxq.lt
  have HXQ := Lib.hid hxq
  clear hrt hxq
  go_wp2_with fail
  refine HRT.out.mono ?_
  intro e w1 hee
  obtain ⟨rfl, rfl⟩ := term_is hee
  clear hee
  go_wp2_with fail
  go_loopw [7, 8] (fun s x wr => ∃ k m : Nat, k ≤ n ∧ Hid (m = k - Q) ∧ x = .int .i64 (k : Int) ∧ wr.ownsRow wq.heap.size 47 4 s m (ecells ((g.es.drop Q).take m)) ∧ Below wq.heap.size wq wr) (fun _ x _ => n - (intOf x).toNat)
  case atStart => exact ⟨0, 0, by omega, Lib.hid (by omega), rfl, by simpa [ecells] using World.ownsRow_nil _ _ _ _, Below.refl _ _⟩
  case round =>
    obtain ⟨k, m, hk, HM, rfl, hown, hbel⟩ := hrel
    have hsz := hbel.size
    have hB := hbq.trans (hbel.mono hbq.size)
    have c4r := (hB.cell (p := ⟨p, 4, none⟩) hlt).trans c4
    have hxr := HXQ.out.below hbel
    have y0 := hxr.c0
    have y1 := hxr.c1
    have y2 := hxr.c2
    have y3 := hxr.c3
    have hlty := hxr.lt
    clear hxr
    obtain ⟨A0, c0', rfl, _, _, _⟩ := own_form hown
    have hm := HM.out
    have HO := Lib.hid hown
    by_cases hkn : k < n
    · obtain ⟨b, o, e, rfl, hbl, he, hfour⟩ := RE.at_ hr hkn
      have hfr := Four.below hfour hB hbl
      have d0 := hfr.c0
      have d1 := hfr.c1
      have d2 := hfr.c2
      have d3 := hfr.c3
      have hidx := (HF.out.at_ he).1
      have hI := HI.out
      have htt : ((tm : Int) == (tm : Int)) = true := by simp
      by_cases hkQ : k < Q
      · obtain rfl : m = 0 := by omega
        have hg1 : decide (ix < e.idx) = false := decide_eq_false (by omega)
        have hm0 : Hid (0 = k + 1 - Q) := Lib.hid (by omega)
        obtain ⟨ie, hie⟩ : ∃ ie, e.idx = ie := ⟨_, rfl⟩
        rw [hie] at d1 hg1
        clear hfr hfour he hie hm hown hidx hI d0 d2 d3
        go_wp2_with fail
        go_quiet (fail)
        all_goals go_wp2
        all_goals
          go_roundw
          case rel => exact ⟨k + 1, 0, by omega, hm0, by go_num, HO.out, below_drewN hbel _⟩
          case measure => simp [intOf]; omega
      · have hg1 : decide (ix < e.idx) = true := decide_eq_true (by omega)
        have hnext : (g.es.drop Q).take (m + 1) = (g.es.drop Q).take m ++ [e] := by
          rw [take_snoc (g.es.drop Q) m e]
          rw [List.getElem?_drop, show Q + m = k by omega]
          exact he
        have hm40 : (m + 1) * 40 ≤ 140737488355328 := by omega
        obtain ⟨te, ie, kd, de⟩ := e
        simp only at d0 d1 d2 d3 hg1
        have hkm : Hid (m + 1 = k + 1 - Q) := Lib.hid (by omega)
        have HNX := Lib.hid hnext
        clear he hfour hfr hm hown hidx hnext hI
        go_wp2_with fail
        go_quiet (fail)
        have e0 : (wr.drewN nq).cell? ⟨b, o + k * 4, none⟩ = _ := d0
        have e1 : (wr.drewN nq).cell? ⟨b, o + k * 4 + 1, none⟩ = _ := d1
        have e2 : (wr.drewN nq).cell? ⟨b, o + k * 4 + 2, none⟩ = _ := d2
        have e3 : (wr.drewN nq).cell? ⟨b, o + k * 4 + 3, none⟩ = _ := d3
        have e4 : (wr.drewN nq).cell? ⟨p, 4, none⟩ = _ := c4r
        have hbelq := below_drewN hbel nq
        have hownq : (wr.drewN nq).ownsRow _ _ _ _ _ _ := ((Only.refl (fun _ => False) wr).drewN nq).own HO.out (by simp)
        generalize wr.drewN nq = wt at e0 e1 e2 e3 e4 hbelq hownq ⊢
        have hszt := hbelq.size
        have hnews : RE (wt.alloc (.cells #[.int .u64 (te : Int), .int .u64 (ie : Int), .int .i64 kd, .string de] 47)) (wt.heap.size + 1) (some ⟨wt.heap.size, 0, none⟩) 1 [⟨te, ie, kd, de⟩] := ent_new wt ⟨te, ie, kd, de⟩ 47
        have hownA : ∀ o, (wt.alloc o).ownsRow wq.heap.size 47 4 (.slice A0 m c0') m (ecells ((g.es.drop Q).take m)) := fun o => ((Only.refl (fun _ => False) wt).alloc o).own hownq (by simp)
        have hbas : ∀ o, wq.heap.size ≤ (wt.alloc o).heap.size := fun o => by simp; omega
        have HOQ := Lib.hid hownq
        clear d0 d1 d2 d3 c4r hownq
        go_wp2_with (first
          | (at_builtin
             refine wpList_app (v := .slice A0 m c0') _ rfl _ _ rfl wq.heap.size rfl (hownA _) rfl hnews (ecells_one _) hm40 (hbas _) ?_
             intro A' c' w1 hown1 hg1 hat1
             obtain ⟨ho1, hb1⟩ := more_own HOQ.out hbelq hown1 hg1
             clear hown1 hg1 hat1))
        go_roundw
        case rel => exact ⟨k + 1, m + 1, by omega, hkm, by go_num, by rw [HNX.out]; exact ho1, hb1⟩
        case measure => simp [intOf]; omega
    · obtain rfl : k = n := by omega
      have htk : (g.es.drop Q).take m = g.es.drop Q := List.take_of_length_le (by rw [List.length_drop, HN.out]; omega)
      rw [htk] at hown
      have hlen : m = (g.es.drop Q).length := by rw [List.length_drop, HN.out]; exact hm
      have h1 := H.out.below hB
      have z0 := h1.c0
      have z1 := h1.c1
      have z2 := h1.c2
      have z3 := h1.c3
      have hlt1 := h1.lt
      have f0 := free_at h1.cell 0
      have f1 := free_at h1.cell 1
      have f2 := free_at h1.cell 2
      have f3 := free_at h1.cell 3
      obtain ⟨hc5, hf5, hleft⟩ := laid_both (H.out.below hbq) hbel hown hlen ⟨ix, tm, cf, d⟩
      have HLeft := Lib.hid hleft
      simp only at hc5 hf5
      clear h1 hleft hown hlen htk HO HM hm
      go_wp2_with fail
      go_ret
      exact ⟨rfl, LeftL.afterBelow hbq HLeft.out⟩
/-- Whatever snapshot comes. -/
theorem rinstall_any (hl : g.es.length * 40 ≤ 140737488355328) : Calls Try.prog 37 #[.pointer (some ⟨p, 0, none⟩), snapV s] w (Answers 73 B w p v (install g s)) := by
  unfold install
  cases h1 : sound s.cfg with
  | false => rw [if_pos rfl]; exact rinstall_mad h hs h1
  | true =>
    rw [if_neg (by simp)]
    by_cases h2 : s.idx ≤ g.snap.idx
    · rw [if_pos h2]; exact rinstall_old h hs h1 h2
    · rw [if_neg h2]
      have hne : s.idx ≠ g.snap.idx := by omega
      unfold behind
      cases hp : place g s.idx with
      | none => exact rinstall_no h f hs h1 h2 (by unfold term; rw [if_neg hne, hp]; simp)
      | some k =>
        have hk := List.getElem?_eq_getElem (place_lt hp).1
        simp only [hk, Option.map_some, Option.some.injEq]
        by_cases ht : (g.es[k]'(place_lt hp).1).term = s.term
        · rw [if_pos ht]; exact rinstall_yes h f hs h1 h2 hp hk ht hl
        · rw [if_neg ht]; exact rinstall_no h f hs h1 h2 (by unfold term; rw [if_neg hne, hp]; simpa [hk] using ht)
end
end Go.Proofs.Ytndehdnffajigaa.RefH
