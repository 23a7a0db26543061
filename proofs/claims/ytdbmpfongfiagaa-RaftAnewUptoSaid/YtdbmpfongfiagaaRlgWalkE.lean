/- What the program's calls that only read a log's head answer, walked: First, Last, place, Term, has. -/
import Derived.Test.YtdbmpfongfiagaaRlgWalkD
set_option linter.unusedVariables false
namespace Go.Proofs.Ytdbmpfongfiagaa.RlgWalkE
open Go.RowKit Go.Proofs.Ytdbmpfongfiagaa.Kit Go.Proofs.Ytdbmpfongfiagaa.Blocks Go.Proofs.Ytdbmpfongfiagaa.Rlog Go.Proofs.Ytdbmpfongfiagaa.Ents Go.Proofs.Ytdbmpfongfiagaa.LogAt Go.Proofs.Ytdbmpfongfiagaa.RlgWalkA Go.Proofs.Ytdbmpfongfiagaa.RlgWalkB Go.Proofs.Ytdbmpfongfiagaa.RlgWalkC Go.Proofs.Ytdbmpfongfiagaa.RlgWalkD

abbrev LP (B : Nat) (w : World) (p : Nat) (v : Value) (g : G) : Prop := LogAt 61 B w p v g
section
variable {B p : Nat} {v : Value} {g : G} {w : World} (h : LP B w p v g) 
include h
set_option maxRecDepth 100000 in
theorem first_any : Calls Try.prog 18 #[.pointer (some ⟨p, 0, none⟩)] w fun e w' => e = .returned (snapV g.snap) ∧ Below w.heap.size w w' := by
  have c0 := h.c0
  have c1 := h.c1
  have c2 := h.c2
  have c3 := h.c3
  have hlt := h.lt
  obtain ⟨⟨ix, tm, cf, d⟩, es⟩ := g
  simp only at c0 c1 c2 c3
  unfold snapV
  go_enter Try.func18, Try.ntmps18
  go_wp2
  refine bodyPost_ret (results_cell_row (p := 2) (ty := 26) rfl _ _ w.heap.size 26 _ (0, 0) _ rfl (heap_alloc_new w _) Try.underlying26 rfl (by kernel_rfl)) rfl ?_
  exact ⟨rfl, (Below.refl _ _).alloc (Nat.le_refl _) _⟩
set_option maxRecDepth 100000 in
theorem place_low {i : Nat} (hi : i ≤ g.snap.idx) : Calls Try.prog 26 #[.pointer (some ⟨p, 0, none⟩), .int .u64 (i : Int)] w fun e w' => e = .returned (.tuple #[.int .i64 0, .bool false]) ∧ w = w' := by
  have c0 := h.c0
  go_enter Try.func26, Try.ntmps26
  go_wp2
  go_ret2
  exact ⟨rfl, rfl⟩
set_option maxRecDepth 100000 in
theorem place_high {i : Nat} (hi : g.snap.idx + g.es.length < i) (hb : i < 18446744073709551616) : Calls Try.prog 26 #[.pointer (some ⟨p, 0, none⟩), .int .u64 (i : Int)] w fun e w' => e = .returned (.tuple #[.int .i64 0, .bool false]) ∧ w = w' := by
  have c0 := h.c0
  have c4 := h.c4
  obtain ⟨A, c, rfl, hnc, hcm, _⟩ := h.form
  have h1 := u64_sub (a := i) (b := g.snap.idx) (by omega) hb
  have h2 := u64_pred (a := i - g.snap.idx) (by omega) (by omega)
  have hlow : ¬ i ≤ g.snap.idx := by omega
  have hge : g.es.length ≤ i - g.snap.idx - 1 := by omega
  obtain ⟨s, hs0⟩ : ∃ s, g.snap.idx = s := ⟨_, rfl⟩
  obtain ⟨n, hn⟩ : ∃ n, g.es.length = n := ⟨_, rfl⟩
  rw [hs0] at c0 h1 h2 hlow hge
  rw [hn] at c4 hge hnc
  obtain ⟨D, hD⟩ : ∃ D, i - s = D := ⟨_, rfl⟩
  rw [hD] at h1 h2 hge
  obtain ⟨K, hK⟩ : ∃ K, D - 1 = K := ⟨_, rfl⟩
  rw [hK] at h2 hge
  have h3 : IntKind.u64.wrap (n : Int) = (n : Int) := IntWalk.u64_in _ (by omega)
  clear hD hK hs0 hn
  go_enter Try.func26, Try.ntmps26
  go_wp2
  go_ret2
  exact ⟨rfl, rfl⟩
set_option maxRecDepth 100000 in
theorem place_at {i k : Nat} (hk : k < g.es.length) (hi : i = g.snap.idx + k + 1) (hb : i < 18446744073709551616) : Calls Try.prog 26 #[.pointer (some ⟨p, 0, none⟩), .int .u64 (i : Int)] w fun e w' => e = .returned (.tuple #[.int .i64 (k : Int), .bool true]) ∧ w = w' := by
  have c0 := h.c0
  have c4 := h.c4
  obtain ⟨A, c, rfl, hnc, hcm, _⟩ := h.form
  have h1 := u64_sub (a := i) (b := g.snap.idx) (by omega) hb
  have h2 := u64_pred (a := i - g.snap.idx) (by omega) (by omega)
  have hlow : ¬ i ≤ g.snap.idx := by omega
  have hge : ¬ g.es.length ≤ k := by omega
  rw [show i - g.snap.idx = k + 1 by omega] at h1 h2
  rw [show k + 1 - 1 = k by omega] at h2
  obtain ⟨s, hs0⟩ : ∃ s, g.snap.idx = s := ⟨_, rfl⟩
  obtain ⟨n, hn⟩ : ∃ n, g.es.length = n := ⟨_, rfl⟩
  rw [hs0] at c0 h1 hlow
  rw [hn] at c4 hge hnc
  obtain ⟨D, hD⟩ : ∃ D, k + 1 = D := ⟨_, rfl⟩
  rw [hD] at h1 h2
  have h3 : IntKind.u64.wrap (n : Int) = (n : Int) := IntWalk.u64_in _ (by omega)
  have h4 : wrap64 (k : Int) = (k : Int) := by unfold wrap64; omega
  clear hD hs0 hn hi hk
  go_enter Try.func26, Try.ntmps26
  go_wp2
  go_ret2
  exact ⟨rfl, rfl⟩
/-- Where an index lies. -/
theorem place_some {i k : Nat} (hb : i < 18446744073709551616) (hp : place g i = some k) : Calls Try.prog 26 #[.pointer (some ⟨p, 0, none⟩), .int .u64 (i : Int)] w fun e w' => e = .returned (.tuple #[.int .i64 (k : Int), .bool true]) ∧ w = w' := by
  obtain ⟨h1, h2⟩ := place_lt hp
  exact place_at h h1 h2 hb
theorem place_not {i : Nat} (hb : i < 18446744073709551616) (hp : place g i = none) : Calls Try.prog 26 #[.pointer (some ⟨p, 0, none⟩), .int .u64 (i : Int)] w fun e w' => e = .returned (.tuple #[.int .i64 0, .bool false]) ∧ w = w' := by
  rcases place_none hp with h1 | h1
  · exact place_low h h1
  · exact place_high h h1 hb
set_option maxRecDepth 100000 in
/-- Index and term of the last one. -/
theorem last_any (f : Fine g) : Calls Try.prog 12 #[.pointer (some ⟨p, 0, none⟩)] w fun e w' => e = .returned (.tuple #[.int .u64 ((last g).1 : Int), .int .u64 ((last g).2 : Int)]) ∧ Below w.heap.size w w' := by
  have c0 := h.c0
  have c1 := h.c1
  have c4 := h.c4
  obtain ⟨A, c, rfl, hnc, hcm, hr⟩ := h.form
  by_cases h0 : g.es.length = 0
  · have hl : last g = (g.snap.idx, g.snap.term) := by unfold last; rw [List.eq_nil_of_length_eq_zero h0]; rfl
    rw [hl]
    rw [h0] at c4
    have hd0 : w.drew.cell? ⟨p, 0, none⟩ = _ := c0
    clear hl hr hnc h0
    go_enter Try.func12, Try.ntmps12
    go_wp2_with fail
    go_quiet (fail)
    all_goals go_wp2
    all_goals go_ret2
    all_goals exact ⟨rfl, below_drewN (Below.refl _ _) _⟩
  · obtain ⟨n, hn⟩ : ∃ n, g.es.length = n + 1 := ⟨g.es.length - 1, by omega⟩
    rw [hn] at hr
    obtain ⟨b, o, e, rfl, hbl, he, hfour⟩ := RE.at_ hr (k := n) (by omega)
    have hl : last g = (e.idx, e.term) := by
      unfold last
      rw [show g.es = g.es.take (n + 1) by rw [List.take_of_length_le (by omega)], lasts_take _ _ _ _ _ he]
    rw [hl]
    have d0 := hfour.c0
    have d1 := hfour.c1
    obtain ⟨tm, ix, kd, d⟩ := e
    simp only at d0 d1 ⊢
    rw [hn] at c4 hnc
    have hw : IntKind.i64.wrap (((n + 1 : Nat) : Int) - 1) = (n : Int) := by rw [show ((n + 1 : Nat) : Int) - 1 = (n : Int) by omega]; exact IntWalk.i64_in _ (by omega)
    have hw' : IntKind.i64.wrap ((n : Int) + 1 - 1) = (n : Int) := by rw [show (n : Int) + 1 - 1 = (n : Int) by omega]; exact IntWalk.i64_in _ (by omega)
    clear hl hr hfour he hn h0
    go_enter Try.func12, Try.ntmps12
    go_wp2_with fail
    go_quiet (fail)
    all_goals go_wp2
    all_goals go_ret2
    all_goals exact ⟨rfl, below_drewN (Below.refl _ _) _⟩
set_option maxRecDepth 100000 in
/-- The term of an index. -/
theorem term_yes (f : Fine g) {i t : Nat} (hb : i < 18446744073709551616) (ht : term g i = some t) : Calls Try.prog 55 #[.pointer (some ⟨p, 0, none⟩), .int .u64 (i : Int)] w fun e w' => e = .returned (.tuple #[.int .u64 (t : Int), .int .i64 0]) ∧ w = w' := by
  have c0 := h.c0
  have c1 := h.c1
  have c4 := h.c4
  by_cases hi : i = g.snap.idx
  · subst hi
    obtain rfl : g.snap.term = t := by simpa [term] using ht
    clear ht
    go_enter Try.func55, Try.ntmps55
    go_wp2
    go_ret2
    exact ⟨rfl, rfl⟩
  · rcases term_some ht with ⟨h1, _⟩ | ⟨k, e, hp, he, rfl⟩
    · exact absurd h1 hi
    · obtain ⟨A, c, rfl, hnc, hcm, hr⟩ := h.form
      have hk := (place_lt hp).1
      obtain ⟨b, o, e', rfl, hbl, he', hfour⟩ := RE.at_ hr hk
      obtain rfl : e = e' := by rw [he] at he'; exact Option.some.inj he'
      have d0 := hfour.c0
      have hne : ((i : Int) == (g.snap.idx : Int)) = false := by simp; omega
      have hpl := place_some h hb hp
      have HP := Lib.hid hpl
      clear hpl hp he he' hfour hr ht hi
      obtain ⟨tm, htm⟩ : ∃ tm, e.term = tm := ⟨_, rfl⟩
      rw [htm] at d0 ⊢
      clear htm
      go_enter Try.func55, Try.ntmps55
      go_wp2_with fail
      refine HP.out.mono ?_
      rintro e w1 ⟨rfl, rfl⟩
      go_wp2
      go_ret2
      exact ⟨rfl, rfl⟩
set_option maxRecDepth 100000 in
theorem term_no {i : Nat} (hb : i < 18446744073709551616) (ht : term g i = none) : Calls Try.prog 55 #[.pointer (some ⟨p, 0, none⟩), .int .u64 (i : Int)] w fun e w' => e = .returned (.tuple #[.int .u64 0, .int .i64 20]) ∧ w = w' := by
  have c0 := h.c0
  have hi : i ≠ g.snap.idx := by
    intro e
    rw [e, term_snap] at ht
    cases ht
  have hp : place g i = none := by
    cases hp : place g i with
    | none => rfl
    | some k =>
      obtain ⟨hk, _⟩ := place_lt hp
      unfold term at ht
      rw [if_neg hi, hp] at ht
      simp [List.getElem?_eq_getElem hk] at ht
  have hne : ((i : Int) == (g.snap.idx : Int)) = false := by simp; omega
  have HP := Lib.hid (place_not h hb hp)
  clear hp ht hi
  go_enter Try.func55, Try.ntmps55
  go_wp2_with fail
  refine HP.out.mono ?_
  rintro e w1 ⟨rfl, rfl⟩
  go_wp2
  go_ret2
  exact ⟨rfl, rfl⟩
set_option maxRecDepth 100000 in
/-- Whether an index has a term. -/
theorem has_any (f : Fine g) {i t : Nat} (hb : i < 18446744073709551616) : Calls Try.prog 71 #[.pointer (some ⟨p, 0, none⟩), .int .u64 (i : Int), .int .u64 (t : Int)] w fun e w' => e = .returned (.bool (has g i t)) ∧ w = w' := by
  cases ht : term g i with
  | none =>
    have hh : has g i t = false := by simp [has, ht]
    rw [hh]
    have HT := Lib.hid (term_no h hb ht)
    clear ht hh
    go_enter Try.func71, Try.ntmps71
    go_wp2_with fail
    refine HT.out.mono ?_
    rintro e w1 ⟨rfl, rfl⟩
    go_wp2
    go_ret
    exact ⟨rfl, rfl⟩
  | some s =>
    obtain ⟨b, hh⟩ : ∃ b, has g i t = b := ⟨_, rfl⟩
    have hc : ((s : Int) == (t : Int)) = b := by
      rw [← hh, Bool.eq_iff_iff]
      simp only [has, ht, beq_iff_eq, decide_eq_true_eq, Option.some.injEq]
      omega
    rw [hh]
    have HT := Lib.hid (term_yes h f hb ht)
    clear ht hh
    go_enter Try.func71, Try.ntmps71
    go_wp2_with fail
    refine HT.out.mono ?_
    rintro e w1 ⟨rfl, rfl⟩
    go_wp2
    go_ret
    exact ⟨rfl, rfl⟩
end
end Go.Proofs.Ytdbmpfongfiagaa.RlgWalkE
