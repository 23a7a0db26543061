/- What the document's Last, Term, Get and Same answer, walked. -/
import Derived.Test.YtndehdnffajigaaRefA
import Derived.Test.YtndehdnffajigaaWalkF
set_option linter.unusedVariables false
namespace Go.Proofs.Ytndehdnffajigaa.RefB
open Go.RowKit Go.Proofs.Ytndehdnffajigaa.Kit Go.Proofs.Ytndehdnffajigaa.Blocks Go.Proofs.Ytndehdnffajigaa.Rlog Go.Proofs.Ytndehdnffajigaa.Ents Go.Proofs.Ytndehdnffajigaa.LogAt Go.Proofs.Ytndehdnffajigaa.App Go.Proofs.Ytndehdnffajigaa.WalkA Go.Proofs.Ytndehdnffajigaa.WalkB Go.Proofs.Ytndehdnffajigaa.WalkC Go.Proofs.Ytndehdnffajigaa.WalkD Go.Proofs.Ytndehdnffajigaa.WalkF

abbrev LR (B : Nat) (w : World) (p : Nat) (v : Value) (g : G) : Prop := LogAt 73 B w p v g
/-- What the document's Term answers. -/
def TermIs (w : World) (r : Option Nat) (e : Ending) (w' : World) : Prop := e = .returned (.tuple #[.int .u64 ((r.getD 0 : Nat) : Int), .int .i64 (if r.isSome then 0 else 20)]) ∧ w = w'
section
variable {B p : Nat} {v : Value} {g : G} {w : World} (h : LR B w p v g) (f : Fine g)
include h
/-- Index and term of the last one. -/
theorem rlast_any : Calls Try.prog 38 #[.pointer (some ⟨p, 0, none⟩)] w fun e w' => e = .returned (.tuple #[.int .u64 ((last g).1 : Int), .int .u64 ((last g).2 : Int)]) ∧ Below w.heap.size w w' := by
  have c0 := h.c0
  have c1 := h.c1
  have c4 := h.c4
  obtain ⟨A, c, rfl, hnc, hcm, hr⟩ := h.form
  by_cases h0 : g.es.length = 0
  · have hl : last g = (g.snap.idx, g.snap.term) := by unfold last; rw [List.eq_nil_of_length_eq_zero h0]; rfl
    rw [hl]
    rw [h0] at c4
    clear hl hr hnc h0
    go_enter Try.func38, Try.ntmps38
    go_wp2_with fail
    go_quiet (fail)
    all_goals go_wp2
    all_goals go_ret2
    all_goals exact ⟨rfl, below_drewN (Below.refl _ _) _⟩
  · obtain ⟨n, hn⟩ : ∃ n, g.es.length = n + 1 := ⟨g.es.length - 1, by omega⟩
    rw [hn] at hr
    obtain ⟨b, o, e, rfl, hbl, he, hfour⟩ := RE.at_ hr (k := n) (by omega)
    have hl : last g = (e.idx, e.term) := by
      unfold last
      rw [show g.es = g.es.take (n + 1) by rw [List.take_of_length_le (by omega)], lasts_take _ _ _ _ _ he]
    rw [hl]
    have d0 := hfour.c0
    have d1 := hfour.c1
    obtain ⟨tm, ix, kd, d⟩ := e
    simp only at d0 d1 ⊢
    rw [hn] at c4 hnc
    have hw' : IntKind.i64.wrap ((n : Int) + 1 - 1) = (n : Int) := by rw [show (n : Int) + 1 - 1 = (n : Int) by omega]; exact IntWalk.i64_in _ (by omega)
    clear hl hr hfour he hn h0
    go_enter Try.func38, Try.ntmps38
    go_wp2_with fail
    go_quiet (fail)
    all_goals go_wp2
    all_goals go_ret2
    all_goals exact ⟨rfl, below_drewN (Below.refl _ _) _⟩
include f
/-- The term of an index; 20, if it has none. -/
theorem rterm_any (i : Nat) : Calls Try.prog 39 #[.pointer (some ⟨p, 0, none⟩), .int .u64 (i : Int)] w (TermIs w (term g i)) := by
  have c0 := h.c0
  have c1 := h.c1
  have c4 := h.c4
  obtain ⟨A, c, rfl, hnc, hcm, hr⟩ := h.form
  obtain ⟨n, hn⟩ : ∃ n, g.es.length = n := ⟨_, rfl⟩
  rw [hn] at c4 hnc hr
  obtain ⟨S, hS⟩ : ∃ S, g.snap.idx = S := ⟨_, rfl⟩
  have HN := Lib.hid hn
  have HS := Lib.hid hS
  have HF := Lib.hid f
  rw [hS] at c0
  clear hn hS f
  go_enter Try.func39, Try.ntmps39
  go_wp2
  go_loopw [6] (fun x wr => ∃ k : Nat, k ≤ n ∧ x = .int .i64 (k : Int) ∧ Hid (∀ j e, j < k → g.es[j]? = some e → e.idx ≠ i) ∧ wr = w) (fun x _ => n - (intOf x).toNat)
  case atStart => exact ⟨0, by omega, rfl, Lib.hid (fun j e hj => absurd hj (by omega)), rfl⟩
  case round =>
    obtain ⟨k, hk, rfl, HA, rfl⟩ := hrel
    by_cases hkn : k < n
    · obtain ⟨b, o, e, rfl, hbl, he, hfour⟩ := RE.at_ hr hkn
      have d0 := hfour.c0
      have d1 := hfour.c1
      have HE := Lib.hid he
      have hterm := term_at HF.out he
      by_cases hi : e.idx = i
      · have ht : term g i = some e.term := by rw [← hi]; exact hterm
        have HT := Lib.hid ht
        have hib : ((e.idx : Int) == (i : Int)) = true := by simp [hi]
        obtain ⟨ix, hix⟩ : ∃ ix, e.idx = ix := ⟨_, rfl⟩
        obtain ⟨tm, htm⟩ : ∃ tm, e.term = tm := ⟨_, rfl⟩
        rw [hix] at d1 hib
        rw [htm] at d0
        have HTM := Lib.hid htm
        clear hterm ht he hfour hi hix htm
        go_wp2
        go_ret2
        exact ⟨by rw [HT.out, ← HTM.out]; rfl, rfl⟩
      · have hib : ((e.idx : Int) == (i : Int)) = false := by simp; omega
        have HA' : Hid (∀ j e, j < k + 1 → g.es[j]? = some e → e.idx ≠ i) := by
          intro j e' hj he'
          by_cases hjk : j = k
          · subst hjk
            rw [HE.out] at he'
            cases he'
            exact hi
          · exact HA.out j e' (by omega) he'
        obtain ⟨ix, hix⟩ : ∃ ix, e.idx = ix := ⟨_, rfl⟩
        rw [hix] at d1 hib
        clear hterm he hfour hi hix
        go_wp2
        go_roundw
        case rel => exact ⟨k + 1, by omega, by go_num, HA', by first | rfl | trivial⟩
        case measure => simp [intOf]; omega
    · obtain rfl : k = n := by omega
      have hpn : i ≠ g.snap.idx → term g i = none := fun hne => by
        cases ht : term g i with
        | none => rfl
        | some t =>
          rcases term_some ht with ⟨h1, _⟩ | ⟨q, e, hp, he, _⟩
          · exact absurd h1 hne
          · obtain ⟨hq1, hq2⟩ := place_lt hp
            exact absurd (by rw [(HF.out.at_ he).1, hq2]) (HA.out q e (by rw [← HN.out]; exact hq1) he)
      by_cases hi : i = S
      · subst hi
        have ht : term g i = some g.snap.term := by rw [← HS.out]; exact term_snap g
        have HT := Lib.hid ht
        have hib : ((i : Int) == (i : Int)) = true := by simp
        clear ht hpn
        go_wp2
        go_ret2
        exact ⟨by rw [HT.out]; rfl, rfl⟩
      · have ht := hpn (by rw [HS.out]; exact hi)
        have HT := Lib.hid ht
        have hib : ((i : Int) == (S : Int)) = false := by simp; omega
        clear ht hpn
        go_wp2
        go_ret2
        exact ⟨by rw [HT.out]; rfl, rfl⟩
end
end Go.Proofs.Ytndehdnffajigaa.RefB
