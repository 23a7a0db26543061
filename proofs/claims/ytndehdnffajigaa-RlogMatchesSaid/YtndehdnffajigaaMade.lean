/- What New answers, of either side, and both logs made. No statement is proved here. -/
import Derived.Test.YtndehdnffajigaaAlike
import Derived.Test.YtndehdnffajigaaLight
import Derived.Test.YtndehdnffajigaaRefA
set_option linter.unusedVariables false
namespace Go.Proofs.Ytndehdnffajigaa.Made
open Go.RowKit Go.Proofs.Ytndehdnffajigaa.Kit Go.Proofs.Ytndehdnffajigaa.Blocks Go.Proofs.Ytndehdnffajigaa.Rlog Go.Proofs.Ytndehdnffajigaa.Ents Go.Proofs.Ytndehdnffajigaa.LogAt Go.Proofs.Ytndehdnffajigaa.WalkD Go.Proofs.Ytndehdnffajigaa.WalkE Go.Proofs.Ytndehdnffajigaa.RefA Go.Proofs.Ytndehdnffajigaa.RefB Go.Proofs.Ytndehdnffajigaa.Cals Go.Proofs.Ytndehdnffajigaa.Duos Go.Proofs.Ytndehdnffajigaa.Both
open Go.Proofs.Ytndehdnffajigaa.Quorum (sound)

/-- Do a snapshot and entries make a log? -/
def okB (s : Snap) (l : List Ent) : Bool := sound s.cfg && chained l s.idx s.term
section
variable {s : Snap} (hs : SnapB s) (A : Option Addr) (n c : Nat) (l : List Ent) (w : World) (hr : RE w w.heap.size A n l) (hb : ∀ e ∈ l, EntB e)
include hs hr hb
theorem pnew_ok (h63 : n * 40 ≤ 140737488355328) (h : okB s l = true) : Calls Try.prog 11 #[snapV s, .slice A n c] w (NewLog 70 w ⟨s, l⟩) := by
  obtain ⟨h1, h2⟩ := Bool.and_eq_true_iff.1 h
  exact new_made hs A n c l w hr hb h63 h1 h2
theorem pnew_no (h63 : n ≤ 9223372036854775807) (h : okB s l = false) : Calls Try.prog 11 #[snapV s, .slice A n c] w (NoLog w) := by
  cases h1 : sound s.cfg with
  | false => exact new_mad hs A n c w h1
  | true =>
    refine new_loose hs A n c l w hr hb h63 h1 ?_
    unfold okB at h
    rw [h1, Bool.true_and] at h
    exact h
theorem rnew_ok (h63 : n * 40 ≤ 140737488355328) (h : okB s l = true) : Calls Try.prog 12 #[snapV s, .slice A n c] w (NewLog 73 w ⟨s, l⟩) := by
  obtain ⟨h1, h2⟩ := Bool.and_eq_true_iff.1 h
  have := rnew_any hs A n c l w hr hb h63 h1
  rw [h2] at this
  simpa using this
theorem rnew_no (h63 : n * 40 ≤ 140737488355328) (h : okB s l = false) : Calls Try.prog 12 #[snapV s, .slice A n c] w (NoLog w) := by
  cases h1 : sound s.cfg with
  | false => exact rnew_mad hs A n c w h1
  | true =>
    have h2 : chained l s.idx s.term = false := by
      unfold okB at h
      rw [h1, Bool.true_and] at h
      exact h
    have := rnew_any hs A n c l w hr hb h63 h1
    rw [h2] at this
    simpa using this
end
theorem fine_ok {s : Snap} {l : List Ent} (h : okB s l = true) (hs : SnapB s) (hb : ∀ e ∈ l, EntB e) : Fine ⟨s, l⟩ := by
  obtain ⟨h1, h2⟩ := Bool.and_eq_true_iff.1 h
  exact fine_new h1 h2 hs hb
/-- Both logs, made one behind the other. -/
theorem duo_new {R : Nat → Prop} {B p q : Nat} {v u : Value} {g1 g2 : G} {W1 W2 W3 : World} (hp : LogAt 70 W1.heap.size W2 p v g1) (h12 : W1.heap.size ≤ W2.heap.size) (hq : LogAt 73 W2.heap.size W3 q u g2) (hb : Below W2.heap.size W2 W3) (hB : B ≤ W1.heap.size)
    (hR : ∀ r, R r → r < W1.heap.size) : Duo R B p q g1 g2 W3 := by
  refine ⟨v, u, ⟨(hp.below hb).lower hB, hq.lower (Nat.le_trans hB h12), fun k hk hk' => ?_, fun r hr => ⟨?_, fun hk => ?_, fun hk => ?_⟩⟩⟩
  · have h1 := (hp.foot_lt hk).2
    have h2 := (hq.foot_lt hk').1
    omega
  · have := hR r hr; have := hb.size; omega
  · have := hR r hr; have := (hp.foot_lt hk).1; omega
  · have := hR r hr; have := (hq.foot_lt hk).1; omega
/-- The sum of what came in is a small one. -/
theorem light_of {l : List Ent} {L : List Cal} (h : total l L ≤ 9223372036854775807) : lightB l L = decide (total l L ≤ 800) := by
  unfold lightB
  rw [show wrap64 ((total l L : Nat) : Int) = ((total l L : Nat) : Int) by unfold wrap64; omega]
  by_cases h2 : total l L ≤ 800
  · rw [decide_eq_true h2, decide_eq_true (by omega)]
  · rw [decide_eq_false h2, decide_eq_false (by omega)]
/-- How long a log is behind the first calls. -/
def grown (n : Nat) (L : List Cal) (k : Nat) : Nat := n + ((L.take k).map fun x => weigh x + 1).sum
theorem grown_next {n k : Nat} {L : List Cal} {x : Cal} (h : L[k]? = some x) : grown n L (k + 1) = grown n L k + 1 + weigh x := by
  unfold grown
  rw [take_snoc L k x h]
  simp
  omega
theorem sum_one (L : List Cal) : (L.map fun x => weigh x + 1).sum = L.length + (L.map weigh).sum := by
  induction L with
  | nil => rfl
  | cons x L ih => simp only [List.map_cons, List.sum_cons, List.length_cons, ih]; omega
theorem grown_le {l : List Ent} {L : List Cal} (k : Nat) : grown l.length L k ≤ total l L := by
  unfold grown total
  have h1 : ((L.take k).map fun x => weigh x + 1).sum ≤ (L.map fun x => weigh x + 1).sum := by
    conv => rhs; rw [← List.take_append_drop k L]
    rw [List.map_append, List.sum_append]
    omega
  have h2 := sum_one L
  omega
theorem act_grown {n k : Nat} {L : List Cal} {x : Cal} {g : G} (h : L[k]? = some x) (hg : g.es.length ≤ grown n L k) : (act g x).es.length ≤ grown n L (k + 1) := by
  rw [grown_next h]
  have h1 := act_len g x
  have h2 : x.l.length ≤ weigh x := by unfold weigh; omega
  omega
end Go.Proofs.Ytndehdnffajigaa.Made
