/- Blocks that are none of a net's; copies that are bent. No statement is proved here. -/
import Derived.Test.YtfcdaelbbcfgjaaLawB
set_option linter.unusedVariables false
namespace Go.Proofs.Ytfcdaelbbcfgjaa.Out
open Go.RowKit Go.Proofs.Ytfcdaelbbcfgjaa.Kit Go.Proofs.Ytfcdaelbbcfgjaa.Blocks Go.Proofs.Ytfcdaelbbcfgjaa.Ltr Go.Proofs.Ytfcdaelbbcfgjaa.NAt Go.Proofs.Ytfcdaelbbcfgjaa.WalkA Go.Proofs.Ytfcdaelbbcfgjaa.WalkG

structure Out (w : World) (p : Nat) (v : Value) (E : Nat → Prop) (q : Nat) : Prop where
  lt : q < w.heap.size
  mine : ¬ Mine p v q
  ent : ¬ E q
section
variable {B : Nat} {T : TypeId} {E E' : Nat → Prop} {w w' : World} {p : Nat} {v : Value} {L L' : List Lt} {lost lost' : Nat}
theorem left_out (h : NAt B T E w p v L lost) (k : LeftN B T E E' w p v L' lost' w') : ∃ v', NAt B T E' w' p v' L' lost' ∧ Only (Mine p v) w w' ∧ Below B w w' ∧ (∀ g, E g → E' g) ∧ ∀ q, Out w p v E q → Out w' p v' E' q ∧ w'.heap[q]? = w.heap[q]? := by
  obtain ⟨v', h', o, f, e1, e2⟩ := k
  refine ⟨v', h', o, o.below h.base fun g hg => (h.mine_lt hg).1, e1, fun q hq => ⟨⟨Nat.lt_of_lt_of_le hq.lt o.size, fun hm => ?_, fun he => ?_⟩, o.block q hq.lt hq.mine⟩⟩
  · rcases hm with e | e
    · exact hq.mine (.inl e)
    · rcases f q e with e | e
      · exact hq.mine (.inr e)
      · have := hq.lt; omega
  · rcases e2 q he with e | e
    · exact hq.ent e
    · have := hq.lt; omega
theorem Out.keep {q : Nat} (h : Out w p v E q) (k : w.heap.size ≤ w'.heap.size) : Out w' p v E q := ⟨Nat.lt_of_lt_of_le h.lt k, h.mine, h.ent⟩
end
/-- A letter's entries lie in a row of the call's own that is none of the letters' row; their terms are numbers. -/
def Bent (w : World) (base : Nat) (v : Value) (x : Lt) : Prop :=
  x.n = 0 ∨ ∃ g cur, x.A = some ⟨g, 0, none⟩ ∧ base ≤ g ∧ v.ownBlock ≠ some g ∧ w.heap[g]? = some (.cells cur 51 (0, 0)) ∧ ∀ i, i < x.n → ∃ t, cur[i * 4]? = some (.int .u64 t)
theorem Bent.of_copies {w : World} {base : Nat} {v : Value} {L M : List Lt} (h : Copies w base v L M) : ∀ x ∈ M, Bent w base v x := fun x hx => by
  obtain ⟨h1, _, h3⟩ := h.ents x hx
  rcases h1.2 with ⟨_, h0⟩ | ⟨g, c, cur, hv, hb, hg, hnc, hcm, hcs, htake⟩
  · exact .inl h0
  · have hA : x.A = some ⟨g, 0, none⟩ := by injection hv
    refine .inr ⟨g, cur, hA, hb, h3 g (by rw [hv]; rfl), hg, fun i hi => ?_⟩
    have hl : x.es.length = x.n := by have := h1.1; rw [ecells_length] at this; omega
    have he : x.es[i]? = some x.es[i] := List.getElem?_eq_getElem (by omega)
    have hc := ecells_get x.es i 0 _ he (by omega)
    rw [← htake, Nat.add_zero, List.getElem?_take, if_pos (by omega)] at hc
    exact ⟨_, by rw [← Array.getElem?_toList]; rw [hc]; rfl⟩
theorem Bent.set {w : World} {base : Nat} {v : Value} {x : Lt} (h : Bent w base v x) (g' j : Nat) (z : Int) : Bent (w.setCell ⟨g', j, none⟩ (.int .u64 z)) base v x := by
  rcases h with h | ⟨g, cur, h1, h2, h3, h4, h5⟩
  · exact .inl h
  · by_cases hg : g = g'
    · subst hg
      refine .inr ⟨g, _, h1, h2, h3, set_at h4 _, fun i hi => ?_⟩
      obtain ⟨t, ht⟩ := h5 i hi
      rw [Array.getElem?_setIfInBounds]
      split
      · rename_i e
        subst e
        have hl : i * 4 < cur.size := (Array.getElem?_eq_some_iff.1 ht).1
        exact ⟨z, by rw [if_pos hl]⟩
      · exact ⟨t, ht⟩
    · exact .inr ⟨g, cur, h1, h2, h3, ((Only.refl (fun q => q = g') w).setCell (a := ⟨g', j, none⟩) (.inr rfl) _).heap h4 hg, h5⟩
theorem Bent.below {w w' : World} {base : Nat} {v : Value} {x : Lt} (h : Bent w base v x) (k : Below w.heap.size w w') : Bent w' base v x := by
  rcases h with h | ⟨g, cur, h1, h2, h3, h4, h5⟩
  · exact .inl h
  · exact .inr ⟨g, cur, h1, h2, h3, (k.block g (lt_at h4)).trans h4, h5⟩
theorem own_same {w w' : World} {base size n : Nat} {e : TypeId} {s : Value} {xs : List Value} (h : w.ownsRow base e size s n xs) (hg : ∀ g, s.ownBlock = some g → w'.heap[g]? = w.heap[g]?) : w'.ownsRow base e size s n xs := by
  refine ⟨h.1, ?_⟩
  rcases h.2 with hn | ⟨g, cap, cur, rfl, h1, hgg, hrest⟩
  · exact .inl hn
  · exact .inr ⟨g, cap, cur, rfl, h1, (hg g rfl).trans hgg, hrest⟩
/-- A row of entries whose cells may be written. -/
def Soft (w : World) (A : Option Addr) (n : Nat) : Prop := n = 0 ∨ ∃ g cur, A = some ⟨g, 0, none⟩ ∧ w.heap[g]? = some (.cells cur 51 (0, 0)) ∧ n * 4 ≤ cur.size
theorem Soft.of_own {w : World} {base n c : Nat} {A : Option Addr} {xs : List Value} (h : w.ownsRow base 51 4 (.slice A n c) n xs) : Soft w A n := by
  rcases h.2 with ⟨_, h0⟩ | ⟨g, cap, cur, hv, hb, hg, hnc, hcm, hcs, htake⟩
  · exact .inl h0
  · have hA : A = some ⟨g, 0, none⟩ := by injection hv
    have hc : c = cap := by injection hv
    exact .inr ⟨g, cur, hA, hg, by rw [hcs]; exact Nat.mul_le_mul_right 4 hnc⟩
theorem Soft.set {w : World} {A : Option Addr} {n g j : Nat} (h : Soft w A n) (u : Value) : Soft (w.setCell ⟨g, j, none⟩ u) A n := by
  rcases h with h | ⟨g', cur, h1, h2, h3⟩
  · exact .inl h
  · by_cases hg : g' = g
    · subst hg
      exact .inr ⟨g', _, h1, set_at h2 _, by simpa using h3⟩
    · exact .inr ⟨g', cur, h1, ((Only.refl (fun q => q = g) w).setCell (a := ⟨g, j, none⟩) (.inr rfl) _).heap h2 hg, h3⟩
end Go.Proofs.Ytfcdaelbbcfgjaa.Out
