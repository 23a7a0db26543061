/- What the document's own plain reading of pieces answers, walked. -/
import Derived.Test.YtamncdpeklbhlaaDoorStuWalkE
namespace Go.Proofs.YtamncdpeklbhlaaDoor.StuWalkF
open Go.RowKit Go.Proofs.YtamncdpeklbhlaaDoor.Kit Go.Proofs.YtamncdpeklbhlaaDoor.Stuff Go.Proofs.YtamncdpeklbhlaaDoor.StuWalkA Go.Proofs.YtamncdpeklbhlaaDoor.StuWalkE

/-- Both ways of the plain reading. -/
def Plain (w : World) (o : Option (List UInt8 × Bool)) (e : Ending) (w' : World) : Prop :=
  match o with
  | some (r, b) => ∃ v, e = .returned (.tuple #[v, .bool b]) ∧ w'.ownsRow w.heap.size 5 1 v r.length (vals r) ∧ Below w.heap.size w w'
  | none => e = .returned (.tuple #[.slice none 0 0, .bool false]) ∧ Below w.heap.size w w'
theorem plain_made {w w' : World} {r : List UInt8} {b : Bool} {v : Value} {n : Nat} {xs : List Value} (h : w'.ownsRow w.heap.size 5 1 v n xs) (hn : n = r.length) (hx : xs = vals r) (hb : Below w.heap.size w w') :
    Plain w (some (r, b)) (.returned (.tuple #[v, .bool b])) w' := by
  subst hn hx
  exact ⟨v, rfl, h, hb⟩

/-- What is still to be read, behind what was. -/
def rest (acc : List UInt8) (o : Option (List UInt8 × Bool)) : Option (List UInt8 × Bool) := o.map fun x => (acc ++ x.1, x.2)
theorem rest_nil (o : Option (List UInt8 × Bool)) : rest [] o = o := by cases o <;> rfl
theorem rest_rest (a b : List UInt8) (o : Option (List UInt8 × Bool)) : rest a (rest b o) = rest (a ++ b) o := by cases o <;> simp [rest]

/-- The three ways in which no piece stands there, and the one in which one does. -/
theorem piece_ways (x : UInt8) (t : List UInt8) :
    (piece (x :: t) = 0 ∧ x.toNat = 0) ∨ (piece (x :: t) = 0 ∧ 1 ≤ x.toNat ∧ t.length + 1 < x.toNat) ∨
    (piece (x :: t) = 0 ∧ 1 ≤ x.toNat ∧ x.toNat ≤ t.length + 1 ∧ zl (((x :: t).take x.toNat).drop 1) < x.toNat - 1) ∨
    (piece (x :: t) = x.toNat ∧ 1 ≤ x.toNat ∧ x.toNat ≤ t.length + 1 ∧ zl (((x :: t).take x.toNat).drop 1) = x.toNat - 1) := by
  rw [piece_cons]
  by_cases h0 : x = 0
  · subst h0
    exact .inl ⟨rfl, rfl⟩
  · have hx1 : 1 ≤ x.toNat := by
      rcases Nat.eq_zero_or_pos x.toNat with e | e
      · exact absurd (by rw [← UInt8.toNat_inj]; simpa using e) h0
      · exact e
    have et : ((x :: t).take x.toNat).drop 1 = t.take (x.toNat - 1) := by
      obtain ⟨k, hk⟩ : ∃ k, x.toNat = k + 1 := ⟨x.toNat - 1, by omega⟩
      rw [hk]; simp
    rw [if_neg h0, et]
    by_cases h1 : t.length + 1 < x.toNat
    · exact .inr (.inl ⟨by rw [if_pos h1], hx1, h1⟩)
    · by_cases h2 : zl (t.take (x.toNat - 1)) < x.toNat - 1
      · exact .inr (.inr (.inl ⟨by rw [if_neg h1, if_pos h2], hx1, by omega, h2⟩))
      · have := zl_le (t.take (x.toNat - 1))
        rw [List.length_take] at this
        exact .inr (.inr (.inr ⟨by rw [if_neg h1, if_neg h2], hx1, by omega, by omega⟩))

end Go.Proofs.YtamncdpeklbhlaaDoor.StuWalkF
