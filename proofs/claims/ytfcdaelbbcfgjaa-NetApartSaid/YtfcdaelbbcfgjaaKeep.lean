/- What stays beside a net while the statement that a letter shares nothing goes on. No statement is proved here. -/
import Derived.Test.YtfcdaelbbcfgjaaOut
set_option linter.unusedVariables false
namespace Go.Proofs.Ytfcdaelbbcfgjaa.Keep
open Go.RowKit Go.Proofs.Ytfcdaelbbcfgjaa.Kit Go.Proofs.Ytfcdaelbbcfgjaa.Blocks Go.Proofs.Ytfcdaelbbcfgjaa.Ltr Go.Proofs.Ytfcdaelbbcfgjaa.NAt Go.Proofs.Ytfcdaelbbcfgjaa.WalkA Go.Proofs.Ytfcdaelbbcfgjaa.WalkG Go.Proofs.Ytfcdaelbbcfgjaa.Out

theorem soft_same {w w' : World} {A : Option Addr} {n c : Nat} (h : Soft w A n) (hg : ∀ g, (Value.slice A n c).ownBlock = some g → w'.heap[g]? = w.heap[g]?) : Soft w' A n := by
  rcases h with h | ⟨g, cur, h1, h2, h3⟩
  · exact .inl h
  · exact .inr ⟨g, cur, h1, (hg g (by subst h1; rfl)).trans h2, h3⟩
/-- The boxes of both letters and of the third, the entries that are bent, those that are kept. -/
structure Keep (w : World) (p : Nat) (v : Value) (E : Nat → Prop) (b0 b1 bo : Nat) (cx cy co : Array Value) (Ae Aw : Option Addr) (m ce cw : Nat) (es : List Ent) : Prop where
  x : w.heap[b0]? = some (.cells cx 34 (0, 0))
  y : w.heap[b1]? = some (.cells cy 34 (0, 0))
  o : w.heap[bo]? = some (.cells co 34 (0, 0))
  soft : Soft w Ae m
  was : w.ownsRow 0 51 4 (.slice Aw m cw) m (ecells es)
  ox : Out w p v E b0
  oy : Out w p v E b1
  oo : Out w p v E bo
  oe : ∀ g, (Value.slice Ae m ce).ownBlock = some g → Out w p v E g ∧ g ≠ b0 ∧ g ≠ b1 ∧ g ≠ bo ∧ (Value.slice Aw m cw).ownBlock ≠ some g
  ow : ∀ g, (Value.slice Aw m cw).ownBlock = some g → Out w p v E g ∧ g ≠ b0
section
variable {w w' : World} {p : Nat} {v v' : Value} {E E' : Nat → Prop} {b0 b1 bo m ce cw : Nat} {cx cy co : Array Value} {Ae Aw : Option Addr} {es : List Ent}
theorem Keep.step (h : Keep w p v E b0 b1 bo cx cy co Ae Aw m ce cw es) (k : ∀ q, Out w p v E q → Out w' p v' E' q ∧ w'.heap[q]? = w.heap[q]?) : Keep w' p v' E' b0 b1 bo cx cy co Ae Aw m ce cw es :=
  ⟨(k _ h.ox).2.trans h.x, (k _ h.oy).2.trans h.y, (k _ h.oo).2.trans h.o, soft_same (c := ce) h.soft (fun g hg => (k g (h.oe g hg).1).2), own_same h.was fun g hg => (k g (h.ow g hg).1).2,
    (k _ h.ox).1, (k _ h.oy).1, (k _ h.oo).1, fun g hg => ⟨(k g (h.oe g hg).1).1, (h.oe g hg).2⟩, fun g hg => ⟨(k g (h.ow g hg).1).1, (h.ow g hg).2⟩⟩
theorem Keep.below (h : Keep w p v E b0 b1 bo cx cy co Ae Aw m ce cw es) (k : Below w.heap.size w w') : Keep w' p v E b0 b1 bo cx cy co Ae Aw m ce cw es :=
  h.step fun q hq => ⟨hq.keep k.size, k.block q hq.lt⟩
/-- A cell of the entries that are bent. -/
theorem Keep.bend {B : Nat} {L : List Lt} {lost : Nat} (h : Keep w p v E b0 b1 bo cx cy co Ae Aw m ce cw es) (hN : NAt B 54 E w p v L lost) {g : Nat} (hg : (Value.slice Ae m ce).ownBlock = some g) (j : Nat) (u : Value) :
    Keep (w.setCell ⟨g, j, none⟩ u) p v E b0 b1 bo cx cy co Ae Aw m ce cw es ∧ NAt B 54 E (w.setCell ⟨g, j, none⟩ u) p v L lost := by
  obtain ⟨h1, h2, h3, h4, h5⟩ := h.oe g hg
  have ho : Only (fun q => q = g) w (w.setCell ⟨g, j, none⟩ u) := (Only.refl (fun q => q = g) w).setCell (a := ⟨g, j, none⟩) (.inr rfl) _
  refine ⟨⟨ho.heap h.x fun e => h2 e.symm, ho.heap h.y fun e => h3 e.symm, ho.heap h.o fun e => h4 e.symm, h.soft.set u, ho.own h.was fun q hq e => h5 (by rw [← (show q = g from e)]; exact hq), h.ox.keep ho.size, h.oy.keep ho.size, h.oo.keep ho.size, fun q hq => ⟨(h.oe q hq).1.keep ho.size, (h.oe q hq).2⟩, fun q hq => ⟨(h.ow q hq).1.keep ho.size, (h.ow q hq).2⟩⟩,
    hN.keep ho (fun q hq e => h1.mine (by rw [← (show q = g from e)]; exact hq)) fun q hq e => h1.ent (by rw [← (show q = g from e)]; exact hq)⟩
end
end Go.Proofs.Ytfcdaelbbcfgjaa.Keep
