/- A net in memory; what a call on one leaves. No statement is proved here. -/
import Derived.Test.YtfcdaelbbcfgjaaLtr
set_option linter.unusedVariables false
namespace Go.Proofs.Ytfcdaelbbcfgjaa.NAt
open Go.RowKit Go.Proofs.Ytfcdaelbbcfgjaa.Kit Go.Proofs.Ytfcdaelbbcfgjaa.Blocks Go.Proofs.Ytfcdaelbbcfgjaa.Ltr

/-- A letter's entries lie where it says, in a block of E. -/
structure Fit (w : World) (E : Nat → Prop) (x : Lt) : Prop where
  re : RE w w.heap.size x.A x.n x.es
  fits : x.n ≤ x.c
  max : x.c ≤ 9223372036854775807
  few : x.n * 40 ≤ 140737488355328
  at_ : ∀ ad, x.A = some ad → 0 < x.n → E ad.block
/-- A net (T: the program's, or the document's) lies at p; v: its letters' slice; their entries lie in E. -/
structure NAt (B : Nat) (T : TypeId) (E : Nat → Prop) (w : World) (p : Nat) (v : Value) (L : List Lt) (lost : Nat) : Prop where
  low : B ≤ p
  cell : w.heap[p]? = some (.cells #[v, .int .i64 (lost : Int)] T (0, 0))
  own : w.ownsRow B 34 10 v L.length (lcells L)
  np : v.ownBlock ≠ some p
  fit : ∀ x ∈ L, Fit w E x
  off : ∀ g, E g → g ≠ p ∧ v.ownBlock ≠ some g ∧ g < w.heap.size
/-- The blocks of a net, its letters' entries aside. -/
def Mine (p : Nat) (v : Value) (g : Nat) : Prop := g = p ∨ v.ownBlock = some g
/-- What a call that changes a net leaves. -/
def LeftN (B : Nat) (T : TypeId) (E E' : Nat → Prop) (w : World) (p : Nat) (v : Value) (L' : List Lt) (lost' : Nat) (w' : World) : Prop :=
  ∃ v', NAt B T E' w' p v' L' lost' ∧ Only (Mine p v) w w' ∧ (∀ g, v'.ownBlock = some g → v.ownBlock = some g ∨ w.heap.size ≤ g) ∧ (∀ g, E g → E' g) ∧ ∀ g, E' g → E g ∨ w.heap.size ≤ g

section
variable {B : Nat} {T : TypeId} {E E' E'' : Nat → Prop} {w w' w1 : World} {p : Nat} {v : Value} {L L' L'' : List Lt} {lost lost' lost'' : Nat} {x : Lt}
theorem Fit.keep (h : Fit w E x) {S : Nat → Prop} (k : Only S w w') (hs : ∀ g, E g → ¬ S g) : Fit w' E x := by
  refine ⟨⟨h.re.1, fun hn => ?_⟩, h.fits, h.max, h.few, h.at_⟩
  obtain ⟨ad, e, hb, hc⟩ := h.re.2 hn
  exact ⟨ad, e, Nat.lt_of_lt_of_le hb k.size, fun j u hu => (k.cell (p := ad.add j) (by rw [block_of_add]; exact hb) (by rw [block_of_add]; exact hs _ (h.at_ ad e hn))).trans (hc j u hu)⟩
theorem Fit.below (h : Fit w E x) (k : Below w.heap.size w w') : Fit w' E x := h.keep (S := fun _ => False) (Only.of_below k) (by simp)
theorem Fit.more (h : Fit w E x) (hE : ∀ g, E g → E' g) : Fit w E' x := ⟨h.re, h.fits, h.max, h.few, fun ad e hn => hE _ (h.at_ ad e hn)⟩
theorem Fit.zero (w : World) (E : Nat → Prop) : Fit w E zeroL := ⟨RE.nil _ _ _, Nat.le_refl _, Nat.zero_le _, by show 0 * 40 ≤ _; omega, fun ad e hn => absurd hn (Nat.lt_irrefl 0)⟩
theorem NAt.plt (h : NAt B T E w p v L lost) : p < w.heap.size := lt_at h.cell
theorem NAt.base (h : NAt B T E w p v L lost) : B ≤ w.heap.size := by have := h.plt; have := h.low; omega
theorem NAt.mine_lt (h : NAt B T E w p v L lost) {g : Nat} (hg : Mine p v g) : B ≤ g ∧ g < w.heap.size := by
  rcases hg with rfl | hg
  · exact ⟨h.low, h.plt⟩
  · exact h.own.lt g hg
theorem NAt.c0 (h : NAt B T E w p v L lost) : w.cell? ⟨p, 0, none⟩ = some v := by rw [cell_at h.cell]; rfl
theorem NAt.c1 (h : NAt B T E w p v L lost) : w.cell? ⟨p, 1, none⟩ = some (.int .i64 (lost : Int)) := by rw [cell_at h.cell]; rfl
theorem NAt.free (h : NAt B T E w p v L lost) (i : Nat) : w.frozen? ⟨p, i, none⟩ = false := free_at h.cell i
theorem NAt.keep (h : NAt B T E w p v L lost) {S : Nat → Prop} (k : Only S w w') (h1 : ∀ g, Mine p v g → ¬ S g) (h2 : ∀ g, E g → ¬ S g) : NAt B T E w' p v L lost :=
  ⟨h.low, k.heap h.cell (h1 p (.inl rfl)), k.own h.own fun g hg => h1 g (.inr hg), h.np, fun x hx => (h.fit x hx).keep k h2, fun g hg => ⟨(h.off g hg).1, (h.off g hg).2.1, Nat.lt_of_lt_of_le (h.off g hg).2.2 k.size⟩⟩
theorem NAt.below (h : NAt B T E w p v L lost) (k : Below w.heap.size w w') : NAt B T E w' p v L lost := h.keep (S := fun _ => False) (Only.of_below k) (by simp) (by simp)
/-- The letters' slice, in its form. -/
theorem NAt.form (h : NAt B T E w p v L lost) : ∃ A c, v = .slice A L.length c ∧ L.length ≤ c ∧ c ≤ 9223372036854775807 ∧ RL w w.heap.size A L.length L := by
  obtain ⟨A, c, hv, h1, h2, h3⟩ := own_form h.own
  unfold maxLen at h2
  exact ⟨A, c, hv, h1, by omega, h3⟩
/-- Another row of letters is laid: w1, where only the row changed (and what is new); then the field is written. -/
theorem NAt.rowed (h : NAt B T E w p v L lost) {n : Nat} {v' : Value} {xs : List Value} (hE : ∀ g, E g → E' g) (hE' : ∀ g, E' g → E g ∨ w.heap.size ≤ g ∧ g < w1.heap.size ∧ v'.ownBlock ≠ some g)
    (o : Only (fun q => v.ownBlock = some q) w w1) (hown : w1.ownsRow B 34 10 v' n xs) (hn : n = L'.length) (hx : xs = lcells L') (hfit : ∀ x ∈ L', Fit w1 E' x)
    (hat : ∀ q, v'.ownBlock = some q → v.ownBlock = some q ∨ w.heap.size ≤ q) :
    w1.cell? ⟨p, 0, none⟩ = some v ∧ w1.frozen? ⟨p, 0, none⟩ = false ∧ p < w1.heap.size ∧ LeftN B T E E' w p v L' lost (w1.setCell ⟨p, 0, none⟩ v') := by
  subst hn hx
  have hc := o.heap h.cell h.np
  have hset : Only (fun q => q = p) w1 (w1.setCell ⟨p, 0, none⟩ v') := (Only.refl (fun q => q = p) w1).setCell (a := ⟨p, 0, none⟩) (.inr rfl) v'
  have hplt := h.plt
  have hnp : v'.ownBlock ≠ some p := fun e => by
    rcases hat p e with e1 | e1
    · exact h.np e1
    · omega
  have hep : ∀ g, E' g → g ≠ p := fun g hg => by
    rcases hE' g hg with e | e
    · exact (h.off g e).1
    · omega
  refine ⟨by rw [cell_at hc]; rfl, free_at hc 0, lt_at hc, v', ⟨h.low, by rw [set_at hc]; rfl, hset.own hown fun g hg e => hnp (e ▸ hg), hnp, fun x hx => (hfit x hx).keep hset fun g hg e => hep g hg e, fun g hg => ⟨hep g hg, ?_, ?_⟩⟩, ?_, hat, hE, fun g hg => ?_⟩
  · rcases hE' g hg with e | e
    · intro e2
      rcases hat g e2 with e3 | e3
      · exact (h.off g e).2.1 e3
      · have := (h.off g e).2.2; omega
    · exact e.2.2
  · have h1 := hset.size
    have h2 := o.size
    rcases hE' g hg with e | e
    · have := (h.off g e).2.2; omega
    · omega
  · exact (o.mono fun q _ hq => .inr hq).trans (hset.mono fun q _ hq => .inl hq)
  · rcases hE' g hg with e | e
    · exact .inl e
    · exact .inr e.1
/-- One more is lost. -/
theorem NAt.losing (h : NAt B T E w p v L lost) (m : Nat) : LeftN B T E E w p v L m (w.setCell ⟨p, 1, none⟩ (.int .i64 (m : Int))) := by
  have hset : Only (fun q => q = p) w (w.setCell ⟨p, 1, none⟩ (.int .i64 (m : Int))) := (Only.refl (fun q => q = p) w).setCell (a := ⟨p, 1, none⟩) (.inr rfl) _
  refine ⟨v, ⟨h.low, by rw [set_at h.cell]; rfl, hset.own h.own fun g hg e => h.np (e ▸ hg), h.np, fun x hx => (h.fit x hx).keep hset fun g hg e => (h.off g hg).1 e, fun g hg => ⟨(h.off g hg).1, (h.off g hg).2.1, Nat.lt_of_lt_of_le (h.off g hg).2.2 hset.size⟩⟩,
    hset.mono fun q _ hq => .inl hq, fun g hg => .inl hg, fun g hg => hg, fun g hg => .inl hg⟩
theorem LeftN.of_below (h : NAt B T E w p v L lost) (k : Below w.heap.size w w') : LeftN B T E E w p v L lost w' := ⟨v, h.below k, Only.of_below k, fun g hg => .inl hg, fun g hg => hg, fun g hg => .inl hg⟩
/-- A call behind a call. -/
theorem LeftN.then {v1 : Value} (k1 : Only (Mine p v) w w1) (hf : ∀ g, v1.ownBlock = some g → v.ownBlock = some g ∨ w.heap.size ≤ g) (he : ∀ g, E g → E' g) (he' : ∀ g, E' g → E g ∨ w.heap.size ≤ g)
    (k2 : LeftN B T E' E'' w1 p v1 L'' lost'' w') : LeftN B T E E'' w p v L'' lost'' w' := by
  obtain ⟨v2, h2, o2, f2, e2, e3⟩ := k2
  refine ⟨v2, h2, k1.trans' o2 fun q hq => ?_, fun q hq => ?_, fun g hg => e2 g (he g hg), fun g hg => ?_⟩
  · rcases hq with hq | hq
    · exact .inl (.inl hq)
    · rcases hf q hq with e | e
      · exact .inl (.inr e)
      · exact .inr e
  · rcases f2 q hq with h | h
    · exact hf q h
    · exact .inr (Nat.le_trans k1.size h)
  · rcases e3 g hg with h | h
    · exact he' g h
    · exact .inr (Nat.le_trans k1.size h)
theorem LeftN.afterBelow (k1 : Below w.heap.size w w1) (k2 : LeftN B T E E' w1 p v L' lost' w') : LeftN B T E E' w p v L' lost' w' :=
  LeftN.then (Only.of_below k1) (fun _ h => .inl h) (fun _ h => h) (fun _ h => .inl h) k2
theorem LeftN.thenBelow (k1 : LeftN B T E E' w p v L' lost' w1) (k2 : Below w1.heap.size w1 w') : LeftN B T E E' w p v L' lost' w' := by
  obtain ⟨v1, h1, o1, f1, e1, e2⟩ := k1
  exact ⟨v1, h1.below k2, o1.thenBelow k2, f1, e1, e2⟩
end
end Go.Proofs.Ytfcdaelbbcfgjaa.NAt
