/- Plain mathematics of layer 7: three logs that grow by leaders of their own terms, and by merging from one another, have the same entries wherever they have one term at one index. No statement is proved here. -/
import Derived.Test.YtndehdnffajigaaMerged
namespace Go.Proofs.Ytndehdnffajigaa.Match
set_option linter.unusedSectionVars false
set_option linter.unusedVariables false
open Go.Proofs.Ytndehdnffajigaa.Rlog Go.Proofs.Ytndehdnffajigaa.Merged
open Go.Proofs.Ytndehdnffajigaa.Quorum (sound)

def snap0 : Snap := ⟨0, 0, 7, ByteArray.empty⟩
def upd {α : Type} (f : Nat → α) (a : Nat) (x : α) (b : Nat) : α := if b = a then x else f b
theorem upd_eq {α : Type} (f : Nat → α) (a : Nat) (x : α) : upd f a x a = x := if_pos rfl
theorem upd_ne {α : Type} (f : Nat → α) {a b : Nat} (x : α) (h : b ≠ a) : upd f a x b = f b := if_neg h
/-- A log of its own. -/
structure Own (g : G) : Prop where
  snap : g.snap = snap0
  fine : Fine g
def Mat (g h : G) : Prop := ∀ i e f, g.es[i]? = some e → h.es[i]? = some f → e.term = f.term → g.es.take (i + 1) = h.es.take (i + 1)
structure Inv (gs : Nat → G) (T : Nat) (lead : Int) (k : Nat) : Prop where
  own : ∀ a, a < 3 → Own (gs a)
  len : ∀ a, a < 3 → (gs a).es.length ≤ k
  low : ∀ a, a < 3 → ∀ e ∈ (gs a).es, e.term ≤ T
  cur : ∀ a, a < 3 → ∀ i e, (gs a).es[i]? = some e → e.term = T → ∃ b : Nat, b < 3 ∧ lead = (b : Int) ∧ (gs a).es.take (i + 1) = (gs b).es.take (i + 1)
  mat : ∀ a b, a < 3 → b < 3 → Mat (gs a) (gs b)
  lead : lead = -1 ∨ ∃ b : Nat, b < 3 ∧ lead = (b : Int)
theorem own_new : Own ⟨snap0, []⟩ := ⟨rfl, ⟨by decide +kernel, rfl, ⟨by decide, by decide, by decide⟩, by simp⟩⟩
theorem inv_new : Inv (fun _ => ⟨snap0, []⟩) 0 (-1) 0 :=
  ⟨fun _ _ => own_new, fun _ _ => by simp, fun _ _ e he => by simp at he, fun _ _ i e he => by simp at he, fun _ _ _ _ i e f he => by simp at he, .inl rfl⟩
theorem Inv.skip {gs : Nat → G} {T k : Nat} {lead : Int} (h : Inv gs T lead k) : Inv gs T lead (k + 1) :=
  ⟨h.own, fun a ha => Nat.le_trans (h.len a ha) (Nat.le_succ _), h.low, h.cur, h.mat, h.lead⟩
theorem Own.at_ {g : G} (o : Own g) {i : Nat} {e : Ent} (h : g.es[i]? = some e) : e.idx = i + 1 ∧ term g (i + 1) = some e.term ∧ EntB e := by
  have h1 := (o.fine.at_ h).1
  rw [o.snap] at h1
  have h2 : e.idx = i + 1 := by show _; simp only [snap0] at h1; omega
  have h3 := mem_term o.fine (List.mem_of_getElem? h)
  rw [h2] at h3
  exact ⟨h2, h3, o.fine.ents e (List.mem_of_getElem? h)⟩
theorem Own.has {g : G} (o : Own g) {i t : Nat} (h : term g i = some t) : (i = 0 ∧ t = 0) ∨ ∃ j e, i = j + 1 ∧ g.es[j]? = some e ∧ e.term = t := by
  rcases term_some h with ⟨h1, h2⟩ | ⟨k, e, hp, he, ht⟩
  · rw [o.snap] at h1 h2; exact .inl ⟨h1, h2⟩
  · have := (place_lt hp).2
    rw [o.snap] at this
    exact .inr ⟨k, e, by simp only [snap0] at this; omega, he, ht⟩
theorem Own.last {g : G} (o : Own g) : (last g).1 = g.es.length := by rw [o.fine.last_idx, o.snap]; simp [snap0]
theorem take_get {l r : List Ent} {i j : Nat} (h : l.take i = r.take i) (hj : j < i) : l[j]? = r[j]? := by
  rw [← List.getElem?_take_of_lt hj, h, List.getElem?_take_of_lt hj]
theorem take_less {l r : List Ent} {i j : Nat} (h : l.take i = r.take i) (hj : j ≤ i) : l.take j = r.take j := by
  rw [← Nat.min_eq_left hj, ← List.take_take, h, List.take_take]

/-! ### An entry more -/
theorem add_form (g : G) (o : Own g) (t : Nat) (ht : t < 18446744073709551616) (d : ByteArray) (hd : d.size ≤ 9223372036854775807) :
    Own (add g t 1 d).2 ∧ ((add g t 1 d).2.es = g.es ∨ ∃ e, (add g t 1 d).2.es = g.es ++ [e] ∧ e.term = t) := by
  refine ⟨⟨?_, fine_add o.fine t 1 d ht (by omega) (by omega) hd⟩, ?_⟩
  · unfold Rlog.add; split <;> exact o.snap
  · unfold Rlog.add
    split
    · exact .inr ⟨new g t 1 d, rfl, rfl⟩
    · exact .inl rfl
theorem get_snoc {l : List Ent} {e f : Ent} {i : Nat} (h : (l ++ [e])[i]? = some f) : (i < l.length ∧ l[i]? = some f) ∨ (i = l.length ∧ f = e) := by
  rcases Nat.lt_or_ge i l.length with h1 | h1
  · rw [List.getElem?_append_left h1] at h; exact .inl ⟨h1, h⟩
  · obtain ⟨h2, h3⟩ := List.getElem?_eq_some_iff.1 h
    simp at h2
    obtain rfl : i = l.length := by omega
    simp at h3
    exact .inr ⟨rfl, h3.symm⟩
theorem take_snoc' {l : List Ent} {e : Ent} {i : Nat} (h : i ≤ l.length) : (l ++ [e]).take i = l.take i := by rw [List.take_append_of_le_length h]
section
variable {gs : Nat → G} {T k : Nat} {lead : Int}
/-- The leader's log, one entry of its term longer. -/
theorem inv_grow (h : Inv gs T lead k) {a : Nat} (ha : a < 3) (hl : lead = (a : Int)) {g' : G} (o : Own g') {e : Ent} (he : g'.es = (gs a).es ++ [e]) (ht : e.term = T) : Inv (upd gs a g') T lead (k + 1) := by
  have hfree : ∀ b, b < 3 → ∀ f, (gs b).es[(gs a).es.length]? = some f → f.term ≠ T := by
    intro b hb f hf hft
    obtain ⟨c, hc, hlc, hcut⟩ := h.cur b hb _ f hf hft
    have : c = a := by omega
    subst this
    have := take_get hcut (Nat.lt_succ_self _)
    rw [hf] at this
    simp at this
  have hc : ∀ b, b < 3 → ∀ i f, (upd gs a g' b).es[i]? = some f → (((gs b).es[i]? = some f ∧ (upd gs a g' b).es.take (i + 1) = (gs b).es.take (i + 1)) ∨ (b = a ∧ i = (gs a).es.length ∧ f = e)) := by
    intro b hb i f hf
    by_cases hba : b = a
    · subst hba
      rw [upd_eq, he] at hf ⊢
      rcases get_snoc hf with ⟨h1, h2⟩ | ⟨h1, h2⟩
      · exact .inl ⟨h2, take_snoc' h1⟩
      · exact .inr ⟨rfl, h1, h2⟩
    · rw [upd_ne _ _ hba] at hf ⊢
      exact .inl ⟨hf, rfl⟩
  refine ⟨fun b hb => ?_, fun b hb => ?_, fun b hb f hf => ?_, fun b hb i f hf hft => ?_, fun b c hb hcc i f f2 hf hf2 hft => ?_, h.lead⟩
  · by_cases hba : b = a
    · subst hba; rw [upd_eq]; exact o
    · rw [upd_ne _ _ hba]; exact h.own b hb
  · by_cases hba : b = a
    · subst hba; rw [upd_eq, he]; have := h.len b hb; simp; omega
    · rw [upd_ne _ _ hba]; have := h.len b hb; omega
  · obtain ⟨i, hi⟩ := List.mem_iff_getElem?.1 hf
    rcases hc b hb i f hi with ⟨h1, _⟩ | ⟨_, _, rfl⟩
    · exact h.low b hb f (List.mem_of_getElem? h1)
    · omega
  · refine ⟨a, ha, hl, ?_⟩
    rcases hc b hb i f hf with ⟨h1, h2⟩ | ⟨rfl, rfl, rfl⟩
    · obtain ⟨c, hcl, hlc, hcut⟩ := h.cur b hb i f h1 hft
      have : c = a := by omega
      subst this
      rw [h2, hcut, upd_eq, he]
      have hle : i + 1 ≤ (gs c).es.length := by
        have := take_get hcut (Nat.lt_succ_self i)
        rw [h1] at this
        exact (List.getElem?_eq_some_iff.1 this.symm).1
      rw [take_snoc' hle]
    · rfl
  · rcases hc b hb i f hf with ⟨h1, h2⟩ | ⟨rfl, rfl, rfl⟩
    · rcases hc c hcc i f2 hf2 with ⟨h3, h4⟩ | ⟨rfl, rfl, rfl⟩
      · rw [h2, h4]; exact h.mat b c hb hcc i f f2 h1 h3 hft
      · exact absurd (hft.trans ht) (hfree b hb f h1)
    · rcases hc c hcc _ f2 hf2 with ⟨h3, _⟩ | ⟨rfl, _, _⟩
      · exact absurd (hft.symm.trans ht) (hfree c hcc f2 h3)
      · rfl
theorem inv_same (h : Inv gs T lead k) {a : Nat} {g' : G} (he : g' = gs a) : Inv (upd gs a g') T lead k := by
  have : upd gs a g' = gs := by
    funext b
    by_cases hb : b = a
    · subst hb; rw [upd_eq, he]
    · rw [upd_ne _ _ hb]
  rw [this]; exact h
theorem Own.eq {g h : G} (o : Own g) (p : Own h) (he : g.es = h.es) : g = h := by
  cases g; cases h
  have h1 := o.snap
  have h2 := p.snap
  simp only at h1 h2 he
  rw [h1, h2, he]
/-- A new term. -/
theorem inv_term (h : Inv gs T lead k) {a : Nat} (ha : a < 3) : Inv gs (T + 1) (a : Int) k :=
  ⟨h.own, h.len, fun b hb e he => Nat.le_trans (h.low b hb e he) (Nat.le_succ _),
    fun b hb i e he ht => by have := h.low b hb e (List.mem_of_getElem? he); omega, h.mat, .inr ⟨a, ha, rfl⟩⟩
theorem inv_add (h : Inv gs T lead k) {a : Nat} (ha : a < 3) (hl : lead = (a : Int)) (hT : T < 18446744073709551616) {d : ByteArray} (hd : d.size ≤ 9223372036854775807) : Inv (upd gs a (add (gs a) T 1 d).2) T lead (k + 1) := by
  obtain ⟨o, he | ⟨e, he, ht⟩⟩ := add_form (gs a) (h.own a ha) T hT d hd
  · exact inv_same h.skip (o.eq (h.own a ha) he)
  · exact inv_grow h ha hl o he ht
/-- The step of a new leader. -/
theorem inv_add_new (h : Inv gs T lead k) {a : Nat} (ha : a < 3) (hT : T + 1 < 18446744073709551616) {d : ByteArray} (hd : d.size ≤ 9223372036854775807) : Inv (upd gs a (add (gs a) (T + 1) 1 d).2) (T + 1) (a : Int) (k + 1) := by
  exact inv_add (inv_term h ha) ha rfl hT hd
/-- A log that is the beginning of another's. -/
theorem inv_front (h : Inv gs T lead k) {a b m : Nat} (ha : a < 3) (hb : b < 3) (hl : lead ≠ (a : Int)) {g' : G} (o : Own g') (he : g'.es = (gs b).es.take m) : Inv (upd gs a g') T lead (k + 1) := by
  have hc : ∀ c, c < 3 → ∃ c', c' < 3 ∧ (c ≠ a → c' = c) ∧ ∀ i f, (upd gs a g' c).es[i]? = some f → (gs c').es[i]? = some f ∧ (upd gs a g' c).es.take (i + 1) = (gs c').es.take (i + 1) := by
    intro c hcl
    by_cases hca : c = a
    · subst hca
      refine ⟨b, hb, fun h => absurd rfl h, fun i f hf => ?_⟩
      rw [upd_eq, he] at hf ⊢
      rw [List.getElem?_take] at hf
      split at hf
      · refine ⟨hf, ?_⟩
        rw [List.take_take, Nat.min_eq_left (by omega)]
      · cases hf
    · exact ⟨c, hcl, fun _ => rfl, fun i f hf => by rw [upd_ne _ _ hca] at hf ⊢; exact ⟨hf, rfl⟩⟩
  refine ⟨fun c hcl => ?_, fun c hcl => ?_, fun c hcl f hf => ?_, fun c hcl i f hf hft => ?_, fun c d hcl hdl i f f2 hf hf2 hft => ?_, h.lead⟩
  · by_cases hca : c = a
    · subst hca; rw [upd_eq]; exact o
    · rw [upd_ne _ _ hca]; exact h.own c hcl
  · by_cases hca : c = a
    · subst hca; rw [upd_eq, he]; have := h.len b hb; simp; omega
    · rw [upd_ne _ _ hca]; have := h.len c hcl; omega
  · obtain ⟨i, hi⟩ := List.mem_iff_getElem?.1 hf
    obtain ⟨c', hc', _, hall⟩ := hc c hcl
    exact h.low c' hc' f (List.mem_of_getElem? (hall i f hi).1)
  · obtain ⟨c', hc', _, hall⟩ := hc c hcl
    obtain ⟨h1, h2⟩ := hall i f hf
    obtain ⟨x, hx, hlx, hcut⟩ := h.cur c' hc' i f h1 hft
    refine ⟨x, hx, hlx, ?_⟩
    rw [h2, hcut, upd_ne _ _ (by intro e; subst e; exact hl hlx)]
  · obtain ⟨c', hc', _, hall⟩ := hc c hcl
    obtain ⟨d', hd', _, hall2⟩ := hc d hdl
    obtain ⟨h1, h2⟩ := hall i f hf
    obtain ⟨h3, h4⟩ := hall2 i f2 hf2
    rw [h2, h4]
    exact h.mat c' d' hc' hd' i f f2 h1 h3 hft
/-- What is merged from another log: nothing, or the log is its beginning. -/
theorem merge_front {g h : G} (og : Own g) (oh : Own h) (hm : Mat g h) {i t : Nat} (ht : term h i = some t) (hi : i ≤ h.es.length) :
    (merge g i t ((h.es.drop i).take 3)).2 = g ∨ (merge g i t ((h.es.drop i).take 3)).2.es = h.es.take (i + 3) := by
  obtain ⟨l, hl⟩ : ∃ l, (h.es.drop i).take 3 = l := ⟨_, rfl⟩
  rw [hl]
  have hget : ∀ (j : Nat) (e : Ent), l[j]? = some e → h.es[i + j]? = some e ∧ e.idx = i + j + 1 := by
    intro j e he
    rw [← hl, List.getElem?_take] at he
    split at he
    · rw [List.getElem?_drop] at he
      exact ⟨he, (oh.at_ he).1⟩
    · cases he
  by_cases h1 : chained l i t = false
  · left; unfold merge; rw [if_pos h1]
  have hold : l.takeWhile (old g) = [] ∧ l.dropWhile (old g) = l := by
    cases hl2 : l with
    | nil => simp
    | cons e r =>
      have h2 := (hget 0 e (by rw [hl2]; rfl)).2
      have h3 : old g e = false := by unfold old; rw [og.snap]; exact decide_eq_false (by show ¬ e.idx ≤ 0; omega)
      simp [h3]
  by_cases h2 : (lasts (l.takeWhile (old g)) i t).1 < g.snap.idx
  · left; unfold merge; rw [if_neg h1, if_pos h2]
  by_cases h3 : has g (lasts (l.takeWhile (old g)) i t).1 (lasts (l.takeWhile (old g)) i t).2 = false
  · left; unfold merge; rw [if_neg h1, if_neg h2, if_pos h3]
  have hmg : merge g i t l = lay g (l.dropWhile (there g)) := by unfold merge; rw [if_neg h1, if_neg h2, if_neg h3, hold.2]
  rw [hold.1, lasts_nil] at h3
  have h3' : term g i = some t := has_iff.1 (by simpa using h3)
  obtain ⟨k, hk, _, e2, h5, h6⟩ := while_split (there g) l
  rw [hmg, e2]
  cases hr : l.drop k with
  | nil => left; rfl
  | cons e r =>
    right
    have he : l[k]? = some e := by
      have : (l.drop k)[0]? = some e := by rw [hr]; rfl
      rw [List.getElem?_drop] at this
      simpa using this
    obtain ⟨hkl, _⟩ := List.getElem?_eq_some_iff.1 he
    have hk3 : k < 3 := by
      have : l.length ≤ 3 := by rw [← hl]; simp; omega
      omega
    have hf : chained l i t = true := by simpa using h1
    have hht : has g i t = true := has_iff.2 h3'
    have hh2 := has_take hht h5
    have hl2 := (follow_lasts (follow_take hf k)).1
    rw [List.length_take, Nat.min_eq_left (by omega)] at hl2
    have hid := (hget k e he).2
    have hes : (lay g (e :: r)).2.es = upto g e.idx ++ (e :: r) := rfl
    rw [hl2] at hh2
    have hup := og.fine.ahead_of hh2
    rw [← hid, og.snap] at hup
    simp only [snap0, Nat.sub_zero] at hup
    -- the same entries ahead
    have hsame : g.es.take (i + k) = h.es.take (i + k) := by
      rcases og.has (has_iff.1 hh2) with ⟨h0, _⟩ | ⟨j, f, hj, hfj, hft⟩
      · rw [h0]; simp
      · rw [hj]
        rcases Nat.eq_zero_or_pos k with hk0 | hk0
        · subst hk0
          simp only [List.take_zero, lasts_nil] at hft
          rcases oh.has ht with ⟨h0, _⟩ | ⟨j', f', hj', hfj', hft'⟩
          · omega
          · obtain rfl : j = j' := by omega
            exact hm j f f' hfj hfj' (hft.trans hft'.symm)
        · have hlk : l[k - 1]? = some (l[k - 1]'(by omega)) := List.getElem?_eq_getElem (by omega)
          have hx := (hget _ _ hlk).1
          have hla : lasts (l.take k) i t = (l[k - 1].idx, l[k - 1].term) := by
            have := lasts_take l i t (k - 1) _ hlk
            rwa [show k - 1 + 1 = k by omega] at this
          rw [hla] at hft
          rw [show i + (k - 1) = j by omega] at hx
          exact hm j f _ hfj hx hft
    rw [hes, hup, hsame, ← hr, ← hl, List.drop_take, List.drop_drop]
    rw [show i + 3 = (i + k) + (3 - k) by omega]
    exact List.take_add.symm
theorem inv_merge (h : Inv gs T lead k) {a b : Nat} (ha : a < 3) (hb : b < 3) (hl : lead ≠ (a : Int)) {i t : Nat} (ht : term (gs b) i = some t) (hi : i ≤ (gs b).es.length) :
    Inv (upd gs a (merge (gs a) i t (((gs b).es.drop i).take 3)).2) T lead (k + 1) := by
  have hbb : ∀ e ∈ ((gs b).es.drop i).take 3, EntB e := fun e he => (h.own b hb).fine.ents e (List.mem_of_mem_drop (List.mem_of_mem_take he))
  have o : Own (merge (gs a) i t (((gs b).es.drop i).take 3)).2 := ⟨(merge_snap _ _ _ _).trans (h.own a ha).snap, fine_merge (h.own a ha).fine hbb⟩
  rcases merge_front (h.own a ha) (h.own b hb) (h.mat a b ha hb) ht hi with he | he
  · exact inv_same h.skip he
  · exact inv_front h ha hb hl o he
end
end Go.Proofs.Ytndehdnffajigaa.Match
