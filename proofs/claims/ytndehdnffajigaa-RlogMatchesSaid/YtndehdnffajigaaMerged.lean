/- Plain mathematics of layer 7: what is merged is there, what was ahead stays, merged again nothing changes; a snapshot within a log. No statement is proved here. -/
import Derived.Test.YtndehdnffajigaaRlog
namespace Go.Proofs.Ytndehdnffajigaa.Merged
set_option linter.unusedSectionVars false
open Go.Proofs.Ytndehdnffajigaa.Rlog
open Go.Proofs.Ytndehdnffajigaa.Quorum (sound)

theorem mem_term {g : G} (f : Fine g) {e : Ent} (he : e ∈ g.es) : term g e.idx = some e.term := by
  obtain ⟨k, hk⟩ := List.mem_iff_getElem?.1 he
  exact term_at f hk
theorem has_mem {g : G} (f : Fine g) {i t : Nat} (h : term g i = some t) : (i = g.snap.idx ∧ t = g.snap.term) ∨ ∃ e ∈ g.es, e.idx = i ∧ e.term = t := by
  rcases term_some h with h | ⟨k, e, hp, he, ht⟩
  · exact .inl h
  · have h1 := (f.at_ he).1
    have h2 := (place_lt hp).2
    exact .inr ⟨e, List.mem_of_getElem? he, by omega, ht⟩
/-- What lies up to N is as it was. -/
theorem still {g g' : G} {N : Nat} (f : Fine g) (f' : Fine g') (hs : g'.snap = g.snap) (hsub : ∀ e ∈ g.es, e.idx ≤ N → e ∈ g'.es) {i t : Nat} (h : term g i = some t) (hi : i ≤ N) : term g' i = some t := by
  rcases has_mem f h with ⟨rfl, rfl⟩ | ⟨e, he, rfl, rfl⟩
  · rw [← hs]; exact term_snap g'
  · exact mem_term f' (hsub e he hi)
theorem has_iff {g : G} {i t : Nat} : has g i t = true ↔ term g i = some t := by unfold has; rw [decide_eq_true_eq]
theorem dropWhile_all {α : Type} {p : α → Bool} {l : List α} (h : ∀ e ∈ l, p e = true) : l.dropWhile p = [] := by
  induction l with
  | nil => rfl
  | cons x l ih => rw [List.dropWhile_cons, if_pos (h x (by simp))]; exact ih fun e he => h e (by simp [he])
/-- Behind what was taken, all lies behind the snapshot. -/
theorem old_drop {g : G} {l : List Ent} {i t k : Nat} (hf : chained l i t = true) (h4 : ∀ e, l[k]? = some e → old g e = false) {x : Ent} (hx : x ∈ l.drop k) : g.snap.idx < x.idx ∧ (lasts (l.take k) i t).1 < x.idx := by
  obtain ⟨j, hj⟩ := List.mem_iff_getElem?.1 hx
  rw [List.getElem?_drop] at hj
  have h1 := (follow_at hf hj).1
  obtain ⟨hjl, _⟩ := List.getElem?_eq_some_iff.1 hj
  have hk : l[k]? = some (l[k]'(by omega)) := List.getElem?_eq_getElem (by omega)
  have h2 := (follow_at hf hk).1
  have h3 := h4 _ hk
  unfold old at h3
  rw [decide_eq_false_iff_not] at h3
  have h5 := (follow_lasts (follow_take hf k)).1
  rw [List.length_take, Nat.min_eq_left (by omega)] at h5
  omega
structure MergedOk (g g' : G) (i t : Nat) (l : List Ent) : Prop where
  there_ : ∀ x ∈ l, g.snap.idx < x.idx → term g' x.idx = some x.term
  stays : ∀ x ∈ g.es, x.idx ≤ i → term g' x.idx = some x.term
  again : merge g' i t l = (([], true), g')
theorem merge_snap (g : G) (i t : Nat) (l : List Ent) : (merge g i t l).2.snap = g.snap := by
  unfold merge
  split
  · rfl
  split
  · rfl
  split
  · rfl
  · unfold lay; split <;> rfl
theorem merge_no {g : G} {i t : Nat} {l : List Ent} (h : (merge g i t l).1.2 = false) : merge g i t l = (([], false), g) := by
  unfold merge at h ⊢
  split
  · rfl
  · rename_i h1
    rw [if_neg h1] at h
    split
    · rename_i h2; rw [if_pos h2] at h; cases h
    · rename_i h2
      rw [if_neg h2] at h
      split
      · rfl
      · rename_i h3
        rw [if_neg h3] at h
        unfold lay at h
        split at h <;> cases h
theorem merge_chained {g : G} {i t : Nat} {l : List Ent} (h : (merge g i t l).1.2 = true) : chained l i t = true := by
  cases hc : chained l i t with
  | true => rfl
  | false => unfold merge at h; rw [if_pos hc] at h; cases h
theorem merge_ok {g : G} (f : Fine g) {i t : Nat} {l : List Ent} (hb : ∀ e ∈ l, EntB e) (h : (merge g i t l).1.2 = true) : MergedOk g (merge g i t l).2 i t l := by
  have f' := fine_merge f (i := i) (t := t) hb
  have hf := merge_chained h
  have hsn := merge_snap g i t l
  obtain ⟨k, hk, e1, e2, h3, h4⟩ := while_split (old g) l
  have hold : ∀ x ∈ l.take k, x.idx ≤ g.snap.idx := fun x hx => by have := h3 x hx; unfold old at this; simpa using this
  have hcf : ¬ chained l i t = false := by simp [hf]
  by_cases h2 : (lasts (l.takeWhile (old g)) i t).1 < g.snap.idx
  · have hm : merge g i t l = (([], true), g) := by unfold merge; rw [if_neg hcf, if_pos h2]
    rw [hm]
    refine ⟨fun x hx hlt => ?_, fun x hx _ => mem_term f hx, hm⟩
    rw [e1] at h2
    rcases (List.mem_append.1 (by rw [List.take_append_drop]; exact hx : x ∈ l.take k ++ l.drop k)) with hx | hx
    · have := hold x hx; omega
    · exfalso
      obtain ⟨j, hj⟩ := List.mem_iff_getElem?.1 hx
      rw [List.getElem?_drop] at hj
      obtain ⟨hjl, _⟩ := List.getElem?_eq_some_iff.1 hj
      have hkk : l[k]? = some (l[k]'(by omega)) := List.getElem?_eq_getElem (by omega)
      have h6 := (follow_at hf hkk).1
      have h5 := (follow_lasts (follow_take hf k)).1
      rw [List.length_take, Nat.min_eq_left (by omega)] at h5
      have h7 := h4 _ hkk
      unfold old at h7
      rw [decide_eq_false_iff_not] at h7
      omega
  by_cases h3' : has g (lasts (l.takeWhile (old g)) i t).1 (lasts (l.takeWhile (old g)) i t).2 = false
  · have hm : merge g i t l = (([], false), g) := by unfold merge; rw [if_neg hcf, if_neg h2, if_pos h3']
    rw [hm] at h
    cases h
  have hm : merge g i t l = lay g ((l.dropWhile (old g)).dropWhile (there g)) := by unfold merge; rw [if_neg hcf, if_neg h2, if_neg h3']
  have hh : has g (lasts (l.takeWhile (old g)) i t).1 (lasts (l.takeWhile (old g)) i t).2 = true := by simpa using h3'
  have hd := follow_drop hf k
  obtain ⟨j, hj, _, e4, h5, h6⟩ := while_split (there g) (l.drop k)
  -- what is there, is there behind it, if what lies ahead stays
  have build : (∀ e ∈ g.es, e.idx ≤ (lasts (l.take k) i t).1 + j → e ∈ (merge g i t l).2.es) → (∀ e ∈ (l.drop k).drop j, e ∈ (merge g i t l).2.es) → MergedOk g (merge g i t l).2 i t l := by
    intro hsub hnew
    have hI : i ≤ (lasts (l.take k) i t).1 := by have := (follow_lasts (follow_take hf k)).1; omega
    have hth : ∀ x ∈ l.drop k, term (merge g i t l).2 x.idx = some x.term := by
      intro x hx
      rcases (List.mem_append.1 (by rw [List.take_append_drop]; exact hx : x ∈ (l.drop k).take j ++ (l.drop k).drop j)) with hx1 | hx1
      · have h7 := h5 x hx1
        unfold there at h7
        refine still f f' hsn hsub (has_iff.1 h7) ?_
        obtain ⟨q, hq⟩ := List.mem_iff_getElem?.1 hx1
        have hq2 : (l.drop k)[q]? = some x ∧ q < j := by
          rw [List.getElem?_take] at hq
          split at hq
          · exact ⟨hq, by assumption⟩
          · cases hq
        have := (follow_at hd hq2.1).1
        omega
      · exact mem_term f' (hnew x hx1)
    have hhas : has (merge g i t l).2 (lasts (l.take k) i t).1 (lasts (l.take k) i t).2 = true := by
      rw [e1] at hh
      exact has_iff.2 (still f f' hsn hsub (has_iff.1 hh) (by omega))
    have hold2 : old (merge g i t l).2 = old g := by funext e; unfold old; rw [hsn]
    refine ⟨fun x hx hlt => ?_, fun x hx hle => still f f' hsn hsub (mem_term f hx) (by omega), ?_⟩
    · rcases (List.mem_append.1 (by rw [List.take_append_drop]; exact hx : x ∈ l.take k ++ l.drop k)) with hx1 | hx1
      · have := hold x hx1; omega
      · exact hth x hx1
    · generalize (merge g i t l).2 = g' at *
      unfold merge
      rw [hold2, if_neg hcf, if_neg (by rw [hsn]; exact h2), e1, if_neg (by rw [hhas]; simp), e2, dropWhile_all (p := there g') (l := l.drop k) (fun x hx => has_iff.2 (hth x hx))]
      rfl
  have hm2 : merge g i t l = lay g ((l.drop k).drop j) := by rw [hm, e2, e4]
  cases hr : (l.drop k).drop j with
  | nil =>
    rw [hr] at hm2
    have hm3 : (merge g i t l).2 = g := by rw [hm2]; rfl
    exact build (fun e he _ => by rw [hm3]; exact he) (fun e he => by rw [hr] at he; cases he)
  | cons e r =>
    rw [hr] at hm2
    have hes : (merge g i t l).2.es = upto g e.idx ++ (e :: r) := by rw [hm2]; rfl
    have he : (l.drop k)[j]? = some e := by
      have : ((l.drop k).drop j)[0]? = some e := by rw [hr]; rfl
      rw [List.getElem?_drop] at this
      simpa using this
    have hidx := (follow_at hd he).1
    obtain ⟨hjl, _⟩ := List.getElem?_eq_some_iff.1 he
    rw [e1] at hh
    have hh2 := has_take hh h5
    have hl2 := (follow_lasts (follow_take hd j)).1
    rw [List.length_take, Nat.min_eq_left (by omega)] at hl2
    rw [hl2] at hh2
    have hup := f.ahead_of hh2
    rw [← hidx] at hup
    refine build (fun x hx hle => ?_) (fun x hx => by rw [hes, ← hr]; exact List.mem_append.2 (.inr hx))
    rw [hes, hup]
    obtain ⟨q, hq⟩ := List.mem_iff_getElem?.1 hx
    have hqi := (f.at_ hq).1
    refine List.mem_append.2 (.inl (List.mem_iff_getElem?.2 ⟨q, ?_⟩))
    rw [List.getElem?_take, if_pos (by omega)]
    exact hq

/-! ### A snapshot within a log -/
theorem members_some {g : G} {i : Nat} {x : Ent} (h : pick g.es i = some x) : members g i = (setOf x.data, x.idx) := by unfold members; rw [h]
theorem members_none {g : G} {i : Nat} (h : pick g.es i = none) : members g i = (g.snap.cfg, g.snap.idx) := by unfold members; rw [h]
section
variable {g : G} (f : Fine g) {j : Nat} {e : Ent} (he : g.es[j]? = some e) (d : ByteArray)
include f he
theorem compact_is : compact g e.idx d = (0, ⟨⟨e.idx, e.term, (members g e.idx).1, d⟩, g.es.drop (j + 1)⟩) := by
  unfold compact
  rw [(f.at_ he).2.2.1]
  simp [he]
theorem compact_last : last (compact g e.idx d).2 = last g := by
  rw [compact_is f he d]
  unfold last
  simp only
  conv => rhs; rw [← List.take_append_drop (j + 1) g.es, lasts_append, lasts_take _ _ _ _ _ he]
theorem compact_term : term (compact g e.idx d).2 e.idx = some e.term := by
  rw [compact_is f he d]
  exact term_snap _
omit f in
theorem pick_take (i : Nat) (h : ∀ x ∈ g.es.drop (j + 1), ¬ (x.kind = 2 ∧ x.idx ≤ i)) : pick g.es i = pick (g.es.take (j + 1)) i := by
  conv => lhs; rw [← List.take_append_drop (j + 1) g.es]
  exact pick_none _ _ _ h
theorem pick_low (i : Nat) (hi : e.idx ≤ i) : pick (g.es.take (j + 1)) i = pick (g.es.take (j + 1)) e.idx := by
  have hin : ∀ x ∈ g.es.take (j + 1), x.idx ≤ e.idx := fun x hx => by
    obtain ⟨q, hq⟩ := List.mem_iff_getElem?.1 hx
    rw [List.getElem?_take] at hq
    split at hq
    · have := (f.at_ hq).1; have := (f.at_ he).1; omega
    · cases hq
  unfold pick
  generalize none = o
  revert hin o
  generalize g.es.take (j + 1) = l
  intro hin
  induction l with
  | nil => intro o; rfl
  | cons x l ih =>
    intro o
    have hx := hin x (by simp)
    simp only [List.foldl_cons]
    by_cases hc : x.kind = 2
    · rw [if_pos ⟨hc, by omega⟩, if_pos ⟨hc, hx⟩]
      exact ih (fun y hy => hin y (by simp [hy])) _
    · rw [if_neg (fun h => hc h.1), if_neg (fun h => hc h.1)]
      exact ih (fun y hy => hin y (by simp [hy])) _
theorem drop_high {x : Ent} (hx : x ∈ g.es.drop (j + 1)) : e.idx < x.idx := by
  obtain ⟨q, hq⟩ := List.mem_iff_getElem?.1 hx
  rw [List.getElem?_drop] at hq
  have := (f.at_ hq).1
  have := (f.at_ he).1
  omega
theorem pick_fold_some {l : List Ent} {i : Nat} {o : Option Ent} {x : Ent} (h : pick l i = some x) : l.foldl (fun o e => if e.kind = 2 ∧ e.idx ≤ i then some e else o) o = some x := by
  unfold pick at h
  clear f he
  have key : ∀ (l : List Ent) (a b : Option Ent), (l.foldl (fun o e => if e.kind = 2 ∧ e.idx ≤ i then some e else o) a = l.foldl (fun o e => if e.kind = 2 ∧ e.idx ≤ i then some e else o) b) ∨
      (l.foldl (fun o e => if e.kind = 2 ∧ e.idx ≤ i then some e else o) a = a) := by
    intro l
    induction l with
    | nil => intro a b; exact .inr rfl
    | cons y l ih =>
      intro a b
      simp only [List.foldl_cons]
      by_cases hy : y.kind = 2 ∧ y.idx ≤ i
      · rw [if_pos hy, if_pos hy]; exact .inl rfl
      · rw [if_neg hy, if_neg hy]; exact ih a b
  rcases key l none o with k | k
  · rw [← k]; exact h
  · rw [k] at h; cases h
/-- The members that hold, and where that is said: as ahead; or the snapshot says it, if it was said no later. -/
theorem compact_members : (members (compact g e.idx d).2 18446744073709551615).1 = (members g 18446744073709551615).1 ∧
    ((members (compact g e.idx d).2 18446744073709551615).2 = (members g 18446744073709551615).2 ∨ ((members g 18446744073709551615).2 ≤ e.idx ∧ (members (compact g e.idx d).2 18446744073709551615).2 = e.idx)) := by
  have hsplit : pick g.es 18446744073709551615 = (g.es.drop (j + 1)).foldl (fun o e => if e.kind = 2 ∧ e.idx ≤ 18446744073709551615 then some e else o) (pick (g.es.take (j + 1)) 18446744073709551615) := by
    conv => lhs; rw [← List.take_append_drop (j + 1) g.es]
    unfold pick
    rw [List.foldl_append]
  rw [compact_is f he d]
  cases hp : pick (g.es.drop (j + 1)) 18446744073709551615 with
  | some x =>
    have h1 : pick g.es 18446744073709551615 = some x := by rw [hsplit]; exact pick_fold_some f he hp
    rw [members_some (g := ⟨⟨e.idx, e.term, (members g e.idx).1, d⟩, g.es.drop (j + 1)⟩) hp, members_some h1]
    exact ⟨rfl, .inl rfl⟩
  | none =>
    have hno : ∀ x ∈ g.es.drop (j + 1), ¬ (x.kind = 2 ∧ x.idx ≤ 18446744073709551615) := by
      intro x hx hc
      obtain ⟨l1, l2, hl⟩ := List.append_of_mem hx
      rw [hl] at hp
      unfold pick at hp
      rw [List.foldl_append, List.foldl_cons, if_pos hc] at hp
      have key : ∀ (l : List Ent) (a : Ent), l.foldl (fun o e => if e.kind = 2 ∧ e.idx ≤ 18446744073709551615 then some e else o) (some a) ≠ none := by
        intro l
        induction l with
        | nil => intro a; simp
        | cons y l ih =>
          intro a
          simp only [List.foldl_cons]
          split
          · exact ih y
          · exact ih a
      exact key _ _ hp
    have h1 := pick_take (g := g) he 18446744073709551615 hno
    have hib := (f.at_ he).2.1.idx
    have h2 := pick_low f he 18446744073709551615 (by omega)
    have h3 := pick_take (g := g) he e.idx fun x hx hc => by have := drop_high f he hx; omega
    have h4 : pick g.es 18446744073709551615 = pick g.es e.idx := by rw [h1, h2, h3]
    have hm : members g 18446744073709551615 = members g e.idx := by unfold members; rw [h4]
    have hle : (members g e.idx).2 ≤ e.idx := by
      unfold members
      cases hq : pick g.es e.idx with
      | none => have := (f.at_ he).1; simp only; omega
      | some y => exact (pick_mem hq).2.2
    have h5 : members ⟨⟨e.idx, e.term, (members g e.idx).1, d⟩, g.es.drop (j + 1)⟩ 18446744073709551615 = ((members g e.idx).1, e.idx) := members_none hp
    rw [h5, hm]
    exact ⟨rfl, .inr ⟨hle, rfl⟩⟩
theorem compact_get (n : Int) {J : Nat} (hJ : J = (e.idx + 1) % 18446744073709551616) : Rlog.get (compact g e.idx d).2 J n = Rlog.get g J n := by
  have h1 := (f.at_ he).1
  have hr := f.room
  obtain ⟨hj, _⟩ := List.getElem?_eq_some_iff.1 he
  rw [compact_is f he d]
  unfold Rlog.get
  rcases Nat.lt_or_ge (j + 1) g.es.length with h | h
  · rw [place_of (g := g) (i := J) (k := j + 1) h (by omega), place_of (g := ⟨⟨e.idx, e.term, (members g e.idx).1, d⟩, g.es.drop (j + 1)⟩) (i := J) (k := 0) (by simp; omega) (by simp only; omega)]
    simp
  · have hn1 : place g J = none := by
      unfold place
      rw [if_neg (by omega)]
    have hn2 : place ⟨⟨e.idx, e.term, (members g e.idx).1, d⟩, g.es.drop (j + 1)⟩ J = none := by
      unfold place
      rw [if_neg (by simp only [List.length_drop]; omega)]
    rw [hn1, hn2]
theorem compact_twice (d2 : ByteArray) : compact (compact g e.idx d).2 e.idx d2 = (20, (compact g e.idx d).2) := by
  rw [compact_is f he d]
  conv => lhs; unfold compact
  rw [show place ⟨⟨e.idx, e.term, (members g e.idx).1, d⟩, g.es.drop (j + 1)⟩ e.idx = none by unfold place; rw [if_neg (by simp)]]
end
end Go.Proofs.Ytndehdnffajigaa.Merged
