/- A wheel: the mathematics of its lists, and of the document's one list. No statement is proved here. -/
import Derived.Test.YtecejikolgkihaaOnly
set_option linter.unusedVariables false
namespace Go.Proofs.Ytecejikolgkihaa.Whl
open Go.RowKit

/-- A timer: its number, and when it is due. -/
abbrev Tm := Int × Nat
/-- The place of a time, behind now. -/
def plc (now d : Nat) : Nat :=
  if d / 64 = now / 64 then d % 64 else if d / 8192 = now / 8192 then 64 + d % 8192 / 64 else if d / 2097152 = now / 2097152 then 192 + d % 2097152 / 8192 else 448
theorem plc_lt (now d : Nat) : plc now d < 449 := by unfold plc; split <;> (try split) <;> (try split) <;> omega
theorem plc_mono {now a b : Nat} (ha : now < a) (hb : now < b) (h : plc now a < plc now b) : a < b := by
  unfold plc at h
  split at h <;> (try split at h) <;> (try split at h) <;> (try split at h) <;> (try split at h) <;> (try split at h) <;> omega
theorem plc_self {now d : Nat} (hd : now < d) (h : plc now d ≠ plc now (now + 1)) : plc (now + 1) d = plc now d := by
  unfold plc at h ⊢
  by_cases h1 : (now + 1) / 64 = now / 64
  · have h2 : (now + 1) / 8192 = now / 8192 := by omega
    have h3 : (now + 1) / 2097152 = now / 2097152 := by omega
    rw [h1, h2, h3]
  · by_cases h2 : (now + 1) / 8192 = now / 8192
    · have h3 : (now + 1) / 2097152 = now / 2097152 := by omega
      rw [h2, h3]
      simp only [h1, if_false, h2, if_true] at h
      rw [if_neg (show ¬ d / 64 = now / 64 by omega)] at h ⊢
      split at h
      · rw [if_neg (by omega)]
      · rw [if_neg (by omega)]
    · by_cases h3 : (now + 1) / 2097152 = now / 2097152
      · rw [h3]
        simp only [h1, if_false, h2, h3, if_true] at h
        rw [if_neg (show ¬ d / 64 = now / 64 by omega), if_neg (show ¬ d / 8192 = now / 8192 by omega)] at h ⊢
        split at h
        · rw [if_neg (by omega), if_neg (by omega)]
        · rw [if_neg (by omega), if_neg (by omega)]
      · simp only [h1, if_false, h2, h3] at h
        rw [if_neg (show ¬ d / 64 = now / 64 by omega), if_neg (show ¬ d / 8192 = now / 8192 by omega), if_neg (show ¬ d / 2097152 = now / 2097152 by omega)] at h
        exact absurd rfl h
theorem plc_apart {now d u : Nat} (hd : now < d) (hu : now < u) (h : plc now d = plc now (now + 1)) (hne : d ≠ now + 1) (h' : plc now u ≠ plc now (now + 1)) : plc (now + 1) d ≠ plc now u := by
  unfold plc at *
  by_cases h1 : (now + 1) / 64 = now / 64
  · simp only [h1, if_true] at h h'
    split at h <;> (try split at h) <;> (try split at h) <;> omega
  · by_cases h2 : (now + 1) / 8192 = now / 8192
    · simp only [h1, if_false, h2, if_true] at h h' ⊢
      rw [if_neg (show ¬ u / 64 = now / 64 by omega)] at h' ⊢
      rw [if_neg (show ¬ d / 64 = now / 64 by omega)] at h
      have e : d / 64 = (now + 1) / 64 := by
        split at h <;> (try split at h) <;> omega
      rw [if_pos e]
      split <;> (try split) <;> omega
    · by_cases h3 : (now + 1) / 2097152 = now / 2097152
      · simp only [h1, if_false, h2, h3, if_true] at h h' ⊢
        rw [if_neg (show ¬ u / 64 = now / 64 by omega), if_neg (show ¬ u / 8192 = now / 8192 by omega)] at h' ⊢
        rw [if_neg (show ¬ d / 64 = now / 64 by omega), if_neg (show ¬ d / 8192 = now / 8192 by omega)] at h
        have e : d / 8192 = (now + 1) / 8192 := by
          split at h <;> omega
        rw [if_pos e]
        split <;> (try split) <;> omega
      · simp only [h1, if_false, h2, h3] at h'
        rw [if_neg (show ¬ u / 64 = now / 64 by omega), if_neg (show ¬ u / 8192 = now / 8192 by omega), if_neg (show ¬ u / 2097152 = now / 2097152 by omega)] at h'
        exact absurd rfl h'

theorem take_snoc {α : Type} (l : List α) (k : Nat) (e : α) (h : l[k]? = some e) : l.take (k + 1) = l.take k ++ [e] := by
  obtain ⟨hk, rfl⟩ := List.getElem?_eq_some_iff.1 h
  rw [List.take_succ_eq_append_getElem hk]
/-- The list of a place. -/
def lsts (now : Nat) (D : List Tm) (k : Nat) : List Tm := D.filter fun t => plc now t.2 == k
theorem mem_lsts {now k : Nat} {D : List Tm} {t : Tm} : t ∈ lsts now D k ↔ t ∈ D ∧ plc now t.2 = k := by simp [lsts]
/-- One list is another. -/
def put (f : Nat → List Tm) (k : Nat) (l : List Tm) (j : Nat) : List Tm := if j = k then l else f j
theorem put_same (f : Nat → List Tm) (k : Nat) (l : List Tm) : put f k l k = l := if_pos rfl
theorem put_other (f : Nat → List Tm) {k j : Nat} (l : List Tm) (h : j ≠ k) : put f k l j = f j := if_neg h

/-- A timer is laid. -/
theorem lsts_snoc (now : Nat) (D : List Tm) (t : Tm) : lsts now (D ++ [t]) = put (lsts now D) (plc now t.2) (lsts now D (plc now t.2) ++ [t]) := by
  funext k
  unfold put
  by_cases h : k = plc now t.2
  · subst h
    simp [lsts, List.filter_append]
  · rw [if_neg h]
    simp [lsts, List.filter_append, List.filter_cons]
    exact fun e => h e.symm

/-- How many lie in the first n lists. -/
def tot (f : Nat → List Tm) : Nat → Nat
  | 0 => 0
  | n + 1 => tot f n + (f n).length
theorem tot_lsts (now : Nat) (D : List Tm) (n : Nat) : tot (lsts now D) n = (D.filter fun t => decide (plc now t.2 < n)).length := by
  induction n with
  | zero => simp only [tot, Nat.not_lt_zero, decide_false]; rw [List.filter_eq_nil_iff.2 (by simp)]; rfl
  | succ n ih =>
    rw [tot, ih]
    clear ih
    unfold lsts
    induction D with
    | nil => rfl
    | cons t D ih =>
      simp only [List.filter_cons]
      by_cases h1 : plc now t.2 < n
      · have h2 : plc now t.2 < n + 1 := by omega
        have h3 : (plc now t.2 == n) = false := by simp; omega
        simp only [h1, h2, h3, decide_true, if_true, List.length_cons] at ih ⊢
        simp at ih ⊢
        omega
      · by_cases h2 : plc now t.2 = n
        · simp only [h2, Nat.lt_irrefl, decide_false, beq_self_eq_true, if_true, List.length_cons, Nat.lt_succ_self, decide_true] at ih ⊢
          simp at ih ⊢
          omega
        · have h3 : ¬ plc now t.2 < n + 1 := by omega
          have h4 : (plc now t.2 == n) = false := by simp [h2]
          simp only [h1, h3, h4, decide_false] at ih ⊢
          simp at ih ⊢
          omega
theorem tot_all (now : Nat) (D : List Tm) : tot (lsts now D) 449 = D.length := by
  rw [tot_lsts]
  congr 1
  exact List.filter_eq_self.2 fun t _ => decide_eq_true (plc_lt now t.2)

/-! ### The document's list -/
/-- Is a number there? -/
def isIn (D : List Tm) (id : Int) : Bool := D.any fun t => t.1 == id
/-- Without a number. -/
def del (D : List Tm) (id : Int) : List Tm := D.filter fun t => t.1 != id
def setc (now : Nat) (D : List Tm) (id dl : Int) : Int := if dl < 1 ∨ 1048576 < dl then 1 else if isIn D id = false ∧ 64 ≤ D.length then 11 else 0
def setd (now : Nat) (D : List Tm) (id dl : Int) : List Tm := if setc now D id dl = 0 then del D id ++ [(id, now + dl.toNat)] else D
/-- The least time at which one is due. -/
def soon : List Tm → Nat
  | [] => 0
  | [t] => t.2
  | t :: u :: l => min t.2 (soon (u :: l))
def next (now : Nat) (D : List Tm) : Nat := if D = [] then 0 else soon D - now
def dueD (now : Nat) (D : List Tm) : List Int := (D.filter fun t => t.2 == now + 1).map (·.1)
def left (now : Nat) (D : List Tm) : List Tm := D.filter fun t => t.2 != now + 1

/-- What holds of a wheel's list, always. -/
structure Ok (now : Nat) (D : List Tm) : Prop where
  ids : (D.map (·.1)).Nodup
  dues : ∀ t ∈ D, now < t.2
  tops : ∀ t ∈ D, t.2 ≤ now + 1048576
  few : D.length ≤ 64
theorem Ok.nil (now : Nat) : Ok now [] := ⟨by simp, by simp, by simp, by simp⟩
theorem mem_del {D : List Tm} {id : Int} {t : Tm} : t ∈ del D id ↔ t ∈ D ∧ t.1 ≠ id := by simp [del]
theorem Ok.filter {now : Nat} {D : List Tm} (h : Ok now D) (p : Tm → Bool) : Ok now (D.filter p) :=
  ⟨(List.filter_sublist.map _).nodup h.ids, fun t ht => h.dues t (List.mem_filter.1 ht).1, fun t ht => h.tops t (List.mem_filter.1 ht).1, Nat.le_trans (List.length_filter_le _ _) h.few⟩
theorem del_length {D : List Tm} {id : Int} (h : (D.map (·.1)).Nodup) (hi : isIn D id = true) : (del D id).length + 1 = D.length := by
  induction D with
  | nil => simp [isIn] at hi
  | cons t D ih =>
    rw [List.map_cons, List.nodup_cons] at h
    by_cases ht : t.1 = id
    · have : del D id = D := by
        unfold del
        rw [List.filter_eq_self]
        intro u hu
        simp only [bne_iff_ne, ne_eq]
        intro e
        exact h.1 (by rw [ht, ← e]; exact List.mem_map_of_mem hu)
      have h2 : del (t :: D) id = del D id := by simp [del, ht]
      rw [h2, this]
      rfl
    · have h1 : isIn D id = true := by simpa [isIn, ht] using hi
      have h2 : del (t :: D) id = t :: del D id := by simp [del, ht]
      rw [h2, List.length_cons, List.length_cons, ih h.2 h1]
theorem del_none {D : List Tm} {id : Int} (hi : isIn D id = false) : del D id = D := by
  unfold del
  rw [List.filter_eq_self]
  intro u hu
  simp only [isIn, List.any_eq_false] at hi
  simpa using hi u hu
theorem Ok.del {now : Nat} {D : List Tm} (h : Ok now D) (id : Int) : Ok now (del D id) := h.filter _
theorem Ok.left {now : Nat} {D : List Tm} (h : Ok now D) : Ok (now + 1) (left now D) := by
  have := h.filter (fun t => t.2 != now + 1)
  refine ⟨this.ids, fun t ht => ?_, fun t ht => ?_, this.few⟩
  · have h1 := this.dues t ht
    have h2 := (List.mem_filter.1 ht).2
    simp at h2
    omega
  · have := this.tops t ht
    omega
theorem Ok.set {now : Nat} {D : List Tm} (h : Ok now D) (id dl : Int) : Ok now (setd now D id dl) := by
  unfold setd
  split
  · rename_i hc
    have hd : 1 ≤ dl ∧ dl ≤ 1048576 ∧ (isIn D id = true ∨ D.length < 64) := by
      unfold setc at hc
      split at hc
      · omega
      · split at hc
        · omega
        · rename_i h1 h2
          refine ⟨by omega, by omega, ?_⟩
          by_cases hi : isIn D id = true
          · exact .inl hi
          · exact .inr (by simp at hi; simp [hi] at h2; exact h2)
    obtain ⟨d1, d2, d3⟩ := hd
    have hk := h.del id
    refine ⟨?_, ?_, ?_, ?_⟩
    · rw [List.map_append, List.nodup_append]
      refine ⟨hk.ids, by simp, ?_⟩
      intro a ha b hb e
      simp at hb
      subst hb e
      obtain ⟨t, ht, hte⟩ := List.mem_map.1 ha
      exact (mem_del.1 ht).2 hte
    · intro t ht
      rcases List.mem_append.1 ht with ht | ht
      · exact hk.dues t ht
      · simp at ht; subst ht; simp only; omega
    · intro t ht
      rcases List.mem_append.1 ht with ht | ht
      · exact hk.tops t ht
      · simp at ht; subst ht; simp only; omega
    · rw [List.length_append, List.length_singleton]
      rcases d3 with hi | hi
      · have := del_length h.ids hi; have := h.few; omega
      · have : (Whl.del D id).length ≤ D.length := List.length_filter_le _ _
        omega
  · exact h

/-! ### A tick, list by list -/
theorem tick_lists {now : Nat} {D : List Tm} (h : ∀ t ∈ D, now < t.2) (k : Nat) :
    put (lsts now D) (plc now (now + 1)) [] k ++ ((lsts now D (plc now (now + 1))).filter fun t => t.2 != now + 1).filter (fun t => plc (now + 1) t.2 == k) = lsts (now + 1) (left now D) k := by
  obtain ⟨k0, hk0⟩ : ∃ k0, plc now (now + 1) = k0 := ⟨_, rfl⟩
  have hA : ∀ t ∈ D, plc now t.2 ≠ k0 → plc (now + 1) t.2 = plc now t.2 ∧ t.2 ≠ now + 1 := fun t ht hne => ⟨plc_self (h t ht) (by rw [hk0]; exact hne), fun e => hne (by rw [e, hk0])⟩
  have hB : ∀ t ∈ D, ∀ u ∈ D, plc now t.2 = k0 → t.2 ≠ now + 1 → plc now u.2 ≠ k0 → plc (now + 1) t.2 ≠ plc now u.2 := fun t ht u hu h1 h2 h3 => plc_apart (h t ht) (h u hu) (by rw [hk0]; exact h1) h2 (by rw [hk0]; exact h3)
  rw [hk0]
  unfold left lsts
  simp only [List.filter_filter]
  by_cases hex : ∃ t ∈ D, plc now t.2 = k0 ∧ t.2 ≠ now + 1 ∧ plc (now + 1) t.2 = k
  · obtain ⟨t, ht, h1, h2, h3⟩ := hex
    have hp : put (fun k => List.filter (fun t => plc now t.2 == k) D) k0 [] k = [] := by
      unfold put
      split
      · rfl
      · rename_i hne
        rw [List.filter_eq_nil_iff]
        intro u hu e
        simp at e
        exact hB t ht u hu h1 h2 (by omega) (by omega)
    rw [hp, List.nil_append]
    refine List.filter_congr fun u hu => ?_
    by_cases hu0 : plc now u.2 = k0
    · simp [hu0]
    · have := hA u hu hu0
      have hk : plc (now + 1) u.2 ≠ k := fun e => hB t ht u hu h1 h2 hu0 (by rw [h3, ← e, this.1])
      rw [beq_eq_false_iff_ne.2 hk, Bool.false_and, Bool.false_and]
  · have hno : ∀ t ∈ D, plc now t.2 = k0 → t.2 ≠ now + 1 → plc (now + 1) t.2 ≠ k := fun t ht h1 h2 h3 => hex ⟨t, ht, h1, h2, h3⟩
    have h2 : List.filter (fun a => (plc (now + 1) a.2 == k) && ((a.2 != now + 1) && (plc now a.2 == k0))) D = [] := by
      rw [List.filter_eq_nil_iff]
      intro u hu e
      simp at e
      exact hno u hu e.2.2 e.2.1 e.1
    rw [h2, List.append_nil]
    unfold put
    split
    · rename_i e
      symm
      rw [List.filter_eq_nil_iff]
      intro u hu e'
      simp at e'
      by_cases hu0 : plc now u.2 = k0
      · exact hno u hu hu0 e'.2 e'.1
      · exact hu0 (by rw [← (hA u hu hu0).1, e'.1, e])
    · rename_i hne
      refine List.filter_congr fun u hu => ?_
      by_cases hu0 : plc now u.2 = k0
      · have : plc now u.2 ≠ k := by omega
        by_cases hd : u.2 = now + 1
        · simp [hd, hk0]
          omega
        · rw [beq_eq_false_iff_ne.2 this, beq_eq_false_iff_ne.2 (hno u hu hu0 hd), Bool.false_and]
      · have := hA u hu hu0
        rw [this.1, bne_iff_ne.2 this.2, Bool.and_true]
/-- The ones that are due lie in the list that goes down. -/
theorem tick_due {now : Nat} (D : List Tm) : ((lsts now D (plc now (now + 1))).filter fun t => t.2 == now + 1) = D.filter fun t => t.2 == now + 1 := by
  unfold lsts
  rw [List.filter_filter]
  refine List.filter_congr fun t _ => ?_
  by_cases h : t.2 = now + 1
  · simp [h]
  · simp [h]
/-- Timers are laid one behind the other. -/
def lay (now : Nat) (f : Nat → List Tm) : List Tm → Nat → List Tm
  | [] => f
  | t :: l => lay now (put f (plc now t.2) (f (plc now t.2) ++ [t])) l
theorem lay_at (now : Nat) (l : List Tm) (f : Nat → List Tm) (k : Nat) : lay now f l k = f k ++ l.filter fun t => plc now t.2 == k := by
  induction l generalizing f with
  | nil => simp [lay]
  | cons t l ih =>
    rw [lay, ih, List.filter_cons]
    unfold put
    by_cases h : k = plc now t.2
    · subst h; simp
    · have : (plc now t.2 == k) = false := by simp; exact fun e => h e.symm
      simp [h, this]
theorem lay_snoc (now : Nat) (l : List Tm) (t : Tm) (f : Nat → List Tm) : lay now f (l ++ [t]) = put (lay now f l) (plc now t.2) (lay now f l (plc now t.2) ++ [t]) := by
  induction l generalizing f with
  | nil => rfl
  | cons u l ih => rw [List.cons_append, lay, lay, ih]
theorem tick_all {now : Nat} {D : List Tm} (h : ∀ t ∈ D, now < t.2) :
    lay (now + 1) (put (lsts now D) (plc now (now + 1)) []) ((lsts now D (plc now (now + 1))).filter fun t => t.2 != now + 1) = lsts (now + 1) (left now D) := by
  funext k
  rw [lay_at, tick_lists h k]

/-! ### Stop -/
theorem stop_lists {now k i : Nat} {D : List Tm} {t : Tm} (h : (D.map (·.1)).Nodup) (ht : (lsts now D k)[i]? = some t) : put (lsts now D) k ((lsts now D k).eraseIdx i) = lsts now (del D t.1) := by
  have hin : t ∈ lsts now D k := List.mem_of_getElem? ht
  obtain ⟨hD, hk⟩ := mem_lsts.1 hin
  have huniq : ∀ u ∈ D, u.1 = t.1 → u = t := by
    clear hin ht hk
    intro u hu e
    induction D with
    | nil => cases hu
    | cons a D ih =>
      rw [List.map_cons, List.nodup_cons] at h
      rcases List.mem_cons.1 hD with rfl | h1 <;> rcases List.mem_cons.1 hu with rfl | h2
      · rfl
      · exact absurd (List.mem_map.2 ⟨u, h2, e⟩) h.1
      · exact absurd (List.mem_map.2 ⟨t, h1, e.symm⟩) h.1
      · exact ih h.2 h1 h2
  funext j
  unfold put
  split
  · rename_i e
    subst e
    have hl : ((lsts now D j).map (·.1)).Nodup := (List.filter_sublist.map _).nodup h
    have : lsts now (del D t.1) j = (lsts now D j).filter fun u => u.1 != t.1 := by
      unfold lsts del
      rw [List.filter_filter, List.filter_filter]
      refine List.filter_congr fun u _ => Bool.and_comm _ _
    rw [this]
    obtain ⟨l, hl'⟩ : ∃ l, lsts now D j = l := ⟨_, rfl⟩
    rw [hl'] at ht hl ⊢
    clear hl' this huniq hD hk hin h
    induction l generalizing i with
    | nil => simp at ht
    | cons a l ih =>
      rw [List.map_cons, List.nodup_cons] at hl
      cases i with
      | zero =>
        simp at ht
        subst ht
        rw [List.eraseIdx_cons_zero, List.filter_cons]
        simp only [bne_self_eq_false, Bool.false_eq_true, if_false]
        symm
        rw [List.filter_eq_self]
        intro u hu
        simp only [bne_iff_ne, ne_eq]
        intro e
        exact hl.1 (List.mem_map.2 ⟨u, hu, e⟩)
      | succ i =>
        simp at ht
        rw [List.eraseIdx_cons_succ, List.filter_cons, if_pos, ih hl.2 ht]
        simp
        intro e
        exact hl.1 (List.mem_map.2 ⟨t, List.mem_of_getElem? ht, e.symm⟩)
  · rename_i hne
    unfold lsts del
    rw [List.filter_filter]
    refine List.filter_congr fun u hu => ?_
    by_cases e : u.1 = t.1
    · have := huniq u hu e
      subst this
      have : (plc now u.2 == j) = false := by simp; omega
      simp [this]
    · simp [e]
theorem isIn_true {now k i : Nat} {D : List Tm} {t : Tm} (ht : (lsts now D k)[i]? = some t) : isIn D t.1 = true := by
  have := (mem_lsts.1 (List.mem_of_getElem? ht)).1
  simp only [isIn, List.any_eq_true]
  exact ⟨t, this, by simp⟩
theorem isIn_false {now : Nat} {D : List Tm} {id : Int} (h : ∀ k, k < 449 → ∀ t ∈ lsts now D k, t.1 ≠ id) : isIn D id = false := by
  simp only [isIn, List.any_eq_false]
  intro t ht
  simpa using h _ (plc_lt now t.2) t (mem_lsts.2 ⟨ht, rfl⟩)

/-! ### Due -/
theorem soon_le {D : List Tm} {t : Tm} (h : t ∈ D) : soon D ≤ t.2 := by
  induction D with
  | nil => cases h
  | cons a D ih =>
    cases D with
    | nil => simp at h; subst h; exact Nat.le_refl _
    | cons b D =>
      rw [soon]
      rcases List.mem_cons.1 h with rfl | h
      · omega
      · have := ih h; omega
theorem soon_mem {D : List Tm} (h : D ≠ []) : ∃ t ∈ D, t.2 = soon D := by
  induction D with
  | nil => exact absurd rfl h
  | cons a D ih =>
    cases D with
    | nil => exact ⟨a, by simp, rfl⟩
    | cons b D =>
      obtain ⟨t, ht, e⟩ := ih (by simp)
      rw [soon]
      by_cases hc : a.2 ≤ soon (b :: D)
      · exact ⟨a, by simp, by omega⟩
      · exact ⟨t, List.mem_cons_of_mem _ ht, by omega⟩
theorem due_first {now k : Nat} {D : List Tm} (h : ∀ t ∈ D, now < t.2) (hk : lsts now D k ≠ []) (hj : ∀ j, j < k → lsts now D j = []) : D ≠ [] ∧ soon (lsts now D k) = soon D := by
  obtain ⟨t, ht, e⟩ := soon_mem hk
  obtain ⟨h1, h2⟩ := mem_lsts.1 ht
  have hne : D ≠ [] := List.ne_nil_of_mem h1
  refine ⟨hne, ?_⟩
  obtain ⟨u, hu, e'⟩ := soon_mem hne
  have h3 := soon_le h1
  have h4 : soon (lsts now D k) ≤ u.2 := by
    rcases Nat.lt_trichotomy (plc now u.2) k with hlt | heq | hgt
    · have : u ∈ lsts now D (plc now u.2) := mem_lsts.2 ⟨hu, rfl⟩
      rw [hj _ hlt] at this
      cases this
    · exact soon_le (mem_lsts.2 ⟨hu, heq⟩)
    · have := plc_mono (h t h1) (h u hu) (by omega)
      omega
  omega
theorem due_none {now : Nat} {D : List Tm} (h : ∀ k, k < 449 → lsts now D k = []) : D = [] := by
  cases D with
  | nil => rfl
  | cons t D =>
    have : t ∈ lsts now (t :: D) (plc now t.2) := mem_lsts.2 ⟨by simp, rfl⟩
    rw [h _ (plc_lt _ _)] at this
    cases this
end Go.Proofs.Ytecejikolgkihaa.Whl
