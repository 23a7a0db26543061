/- Plain mathematics of layer 4: a disk as lists of bytes by number. No program's text; no statement is proved here. -/
namespace Go.Proofs.YtamncdpeklbhlaaGreatDoor.Model

/-- A disk: of each file what is firm and what is soft behind it. -/
structure M where
  room : Nat
  fuel : Int
  off : Bool
  firm : Nat → List UInt8
  soft : Nat → List UInt8
  there : Nat → Bool

namespace M
def all (m : M) (i : Nat) : List UInt8 := m.firm i ++ m.soft i
def len (m : M) (i : Nat) : Nat := (m.firm i).length + (m.soft i).length
def usedTo (m : M) : Nat → Nat
  | 0 => 0
  | k + 1 => m.usedTo k + m.len k
def used (m : M) : Nat := m.usedTo 16
def set (m : M) (i : Nat) (a b : List UInt8) (t : Bool) : M :=
  { m with firm := fun j => if j = i then a else m.firm j, soft := fun j => if j = i then b else m.soft j, there := fun j => if j = i then t else m.there j }
def dead (m : M) : M := { m with off := true }
def burnt (m : M) : M := { m with fuel := if 0 < m.fuel then m.fuel - 1 else m.fuel }
def fuelled (m : M) (n : Int) : M := { m with fuel := max n (-1) }
/-- Is there such a file? -/
def has (m : M) (n : Int) : Bool := decide (0 ≤ n ∧ n < 16) && m.there n.toNat

def append (m : M) (n : Int) (s : List UInt8) : Int × M :=
  if ¬ (0 ≤ n ∧ n < 16) then (1, m) else if m.off = true then (10, m) else if m.room < m.used + s.length then (11, m) else if m.fuel = 0 then (10, m.dead)
  else (0, m.burnt.set n.toNat (m.firm n.toNat) (m.soft n.toNat ++ s) true)
def sync (m : M) (n : Int) : Int × M :=
  if m.off = true then (10, m) else if m.has n = false then (12, m) else if m.fuel = 0 then (10, m.dead) else (0, m.burnt.set n.toNat (m.all n.toNat) [] true)
def replace (m : M) (n : Int) (s : List UInt8) : Int × M :=
  if ¬ (0 ≤ n ∧ n < 16) then (1, m) else if m.off = true then (10, m) else if m.room + m.len n.toNat < m.used + s.length then (11, m) else if m.fuel = 0 then (10, m.dead)
  else (0, m.burnt.set n.toNat s [] true)
def remove (m : M) (n : Int) : Int × M :=
  if m.off = true then (10, m) else if m.has n = false then (12, m) else if m.fuel = 0 then (10, m.dead) else (0, m.burnt.set n.toNat [] [] false)
def read (m : M) (n : Int) : List UInt8 × Int :=
  if m.off = true then ([], 10) else if m.has n = false then ([], 12) else (m.all n.toNat, 0)
def files (m : M) : List Nat := (List.range 16).filter m.there
/-- Of so many soft bytes how many a crash keeps. -/
def kept (keep : List Int) (i n : Nat) : Nat := if i < keep.length then (min (max (keep.getD i 0) 0) (n : Int)).toNat else 0
def left (m : M) (keep : List Int) (i : Nat) : List UInt8 := m.firm i ++ (m.soft i).take (kept keep i (m.soft i).length)
def crash (m : M) (keep : List Int) : M :=
  { room := m.room, fuel := -1, off := false, firm := m.left keep, soft := fun _ => [], there := fun i => m.there i && (!(m.left keep i).isEmpty || (m.soft i).isEmpty) }
def new (room : Nat) : M := { room := room, fuel := -1, off := false, firm := fun _ => [], soft := fun _ => [], there := fun _ => false }
end M
open M

structure Fine (m : M) : Prop where
  gone : ∀ i, m.there i = false → m.firm i = [] ∧ m.soft i = []
  far : ∀ i, 16 ≤ i → m.there i = false
  used : m.used ≤ m.room
  room : m.room ≤ 1048576
  lo : -1 ≤ m.fuel
  hi : m.fuel ≤ 9223372036854775807

theorem all_length (m : M) (i : Nat) : (m.all i).length = m.len i := by simp [M.all, M.len]
theorem usedTo_same {m m' : M} : ∀ k, (∀ j, j < k → m'.len j = m.len j) → m'.usedTo k = m.usedTo k
  | 0, _ => rfl
  | k + 1, h => by simp only [M.usedTo]; rw [usedTo_same k fun j hj => h j (by omega), h k (by omega)]
theorem usedTo_mono (m : M) {j k : Nat} (h : j ≤ k) : m.usedTo j ≤ m.usedTo k := by
  induction k with
  | zero => obtain rfl : j = 0 := by omega
            exact Nat.le_refl _
  | succ k ih =>
    by_cases e : j = k + 1
    · subst e; exact Nat.le_refl _
    · have := ih (by omega)
      simp only [M.usedTo]
      omega
theorem len_le_usedTo (m : M) {i k : Nat} (h : i < k) : m.usedTo i + m.len i ≤ m.usedTo k := usedTo_mono m (show i + 1 ≤ k from h)
theorem len_le_used (m : M) {i : Nat} (h : i < 16) : m.len i ≤ m.used := by have := len_le_usedTo m h; unfold M.used; omega
theorem set_len (m : M) (i : Nat) (a b : List UInt8) (t : Bool) (j : Nat) : (m.set i a b t).len j = if j = i then a.length + b.length else m.len j := by
  simp only [M.set, M.len]; split <;> rfl
theorem usedTo_set (m : M) (i : Nat) (a b : List UInt8) (t : Bool) : ∀ k, (m.set i a b t).usedTo k + (if i < k then m.len i else 0) = m.usedTo k + (if i < k then a.length + b.length else 0)
  | 0 => by simp [M.usedTo]
  | k + 1 => by
    have ih := usedTo_set m i a b t k
    simp only [M.usedTo, set_len]
    by_cases h2 : k = i
    · subst h2
      simp only [Nat.lt_irrefl, if_false, Nat.lt_succ_self, if_true, Nat.add_zero] at ih ⊢
      omega
    · by_cases h1 : i < k
      · simp only [h1, h2, if_true, if_false, show i < k + 1 by omega] at ih ⊢
        omega
      · simp only [h1, h2, if_false, show ¬ i < k + 1 by omega] at ih ⊢
        omega
theorem has_in {m : M} {n : Int} (h : m.has n = true) : (0 ≤ n ∧ n < 16) ∧ m.there n.toNat = true := by
  unfold M.has at h
  rw [Bool.and_eq_true] at h
  exact ⟨of_decide_eq_true h.1, h.2⟩
theorem used_set (m : M) {i : Nat} (hi : i < 16) (a b : List UInt8) (t : Bool) : (m.set i a b t).used + m.len i = m.used + (a.length + b.length) := by
  have := usedTo_set m i a b t 16
  rw [if_pos hi, if_pos hi] at this
  exact this
theorem used_burnt (m : M) : m.burnt.used = m.used := usedTo_same 16 fun _ _ => rfl
theorem used_dead (m : M) : m.dead.used = m.used := usedTo_same 16 fun _ _ => rfl
theorem used_fuelled (m : M) (n : Int) : (m.fuelled n).used = m.used := usedTo_same 16 fun _ _ => rfl
theorem len_gone {m : M} (g : Fine m) {i : Nat} (h : m.there i = false) : m.len i = 0 := by
  obtain ⟨h1, h2⟩ := g.gone i h
  simp [M.len, h1, h2]

section
variable {m : M} (g : Fine m)
include g
theorem Fine.dead : Fine m.dead := ⟨g.gone, g.far, by rw [used_dead]; exact g.used, g.room, g.lo, g.hi⟩
theorem Fine.burnt : Fine m.burnt := by
  refine ⟨g.gone, g.far, by rw [used_burnt]; exact g.used, g.room, ?_, ?_⟩
  · simp only [M.burnt]; have := g.lo; split <;> omega
  · simp only [M.burnt]; have := g.hi; split <;> omega
theorem Fine.fuelled {n : Int} (h : n ≤ 9223372036854775807) : Fine (m.fuelled n) :=
  ⟨g.gone, g.far, by rw [used_fuelled]; exact g.used, g.room, by simp only [M.fuelled]; omega, by simp only [M.fuelled]; omega⟩
theorem Fine.set {i : Nat} (hi : i < 16) {a b : List UInt8} {t : Bool} (ht : t = false → a = [] ∧ b = []) (hr : m.used + (a.length + b.length) ≤ m.room + m.len i) : Fine (m.set i a b t) := by
  refine ⟨fun j hj => ?_, fun j hj => ?_, ?_, g.room, g.lo, g.hi⟩
  · simp only [M.set] at hj ⊢
    by_cases e : j = i
    · rw [if_pos e] at hj ⊢
      rw [if_pos e]
      exact ht hj
    · rw [if_neg e] at hj ⊢
      rw [if_neg e]
      exact g.gone j hj
  · simp only [M.set]
    rw [if_neg (by omega)]
    exact g.far j hj
  · have := used_set m hi a b t
    show (m.set i a b t).used ≤ m.room
    omega
theorem Fine.append (n : Int) (s : List UInt8) : Fine (m.append n s).2 := by
  unfold M.append
  by_cases h1 : 0 ≤ n ∧ n < 16
  · rw [if_neg (by simpa using h1)]
    by_cases h2 : m.off = true
    · rw [if_pos h2]; exact g
    · rw [if_neg h2]
      by_cases h3 : m.room < m.used + s.length
      · rw [if_pos h3]; exact g
      · rw [if_neg h3]
        by_cases h4 : m.fuel = 0
        · rw [if_pos h4]; exact g.dead
        · rw [if_neg h4]
          refine g.burnt.set (by omega) (by simp) ?_
          show m.burnt.used + _ ≤ m.room + m.len n.toNat
          rw [used_burnt, List.length_append]
          simp only [M.len]
          omega
  · rw [if_pos h1]; exact g
theorem Fine.sync (n : Int) : Fine (m.sync n).2 := by
  unfold M.sync
  by_cases h1 : m.off = true
  · rw [if_pos h1]; exact g
  · rw [if_neg h1]
    by_cases h2 : m.has n = false
    · rw [if_pos h2]; exact g
    · rw [if_neg h2]
      by_cases h4 : m.fuel = 0
      · rw [if_pos h4]; exact g.dead
      · rw [if_neg h4]
        have hn := (has_in (m := m) (n := n) (by simpa using h2)).1
        refine g.burnt.set (by omega) (by simp) ?_
        show m.burnt.used + _ ≤ m.room + m.len n.toNat
        rw [used_burnt, all_length]
        have := g.used
        simp only [List.length_nil]
        omega
theorem Fine.replace (n : Int) (s : List UInt8) : Fine (m.replace n s).2 := by
  unfold M.replace
  by_cases h1 : 0 ≤ n ∧ n < 16
  · rw [if_neg (by simpa using h1)]
    by_cases h2 : m.off = true
    · rw [if_pos h2]; exact g
    · rw [if_neg h2]
      by_cases h3 : m.room + m.len n.toNat < m.used + s.length
      · rw [if_pos h3]; exact g
      · rw [if_neg h3]
        by_cases h4 : m.fuel = 0
        · rw [if_pos h4]; exact g.dead
        · rw [if_neg h4]
          refine g.burnt.set (by omega) (by simp) ?_
          show m.burnt.used + _ ≤ m.room + m.len n.toNat
          rw [used_burnt]
          simp only [List.length_nil]
          omega
  · rw [if_pos h1]; exact g
theorem Fine.remove (n : Int) : Fine (m.remove n).2 := by
  unfold M.remove
  by_cases h1 : m.off = true
  · rw [if_pos h1]; exact g
  · rw [if_neg h1]
    by_cases h2 : m.has n = false
    · rw [if_pos h2]; exact g
    · rw [if_neg h2]
      by_cases h4 : m.fuel = 0
      · rw [if_pos h4]; exact g.dead
      · rw [if_neg h4]
        have hn := (has_in (m := m) (n := n) (by simpa using h2)).1
        refine g.burnt.set (by omega) (by simp) ?_
        show m.burnt.used + _ ≤ m.room + m.len n.toNat
        rw [used_burnt]
        have := g.used
        simp only [List.length_nil]
        omega
end
theorem kept_le (keep : List Int) (i n : Nat) : kept keep i n ≤ n := by unfold kept; split <;> omega
theorem left_length (m : M) (keep : List Int) (i : Nat) : (m.left keep i).length = (m.firm i).length + kept keep i (m.soft i).length := by
  unfold M.left
  rw [List.length_append, List.length_take]
  have := kept_le keep i (m.soft i).length
  omega
theorem usedTo_crash (m : M) (keep : List Int) : ∀ k, (m.crash keep).usedTo k ≤ m.usedTo k
  | 0 => Nat.le_refl _
  | k + 1 => by
    have ih := usedTo_crash m keep k
    have h1 : (m.crash keep).len k = (m.left keep k).length := by simp [M.len, M.crash]
    have h2 := left_length m keep k
    have h3 := kept_le keep k (m.soft k).length
    simp only [M.usedTo]
    rw [h1, h2]
    have : m.len k = (m.firm k).length + (m.soft k).length := rfl
    omega
theorem Fine.crash {m : M} (g : Fine m) (keep : List Int) : Fine (m.crash keep) := by
  refine ⟨fun i hi => ⟨?_, rfl⟩, fun i hi => ?_, Nat.le_trans (usedTo_crash m keep 16) g.used, g.room, by simp [M.crash], by simp [M.crash]⟩
  · simp only [M.crash, Bool.and_eq_false_imp, Bool.or_eq_false_iff, Bool.not_eq_false', List.isEmpty_iff] at hi ⊢
    cases ht : m.there i with
    | true => exact (hi ht).1
    | false =>
      obtain ⟨h1, h2⟩ := g.gone i ht
      simp [M.left, h1, h2]
  · simp only [M.crash, g.far i hi, Bool.false_and]
theorem Fine.new {room : Nat} (h : room ≤ 1048576) : Fine (M.new room) :=
  ⟨fun _ _ => ⟨rfl, rfl⟩, fun _ _ => rfl, Nat.zero_le _, h, by simp [M.new], by simp [M.new]⟩
theorem all_le {m : M} (g : Fine m) (i : Nat) : (m.all i).length ≤ 1048576 := by
  rw [all_length]
  by_cases h : i < 16
  · have := len_le_used m h; have := g.used; have := g.room; omega
  · rw [len_gone g (g.far i (by omega))]; omega

/-! ### A crash, file by file -/
/-- Is file i left? -/
def stands (m : M) (keep : List Int) (i : Nat) : Bool := !(m.left keep i).isEmpty || (m.soft i).isEmpty
def one (m : M) (keep : List Int) (o : M) (i : Nat) : M := if stands m keep i = true then o.set i (m.left keep i) [] true else o
def many (m : M) (keep : List Int) (l : List Nat) : M := l.foldl (one m keep) (M.new m.room)
theorem many_snoc (m : M) (keep : List Int) (l : List Nat) (i : Nat) : many m keep (l ++ [i]) = one m keep (many m keep l) i := by simp [many, List.foldl_append]
theorem many_take (m : M) (keep : List Int) (l : List Nat) (k i : Nat) (h : l[k]? = some i) : many m keep (l.take (k + 1)) = one m keep (many m keep (l.take k)) i := by
  obtain ⟨hk, rfl⟩ := List.getElem?_eq_some_iff.1 h
  rw [List.take_succ_eq_append_getElem hk, many_snoc]
theorem snoc_induct {α : Type} {P : List α → Prop} (h0 : P []) (h1 : ∀ l x, P l → P (l ++ [x])) : ∀ l, P l := by
  intro l
  have : ∀ r : List α, P r.reverse := by
    intro r
    induction r with
    | nil => exact h0
    | cons x r ih => rw [List.reverse_cons]; exact h1 _ _ ih
  have h := this l.reverse
  rwa [List.reverse_reverse] at h
theorem many_is (m : M) (keep : List Int) : ∀ l : List Nat, (many m keep l).room = m.room ∧ (many m keep l).fuel = -1 ∧ (many m keep l).off = false ∧ (∀ j, (many m keep l).soft j = []) ∧
    (∀ j, (many m keep l).firm j = if j ∈ l ∧ stands m keep j = true then m.left keep j else []) ∧ ∀ j, (many m keep l).there j = (decide (j ∈ l) && stands m keep j) := by
  refine snoc_induct ⟨rfl, rfl, rfl, fun _ => rfl, fun j => by simp [many, M.new], fun j => by simp [many, M.new]⟩ fun l i ih => ?_
  obtain ⟨h1, h2, h3, h4, h5, h6⟩ := ih
  rw [many_snoc]
  unfold one
  by_cases hc : stands m keep i = true
  · rw [if_pos hc]
    refine ⟨h1, h2, h3, fun j => ?_, fun j => ?_, fun j => ?_⟩
    · simp only [M.set]; split <;> first | rfl | exact h4 j
    · simp only [M.set, h5]
      by_cases e : j = i
      · subst e; simp [hc]
      · simp [e]
    · simp only [M.set, h6]
      by_cases e : j = i
      · subst e; simp [hc]
      · simp [e]
  · rw [if_neg hc]
    refine ⟨h1, h2, h3, h4, fun j => ?_, fun j => ?_⟩
    · rw [h5]
      by_cases e : j = i
      · subst e; simp [hc]
      · simp [e]
    · rw [h6]
      by_cases e : j = i
      · subst e; simp [hc]
      · simp [e]
theorem many_files {m : M} (g : Fine m) (keep : List Int) : many m keep m.files = m.crash keep := by
  obtain ⟨h1, h2, h3, h4, h5, h6⟩ := many_is m keep m.files
  have hmem : ∀ j, j ∈ m.files ↔ m.there j = true := fun j => by
    simp only [M.files, List.mem_filter, List.mem_range]
    constructor
    · exact fun h => h.2
    · intro h
      refine ⟨?_, h⟩
      rcases Nat.lt_or_ge j 16 with h' | h'
      · exact h'
      · rw [g.far j h'] at h; cases h
  have hf : (many m keep m.files).firm = m.left keep := funext fun j => by
    rw [h5]
    split
    · rfl
    · rename_i hn
      rw [hmem] at hn
      cases ht : m.there j with
      | false =>
        obtain ⟨a, b⟩ := g.gone j ht
        simp [M.left, a, b]
      | true =>
        have hs : ¬ stands m keep j = true := fun h => hn ⟨ht, h⟩
        simp only [stands, Bool.or_eq_true, Bool.not_eq_true', not_or, Bool.not_eq_false, List.isEmpty_iff] at hs
        exact hs.1.symm
  have ht : (many m keep m.files).there = (m.crash keep).there := funext fun j => by
    rw [h6]
    simp only [M.crash, stands]
    congr 1
    cases h : m.there j with
    | true => exact decide_eq_true ((hmem j).2 h)
    | false => exact decide_eq_false fun hm => by rw [(hmem j).1 hm] at h; cases h
  have hs : (many m keep m.files).soft = fun _ => [] := funext h4
  clear h4 h5 h6 hmem
  revert h1 h2 h3 hf ht hs
  generalize many m keep m.files = o
  intro h1 h2 h3 hf ht hs
  cases o
  simp only at h1 h2 h3 hf ht hs
  rw [h1, h2, h3, hf, ht, hs]
  rfl
theorem left_take (m : M) (keep : List Int) (i : Nat) : m.left keep i = (m.all i).take (m.left keep i).length := by
  have h1 := left_length m keep i
  have h2 := kept_le keep i (m.soft i).length
  rw [h1]
  unfold M.left M.all
  rw [List.take_append]
  simp only [List.take_of_length_le (Nat.le_add_right _ _), Nat.add_sub_cancel_left]
end Go.Proofs.YtamncdpeklbhlaaGreatDoor.Model
