/- Sets of members and majorities: plain mathematics. No statement is proved here. -/
namespace Go.Proofs.Ytdbmpfongfiagaa.Quorum

/-- The members of a set, from the least up. -/
def mem (c : Nat) : List Nat := (List.range 7).filter fun i => c.testBit i
def size (c : Nat) : Nat := (mem c).length
def need (c : Nat) : Nat := size c / 2 + 1
def sound (c : Nat) : Bool := decide (0 < c ∧ c < 128)
def maj (c s : Nat) : Bool := decide (need c ≤ size (c &&& s))
/-- Is a number a node's? -/
def node (i : Int) : Bool := decide (0 ≤ i ∧ i < 7)
def has (c : Nat) (i : Int) : Bool := node i && c.testBit i.toNat
/-- With one member more, or one fewer, i a node's number. -/
def turn (c : Nat) (add : Bool) (i : Nat) : Nat × Nat := if c.testBit i = add ∨ c = 2 ^ i then (0, 32) else (c ^^^ 2 ^ i, 0)
def change (c : Nat) (add : Bool) (i : Int) : Nat × Nat := if sound c = true ∧ node i = true then turn c add i.toNat else (0, 1)

theorem mem_lt {c i : Nat} (h : i ∈ mem c) : i < 7 := by
  have := (List.mem_filter.1 h).1
  simpa using this
theorem mem_bit {c i : Nat} (h : i ∈ mem c) : c.testBit i = true := (List.mem_filter.1 h).2
theorem mem_iff {c i : Nat} : i ∈ mem c ↔ i < 7 ∧ c.testBit i = true := by simp [mem]
theorem size_le (c : Nat) : size c ≤ 7 := by
  have := List.length_filter_le (fun i => c.testBit i) (List.range 7)
  simpa [size, mem] using this
theorem need_le (c : Nat) : need c ≤ 4 := by have := size_le c; unfold need; omega
theorem need_pos (c : Nat) : 0 < need c := by unfold need; omega
theorem need_size {c : Nat} (h : 0 < size c) : need c ≤ size c := by unfold need; omega

/-! ### Counting what fits -/
/-- How many node numbers fit. -/
def num (p : Nat → Bool) : Nat := ((List.range 7).filter p).length
theorem size_num (c : Nat) : size c = num fun i => c.testBit i := rfl
theorem filter_and_or {p q : Nat → Bool} (l : List Nat) : (l.filter fun i => p i && q i).length + (l.filter fun i => p i || q i).length = (l.filter p).length + (l.filter q).length := by
  induction l with
  | nil => rfl
  | cons x r ih =>
    simp only [List.filter_cons]
    cases p x <;> cases q x <;> simp <;> omega
theorem num_le {p q : Nat → Bool} (h : ∀ i, i < 7 → p i = true → q i = true) : num p ≤ num q := by
  unfold num
  rw [← List.countP_eq_length_filter, ← List.countP_eq_length_filter]
  exact List.countP_mono_left fun i hi hp => h i (by simpa using hi) hp
theorem num_congr {p q : Nat → Bool} (h : ∀ i, i < 7 → p i = q i) : num p = num q :=
  Nat.le_antisymm (num_le fun i hi e => by rw [← h i hi]; exact e) (num_le fun i hi e => by rw [h i hi]; exact e)
theorem num_and_or (p q : Nat → Bool) : (num fun i => p i && q i) + (num fun i => p i || q i) = num p + num q := filter_and_or _
/-- Two parts of one set that together are more than it meet. -/
theorem num_meet {p q r : Nat → Bool} (hp : ∀ i, i < 7 → p i = true → r i = true) (hq : ∀ i, i < 7 → q i = true → r i = true) (h : num r < num p + num q) : 0 < num fun i => p i && q i := by
  have h1 := num_and_or p q
  have h2 : (num fun i => p i || q i) ≤ num r := num_le fun i hi e => by
    rcases Bool.or_eq_true_iff.1 e with e | e
    · exact hp i hi e
    · exact hq i hi e
  omega
theorem num_pos {p : Nat → Bool} (h : 0 < num p) : ∃ i, i < 7 ∧ p i = true := by
  unfold num at h
  obtain ⟨i, hi⟩ := List.exists_mem_of_length_pos h
  have := List.mem_filter.1 hi
  exact ⟨i, by simpa using this.1, this.2⟩
theorem num_of {p : Nat → Bool} {i : Nat} (hi : i < 7) (h : p i = true) : 0 < num p := by
  unfold num
  exact List.length_pos_of_mem (a := i) (by simp [hi, h])
theorem num_zero {p : Nat → Bool} (h : ∀ i, i < 7 → p i = false) : num p = 0 := by
  unfold num
  rw [List.length_eq_zero_iff, List.filter_eq_nil_iff]
  intro i hi
  rw [h i (by simpa using hi)]
  simp
theorem size_and (c s : Nat) : size (c &&& s) = num fun i => c.testBit i && s.testBit i := by
  rw [size_num]
  exact num_congr fun i _ => Nat.testBit_and c s i

/-! ### What is 0 has no bit -/
theorem and_pos {c s i : Nat} (h1 : c.testBit i = true) (h2 : s.testBit i = true) : c &&& s ≠ 0 := by
  intro e
  have := Nat.testBit_and c s i
  rw [e, h1, h2] at this
  simp at this
theorem bit_pos {x i : Nat} (h : x.testBit i = true) : x ≠ 0 := by
  intro e
  rw [e] at h
  simp at h

/-! ### What can be tried out -/
theorem cut (x : Nat) : x &&& 127 = x % 128 := Nat.and_two_pow_sub_one_eq_mod x 7
theorem cut_bit {x i : Nat} (hi : i < 7) : (x &&& 127).testBit i = x.testBit i := by
  rw [Nat.testBit_and]
  have : ∀ i, i < 7 → (127 : Nat).testBit i = true := by decide
  rw [this i hi, Bool.and_true]
theorem size_cut (x : Nat) : size (x &&& 127) = size x := by
  rw [size_num, size_num]
  exact num_congr fun i hi => cut_bit hi
theorem size_one : ∀ c, c < 128 → ∀ i, i < 7 → c.testBit i = true → (size c = 1 ↔ c = 2 ^ i) := by decide +kernel
theorem flip_more : ∀ c, c < 128 → ∀ i, i < 7 → c.testBit i = false → c ^^^ 2 ^ i = c + 2 ^ i ∧ c ≠ 2 ^ i ∧ size (c ^^^ 2 ^ i) = size c + 1 ∧ c ^^^ 2 ^ i < 128 := by decide +kernel
theorem flip_less : ∀ c, c < 128 → ∀ i, i < 7 → c.testBit i = true → c ^^^ 2 ^ i = c - 2 ^ i ∧ 2 ^ i ≤ c ∧ size (c ^^^ 2 ^ i) + 1 = size c ∧ c ^^^ 2 ^ i < 128 ∧ (c = 2 ^ i ∨ c ^^^ 2 ^ i ≠ 0) := by decide +kernel
theorem flip_bit (c i j : Nat) : (c ^^^ 2 ^ i).testBit j = (c.testBit j ^^ decide (i = j)) := by
  rw [Nat.testBit_xor, Nat.testBit_two_pow]
/-- Back again. -/
theorem turn_back_all : ∀ c, c < 128 → ∀ i, i < 7 → ∀ add, c = 0 ∨ (turn c add i).2 ≠ 0 ∨ (0 < (turn c add i).1 ∧ (turn c add i).1 < 128 ∧ (turn c add i).1.testBit i = add ∧ (turn (turn c add i).1 (!add) i).1 = c ∧ (turn (turn c add i).1 (!add) i).2 = 0) := by decide +kernel
theorem turn_back {c i : Nat} {add : Bool} (hc : c < 128) (h0 : 0 < c) (hi : i < 7) (h : (turn c add i).2 = 0) : 0 < (turn c add i).1 ∧ (turn c add i).1 < 128 ∧ (turn c add i).1.testBit i = add ∧ turn (turn c add i).1 (!add) i = (c, 0) := by
  rcases turn_back_all c hc i hi add with e | e | ⟨h1, h2, h3, h4, h5⟩
  · omega
  · exact absurd h e
  · exact ⟨h1, h2, h3, Prod.ext h4 h5⟩
end Go.Proofs.Ytdbmpfongfiagaa.Quorum
