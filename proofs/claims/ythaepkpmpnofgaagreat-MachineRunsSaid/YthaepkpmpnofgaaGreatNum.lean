/- Plain mathematics of layer 3: a number's bytes, and the number at the front of bytes. No statement is proved here. -/
import Derived.Lib.ItoaNum
namespace Go.Proofs.YthaepkpmpnofgaaGreat.Num

/-- The n lowest digits of x, base 256, the highest first. -/
def dig : Nat → Nat → List UInt8
  | 0, _ => []
  | n + 1, x => UInt8.ofNat (x / 256 ^ n % 256) :: dig n x
/-- How many digits x has. -/
def wide (x : Nat) : Nat := if h : x = 0 then 0 else wide (x / 256) + 1
termination_by x
/-- A number's bytes. -/
def num (x : Nat) : List UInt8 := UInt8.ofNat (wide x) :: dig (wide x) x
/-- What bytes say as a number, the highest first. -/
def val (l : List UInt8) : Nat := l.foldl (fun a c => 256 * a + c.toNat) 0

theorem dig_length (n x : Nat) : (dig n x).length = n := by
  induction n with
  | zero => rfl
  | succ n ih => simp [dig, ih]
theorem wide_zero : wide 0 = 0 := by unfold wide; simp
theorem wide_pos (x : Nat) (h : x ≠ 0) : wide x = wide (x / 256) + 1 := by rw [wide]; simp [h]
theorem wide_lt (x : Nat) : x < 256 ^ wide x := by
  induction x using Nat.strongRecOn with
  | ind x ih =>
    by_cases h : x = 0
    · subst h; rw [wide_zero]; decide
    · rw [wide_pos x h, Nat.pow_succ]
      have := ih (x / 256) (by omega)
      omega
theorem wide_ge (x : Nat) (h : x ≠ 0) : 256 ^ (wide x - 1) ≤ x := by
  induction x using Nat.strongRecOn with
  | ind x ih =>
    rw [wide_pos x h, Nat.add_sub_cancel]
    by_cases h0 : x / 256 = 0
    · rw [h0, wide_zero]; simp; omega
    · have := ih (x / 256) (by omega) h0
      have e : wide (x / 256) = (wide (x / 256) - 1) + 1 := by have := wide_pos _ h0; omega
      rw [e, Nat.pow_succ]
      omega
theorem wide_zero_iff (x : Nat) : wide x = 0 ↔ x = 0 := by
  constructor
  · intro h
    by_cases hx : x = 0
    · exact hx
    · have := wide_pos x hx; omega
  · rintro rfl; exact wide_zero
theorem wide_of {x n : Nat} (h1 : x < 256 ^ (n + 1)) (h2 : 256 ^ n ≤ x) : wide x = n + 1 := by
  have h0 : x ≠ 0 := by have := Nat.pow_pos (n := n) (show 0 < 256 by decide); omega
  have a := wide_lt x
  have b := wide_ge x h0
  have c : wide x ≠ 0 := fun e => h0 ((wide_zero_iff x).1 e)
  have d1 : 256 ^ n < 256 ^ wide x := by omega
  have d2 : 256 ^ (wide x - 1) < 256 ^ (n + 1) := by omega
  have e1 := (Nat.pow_lt_pow_iff_right (show 1 < 256 by decide)).1 d1
  have e2 := (Nat.pow_lt_pow_iff_right (show 1 < 256 by decide)).1 d2
  omega
theorem wide_le {x n : Nat} (h : x < 256 ^ n) : wide x ≤ n := by
  by_cases h0 : x = 0
  · subst h0; rw [wide_zero]; omega
  · have b := wide_ge x h0
    have d : 256 ^ (wide x - 1) < 256 ^ n := by omega
    have := (Nat.pow_lt_pow_iff_right (show 1 < 256 by decide)).1 d
    omega
theorem wide_le8 {x : Nat} (h : x < 18446744073709551616) : wide x ≤ 8 := wide_le (n := 8) (by simpa using h)
theorem wide_mono {x y : Nat} (h : x ≤ y) : wide x ≤ wide y := wide_le (Nat.lt_of_le_of_lt h (wide_lt y))
theorem num_length (x : Nat) : (num x).length = wide x + 1 := by simp [num, dig_length]

/-- The program's count of bytes. -/
theorem wide_bits {x : Nat} (h : x < 18446744073709551616) : (Go.Lib.bitLen x + 7) / 8 = wide x := by
  by_cases h0 : x = 0
  · subst h0; rw [wide_zero]; simp [Go.Lib.bitLen, Go.Lib.bitLenAux]
  · obtain ⟨a, b, c⟩ := Go.Lib.bitLenAux_bounds 64 x (by simpa using h) h0
    have hb : Go.Lib.bitLen x = Go.Lib.bitLenAux 64 x := rfl
    rw [hb]
    generalize Go.Lib.bitLenAux 64 x = L at a b c
    obtain ⟨n, hn⟩ : ∃ n, n = (L + 7) / 8 - 1 := ⟨_, rfl⟩
    have e : (L + 7) / 8 = n + 1 := by omega
    rw [e]
    symm
    apply wide_of
    · have : 256 ^ (n + 1) = 2 ^ (8 * (n + 1)) := by rw [Nat.pow_mul]
      rw [this]
      exact Nat.lt_of_lt_of_le c (Nat.pow_le_pow_right (by decide) (by omega))
    · have : 256 ^ n = 2 ^ (8 * n) := by rw [Nat.pow_mul]
      rw [this]
      exact Nat.le_trans (Nat.pow_le_pow_right (by decide) (by omega)) b

/-! ### Values -/
theorem val_from (l : List UInt8) : ∀ a : Nat, l.foldl (fun a c => 256 * a + c.toNat) a = a * 256 ^ l.length + val l := by
  unfold val
  induction l with
  | nil => intro a; simp
  | cons c r ih =>
    intro a
    simp only [List.foldl_cons, List.length_cons]
    rw [ih (256 * a + c.toNat), ih (256 * 0 + c.toNat), Nat.pow_succ]
    simp only [Nat.add_mul, Nat.mul_zero, Nat.zero_add]
    have : 256 * a * 256 ^ r.length = a * (256 ^ r.length * 256) := by rw [Nat.mul_comm 256 a, Nat.mul_assoc, Nat.mul_comm 256]
    omega
theorem val_nil : val [] = 0 := rfl
theorem val_cons (c : UInt8) (r : List UInt8) : val (c :: r) = c.toNat * 256 ^ r.length + val r := by
  have := val_from r (256 * 0 + c.toNat)
  simp only [Nat.mul_zero, Nat.zero_add] at this
  rw [← this]
  simp [val]
theorem val_snoc (l : List UInt8) (c : UInt8) : val (l ++ [c]) = 256 * val l + c.toNat := by simp [val]
theorem val_lt (l : List UInt8) : val l < 256 ^ l.length := by
  induction l with
  | nil => simp [val]
  | cons c r ih =>
    rw [val_cons, List.length_cons, Nat.pow_succ]
    have h1 : c.toNat * 256 ^ r.length ≤ 255 * 256 ^ r.length := Nat.mul_le_mul_right _ (by have := c.toNat_lt; omega)
    omega
theorem dig_high (n x : Nat) : dig n (x % 256 ^ n) = dig n x := by
  suffices h : ∀ m, m ≤ n → dig m (x % 256 ^ n) = dig m x from h n (Nat.le_refl _)
  intro m
  induction m with
  | zero => intro _; rfl
  | succ m ih =>
    intro hm
    simp only [dig]
    rw [ih (by omega)]
    congr 2
    have e : 256 ^ n = 256 ^ m * 256 ^ (n - m) := by rw [← Nat.pow_add]; congr 1; omega
    have e2 : 256 ^ (n - m) = 256 * 256 ^ (n - m - 1) := by rw [← Nat.pow_succ']; congr 1; omega
    rw [e, Nat.mod_mul_right_div_self, e2, Nat.mod_mul_right_mod]
theorem val_dig (n x : Nat) : val (dig n x) = x % 256 ^ n := by
  induction n with
  | zero => simp [dig, val, Nat.mod_one]
  | succ n ih =>
    simp only [dig]
    rw [val_cons, dig_length, ih]
    have h1 : (UInt8.ofNat (x / 256 ^ n % 256)).toNat = x / 256 ^ n % 256 := by simp
    rw [h1, Nat.pow_succ, Nat.mod_mul, Nat.mul_comm, Nat.add_comm]
theorem dig_val (l : List UInt8) : dig l.length (val l) = l := by
  induction l with
  | nil => rfl
  | cons c r ih =>
    simp only [List.length_cons, dig]
    have hv := val_lt r
    have e1 : val (c :: r) / 256 ^ r.length % 256 = c.toNat := by
      rw [val_cons, Nat.mul_comm, Nat.mul_add_div (by have := Nat.pow_pos (n := r.length) (show 0 < 256 by decide); omega), Nat.div_eq_of_lt hv]
      have := c.toNat_lt
      omega
    have e2 : dig r.length (val (c :: r)) = dig r.length (val r) := by
      rw [← dig_high, ← dig_high r.length (val r), val_cons, Nat.mul_comm, Nat.mul_add_mod]
    rw [e1, e2, ih]
    simp
theorem val_num_tail (x : Nat) : val (dig (wide x) x) = x := by rw [val_dig]; exact Nat.mod_eq_of_lt (wide_lt x)

/-! ### The number at the front -/
/-- How many bytes the number at the front takes; 0, if there is none. -/
def front (s : List UInt8) : Nat := match s with
  | [] => 0
  | c :: r => if 8 < c.toNat ∨ r.length < c.toNat ∨ (0 < c.toNat ∧ r.head? = some 0) then 0 else c.toNat + 1
/-- That number (0, if there is none), and what is left behind it (nothing, if there is none). -/
def got (s : List UInt8) : Nat := val ((s.take (front s)).drop 1)
def rest (s : List UInt8) : List UInt8 := if front s = 0 then [] else s.drop (front s)
theorem front_le (s : List UInt8) : front s ≤ s.length := by
  unfold front
  split
  · simp
  · split <;> simp <;> omega
theorem front_le9 (s : List UInt8) : front s ≤ 9 := by
  unfold front
  split
  · simp
  · split <;> omega
theorem got_lt (s : List UInt8) : got s < 18446744073709551616 := by
  unfold got
  have h := val_lt ((s.take (front s)).drop 1)
  have h9 := front_le9 s
  have hl : ((s.take (front s)).drop 1).length ≤ 8 := by simp; omega
  have := Nat.pow_le_pow_right (show 256 > 0 by decide) hl
  have e : (256 : Nat) ^ 8 = 18446744073709551616 := by decide
  omega
theorem got_none {s : List UInt8} (h : front s = 0) : got s = 0 := by simp [got, h, val]
theorem rest_none {s : List UInt8} (h : front s = 0) : rest s = [] := by simp [rest, h]
theorem front_num {x : Nat} (h : x < 18446744073709551616) (r : List UInt8) : front (num x ++ r) = wide x + 1 := by
  have h8 := wide_le8 h
  have hw : (UInt8.ofNat (wide x)).toNat = wide x := by simp; omega
  simp only [num, List.cons_append, front, hw]
  rw [if_neg]
  rintro (a | a | ⟨a, b⟩)
  · omega
  · simp [dig_length] at a; omega
  · obtain ⟨n, hn⟩ : ∃ n, wide x = n + 1 := ⟨wide x - 1, by omega⟩
    rw [hn] at b
    simp only [dig, List.cons_append, List.head?_cons, Option.some.injEq] at b
    have h0 : x ≠ 0 := fun e => by rw [(wide_zero_iff x).2 e] at a; omega
    have h1 := wide_ge x h0
    have h2 := wide_lt x
    rw [hn] at h1 h2
    simp only [Nat.add_sub_cancel] at h1
    rw [Nat.pow_succ] at h2
    have h3 : x / 256 ^ n < 256 := Nat.div_lt_of_lt_mul h2
    have h4 : 1 ≤ x / 256 ^ n := (Nat.le_div_iff_mul_le (by omega)).2 (by omega)
    have h5 : (UInt8.ofNat (x / 256 ^ n % 256)).toNat = 0 := by rw [b]; rfl
    simp at h5
    omega
theorem got_num {x : Nat} (h : x < 18446744073709551616) (r : List UInt8) : got (num x ++ r) = x := by
  unfold got
  rw [front_num h]
  have : (num x ++ r).take (wide x + 1) = num x := by rw [← num_length, List.take_left]
  rw [this]
  exact val_num_tail x
theorem rest_num {x : Nat} (h : x < 18446744073709551616) (r : List UInt8) : rest (num x ++ r) = r := by
  unfold rest
  rw [front_num h, if_neg (by omega), ← num_length, List.drop_left]
/-- What is read, laid again, is the same bytes. -/
theorem num_got {s : List UInt8} (h : front s ≠ 0) : num (got s) = s.take (front s) := by
  cases s with
  | nil => exact absurd rfl h
  | cons c r =>
    have hn : ¬ (8 < c.toNat ∨ r.length < c.toNat ∨ (0 < c.toNat ∧ r.head? = some 0)) := fun e => h (by simp only [front]; rw [if_pos e])
    have hf : front (c :: r) = c.toNat + 1 := by simp only [front]; rw [if_neg hn]
    have hg : got (c :: r) = val (r.take c.toNat) := by unfold got; rw [hf]; rfl
    have hlen : (r.take c.toNat).length = c.toNat := by rw [List.length_take]; omega
    have hw : wide (val (r.take c.toNat)) = c.toNat := by
      by_cases h0 : c.toNat = 0
      · rw [h0]; simp [val, wide_zero]
      · obtain ⟨m, hm⟩ : ∃ m, c.toNat = m + 1 := ⟨c.toNat - 1, by omega⟩
        cases r with
        | nil => simp at hlen; omega
        | cons a r' =>
          have ha : a ≠ 0 := fun e => hn (.inr (.inr ⟨by omega, by simp [e]⟩))
          have ha' : 1 ≤ a.toNat := by
            rcases Nat.eq_zero_or_pos a.toNat with e | e
            · exact absurd (UInt8.toNat_inj.1 (by simpa using e)) ha
            · exact e
          rw [hm] at hlen ⊢
          have hv := val_lt ((a :: r').take (m + 1))
          rw [hlen] at hv
          apply wide_of hv
          simp only [List.take_succ_cons] at hlen ⊢
          simp only [List.length_cons, Nat.add_right_cancel_iff] at hlen
          rw [val_cons, hlen]
          have : 1 * 256 ^ m ≤ a.toNat * 256 ^ m := Nat.mul_le_mul_right _ ha'
          omega
    have hd := dig_val (r.take c.toNat)
    rw [hlen] at hd
    rw [hf, hg, List.take_succ_cons]
    unfold num
    rw [hw, hd]
    simp
/-! ### Order -/
/-- The bytes' order, as Go compares texts. -/
def less : List UInt8 → List UInt8 → Bool
  | [], [] => false
  | [], _ :: _ => true
  | _ :: _, [] => false
  | a :: l, b :: r => if a < b then true else if b < a then false else less l r
theorem less_val : ∀ (l r : List UInt8), l.length = r.length → less l r = decide (val l < val r)
  | [], [], _ => by simp [less]
  | a :: l, b :: r, h => by
    simp only [List.length_cons, Nat.add_right_cancel_iff] at h
    rw [val_cons, val_cons, less, less_val l r h, ← h]
    have h1 := val_lt l
    have h2 := val_lt r
    rw [← h] at h2
    simp only [UInt8.lt_iff_toNat_lt]
    by_cases hab : a.toNat < b.toNat
    · rw [if_pos hab]
      symm
      have : (a.toNat + 1) * 256 ^ l.length ≤ b.toNat * 256 ^ l.length := Nat.mul_le_mul_right _ hab
      rw [Nat.add_mul] at this
      rw [decide_eq_true_iff]
      omega
    · rw [if_neg hab]
      by_cases hba : b.toNat < a.toNat
      · rw [if_pos hba]
        symm
        have : (b.toNat + 1) * 256 ^ l.length ≤ a.toNat * 256 ^ l.length := Nat.mul_le_mul_right _ hba
        rw [Nat.add_mul] at this
        rw [decide_eq_false_iff_not]
        omega
      · rw [if_neg hba]
        have : a.toNat = b.toNat := by omega
        rw [this]
        simp
theorem num_less {a b : Nat} (ha : a < 18446744073709551616) (hb : b < 18446744073709551616) : less (num a) (num b) = decide (a < b) := by
  have wa := wide_le8 ha
  have wb := wide_le8 hb
  have ta : (UInt8.ofNat (wide a)).toNat = wide a := by simp; omega
  have tb : (UInt8.ofNat (wide b)).toNat = wide b := by simp; omega
  simp only [num, less, UInt8.lt_iff_toNat_lt, ta, tb]
  by_cases h1 : wide a < wide b
  · rw [if_pos h1]
    symm
    rw [decide_eq_true_iff]
    rcases Nat.lt_or_ge a b with h | h
    · exact h
    · have := wide_mono h; omega
  · rw [if_neg h1]
    by_cases h2 : wide b < wide a
    · rw [if_pos h2]
      symm
      rw [decide_eq_false_iff_not]
      intro h
      have := wide_mono (Nat.le_of_lt h); omega
    · rw [if_neg h2]
      have e : wide a = wide b := by omega
      rw [less_val _ _ (by rw [dig_length, dig_length, e]), val_num_tail, val_num_tail]
theorem num_inj {a b : Nat} (ha : a < 18446744073709551616) (hb : b < 18446744073709551616) (h : num a = num b) : a = b := by
  have h1 := got_num ha []
  have h2 := got_num hb []
  rw [h] at h1
  exact h1.symm.trans h2
/-! ### With a sign -/
/-- The number that stands for one with a sign. -/
def twice (x : Int) : Nat := if 0 ≤ x then (2 * x).toNat else (-2 * x - 1).toNat
/-- The one that a number stands for. -/
def half (y : Nat) : Int := if y % 2 = 0 then (y / 2 : Nat) else -((y / 2 : Nat) : Int) - 1
theorem half_twice (x : Int) : half (twice x) = x := by
  unfold half twice
  split <;> split <;> omega
theorem twice_lt {x : Int} (h1 : -9223372036854775808 ≤ x) (h2 : x ≤ 9223372036854775807) : twice x < 18446744073709551616 := by
  unfold twice
  split <;> omega
theorem half_bounds {y : Nat} (h : y < 18446744073709551616) : -9223372036854775808 ≤ half y ∧ half y ≤ 9223372036854775807 := by
  unfold half
  split <;> omega
end Go.Proofs.YthaepkpmpnofgaaGreat.Num
