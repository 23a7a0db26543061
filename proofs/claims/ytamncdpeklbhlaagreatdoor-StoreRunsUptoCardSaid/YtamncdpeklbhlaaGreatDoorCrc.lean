/- The sum of bytes over natural numbers: one halving, its linearity, halvings done k times, a byte, bytes, two texts, turned bits. No statement is proved here. -/
import Derived.Lib.Hide
namespace Go.Proofs.YtamncdpeklbhlaaGreatDoor.Crc

/-- The polynomial. -/
def pol : Nat := 2197175160
/-- One halving. -/
def half (x : Nat) : Nat := if x % 2 = 1 then x / 2 ^^^ pol else x / 2
/-- k halvings. -/
def hk : Nat → Nat → Nat
  | 0, x => x
  | k + 1, x => hk k (half x)

theorem pol_lt : pol < 2 ^ 32 := by decide
theorem half_lt {x : Nat} (h : x < 2 ^ 32) : half x < 2 ^ 32 := by
  unfold half
  split
  · exact Nat.xor_lt_two_pow (by omega) pol_lt
  · omega
theorem hk_lt : ∀ (k : Nat) {x : Nat}, x < 2 ^ 32 → hk k x < 2 ^ 32
  | 0, _, h => h
  | k + 1, _, h => hk_lt k (half_lt h)
theorem half_zero : half 0 = 0 := by decide
theorem hk_zero : ∀ k, hk k 0 = 0
  | 0 => rfl
  | k + 1 => by rw [hk, half_zero]; exact hk_zero k
theorem xor_mod2 (x y : Nat) : (x ^^^ y) % 2 = (x % 2 + y % 2) % 2 := by
  have h := Nat.xor_mod_two_pow (a := x) (b := y) (n := 1)
  simp only [Nat.pow_one] at h
  rw [h]
  have h1 : x % 2 = 0 ∨ x % 2 = 1 := by omega
  have h2 : y % 2 = 0 ∨ y % 2 = 1 := by omega
  rcases h1 with h1 | h1 <;> rcases h2 with h2 | h2 <;> rw [h1, h2] <;> rfl
theorem xor_div2 (x y : Nat) : (x ^^^ y) / 2 = x / 2 ^^^ y / 2 := by
  have h := Nat.xor_div_two_pow (a := x) (b := y) (n := 1)
  simpa using h
theorem xor_cancel (a b c : Nat) : (a ^^^ c) ^^^ (b ^^^ c) = a ^^^ b := by
  rw [Nat.xor_assoc, Nat.xor_comm c, Nat.xor_assoc, Nat.xor_self, Nat.xor_zero]
theorem half_xor (x y : Nat) : half (x ^^^ y) = half x ^^^ half y := by
  unfold half
  rw [xor_mod2, xor_div2]
  have h1 : x % 2 = 0 ∨ x % 2 = 1 := by omega
  have h2 : y % 2 = 0 ∨ y % 2 = 1 := by omega
  generalize pol = q
  rcases h1 with h1 | h1 <;> rcases h2 with h2 | h2 <;> rw [h1, h2] <;> simp only [Nat.reduceAdd, Nat.reduceMod, if_true, if_false, reduceCtorEq]
  · exact Nat.xor_assoc _ _ _
  · ac_rfl
  · exact (xor_cancel _ _ _).symm
theorem hk_xor : ∀ (k x y : Nat), hk k (x ^^^ y) = hk k x ^^^ hk k y
  | 0, _, _ => rfl
  | k + 1, x, y => by rw [hk, half_xor]; exact hk_xor k _ _
theorem hk_add : ∀ (j k x : Nat), hk (j + k) x = hk k (hk j x)
  | 0, k, x => by rw [Nat.zero_add]; rfl
  | j + 1, k, x => by rw [show j + 1 + k = (j + k) + 1 by omega, hk, hk_add j k]; rfl
theorem half_eq_zero {x : Nat} (h : x < 2 ^ 32) (h0 : half x = 0) : x = 0 := by
  unfold half at h0
  split at h0
  · have h1 : x / 2 = pol := by
      have := congrArg (· ^^^ pol) h0
      simpa [Nat.xor_assoc, Nat.xor_self] using this
    have h2 : pol = 2197175160 := rfl
    omega
  · omega
theorem hk_eq_zero : ∀ (k : Nat) {x : Nat}, x < 2 ^ 32 → hk k x = 0 → x = 0
  | 0, _, _, h => h
  | k + 1, _, h, h0 => half_eq_zero h (hk_eq_zero k (half_lt h) h0)
theorem half_even (x : Nat) : half (2 * x) = x := by
  unfold half
  rw [if_neg (by omega)]
  omega
theorem hk_pow : ∀ (k q : Nat), hk k (2 ^ k * q) = q
  | 0, q => by simp [hk]
  | k + 1, q => by rw [hk, show 2 ^ (k + 1) * q = 2 * (2 ^ k * q) by rw [Nat.pow_succ]; ac_rfl, half_even]; exact hk_pow k q
theorem hk_pow_one (k : Nat) : hk k (2 ^ k) = 1 := by have := hk_pow k 1; rwa [Nat.mul_one] at this
theorem hk_pow_add (k j : Nat) : hk (k + j) (2 ^ k) = hk j 1 := by rw [hk_add, hk_pow_one]

/-! ### Four halvings by the table -/
def fours : List Nat := [0, 274646895, 549293790, 820201905, 1098587580, 1361435347, 1640403810, 1905808397, 2197175160, 2460548119, 2722870694, 2987750089, 3280807620, 3553878443, 3811616794, 4084100981]
theorem fours_length : fours.length = 16 := rfl
theorem fours_lt (i : Nat) : fours.getD i 0 < 2 ^ 32 := by
  by_cases h : i < 16
  · have : ∀ j : Fin 16, fours.getD j.1 0 < 2 ^ 32 := by decide
    exact this ⟨i, h⟩
  · simp [List.getD, List.getElem?_eq_none (show fours.length ≤ i by rw [fours_length]; omega)]
theorem hk_four (x : Nat) : hk 4 x = x / 16 ^^^ fours.getD (x % 16) 0 := by
  have hx : x = 2 ^ 4 * (x / 16) ^^^ x % 16 := by
    have h := Nat.two_pow_add_eq_or_of_lt (i := 4) (show x % 16 < 2 ^ 4 by omega) (x / 16)
    have e : 2 ^ 4 * (x / 16) ||| x % 16 = 2 ^ 4 * (x / 16) ^^^ x % 16 := by
      apply Nat.eq_of_testBit_eq
      intro i
      rw [Nat.testBit_or, Nat.testBit_xor]
      by_cases hi : i < 4
      · rw [Nat.testBit_two_pow_mul]
        simp [Nat.not_le.2 hi]
      · rw [Nat.testBit_lt_two_pow (x := x % 16) (Nat.lt_of_lt_of_le (show x % 16 < 2 ^ 4 by omega) (Nat.pow_le_pow_right (by decide) (by omega)))]
        simp
    rw [← e, ← h]
    omega
  have hr : ∀ j : Fin 16, hk 4 j.1 = fours.getD j.1 0 := by decide
  have h1 := hk_xor 4 (2 ^ 4 * (x / 16)) (x % 16)
  rw [← hx, hk_pow, hr ⟨x % 16, by omega⟩] at h1
  exact h1
theorem hk_eight (x : Nat) : hk 8 x = hk 4 (hk 4 x) := hk_add 4 4 x

/-! ### Bytes -/
/-- Eight halvings, shut. -/
theorem oct_ex : ∃ f : Nat → Nat, ∀ x, f x = hk 8 x := ⟨_, fun _ => rfl⟩
noncomputable def oct : Nat → Nat := oct_ex.choose
theorem oct_eq (x : Nat) : oct x = hk 8 x := oct_ex.choose_spec x
theorem oct_lt {x : Nat} (h : x < 2 ^ 32) : oct x < 2 ^ 32 := by rw [oct_eq]; exact hk_lt 8 h
theorem oct_xor (x y : Nat) : oct (x ^^^ y) = oct x ^^^ oct y := by rw [oct_eq, oct_eq, oct_eq, hk_xor]
/-- x with the bytes of l behind it. -/
noncomputable def feed : Nat → List UInt8 → Nat
  | x, [] => x
  | x, c :: l => feed (oct (x ^^^ c.toNat)) l
theorem feed_nil (x : Nat) : feed x [] = x := rfl
theorem feed_cons (x : Nat) (c : UInt8) (l : List UInt8) : feed x (c :: l) = feed (oct (x ^^^ c.toNat)) l := rfl
theorem byte_lt (c : UInt8) : c.toNat < 2 ^ 32 := by have := c.toNat_lt; omega
theorem feed_step_lt {x : Nat} (h : x < 2 ^ 32) (c : UInt8) : oct (x ^^^ c.toNat) < 2 ^ 32 := oct_lt (Nat.xor_lt_two_pow h (byte_lt c))
theorem feed_lt : ∀ (l : List UInt8) {x : Nat}, x < 2 ^ 32 → feed x l < 2 ^ 32
  | [], _, h => h
  | c :: l, _, h => feed_lt l (feed_step_lt h c)
theorem feed_append : ∀ (a b : List UInt8) (x : Nat), feed x (a ++ b) = feed (feed x a) b
  | [], _, _ => rfl
  | _ :: a, b, _ => feed_append a b _
theorem feed_xor : ∀ (l : List UInt8) (x y : Nat), feed (x ^^^ y) l = feed x l ^^^ hk (8 * l.length) y
  | [], x, y => by rw [feed_nil, feed_nil, List.length_nil, Nat.mul_zero]; rfl
  | c :: l, x, y => by
    rw [feed_cons, feed_cons, show x ^^^ y ^^^ c.toNat = x ^^^ c.toNat ^^^ y by ac_rfl, oct_xor, feed_xor l, List.length_cons, show 8 * (l.length + 1) = 8 + 8 * l.length by omega, hk_add, oct_eq y]
/-- All bits of 32, shut. -/
theorem ones_ex : ∃ m : Nat, m = 4294967295 := ⟨_, rfl⟩
noncomputable def ones : Nat := ones_ex.choose
theorem ones_eq : ones = 4294967295 := ones_ex.choose_spec
theorem ones_lt : ones < 2 ^ 32 := by rw [ones_eq]; decide
/-- All bits turned about. -/
noncomputable def inv (x : Nat) : Nat := ones ^^^ x
theorem inv_eq {x : Nat} (h : x < 2 ^ 32) : inv x = 4294967295 - x := by
  have h1 : x ≤ 4294967295 := by omega
  unfold inv
  rw [ones_eq]
  apply Nat.eq_of_testBit_eq
  intro i
  have e : (4294967295 : Nat) - x = 2 ^ 32 - (x + 1) := by omega
  rw [e, Nat.testBit_two_pow_sub_succ h, Nat.testBit_xor, show (4294967295 : Nat) = 2 ^ 32 - 1 by decide, Nat.testBit_two_pow_sub_one]
  by_cases hi : i < 32 <;> simp [hi]
  exact Nat.testBit_lt_two_pow (Nat.lt_of_lt_of_le h (Nat.pow_le_pow_right (by decide) (by omega)))
theorem inv_lt {x : Nat} (h : x < 2 ^ 32) : inv x < 2 ^ 32 := Nat.xor_lt_two_pow ones_lt h
theorem inv_inv (x : Nat) : inv (inv x) = x := by unfold inv; rw [← Nat.xor_assoc, Nat.xor_self, Nat.zero_xor]
theorem inv_xor (x y : Nat) : inv (x ^^^ y) = inv x ^^^ y := by unfold inv; rw [Nat.xor_assoc]
/-- The sum that begins as s, of l. -/
noncomputable def add (s : Nat) (l : List UInt8) : Nat := inv (feed (inv s) l)
theorem add_lt {s : Nat} (h : s < 2 ^ 32) (l : List UInt8) : add s l < 2 ^ 32 := inv_lt (feed_lt l (inv_lt h))
theorem add_append (s : Nat) (a b : List UInt8) : add s (a ++ b) = add (add s a) b := by unfold add; rw [feed_append, inv_inv]
theorem add_nil (s : Nat) : add s [] = s := inv_inv s
/-- The sum of two texts by their sums. -/
def join (a b n : Nat) : Nat := hk (8 * n) a ^^^ b
theorem join_lt {a b : Nat} (h : a < 2 ^ 32) (h' : b < 2 ^ 32) (n : Nat) : join a b n < 2 ^ 32 := Nat.xor_lt_two_pow (hk_lt _ h) h'
theorem add_join (s : Nat) (l : List UInt8) : add s l = join s (add 0 l) l.length := by
  unfold add join
  have h : inv s = inv 0 ^^^ s := by unfold inv; rw [Nat.xor_zero]
  rw [h, feed_xor, inv_xor, Nat.xor_comm]
theorem sum_append (a b : List UInt8) : add 0 (a ++ b) = join (add 0 a) (add 0 b) b.length := by rw [add_append, add_join]
theorem join_nil (a : Nat) : join a 0 0 = a := by unfold join; simp [hk]

/-! ### Three texts -/
def xor3 : List UInt8 → List UInt8 → List UInt8 → List UInt8
  | x :: a, y :: b, z :: c => (x ^^^ y ^^^ z) :: xor3 a b c
  | _, _, _ => []
theorem xor_six (p q r x y z : Nat) : (p ^^^ q ^^^ r) ^^^ (x ^^^ y ^^^ z) = (p ^^^ x) ^^^ (q ^^^ y) ^^^ (r ^^^ z) := by
  ac_rfl
theorem feed_three : ∀ (a b c : List UInt8) (x y z : Nat), a.length = b.length → b.length = c.length → feed (x ^^^ y ^^^ z) (xor3 a b c) = feed x a ^^^ feed y b ^^^ feed z c
  | [], [], [], x, y, z, _, _ => rfl
  | u :: a, v :: b, t :: c, x, y, z, h1, h2 => by
    rw [show xor3 (u :: a) (v :: b) (t :: c) = (u ^^^ v ^^^ t) :: xor3 a b c from rfl, feed_cons, feed_cons, feed_cons, feed_cons, UInt8.toNat_xor, UInt8.toNat_xor, xor_six, oct_xor, oct_xor]
    exact feed_three a b c _ _ _ (by simpa using h1) (by simpa using h2)
theorem add_three (a b c : List UInt8) (h1 : a.length = b.length) (h2 : b.length = c.length) : add 0 (xor3 a b c) = add 0 a ^^^ add 0 b ^^^ add 0 c := by
  unfold add inv
  have h := feed_three a b c (ones ^^^ 0) (ones ^^^ 0) (ones ^^^ 0) h1 h2
  have e : (ones ^^^ 0) ^^^ (ones ^^^ 0) ^^^ (ones ^^^ 0) = ones ^^^ 0 := by rw [Nat.xor_self, Nat.zero_xor]
  rw [e] at h
  rw [h]
  generalize feed _ a = p
  generalize feed _ b = q
  generalize feed _ c = r
  have : (ones ^^^ p) ^^^ (ones ^^^ q) ^^^ (ones ^^^ r) = (ones ^^^ ones ^^^ ones) ^^^ (p ^^^ q ^^^ r) := by ac_rfl
  rw [this, Nat.xor_self, Nat.zero_xor]

/-! ### Turned bits -/
/-- Bit p of l turned. -/
def turn (l : List UInt8) (p : Nat) : List UInt8 := l.set (p / 8) (l.getD (p / 8) 0 ^^^ UInt8.ofNat (2 ^ (p % 8)))
theorem turn_length (l : List UInt8) (p : Nat) : (turn l p).length = l.length := by simp [turn]
theorem turn_cons (c : UInt8) (l : List UInt8) (p : Nat) : turn (c :: l) (p + 8) = c :: turn l p := by
  unfold turn
  rw [show (p + 8) / 8 = p / 8 + 1 by omega, show (p + 8) % 8 = p % 8 by omega]
  simp
theorem turn_head (c : UInt8) (l : List UInt8) (p : Nat) (h : p < 8) : turn (c :: l) p = (c ^^^ UInt8.ofNat (2 ^ p)) :: l := by
  unfold turn
  rw [show p / 8 = 0 by omega, show p % 8 = p by omega]
  simp
theorem feed_turn : ∀ (l : List UInt8) (p x : Nat), p < 8 * l.length → feed x (turn l p) = feed x l ^^^ hk (8 * l.length - p) 1
  | [], p, x, h => by simp at h
  | c :: l, p, x, h => by
    by_cases hp : p < 8
    · rw [turn_head c l p hp, feed_cons, feed_cons]
      have e : (c ^^^ UInt8.ofNat (2 ^ p)).toNat = c.toNat ^^^ 2 ^ p := by
        rw [UInt8.toNat_xor]
        congr 1
        have : 2 ^ p < 2 ^ 8 := Nat.pow_lt_pow_right (by decide) hp
        simp [UInt8.toNat_ofNat']
        omega
      rw [e, ← Nat.xor_assoc, oct_xor, feed_xor, List.length_cons]
      congr 1
      rw [oct_eq, ← hk_add, show 8 + 8 * l.length = p + (8 * (l.length + 1) - p) by omega, hk_pow_add]
    · obtain ⟨q, rfl⟩ : ∃ q, p = q + 8 := ⟨p - 8, by omega⟩
      rw [turn_cons, feed_cons, feed_cons, feed_turn l q _ (by simp at h; omega), List.length_cons]
      congr 2
      omega
/-- What the first i bits of a burst at place p turn. -/
def burstOn (l : List UInt8) (p b : Nat) : Nat → List UInt8
  | 0 => l
  | i + 1 => if b / 2 ^ i % 2 = 1 ∧ p + i < 8 * l.length then turn (burstOn l p b i) (p + i) else burstOn l p b i
/-- Whether one was turned. -/
def turned (n p b : Nat) : Nat → Bool
  | 0 => false
  | i + 1 => if b / 2 ^ i % 2 = 1 ∧ p + i < n then true else turned n p b i
/-- The bits that were turned, as a number. -/
def mask (n p b : Nat) : Nat → Nat
  | 0 => 0
  | i + 1 => if b / 2 ^ i % 2 = 1 ∧ p + i < n then mask n p b i + 2 ^ i else mask n p b i
theorem burstOn_length (l : List UInt8) (p b : Nat) : ∀ i, (burstOn l p b i).length = l.length
  | 0 => rfl
  | i + 1 => by
    unfold burstOn
    split
    · rw [turn_length]; exact burstOn_length l p b i
    · exact burstOn_length l p b i
theorem mask_lt (n p b : Nat) : ∀ i, mask n p b i < 2 ^ i
  | 0 => by simp [mask]
  | i + 1 => by
    have := mask_lt n p b i
    unfold mask
    rw [Nat.pow_succ]
    split <;> omega
theorem turned_mask (n p b : Nat) : ∀ i, turned n p b i = decide (mask n p b i ≠ 0)
  | 0 => rfl
  | i + 1 => by
    unfold turned mask
    have : 0 < 2 ^ i := Nat.two_pow_pos i
    split
    · rw [eq_comm, decide_eq_true_iff]; omega
    · exact turned_mask n p b i
theorem add_pow_xor {m i : Nat} (h : m < 2 ^ i) : m + 2 ^ i = m ^^^ 2 ^ i := by
  have h1 := Nat.two_pow_add_eq_or_of_lt h 1
  rw [Nat.mul_one] at h1
  rw [Nat.add_comm, h1]
  apply Nat.eq_of_testBit_eq
  intro j
  rw [Nat.testBit_or, Nat.testBit_xor, Nat.testBit_two_pow]
  by_cases hj : i = j
  · subst hj
    rw [Nat.testBit_lt_two_pow h]
    simp
  · simp [hj]
theorem feed_burst (l : List UInt8) (p b x : Nat) : ∀ i, p < 8 * l.length → feed x (burstOn l p b i) = feed x l ^^^ hk (8 * l.length - p) (mask (8 * l.length) p b i)
  | 0, _ => by unfold burstOn mask; rw [hk_zero, Nat.xor_zero]
  | i + 1, hp => by
    have ih := feed_burst l p b x i hp
    unfold burstOn mask
    split
    · rename_i h
      rw [feed_turn _ _ _ (by rw [burstOn_length]; exact h.2), ih, burstOn_length, add_pow_xor (mask_lt _ _ _ _), hk_xor, Nat.xor_assoc]
      congr 2
      rw [show 8 * l.length - p = i + (8 * l.length - (p + i)) by omega, hk_pow_add]
    · exact ih
theorem burst_sum (l : List UInt8) (p b : Nat) (hp : p < 8 * l.length) : (!(add 0 (burstOn l p b 32) == add 0 l)) = turned (8 * l.length) p b 32 := by
  rw [turned_mask]
  have hm := mask_lt (8 * l.length) p b 32
  have hf := feed_burst l p b (inv 0) 32 hp
  unfold add
  rw [hf]
  by_cases h0 : mask (8 * l.length) p b 32 = 0
  · rw [h0, hk_zero, Nat.xor_zero]
    simp
  · have hne : hk (8 * l.length - p) (mask (8 * l.length) p b 32) ≠ 0 := fun e => h0 (hk_eq_zero _ hm e)
    have : ¬ inv (feed (inv 0) l ^^^ hk (8 * l.length - p) (mask (8 * l.length) p b 32)) = inv (feed (inv 0) l) := by
      intro e
      have e2 := congrArg inv e
      rw [inv_inv, inv_inv] at e2
      have e3 := congrArg (feed (inv 0) l ^^^ ·) e2
      simp only [← Nat.xor_assoc, Nat.xor_self, Nat.zero_xor] at e3
      exact hne e3
    simp [h0, this]

/-! ### Changes as 32 columns -/
/-- The columns of k halvings. -/
def cols (k : Nat) : List Nat := (List.range 32).map fun i => hk k (2 ^ i)
theorem cols_length (k : Nat) : (cols k).length = 32 := by simp [cols]
theorem cols_get (k i : Nat) (h : i < 32) : (cols k)[i]? = some (hk k (2 ^ i)) := by simp [cols, List.getElem?_range h]
theorem cols_lt (k : Nat) : ∀ c ∈ cols k, c < 2 ^ 32 := by
  intro c hc
  obtain ⟨i, hi, rfl⟩ := List.mem_map.1 hc
  exact hk_lt k (Nat.pow_lt_pow_right (by decide) (by simpa using hi))
/-- A number's lowest i bits by one bit more. -/
theorem low_succ (x i : Nat) : x % 2 ^ (i + 1) = if x / 2 ^ i % 2 = 1 then x % 2 ^ i ^^^ 2 ^ i else x % 2 ^ i := by
  have h1 : x % 2 ^ (i + 1) = x % 2 ^ i + 2 ^ i * (x / 2 ^ i % 2) := by rw [Nat.pow_succ, Nat.mod_mul]
  rw [h1]
  split
  · rename_i h
    rw [h, Nat.mul_one, add_pow_xor (Nat.mod_lt _ (Nat.two_pow_pos i))]
  · rename_i h
    rw [show x / 2 ^ i % 2 = 0 by omega, Nat.mul_zero, Nat.add_zero]
theorem times_succ (k x i : Nat) : hk k (x % 2 ^ (i + 1)) = if x / 2 ^ i % 2 = 1 then hk k (x % 2 ^ i) ^^^ hk k (2 ^ i) else hk k (x % 2 ^ i) := by
  rw [low_succ]
  split
  · rw [hk_xor]
  · rfl
theorem hk_twice (k x : Nat) : hk k (hk k x) = hk (2 * k) x := by rw [← hk_add]; congr 1; omega
/-- A step of the joining: an odd length, an even one. -/
theorem join_odd (k n x : Nat) (h : n % 2 = 1) : hk (2 * k * (n / 2)) (hk k x) = hk (k * n) x := by
  rw [← hk_add]
  congr 1
  conv => rhs; rw [← Nat.div_add_mod n 2, h]
  rw [Nat.mul_add, Nat.mul_one, Nat.mul_comm 2 k, Nat.mul_assoc]
  omega
theorem join_even (k n x : Nat) (h : n % 2 = 0) : hk (2 * k * (n / 2)) x = hk (k * n) x := by
  congr 1
  conv => rhs; rw [← Nat.div_add_mod n 2, h]
  rw [Nat.add_zero, Nat.mul_comm 2 k, Nat.mul_assoc]
end Go.Proofs.YtamncdpeklbhlaaGreatDoor.Crc
