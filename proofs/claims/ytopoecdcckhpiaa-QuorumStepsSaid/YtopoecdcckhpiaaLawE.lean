/- The statement on majorities that meet, walked. -/
import Derived.Test.YtopoecdcckhpiaaLawC
import Derived.Test.YtopoecdcckhpiaaLawB
namespace Go.Proofs.Ytopoecdcckhpiaa.LawE
open Go.RowKit Go.Proofs.Ytopoecdcckhpiaa.Kit Go.Proofs.Ytopoecdcckhpiaa.Blocks Go.Proofs.Ytopoecdcckhpiaa.Quorum Go.Proofs.Ytopoecdcckhpiaa.WalkA Go.Proofs.Ytopoecdcckhpiaa.WalkB Go.Proofs.Ytopoecdcckhpiaa.WalkC Go.Proofs.Ytopoecdcckhpiaa.WalkD Go.Proofs.Ytopoecdcckhpiaa.Told Go.Proofs.Ytopoecdcckhpiaa.Sorting Go.Proofs.Ytopoecdcckhpiaa.Reach Go.Proofs.Ytopoecdcckhpiaa.RefReach Go.Proofs.Ytopoecdcckhpiaa.Change Go.Proofs.Ytopoecdcckhpiaa.Begun Go.Proofs.Ytopoecdcckhpiaa.LawC

theorem maj_num {c a : Nat} (h : maj c a = true) : size c / 2 + 1 ≤ num fun i => c.testBit i && a.testBit i := by
  have := of_decide_eq_true h
  rw [size_and] at this
  exact this
/-- Two majorities of one set meet. -/
theorem meet_one {c a b : Nat} (h1 : maj c a = true) (h2 : maj c b = true) : a &&& b &&& c ≠ 0 := by
  have k1 := maj_num h1
  have k2 := maj_num h2
  obtain ⟨i, _, hi⟩ := num_pos (num_meet (p := fun i => c.testBit i && a.testBit i) (q := fun i => c.testBit i && b.testBit i) (r := fun i => c.testBit i) (fun i _ e => (Bool.and_eq_true_iff.1 e).1) (fun i _ e => (Bool.and_eq_true_iff.1 e).1) (by rw [← size_num]; omega))
  simp only [Bool.and_eq_true] at hi
  refine bit_pos (i := i) ?_
  rw [Nat.testBit_and, Nat.testBit_and, hi.1.2, hi.2.2, hi.1.1]
  rfl
/-- A majority of a set and one of a set that is a member apart meet. -/
theorem meet_two {c d a b : Nat} {add : Bool} {n : Int} (hch : change c add n = (d, 0)) (h1 : maj c a = true) (h2 : maj d b = true) : a &&& b &&& c &&& d ≠ 0 := by
  have k1 := maj_num h1
  have k2 := maj_num h2
  obtain ⟨i, rfl, hi, _, hc, htu, ht0, _, _, hbit, _⟩ := change_taken (c := c) (add := add) (n := n) (by rw [hch])
  rw [hch] at htu hbit
  simp only at hbit
  have hd : d = c ^^^ 2 ^ i ∧ c.testBit i = !add := by
    unfold turn at htu ht0
    by_cases e : c.testBit i = add ∨ c = 2 ^ i
    · rw [if_pos e] at ht0
      cases ht0
    · rw [if_neg e] at htu
      refine ⟨by simpa using htu, ?_⟩
      have e1 : ¬ c.testBit i = add := fun h => e (.inl h)
      cases hb : c.testBit i <;> cases add <;> simp_all
  have hbits : ∀ j, j ≠ i → d.testBit j = c.testBit j := fun j hj => by rw [hd.1, flip_bit]; simp [Ne.symm hj]
  have hbn : ∀ j, (j = i ∧ c.testBit j = (!add) ∧ d.testBit j = add) ∨ (j ≠ i ∧ d.testBit j = c.testBit j) := fun j => by
    by_cases e : j = i
    · subst e; exact .inl ⟨rfl, hd.2, hbit⟩
    · exact .inr ⟨e, hbits j e⟩
  -- the one that lies apart
  have hone : ∀ p : Nat → Bool, num p ≤ (num fun j => p j && (c.testBit j && d.testBit j)) + (num fun j => p j && !(c.testBit j && d.testBit j)) := fun p => by
    have h := num_and_or (fun j => p j && (c.testBit j && d.testBit j)) (fun j => p j && !(c.testBit j && d.testBit j))
    have : num p ≤ num fun j => (p j && (c.testBit j && d.testBit j)) || (p j && !(c.testBit j && d.testBit j)) := num_le fun j _ e => by rw [e]; cases c.testBit j <;> cases d.testBit j <;> rfl
    omega
  have hsing : ∀ p : Nat → Bool, (∀ j, p j = true → j = i) → num p ≤ 1 := fun p hp => by
    have : num p ≤ num fun j => decide (j = i) := num_le fun j _ e => by simp [hp j e]
    have h7 : ∀ i, i < 7 → (num fun j => decide (j = i)) = 1 := by decide
    rw [h7 i hi] at this
    exact this
  obtain ⟨j, _, hj⟩ : ∃ j, j < 7 ∧ ((c.testBit j && a.testBit j && (c.testBit j && d.testBit j)) && (d.testBit j && b.testBit j && (c.testBit j && d.testBit j))) = true := by
    refine num_pos (num_meet (r := fun j => c.testBit j && d.testBit j) (fun j _ e => (Bool.and_eq_true_iff.1 e).2) (fun j _ e => (Bool.and_eq_true_iff.1 e).2) ?_)
    have e1 := hone fun j => c.testBit j && a.testBit j
    have e2 := hone fun j => d.testBit j && b.testBit j
    have hm := flip_more c hc i hi
    have hl := flip_less c hc i hi
    cases add with
    | true =>
      have hs := (hm hd.2).2.2.1
      rw [← hd.1] at hs
      have hcd : (num fun j => c.testBit j && d.testBit j) = size c := by
        rw [size_num]
        refine num_congr fun j _ => ?_
        rcases hbn j with ⟨_, h1, h2⟩ | ⟨_, h⟩
        · rw [h1]; rfl
        · rw [h]; cases c.testBit j <;> rfl
      have z1 : (num fun j => c.testBit j && a.testBit j && !(c.testBit j && d.testBit j)) = 0 := num_zero fun j _ => by
        rcases hbn j with ⟨_, h1, h2⟩ | ⟨_, h⟩
        · rw [h1]; rfl
        · rw [h]; cases c.testBit j <;> simp
      have z2 := hsing (fun j => d.testBit j && b.testBit j && !(c.testBit j && d.testBit j)) fun j e => by
        rcases hbn j with ⟨h, _, _⟩ | ⟨_, h⟩
        · exact h
        · rw [h] at e; cases hx : c.testBit j <;> simp [hx] at e
      omega
    | false =>
      have hs := (hl hd.2).2.2.1
      rw [← hd.1] at hs
      have hcd : (num fun j => c.testBit j && d.testBit j) = size d := by
        rw [size_num]
        refine num_congr fun j _ => ?_
        rcases hbn j with ⟨_, h1, h2⟩ | ⟨_, h⟩
        · rw [h2]; simp
        · rw [h]; cases c.testBit j <;> rfl
      have z1 : (num fun j => d.testBit j && b.testBit j && !(c.testBit j && d.testBit j)) = 0 := num_zero fun j _ => by
        rcases hbn j with ⟨_, h1, h2⟩ | ⟨_, h⟩
        · rw [h2]; rfl
        · rw [h]; cases c.testBit j <;> simp
      have z2 := hsing (fun j => c.testBit j && a.testBit j && !(c.testBit j && d.testBit j)) fun j e => by
        rcases hbn j with ⟨h, _, _⟩ | ⟨_, h⟩
        · exact h
        · rw [h] at e; cases hx : c.testBit j <;> simp [hx] at e
      omega
  simp only [Bool.and_eq_true] at hj
  refine bit_pos (i := j) ?_
  rw [Nat.testBit_and, Nat.testBit_and, Nat.testBit_and, hj.1.1.2, hj.2.1.2, hj.1.2.1, hj.1.2.2]
  rfl

theorem maj_hid {c s : Nat} {b : Bool} (hc : c < 2 ^ 64) (hs : s < 2 ^ 64) (h : Hid (maj c s = b)) (w : World) : Calls Try.prog 19 #[.int .u64 (c : Int), .int .u64 (s : Int)] w fun e w' => e = .returned (.bool b) ∧ w = w' := by
  have := maj_any c s hc hs w
  rwa [h.out] at this
theorem and_int {x y z : Nat} (hx : x < 2 ^ 64) (hy : y < 2 ^ 64) (h : x &&& y = z) : bits .and .u64 (x : Int) (y : Int) = (z : Int) := by rw [← h]; exact u64_and_nat x y hx hy
theorem and_lt (x y : Nat) (hx : x < 2 ^ 64) : x &&& y < 2 ^ 64 := Nat.lt_of_le_of_lt Nat.and_le_left hx

set_option maxHeartbeats 4000000 in
set_option maxRecDepth 100000 in
theorem meets_any (c a b : Nat) (add : Bool) (n : Int) (w : World) (hc : c < 2 ^ 64) (ha : a < 2 ^ 64) (hb : b < 2 ^ 64) : Calls Try.prog 6 #[.agg #[.int .u64 (c : Int), .int .u64 (a : Int), .int .u64 (b : Int)], .bool add, .int .i64 n] w fun e w' => e = .returned (.bool true) ∧ Below w.heap.size w w' := by
  obtain ⟨M1, hM1⟩ : ∃ M, maj c a = M := ⟨_, rfl⟩
  obtain ⟨M2, hM2⟩ : ∃ M, maj c b = M := ⟨_, rfl⟩
  obtain ⟨d, hd⟩ : ∃ d, (change c add n).1 = d := ⟨_, rfl⟩
  obtain ⟨k, hk⟩ : ∃ k, (change c add n).2 = k := ⟨_, rfl⟩
  have hp : change c add n = (d, k) := Prod.ext hd hk
  have HP := Lib.hid hp
  obtain ⟨M3, hM3⟩ : ∃ M, maj d b = M := ⟨_, rfl⟩
  obtain ⟨S, hS⟩ : ∃ S, sound c = S := ⟨_, rfl⟩
  obtain ⟨x, hx⟩ : ∃ x, a &&& b = x := ⟨_, rfl⟩
  obtain ⟨y, hy⟩ : ∃ y, x &&& c = y := ⟨_, rfl⟩
  obtain ⟨z, hz⟩ : ∃ z, y &&& d = z := ⟨_, rfl⟩
  have xl : x < 2 ^ 64 := by rw [← hx]; exact and_lt _ _ ha
  have yl : y < 2 ^ 64 := by rw [← hy]; exact and_lt _ _ xl
  have hdl : d < 2 ^ 64 := by
    by_cases e : k = 0
    · obtain ⟨_, _, _, _, _, _, _, _, h, _, _⟩ := change_taken (c := c) (add := add) (n := n) (by rw [hk, e])
      rw [hd] at h
      omega
    · have := change_zero (c := c) (add := add) (n := n) (by rw [hk]; exact e)
      omega
  have b1 := and_int ha hb hx
  have b2 := and_int xl hc hy
  have b3 := and_int yl hdl hz
  have HM1 := Lib.hid hM1
  have HM2 := Lib.hid hM2
  have HM3 := Lib.hid hM3
  have HS := Lib.hid hS
  have m1 : M1 = true → M2 = true → y ≠ 0 := fun h1 h2 => by rw [← hy, ← hx]; exact meet_one (hM1.trans h1) (hM2.trans h2)
  have m2 : k = 0 → M1 = true → M3 = true → z ≠ 0 := fun h0 h1 h3 => by
    rw [← hz, ← hy, ← hx]
    subst h0
    exact meet_two hp (hM1.trans h1) (hM3.trans h3)
  have A1 : Aside _ := m1
  have A2 : Aside _ := m2
  clear hM1 hM2 hM3 hp hd hk hS hx hy hz m1 m2 xl yl
  go_enter Try.func6, Try.ntmps6
  go_wp2_with fail
  have h0 : (w.alloc (.cells #[.int .u64 (c : Int), .int .u64 (a : Int), .int .u64 (b : Int)] 41)).cell? ⟨w.heap.size, 0, none⟩ = some (.int .u64 (c : Int)) := by rw [cell_at (heap_alloc_new w _)]; rfl
  have h1 : (w.alloc (.cells #[.int .u64 (c : Int), .int .u64 (a : Int), .int .u64 (b : Int)] 41)).cell? ⟨w.heap.size, 1, none⟩ = some (.int .u64 (a : Int)) := by rw [cell_at (heap_alloc_new w _)]; rfl
  have h2 : (w.alloc (.cells #[.int .u64 (c : Int), .int .u64 (a : Int), .int .u64 (b : Int)] 41)).cell? ⟨w.heap.size, 2, none⟩ = some (.int .u64 (b : Int)) := by rw [cell_at (heap_alloc_new w _)]; rfl
  have hbw : Below w.heap.size w (w.alloc (.cells #[.int .u64 (c : Int), .int .u64 (a : Int), .int .u64 (b : Int)] 41)) := (Below.refl _ _).alloc (Nat.le_refl _) _
  generalize w.alloc (.cells #[.int .u64 (c : Int), .int .u64 (a : Int), .int .u64 (b : Int)] 41) = w1 at h0 h1 h2 hbw ⊢
  go_quiet (fail)
  go_wp2_with fail
  refine (begun_any _).mono ?_
  rintro e wa ⟨rfl, hba⟩
  have hbz : Below w.heap.size w wa := hbw.trans ((below_drewN _ _ _).trans (hba.mono (by simpa using hbw.size)))
  clear hbw hba h0 h1 h2
  go_wp2_with fail
  refine (sound_hid hc HS _).mono ?_
  rintro e _ ⟨rfl, rfl⟩
  cases S with
  | false =>
    go_wp2
    go_ret
    exact ⟨rfl, hbz⟩
  | true =>
    go_wp2_with fail
    refine (maj_hid hc ha HM1 _).mono ?_
    rintro e _ ⟨rfl, rfl⟩
    cases M1 with
    | false =>
      go_wp2_with fail
      refine (change_hid hc HP _).mono ?_
      rintro e _ ⟨rfl, rfl⟩
      by_cases hk0 : k = 0
      · subst hk0
        go_wp2_with fail
        refine (maj_hid hc ha HM1 _).mono ?_
        rintro e _ ⟨rfl, rfl⟩
        go_wp2
        go_ret
        exact ⟨rfl, hbz⟩
      · have e1 : ((k : Int) != 0) = true := by simp; omega
        go_wp2
        go_ret
        exact ⟨rfl, hbz⟩
    | true =>
      go_wp2_with fail
      refine (maj_hid hc hb HM2 _).mono ?_
      rintro e _ ⟨rfl, rfl⟩
      have hy0 : M2 = false ∨ M2 = true ∧ ((y : Int) == 0) = false := by
        cases M2 with
        | false => exact .inl rfl
        | true =>
          have h := A1.out (by simp) (by simp)
          exact .inr ⟨rfl, by simp; omega⟩
      rcases hy0 with rfl | ⟨rfl, hy0⟩
      all_goals
        go_wp2_with fail
        refine (change_hid hc HP _).mono ?_
        rintro e _ ⟨rfl, rfl⟩
        by_cases hk0 : k = 0
        · have hz0 := A2.out hk0 (by simp)
          subst hk0
          go_wp2_with fail
          refine (maj_hid hc ha HM1 _).mono ?_
          rintro e _ ⟨rfl, rfl⟩
          go_wp2_with fail
          refine (maj_hid hdl hb HM3 _).mono ?_
          rintro e _ ⟨rfl, rfl⟩
          cases M3 with
          | false =>
            clear hz0
            go_wp2
            go_ret
            exact ⟨rfl, hbz⟩
          | true =>
            have hz1 : ((z : Int) != 0) = true := by have := hz0 (by simp); simp; omega
            clear hz0
            go_wp2
            go_ret
            exact ⟨rfl, hbz⟩
        · have e1 : ((k : Int) != 0) = true := by simp; omega
          go_wp2
          go_ret
          exact ⟨rfl, hbz⟩
theorem meets_walk (zs : List Int) (add : Bool) (n : Int) (w : World) (hn : zs.length = 3) (hw : ∀ z ∈ zs, (Lit.int .u64 z).wf = true) (_hi : (Lit.int .i64 n).wf = true) : Calls Try.prog 6 #[.agg (zs.map (Value.int .u64)).toArray, .bool add, .int .i64 n] w fun e w' => e = .returned (.bool true) ∧ Below w.heap.size w w' := by
  obtain ⟨l, h1, h2, h3⟩ := LawB.u64s_nat hw
  rw [h1]
  rw [hn] at h2
  match l, h2, h3 with
  | [c, a, b], _, h3 => exact meets_any c a b add n w (h3 c (by simp)) (h3 a (by simp)) (h3 b (by simp))
end Go.Proofs.Ytopoecdcckhpiaa.LawE
