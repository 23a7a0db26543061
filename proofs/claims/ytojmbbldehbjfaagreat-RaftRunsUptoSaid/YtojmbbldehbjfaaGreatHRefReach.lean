/- What the document's Reached answers, walked. -/
import Derived.Test.YtojmbbldehbjfaaGreatHReach
namespace Go.Proofs.YtojmbbldehbjfaaGreat.RefReach
open Go.RowKit Go.Proofs.YtojmbbldehbjfaaGreat.Kit Go.Proofs.YtojmbbldehbjfaaGreat.Blocks Go.Proofs.YtojmbbldehbjfaaGreat.Quorum Go.Proofs.YtojmbbldehbjfaaGreat.QuoWalkA Go.Proofs.YtojmbbldehbjfaaGreat.QuoWalkB Go.Proofs.YtojmbbldehbjfaaGreat.QuoWalkC Go.Proofs.YtojmbbldehbjfaaGreat.QuoWalkD Go.Proofs.YtojmbbldehbjfaaGreat.Told Go.Proofs.YtojmbbldehbjfaaGreat.Sorting Go.Proofs.YtojmbbldehbjfaaGreat.Reach

/-- Who of the first ones is a member and has so much. -/
def fits (c : Nat) (l : List Nat) (v i : Nat) : Bool := c.testBit i && decide (v ≤ told l i)
/-- The best of the first k; n: how many are told. -/
def best (c : Nat) (l : List Nat) (n : Nat) : Nat → Nat
  | 0 => 0
  | k + 1 => if c.testBit k = true ∧ need c ≤ upto (fits c l (told l k)) n ∧ best c l n k < told l k then told l k else best c l n k
theorem best_le (c : Nat) (l : List Nat) (n v : Nat) : ∀ k, (∀ i, i < k → c.testBit i = true → need c ≤ upto (fits c l (told l i)) n → told l i ≤ v) → best c l n k ≤ v
  | 0, _ => Nat.zero_le _
  | k + 1, h => by
    have ih := best_le c l n v k fun i hi => h i (by omega)
    simp only [best]
    split
    · rename_i e
      exact h k (by omega) e.1 e.2.1
    · exact ih
theorem best_ge (c : Nat) (l : List Nat) (n : Nat) : ∀ k i, i < k → c.testBit i = true → need c ≤ upto (fits c l (told l i)) n → told l i ≤ best c l n k
  | k + 1, i, hi, h1, h2 => by
    simp only [best]
    rcases Nat.lt_or_ge i k with e | e
    · have ih := best_ge c l n k i e h1 h2
      split
      · omega
      · exact ih
    · obtain rfl : i = k := by omega
      split
      · exact Nat.le_refl _
      · rename_i e'
        have : ¬ best c l n i < told l i := fun e => e' ⟨h1, h2, e⟩
        omega
theorem upto_seven (p : Nat → Bool) : upto p 7 = num p := rfl
/-- Beyond those that are told nobody has more than 0. -/
theorem upto_told (c : Nat) (l : List Nat) (v : Nat) (hv : 0 < v) : upto (fits c l v) (min l.length 7) = cnt c l v := by
  have h : ∀ d k, l.length ≤ k → upto (fits c l v) (k + d) = upto (fits c l v) k := by
    intro d
    induction d with
    | zero => intro k _; rfl
    | succ d ih =>
      intro k hk
      rw [← Nat.add_assoc, upto_succ, ih k hk]
      have : fits c l v (k + d) = false := by
        unfold fits
        rw [told_over (show l.length ≤ k + d by omega)]
        simp
        omega
      simp [this]
  show _ = upto (fits c l v) 7
  by_cases h7 : l.length ≤ 7
  · rw [Nat.min_eq_left h7]
    have := h (7 - l.length) l.length (Nat.le_refl _)
    rw [Nat.add_sub_cancel' h7] at this
    exact this.symm
  · rw [Nat.min_eq_right (by omega)]
theorem best_isR (c : Nat) (l : List Nat) : IsR c l (best c l (min l.length 7) (min l.length 7)) := by
  by_cases hs : size c = 0
  · refine .inl ⟨hs, Nat.le_zero.1 (best_le _ _ _ _ _ fun i hi h _ => ?_)⟩
    have : 0 < size c := by rw [size_num]; exact num_of (by omega) h
    omega
  · have hpos : 0 < size c := by omega
    have hbig : ∀ v, need c ≤ cnt c l v → v ≤ best c l (min l.length 7) (min l.length 7) := by
      intro v hv
      rcases Nat.eq_zero_or_pos v with e | e
      · omega
      · -- the least of those that have v or more
        -- some member that has v or more, and of which a majority has as much
        suffices h : ∃ i, i < 7 ∧ fits c l v i = true ∧ need c ≤ cnt c l (told l i) by
          obtain ⟨i, hi, hf, hn⟩ := h
          have hf' := hf
          simp only [fits, Bool.and_eq_true, decide_eq_true_eq] at hf'
          have hil : i < l.length := by
            rcases Nat.lt_or_ge i l.length with h | h
            · exact h
            · have := told_over h; omega
          have := best_ge c l (min l.length 7) (min l.length 7) i (by omega) hf'.1 (by rw [upto_told _ _ _ (by omega)]; exact hn)
          omega
        -- the least one of them
        have hex : ∃ i, i < 7 ∧ fits c l v i = true := num_pos (p := fits c l v) (by have := need_pos c; unfold cnt at hv; show 0 < num fun i => c.testBit i && decide (v ≤ told l i); omega)
        have hmin : ∃ i, i < 7 ∧ fits c l v i = true ∧ ∀ j, j < 7 → fits c l v j = true → told l i ≤ told l j := by
          have : ∀ m, (∃ i, i < 7 ∧ fits c l v i = true ∧ told l i ≤ m) → ∃ i, i < 7 ∧ fits c l v i = true ∧ ∀ j, j < 7 → fits c l v j = true → told l i ≤ told l j := by
            intro m
            induction m with
            | zero => rintro ⟨i, h1, h2, h3⟩; exact ⟨i, h1, h2, fun j _ _ => by omega⟩
            | succ m ih =>
              rintro ⟨i, h1, h2, h3⟩
              by_cases h : ∃ j, j < 7 ∧ fits c l v j = true ∧ told l j ≤ m
              · exact ih h
              · refine ⟨i, h1, h2, fun j hj hf => ?_⟩
                have : ¬ told l j ≤ m := fun e => h ⟨j, hj, hf, e⟩
                omega
          obtain ⟨i, h1, h2⟩ := hex
          exact this _ ⟨i, h1, h2, Nat.le_refl _⟩
        obtain ⟨i, h1, h2, h3⟩ := hmin
        refine ⟨i, h1, h2, Nat.le_trans hv (num_le fun j hj hf => ?_)⟩
        have := h3 j hj hf
        simp only [Bool.and_eq_true, decide_eq_true_eq] at hf ⊢
        exact ⟨hf.1, this⟩
    refine .inr ⟨hpos, ?_, ?_⟩
    · -- the best one is reached
      have : ∀ k, need c ≤ cnt c l 0 → need c ≤ cnt c l (best c l (min l.length 7) k) := by
        intro k h0
        induction k with
        | zero => exact h0
        | succ k ih =>
          simp only [best]
          split
          · rename_i e
            rw [upto_told _ _ _ (by omega)] at e
            exact e.2.1
          · exact ih
      refine this _ ?_
      have e : cnt c l 0 = size c := by
        rw [size_num]
        exact num_congr fun i _ => by simp
      rw [e]
      exact need_size hpos
    · rcases Nat.lt_or_ge (cnt c l (best c l (min l.length 7) (min l.length 7) + 1)) (need c) with h | h
      · exact h
      · have := hbig _ h
        omega

abbrev QuietH (c i : Nat) (b : Bool) (w : World) (q : Nat) : Prop :=
  Calls Tryz.prog 73 #[.int .u64 (c : Int), .int .i64 (i : Int)] (w.drewN q) fun e w' => e = .returned (.bool b) ∧ ∃ m, w' = w.drewN m
theorem quietH (c i : Nat) (b : Bool) (hc : c < 2 ^ 64) (hi : i < 7) (h : c.testBit i = b) (w : World) (q : Nat) : QuietH c i b w q := by
  have := rhas_any c hc (i : Int) (w.drewN q)
  rw [has_nat c hi, h] at this
  exact Calls.quiet_of_same (this.mono fun _ _ h => ⟨h.1, h.2.symm⟩)

set_option maxHeartbeats 4000000 in
set_option maxRecDepth 100000 in
theorem rreached_any (c : Nat) (hc : c < 2 ^ 64) (A : Option Addr) (n cap : Nat) (l : List Nat) (w : World) (hr : Reads w w.heap.size 1 A n (unums l)) :
    Calls Tryz.prog 125 #[.int .u64 (c : Int), .slice A n cap] w (ReachedR c l w) := by
  have hl : l.length = n := by have := hr.len; rwa [unums_length] at this
  have HR := Lib.hid hr
  obtain ⟨N, hN⟩ : ∃ N, min l.length 7 = N := ⟨_, rfl⟩
  have hB := best_isR c l
  rw [hN] at hB
  rw [hl] at hN
  have HB := Lib.hid hB
  have hNn : N ≤ n ∧ N ≤ 7 ∧ (N = n ∨ N = 7) := by omega
  clear hr hl hN hB
  go_enter Tryz.func125, Tryz.ntmps125
  go_wp2
  go_loopw [5, 6] (fun b i wr => ∃ k : Nat, k ≤ N ∧ i = .int .i64 (k : Int) ∧ b = .int .u64 (best c l N k : Nat) ∧ Below w.heap.size w wr) (fun _ i _ => N - (intOf i).toNat)
  case atStart => exact ⟨0, by omega, rfl, rfl, Below.refl _ _⟩
  case round =>
    obtain ⟨k, hk, rfl, rfl, hbel⟩ := hrel
    by_cases hlt : k < N
    · have hkn : (k : Int) < (n : Int) := by omega
      have hk7 : (k : Int) < 7 := by omega
      have hk0 : (0 : Int) ≤ (k : Int) := by omega
      obtain ⟨x, hx⟩ : ∃ x, told l k = x := ⟨_, rfl⟩
      obtain ⟨v, hv⟩ : ∃ v, best c l N k = v := ⟨_, rfl⟩
      have hbs : best c l N (k + 1) = if c.testBit k = true ∧ need c ≤ upto (fits c l x) N ∧ v < x then x else v := by
        simp only [best]
        rw [hx, hv]
      have HBS := Lib.hid hbs
      have HX := Lib.hid hx
      rw [hv]
      clear hv hbs hx
      go_wp2
      go_loopw [7, 8] (fun m i wq => ∃ q : Nat, q ≤ N ∧ i = .int .i64 (q : Int) ∧ m = .int .i64 (upto (fits c l x) q : Nat) ∧ Below w.heap.size w wq) (fun _ i _ => N - (intOf i).toNat)
      case atStart => exact ⟨0, by omega, rfl, rfl, hbel⟩
      case round =>
        obtain ⟨q, hq, rfl, rfl, hbq⟩ := hrel
        by_cases hqt : q < N
        · have hqn : (q : Int) < (n : Int) := by omega
          have hq7 : (q : Int) < 7 := by omega
          have hq0 : (0 : Int) ≤ (q : Int) := by omega
          have hu := upto_succ (fits c l x) q
          have hul := upto_le (fits c l x) q
          obtain ⟨b1, o1, rfl, hbl1, hc1⟩ := Reads.unum (HR.out.below hbq) (show q < n by omega)
          obtain ⟨b2, o2, hA2, hbl2, hc2⟩ := Reads.unum (HR.out.below hbq) (show k < n by omega)
          injection hA2 with hA2
          injection hA2 with e1 e2
          subst e1 e2
          rw [HX.out] at hc2
          obtain ⟨y, hy⟩ : ∃ y, told l q = y := ⟨_, rfl⟩
          rw [hy] at hc1
          have hf : fits c l x q = (c.testBit q && decide (x ≤ y)) := by unfold fits; rw [hy]
          rw [hf] at hu
          obtain ⟨m, hm⟩ : ∃ m, upto (fits c l x) q = m := ⟨_, rfl⟩
          rw [hm] at hu hul ⊢
          have hw1 : IntKind.i64.wrap ((m : Int) + 1) = (m : Int) + 1 := IntWalk.i64_in _ (by omega)
          clear hm hf hy
          cases hb : c.testBit q with
          | true =>
            have C0 : Hid (∀ z, QuietH c q true wr z) := fun z => quietH c q true hc (by omega) hb wr z
            by_cases hxy : x ≤ y
            · have HU : Hid (upto (fits c l x) (q + 1) = m + 1) := by show _ = _; rw [hu, hb]; simp [hxy]
              clear hu hb
              go_wp2
              go_quiet ((go_at_call 73; with_reducible exact C0.out _))
              go_wp2
              go_roundw
              case rel => exact ⟨q + 1, by omega, by go_num, by rw [HU.out]; go_num, hbq.trans (below_drewN _ _ _)⟩
              case measure => simp [intOf]; omega
            · have HU : Hid (upto (fits c l x) (q + 1) = m) := by show _ = _; rw [hu, hb]; simp [hxy]
              clear hu hb
              go_wp2
              go_quiet ((go_at_call 73; with_reducible exact C0.out _))
              go_wp2
              go_roundw
              case rel => exact ⟨q + 1, by omega, by go_num, by rw [HU.out], hbq.trans (below_drewN _ _ _)⟩
              case measure => simp [intOf]; omega
          | false =>
            have C0 : Hid (∀ z, QuietH c q false wr z) := fun z => quietH c q false hc (by omega) hb wr z
            have HU : Hid (upto (fits c l x) (q + 1) = m) := by show _ = _; rw [hu, hb]; simp
            clear hu hb
            go_wp2
            go_quiet ((go_at_call 73; with_reducible exact C0.out _))
            go_wp2
            go_roundw
            case rel => exact ⟨q + 1, by omega, by go_num, by rw [HU.out], hbq.trans (below_drewN _ _ _)⟩
            case measure => simp [intOf]; omega
        · obtain rfl : q = N := by omega
          obtain ⟨m, hm⟩ : ∃ m, upto (fits c l x) q = m := ⟨_, rfl⟩
          rw [hm]
          have HBS' : Hid (best c l q (k + 1) = if c.testBit k = true ∧ need c ≤ m ∧ v < x then x else v) := by
            have := HBS.out
            rw [hm] at this
            exact this
          clear hm HBS
          have h1 := fun w => rhas_any c hc (k : Int) w
          simp only [has_nat c (show k < 7 by omega)] at h1
          have hn := rneed_any c hc
          obtain ⟨M, hM⟩ : ∃ M, need c = M := ⟨_, rfl⟩
          rw [hM] at hn HBS'
          clear hM
          -- what ends the inner loop
          rcases (show ((q : Int) < (n : Int)) ∧ ¬ (q : Int) < 7 ∨ ¬ (q : Int) < (n : Int) by omega) with ⟨hqa, hqb⟩ | hqa
          all_goals
            cases hb : c.testBit k with
            | false =>
              have HU : Hid (best c l q (k + 1) = v) := by show _ = _; rw [HBS'.out, hb]; simp
              rw [hb] at h1
              clear hb HBS'
              go_wp2_with fail
              refine (h1 _).mono ?_
              rintro e w1 ⟨rfl, rfl⟩
              go_wp2
              go_roundw
              case rel => exact ⟨k + 1, by omega, by go_num, by rw [HU.out], hbq⟩
              case measure => simp [intOf]; omega
            | true =>
              rw [hb] at h1
              by_cases hMm : M ≤ m
              · by_cases hvx : v < x
                · have HU : Hid (best c l q (k + 1) = x) := by show _ = _; rw [HBS'.out, hb]; simp [hMm, hvx]
                  clear hb HBS'
                  go_wp2_with fail
                  refine (h1 _).mono ?_
                  rintro e w1 ⟨rfl, rfl⟩
                  go_wp2_with fail
                  refine (hn _).mono ?_
                  rintro e w2 ⟨rfl, hb2⟩
                  have hb3 : Below w.heap.size w w2 := hbq.trans (hb2.mono hbq.size)
                  obtain ⟨b1, o1, rfl, hbl1, hc1⟩ := Reads.unum (HR.out.below hb3) (show k < n by omega)
                  rw [HX.out] at hc1
                  clear hb2
                  go_wp2
                  go_roundw
                  case rel => exact ⟨k + 1, by omega, by go_num, by rw [HU.out], hb3⟩
                  case measure => simp [intOf]; omega
                · have HU : Hid (best c l q (k + 1) = v) := by show _ = _; rw [HBS'.out, hb]; simp [hvx]
                  clear hb HBS'
                  go_wp2_with fail
                  refine (h1 _).mono ?_
                  rintro e w1 ⟨rfl, rfl⟩
                  go_wp2_with fail
                  refine (hn _).mono ?_
                  rintro e w2 ⟨rfl, hb2⟩
                  have hb3 : Below w.heap.size w w2 := hbq.trans (hb2.mono hbq.size)
                  obtain ⟨b1, o1, rfl, hbl1, hc1⟩ := Reads.unum (HR.out.below hb3) (show k < n by omega)
                  rw [HX.out] at hc1
                  clear hb2
                  go_wp2
                  go_roundw
                  case rel => exact ⟨k + 1, by omega, by go_num, by rw [HU.out], hb3⟩
                  case measure => simp [intOf]; omega
              · have HU : Hid (best c l q (k + 1) = v) := by show _ = _; rw [HBS'.out, hb]; simp [hMm]
                clear hb HBS'
                go_wp2_with fail
                refine (h1 _).mono ?_
                rintro e w1 ⟨rfl, rfl⟩
                go_wp2_with fail
                refine (hn _).mono ?_
                rintro e w2 ⟨rfl, hb2⟩
                have hb3 : Below w.heap.size w w2 := hbq.trans (hb2.mono hbq.size)
                clear hb2
                go_wp2
                go_roundw
                case rel => exact ⟨k + 1, by omega, by go_num, by rw [HU.out], hb3⟩
                case measure => simp [intOf]; omega
    · obtain rfl : k = N := by omega
      rcases (show ((k : Int) < (n : Int)) ∧ ¬ (k : Int) < 7 ∨ ¬ (k : Int) < (n : Int) by omega) with ⟨hqa, hqb⟩ | hqa
      all_goals
        go_wp2
        go_ret
        exact ⟨_, rfl, HB.out, hbel⟩
end Go.Proofs.YtojmbbldehbjfaaGreat.RefReach
