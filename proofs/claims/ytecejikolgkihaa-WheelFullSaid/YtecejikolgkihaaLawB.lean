/- The walk of the statement that as many timers as may be are set, one more isn't. -/
import Derived.Test.YtecejikolgkihaaBegun
import Derived.Lib.MinMax
set_option linter.unusedVariables false
namespace Go.Proofs.Ytecejikolgkihaa.LawB
open Go.RowKit Go.Proofs.Ytecejikolgkihaa.Kit Go.Proofs.Ytecejikolgkihaa.Blocks Go.Proofs.Ytecejikolgkihaa.Whl Go.Proofs.Ytecejikolgkihaa.WalkD Go.Proofs.Ytecejikolgkihaa.WalkE Go.Proofs.Ytecejikolgkihaa.WalkF Go.Proofs.Ytecejikolgkihaa.WalkG Go.Proofs.Ytecejikolgkihaa.WalkI Go.Proofs.Ytecejikolgkihaa.Sol Go.Proofs.Ytecejikolgkihaa.Begun

/-- The first k timers. -/
def full (k : Nat) : List Tm := (List.range k).map fun (i : Nat) => ((i : Int), 5 + i)
theorem full_length (k : Nat) : (full k).length = k := by simp [full]
theorem full_succ (k : Nat) : full (k + 1) = full k ++ [((k : Int), 5 + k)] := by simp [full, List.range_succ]
theorem mem_full {k : Nat} {t : Tm} (h : t ∈ full k) : ∃ i, i < k ∧ t.1 = (i : Int) ∧ t.2 = 5 + i := by
  obtain ⟨i, hi, rfl⟩ := List.mem_map.1 h
  exact ⟨i, List.mem_range.1 hi, rfl, rfl⟩
theorem isIn_full (k i : Nat) : isIn (full k) (i : Int) = decide (i < k) := by
  by_cases h : i < k
  · rw [decide_eq_true h]
    refine List.any_eq_true.2 ⟨((i : Int), 5 + i), List.mem_map.2 ⟨i, List.mem_range.2 h, rfl⟩, by simp⟩
  · rw [decide_eq_false h]
    refine List.any_eq_false.2 fun t ht e => ?_
    obtain ⟨j, hj, e1, _⟩ := mem_full ht
    rw [e1] at e
    have := eq_of_beq e
    omega
theorem set_one {k : Nat} (hk : k < 64) : setc 0 (full k) (k : Int) (5 + (k : Int)) = 0 ∧ setd 0 (full k) (k : Int) (5 + (k : Int)) = full (k + 1) := by
  have h1 : setc 0 (full k) (k : Int) (5 + (k : Int)) = 0 := by
    unfold setc
    rw [if_neg (by omega), if_neg (by rw [full_length]; omega)]
  refine ⟨h1, ?_⟩
  unfold setd
  rw [if_pos h1, del_none (by rw [isIn_full]; simp), full_succ, show (5 + (k : Int)).toNat = 5 + k by omega, Nat.zero_add]
theorem set_more {k : Nat} (h0 : 64 ≤ k) (h1 : k < 80) : setc 0 (full 64) (k : Int) (5 + (k : Int)) = 11 ∧ setd 0 (full 64) (k : Int) (5 + (k : Int)) = full 64 := by
  have h1 : setc 0 (full 64) (k : Int) (5 + (k : Int)) = 11 := by
    unfold setc
    rw [if_neg (by omega), if_pos ⟨by rw [isIn_full]; simp; omega, by rw [full_length]; exact Nat.le_refl _⟩]
  refine ⟨h1, ?_⟩
  unfold setd
  rw [if_neg (by rw [h1]; decide)]
theorem due_full (m : Nat) : dueD 0 (full m) = [] := by
  unfold dueD
  rw [List.filter_eq_nil_iff.2 fun t ht e => ?_]
  · rfl
  · obtain ⟨i, _, _, e2⟩ := mem_full ht
    have := eq_of_beq e
    omega
theorem due_anew (m : Nat) (id : Int) : dueD 0 (del (full m) id ++ [(id, 1)]) = [id] := by
  unfold dueD
  rw [List.filter_append, List.filter_eq_nil_iff.2 fun t ht e => ?_]
  · simp
  · obtain ⟨i, _, _, e2⟩ := mem_full (mem_del.1 ht).1
    have := eq_of_beq e
    omega
theorem mod80 (n : Int) (h0 : -9223372036854775808 ≤ n) (h1 : n ≤ 9223372036854775807) : ∃ N : Nat, (wrap64 (n.tmod 80 + 80)).tmod 80 = (N : Int) ∧ N < 80 := by
  have h : 0 ≤ n.tmod 80 + 80 ∧ n.tmod 80 + 80 < 160 := by
    have a1 := Int.tmod_lt_of_pos n (show (0 : Int) < 80 by decide)
    have a2 := Int.lt_tmod_of_pos n (show (0 : Int) < 80 by decide)
    omega
  have hw : wrap64 (n.tmod 80 + 80) = n.tmod 80 + 80 := by unfold wrap64; omega
  rw [hw, Int.tmod_eq_emod_of_nonneg h.1]
  exact ⟨((n.tmod 80 + 80) % 80).toNat, by omega, by omega⟩
set_option maxRecDepth 100000 in
set_option maxHeartbeats 4000000 in
theorem full_any (n id : Int) (w : World) (h0 : -9223372036854775808 ≤ n) (h1 : n ≤ 9223372036854775807) (g0 : -9223372036854775808 ≤ id) (g1 : id ≤ 9223372036854775807) : Calls Try.prog 5 #[.int .i64 n, .int .i64 id] w fun e w' => e = .returned (.bool true) ∧ Below w.heap.size w w' := by
  go_enter Try.func5, Try.ntmps5
  go_wp2_with fail
  with_reducible refine (begun_true _).mono ?_
  rintro e w1 ⟨rfl, hb1⟩
  go_wp2_with fail
  with_reducible refine (new_S (B := w.heap.size) _ hb1.size).mono ?_
  rintro e w2 ⟨p, rfl, hw2, hb2⟩
  obtain ⟨N, hN, hN80⟩ := mod80 n h0 h1
  have HN := Lib.hid hN
  obtain ⟨M, hM, hM80⟩ := mod80 id g0 g1
  have HM := Lib.hid hM
  have HB := Lib.hid (hb1.trans hb2)
  clear hN hM hb1 hb2
  go_wp2
  simp only [HN.out]
  go_loopw [19] (fun i wr => ∃ k : Nat, k ≤ N ∧ i = .int .i64 (k : Int) ∧ Hid (Ws w.heap.size wr p 0 (full (min k 64))) ∧ Below w.heap.size w wr) (fun i _ => N - (intOf i).toNat)
  case atStart => exact ⟨0, by omega, rfl, by have e : full (min 0 64) = [] := rfl; rw [e]; exact hw2, HB.out⟩
  case round =>
    obtain ⟨k, hk, rfl, hws, hbw⟩ := hrel
    by_cases hlt : k < N
    · have hkI : (k : Int) < (N : Int) := by omega
      by_cases h64 : k < 64
      · obtain ⟨e1, e2⟩ := set_one h64
        have hs : Ws w.heap.size wr p 0 (full k) := by have := hws.out; rwa [Nat.min_eq_left (by omega)] at this
        have hset := set_lit hs (by decide) e1 e2
        have HS := Lib.hid hset
        have h64I : (k : Int) < 64 := by omega
        clear hset hs e1 e2
        go_wp2_with fail
        with_reducible refine HS.out.mono ?_
        rintro e w3 ⟨rfl, hw3, hb3⟩
        have HW3 := Lib.hid hw3
        clear hw3
        go_wp2
        exact ⟨⟨k + 1, by omega, by simp, by show Ws _ _ _ _ _; rw [Nat.min_eq_left (by omega)]; exact HW3.out, hbw.trans hb3⟩, by simp [intOf]; omega⟩
      · obtain ⟨e1, e2⟩ := set_more (k := k) (by omega) (by omega)
        have hs : Ws w.heap.size wr p 0 (full 64) := by have := hws.out; rwa [Nat.min_eq_right (by omega)] at this
        have hset := set_lit hs (by decide) e1 e2
        have HS := Lib.hid hset
        have h64I : ¬ (k : Int) < 64 := by omega
        clear hset hs e1 e2
        go_wp2_with fail
        with_reducible refine HS.out.mono ?_
        rintro e w3 ⟨rfl, hw3, hb3⟩
        have HW3 := Lib.hid hw3
        clear hw3
        go_wp2
        exact ⟨⟨k + 1, by omega, by simp, by show Ws _ _ _ _ _; rw [Nat.min_eq_right (by omega)]; exact HW3.out, hbw.trans hb3⟩, by simp [intOf]; omega⟩
    · obtain rfl : k = N := by omega
      obtain ⟨m, hm⟩ : ∃ m, min k 64 = m := ⟨_, rfl⟩
      rw [hm] at hws
      have hmin : ∀ w ts t, (Builtin.min_ ts t #[.int .i64 (k : Int), .int .i64 64]).run Try.prog w = .ok (.int .i64 (m : Int)) w := fun w ts t => by
        rw [Lib.run_min_ints, ← hm]
        congr 2
        omega
      have HMm := Lib.hid hm
      clear hm
      by_cases hc : 64 ≤ m ∧ ¬ M < m
      · have e1 : setc 0 (full m) (M : Int) 1 = 11 := by
          unfold setc
          rw [if_neg (by omega), if_pos ⟨by rw [isIn_full]; simp; omega, by rw [full_length]; exact hc.1⟩]
        have e2 : setd 0 (full m) (M : Int) 1 = full m := by
          unfold setd
          rw [if_neg (by rw [e1]; decide)]
        have HS := Lib.hid (set_lit hws.out (by decide) e1 e2)
        have hMm : ¬ (M : Int) < (m : Int) := by omega
        have hkN : ¬ (k : Int) < 64 := by have := HMm.out; omega
        clear e1 e2
        go_wp2_with fail
        simp only [HM.out]
        with_reducible refine HS.out.mono ?_
        rintro e w3 ⟨rfl, hw3, hb3⟩
        have HT := Lib.hid (tick_none hw3 (by decide) (due_full m) rfl)
        clear hw3
        go_wp2_with fail
        with_reducible refine HT.out.mono ?_
        rintro e w4 ⟨⟨A, c, rfl⟩, hw4, hb4⟩
        clear hw4
        go_wp2
        go_ret
        exact ⟨rfl, (hbw.trans hb3).trans hb4⟩
      · have e1 : setc 0 (full m) (M : Int) 1 = 0 := by
          unfold setc
          rw [if_neg (by omega), if_neg (by rw [isIn_full, full_length]; simp; omega)]
        have e2 : setd 0 (full m) (M : Int) 1 = del (full m) (M : Int) ++ [((M : Int), 1)] := by
          unfold setd
          rw [if_pos e1]
          rfl
        have HS := Lib.hid (set_lit hws.out (by decide) e1 e2)
        clear e1 e2
        go_wp2_with fail
        simp only [HM.out]
        with_reducible refine HS.out.mono ?_
        rintro e w3 ⟨rfl, hw3, hb3⟩
        have HT := Lib.hid (tick_one hw3 (by decide) (due_anew m _) rfl)
        clear hw3
        by_cases hMm : M < m
        · have hMmI : (M : Int) < (m : Int) := by omega
          go_wp2_with fail
          with_reducible refine HT.out.mono ?_
          rintro e w4 ⟨⟨b, o, c, rfl, hc4, hl4⟩, hw4, hb4⟩
          clear hw4
          go_wp2
          go_ret
          exact ⟨rfl, (hbw.trans hb3).trans hb4⟩
        · have hMmI : ¬ (M : Int) < (m : Int) := by omega
          have hkN : (k : Int) < 64 := by have := HMm.out; omega
          go_wp2_with fail
          with_reducible refine HT.out.mono ?_
          rintro e w4 ⟨⟨b, o, c, rfl, hc4, hl4⟩, hw4, hb4⟩
          clear hw4
          go_wp2
          go_ret
          exact ⟨rfl, (hbw.trans hb3).trans hb4⟩
theorem full_walk (n id : Int) (w : World) (h : (Lit.int .i64 n).wf = true) (h' : (Lit.int .i64 id).wf = true) : Calls Try.prog 5 #[.int .i64 n, .int .i64 id] w fun e w' => e = .returned (.bool true) ∧ Below w.heap.size w w' :=
  full_any n id w (i64_wf h).1 (i64_wf h).2 (i64_wf h').1 (i64_wf h').2
end Go.Proofs.Ytecejikolgkihaa.LawB
