/- The walk of the statement that a timer is due just once, when its delay has gone by. -/
import Derived.Test.YtecejikolgkihaaBegun
import Derived.Lib.MinMax
set_option linter.unusedVariables false
namespace Go.Proofs.Ytecejikolgkihaa.LawC
open Go.RowKit Go.Proofs.Ytecejikolgkihaa.Kit Go.Proofs.Ytecejikolgkihaa.Blocks Go.Proofs.Ytecejikolgkihaa.Whl Go.Proofs.Ytecejikolgkihaa.WalkD Go.Proofs.Ytecejikolgkihaa.WalkE Go.Proofs.Ytecejikolgkihaa.WalkF Go.Proofs.Ytecejikolgkihaa.WalkG Go.Proofs.Ytecejikolgkihaa.WalkI Go.Proofs.Ytecejikolgkihaa.Sol Go.Proofs.Ytecejikolgkihaa.Begun

theorem modk (c : Nat) (n : Int) (hc : 0 < c) (hc' : c ≤ 1000000) : ∃ N : Nat, (wrap64 (n.tmod (c : Int) + (c : Int))).tmod (c : Int) = (N : Int) ∧ N < c := by
  have a1 := Int.tmod_lt_of_pos n (show (0 : Int) < (c : Int) by omega)
  have a2 := Int.lt_tmod_of_pos n (show (0 : Int) < (c : Int) by omega)
  have hw : wrap64 (n.tmod (c : Int) + (c : Int)) = n.tmod (c : Int) + (c : Int) := by unfold wrap64; omega
  rw [hw, Int.tmod_eq_emod_of_nonneg (by omega)]
  have b1 := Int.emod_nonneg (n.tmod (c : Int) + (c : Int)) (show (c : Int) ≠ 0 by omega)
  have b2 := Int.emod_lt_of_pos (n.tmod (c : Int) + (c : Int)) (show (0 : Int) < (c : Int) by omega)
  exact ⟨((n.tmod (c : Int) + (c : Int)) % (c : Int)).toNat, by omega, by omega⟩
/-- What is left behind i units. -/
def st (N L i : Nat) : List Tm := if i < L then [(7, N + L)] else []
theorem st_next (N L i : Nat) : next (N + i) (st N L i) = L - i := by
  unfold next st
  split
  · rw [if_neg (by simp)]
    simp only [soon]
    omega
  · rw [if_pos rfl]; omega
theorem st_none {N L i : Nat} (h : i + 1 ≠ L) : dueD (N + i) (st N L i) = [] ∧ left (N + i) (st N L i) = st N L (i + 1) := by
  unfold dueD left st
  by_cases h1 : i < L
  · have e : (N + L == N + i + 1) = false := by simp; omega
    have e' : (N + L != N + i + 1) = true := by simp; omega
    rw [if_pos h1, if_pos (by omega)]
    simp [e, e']
  · rw [if_neg h1, if_neg (by omega)]
    simp
theorem st_due {N L i : Nat} (h : i + 1 = L) : dueD (N + i) (st N L i) = [7] ∧ left (N + i) (st N L i) = st N L (i + 1) := by
  unfold dueD left st
  have e : (N + L == N + i + 1) = true := by simp; omega
  have e' : (N + L != N + i + 1) = false := by simp; omega
  rw [if_pos (by omega), if_neg (by omega)]
  simp [e, e']
set_option maxRecDepth 100000 in
set_option maxHeartbeats 4000000 in
theorem once_any (n d : Int) (w : World) : Calls Try.prog 4 #[.int .i64 n, .int .i64 d] w fun e w' => e = .returned (.bool true) ∧ Below w.heap.size w w' := by
  obtain ⟨N, hN, hN9⟩ := modk 9000 n (by decide) (by decide)
  obtain ⟨M, hM, hM9⟩ := modk 9000 d (by decide) (by decide)
  have HN : Hid ((wrap64 (n.tmod 9000 + 9000)).tmod 9000 = (N : Int)) := hN
  have HM : Hid ((wrap64 (d.tmod 9000 + 9000)).tmod 9000 = (M : Int)) := hM
  clear hN hM
  go_enter Try.func4, Try.ntmps4
  go_wp2_with fail
  with_reducible refine (begun_true _).mono ?_
  rintro e w1 ⟨rfl, hb1⟩
  go_wp2_with fail
  with_reducible refine (new_S (B := w.heap.size) _ hb1.size).mono ?_
  rintro e w2 ⟨p, rfl, hw2, hb2⟩
  have HB := Lib.hid (hb1.trans hb2)
  have HW2 := Lib.hid hw2
  clear hb1 hb2 hw2
  obtain ⟨L, hL⟩ : ∃ L, M + 1 = L := ⟨_, rfl⟩
  have HL : Hid (wrap64 ((M : Int) + 1) = (L : Int)) := by show _ = _; unfold wrap64; omega
  have hL0 : 0 < L := by omega
  have hL9 : L ≤ 9000 := by omega
  clear hL
  go_wp2
  simp only [HN.out, HM.out, HL.out]
  go_loopw [21] (fun i wr => ∃ k : Nat, k ≤ N ∧ i = .int .i64 (k : Int) ∧ Hid (Ws w.heap.size wr p k []) ∧ Below w.heap.size w wr) (fun i _ => N - (intOf i).toNat)
  case atStart => exact ⟨0, by omega, rfl, HW2.out, HB.out⟩
  case round =>
    obtain ⟨k, hk, rfl, hws, hbw⟩ := hrel
    by_cases hlt : k < N
    · have hkI : (k : Int) < (N : Int) := by omega
      have HT := Lib.hid (tick_none hws.out (by omega) rfl rfl)
      go_wp2_with fail
      with_reducible refine HT.out.mono ?_
      rintro e w3 ⟨⟨A, c, rfl⟩, hw3, hb3⟩
      have HW3 := Lib.hid hw3
      clear hw3
      go_wp2
      exact ⟨⟨k + 1, by omega, by simp, HW3.out, hbw.trans hb3⟩, by simp [intOf]; omega⟩
    · obtain rfl : k = N := by omega
      have e1 : setc k [] 7 (L : Int) = 0 := by
        unfold setc
        rw [if_neg (by omega), if_neg (by simp)]
      have e2 : setd k [] 7 (L : Int) = st k L 0 := by
        unfold setd st
        rw [if_pos e1, if_pos hL0, Int.toNat_natCast]
        rfl
      have HS := Lib.hid (set_lit hws.out (by omega) e1 e2)
      clear e1 e2
      go_wp2_with fail
      with_reducible refine HS.out.mono ?_
      rintro e w3 ⟨rfl, hw3, hb3⟩
      have hB3 := hbw.trans hb3
      have HW3 := Lib.hid hw3
      clear hw3 hb3 hbw
      go_wp2
      go_loopw [32] (fun i wr => ∃ j : Nat, j ≤ L + 300 ∧ i = .int .i64 (j : Int) ∧ Hid (Ws w.heap.size wr p (k + j) (st k L j)) ∧ Below w.heap.size w wr) (fun i _ => L + 300 - (intOf i).toNat)
      case atStart => exact ⟨0, by omega, rfl, HW3.out, hB3⟩
      case round =>
        obtain ⟨j, hj, rfl, hws2, hbw2⟩ := hrel
        by_cases hlt2 : j < L + 300
        · have hjI : (j : Int) < (L : Int) + 300 := by omega
          obtain ⟨q, hq⟩ : ∃ q, L - j = q := ⟨_, rfl⟩
          have hdue := due_S hws2.out (by omega)
          rw [st_next, hq] at hdue
          have HD := Lib.hid hdue
          have hmax : ∀ w ts t, (Builtin.max_ ts t #[.int .i64 0, .int .i64 ((L : Int) - (j : Int))]).run Try.prog w = .ok (.int .i64 (q : Int)) w := fun w ts t => by
            rw [Lib.run_max_ints]
            congr 2
            omega
          have hcv : IntKind.u64.wrap (q : Int) = (q : Int) := IntWalk.u64_in _ (by omega)
          have hqq : ((q : Int) != (q : Int)) = false := by simp
          clear hdue hq
          by_cases hdu : j + 1 = L
          · obtain ⟨e1, e2⟩ := st_due (N := k) hdu
            have hduI : (j : Int) + 1 = (L : Int) := by omega
            have hduB : ((j : Int) + 1 == (L : Int)) = true := by simp; omega
            have E1 := Lib.hid e1
            have E2 := Lib.hid e2
            clear e1 e2 hduI
            go_wp2_with fail
            with_reducible refine HD.out.mono ?_
            rintro e w4 ⟨rfl, hw4, hb4⟩
            have HT := Lib.hid (tick_one hw4 (by omega) E1.out E2.out)
            clear hw4
            go_wp2_with fail
            with_reducible refine HT.out.mono ?_
            rintro e w5 ⟨⟨b, o, c, rfl, hc5, hl5⟩, hw5, hb5⟩
            have HW5 := Lib.hid hw5
            clear hw5
            go_wp2
            exact ⟨⟨j + 1, by omega, by simp, HW5.out, (hbw2.trans hb4).trans hb5⟩, by simp [intOf]; omega⟩
          · obtain ⟨e1, e2⟩ := st_none (N := k) hdu
            have hduB : ((j : Int) + 1 == (L : Int)) = false := by simp; omega
            have E1 := Lib.hid e1
            have E2 := Lib.hid e2
            clear e1 e2
            go_wp2_with fail
            with_reducible refine HD.out.mono ?_
            rintro e w4 ⟨rfl, hw4, hb4⟩
            have HT := Lib.hid (tick_none hw4 (by omega) E1.out E2.out)
            clear hw4
            go_wp2_with fail
            with_reducible refine HT.out.mono ?_
            rintro e w5 ⟨⟨A, c, rfl⟩, hw5, hb5⟩
            have HW5 := Lib.hid hw5
            clear hw5
            go_wp2
            exact ⟨⟨j + 1, by omega, by simp, HW5.out, (hbw2.trans hb4).trans hb5⟩, by simp [intOf]; omega⟩
        · obtain rfl : j = L + 300 := by omega
          have e1 : st k L (L + 300) = [] := by unfold st; rw [if_neg (by omega)]
          have hl := len_S hws2.out
          rw [e1] at hl
          have HLn := Lib.hid hl
          clear hl e1
          go_wp2_with fail
          with_reducible refine HLn.out.mono ?_
          rintro e w4 ⟨rfl, hw4, hb4⟩
          clear hw4
          go_wp2
          go_ret
          exact ⟨rfl, hbw2.trans hb4⟩
theorem once_walk (n d : Int) (w : World) (_ : (Lit.int .i64 n).wf = true) (_ : (Lit.int .i64 d).wf = true) : Calls Try.prog 4 #[.int .i64 n, .int .i64 d] w fun e w' => e = .returned (.bool true) ∧ Below w.heap.size w w' := once_any n d w
end Go.Proofs.Ytecejikolgkihaa.LawC
