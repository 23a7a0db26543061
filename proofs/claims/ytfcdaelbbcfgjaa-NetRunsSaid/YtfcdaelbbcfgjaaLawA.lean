/- The walk of the statement that what is taken from the front comes in the order in which it was sent. -/
import Derived.Test.YtfcdaelbbcfgjaaBegun
set_option linter.unusedVariables false
namespace Go.Proofs.Ytfcdaelbbcfgjaa.LawA
open Go.RowKit Go.Proofs.Ytfcdaelbbcfgjaa.Kit Go.Proofs.Ytfcdaelbbcfgjaa.Blocks Go.Proofs.Ytfcdaelbbcfgjaa.Ltr Go.Proofs.Ytfcdaelbbcfgjaa.NAt Go.Proofs.Ytfcdaelbbcfgjaa.WalkA Go.Proofs.Ytfcdaelbbcfgjaa.Sol Go.Proofs.Ytfcdaelbbcfgjaa.Begun

theorem modk (c : Nat) (n : Int) (hc : 0 < c) (hc' : c ≤ 1000000) : ∃ N : Nat, (wrap64 (n.tmod (c : Int) + (c : Int))).tmod (c : Int) = (N : Int) ∧ N < c := by
  have a1 := Int.tmod_lt_of_pos n (show (0 : Int) < (c : Int) by omega)
  have a2 := Int.lt_tmod_of_pos n (show (0 : Int) < (c : Int) by omega)
  have hw : wrap64 (n.tmod (c : Int) + (c : Int)) = n.tmod (c : Int) + (c : Int) := by unfold wrap64; omega
  rw [hw, Int.tmod_eq_emod_of_nonneg (by omega)]
  have b1 := Int.emod_nonneg (n.tmod (c : Int) + (c : Int)) (show (c : Int) ≠ 0 by omega)
  have b2 := Int.emod_lt_of_pos (n.tmod (c : Int) + (c : Int)) (show (0 : Int) < (c : Int) by omega)
  exact ⟨((n.tmod (c : Int) + (c : Int)) % (c : Int)).toNat, by omega, by omega⟩
def one (j : Nat) : Sd := lit 1 (j : Int)
/-- What is left behind i rounds. -/
def rest (N M i : Nat) : List Nat := if i ≤ M then List.range' i (M - i) ++ List.range' (M + 1) (N - (M + 1)) else List.range' i (N - i)
theorem rest_zero {N M : Nat} (h : M < N) : (List.range N).eraseIdx M = rest N M 0 := by
  obtain ⟨r, rfl⟩ : ∃ r, N = M + (r + 1) := ⟨N - (M + 1), by omega⟩
  have e : List.range (M + (r + 1)) = List.range' 0 M ++ M :: List.range' (M + 1) r := by
    rw [List.range_eq_range', ← List.range'_append (s := 0) (m := M) (n := r + 1) (step := 1), List.range'_succ]
    simp
  unfold rest
  rw [if_pos (Nat.zero_le _), e, List.eraseIdx_append, if_neg (by simp), List.length_range', Nat.sub_self, Nat.sub_zero, show M + (r + 1) - (M + 1) = r by omega]
  rfl
theorem rest_at {N M : Nat} (h : M < N) : rest N M M = rest N M (M + 1) := by
  unfold rest
  rw [if_pos (Nat.le_refl _), if_neg (by omega), Nat.sub_self]
  rfl
theorem rest_step {N M i : Nat} (h : M < N) (hi : i < N) (hne : i ≠ M) : rest N M i = i :: rest N M (i + 1) := by
  unfold rest
  by_cases hlt : i < M
  · rw [if_pos (by omega), if_pos (by omega), show M - i = (M - (i + 1)) + 1 by omega, List.range'_succ]
    rfl
  · rw [if_neg (by omega), if_neg (by omega), show N - i = (N - (i + 1)) + 1 by omega, List.range'_succ]
theorem rest_end (N M : Nat) (h : M < N) : rest N M N = [] := by
  unfold rest
  rw [if_neg (by omega), Nat.sub_self]
  rfl
theorem rest_le (N M i : Nat) (h : M < N) (hi : i ≤ N) : (rest N M i).length ≤ N := by
  unfold rest
  split
  · simp; omega
  · simp
theorem plc_back {N M : Nat} (h : M < N) : plc ((M : Int) - (N : Int)) N = M := by
  unfold plc
  have : ((M : Int) - (N : Int)) % (N : Int) = (M : Int) := by
    rw [Int.sub_emod, Int.emod_self, Int.sub_zero, Int.emod_emod_of_dvd _ (Int.dvd_refl _)]
    exact Int.emod_eq_of_lt (by omega) (by omega)
  omega
theorem plc_zero (n : Nat) : plc 0 n = 0 := by simp [plc]
set_option maxRecDepth 100000 in
set_option maxHeartbeats 8000000 in
theorem order_walk (n at_ : Int) (w : World) (h : (Lit.int .i64 n).wf = true) (h' : (Lit.int .i64 at_).wf = true) : Calls Try.prog 5 #[.int .i64 n, .int .i64 at_] w fun e w' => e = .returned (.bool true) ∧ Below w.heap.size w w' := by
  obtain ⟨N0, hN, hN80⟩ := modk 256 n (by decide) (by decide)
  obtain ⟨N, hNN⟩ : ∃ N, N0 + 1 = N := ⟨_, rfl⟩
  have HN : Hid (wrap64 ((wrap64 (n.tmod 256 + 256)).tmod 256 + 1) = (N : Int)) := by
    have e : (wrap64 (n.tmod 256 + 256)).tmod 256 = (N0 : Int) := hN
    show _ = _
    rw [e]
    unfold wrap64
    omega
  obtain ⟨M, hM, hMN⟩ := modk N at_ (by omega) (by omega)
  have HM : Hid ((wrap64 (at_.tmod (N : Int) + (N : Int))).tmod (N : Int) = (M : Int)) := hM
  have hN1 : N ≤ 256 := by omega
  have hN2 : 0 < N := by omega
  clear hN hM hNN hN80
  go_enter Try.func5, Try.ntmps5
  go_wp2_with fail
  with_reducible refine (begun_true _).mono ?_
  rintro e w1 ⟨rfl, hb1⟩
  go_wp2_with fail
  with_reducible refine (new_W w.heap.size _ hb1.size).mono ?_
  rintro e w2 ⟨p, rfl, hw2, hb2⟩
  have HB := Lib.hid (hb1.trans (hb2.mono hb1.size))
  clear hb1 hb2
  go_wp2
  simp only [HN.out]
  have hN0 : ((N : Int) == 0) = false := by simp; omega
  go_loopw [21] (fun i wr => ∃ k : Nat, k ≤ N ∧ i = .int .i64 (k : Int) ∧ Hid (Ws w.heap.size wr p ((List.range k).map one) 0) ∧ Below w.heap.size w wr) (fun i _ => N - (intOf i).toNat)
  case atStart => exact ⟨0, by omega, rfl, hw2, HB.out⟩
  case round =>
    obtain ⟨k, hk, rfl, hws, hbw⟩ := hrel
    by_cases hlt : k < N
    · have hkI : (k : Int) < (N : Int) := by omega
      have hk0 : (0 : Int) ≤ (k : Int) := by omega
      have hsend := send_lit hws.out (by simp; omega) 1 (k : Int)
      have e1 : (List.range k).map one ++ [lit 1 (k : Int)] = (List.range (k + 1)).map one := by rw [List.range_succ, List.map_append]; rfl
      rw [e1] at hsend
      have HS := Lib.hid hsend
      clear hsend e1
      go_wp2_with fail
      with_reducible refine HS.out.mono ?_
      rintro e w3 ⟨rfl, hw3, hb3⟩
      have HW3 := Lib.hid hw3
      have HB3 := Lib.hid (hbw.trans hb3)
      clear hw3 hb3
      go_wp2
      exact ⟨⟨k + 1, by omega, by first | rfl | simp, HW3.out, HB3.out⟩, by simp [intOf]; omega⟩
    · obtain rfl : k = N := by omega
      have hlen : ((List.range k).map one).length = k := by simp
      have htk := take_W hws.out (by omega) (by omega) ((M : Int) - (k : Int))
      rw [hlen, plc_back hMN, ← map_erase, rest_zero hMN] at htk
      have HT := Lib.hid htk
      clear htk hws
      have hMI : (M : Int) < (k : Int) := by omega
      go_wp2_with fail
      simp only [HM.out]
      go_wp2_with fail
      simp only [show wrap64 ((M : Int) - (k : Int)) = (M : Int) - (k : Int) by unfold wrap64; omega]
      with_reducible refine HT.out.mono ?_
      rintro e w3 ⟨x, d, hd, hx, rfl, hw3, hb3⟩
      obtain rfl : d = one M := by
        rw [List.getElem?_map, List.getElem?_range hMN] at hd
        exact (Option.some.inj hd).symm
      obtain ⟨hs, _⟩ := hx
      obtain ⟨⟨kk, f, t, tm, ix, pv, cm, ok, d⟩, A, n', c, es⟩ := x
      obtain rfl : ix = (M : Int) := congrArg (fun y : Sd => y.1.ix) hs
      have hs3 := Nat.le_trans hbw.size hb3.size
      have HB3 : Hid (∀ o, Below w.heap.size w (w3.alloc o)) := fun o => (hbw.trans hb3).alloc hs3 _
      have HW3 : Hid (∀ o, Ws w.heap.size (w3.alloc o) p ((rest k M 0).map one) 0) := fun o => hw3.below ((Below.refl _ _).alloc (Nat.le_refl _) _)
      clear hw3 hb3 hd hs
      unfold ltV
      simp only
      go_wp2
      go_loopw [55] (fun i wr => ∃ j : Nat, j ≤ k ∧ i = .int .i64 (j : Int) ∧ Hid (Ws w.heap.size wr p ((rest k M j).map one) 0) ∧ Below w.heap.size w wr) (fun i _ => k - (intOf i).toNat)
      case atStart => exact ⟨0, by omega, rfl, HW3.out _, HB3.out _⟩
      case round =>
        obtain ⟨j, hj, rfl, hws, hbw⟩ := hrel
        by_cases hlt : j < k
        · have hjI : (j : Int) < (k : Int) := by omega
          have hj0 : (0 : Int) ≤ (j : Int) := by omega
          by_cases hjM : j = M
          · subst hjM
            have hjj : ((j : Int) == (j : Int)) = true := by simp
            go_wp2
            exact ⟨⟨j + 1, by omega, by first | rfl | simp, by show Ws _ _ _ _ _; rw [← rest_at hMN]; exact hws.out, hbw⟩, by simp [intOf]; omega⟩
          · have hne : ((j : Int) == (M : Int)) = false := by simp; omega
            have hneI : ¬ (j : Int) = (M : Int) := by omega
            have hl2 := rest_le k M j hMN hj
            have hst := rest_step hMN hlt hjM
            rw [hst] at hl2
            have hw' := hws.out
            rw [hst, List.map_cons] at hw'
            have htk := take_W hw' (by simp) (by simp only [List.length_cons, List.length_map] at hl2 ⊢; omega) 0
            rw [plc_zero] at htk
            have HT2 := Lib.hid htk
            clear htk hw' hst
            go_wp2_with fail
            with_reducible refine HT2.out.mono ?_
            rintro e w4 ⟨x, d, hd, hx, rfl, hw4, hb4⟩
            obtain rfl : d = one j := (Option.some.inj hd).symm
            obtain ⟨hs, _⟩ := hx
            obtain ⟨⟨kk, f, t, tm, ix, pv, cm, ok, d⟩, A, n', c, es⟩ := x
            obtain rfl : ix = (j : Int) := congrArg (fun y : Sd => y.1.ix) hs
            have hs4 := Nat.le_trans hbw.size hb4.size
            have HB4 : Hid (∀ o, Below w.heap.size w (w4.alloc o)) := fun o => (hbw.trans hb4).alloc hs4 _
            have HW4 : Hid (∀ o, Ws w.heap.size (w4.alloc o) p ((rest k M (j + 1)).map one) 0) := fun o => hw4.below ((Below.refl _ _).alloc (Nat.le_refl _) _)
            clear hw4 hb4 hd hs
            unfold ltV
            simp only
            go_wp2
            exact ⟨⟨j + 1, by omega, by first | rfl | simp, HW4.out _, HB4.out _⟩, by simp [intOf]; omega⟩
        · obtain rfl : j = k := by omega
          have hw' := hws.out
          rw [rest_end _ M hMN] at hw'
          have HT2 := Lib.hid (take_N hw' 0)
          clear hw'
          go_wp2_with fail
          with_reducible refine HT2.out.mono ?_
          rintro e w4 ⟨rfl, hw4, hb4⟩
          have HB4 := Lib.hid (hbw.trans hb4)
          clear hw4 hb4
          go_wp2
          go_ret
          exact ⟨rfl, HB4.out⟩
end Go.Proofs.Ytfcdaelbbcfgjaa.LawA
