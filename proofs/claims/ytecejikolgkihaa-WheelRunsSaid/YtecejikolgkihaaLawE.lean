/- The walk of the statement that each timer that was set is still there, was due, was stopped, or was set anew. -/
import Derived.Test.YtecejikolgkihaaLawC
import Derived.Test.YtecejikolgkihaaCals
set_option linter.unusedVariables false
namespace Go.Proofs.Ytecejikolgkihaa.LawE
open Go.RowKit Go.Proofs.Ytecejikolgkihaa.Kit Go.Proofs.Ytecejikolgkihaa.Blocks Go.Proofs.Ytecejikolgkihaa.Whl Go.Proofs.Ytecejikolgkihaa.WalkD Go.Proofs.Ytecejikolgkihaa.WalkE Go.Proofs.Ytecejikolgkihaa.WalkF Go.Proofs.Ytecejikolgkihaa.WalkG Go.Proofs.Ytecejikolgkihaa.WalkI Go.Proofs.Ytecejikolgkihaa.Sol Go.Proofs.Ytecejikolgkihaa.Begun Go.Proofs.Ytecejikolgkihaa.LawC Go.Proofs.Ytecejikolgkihaa.Cals

theorem wrap_small {x : Int} (h0 : -9223372036854775808 ≤ x) (h1 : x < 9223372036854775808) : wrap64 x = x := by unfold wrap64; omega
theorem sum_small {G m S : Nat} (h : G + m = S) (hS : S ≤ 1000000) : (G : Int) + (m : Int) = (S : Int) ∧ wrap64 ((G : Int) + (m : Int)) = (S : Int) := by
  have e : (G : Int) + (m : Int) = (S : Int) := by omega
  exact ⟨e, by rw [e]; exact wrap_small (by omega) (by omega)⟩
theorem count_step {S G2 d G3 x y : Nat} (h1 : d + x = y) (h2 : S = G2 + y) (h3 : G2 + d = G3) : S = G3 + x := by omega
theorem due_left (t : Nat) (D : List Tm) : (dueD t D).length + (left t D).length = D.length := by
  unfold dueD left
  rw [List.length_map]
  induction D with
  | nil => rfl
  | cons a D ih =>
    simp only [List.filter_cons]
    by_cases h : a.2 = t + 1
    · have e : (a.2 == t + 1) = true := by simpa using h
      have e' : (a.2 != t + 1) = false := by simpa using h
      simp only [e, e', if_true, Bool.false_eq_true, if_false, List.length_cons]
      omega
    · have e : (a.2 == t + 1) = false := by simpa using h
      have e' : (a.2 != t + 1) = true := by simpa using h
      simp only [e, e', if_true, Bool.false_eq_true, if_false, List.length_cons]
      omega
theorem set_counts {t : Nat} {D : List Tm} (h : Ok t D) (id dl : Int) (hc : setc t D id dl = 0) : (setd t D id dl).length = D.length + (if isIn D id = true then 0 else 1) := by
  unfold setd
  rw [if_pos hc, List.length_append, List.length_singleton]
  by_cases hi : isIn D id = true
  · rw [if_pos hi]
    have := del_length h.ids hi
    omega
  · rw [if_neg hi, del_none (by simpa using hi)]
theorem set_stays {t : Nat} {D : List Tm} (id dl : Int) (hc : setc t D id dl ≠ 0) : setd t D id dl = D := by
  unfold setd
  rw [if_neg hc]
theorem next_zero {t : Nat} {D : List Tm} (h : Ok t D) : ((next t D : Int) == 0) = ((D.length : Int) == 0) := by
  by_cases hD : D = []
  · subst hD
    rfl
  · have h1 : next t D ≠ 0 := by
      unfold next
      rw [if_neg hD]
      obtain ⟨a, ha, e⟩ := soon_mem hD
      have := h.dues a ha
      omega
    have h2 : D.length ≠ 0 := fun e => hD (List.eq_nil_of_length_eq_zero e)
    have e1 : ((next t D : Int) == 0) = false := by simp; omega
    have e2 : ((D.length : Int) == 0) = false := by simp; exact hD
    rw [e1, e2]
set_option maxRecDepth 100000 in
set_option maxHeartbeats 8000000 in
theorem counts_any (A : Option Addr) (n c : Nat) (L : List Cal) (w : World) (hh : Holds w A n L) (h63 : n ≤ 9223372036854775807) :
    Calls Try.prog 8 #[.slice A n c] w fun e w' => e = .returned (.bool true) ∧ Below w.heap.size w w' := by
  have HH := Lib.hid hh
  clear hh
  go_enter Try.func8, Try.ntmps8
  go_wp2_with fail
  with_reducible refine (begun_true _).mono ?_
  rintro e w1 ⟨rfl, hb1⟩
  go_wp2_with fail
  with_reducible refine (new_S (B := w.heap.size) _ hb1.size).mono ?_
  rintro e w2 ⟨p, rfl, hw2, hb2⟩
  have HB := Lib.hid (hb1.trans hb2)
  have HW2 := Lib.hid hw2
  clear hb1 hb2 hw2
  go_wp2
  go_loopw [4, 5, 6, 16] (fun s g t i wr => ∃ (k S G T : Nat) (D : List Tm), k ≤ n ∧ k ≤ 300 ∧ i = .int .i64 (k : Int) ∧ s = .int .i64 (S : Int) ∧ g = .int .i64 (G : Int) ∧ t = .int .i64 (T : Int) ∧ T ≤ 10000 ∧ S ≤ k ∧ Hid (S = G + D.length) ∧ Hid (Ws w.heap.size wr p T D) ∧ Below w.heap.size w wr) (fun _ _ _ i _ => n - (intOf i).toNat)
  case atStart => exact ⟨0, 0, 0, 0, [], by omega, by omega, rfl, rfl, rfl, rfl, by omega, by omega, rfl, HW2.out, HB.out⟩
  case round =>
    obtain ⟨k, S, G, T, D, hk, hk3, rfl, rfl, rfl, rfl, hT, hSk, heq, hws, hbw⟩ := hrel
    have hGS : G ≤ S := by have := heq.out; omega
    by_cases hlt : k < n
    · obtain ⟨⟨kd, id, N⟩, b, o, _, rfl, hbl, ⟨c0, c1, c2⟩, hcb⟩ := HH.out.at_ hbw hlt
      have hbl2 : b < wr.heap.size := Nat.lt_of_lt_of_le hbl hbw.size
      have hkI : (k : Int) < (n : Int) := by omega
      simp only at c0 c1 c2
      by_cases hk300 : k = 300
      · subst hk300
        simp only [Nat.reduceMul] at c0 c1 c2
        have hkI' : (300 : Int) < (n : Int) := by omega
        clear hkI
        have hbal : Below w.heap.size w (wr.alloc (.cells #[.int .i64 kd, .int .i64 id, .int .i64 N] 33)) := hbw.alloc hbw.size _
        have hwa := hws.out.below ((Below.refl _ wr).alloc (Nat.le_refl _) (.cells #[.int .i64 kd, .int .i64 id, .int .i64 N] 33))
        have HLn := Lib.hid (len_S hwa)
        have hok := hws.out.ok
        have hnz := next_zero hok
        have hDl : D.length = S - G := by have := heq.out; omega
        obtain ⟨m, hm⟩ : ∃ m, D.length = m := ⟨_, rfl⟩
        rw [hm] at HLn hnz hDl
        obtain ⟨hsumI, hsum⟩ := sum_small (show G + m = S by rw [← hm]; exact heq.out.symm) (by omega)
        have hss : ((S : Int) == (S : Int)) = true := by simp
        obtain ⟨z, hz⟩ : ∃ z, next T D = z := ⟨_, rfl⟩
        rw [hz] at hnz
        have HZ := Lib.hid hz
        have HM := Lib.hid hm
        have HNZ := Lib.hid hnz
        clear hok hDl hz hm hnz
        go_wp2_with fail
        with_reducible refine HLn.out.mono ?_
        rintro e w3 ⟨rfl, hw3, hb3⟩
        have HDu := Lib.hid (due_S hw3 (by omega))
        rw [HZ.out] at HDu
        clear hw3
        go_wp2_with fail
        with_reducible refine HDu.out.mono ?_
        rintro e w4 ⟨rfl, hw4, hb4⟩
        have HLn2 := Lib.hid (len_S hw4)
        rw [HM.out] at HLn2
        clear hw4
        go_wp2_with fail
        with_reducible refine HLn2.out.mono ?_
        rintro e w5 ⟨rfl, hw5, hb5⟩
        clear hw5
        have hq : ((z : Int) == 0) = ((m : Int) == 0) := HNZ.out
        obtain ⟨q, hq1⟩ : ∃ q, ((z : Int) == 0) = q := ⟨_, rfl⟩
        have hq2 : ((m : Int) == 0) = q := by rw [← hq, hq1]
        clear hq
        have hqq : (q == q) = true := by simp
        go_wp2
        go_ret
        exact ⟨rfl, ((hbal.trans hb3).trans hb4).trans hb5⟩
      · have hk300I : ((k : Int) == 300) = false := by simp; omega
        have hbal : Below w.heap.size w (wr.alloc (.cells #[.int .i64 kd, .int .i64 id, .int .i64 N] 33)) := hbw.alloc hbw.size _
        have hwa := hws.out.below ((Below.refl _ wr).alloc (Nat.le_refl _) (.cells #[.int .i64 kd, .int .i64 id, .int .i64 N] 33))
        have HWA := Lib.hid hwa
        have HBal := Lib.hid hbal
        have hbx := heap_alloc_new wr (.cells #[.int .i64 kd, .int .i64 id, .int .i64 N] 33)
        have HBx := Lib.hid hbx
        have hokD := hws.out.ok
        have HOk := Lib.hid hokD
        clear hwa hbal hbx hokD
        have hS1 : wrap64 ((S : Int) + 1) = (S : Int) + 1 := by unfold wrap64; omega
        have hG1 : wrap64 ((G : Int) + 1) = (G : Int) + 1 := by unfold wrap64; omega
        by_cases hk0 : kd = 0
        · subst hk0
          have HLn := Lib.hid (len_F HWA.out)
          go_wp2_with fail
          with_reducible refine HLn.out.mono ?_
          rintro e w3 ⟨rfl, hw3, hb3⟩
          have hx3 := (hb3.block wr.heap.size (by simp)).trans HBx.out
          have d1 : w3.cell? ⟨wr.heap.size, 1, none⟩ = some (.int .i64 id) := by rw [cell_at hx3]; rfl
          have d2 : w3.cell? ⟨wr.heap.size, 2, none⟩ = some (.int .i64 N) := by rw [cell_at hx3]; rfl
          have l3 := lt_at hx3
          have hB3 := HBal.out.trans (hb3.mono HBal.out.size)
          have hset := set_S hw3 (by omega) id N
          obtain ⟨sc, hsc⟩ : ∃ sc, setc T D id N = sc := ⟨_, rfl⟩
          rw [hsc] at hset
          have HS := Lib.hid hset
          have HSc := Lib.hid hsc
          have HB3 := Lib.hid hB3
          clear hset hsc hx3 hw3 hb3 hB3
          go_wp2_with fail
          with_reducible refine HS.out.mono ?_
          rintro e w4 ⟨rfl, hw4, hb4⟩
          have hB4 := HB3.out.trans hb4
          by_cases hz : sc = 0
          · subst hz
            have hcount := set_counts HOk.out id N HSc.out
            have HLn2 := Lib.hid (len_S hw4)
            obtain ⟨l0, hl0⟩ : ∃ l0, D.length = l0 := ⟨_, rfl⟩
            obtain ⟨l1, hl1⟩ : ∃ l1, (setd T D id N).length = l1 := ⟨_, rfl⟩
            rw [hl1] at HLn2
            rw [hl0, hl1] at hcount
            have HHeq := heq.out
            rw [hl0] at HHeq
            have HL0 := Lib.hid hl0
            have HL1 := Lib.hid hl1
            clear hl0 hl1
            by_cases hi : isIn D id = true
            · rw [if_pos hi] at hcount
              have hll : ((l1 : Int) == (l0 : Int)) = true := by simp; omega
              have HC := Lib.hid (And.intro hcount HHeq)
              clear hcount HHeq
              rw [← HL0.out] at hll
              go_wp2_with fail
              with_reducible refine HLn2.out.mono ?_
              rintro e w5 ⟨rfl, hw5, hb5⟩
              have HW5 := Lib.hid hw5
              clear hw5
              go_wp2
              refine ⟨⟨k + 1, S + 1, G + 1, T, _, by omega, by omega, by simp, by simp, by simp, rfl, hT, by omega, ?_, HW5.out, hB4.trans hb5⟩, by simp [intOf]; omega⟩
              show _ = _
              rw [HL1.out]
              have := HC.out
              omega
            · rw [if_neg hi] at hcount
              have hll : ((l1 : Int) == (l0 : Int)) = false := by simp; omega
              have HC := Lib.hid (And.intro hcount HHeq)
              clear hcount HHeq
              rw [← HL0.out] at hll
              go_wp2_with fail
              with_reducible refine HLn2.out.mono ?_
              rintro e w5 ⟨rfl, hw5, hb5⟩
              have HW5 := Lib.hid hw5
              clear hw5
              go_wp2
              refine ⟨⟨k + 1, S + 1, G, T, _, by omega, by omega, by simp, by simp, rfl, rfl, hT, by omega, ?_, HW5.out, hB4.trans hb5⟩, by simp [intOf]; omega⟩
              show _ = _
              rw [HL1.out]
              have := HC.out
              omega
          · have hzB : (sc == 0) = false := by simpa using hz
            have hst := set_stays (t := T) (D := D) id N (by rw [HSc.out]; exact hz)
            rw [hst] at hw4
            have HW4 := Lib.hid hw4
            clear hst hw4 hz
            go_wp2
            exact ⟨⟨k + 1, S, G, T, D, by omega, by omega, by simp, rfl, rfl, rfl, hT, by omega, heq, HW4.out, hB4⟩, by simp [intOf]; omega⟩
        · have hk0B : (kd == 0) = false := by simpa using hk0
          by_cases hk1 : kd = 1
          · subst hk1
            have HSt := Lib.hid (stop_S HWA.out id)
            obtain ⟨q, hq⟩ : ∃ q, isIn D id = q := ⟨_, rfl⟩
            rw [hq] at HSt
            have HQ := Lib.hid hq
            clear hq
            go_wp2_with fail
            with_reducible refine HSt.out.mono ?_
            rintro e w3 ⟨rfl, hw3, hb3⟩
            have hB3 := HBal.out.trans hb3
            have HW3 := Lib.hid hw3
            have HB3 := Lib.hid hB3
            clear hw3 hB3 hb3
            cases q with
            | true =>
              have hdl := del_length HOk.out.ids HQ.out
              have HDL := Lib.hid hdl
              clear hdl
              go_wp2
              refine ⟨⟨k + 1, S, G + 1, T, _, by omega, by omega, by simp, rfl, by simp, rfl, hT, by omega, ?_, HW3.out, HB3.out⟩, by simp [intOf]; omega⟩
              show _ = _
              have := HDL.out
              have := heq.out
              omega
            | false =>
              go_wp2
              refine ⟨⟨k + 1, S, G, T, _, by omega, by omega, by simp, rfl, rfl, rfl, hT, by omega, ?_, HW3.out, HB3.out⟩, by simp [intOf]; omega⟩
              show _ = _
              rw [del_none HQ.out]
              exact heq.out
          · have hk1B : (kd == 1) = false := by simpa using hk1
            obtain ⟨M, hM, hM2⟩ := modk 2000 N (by decide) (by decide)
            have HM : Hid ((wrap64 (N.tmod 2000 + 2000)).tmod 2000 = (M : Int)) := hM
            obtain ⟨U, hU⟩ : ∃ U, T + M = U := ⟨_, rfl⟩
            have HTM : Hid (wrap64 ((T : Int) + (M : Int)) = (U : Int)) := by show _ = _; unfold wrap64; omega
            have HU := Lib.hid hU
            by_cases hbig : 10000 < U
            · have hbigI : (10000 : Int) < wrap64 ((T : Int) + (wrap64 (N.tmod 2000 + 2000)).tmod 2000) := by rw [HM.out, HTM.out]; omega
              clear hM hU
              go_wp2
              go_ret
              exact ⟨rfl, HBal.out⟩
            · have hbigI : ¬ (10000 : Int) < wrap64 ((T : Int) + (wrap64 (N.tmod 2000 + 2000)).tmod 2000) := by rw [HM.out, HTM.out]; omega
              have hU0 : U ≤ 10000 := by omega
              have hTU : T + M = U := hU
              clear hM hU
              go_wp2
              simp only [HM.out, HTM.out]
              clear hbigI
              go_loopw [5, 36] (fun g i wq => ∃ (j G : Nat) (D : List Tm), j ≤ M ∧ i = .int .i64 (j : Int) ∧ g = .int .i64 (G : Int) ∧ Hid (S = G + D.length) ∧ Hid (Ws w.heap.size wq p (T + j) D) ∧ Below w.heap.size w wq) (fun _ i _ => M - (intOf i).toNat)
              case atStart => exact ⟨0, G, D, by omega, rfl, rfl, heq, HWA.out, HBal.out⟩
              case round =>
                obtain ⟨j, G2, D2, hj, rfl, rfl, heq2, hws2, hbw2⟩ := hrel
                by_cases hjM : j < M
                · have hjI : (j : Int) < (M : Int) := by omega
                  have hdl := due_left (T + j) D2
                  have HT := Lib.hid (tick_S hws2.out (by omega))
                  obtain ⟨d, hd⟩ : ∃ d, (dueD (T + j) D2).length = d := ⟨_, rfl⟩
                  rw [hd] at HT hdl
                  obtain ⟨G3, hG3⟩ : ∃ G3, G2 + d = G3 := ⟨_, rfl⟩
                  have HDL := Lib.hid hdl
                  have HG3 := Lib.hid hG3
                  have hG3s : G3 ≤ S := by have := heq2.out; omega
                  have hsum := (sum_small hG3 (by omega)).2
                  clear hd hdl hG3
                  go_wp2_with fail
                  with_reducible refine HT.out.mono ?_
                  rintro e w5 ⟨⟨A5, c5, rfl, hr5⟩, hw5, hb5⟩
                  have HW5 := Lib.hid hw5
                  clear hw5 hr5
                  go_wp2
                  refine ⟨⟨j + 1, G3, _, by omega, by simp, by first | rfl | simp [hsum], ?_, HW5.out, hbw2.trans hb5⟩, by simp [intOf]; omega⟩
                  exact count_step HDL.out heq2.out HG3.out
                · obtain rfl : j = M := by omega
                  go_wp2
                  exact ⟨⟨k + 1, S, G2, U, D2, by omega, by omega, by simp, rfl, rfl, rfl, hU0, by omega, heq2, by have := hws2.out; rw [hTU] at this; exact this, hbw2⟩, by simp [intOf]; omega⟩
    · obtain rfl : k = n := by omega
      have HLn := Lib.hid (len_S hws.out)
      have hok := hws.out.ok
      have hnz := next_zero hok
      have hDl : D.length = S - G := by have := heq.out; omega
      obtain ⟨m, hm⟩ : ∃ m, D.length = m := ⟨_, rfl⟩
      rw [hm] at HLn hnz hDl
      obtain ⟨hsumI, hsum⟩ := sum_small (show G + m = S by rw [← hm]; exact heq.out.symm) (by omega)
      have hss : ((S : Int) == (S : Int)) = true := by simp
      obtain ⟨z, hz⟩ : ∃ z, next T D = z := ⟨_, rfl⟩
      rw [hz] at hnz
      have HZ := Lib.hid hz
      have HM := Lib.hid hm
      have HNZ := Lib.hid hnz
      clear hok hDl hz hm hnz
      go_wp2_with fail
      with_reducible refine HLn.out.mono ?_
      rintro e w3 ⟨rfl, hw3, hb3⟩
      have HDu := Lib.hid (due_S hw3 (by omega))
      rw [HZ.out] at HDu
      clear hw3
      go_wp2_with fail
      with_reducible refine HDu.out.mono ?_
      rintro e w4 ⟨rfl, hw4, hb4⟩
      have HLn2 := Lib.hid (len_S hw4)
      rw [HM.out] at HLn2
      clear hw4
      go_wp2_with fail
      with_reducible refine HLn2.out.mono ?_
      rintro e w5 ⟨rfl, hw5, hb5⟩
      clear hw5
      have hq : ((z : Int) == 0) = ((m : Int) == 0) := HNZ.out
      obtain ⟨q, hq1⟩ : ∃ q, ((z : Int) == 0) = q := ⟨_, rfl⟩
      have hq2 : ((m : Int) == 0) = q := by rw [← hq, hq1]
      clear hq
      have hqq : (q == q) = true := by simp
      go_wp2
      go_ret
      exact ⟨rfl, ((hbw.trans hb3).trans hb4).trans hb5⟩
end Go.Proofs.Ytecejikolgkihaa.LawE
