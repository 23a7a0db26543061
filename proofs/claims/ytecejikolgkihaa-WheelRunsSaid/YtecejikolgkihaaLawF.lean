/- The walk of the statement that call by call a wheel answers what the document's list does. -/
import Derived.Test.YtecejikolgkihaaSt
import Derived.Test.YtecejikolgkihaaLawE
import Derived.Deep.RegionHeld3
set_option linter.unusedVariables false
namespace Go.Proofs.Ytecejikolgkihaa.LawF
open Go.RowKit Go.Proofs.Ytecejikolgkihaa.Kit Go.Proofs.Ytecejikolgkihaa.Blocks Go.Proofs.Ytecejikolgkihaa.Whl Go.Proofs.Ytecejikolgkihaa.Tms Go.Proofs.Ytecejikolgkihaa.WAt Go.Proofs.Ytecejikolgkihaa.WalkG Go.Proofs.Ytecejikolgkihaa.WalkH Go.Proofs.Ytecejikolgkihaa.WalkI Go.Proofs.Ytecejikolgkihaa.Sol Go.Proofs.Ytecejikolgkihaa.Begun Go.Proofs.Ytecejikolgkihaa.LawC Go.Proofs.Ytecejikolgkihaa.Cals Go.Proofs.Ytecejikolgkihaa.RMem Go.Proofs.Ytecejikolgkihaa.RStop Go.Proofs.Ytecejikolgkihaa.Two Go.Proofs.Ytecejikolgkihaa.St Go.Proofs.Ytecejikolgkihaa.LawE

set_option maxRecDepth 100000 in
set_option maxHeartbeats 8000000 in
theorem runs_any (A : Option Addr) (n c : Nat) (L : List Cal) (w : World) (hh : Holds w A n L) (h63 : n ≤ 9223372036854775807) :
    Calls Try.prog 3 #[.slice A n c] w fun e w' => e = .returned (.bool true) ∧ Below w.heap.size w w' := by
  have HH := Lib.hid hh
  clear hh
  go_enter Try.func3, Try.ntmps3
  go_wp2_with fail
  with_reducible refine (begun_true _).mono ?_
  rintro e w1 ⟨rfl, hb1⟩
  go_wp2_with fail
  with_reducible refine (new_any _).mono ?_
  rintro e w2 ⟨x0, vs0, rfl, hw2, hb2⟩
  have hpr := pr_new hw2 hb2 hb1.size
  have hbb := hb1.trans (hb2.mono hb1.size)
  obtain ⟨p, hp⟩ : ∃ p, x0.p = p := ⟨_, rfl⟩
  obtain ⟨q, hq⟩ : ∃ q, w2.heap.size = q := ⟨_, rfl⟩
  have hbq := hbb.alloc hbb.size (.cells #[.int .u64 0, .slice none 0 0, .slice none 0 0] 31)
  rw [hp]
  rw [hp, hq] at hpr
  have HPr := Lib.hid hpr
  have HB := Lib.hid hbq
  have HQ := Lib.hid hq
  clear hpr hbb hbq hb1 hb2 hw2 hp hq
  go_wp2
  rw [HQ.out]
  go_loopw [5, 16] (fun t i wr => ∃ (k T : Nat) (D : List Tm), k ≤ n ∧ k ≤ 300 ∧ i = .int .i64 (k : Int) ∧ t = .int .i64 (T : Int) ∧ T ≤ 20000 ∧ Pr w.heap.size p q T D T D wr ∧ Below w.heap.size w wr) (fun _ i _ => n - (intOf i).toNat)
  case atStart => exact ⟨0, 0, [], by omega, by omega, rfl, rfl, by omega, HPr.out, HB.out⟩
  case round =>
    obtain ⟨k, T, D, hk, hk3, rfl, rfl, hT, hpr, hbw⟩ := hrel
    by_cases hlt : k < n
    · obtain ⟨⟨kd, id, N⟩, b, o, _, rfl, hbl, ⟨c0, c1, c2⟩, hcb⟩ := HH.out.at_ hbw hlt
      have hbl2 : b < wr.heap.size := Nat.lt_of_lt_of_le hbl hbw.size
      simp only at c0 c1 c2
      by_cases hk300 : k = 300
      · subst hk300
        simp only [Nat.reduceMul] at c0 c1 c2
        have hkI' : (300 : Int) < (n : Int) := by omega
        go_wp2
        go_ret
        exact ⟨rfl, hbw.alloc hbw.size _⟩
      · have hk300I : ((k : Int) == 300) = false := by simp; omega
        have hkI : (k : Int) < (n : Int) := by omega
        have hQ := hpr.boxed (.cells #[.int .i64 kd, .int .i64 id, .int .i64 N] 33)
        have HS := Lib.hid hQ
        have HOk := Lib.hid hQ.ok1
        have HBw := Lib.hid hbw
        have hal : Below w.heap.size w (wr.alloc (.cells #[.int .i64 kd, .int .i64 id, .int .i64 N] 33)) := hbw.alloc hbw.size _
        have HAl := Lib.hid hal
        have hc1 : (wr.alloc (.cells #[.int .i64 kd, .int .i64 id, .int .i64 N] 33)).cell? ⟨wr.heap.size, 1, none⟩ = some (.int .i64 id) := hQ.cell 1
        have hc2 : (wr.alloc (.cells #[.int .i64 kd, .int .i64 id, .int .i64 N] 33)).cell? ⟨wr.heap.size, 2, none⟩ = some (.int .i64 N) := hQ.cell 2
        clear hQ hal hpr
        by_cases hk0 : kd = 0
        · subst hk0
          obtain ⟨s, hs⟩ : ∃ s, setc T D id N = s := ⟨_, rfl⟩
          obtain ⟨E, hE⟩ : ∃ E, setd T D id N = E := ⟨_, rfl⟩
          have HOkE : Hid (Ok T E) := by rw [← hE]; exact HOk.out.set id N
          have HSc := Lib.hid hs
          have HE := Lib.hid hE
          have hss : ((s : Int) != (s : Int)) = false := by simp
          clear hs hE
          go_wp2_with fail
          go_region_held3 (fun W => W.cell? ⟨wr.heap.size, 1, none⟩ = some (.int .i64 id) ∧ W.cell? ⟨wr.heap.size, 2, none⟩ = some (.int .i64 N))
            (first
              | exact ⟨hc1, hc2⟩
              | exact ⟨hA.cell 1, hA.cell 2⟩
              | exact ⟨hD.cell 1, hD.cell 2⟩)
            (first
              | (go_at_call 11
                 with_reducible refine (p_set (by first | exact HS.out | exact HS.out.drew) (by omega) id N HSc HE).mono ?_
                 rintro e wA ⟨rfl, hA⟩)
              | (go_at_call 12
                 with_reducible refine (m_set hA HOk.out (by omega) id N HSc HE).mono ?_
                 rintro e wD ⟨rfl, hD⟩))
          all_goals
              skip
              have hP25 := hD.pr
              have hok25 : Ok T E := HOkE.out
              obtain ⟨m5, hm5⟩ : ∃ m, (E).length = m := ⟨_, rfl⟩
              have HM5 := Lib.hid hm5
              obtain ⟨z5, hz5⟩ : ∃ z, next T E = z := ⟨_, rfl⟩
              have HZ5 := Lib.hid hz5
              have HOk5 := Lib.hid hok25
              obtain ⟨A5, c5, hst⟩ := sta_of (w0 := w) hP25 (hbw.trans hD.2.2) HM5
              have e0 := hst.1.c0
              have e1 := hst.2.1
              have eq5 := hst.1.qlt
              have HSt := Lib.hid hst
              have hTT : ((T : Int) != (T : Int)) = false := by simp
              have hmm5 : ((m5 : Int) != (m5 : Int)) = false := by simp
              have hzz5 : ((z5 : Int) != (z5 : Int)) = false := by simp
              clear hP25 hok25 hm5 hz5 hst
              go_wp2_with fail
              go_region_held3 (fun W => W.cell? ⟨q, 0, none⟩ = some (.int .u64 (T : Int)) ∧ W.cell? ⟨q, 1, none⟩ = some (.slice A5 m5 c5))
                (first
                  | exact ⟨e0, e1⟩
                  | exact ⟨hN.1.c0, hN.2.1⟩
                  | exact ⟨hL.1.c0, hL.2.1⟩
                  | exact ⟨hU.1.c0, hU.2.1⟩
                  | exact ⟨hX.1.c0, hX.2.1⟩)
                (first
                  | (go_at_call 18
                     with_reducible refine (s_now (by first | exact HSt.out | exact HSt.out.drew)).mono ?_
                     rintro e wN ⟨rfl, hN⟩)
                  | (go_at_call 19
                     with_reducible refine (s_len hN HM5).mono ?_
                     rintro e wL ⟨rfl, hL⟩)
                  | (go_at_call 20
                     with_reducible refine (s_due hL (by omega) HZ5).mono ?_
                     rintro e wU ⟨rfl, hU⟩)
                  | (go_at_call 21
                     with_reducible refine (s_next hU HOk5.out (by omega) HZ5).mono ?_
                     rintro e wX ⟨rfl, hX⟩))
              all_goals go_wp2
              all_goals
                exact ⟨⟨k + 1, T, _, by omega, by omega, by simp, rfl, by omega, hX.1, hX.2.2⟩, by simp [intOf]; omega⟩
        · have hk0B : (kd == 0) = false := by simpa using hk0
          by_cases hk1 : kd = 1
          · subst hk1
            obtain ⟨s, hs⟩ : ∃ s, isIn D id = s := ⟨_, rfl⟩
            obtain ⟨E, hE⟩ : ∃ E, del D id = E := ⟨_, rfl⟩
            have HOkE : Hid (Ok T E) := by rw [← hE]; exact HOk.out.del id
            have HSc := Lib.hid hs
            have HE := Lib.hid hE
            have hss : (s != s) = false := by simp
            clear hs hE
            go_wp2_with fail
            go_region_held3 (fun W => W.cell? ⟨wr.heap.size, 1, none⟩ = some (.int .i64 id))
              (first
                | exact hc1
                | exact hA.cell 1
                | exact hD.cell 1)
              (first
                | (go_at_call 13
                   with_reducible refine (p_stop (by first | exact HS.out | exact HS.out.drew) id HSc HE).mono ?_
                   rintro e wA ⟨rfl, hA⟩)
                | (go_at_call 14
                   with_reducible refine (m_stop hA HOk.out id HSc HE).mono ?_
                   rintro e wD ⟨rfl, hD⟩))
            all_goals
              skip
              have hP25 := hD.pr
              have hok25 : Ok T E := HOkE.out
              obtain ⟨m5, hm5⟩ : ∃ m, (E).length = m := ⟨_, rfl⟩
              have HM5 := Lib.hid hm5
              obtain ⟨z5, hz5⟩ : ∃ z, next T E = z := ⟨_, rfl⟩
              have HZ5 := Lib.hid hz5
              have HOk5 := Lib.hid hok25
              obtain ⟨A5, c5, hst⟩ := sta_of (w0 := w) hP25 (hbw.trans hD.2.2) HM5
              have e0 := hst.1.c0
              have e1 := hst.2.1
              have eq5 := hst.1.qlt
              have HSt := Lib.hid hst
              have hTT : ((T : Int) != (T : Int)) = false := by simp
              have hmm5 : ((m5 : Int) != (m5 : Int)) = false := by simp
              have hzz5 : ((z5 : Int) != (z5 : Int)) = false := by simp
              clear hP25 hok25 hm5 hz5 hst
              go_wp2_with fail
              go_region_held3 (fun W => W.cell? ⟨q, 0, none⟩ = some (.int .u64 (T : Int)) ∧ W.cell? ⟨q, 1, none⟩ = some (.slice A5 m5 c5))
                (first
                  | exact ⟨e0, e1⟩
                  | exact ⟨hN.1.c0, hN.2.1⟩
                  | exact ⟨hL.1.c0, hL.2.1⟩
                  | exact ⟨hU.1.c0, hU.2.1⟩
                  | exact ⟨hX.1.c0, hX.2.1⟩)
                (first
                  | (go_at_call 18
                     with_reducible refine (s_now (by first | exact HSt.out | exact HSt.out.drew)).mono ?_
                     rintro e wN ⟨rfl, hN⟩)
                  | (go_at_call 19
                     with_reducible refine (s_len hN HM5).mono ?_
                     rintro e wL ⟨rfl, hL⟩)
                  | (go_at_call 20
                     with_reducible refine (s_due hL (by omega) HZ5).mono ?_
                     rintro e wU ⟨rfl, hU⟩)
                  | (go_at_call 21
                     with_reducible refine (s_next hU HOk5.out (by omega) HZ5).mono ?_
                     rintro e wX ⟨rfl, hX⟩))
              all_goals go_wp2
              all_goals
                exact ⟨⟨k + 1, T, _, by omega, by omega, by simp, rfl, by omega, hX.1, hX.2.2⟩, by simp [intOf]; omega⟩
          · have hk1B : (kd == 1) = false := by simpa using hk1
            obtain ⟨M, hM, hM2⟩ := modk 3000 N (by decide) (by decide)
            have HM : Hid ((wrap64 (N.tmod 3000 + 3000)).tmod 3000 = (M : Int)) := hM
            obtain ⟨U, hU⟩ : ∃ U, T + M = U := ⟨_, rfl⟩
            have HTM : Hid (wrap64 ((T : Int) + (M : Int)) = (U : Int)) := (sum_small hU (by omega)).2
            have HU := Lib.hid hU
            by_cases hbig : 20000 < U
            · have hbigI : (20000 : Int) < wrap64 ((T : Int) + (wrap64 (N.tmod 3000 + 3000)).tmod 3000) := by rw [HM.out, HTM.out]; omega
              clear hM hU
              go_wp2
              go_ret
              exact ⟨rfl, HAl.out⟩
            · have hbigI : ¬ (20000 : Int) < wrap64 ((T : Int) + (wrap64 (N.tmod 3000 + 3000)).tmod 3000) := by rw [HM.out, HTM.out]; omega
              have hU0 : U ≤ 20000 := by omega
              have hTU : T + M = U := hU
              clear hM hU
              go_wp2
              simp only [HM.out, HTM.out]
              clear hbigI
              go_loopw [36] (fun i wq => ∃ (j : Nat) (D : List Tm), j ≤ M ∧ i = .int .i64 (j : Int) ∧ Hid (Ok (T + j) D) ∧ Hid (Pr w.heap.size p q (T + j) D (T + j) D wq) ∧ Below w.heap.size w wq) (fun i _ => M - (intOf i).toNat)
              case atStart => exact ⟨0, D, by omega, rfl, HOk.out, HS.out.pr, HAl.out⟩
              case round =>
                obtain ⟨j, D2, hj, rfl, HOk2, hpr2, hbw2⟩ := hrel
                by_cases hjM : j < M
                · have hjI : (j : Int) < (M : Int) := by omega
                  obtain ⟨d, hd⟩ : ∃ d, (dueD (T + j) D2).length = d := ⟨_, rfl⟩
                  have hd64 : d ≤ 64 := by have := due_left (T + j) D2; have := HOk2.out.few; omega
                  have HD := Lib.hid hd
                  have HT1 := Lib.hid (p_tick hpr2.out (by omega) HD)
                  clear hd
                  go_wp2_with fail
                  with_reducible refine HT1.out.mono ?_
                  rintro e w5 ⟨A5, c5, rfl, hq5, hb5⟩
                  have HT2 := Lib.hid (m_tick hq5 HOk2.out (by omega) HD)
                  clear hq5
                  go_wp2_with fail
                  with_reducible refine HT2.out.mono ?_
                  rintro e w6 ⟨A6, c6, rfl, hp6, hr5, hr6, hb6⟩
                  have HT3 := Lib.hid (ints_R A5 A6 c5 c6 _ w6 HD.out hr5 hr6 (by omega))
                  have HP6 := Lib.hid hp6
                  clear hp6 hr5 hr6
                  go_wp2_with fail
                  with_reducible refine HT3.out.mono ?_
                  rintro e w7 ⟨rfl, hb7⟩
                  go_wp2
                  exact ⟨⟨j + 1, _, by omega, by simp, HOk2.out.left, HP6.out.below hb7, ((hbw2.trans hb5).trans hb6).trans (hb7.mono HP6.out.base)⟩, by simp [intOf]; omega⟩
                · obtain rfl : j = M := by omega
                  have HOkE : Hid (Ok U D2) := by have := HOk2.out; rw [hTU] at this; exact this
                  have hP25 := (by have := hpr2.out; rw [hTU] at this; exact this)
                  have hok25 : Ok U D2 := HOkE.out
                  obtain ⟨m5, hm5⟩ : ∃ m, (D2).length = m := ⟨_, rfl⟩
                  have HM5 := Lib.hid hm5
                  obtain ⟨z5, hz5⟩ : ∃ z, next U D2 = z := ⟨_, rfl⟩
                  have HZ5 := Lib.hid hz5
                  have HOk5 := Lib.hid hok25
                  obtain ⟨A5, c5, hst⟩ := sta_of (w0 := w) hP25 (hbw2) HM5
                  have e0 := hst.1.c0
                  have e1 := hst.2.1
                  have eq5 := hst.1.qlt
                  have HSt := Lib.hid hst
                  have hTT : ((U : Int) != (U : Int)) = false := by simp
                  have hmm5 : ((m5 : Int) != (m5 : Int)) = false := by simp
                  have hzz5 : ((z5 : Int) != (z5 : Int)) = false := by simp
                  clear hP25 hok25 hm5 hz5 hst
                  go_wp2_with fail
                  go_region_held3 (fun W => W.cell? ⟨q, 0, none⟩ = some (.int .u64 (U : Int)) ∧ W.cell? ⟨q, 1, none⟩ = some (.slice A5 m5 c5))
                    (first
                      | exact ⟨e0, e1⟩
                      | exact ⟨hN.1.c0, hN.2.1⟩
                      | exact ⟨hL.1.c0, hL.2.1⟩
                      | exact ⟨hU.1.c0, hU.2.1⟩
                      | exact ⟨hX.1.c0, hX.2.1⟩)
                    (first
                      | (go_at_call 18
                         with_reducible refine (s_now (by first | exact HSt.out | exact HSt.out.drew)).mono ?_
                         rintro e wN ⟨rfl, hN⟩)
                      | (go_at_call 19
                         with_reducible refine (s_len hN HM5).mono ?_
                         rintro e wL ⟨rfl, hL⟩)
                      | (go_at_call 20
                         with_reducible refine (s_due hL (by omega) HZ5).mono ?_
                         rintro e wU ⟨rfl, hU⟩)
                      | (go_at_call 21
                         with_reducible refine (s_next hU HOk5.out (by omega) HZ5).mono ?_
                         rintro e wX ⟨rfl, hX⟩))
                  all_goals go_wp2
                  all_goals
                    exact ⟨⟨k + 1, U, _, by omega, by omega, by simp, rfl, by omega, hX.1, hX.2.2⟩, by simp [intOf]; omega⟩
    · obtain rfl : k = n := by omega
      go_wp2
      go_ret
      exact ⟨rfl, hbw⟩
end Go.Proofs.Ytecejikolgkihaa.LawF
