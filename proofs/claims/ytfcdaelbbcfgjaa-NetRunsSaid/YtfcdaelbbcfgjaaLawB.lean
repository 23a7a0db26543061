/- The walk of the statement that a letter that is doubled is there as often. -/
import Derived.Test.YtfcdaelbbcfgjaaLawA
import Derived.Test.YtfcdaelbbcfgjaaOpens
import Derived.Test.YtfcdaelbbcfgjaaSame
import Derived.Lib.MinMax
set_option linter.unusedVariables false
namespace Go.Proofs.Ytfcdaelbbcfgjaa.LawB
open Go.RowKit Go.Proofs.Ytfcdaelbbcfgjaa.Kit Go.Proofs.Ytfcdaelbbcfgjaa.Blocks Go.Proofs.Ytfcdaelbbcfgjaa.Ltr Go.Proofs.Ytfcdaelbbcfgjaa.NAt Go.Proofs.Ytfcdaelbbcfgjaa.WalkA Go.Proofs.Ytfcdaelbbcfgjaa.Sol Go.Proofs.Ytfcdaelbbcfgjaa.Begun Go.Proofs.Ytfcdaelbbcfgjaa.LawA Go.Proofs.Ytfcdaelbbcfgjaa.Opens Go.Proofs.Ytfcdaelbbcfgjaa.Same

theorem rep_get {d d' : Sd} {m k : Nat} (h : (List.replicate m d)[k]? = some d') : d' = d := by
  rw [List.getElem?_replicate] at h
  split at h
  · exact (Option.some.inj h).symm
  · cases h
theorem rep_snoc (m : Nat) (d : Sd) : List.replicate m d ++ [d] = List.replicate (m + 1) d := (List.replicate_succ' ..).symm
theorem rep_erase (m k : Nat) (d : Sd) (h : k < m) : (List.replicate m d).eraseIdx k = List.replicate (m - 1) d := by
  rw [List.eraseIdx_replicate, if_pos h]
theorem Came.below {w w' : World} {x : Lt} (h : Came w x) (k : Below w.heap.size w w') : Came w' x := (Fit.below h k).more fun g hg => Nat.lt_of_lt_of_le hg k.size
set_option maxRecDepth 100000 in
set_option maxHeartbeats 8000000 in
theorem doubles_walk (x : Lt) (n : Int) (w : World) (hx : Came w x) (h : (Lit.int .i64 n).wf = true) : Calls Try.prog 7 #[ltV x, .int .i64 n] w fun e w' => e = .returned (.bool true) ∧ Below w.heap.size w w' := by
  obtain ⟨N, hN, hN3⟩ := modk 300 n (by decide) (by decide)
  have HN : Hid ((wrap64 (n.tmod 300 + 300)).tmod 300 = (N : Int)) := hN
  have hnm := hx.few
  obtain ⟨d, hd⟩ : ∃ d, x.said = d := ⟨_, rfl⟩
  have hbo : ∀ o, Below w.heap.size w (w.alloc o) := fun o => (Below.refl _ _).alloc (Nat.le_refl _) o
  obtain ⟨⟨kk, f, t, tm, ix, pv, cm, ok, dt⟩, A, m, c, es⟩ := x
  simp only at hnm
  have hnew := heap_alloc_new w (.cells #[.int .i64 kk, .int .i64 f, .int .i64 t, .int .u64 tm, .int .u64 ix, .int .u64 pv, .int .u64 cm, .bool ok, .slice A m c, .string dt] 34)
  have hx0 := Came.below hx (hbo (.cells #[.int .i64 kk, .int .i64 f, .int .i64 t, .int .u64 tm, .int .u64 ix, .int .u64 pv, .int .u64 cm, .bool ok, .slice A m c, .string dt] 34))
  have hb0 := hbo (.cells #[.int .i64 kk, .int .i64 f, .int .i64 t, .int .u64 tm, .int .u64 ix, .int .u64 pv, .int .u64 cm, .bool ok, .slice A m c, .string dt] 34)
  obtain ⟨w0, hw0⟩ : ∃ w0, w.alloc (.cells #[.int .i64 kk, .int .i64 f, .int .i64 t, .int .u64 tm, .int .u64 ix, .int .u64 pv, .int .u64 cm, .bool ok, .slice A m c, .string dt] 34) = w0 := ⟨_, rfl⟩
  rw [hw0] at hnew hx0 hb0
  have HW0 := Lib.hid hw0
  have HX0 := Lib.hid hx0
  have HB0 := Lib.hid hb0
  have HNew := Lib.hid hnew
  have HD := Lib.hid hd
  have hlt0 := lt_at hnew
  clear hx hx0 hw0 hnew hb0 hbo hN hd
  unfold ltV
  go_enter Try.func7, Try.ntmps7
  go_wp2_with fail
  rw [HW0.out]
  with_reducible refine (begun_true w0).mono ?_
  rintro e w1 ⟨rfl, hb1⟩
  have hx1 := (hb1.block _ hlt0).trans HNew.out
  obtain ⟨d0, d1, d2, d3, d4, d5, d6, d7, d8, d9, hlt1⟩ := ten_at hx1
  by_cases hbig : 50 < (m : Int)
  · clear hx1
    go_wp2_with fail
    go_wp2
    go_ret
    exact ⟨rfl, HB0.out.trans (hb1.mono HB0.out.size)⟩
  · have hm50 : (m : Int) ≤ 50 := by omega
    clear hx1
    go_wp2_with fail
    with_reducible refine (new_W w0.heap.size _ hb1.size).mono ?_
    rintro e w2 ⟨p, rfl, hw2, hb2⟩
    have hB2 : Below w0.heap.size w0 w2 := hb1.trans (hb2.mono hb1.size)
    have hx2 := (hB2.block _ hlt0).trans HNew.out
    obtain ⟨d0, d1, d2, d3, d4, d5, d6, d7, d8, d9, hlt2⟩ := ten_at hx2
    have hsend := send_W hw2 (by decide) (d := d) ⟨HD.out, _, Came.below HX0.out hB2⟩
    unfold ltV at hsend
    have HS := Lib.hid hsend
    have HB2 := Lib.hid hB2
    clear hsend hB2 hx2 hb1 hb2 hw2
    simp only at HS
    go_wp2_with fail
    with_reducible refine HS.out.mono ?_
    rintro e w3 ⟨rfl, hw3, hb3⟩
    have HB3 := Lib.hid (HB2.out.trans hb3)
    clear hb3
    go_wp2
    simp only [HN.out]
    go_loopw [26] (fun i wr => ∃ k : Nat, k ≤ N ∧ i = .int .i64 (k : Int) ∧ Hid (Ws w0.heap.size wr p (List.replicate (min (k + 1) 256) d) (k + 1 - min (k + 1) 256)) ∧ Below w0.heap.size w0 wr) (fun i _ => N - (intOf i).toNat)
    case atStart => exact ⟨0, by omega, rfl, hw3, HB3.out⟩
    case round =>
      obtain ⟨k, hk, rfl, hws, hbw⟩ := hrel
      by_cases hlt : k < N
      · have hkI : (k : Int) < (N : Int) := by omega
        have hk0 : (0 : Int) ≤ (k : Int) := by omega
        by_cases h256 : k + 1 < 256
        · have hw' := hws.out
          rw [Nat.min_eq_left (by omega), Nat.sub_self] at hw'
          have hdb := double_W hw' (by simp) (by rw [List.length_replicate]; omega) (k : Int)
          have HDb := Lib.hid hdb
          have h255 : (k : Int) + 1 < 256 := by omega
          clear hdb hw' hws
          go_wp2_with fail
          with_reducible refine HDb.out.mono ?_
          rintro e w4 ⟨d', hd', rfl, hw4, hb4⟩
          obtain rfl := rep_get hd'
          rw [rep_snoc] at hw4
          have HW4 : Hid (Ws w0.heap.size w4 p (List.replicate (min (k + 1 + 1) 256) d') (k + 1 + 1 - min (k + 1 + 1) 256)) := by
            show Ws _ _ _ _ _
            rw [Nat.min_eq_left (by omega), Nat.sub_self]; exact hw4
          have HB4 := Lib.hid (hbw.trans hb4)
          clear hw4 hb4 hd'
          go_wp2
          exact ⟨⟨k + 1, by omega, by first | rfl | simp, HW4.out, HB4.out⟩, by simp [intOf]; omega⟩
        · have hw' := hws.out
          rw [Nat.min_eq_right (by omega)] at hw'
          have hdb := double_F hw' (by simp) (by omega) (k : Int)
          have HDb := Lib.hid hdb
          have h255 : ¬ (k : Int) + 1 < 256 := by omega
          clear hdb hw' hws
          go_wp2_with fail
          with_reducible refine HDb.out.mono ?_
          rintro e w4 ⟨rfl, hw4, hb4⟩
          have HW4 : Hid (Ws w0.heap.size w4 p (List.replicate (min (k + 1 + 1) 256) d) (k + 1 + 1 - min (k + 1 + 1) 256)) := by
            show Ws _ _ _ _ _
            rw [Nat.min_eq_right (by omega), show k + 1 + 1 - 256 = k + 1 - 256 + 1 by omega]; exact hw4
          have HB4 := Lib.hid (hbw.trans hb4)
          clear hw4 hb4
          go_wp2
          exact ⟨⟨k + 1, by omega, by first | rfl | simp, HW4.out, HB4.out⟩, by simp [intOf]; omega⟩
      · obtain rfl : k = N := by omega
        have HC := Lib.hid (count_W hws.out)
        obtain ⟨U, hU⟩ : ∃ U, min (k + 1) 256 = U := ⟨_, rfl⟩
        obtain ⟨V, hV⟩ : ∃ V, k + 1 - U = V := ⟨_, rfl⟩
        rw [hU, hV, List.length_replicate] at HC
        have hsum : U + V = k + 1 := by omega
        have hmin : ∀ w ts t, (Builtin.min_ ts t #[.int .i64 ((k : Int) + 1), .int .i64 256]).run Try.prog w = .ok (.int .i64 (U : Int)) w := fun w ts t => by
          rw [Lib.run_min_ints, ← hU]
          congr 2
          omega
        have hwr : IntKind.i64.wrap ((U : Int) + (V : Int)) = (k : Int) + 1 := by rw [IntWalk.i64_in _ ⟨by omega, by omega⟩]; omega
        have HM := Lib.hid hmin
        have HU := Lib.hid hU
        clear hws hV hU
        go_wp2_with fail
        with_reducible refine HC.out.mono ?_
        rintro e w4 ⟨rfl, hw4, hb4⟩
        have HB4 := Lib.hid (hbw.trans (hb4.mono hbw.size))
        clear hb4
        go_wp2_with fail
        have hU256 : U ≤ 256 := by have := HU.out; omega
        go_loopw [56] (fun i wr => ∃ j : Nat, j ≤ U ∧ i = .int .i64 (j : Int) ∧ Hid (Ws w0.heap.size wr p (List.replicate (U - j) d) V) ∧ Below w0.heap.size w0 wr) (fun i _ => U - (intOf i).toNat)
        case atStart => exact ⟨0, by omega, rfl, hw4, HB4.out⟩
        case round =>
          obtain ⟨j, hj, rfl, hws, hbw⟩ := hrel
          by_cases hlt : j < U
          · have hjI : (j : Int) < (U : Int) := by omega
            have htk := take_W hws.out (by simp; omega) (by simp; omega) (k : Int)
            obtain ⟨q, hq⟩ : ∃ q, plc (k : Int) (List.replicate (U - j) d).length = q := ⟨_, rfl⟩
            have hql : q < U - j := by
              rw [← hq, List.length_replicate]
              exact plc_lt _ (by omega)
            rw [hq, rep_erase _ _ _ hql] at htk
            have HT := Lib.hid htk
            clear htk hq hws
            go_wp2_with fail
            with_reducible refine HT.out.mono ?_
            rintro e w5 ⟨y, d', hd', hy, rfl, hw5, hb5⟩
            obtain rfl := rep_get hd'
            obtain ⟨hs, E, hf⟩ := hy
            obtain ⟨⟨ka, fa, ta, tma, ixa, pva, cma, oka, da⟩, Aa, ma, ca, esa⟩ := y
            have hb5' := hbw.trans hb5
            have hbx := (hb5'.block _ hlt0).trans HNew.out
            obtain ⟨d0, d1, d2, d3, d4, d5, d6, d7, d8, d9, hlt5⟩ := ten_at hbx
            have hbo : ∀ o, Below w5.heap.size w5 (w5.alloc o) := fun o => (Below.refl _ _).alloc (Nat.le_refl _) o
            have hsame : ∀ o, Calls Try.prog 15 #[ltV ⟨⟨kk, f, t, tm, ix, pv, cm, ok, dt⟩, A, m, c, es⟩, ltV ⟨⟨ka, fa, ta, tma, ixa, pva, cma, oka, da⟩, Aa, ma, ca, esa⟩] (w5.alloc o) fun e w' => e = .returned (.bool true) ∧ Below (w5.alloc o).heap.size (w5.alloc o) w' := fun o =>
              same_any (Came.below HX0.out (hb5'.trans ((hbo o).mono hb5'.size))) (hf.below (hbo o)) (HD.out.trans hs.symm)
            unfold ltV at hsame
            simp only at hsame
            have HSm := Lib.hid hsame
            have HW5 : Hid (∀ o w', Below (w5.alloc o).heap.size (w5.alloc o) w' → Ws w0.heap.size w' p (List.replicate (U - (j + 1)) d') V ∧ Below w0.heap.size w0 w') := fun o w' hb => by
              have h1 := (hbo o).trans (hb.mono (hbo o).size)
              rw [show U - (j + 1) = U - j - 1 by omega]
              exact ⟨hw5.below h1, hb5'.trans (h1.mono hb5'.size)⟩
            clear hf hs hd' hsame hw5 hb5 hb5' hbx hbo
            unfold ltV
            simp only
            go_wp2_with fail
            with_reducible refine (HSm.out _).mono ?_
            rintro e w6 ⟨rfl, hb6⟩
            obtain ⟨hw6, hbb6⟩ := HW5.out _ _ hb6
            have HW6 := Lib.hid hw6
            clear hw6 hb6
            go_wp2
            exact ⟨⟨j + 1, by omega, by first | rfl | simp, HW6.out, hbb6⟩, by simp [intOf]; omega⟩
          · obtain rfl : j = U := by omega
            go_wp2
            go_ret
            exact ⟨rfl, HB0.out.trans (hbw.mono HB0.out.size)⟩
end Go.Proofs.Ytfcdaelbbcfgjaa.LawB
