/- The walk of the statement that each letter that was sent or doubled is under way, was taken, or is lost. -/
import Derived.Test.YtfcdaelbbcfgjaaLawA
import Derived.Test.YtfcdaelbbcfgjaaOpens
set_option linter.unusedVariables false
namespace Go.Proofs.Ytfcdaelbbcfgjaa.LawC
open Go.RowKit Go.Proofs.Ytfcdaelbbcfgjaa.Kit Go.Proofs.Ytfcdaelbbcfgjaa.Blocks Go.Proofs.Ytfcdaelbbcfgjaa.Ltr Go.Proofs.Ytfcdaelbbcfgjaa.NAt Go.Proofs.Ytfcdaelbbcfgjaa.WalkA Go.Proofs.Ytfcdaelbbcfgjaa.Sol Go.Proofs.Ytfcdaelbbcfgjaa.Begun Go.Proofs.Ytfcdaelbbcfgjaa.LawA Go.Proofs.Ytfcdaelbbcfgjaa.Opens

/-- What holds between two rounds. -/
def Mid (B : Nat) (w0 : World) (p k S T : Nat) (w : World) : Prop := ∃ D lost, Ws B w p D lost ∧ D.length ≤ 256 ∧ S = D.length + T + lost ∧ S ≤ k ∧ Below B w0 w
theorem mid_next {B : Nat} {w0 w w' : World} {p k S lost S' T' lost' : Nat} {D' : List Sd} (hb : Below B w0 w) (hS : S ≤ k) (h : Ws B w' p D' lost') (k' : Below B w w') (hl : D'.length ≤ 256) (hs : S' = D'.length + T' + lost') (hS' : S' ≤ S + 1) : Mid B w0 p (k + 1) S' T' w' :=
  ⟨D', lost', h, hl, hs, by omega, hb.trans k'⟩
theorem snoc_len {D : List Sd} {d : Sd} : (D ++ [d]).length = D.length + 1 := by simp
theorem erase_len {D : List Sd} {k : Nat} (h : k < D.length) : (D.eraseIdx k).length = D.length - 1 := by rw [List.length_eraseIdx, if_pos h]
set_option maxRecDepth 100000 in
set_option maxHeartbeats 16000000 in
theorem counts_walk (A : Option Addr) (n c : Nat) (l : List Int) (i : Int) (w : World) (hr : Reads w w.heap.size 1 A n (ivals l)) (h63 : n ≤ 9223372036854775807) (h : (Lit.int .i64 i).wf = true) : Calls Try.prog 4 #[.slice A n c, .int .i64 i] w fun e w' => e = .returned (.bool true) ∧ Below w.heap.size w w' := by
  have HR := Lib.hid hr
  clear hr
  go_enter Try.func4, Try.ntmps4
  go_wp2_with fail
  with_reducible refine (begun_true _).mono ?_
  rintro e w1 ⟨rfl, hb1⟩
  go_wp2_with fail
  with_reducible refine (new_W w.heap.size _ hb1.size).mono ?_
  rintro e w2 ⟨p, rfl, hw2, hb2⟩
  have HM0 : Hid (Mid w.heap.size w p 0 0 0 w2) := ⟨[], 0, hw2, by simp, rfl, Nat.le_refl _, hb1.trans (hb2.mono hb1.size)⟩
  clear hb1 hb2 hw2
  go_wp2
  go_loopw [6, 7, 21] (fun sv tv iv wr => ∃ k S T : Nat, k ≤ n ∧ k ≤ 900 ∧ iv = .int .i64 (k : Int) ∧ sv = .int .i64 (S : Int) ∧ tv = .int .i64 (T : Int) ∧ Hid (Mid w.heap.size w p k S T wr)) (fun _ _ iv _ => n - (intOf iv).toNat)
  case atStart => exact ⟨0, 0, 0, by omega, by omega, rfl, rfl, rfl, HM0⟩
  case round =>
    obtain ⟨k, S, T, hk, hk9, rfl, rfl, rfl, hmid⟩ := hrel
    obtain ⟨D, lost, hws, hD, hS, hSk, hbw⟩ := hmid.out
    have hbase := hbw.size
    have HWS := Lib.hid hws
    clear hmid hws
    by_cases hlt : k < n ∧ k ≠ 900
    · have hkI : (k : Int) < (n : Int) := by omega
      have hk0 : (0 : Int) ≤ (k : Int) := by omega
      have hk900 : ((k : Int) == 900) = false := by simp; omega
      have hk900' : ¬ (k : Int) = 900 := by omega
      obtain ⟨b, o, z, rfl, hb, hz⟩ := Reads.int (HR.out.below hbw) hlt.1
      have hbl : b < wr.heap.size := by have := hbw.size; omega
      obtain ⟨M, hM, hM4⟩ := modk 4 z (by decide) (by decide)
      have hM' : (wrap64 (z.tmod 4 + 4)).tmod 4 = (M : Int) := hM
      have HCt := Lib.hid (count_W HWS.out)
      have hws1 : IntKind.i64.wrap ((S : Int) + 1) = ((S + 1 : Nat) : Int) := by rw [show (S : Int) + 1 = ((S + 1 : Nat) : Int) by omega]; exact IntWalk.i64_in _ ⟨by omega, by omega⟩
      have hwt1 : IntKind.i64.wrap ((T : Int) + 1) = ((T + 1 : Nat) : Int) := by rw [show (T : Int) + 1 = ((T + 1 : Nat) : Int) by omega]; exact IntWalk.i64_in _ ⟨by omega, by omega⟩
      have hlost : lost < 4611686018427387904 := by omega
      have HBW := Lib.hid hbw
      have HSm := Lib.hid hS
      clear hM hS
      have hcases : M = 0 ∨ M = 1 ∨ M = 2 ∨ M = 3 := by omega
      rcases hcases with rfl | rfl | rfl | rfl
      · -- 0
        have hd0 : ((wrap64 (z.tmod 4 + 4)).tmod 4 == 0) = true := by rw [hM']; rfl
        clear hM'
        by_cases hroom : D.length < 256
        · have HS := Lib.hid fun (w3 : World) (h3 : Ws w.heap.size w3 p D lost) (a b : Int) => send_lit h3 hroom a b
          go_wp2_with fail
          with_reducible refine HCt.out.mono ?_
          rintro e w3 ⟨rfl, hw3, hb3⟩
          have HS3 := Lib.hid (HS.out w3 hw3)
          have HB3 := Lib.hid (hb3.mono HBW.out.size)
          clear hw3 hb3
          go_wp2_with fail
          with_reducible refine (HS3.out _ _).mono ?_
          rintro e w4 ⟨rfl, hw4, hb4⟩
          have HMid : Hid (Mid w.heap.size w p (k + 1) (S + 1) T w4) := mid_next (lost := lost) HBW.out hSk hw4 (HB3.out.trans hb4) (by have := HSm.out; rw [snoc_len]; omega) (by have := HSm.out; rw [snoc_len]; omega) (by omega)
          clear hw4 hb4
          go_wp2
          exact ⟨⟨k + 1, _, _, by omega, by omega, by first | rfl | simp, by first | rfl | simp, by first | rfl | simp, HMid⟩, by simp [intOf]; omega⟩
        · have HS := Lib.hid fun (w3 : World) (h3 : Ws w.heap.size w3 p D lost) (a b : Int) => send_litF h3 (by omega) hlost a b
          go_wp2_with fail
          with_reducible refine HCt.out.mono ?_
          rintro e w3 ⟨rfl, hw3, hb3⟩
          have HS3 := Lib.hid (HS.out w3 hw3)
          have HB3 := Lib.hid (hb3.mono HBW.out.size)
          clear hw3 hb3
          go_wp2_with fail
          with_reducible refine (HS3.out _ _).mono ?_
          rintro e w4 ⟨rfl, hw4, hb4⟩
          have HMid : Hid (Mid w.heap.size w p (k + 1) (S + 1) T w4) := mid_next (lost := lost) HBW.out hSk hw4 (HB3.out.trans hb4) hD (by have := HSm.out; omega) (by omega)
          clear hw4 hb4
          go_wp2
          exact ⟨⟨k + 1, _, _, by omega, by omega, by first | rfl | simp, by first | rfl | simp, by first | rfl | simp, HMid⟩, by simp [intOf]; omega⟩
      · -- 1
        have hd0 : ((wrap64 (z.tmod 4 + 4)).tmod 4 == 0) = false := by rw [hM']; rfl
        have hd1 : ((wrap64 (z.tmod 4 + 4)).tmod 4 == 1) = true := by rw [hM']; rfl
        clear hM'
        rcases Nat.eq_zero_or_pos D.length with h0 | h0
        · obtain rfl := List.eq_nil_of_length_eq_zero h0
          have HS := Lib.hid fun (w3 : World) (h3 : Ws w.heap.size w3 p [] lost) (a : Int) => take_N h3 a
          go_wp2_with fail
          with_reducible refine HCt.out.mono ?_
          rintro e w3 ⟨rfl, hw3, hb3⟩
          have HS3 := Lib.hid (HS.out w3 hw3)
          have HB3 := Lib.hid (hb3.mono HBW.out.size)
          clear hw3 hb3
          go_wp2_with fail
          with_reducible refine (HS3.out _).mono ?_
          rintro e w4 ⟨rfl, hw4, hb4⟩
          have HMid : Hid (∀ o, Mid w.heap.size w p (k + 1) S T (w4.alloc o)) := fun o => mid_next (lost := lost) HBW.out hSk (hw4.below ((Below.refl _ _).alloc (Nat.le_refl _) _)) ((HB3.out.trans hb4).alloc (Nat.le_trans HBW.out.size (Nat.le_trans HB3.out.size hb4.size)) _) (by simp) (by have := HSm.out; simpa using this) (by omega)
          clear hw4 hb4
          unfold ltV
          go_wp2
          exact ⟨⟨k + 1, _, _, by omega, by omega, by first | rfl | simp, by first | rfl | simp, by first | rfl | simp, HMid.out _⟩, by simp [intOf]; omega⟩
        · have HS := Lib.hid fun (w3 : World) (h3 : Ws w.heap.size w3 p D lost) (a : Int) => take_W h3 h0 hD a
          go_wp2_with fail
          with_reducible refine HCt.out.mono ?_
          rintro e w3 ⟨rfl, hw3, hb3⟩
          have HS3 := Lib.hid (HS.out w3 hw3)
          have HB3 := Lib.hid (hb3.mono HBW.out.size)
          clear hw3 hb3
          go_wp2_with fail
          with_reducible refine (HS3.out _).mono ?_
          rintro e w4 ⟨x, d, hd, hx, rfl, hw4, hb4⟩
          obtain ⟨⟨kk, f, t, tm, ix, pv, cm, ok, dt⟩, Aa, m, ca, es⟩ := x
          have hpl := plc_lt (wrap64 (i + (k : Int))) h0
          have HMid : Hid (Mid w.heap.size w p (k + 1) S (T + 1) (w4.alloc (.cells #[.int .i64 kk, .int .i64 f, .int .i64 t, .int .u64 tm, .int .u64 ix, .int .u64 pv, .int .u64 cm, .bool ok, .slice Aa m ca, .string dt] 34))) := mid_next (lost := lost) HBW.out hSk (hw4.below ((Below.refl _ _).alloc (Nat.le_refl _) _)) ((HB3.out.trans hb4).alloc (Nat.le_trans HBW.out.size (Nat.le_trans HB3.out.size hb4.size)) (.cells #[.int .i64 kk, .int .i64 f, .int .i64 t, .int .u64 tm, .int .u64 ix, .int .u64 pv, .int .u64 cm, .bool ok, .slice Aa m ca, .string dt] 34)) (by have := HSm.out; rw [erase_len hpl]; omega) (by have := HSm.out; rw [erase_len hpl]; omega) (by omega)
          clear hw4 hb4 hd hx hpl
          unfold ltV
          simp only
          go_wp2
          exact ⟨⟨k + 1, _, _, by omega, by omega, by first | rfl | simp, by first | rfl | simp, by first | rfl | simp, HMid⟩, by simp [intOf]; omega⟩
      · -- 2
        have hd0 : ((wrap64 (z.tmod 4 + 4)).tmod 4 == 0) = false := by rw [hM']; rfl
        have hd1 : ((wrap64 (z.tmod 4 + 4)).tmod 4 == 1) = false := by rw [hM']; rfl
        have hd2 : ((wrap64 (z.tmod 4 + 4)).tmod 4 == 2) = true := by rw [hM']; rfl
        clear hM'
        rcases Nat.eq_zero_or_pos D.length with h0 | h0
        · obtain rfl := List.eq_nil_of_length_eq_zero h0
          have HS := Lib.hid fun (w3 : World) (h3 : Ws w.heap.size w3 p [] lost) (a : Int) => lose_N h3 a
          go_wp2_with fail
          with_reducible refine HCt.out.mono ?_
          rintro e w3 ⟨rfl, hw3, hb3⟩
          have HS3 := Lib.hid (HS.out w3 hw3)
          have HB3 := Lib.hid (hb3.mono HBW.out.size)
          clear hw3 hb3
          go_wp2_with fail
          with_reducible refine (HS3.out _).mono ?_
          rintro e w4 ⟨rfl, hw4, hb4⟩
          have HMid : Hid (Mid w.heap.size w p (k + 1) S T w4) := mid_next (lost := lost) HBW.out hSk hw4 (HB3.out.trans hb4) (by simp) (by have := HSm.out; simpa using this) (by omega)
          clear hw4 hb4
          go_wp2
          exact ⟨⟨k + 1, _, _, by omega, by omega, by first | rfl | simp, by first | rfl | simp, by first | rfl | simp, HMid⟩, by simp [intOf]; omega⟩
        · have HS := Lib.hid fun (w3 : World) (h3 : Ws w.heap.size w3 p D lost) (a : Int) => lose_W h3 h0 hD hlost a
          go_wp2_with fail
          with_reducible refine HCt.out.mono ?_
          rintro e w3 ⟨rfl, hw3, hb3⟩
          have HS3 := Lib.hid (HS.out w3 hw3)
          have HB3 := Lib.hid (hb3.mono HBW.out.size)
          clear hw3 hb3
          go_wp2_with fail
          with_reducible refine (HS3.out _).mono ?_
          rintro e w4 ⟨rfl, hw4, hb4⟩
          have hpl := plc_lt (wrap64 (i - (k : Int))) h0
          have HMid : Hid (Mid w.heap.size w p (k + 1) S T w4) := mid_next (lost := lost) HBW.out hSk hw4 (HB3.out.trans hb4) (by have := HSm.out; rw [erase_len hpl]; omega) (by have := HSm.out; rw [erase_len hpl]; omega) (by omega)
          clear hw4 hb4 hpl
          go_wp2
          exact ⟨⟨k + 1, _, _, by omega, by omega, by first | rfl | simp, by first | rfl | simp, by first | rfl | simp, HMid⟩, by simp [intOf]; omega⟩
      · -- 3
        have hd0 : ((wrap64 (z.tmod 4 + 4)).tmod 4 == 0) = false := by rw [hM']; rfl
        have hd1 : ((wrap64 (z.tmod 4 + 4)).tmod 4 == 1) = false := by rw [hM']; rfl
        have hd2 : ((wrap64 (z.tmod 4 + 4)).tmod 4 == 2) = false := by rw [hM']; rfl
        clear hM'
        rcases Nat.eq_zero_or_pos D.length with h0 | h0
        · obtain rfl := List.eq_nil_of_length_eq_zero h0
          have HS := Lib.hid fun (w3 : World) (h3 : Ws w.heap.size w3 p [] lost) (a : Int) => double_N h3 a
          simp only [List.length_nil] at HCt
          go_wp2_with fail
          with_reducible refine HCt.out.mono ?_
          rintro e w3 ⟨rfl, hw3, hb3⟩
          have HS3 := Lib.hid (HS.out w3 hw3)
          have HB3 := Lib.hid (hb3.mono HBW.out.size)
          clear hw3 hb3
          go_wp2_with fail
          with_reducible refine (HS3.out _).mono ?_
          rintro e w4 ⟨rfl, hw4, hb4⟩
          have HMid : Hid (Mid w.heap.size w p (k + 1) S T w4) := mid_next (lost := lost) HBW.out hSk hw4 (HB3.out.trans hb4) (by simp) (by have := HSm.out; simpa using this) (by omega)
          clear hw4 hb4
          go_wp2
          exact ⟨⟨k + 1, _, _, by omega, by omega, by first | rfl | simp, by first | rfl | simp, by first | rfl | simp, HMid⟩, by simp [intOf]; omega⟩
        · have hgt : (0 : Int) < (D.length : Int) := by omega
          by_cases hroom : D.length < 256
          · have HS := Lib.hid fun (w3 : World) (h3 : Ws w.heap.size w3 p D lost) (a : Int) => double_W h3 h0 hroom a
            go_wp2_with fail
            with_reducible refine HCt.out.mono ?_
            rintro e w3 ⟨rfl, hw3, hb3⟩
            have HS3 := Lib.hid (HS.out w3 hw3)
            have HB3 := Lib.hid (hb3.mono HBW.out.size)
            clear hw3 hb3
            go_wp2_with fail
            with_reducible refine (HS3.out _).mono ?_
            rintro e w4 ⟨d, hd, rfl, hw4, hb4⟩
            have HMid : Hid (Mid w.heap.size w p (k + 1) (S + 1) T w4) := mid_next (lost := lost) HBW.out hSk hw4 (HB3.out.trans hb4) (by have := HSm.out; rw [snoc_len]; omega) (by have := HSm.out; rw [snoc_len]; omega) (by omega)
            clear hw4 hb4
            go_wp2
            exact ⟨⟨k + 1, _, _, by omega, by omega, by first | rfl | simp, by first | rfl | simp, by first | rfl | simp, HMid⟩, by simp [intOf]; omega⟩
          · have HS := Lib.hid fun (w3 : World) (h3 : Ws w.heap.size w3 p D lost) (a : Int) => double_F h3 (by omega) hlost a
            go_wp2_with fail
            with_reducible refine HCt.out.mono ?_
            rintro e w3 ⟨rfl, hw3, hb3⟩
            have HS3 := Lib.hid (HS.out w3 hw3)
            have HB3 := Lib.hid (hb3.mono HBW.out.size)
            clear hw3 hb3
            go_wp2_with fail
            with_reducible refine (HS3.out _).mono ?_
            rintro e w4 ⟨rfl, hw4, hb4⟩
            have HMid : Hid (Mid w.heap.size w p (k + 1) (S + 1) T w4) := mid_next (lost := lost) HBW.out hSk hw4 (HB3.out.trans hb4) hD (by have := HSm.out; omega) (by omega)
            clear hw4 hb4
            go_wp2
            exact ⟨⟨k + 1, _, _, by omega, by omega, by first | rfl | simp, by first | rfl | simp, by first | rfl | simp, HMid⟩, by simp [intOf]; omega⟩
    · by_cases hn : k < n
      · obtain rfl : k = 900 := by omega
        have hkI : ((900 : Nat) : Int) < (n : Int) := by omega
        have hkJ : (900 : Int) < (n : Int) := by omega
        have hk0 : (0 : Int) ≤ ((900 : Nat) : Int) := by omega
        obtain ⟨b, o, z, rfl, hb, hz⟩ := Reads.int (HR.out.below hbw) hn
        have hbl : b < wr.heap.size := by have := hbw.size; omega
        have HCt := Lib.hid (count_W HWS.out)
        have hs1 : IntKind.i64.wrap ((D.length : Int) + (T : Int)) = ((D.length + T : Nat) : Int) := by rw [show (D.length : Int) + (T : Int) = ((D.length + T : Nat) : Int) by omega]; exact IntWalk.i64_in _ ⟨by omega, by omega⟩
        have hs2 : IntKind.i64.wrap ((D.length : Int) + (T : Int) + (lost : Int)) = (S : Int) := by rw [show (D.length : Int) + (T : Int) + (lost : Int) = (S : Int) by omega]; exact IntWalk.i64_in _ ⟨by omega, by omega⟩
        have hD' : (D.length : Int) ≤ 256 := by omega
        have HBW := Lib.hid hbw
        obtain ⟨U, hU⟩ : ∃ U, D.length = U := ⟨_, rfl⟩
        rw [hU] at HCt hs1 hs2 hD'
        have HU := Lib.hid hU
        have HSum : Hid (S = U + T + lost) := by show _ = _; rw [← hU]; exact hS
        clear hbw hU hS hD
        go_wp2_with fail
        with_reducible refine HCt.out.mono ?_
        rintro e w3 ⟨rfl, hw3, hb3⟩
        have hall := all_W hw3 (by rw [HU.out]; omega)
        rw [HU.out] at hall
        have HA := Lib.hid hall
        have HB3 := Lib.hid (HBW.out.trans (hb3.mono HBW.out.size))
        clear hall hw3 hb3
        go_wp2_with fail
        with_reducible refine HA.out.mono ?_
        rintro e w4 ⟨⟨A4, c4, rfl⟩, hw4, hb4⟩
        have HB4 := Lib.hid (HB3.out.trans (hb4.mono HB3.out.size))
        clear hw4 hb4
        go_wp2
        go_ret
        exact ⟨rfl, HB4.out⟩
      · obtain rfl : k = n := by omega
        have HCt := Lib.hid (count_W HWS.out)
        have hs1 : IntKind.i64.wrap ((D.length : Int) + (T : Int)) = ((D.length + T : Nat) : Int) := by rw [show (D.length : Int) + (T : Int) = ((D.length + T : Nat) : Int) by omega]; exact IntWalk.i64_in _ ⟨by omega, by omega⟩
        have hs2 : IntKind.i64.wrap ((D.length : Int) + (T : Int) + (lost : Int)) = (S : Int) := by rw [show (D.length : Int) + (T : Int) + (lost : Int) = (S : Int) by omega]; exact IntWalk.i64_in _ ⟨by omega, by omega⟩
        have hD' : (D.length : Int) ≤ 256 := by omega
        have HBW := Lib.hid hbw
        obtain ⟨U, hU⟩ : ∃ U, D.length = U := ⟨_, rfl⟩
        rw [hU] at HCt hs1 hs2 hD'
        have HU := Lib.hid hU
        have HSum : Hid (S = U + T + lost) := by show _ = _; rw [← hU]; exact hS
        clear hbw hU hS hD
        go_wp2_with fail
        with_reducible refine HCt.out.mono ?_
        rintro e w3 ⟨rfl, hw3, hb3⟩
        have hall := all_W hw3 (by rw [HU.out]; omega)
        rw [HU.out] at hall
        have HA := Lib.hid hall
        have HB3 := Lib.hid (HBW.out.trans (hb3.mono HBW.out.size))
        clear hall hw3 hb3
        go_wp2_with fail
        with_reducible refine HA.out.mono ?_
        rintro e w4 ⟨⟨A4, c4, rfl⟩, hw4, hb4⟩
        have HB4 := Lib.hid (HB3.out.trans (hb4.mono HB3.out.size))
        clear hw4 hb4
        go_wp2
        go_ret
        exact ⟨rfl, HB4.out⟩
end Go.Proofs.Ytfcdaelbbcfgjaa.LawC
