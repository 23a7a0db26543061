/- The statement StoreAgain of tontinelaw08, its second form, as a tied card: for every input the call returns true, and each argument reads afterwards as it read before (where the arguments hold together at most 1048576 values and letters); the variable tontine/crc.fours starts as the program's text lays it (the card ties it). -/
import Derived.Test.YtamncdpeklbhlaaDoorGD
import Derived.Test.YtamncdpeklbhlaaDoorGC
import Derived.Test.YtamncdpeklbhlaaDoorCards
import Derived.Test.YtamncdpeklbhlaaDoorTie
import Derived.WalkKit
import Derived.ProofKit
import Derived.OpenShut
import Derived.Deep.DeepHandedRow
set_option linter.unusedVariables false
set_option linter.unusedSimpArgs false
namespace Go.Proofs.YtamncdpeklbhlaaDoor.LawC
open Go.RowKit Go.Proofs.YtamncdpeklbhlaaDoor.Kit Go.Proofs.YtamncdpeklbhlaaDoor.Blocks Go.Proofs.YtamncdpeklbhlaaDoor.Rlog Go.Proofs.YtamncdpeklbhlaaDoor.Sto Go.Proofs.YtamncdpeklbhlaaDoor.Sav Go.Proofs.YtamncdpeklbhlaaDoor.Ents Go.Proofs.YtamncdpeklbhlaaDoor.Hold Go.Proofs.YtamncdpeklbhlaaDoor.Del Go.Proofs.YtamncdpeklbhlaaDoor.Save Go.Proofs.YtamncdpeklbhlaaDoor.Anew Go.Proofs.YtamncdpeklbhlaaDoor.Ahe Go.Proofs.YtamncdpeklbhlaaDoor.Open Go.Proofs.YtamncdpeklbhlaaDoor.Model Go.Proofs.YtamncdpeklbhlaaDoor.Ops Go.Proofs.YtamncdpeklbhlaaDoor.ScA Go.Proofs.YtamncdpeklbhlaaDoor.FrA Go.Proofs.YtamncdpeklbhlaaDoor.SumB Go.Proofs.YtamncdpeklbhlaaDoor.Wal Go.Proofs.YtamncdpeklbhlaaDoor.Solo Go.Proofs.YtamncdpeklbhlaaDoor.Sol Go.Proofs.YtamncdpeklbhlaaDoor.Bgn Go.Proofs.YtamncdpeklbhlaaDoor.Cals Go.Proofs.YtamncdpeklbhlaaDoor.Lit Go.Proofs.YtamncdpeklbhlaaDoor.Going Go.Proofs.YtamncdpeklbhlaaDoor.Light Go.Proofs.YtamncdpeklbhlaaDoor.RSame

/-- Open of a new disk: what it gives, and its state by a name. -/
theorem open_new (i c : Nat) (hi : i < 16) (hc : Quorum.sound c = true) (hc64 : c < 18446744073709551616) {B : Nat} {w : World} {p : Nat} (h : Has B [] w p 0 (M.new 1048576)) (htab : Tab w) (hgB : 0 < B) :
    Calls Tryd.prog 9 #[.pointer (some ⟨p, 0, none⟩), .int .i64 (i : Int), .int .u64 (c : Int)] w fun e w' => ∃ t b A cc, e = .returned (.tuple #[.pointer (some ⟨t, 0, none⟩), .agg #[.int .u64 0, .int .i64 (-1), .int .u64 0, .int .u64 0, .int .u64 (c : Int), .string ByteArray.empty, .slice A 0 cc], .int .i64 0]) ∧ (∃ m L v, SAt B [] w' t b p 2 i m (first c) L v ∧ Fit i c m (first c) 0) ∧ Below B w w' := by
  refine (open_lit h htab hgB (by omega) i c hc64 (Lib.hid (sopen_new 1048576 i hi hc))).mono ?_
  rintro e w' ⟨t, b, L', v, A, cc, he, hS, _, hk, _, _⟩
  exact ⟨t, b, A, cc, he, ⟨_, _, _, hS, fit_first i c⟩, hk.below h.low⟩

set_option maxRecDepth 100000 in
set_option maxHeartbeats 8000000 in
theorem again_mid (C : Option Addr) (m cc : Nat) (L : List Cal) (w : World) (hh : Holds w w.heap.size C m L) (hm : m ≤ 9223372036854775807) (hT : total L ≤ 1048576) (ht : Tab w) :
    Calls Tryd.prog 3 #[.slice C m cc] w fun e w' => e = .returned (.bool true) ∧ Below w.heap.size w w' := by
  have hg := Tab.lt ht
  have HT := Lib.hid ht
  have HH := Lib.hid hh
  have HM := Lib.hid hh.1
  obtain ⟨q, hq⟩ : ∃ q, decide (total L ≤ 400) = q := ⟨_, rfl⟩
  have HQ := Lib.hid hq
  have HTL := Lib.hid hT
  clear ht hh hq hT
  go_enter Tryd.func3, Tryd.ntmps3
  go_wp2_with fail
  refine (begun_any _ HT.out).mono ?_
  rintro e w1 ⟨rfl, hB1⟩
  go_wp2_with fail
  refine (light_any C m cc L w1 (HH.out.below hB1 hB1.size) hm HTL.out).mono ?_
  rintro e w2 ⟨rfl, hb2⟩
  rw [HQ.out]
  have hB2 := hB1.trans (hb2.mono hB1.size)
  cases q
  case false =>
    go_wp2
    go_ret
    exact ⟨rfl, hB2⟩
  have hT4 : total L ≤ 400 := of_decide_eq_true HQ.out
  go_wp2_with fail
  refine (new_has (B := w2.heap.size) 1048576 (by omega) (Nat.le_refl _)).mono ?_
  rintro e w3 ⟨p, rfl, hD3, hp, hb3⟩
  have hB3 := hB2.trans (hb3.mono hB2.size)
  have hgB := Nat.lt_of_lt_of_le hg hB2.size
  go_wp2_with fail
  refine (open_new 0 7 (by decide) (by decide) (by decide) hD3 (Tab.next HT.out hB3) hgB).mono ?_
  rintro e w4 ⟨t, b, A, c0, rfl, ⟨m4, L4, v4, hS4, hF4⟩, hb4⟩
  have hG4 : Goes w2.heap.size w4 t b p L 0 := ⟨m4, _, L4, v4, hS4, by simpa [total] using hF4⟩
  have hb4' := (hb3.trans (hb4.mono (Nat.le_refl _)))
  have l5 : Below w4.heap.size w4 (w4.alloc (.cells #[.int .u64 0, .int .i64 (-1), .int .u64 0, .int .u64 0, .int .u64 7, .string ByteArray.empty, .slice A 0 c0] 37)) := (Below.refl _ _).alloc (Nat.le_refl _) _
  have hG5 := hG4.below l5
  have hB5 := hb4'.trans (l5.mono hG4.base)
  clear hD3 hG4 l5 hb4' hb4 hb3 hB3 hB1 hS4 hF4
  go_wp2_with fail
  go_loopw [41] (fun x wr => ∃ (k : Nat), k ≤ m ∧ x = .int .i64 (k : Int) ∧ Hid (Goes w2.heap.size wr t b p L k) ∧ Below w2.heap.size w2 wr) (fun x _ => m - (intOf x).toNat)
  case atStart => exact ⟨0, by omega, rfl, Lib.hid hG5, hB5⟩
  case round =>
    obtain ⟨k, hk, rfl, HG, hbel⟩ := hrel
    have hbw : Below w.heap.size w wr := hB2.trans (hbel.mono hB2.size)
    by_cases hkm : k < m
    · obtain ⟨x, hx⟩ : ∃ x, L[k]? = some x := ⟨_, List.getElem?_eq_getElem (by rw [HM.out]; exact hkm)⟩
      obtain ⟨b', o, rfl, hbl, hten, hcal⟩ := (HH.out.below hbw hB2.size).2 k x hx
      have c0 := hten.c0
      have c1 := hten.c1
      have c2 := hten.c2
      have c3 := hten.c3
      have c4 := hten.c4
      have c5 := hten.c5
      have c6 := hten.c6
      have c7 := hten.c7
      have l6 : Below wr.heap.size wr (wr.alloc (.cells #[.bool x.anew, .int .u64 (x.term : Int), .int .i64 x.vote, .int .u64 (x.snap.idx : Int), .int .u64 (x.snap.term : Int), .int .u64 (x.snap.cfg : Int), .string x.snap.data, .slice x.A x.n x.c] 41)) := (Below.refl _ _).alloc (Nat.le_refl _) _
      have htb := Tab.next HT.out (hbw.trans (l6.mono hbw.size))
      have hca := hcal.below (l6.mono HG.out.base) (Nat.le_refl _)
      have hon := on_save (HG.out.below l6) htb hgB hx hca hT4
      have han := on_anew (HG.out.below l6) htb hgB hx hca hT4
      have hb6 := hbel.trans (l6.mono hbel.size)
      obtain ⟨xa, hxa⟩ : ∃ xa, x.anew = xa := ⟨_, rfl⟩
      rw [hxa] at c0 hon han hb6
      have HON := Lib.hid hon
      have HAN := Lib.hid han
      clear hten hcal hon han l6 htb hca hxa
      cases xa
      · go_wp2_with fail
        refine HON.out.mono ?_
        rintro e w7 ⟨⟨r, rfl⟩, hG7, hb7⟩
        go_wp2_with fail
        go_roundw
        case rel => exact ⟨k + 1, by omega, by go_num, Lib.hid hG7, hb6.trans (hb7.mono (Nat.le_refl _))⟩
        case measure => simp [intOf]; omega
      · go_wp2_with fail
        refine HAN.out.mono ?_
        rintro e w7 ⟨⟨r, rfl⟩, hG7, hb7⟩
        go_wp2_with fail
        go_roundw
        case rel => exact ⟨k + 1, by omega, by go_num, Lib.hid hG7, hb6.trans (hb7.mono (Nat.le_refl _))⟩
        case measure => simp [intOf]; omega
    · obtain rfl : k = m := by omega
      have hG := HG.out
      obtain ⟨m7, s7, L7, v7, hS7, hF7⟩ := hG
      have hk4 : k ≤ 400 := by
        have := len_total L
        rw [HM.out] at this
        omega
      have hT7 : total (L.take k) ≤ 400 := Nat.le_trans (total_le L k) hT4
      have hes : s7.es.length ≤ 400 := Nat.le_trans hF7.len hT7
      have HS7 := Lib.hid hS7
      have HF7 := Lib.hid hF7
      clear hF7
      go_wp2_with fail
      refine (state_any hS7.sto (by omega)).mono ?_
      rintro e w9 ⟨A9, cc9, rfl, hown, hb9⟩
      have hre9 := Few.Gives.reads hown
      unfold staV
      have hS9 := hS7.below hb9
      have hB9 := hbw.trans (hb9.mono hbw.size)
      have l10 : Below w9.heap.size w9 (w9.alloc (.cells #[.int .u64 (s7.term : Int), .int .i64 s7.vote, .int .u64 (s7.snap.idx : Int), .int .u64 (s7.snap.term : Int), .int .u64 (s7.snap.cfg : Int), .string s7.snap.data, .slice A9 s7.es.length cc9] 37)) := (Below.refl _ _).alloc (Nat.le_refl _) _
      have hn10 := heap_alloc_new w9 (.cells #[.int .u64 (s7.term : Int), .int .i64 s7.vote, .int .u64 (s7.snap.idx : Int), .int .u64 (s7.snap.term : Int), .int .u64 (s7.snap.cfg : Int), .string s7.snap.data, .slice A9 s7.es.length cc9] 37)
      obtain ⟨w10, hw10⟩ : ∃ w10, w9.alloc (.cells #[.int .u64 (s7.term : Int), .int .i64 s7.vote, .int .u64 (s7.snap.idx : Int), .int .u64 (s7.snap.term : Int), .int .u64 (s7.snap.cfg : Int), .string s7.snap.data, .slice A9 s7.es.length cc9] 37) = w10 := ⟨_, rfl⟩
      rw [hw10] at l10 hn10
      have HW10 := Lib.hid hw10
      have hB10 := hB9.trans (l10.mono hB9.size)
      have hS10 := hS9.below l10
      have hre10 := (Kit.Reads.below hre9 l10).more l10.size
      have ht10 := Tab.next HT.out hB10
      have hlt10 := lt_at hn10
      obtain ⟨m8, ho8⟩ := fit_crash (by decide) Lit.sound7 HF7.out HS7.out.ok (by omega) []
      have HO8 := Lib.hid ho8
      clear hw10 l10 hS9 hB9 hre9 hown ho8
      go_wp2_with fail
      rw [HW10.out]
      refine (crash_low hS10.disk).mono ?_
      rintro e w11 ⟨p', rfl, hD11, hb11⟩
      have hB11 := hB10.trans (hb11.mono hB10.size)
      have hg10 := Nat.lt_of_lt_of_le hg hB10.size
      have hb11b := hD11.low
      go_wp2_with fail
      refine (open_lit hD11 (Tab.next HT.out hB11) hg10 (by omega) 0 7 (by decide) HO8).mono ?_
      rintro e w12 ⟨t', b', L', v', A12, cc12, rfl, hS12, hre12, hk12, _, _⟩
      unfold staV
      have hb12 := hk12.below hb11b
      have hb1012 := hb11.trans (hb12.mono (Nat.le_refl _))
      have l13 : Below w12.heap.size w12 (w12.alloc (.cells #[.int .u64 (s7.term : Int), .int .i64 s7.vote, .int .u64 (s7.snap.idx : Int), .int .u64 (s7.snap.term : Int), .int .u64 (s7.snap.cfg : Int), .string s7.snap.data, .slice A12 s7.es.length cc12] 37)) := (Below.refl _ _).alloc (Nat.le_refl _) _
      have hn13 := heap_alloc_new w12 (.cells #[.int .u64 (s7.term : Int), .int .i64 s7.vote, .int .u64 (s7.snap.idx : Int), .int .u64 (s7.snap.term : Int), .int .u64 (s7.snap.cfg : Int), .string s7.snap.data, .slice A12 s7.es.length cc12] 37)
      obtain ⟨w13, hw13⟩ : ∃ w13, w12.alloc (.cells #[.int .u64 (s7.term : Int), .int .i64 s7.vote, .int .u64 (s7.snap.idx : Int), .int .u64 (s7.snap.term : Int), .int .u64 (s7.snap.cfg : Int), .string s7.snap.data, .slice A12 s7.es.length cc12] 37) = w13 := ⟨_, rfl⟩
      rw [hw13] at l13 hn13
      have HW13 := Lib.hid hw13
      have hb1013 := hb1012.trans (l13.mono hb1012.size)
      have hB13 := hB10.trans (hb1013.mono hB10.size)
      have hre9_13 := (Kit.Reads.below hre10 hb1013).more hb1013.size
      have hre12_13 := (Kit.Reads.below hre12 l13).more l13.size
      have hn10_13 := (hb1013.block w9.heap.size hlt10).trans hn10
      have hlt13 := lt_at hn13
      have hlt10_13 := lt_at hn10_13
      have hgB13 := Nat.lt_of_lt_of_le hg hB13.size
      clear hw13 l13 hre10 hre12 hk12 hS12 hb12 hb1012 hb1013 hD11 hb11 hB11 hS10 hn10 ht10
      go_wp2_with fail
      rw [HW13.out]
      refine (new_has (B := w13.heap.size) 1048576 (by omega) (Nat.le_refl _)).mono ?_
      rintro e w14 ⟨p2, rfl, hD14, _, hb14⟩
      have hB14 := hB13.trans (hb14.mono hB13.size)
      go_wp2_with fail
      refine (open_new 3 1 (by decide) (by decide) (by decide) hD14 (Tab.next HT.out hB14) hgB13).mono ?_
      rintro e w15 ⟨t2, b2, A15, c15, rfl, ⟨m15, L15, v15, hS15, hF15⟩, hb15⟩
      have hb1315 := hb14.trans (hb15.mono (Nat.le_refl _))
      have l16 : Below w15.heap.size w15 (w15.alloc (.cells #[.int .u64 0, .int .i64 (-1), .int .u64 0, .int .u64 0, .int .u64 1, .string ByteArray.empty, .slice A15 0 c15] 37)) := (Below.refl _ _).alloc (Nat.le_refl _) _
      obtain ⟨w16, hw16⟩ : ∃ w16, w15.alloc (.cells #[.int .u64 0, .int .i64 (-1), .int .u64 0, .int .u64 0, .int .u64 1, .string ByteArray.empty, .slice A15 0 c15] 37) = w16 := ⟨_, rfl⟩
      rw [hw16] at l16
      have HW16 := Lib.hid hw16
      have hS16 := hS15.below l16
      have hb1316 := hb1315.trans (l16.mono hS15.base)
      have hB16 := hB13.trans (hb1316.mono hB13.size)
      have hn10_16 := (hb1316.block w9.heap.size hlt10_13).trans hn10_13
      have hre9_16 := Kit.Reads.below hre9_13 hb1316
      have y0 : w16.cell? ⟨w9.heap.size, 0, none⟩ = some (.int .u64 (s7.term : Int)) := by rw [cell_at hn10_16]; rfl
      have y1 : w16.cell? ⟨w9.heap.size, 1, none⟩ = some (.int .i64 s7.vote) := by rw [cell_at hn10_16]; rfl
      have y2 : w16.cell? ⟨w9.heap.size, 2, none⟩ = some (.int .u64 (s7.snap.idx : Int)) := by rw [cell_at hn10_16]; rfl
      have y3 : w16.cell? ⟨w9.heap.size, 3, none⟩ = some (.int .u64 (s7.snap.term : Int)) := by rw [cell_at hn10_16]; rfl
      have y4 : w16.cell? ⟨w9.heap.size, 4, none⟩ = some (.int .u64 (s7.snap.cfg : Int)) := by rw [cell_at hn10_16]; rfl
      have y5 : w16.cell? ⟨w9.heap.size, 5, none⟩ = some (.string s7.snap.data) := by rw [cell_at hn10_16]; rfl
      have y6 : w16.cell? ⟨w9.heap.size, 6, none⟩ = some (.slice A9 s7.es.length cc9) := by rw [cell_at hn10_16]; rfl
      have hlt10_16 := lt_at hn10_16
      obtain ⟨r17, m17, s17, hs17, hF17, hok17⟩ := fit_anew (x := 401) (by decide) hF15 HS7.out.sb (by have := HF7.out; obtain ⟨_, _, _, _, _, _, h6⟩ := this; omega) (by have := HF7.out; obtain ⟨_, _, _, _, _, h5, _⟩ := this; unfold weight at h5; omega) (by omega)
      obtain ⟨rfl, rfl⟩ := hok17 (by have := HF7.out; obtain ⟨_, _, _, _, _, _, h6⟩ := this; unfold okAnew; rw [HS7.out.ok, decide_eq_true h6]; rfl)
      have HS17 := Lib.hid hs17
      have HF17 := Lib.hid hF17
      rw [← hw16] at y0 y1 y2 y3 y4 y5 y6
      have hn10_16' := Lib.hid hn10_16
      clear hw16 l16 hb1315 hb15 hS15 hb14 hD14 hB14 hF15 hs17 hF17 hok17 hn10_16
      go_wp2_with fail
      rw [HW16.out]
      refine (anew_any' hS16 (Tab.next HT.out hB16) hgB13 (by omega) s17 HS7.out.sb A9 s17.es.length cc9 hre9_16 (by omega) (by have := HF7.out; obtain ⟨_, _, _, _, _, _, h6⟩ := this; omega)).mono ?_
      intro e w17 hh17
      unfold Saved at hh17
      rw [show sanew m15 ((3 : Nat) : Int) (first 1) s17 = (0, (m17, s17)) from HS17.out] at hh17
      obtain ⟨rfl, ⟨L17, v17, hS17⟩, hk17⟩ := hh17
      have hb17 := hk17.below hS16.base
      have hb1317 := hb1316.trans (hb17.mono (Nat.le_refl _))
      have hB17 := hB13.trans (hb1317.mono hB13.size)
      have hn13_17 := (hb1317.block w12.heap.size hlt13).trans hn13
      have hn10_17 := (hb1317.block w9.heap.size hlt10_13).trans hn10_13
      obtain ⟨m18, ho18⟩ := fit_open (by decide) (by decide) HF17.out HS7.out.ok (by omega)
      have HO18 := Lib.hid ho18
      have hbs17 := hS17.base
      clear hk17 y0 y1 y2 y3 y4 y5 y6 ho18 hS16
      go_wp2_with fail
      refine (open_lit hS17.disk (Tab.next HT.out hB17) hgB13 (by omega) 3 1 (by decide) HO18).mono ?_
      rintro e w18 ⟨t3, b3, L18, v18, A18, cc18, rfl, hS18, hre18, hk18, _, _⟩
      unfold staV
      have hb18 := hk18.below hbs17
      have hn13_18 := (hb18.block w12.heap.size hlt13).trans hn13_17
      have hn10_18 := (hb18.block w9.heap.size hlt10_13).trans hn10_17
      have hb1318 := hb1317.trans hb18
      have hB18 := hB13.trans (hb1318.mono hB13.size)
      have l19 : Below w18.heap.size w18 (w18.alloc (.cells #[.int .u64 (s17.term : Int), .int .i64 s17.vote, .int .u64 (s17.snap.idx : Int), .int .u64 (s17.snap.term : Int), .int .u64 (s17.snap.cfg : Int), .string s17.snap.data, .slice A18 s17.es.length cc18] 37)) := (Below.refl _ _).alloc (Nat.le_refl _) _
      have hn19 := heap_alloc_new w18 (.cells #[.int .u64 (s17.term : Int), .int .i64 s17.vote, .int .u64 (s17.snap.idx : Int), .int .u64 (s17.snap.term : Int), .int .u64 (s17.snap.cfg : Int), .string s17.snap.data, .slice A18 s17.es.length cc18] 37)
      obtain ⟨w19, hw19⟩ : ∃ w19, w18.alloc (.cells #[.int .u64 (s17.term : Int), .int .i64 s17.vote, .int .u64 (s17.snap.idx : Int), .int .u64 (s17.snap.term : Int), .int .u64 (s17.snap.cfg : Int), .string s17.snap.data, .slice A18 s17.es.length cc18] 37) = w19 := ⟨_, rfl⟩
      rw [hw19] at l19 hn19
      have hs19 : w19.heap.size = w18.heap.size + 1 := by rw [← hw19]; simp
      have hre18_19 := (Kit.Reads.below hre18 l19).more l19.size
      have hlt19 := lt_at hn19
      have hn13_19 := (l19.block w12.heap.size (lt_at hn13_18)).trans hn13_18
      have hn10_19 := (l19.block w9.heap.size (lt_at hn10_18)).trans hn10_18
      have hb1319 := hb1318.trans (l19.mono hb1318.size)
      have y0 : w19.cell? ⟨w9.heap.size, 0, none⟩ = some (.int .u64 (s17.term : Int)) := by rw [cell_at hn10_19]; rfl
      have y1 : w19.cell? ⟨w9.heap.size, 1, none⟩ = some (.int .i64 s17.vote) := by rw [cell_at hn10_19]; rfl
      have y2 : w19.cell? ⟨w9.heap.size, 2, none⟩ = some (.int .u64 (s17.snap.idx : Int)) := by rw [cell_at hn10_19]; rfl
      have y3 : w19.cell? ⟨w9.heap.size, 3, none⟩ = some (.int .u64 (s17.snap.term : Int)) := by rw [cell_at hn10_19]; rfl
      have y4 : w19.cell? ⟨w9.heap.size, 4, none⟩ = some (.int .u64 (s17.snap.cfg : Int)) := by rw [cell_at hn10_19]; rfl
      have y5 : w19.cell? ⟨w9.heap.size, 5, none⟩ = some (.string s17.snap.data) := by rw [cell_at hn10_19]; rfl
      have y6 : w19.cell? ⟨w9.heap.size, 6, none⟩ = some (.slice A9 s17.es.length cc9) := by rw [cell_at hn10_19]; rfl
      have hlt10_19 := lt_at hn10_19
      rw [← hw19] at y0 y1 y2 y3 y4 y5 y6
      have HW19 := Lib.hid hw19
      have l20 : Below w19.heap.size w19 (w19.alloc (.cells #[.int .u64 (s17.term : Int), .int .i64 s17.vote, .int .u64 (s17.snap.idx : Int), .int .u64 (s17.snap.term : Int), .int .u64 (s17.snap.cfg : Int), .string s17.snap.data, .slice A9 s17.es.length cc9] 46)) := (Below.refl _ _).alloc (Nat.le_refl _) _
      have hn20 := heap_alloc_new w19 (.cells #[.int .u64 (s17.term : Int), .int .i64 s17.vote, .int .u64 (s17.snap.idx : Int), .int .u64 (s17.snap.term : Int), .int .u64 (s17.snap.cfg : Int), .string s17.snap.data, .slice A9 s17.es.length cc9] 46)
      obtain ⟨w20, hw20⟩ : ∃ w20, w19.alloc (.cells #[.int .u64 (s17.term : Int), .int .i64 s17.vote, .int .u64 (s17.snap.idx : Int), .int .u64 (s17.snap.term : Int), .int .u64 (s17.snap.cfg : Int), .string s17.snap.data, .slice A9 s17.es.length cc9] 46) = w20 := ⟨_, rfl⟩
      rw [hw20] at l20 hn20
      have HW20 := Lib.hid hw20
      have hre18_20 := (Kit.Reads.below hre18_19 l20).more l20.size
      have hlt20 := lt_at hn20
      have hn19_20 := (l20.block w18.heap.size hlt19).trans hn19
      have hn13_20 := (l20.block w12.heap.size (lt_at hn13_19)).trans hn13_19
      have hb1320 := hb1319.trans (l20.mono hb1319.size)
      have hB20 := hB13.trans (hb1320.mono hB13.size)
      have hre9_20 := (Kit.Reads.below hre9_13 hb1320).more hb1320.size
      have hre12_20 := (Kit.Reads.below hre12_13 hb1320).more hb1320.size
      have hn20' := hn20
      rw [hs19] at hn20'
      have x0 : w20.cell? ⟨w12.heap.size, 0, none⟩ = some (.int .u64 (s17.term : Int)) := by rw [cell_at hn13_20]; rfl
      have x1 : w20.cell? ⟨w12.heap.size, 1, none⟩ = some (.int .i64 s17.vote) := by rw [cell_at hn13_20]; rfl
      have x2 : w20.cell? ⟨w12.heap.size, 2, none⟩ = some (.int .u64 (s17.snap.idx : Int)) := by rw [cell_at hn13_20]; rfl
      have x3 : w20.cell? ⟨w12.heap.size, 3, none⟩ = some (.int .u64 (s17.snap.term : Int)) := by rw [cell_at hn13_20]; rfl
      have x4 : w20.cell? ⟨w12.heap.size, 4, none⟩ = some (.int .u64 (s17.snap.cfg : Int)) := by rw [cell_at hn13_20]; rfl
      have x5 : w20.cell? ⟨w12.heap.size, 5, none⟩ = some (.string s17.snap.data) := by rw [cell_at hn13_20]; rfl
      have x6 : w20.cell? ⟨w12.heap.size, 6, none⟩ = some (.slice A12 s17.es.length cc12) := by rw [cell_at hn13_20]; rfl
      have z0 : w20.cell? ⟨w18.heap.size + 1, 0, none⟩ = some (.int .u64 (s17.term : Int)) := by rw [cell_at hn20']; rfl
      have z1 : w20.cell? ⟨w18.heap.size + 1, 1, none⟩ = some (.int .i64 s17.vote) := by rw [cell_at hn20']; rfl
      have z2 : w20.cell? ⟨w18.heap.size + 1, 2, none⟩ = some (.int .u64 (s17.snap.idx : Int)) := by rw [cell_at hn20']; rfl
      have z3 : w20.cell? ⟨w18.heap.size + 1, 3, none⟩ = some (.int .u64 (s17.snap.term : Int)) := by rw [cell_at hn20']; rfl
      have z4 : w20.cell? ⟨w18.heap.size + 1, 4, none⟩ = some (.int .u64 (s17.snap.cfg : Int)) := by rw [cell_at hn20']; rfl
      have z5 : w20.cell? ⟨w18.heap.size + 1, 5, none⟩ = some (.string s17.snap.data) := by rw [cell_at hn20']; rfl
      have z6 : w20.cell? ⟨w18.heap.size + 1, 6, none⟩ = some (.slice A9 s17.es.length cc9) := by rw [cell_at hn20']; rfl
      have HN19 := Lib.hid hn19_20
      have HN20 := Lib.hid hn20'
      have hzlt := lt_at hn20'
      have hxlt := lt_at hn13_20
      rw [← hw20, ← hw19] at x0 x1 x2 x3 x4 x5 x6 z0 z1 z2 z3 z4 z5 z6 hzlt hxlt
      clear hn19_20 hn20 hn20' hn13_20 hlt20 hs19
      clear hw19 hw20 l19 l20 hre18 hre18_19 hn13_18 hn10_18 hn13_17 hn10_17 hS18 hk18 hb18 hS17 hn10_19 hn13_19 hn19 hb1318 hB18
      go_wp2_with fail
      rw [HW19.out, HW20.out]
      refine (same_any s17 s17 hre12_20 hre9_20 (by omega) (by omega)).mono ?_
      rintro e w21 ⟨q, rfl, hq, hb21⟩
      obtain rfl := hq rfl
      have hB21 := hB20.trans (hb21.mono hB20.size)
      have hn19_21 := (hb21.block w18.heap.size (lt_at HN19.out)).trans HN19.out
      have hn20_21 := (hb21.block (w18.heap.size + 1) (lt_at HN20.out)).trans HN20.out
      have hre18_21 := (Kit.Reads.below hre18_20 hb21).more hb21.size
      have hre9_21 := (Kit.Reads.below hre9_20 hb21).more hb21.size
      clear x0 x1 x2 x3 x4 x5 x6 y0 y1 y2 y3 y4 y5 y6 z0 z1 z2 z3 z4 z5 z6 hzlt hxlt hq
      have x0 : w21.cell? ⟨w18.heap.size, 0, none⟩ = some (.int .u64 (s17.term : Int)) := by rw [cell_at hn19_21]; rfl
      have x1 : w21.cell? ⟨w18.heap.size, 1, none⟩ = some (.int .i64 s17.vote) := by rw [cell_at hn19_21]; rfl
      have x2 : w21.cell? ⟨w18.heap.size, 2, none⟩ = some (.int .u64 (s17.snap.idx : Int)) := by rw [cell_at hn19_21]; rfl
      have x3 : w21.cell? ⟨w18.heap.size, 3, none⟩ = some (.int .u64 (s17.snap.term : Int)) := by rw [cell_at hn19_21]; rfl
      have x4 : w21.cell? ⟨w18.heap.size, 4, none⟩ = some (.int .u64 (s17.snap.cfg : Int)) := by rw [cell_at hn19_21]; rfl
      have x5 : w21.cell? ⟨w18.heap.size, 5, none⟩ = some (.string s17.snap.data) := by rw [cell_at hn19_21]; rfl
      have x6 : w21.cell? ⟨w18.heap.size, 6, none⟩ = some (.slice A18 s17.es.length cc18) := by rw [cell_at hn19_21]; rfl
      have z0 : w21.cell? ⟨w18.heap.size + 1, 0, none⟩ = some (.int .u64 (s17.term : Int)) := by rw [cell_at hn20_21]; rfl
      have z1 : w21.cell? ⟨w18.heap.size + 1, 1, none⟩ = some (.int .i64 s17.vote) := by rw [cell_at hn20_21]; rfl
      have z2 : w21.cell? ⟨w18.heap.size + 1, 2, none⟩ = some (.int .u64 (s17.snap.idx : Int)) := by rw [cell_at hn20_21]; rfl
      have z3 : w21.cell? ⟨w18.heap.size + 1, 3, none⟩ = some (.int .u64 (s17.snap.term : Int)) := by rw [cell_at hn20_21]; rfl
      have z4 : w21.cell? ⟨w18.heap.size + 1, 4, none⟩ = some (.int .u64 (s17.snap.cfg : Int)) := by rw [cell_at hn20_21]; rfl
      have z5 : w21.cell? ⟨w18.heap.size + 1, 5, none⟩ = some (.string s17.snap.data) := by rw [cell_at hn20_21]; rfl
      have z6 : w21.cell? ⟨w18.heap.size + 1, 6, none⟩ = some (.slice A9 s17.es.length cc9) := by rw [cell_at hn20_21]; rfl
      have hzlt := lt_at hn20_21
      have hxlt := lt_at hn19_21
      clear hn19_21 hn20_21 hb21
      go_wp2_with fail
      refine (same_any s17 s17 hre18_21 hre9_21 (by omega) (by omega)).mono ?_
      rintro e w22 ⟨q, rfl, hq, hb22⟩
      obtain rfl := hq rfl
      have hB22 := hB21.trans (hb22.mono hB21.size)
      go_wp2
      go_ret
      exact ⟨rfl, hB22⟩
theorem small {H : Type} {d : DataW H} {l : List (DataW H)} {a : Nat} (h : a ≤ Rows.uptoBulk d) (hall : Rows.uptoBulkAll (d :: l) ≤ 1048576) : a ≤ 1048576 := by
  simp only [Rows.uptoBulkAll] at hall
  omega
theorem again_walk (C : Option Addr) (m cc : Nat) (L : List Cal) (w : World) (hh : Holds w w.heap.size C m L) (hm : m ≤ 9223372036854775807) (hT : total L ≤ 1048576) (ht : Tab w) :
    Calls Tryd.prog 3 #[.slice C m cc] w fun e w' => e = .returned (.bool true) ∧ Below w.heap.size w w' := again_mid C m cc L w hh hm hT ht
end Go.Proofs.YtamncdpeklbhlaaDoor.LawC
namespace Go.Proofs.YtamncdpeklbhlaaDoor.PStoreAgainUpto
open Go.ChangeShapes Go.WideShapes Go.ChangeAt Go.RowKit Go.Proofs.YtamncdpeklbhlaaDoor.Kit Go.Proofs.YtamncdpeklbhlaaDoor.Frame
set_option linter.unusedVariables false

theorem own : ownKnob Tryd.prog.godebug = none := by kernel_rfl
theorem laidOut : laidOutB Tryd.prog = true := by kernel_rfl

set_option maxRecDepth 100000 in
theorem contract (H : Type) (enc : TypeId × Value → H) (W : World) (base : Nat) (args : Array Value) (ds gs : List (DataW H)) (before : List MemPlace)
    (hval : ∀ (j : Nat) t v, Tryd.f3.params[j]? = some t → args[j]? = some v → Value.okWide Tryd.prog W .any base t v)
    (hW : DataW.Whole enc Tryd.prog Tryd.f3.params.toList Rows.storeAgainSpec.vars false W args.toList ds gs before)
    (hk : Rows.uptoSmall H (ds ++ gs) = true)
    (hs0 : (DataW.weightsEach Tryd.prog (Tryd.f3.params.toList ++ (Rows.OpenSpec.upto Rows.storeAgainSpec).bare.plain.varTypes Tryd.prog) (ds ++ gs)).all (· ≤ reachBytes) = true)
    (hL : laidMetH Tryd.prog Rows.storeAgainUptoRow.laid W) :
    Calls Tryd.prog 3 args W fun e W' => ∃ v, e = .returned v ∧ Rows.storeAgainSpec.post enc Tryd.prog Tryd.f3 false true false false W args v W' := by
  have hW' := hW
  obtain ⟨p, q, hA0, hV, rfl, hfz, hnd⟩ := hW
  have hA : DataW.TrodAll enc Tryd.prog W 0 (fun _ => true) true Tryd.f3.params.toList args.toList ds p := hA0
  rw [Tryd.params3] at hA hval
  obtain ⟨v0, vs0, d0, ds0, p0, q0, hargs, rfl, rfl, h0, r0⟩ := trodAll_cons hA
  obtain ⟨rfl, rfl, rfl⟩ := trodAll_nil r0
  obtain rfl : args = #[v0] := by cases args; simp_all
  obtain ⟨rfl, rfl⟩ := trodVars_none hV
  have lt0 : ∀ x ∈ p0, x.block < W.heap.size := by obtain ⟨m, hm⟩ := h0; exact DataW.trod_lt m _ _ _ hm
  obtain ⟨C0, m0, cc0, L0, rfl, hh0_0, hm0_1, d0_2⟩ := Opens.arg_calls (hval 0 22 v0 rfl rfl) h0
  have hall : Rows.uptoBulkAll _ ≤ 1048576 := of_decide_eq_true hk
  clear hA0
  refine (LawC.again_walk C0 m0 cc0 L0 W hh0_0 hm0_1 (LawC.small d0_2 hall) (Laid.tab_of_laid hL)).mono fun e W' ⟨he, bel⟩ => ?_
  subst he
  exact ⟨_, rfl, _, _, _, [], _, [], hW', trodAll_mk1 (shut_bool Tryd.underlying4 _), (trodAll_cons_mk (Below.trod laidOut (by kernel_rfl) (of_decide_eq_true (by kernel_rfl)) h0 bel lt0) trodAll_mk0), rfl, bel.frame _, fun h => by cases h⟩

theorem laid_met (os : Os) : laidMet Tryd.prog Rows.storeAgainUptoRow.laid (((Laid.laidWorld os)).forCall (fun _ _ => 0) ⟨#[], #[.slice none 0 0], []⟩).memory :=
  laidMet_of_run' 8 (by kernel_rfl) (by kernel_rfl)
theorem reads (os : Os) {H : Type} (enc : TypeId × Value → H) : ∃ places, DataW.whole enc Tryd.prog ((Laid.laidWorld os).forCall (fun _ _ => 0) ⟨#[], #[.slice none 0 0], []⟩).memory Tryd.f3.params.toList Rows.storeAgainSpec.vars false (#[.slice none 0 0] : Array Value).toList 8 = some ([.nil], [], places) :=
  ⟨[], by kernel_rfl⟩

set_option maxRecDepth 100000 in
theorem lifted (os : Os) (started : os.Started) (H : Type) (enc : TypeId × Value → H) (F : Stop.Interp) :
    ReturnsInHanded {} Tryd.checked os 3 .any ((Rows.OpenSpec.upto Rows.storeAgainSpec).preRow enc Tryd.prog Tryd.f3 Rows.storeAgainUptoRow.domain false Rows.storeAgainUptoRow.laid) (((Rows.OpenSpec.upto Rows.storeAgainSpec).at F).post enc Tryd.prog Tryd.f3 false true false false) := by
  obtain ⟨places, hx⟩ := reads os enc
  refine returnsInHanded_of_row (C := Tryd.checked) (s := (Rows.OpenSpec.upto Rows.storeAgainSpec)) own started (by kernel_rfl) Tryd.func3
    (witness_row_at (enc := enc) (C := Tryd.checked) false (Laid.laidWorld os) #[.slice none 0 0] rfl (by kernel_rfl) (by kernel_rfl) (by kernel_rfl)
      (OpenSpec.preRow_of_cond 8 hx (by kernel_rfl) (fun k hk => by cases hk; kernel_rfl) (by kernel_rfl) (laid_met os))) ?_
  intro W base args ds gs before hval hW _ hcond hsz hL _ _
  exact contract H enc W base args ds gs before hval hW (hcond _ rfl) hsz hL

theorem over : Rows.StoreAgainUptoSaid :=
  OpenClaim.holds_of_cond 3 Tryd.f3 rfl rfl rfl rfl rfl rfl rfl ⟨rfl, rfl, rfl, rfl, rfl⟩ rfl rfl rfl rfl rfl (by kernel_rfl) Tryd.func3 (by kernel_rfl)
    (of_decide_eq_true (by kernel_rfl)) (by unfold Func.isWrapper; first | (rw [if_pos (by decide +kernel)]; kernel_rfl) | (rw [if_neg (by decide +kernel)]; exact ⟨rfl, rfl⟩))
    (fun os started H enc _ F => by rw [OpenClaim.pre_eq_preRow]; exact lifted os started H enc F)

theorem plain (f : FuncId) (fn : Func) (hf : Tryd.pinned.checked.prog.funcNamed "tontine/tontinelaw08.StoreAgain" = some f) (hfn : Tryd.pinned.checked.prog.funcs[f]? = some fn) :
    false = Tryd.pinned.checked.prog.looks [] ∧ ∀ (j : Nat) t, fn.params[j]? = some t → Tryd.pinned.checked.prog.wantsStandIn t = false := by
  obtain rfl : f = 3 := Option.some.inj ((show Tryd.prog.funcNamed "tontine/tontinelaw08.StoreAgain" = some 3 by kernel_rfl).symm.trans hf) |>.symm
  obtain rfl : fn = Tryd.f3 := (Option.some.inj (Tryd.func3.symm.trans hfn)).symm
  refine ⟨by kernel_rfl, fun j t ht => ?_⟩
  rw [Tryd.params3] at ht
  have hm : t ∈ [22] := by simpa using Array.mem_of_getElem? ht
  have hall : (([22] : List TypeId).all fun u => !Tryd.prog.wantsStandIn u) = true := by kernel_rfl
  exact (show Tryd.prog.wantsStandIn t = false by simpa using List.all_eq_true.1 hall t hm)

theorem proved : Rows.StoreAgainUptoCardSaid :=
  Claim7.holds_tied_plain_at .later [] _ _ _ _ over (fun _ h => by cases h) (by kernel_rfl) (fun _ h => by cases h) storeAgainUpto_row_tie rfl ⟨rfl, rfl⟩ (by kernel_rfl) rfl plain (by kernel_rfl)
end Go.Proofs.YtamncdpeklbhlaaDoor.PStoreAgainUpto
