/- The statement StoreNone of tontinelaw08, as a tied card: for every input the call returns true, and each argument reads afterwards as it read before; the variable tontine/crc.fours starts as the program's text lays it (the card ties it). -/
import Derived.Test.YtamncdpeklbhlaaDoorGC
import Derived.Test.YtamncdpeklbhlaaDoorCards
import Derived.Test.YtamncdpeklbhlaaDoorTie
import Derived.Test.YtamncdpeklbhlaaDoorGD
import Derived.WalkKit
import Derived.ProofKit
import Derived.OpenShut
import Derived.Deep.DeepHandedRow
set_option linter.unusedVariables false
set_option linter.unusedSimpArgs false
namespace Go.Proofs.YtamncdpeklbhlaaDoor.LawA
open Go.RowKit Go.Proofs.YtamncdpeklbhlaaDoor.Kit Go.Proofs.YtamncdpeklbhlaaDoor.Blocks Go.Proofs.YtamncdpeklbhlaaDoor.Rlog Go.Proofs.YtamncdpeklbhlaaDoor.Sto Go.Proofs.YtamncdpeklbhlaaDoor.Sav Go.Proofs.YtamncdpeklbhlaaDoor.Ents Go.Proofs.YtamncdpeklbhlaaDoor.Hold Go.Proofs.YtamncdpeklbhlaaDoor.Del Go.Proofs.YtamncdpeklbhlaaDoor.Save Go.Proofs.YtamncdpeklbhlaaDoor.Anew Go.Proofs.YtamncdpeklbhlaaDoor.Ahe Go.Proofs.YtamncdpeklbhlaaDoor.Open Go.Proofs.YtamncdpeklbhlaaDoor.Model Go.Proofs.YtamncdpeklbhlaaDoor.Ops Go.Proofs.YtamncdpeklbhlaaDoor.ScA Go.Proofs.YtamncdpeklbhlaaDoor.FrA Go.Proofs.YtamncdpeklbhlaaDoor.SumB Go.Proofs.YtamncdpeklbhlaaDoor.Wal Go.Proofs.YtamncdpeklbhlaaDoor.Solo Go.Proofs.YtamncdpeklbhlaaDoor.Sol Go.Proofs.YtamncdpeklbhlaaDoor.Bgn Go.Proofs.YtamncdpeklbhlaaDoor.RSame
open Go.Proofs.YtamncdpeklbhlaaDoor.Quorum (sound)

/-- The state that nothing says. -/
def s0 : Sta := ⟨0, 0, ⟨0, 0, 0, ⟨#[]⟩⟩, []⟩
/-- What Open answers on a new disk. -/
def want (n : Int) (c : Nat) : Int := if sound c = false then 1 else if ¬ (0 ≤ n ∧ n < 16) then 1 else 0
theorem open_want (n : Int) (c : Nat) : ∃ s m', sopen (M.new 100) n c = ((want n c, s), m') := by
  cases hs : sound c with
  | false => exact ⟨first c, M.new 100, by unfold sopen want; rw [if_pos hs, if_pos hs]⟩
  | true =>
    by_cases hn : 0 ≤ n ∧ n < 16
    · have h := sopen_new 100 n.toNat (by omega) hs
      rw [show ((n.toNat : Nat) : Int) = n by omega] at h
      exact ⟨first c, _, by rw [h]; unfold want; rw [if_neg (by rw [hs]; decide), if_neg (fun k => k hn)]⟩
    · refine ⟨first c, M.new 100, ?_⟩
      unfold sopen want
      simp [hs, hn, Log.wopen_arg hn]
/-- What Open answers, whatever it is. -/
theorem open_says {B : Nat} {L : List Nat} {w : World} {p N : Nat} {m m' : M} {s : Sta} {r : Int} (h : Has B L w p N m) (htab : Tab w) (hgB : 0 < B) (hN : N < 900000) (n : Int) (c : Nat) (hc : c < 18446744073709551616) (ho : Hid (sopen m n c = ((r, s), m'))) :
    Calls Tryd.prog 9 #[.pointer (some ⟨p, 0, none⟩), .int .i64 n, .int .u64 (c : Int)] w fun e w' => ∃ a st A k cc, e = .returned (.tuple #[.pointer a, staV st A k cc, .int .i64 r]) ∧ Below B w w' := by
  refine (open_sto h htab hgB hN n c hc).mono ?_
  intro e w' hh
  rw [ho.out] at hh
  rcases hh with ⟨_, he, _, hk⟩ | ⟨h0, t, b, L', v, A, cc, he, _, _, hk, _⟩
  · exact ⟨none, s0, none, 0, 0, he, hk.below h.low⟩
  · simp only at h0
    subst h0
    exact ⟨_, _, _, _, _, he, hk.below h.low⟩
theorem want_mad {n : Int} {c : Nat} (h : c = 0 ∨ 127 < c) : want n c = 1 := by
  unfold want
  rw [if_pos]
  exact decide_eq_false (by omega)
theorem want_off {n : Int} {c : Nat} (h : ¬ (0 ≤ n ∧ n < 16)) : want n c = 1 := by
  unfold want
  by_cases hs : sound c = false
  · rw [if_pos hs]
  · rw [if_neg hs, if_pos h]
theorem want_ok {n : Int} {c : Nat} (hc : 0 < c ∧ c ≤ 127) (h : 0 ≤ n ∧ n < 16) : want n c = 0 := by
  unfold want
  rw [if_neg, if_neg (fun k => k h)]
  have : sound c = true := decide_eq_true (by omega)
  rw [this]
  decide
theorem same_yes {w : World} : Calls Tryd.prog 14 #[staV s0 none 0 0, staV s0 none 0 0] w fun e w' => e = .returned (.bool true) ∧ Below w.heap.size w w' := by
  refine (same_any s0 s0 (RE.nil _ _ _) (RE.nil _ _ _) (by decide) (by decide)).mono ?_
  rintro e w' ⟨q, rfl, hq, hb⟩
  exact ⟨by rw [hq rfl], hb⟩

set_option maxRecDepth 100000 in
set_option maxHeartbeats 8000000 in
theorem none_mid (tm : Nat) (vt : Int) (c : Nat) (n : Int) (w : World) (hc : c < 18446744073709551616) (ht : Tab w) :
    Calls Tryd.prog 4 #[.agg #[.int .u64 (tm : Int), .int .i64 vt], .int .u64 (c : Int), .int .i64 n] w fun e w' => e = .returned (.bool true) ∧ Below w.heap.size w w' := by
  have hg := Tab.lt ht
  have HT := Lib.hid ht
  obtain ⟨s, m', hop⟩ := open_want n c
  obtain ⟨r, hr⟩ : ∃ r, want n c = r := ⟨_, rfl⟩
  rw [hr] at hop
  obtain ⟨m0, hm0⟩ : ∃ m0, M.new 100 = m0 := ⟨_, rfl⟩
  rw [hm0] at hop
  have HM0 := Lib.hid hm0
  have HOP := Lib.hid hop
  have HR := Lib.hid hr
  have hba : Below w.heap.size w (w.alloc (.cells #[.int .u64 (tm : Int), .int .i64 vt] 32)) := (Below.refl _ _).alloc (Nat.le_refl _) _
  have hcb := heap_alloc_new w (.cells #[.int .u64 (tm : Int), .int .i64 vt] 32)
  obtain ⟨w0, hw0⟩ : ∃ w0, w.alloc (.cells #[.int .u64 (tm : Int), .int .i64 vt] 32) = w0 := ⟨_, rfl⟩
  rw [hw0] at hba hcb
  have HW0 := Lib.hid hw0
  have HCB := Lib.hid hcb
  have han := fun W => anew_none s0 none 0 0 W
  have hst := fun W => state_none W
  have hsa := fun W => @same_yes W
  have hst' : ∀ W, Calls Tryd.prog 12 #[.pointer none] W fun e w' => e = .returned (staV s0 none 0 0) ∧ Below W.heap.size W w' := hst
  unfold staV s0 at han hst' hsa
  simp only [List.length_nil] at han hst' hsa
  have HAN := Lib.hid han
  have HST := Lib.hid hst'
  have HSA := Lib.hid hsa
  clear hm0 hop ht hr hw0 hcb han hst hst' hsa
  go_enter Tryd.func4, Tryd.ntmps4
  go_wp2_with fail
  rw [HW0.out]
  refine (begun_any _ (Tab.next HT.out hba)).mono ?_
  rintro e w1 ⟨rfl, hb1⟩
  have hB1 := hba.trans (hb1.mono hba.size)
  have hc1 := (hb1.block w.heap.size (lt_at HCB.out)).trans HCB.out
  go_wp2_with fail
  refine (new_has (B := w1.heap.size) 100 (by omega) (Nat.le_refl _)).mono ?_
  rintro e w2 ⟨p, rfl, hD2, hp, hb2⟩
  rw [HM0.out] at hD2
  have hB2 := hB1.trans (hb2.mono hB1.size)
  have hc2 := (hb2.block w.heap.size (lt_at hc1)).trans hc1
  go_wp2_with fail
  refine (open_says hD2 (Tab.next HT.out hB2) (Nat.lt_of_lt_of_le hg hB1.size) (by omega) n c hc HOP).mono ?_
  rintro e w3 ⟨a, ⟨stm, svt, ⟨six, sst, scf, sd⟩, ses⟩, A, k, cc, rfl, hb3⟩
  unfold staV
  simp only
  have hb13 := hb2.trans hb3
  have hB3 := hB1.trans (hb13.mono hB1.size)
  have hc3 := (hb13.block w.heap.size (lt_at hc1)).trans hc1
  have l4 : Below w3.heap.size w3 (w3.alloc (.cells #[.int .u64 (stm : Int), .int .i64 svt, .int .u64 (six : Int), .int .u64 (sst : Int), .int .u64 (scf : Int), .string sd, .slice A k cc] 37)) := (Below.refl _ _).alloc (Nat.le_refl _) _
  have hB4 := hB3.trans (l4.mono hB3.size)
  have hc4 := (l4.block w.heap.size (lt_at hc3)).trans hc3
  have x0 : (w3.alloc (.cells #[.int .u64 (stm : Int), .int .i64 svt, .int .u64 (six : Int), .int .u64 (sst : Int), .int .u64 (scf : Int), .string sd, .slice A k cc] 37)).cell? ⟨w.heap.size, 0, none⟩ = some (.int .u64 (tm : Int)) := by rw [cell_at hc4]; rfl
  have x1 : (w3.alloc (.cells #[.int .u64 (stm : Int), .int .i64 svt, .int .u64 (six : Int), .int .u64 (sst : Int), .int .u64 (scf : Int), .string sd, .slice A k cc] 37)).cell? ⟨w.heap.size, 1, none⟩ = some (.int .i64 vt) := by rw [cell_at hc4]; rfl
  have hltx := lt_at hc4
  clear hD2 hc1 hc2 hc3 hc4 hb1 hb2 hb3 hb13
  by_cases h0 : c = 0
  · obtain rfl : r = 1 := by rw [← HR.out]; exact want_mad (.inl h0)
    subst h0
    go_wp2_with fail
    refine (save_none tm vt none 0 0 _).mono ?_
    rintro e w5 ⟨rfl, hb5⟩
    have hB5 := hB4.trans (hb5.mono hB4.size)
    go_wp2_with fail
    refine (HAN.out _).mono ?_
    rintro e w6 ⟨rfl, hb6⟩
    have hB6 := hB5.trans (hb6.mono hB5.size)
    go_wp2_with fail
    refine (HST.out _).mono ?_
    rintro e w7 ⟨rfl, hb7⟩
    have hB7 := hB6.trans (hb7.mono hB6.size)
    go_wp2_with fail
    refine (HSA.out _).mono ?_
    rintro e w8 ⟨rfl, hb8⟩
    have hB8 := hB7.trans (hb8.mono hB7.size)
    go_wp2
    go_ret
    exact ⟨rfl, hB8⟩
  have h0i : ((c : Int) == 0) = false := by simp; omega
  by_cases h127 : 127 < c
  · obtain rfl : r = 1 := by rw [← HR.out]; exact want_mad (.inr h127)
    have h127i : (127 : Int) < (c : Int) := by omega
    go_wp2_with fail
    refine (save_none tm vt none 0 0 _).mono ?_
    rintro e w5 ⟨rfl, hb5⟩
    have hB5 := hB4.trans (hb5.mono hB4.size)
    go_wp2_with fail
    refine (HAN.out _).mono ?_
    rintro e w6 ⟨rfl, hb6⟩
    have hB6 := hB5.trans (hb6.mono hB5.size)
    go_wp2_with fail
    refine (HST.out _).mono ?_
    rintro e w7 ⟨rfl, hb7⟩
    have hB7 := hB6.trans (hb7.mono hB6.size)
    go_wp2_with fail
    refine (HSA.out _).mono ?_
    rintro e w8 ⟨rfl, hb8⟩
    have hB8 := hB7.trans (hb8.mono hB7.size)
    go_wp2
    go_ret
    exact ⟨rfl, hB8⟩
  have h127i : ¬ (127 : Int) < (c : Int) := by omega
  have h127j : decide (127 < c) = false := decide_eq_false h127
  by_cases hn0 : n < 0
  · obtain rfl : r = 1 := by rw [← HR.out]; exact want_off (by omega)
    go_wp2_with fail
    refine (save_none tm vt none 0 0 _).mono ?_
    rintro e w5 ⟨rfl, hb5⟩
    have hB5 := hB4.trans (hb5.mono hB4.size)
    go_wp2_with fail
    refine (HAN.out _).mono ?_
    rintro e w6 ⟨rfl, hb6⟩
    have hB6 := hB5.trans (hb6.mono hB5.size)
    go_wp2_with fail
    refine (HST.out _).mono ?_
    rintro e w7 ⟨rfl, hb7⟩
    have hB7 := hB6.trans (hb7.mono hB6.size)
    go_wp2_with fail
    refine (HSA.out _).mono ?_
    rintro e w8 ⟨rfl, hb8⟩
    have hB8 := hB7.trans (hb8.mono hB7.size)
    go_wp2
    go_ret
    exact ⟨rfl, hB8⟩
  by_cases hn1 : 16 ≤ n
  · obtain rfl : r = 1 := by rw [← HR.out]; exact want_off (by omega)
    go_wp2_with fail
    refine (save_none tm vt none 0 0 _).mono ?_
    rintro e w5 ⟨rfl, hb5⟩
    have hB5 := hB4.trans (hb5.mono hB4.size)
    go_wp2_with fail
    refine (HAN.out _).mono ?_
    rintro e w6 ⟨rfl, hb6⟩
    have hB6 := hB5.trans (hb6.mono hB5.size)
    go_wp2_with fail
    refine (HST.out _).mono ?_
    rintro e w7 ⟨rfl, hb7⟩
    have hB7 := hB6.trans (hb7.mono hB6.size)
    go_wp2_with fail
    refine (HSA.out _).mono ?_
    rintro e w8 ⟨rfl, hb8⟩
    have hB8 := hB7.trans (hb8.mono hB7.size)
    go_wp2
    go_ret
    exact ⟨rfl, hB8⟩
  obtain rfl : r = 0 := by rw [← HR.out]; exact want_ok (by omega) (by omega)
  go_wp2_with fail
  refine (save_none tm vt none 0 0 _).mono ?_
  rintro e w5 ⟨rfl, hb5⟩
  have hB5 := hB4.trans (hb5.mono hB4.size)
  go_wp2_with fail
  refine (HAN.out _).mono ?_
  rintro e w6 ⟨rfl, hb6⟩
  have hB6 := hB5.trans (hb6.mono hB5.size)
  go_wp2_with fail
  refine (HST.out _).mono ?_
  rintro e w7 ⟨rfl, hb7⟩
  have hB7 := hB6.trans (hb7.mono hB6.size)
  go_wp2_with fail
  refine (HSA.out _).mono ?_
  rintro e w8 ⟨rfl, hb8⟩
  have hB8 := hB7.trans (hb8.mono hB7.size)
  go_wp2
  go_ret
  exact ⟨rfl, hB8⟩
theorem none_walk (tm : Nat) (vt : Int) (c : Nat) (n : Int) (w : World) (_ : tm < 18446744073709551616) (_ : -9223372036854775808 ≤ vt) (_ : vt ≤ 9223372036854775807) (hc : c < 18446744073709551616) (_ : -9223372036854775808 ≤ n) (_ : n ≤ 9223372036854775807) (ht : Tab w) :
    Calls Tryd.prog 4 #[.agg #[.int .u64 (tm : Int), .int .i64 vt], .int .u64 (c : Int), .int .i64 n] w fun e w' => e = .returned (.bool true) ∧ Below w.heap.size w w' := none_mid tm vt c n w hc ht
end Go.Proofs.YtamncdpeklbhlaaDoor.LawA
namespace Go.Proofs.YtamncdpeklbhlaaDoor.PStoreNone
open Go.ChangeShapes Go.WideShapes Go.ChangeAt Go.RowKit Go.Proofs.YtamncdpeklbhlaaDoor.Kit Go.Proofs.YtamncdpeklbhlaaDoor.Frame
set_option linter.unusedVariables false

theorem own : ownKnob Tryd.prog.godebug = none := by kernel_rfl
theorem laidOut : laidOutB Tryd.prog = true := by kernel_rfl

set_option maxRecDepth 100000 in
theorem contract (H : Type) (enc : TypeId × Value → H) (W : World) (base : Nat) (args : Array Value) (ds gs : List (DataW H)) (before : List MemPlace)
    (hval : ∀ (j : Nat) t v, Tryd.f4.params[j]? = some t → args[j]? = some v → Value.okWide Tryd.prog W .any base t v)
    (hW : DataW.Whole enc Tryd.prog Tryd.f4.params.toList Rows.storeNoneSpec.vars false W args.toList ds gs before)
    (hs0 : (DataW.weightsEach Tryd.prog (Tryd.f4.params.toList ++ (OpenSpec.ofChange Rows.storeNoneSpec).bare.plain.varTypes Tryd.prog) (ds ++ gs)).all (· ≤ reachBytes) = true)
    (hL : laidMetH Tryd.prog Rows.storeNoneRow.laid W) :
    Calls Tryd.prog 4 args W fun e W' => ∃ v, e = .returned v ∧ Rows.storeNoneSpec.post enc Tryd.prog Tryd.f4 false true false false W args v W' := by
  have hW' := hW
  have hsz : (DataW.weightsEach Tryd.prog (Tryd.f4.params.toList ++ (OpenSpec.ofChange Rows.storeNoneSpec).bare.plain.varTypes Tryd.prog) (ds ++ gs)).all (· ≤ reachBytes) = true := hs0
  obtain ⟨p, q, hA0, hV, rfl, hfz, hnd⟩ := hW
  have hA : DataW.TrodAll enc Tryd.prog W 0 (fun _ => true) true Tryd.f4.params.toList args.toList ds p := hA0
  rw [Tryd.params4] at hA hval hsz
  obtain ⟨v0, vs0, d0, ds0, p0, q0, hargs, rfl, rfl, h0, r0⟩ := trodAll_cons hA
  obtain ⟨v1, vs1, d1, ds1, p1, q1, rfl, rfl, rfl, h1, r1⟩ := trodAll_cons r0
  obtain ⟨v2, vs2, d2, ds2, p2, q2, rfl, rfl, rfl, h2, r2⟩ := trodAll_cons r1
  obtain ⟨rfl, rfl, rfl⟩ := trodAll_nil r2
  obtain rfl : args = #[v0, v1, v2] := by cases args; simp_all
  obtain ⟨rfl, rfl⟩ := trodVars_none hV
  have lt0 : ∀ x ∈ p0, x.block < W.heap.size := by obtain ⟨m, hm⟩ := h0; exact DataW.trod_lt m _ _ _ hm
  obtain ⟨t0, v0, rfl, ht0_0, hv00_1, hv10_2⟩ := Opens.arg_hard (hval 0 32 v0 rfl rfl) h0
  have lt1 : ∀ x ∈ p1, x.block < W.heap.size := by obtain ⟨m, hm⟩ := h1; exact DataW.trod_lt m _ _ _ hm
  obtain ⟨n1, rfl, hn1_0⟩ := Opens.arg_u64 (hval 1 30 v1 rfl rfl) h1
  have lt2 : ∀ x ∈ p2, x.block < W.heap.size := by obtain ⟨m, hm⟩ := h2; exact DataW.trod_lt m _ _ _ hm
  obtain ⟨z2, rfl, hz02_0, hz12_1⟩ := Opens.arg_int (hval 2 3 v2 rfl rfl) h2
  clear hA0
  refine (LawA.none_walk t0 v0 n1 z2 W ht0_0 hv00_1 hv10_2 hn1_0 hz02_0 hz12_1 (Laid.tab_of_laid hL)).mono fun e W' ⟨he, bel⟩ => ?_
  subst he
  exact ⟨_, rfl, _, _, _, [], _, [], hW', trodAll_mk1 (shut_bool Tryd.underlying4 _), (trodAll_cons_mk (Below.trod laidOut (by kernel_rfl) (of_decide_eq_true (by kernel_rfl)) h0 bel lt0) (trodAll_cons_mk (Below.trod laidOut (by kernel_rfl) (of_decide_eq_true (by kernel_rfl)) h1 bel lt1) (trodAll_cons_mk (Below.trod laidOut (by kernel_rfl) (of_decide_eq_true (by kernel_rfl)) h2 bel lt2) trodAll_mk0))), rfl, bel.frame _, fun h => by cases h⟩

theorem laid_met (os : Os) : laidMet Tryd.prog Rows.storeNoneRow.laid (((Laid.laidWorld os)).forCall (fun _ _ => 0) ⟨#[], #[.agg #[.int .u64 0, .int .i64 0], .int .u64 0, .int .i64 0], []⟩).memory :=
  laidMet_of_run' 8 (by kernel_rfl) (by kernel_rfl)
theorem reads (os : Os) {H : Type} (enc : TypeId × Value → H) : ∃ places, DataW.whole enc Tryd.prog ((Laid.laidWorld os).forCall (fun _ _ => 0) ⟨#[], #[.agg #[.int .u64 0, .int .i64 0], .int .u64 0, .int .i64 0], []⟩).memory Tryd.f4.params.toList Rows.storeNoneSpec.vars false (#[.agg #[.int .u64 0, .int .i64 0], .int .u64 0, .int .i64 0] : Array Value).toList 8 = some ([.agg [.lit (.int .u64 0), .lit (.int .i64 0)], .lit (.int .u64 0), .lit (.int .i64 0)], [], places) :=
  ⟨[], by kernel_rfl⟩

set_option maxRecDepth 100000 in
theorem lifted (os : Os) (started : os.Started) (H : Type) (enc : TypeId × Value → H) (F : Stop.Interp) :
    ReturnsInHanded {} Tryd.checked os 4 .any ((OpenSpec.ofChange Rows.storeNoneSpec).preRow enc Tryd.prog Tryd.f4 Rows.storeNoneRow.domain false Rows.storeNoneRow.laid) (((OpenSpec.ofChange Rows.storeNoneSpec).at F).post enc Tryd.prog Tryd.f4 false true false false) := by
  obtain ⟨places, hx⟩ := reads os enc
  refine returnsInHanded_of_row (C := Tryd.checked) (s := (OpenSpec.ofChange Rows.storeNoneSpec)) own started (by kernel_rfl) Tryd.func4
    (witness_row_at (enc := enc) (C := Tryd.checked) false (Laid.laidWorld os) #[.agg #[.int .u64 0, .int .i64 0], .int .u64 0, .int .i64 0] rfl (by kernel_rfl) (by kernel_rfl) (by kernel_rfl)
      (OpenSpec.preRow_of_cond 8 hx (by kernel_rfl) (fun k hk => by cases hk) (by kernel_rfl) (laid_met os))) ?_
  intro W base args ds gs before hval hW _ hcond hsz hL _ _
  exact contract H enc W base args ds gs before hval hW hsz hL

theorem over : Rows.StoreNoneSaid :=
  OpenClaim.holds_of_cond 4 Tryd.f4 rfl rfl rfl rfl rfl rfl rfl ⟨rfl, rfl, rfl, rfl, rfl⟩ rfl rfl rfl rfl rfl (by kernel_rfl) Tryd.func4 (by kernel_rfl)
    (of_decide_eq_true (by kernel_rfl)) (by unfold Func.isWrapper; first | (rw [if_pos (by decide +kernel)]; kernel_rfl) | (rw [if_neg (by decide +kernel)]; exact ⟨rfl, rfl⟩))
    (fun os started H enc _ F => by rw [OpenClaim.pre_eq_preRow]; exact lifted os started H enc F)

theorem plain (f : FuncId) (fn : Func) (hf : Tryd.pinned.checked.prog.funcNamed "tontine/tontinelaw08.StoreNone" = some f) (hfn : Tryd.pinned.checked.prog.funcs[f]? = some fn) :
    false = Tryd.pinned.checked.prog.looks [] ∧ ∀ (j : Nat) t, fn.params[j]? = some t → Tryd.pinned.checked.prog.wantsStandIn t = false := by
  obtain rfl : f = 4 := Option.some.inj ((show Tryd.prog.funcNamed "tontine/tontinelaw08.StoreNone" = some 4 by kernel_rfl).symm.trans hf) |>.symm
  obtain rfl : fn = Tryd.f4 := (Option.some.inj (Tryd.func4.symm.trans hfn)).symm
  refine ⟨by kernel_rfl, fun j t ht => ?_⟩
  rw [Tryd.params4] at ht
  have hm : t ∈ [32, 30, 3] := by simpa using Array.mem_of_getElem? ht
  have hall : (([32, 30, 3] : List TypeId).all fun u => !Tryd.prog.wantsStandIn u) = true := by kernel_rfl
  exact (show Tryd.prog.wantsStandIn t = false by simpa using List.all_eq_true.1 hall t hm)

theorem proved : Rows.StoreNoneCardSaid :=
  Claim7.holds_tied_plain_at .later [] _ _ _ _ over (fun _ h => by cases h) (by kernel_rfl) (fun _ h => by cases h) storeNone_row_tie rfl ⟨rfl, rfl⟩ (by kernel_rfl) rfl plain (by kernel_rfl)
end Go.Proofs.YtamncdpeklbhlaaDoor.PStoreNone
