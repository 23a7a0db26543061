/- The statement StoreRuns of tontinelaw08, its second form, as a tied card: for every input the call returns true, and each argument reads afterwards as it read before (where the arguments hold together at most 1048576 values and letters); the variable tontine/crc.fours starts as the program's text lays it (the card ties it). -/
import Derived.Test.YtamncdpeklbhlaaGreatDoorGF
import Derived.Test.YtamncdpeklbhlaaGreatDoorGE
import Derived.Test.YtamncdpeklbhlaaGreatDoorGT
import Derived.Test.YtamncdpeklbhlaaGreatDoorGD
import Derived.BigRegion
import Derived.Test.YtamncdpeklbhlaaGreatDoorCards
import Derived.Test.YtamncdpeklbhlaaGreatDoorTie
import Derived.WalkKit
import Derived.ProofKit
import Derived.OpenShut
import Derived.Deep.DeepHandedRow
set_option linter.unusedVariables false
set_option linter.unusedSimpArgs false
namespace Go.Proofs.YtamncdpeklbhlaaGreatDoor.LawE
open Go.RowKit Go.Proofs.YtamncdpeklbhlaaGreatDoor.Kit Go.Proofs.YtamncdpeklbhlaaGreatDoor.Blocks Go.Proofs.YtamncdpeklbhlaaGreatDoor.Rlog Go.Proofs.YtamncdpeklbhlaaGreatDoor.Sto Go.Proofs.YtamncdpeklbhlaaGreatDoor.Sav Go.Proofs.YtamncdpeklbhlaaGreatDoor.Ents Go.Proofs.YtamncdpeklbhlaaGreatDoor.Hold Go.Proofs.YtamncdpeklbhlaaGreatDoor.Del Go.Proofs.YtamncdpeklbhlaaGreatDoor.Ahe Go.Proofs.YtamncdpeklbhlaaGreatDoor.Open Go.Proofs.YtamncdpeklbhlaaGreatDoor.RTake Go.Proofs.YtamncdpeklbhlaaGreatDoor.ROpen Go.Proofs.YtamncdpeklbhlaaGreatDoor.RSaid Go.Proofs.YtamncdpeklbhlaaGreatDoor.RSame Go.Proofs.YtamncdpeklbhlaaGreatDoor.RAnew Go.Proofs.YtamncdpeklbhlaaGreatDoor.Two Go.Proofs.YtamncdpeklbhlaaGreatDoor.Bgn Go.Proofs.YtamncdpeklbhlaaGreatDoor.Model Go.Proofs.YtamncdpeklbhlaaGreatDoor.Ops Go.Proofs.YtamncdpeklbhlaaGreatDoor.ScA Go.Proofs.YtamncdpeklbhlaaGreatDoor.FrA Go.Proofs.YtamncdpeklbhlaaGreatDoor.SumB Go.Proofs.YtamncdpeklbhlaaGreatDoor.Wal Go.Proofs.YtamncdpeklbhlaaGreatDoor.Ref Go.Proofs.YtamncdpeklbhlaaGreatDoor.RefB Go.Proofs.YtamncdpeklbhlaaGreatDoor.RefC Go.Proofs.YtamncdpeklbhlaaGreatDoor.RefE Go.Proofs.YtamncdpeklbhlaaGreatDoor.Cals Go.Proofs.YtamncdpeklbhlaaGreatDoor.Light
open Go.Proofs.YtamncdpeklbhlaaGreatDoor.DskWalkC (str Got)

theorem len_total : ∀ (C : List Cal), C.length ≤ total C
  | [] => by simp [total]
  | x :: C => by
    have h := len_total C
    unfold total at h ⊢
    simp only [List.map_cons, List.sum_cons, List.length_cons]
    have : 1 ≤ Cals.weigh x := by unfold Cals.weigh; omega
    omega
theorem data_total {l : List Ent} : ∀ e ∈ l, e.data.size / 50 ≤ dataW l := by
  induction l with
  | nil => intro e he; cases he
  | cons x l ih =>
    intro e he
    have h2 : dataW (x :: l) = x.data.size / 50 + dataW l := by simp [dataW]
    rcases List.mem_cons.1 he with rfl | he
    · omega
    · have := ih e he; omega
/-- A text read off a disk. -/
theorem read_lit {B : Nat} {L : List Nat} {W : World} {p N : Nat} {m : M} {n : Int} (h : Has B L W p N m) (h0 : -9223372036854775808 ≤ n) (h1 : n ≤ 9223372036854775807) {s : ByteArray} {f : Int} (hr : Hid ((str (m.read n).1, (m.read n).2) = (s, f))) :
    Calls Tryz.prog 18 #[.pointer (some ⟨p, 0, none⟩), .int .i64 n] W fun e W' => e = .returned (.tuple #[.string s, .int .i64 f]) ∧ Below W.heap.size W W' := by
  refine (read_has n h h0 h1).mono ?_
  intro e W' hg
  have := hr.out
  injection this with e1 e2
  exact Log.Got.lit hg e1 e2
theorem rread_lit {W : World} {q : Nat} {m : M} {n : Int} (h : RefAt W q m) (g : Fine m) {s : ByteArray} {f : Int} (hr : Hid ((str (m.read n).1, (m.read n).2) = (s, f))) :
    Calls Tryz.prog 19 #[.pointer (some ⟨q, 0, none⟩), .int .i64 n] W fun e W' => e = .returned (.tuple #[.string s, .int .i64 f]) ∧ Below W.heap.size W W' := by
  refine (rread_any n h g).mono ?_
  intro e W' hg
  have := hr.out
  injection this with e1 e2
  exact Log.Got.lit hg e1 e2
/-- Two states that are the same, told so. -/
theorem same_yes {w : World} {A C : Option Addr} {n m ca cc : Nat} (a : Sta) (ha : RE w w.heap.size A n a.es) (hc : RE w w.heap.size C m a.es) (h63 : n ≤ 9223372036854775807) (h64 : m ≤ 9223372036854775807) :
    Calls Tryz.prog 13 #[staV a A n ca, staV a C m cc] w fun e w' => e = .returned (.bool true) ∧ Below w.heap.size w w' := by
  refine (same_any a a ha hc h63 h64).mono ?_
  rintro e W' ⟨q, rfl, hq, hb⟩
  exact ⟨by rw [hq rfl], hb⟩

set_option maxRecDepth 100000 in
set_option maxHeartbeats 16000000 in
theorem runs_mid (fuel : Int) (C : Option Addr) (mm cc : Nat) (L : List Cal) (w : World) (hf0 : -9223372036854775808 ≤ fuel) (hf1 : fuel ≤ 9223372036854775807) (hh : Holds w w.heap.size C mm L) (hm : mm ≤ 9223372036854775807) (hT : total L ≤ 1048576) (ht : Tab w) :
    Calls Tryz.prog 3 #[.int .i64 fuel, .slice C mm cc] w fun e w' => e = .returned (.bool true) ∧ Below w.heap.size w w' := by
  have hg := Tab.lt ht
  have HT := Lib.hid ht
  have HH := Lib.hid hh
  have HM := Lib.hid hh.1
  obtain ⟨qq, hq⟩ : ∃ q, decide (total L ≤ 400) = q := ⟨_, rfl⟩
  have HQ := Lib.hid hq
  have HTL := Lib.hid hT
  obtain ⟨m0, hm0⟩ : ∃ m0, M.new 60000 = m0 := ⟨_, rfl⟩
  have hg0 : Fine m0 := by rw [← hm0]; exact Fine.new (by omega)
  obtain ⟨m2, hm2⟩ : ∃ m2, m0.fuelled fuel = m2 := ⟨_, rfl⟩
  have hg2 : Fine m2 := by rw [← hm2]; exact hg0.fuelled hf1
  obtain ⟨⟨⟨r2, s2⟩, m3⟩, hm3⟩ : ∃ q, sopen m2 1 7 = q := ⟨_, rfl⟩
  have hnone : m2.has 1 = false := by rw [← hm2, ← hm0]; rfl
  have HM0 := Lib.hid hm0
  have HM2 := Lib.hid hm2
  have HM3 := Lib.hid hm3
  have HG2 := Lib.hid hg2
  have HNO := Lib.hid hnone
  clear ht hh hq hT hm0 hm2 hm3 hg0 hg2 hnone
  go_enter Tryz.func3, Tryz.ntmps3
  go_wp2_with fail
  refine (begun_any _ HT.out).mono ?_
  rintro e w1 ⟨rfl, hB1⟩
  go_wp2_with fail
  refine (light_any C mm cc L w1 (HH.out.below hB1 hB1.size) hm HTL.out).mono ?_
  rintro e wL ⟨rfl, hbL⟩
  rw [HQ.out]
  have hBL := hB1.trans (hbL.mono hB1.size)
  cases qq
  case false =>
    go_wp2
    go_ret
    exact ⟨rfl, hBL⟩
  have hT4 : total L ≤ 400 := of_decide_eq_true HQ.out
  have hmm4 : mm ≤ 400 := by have := len_total L; rw [HM.out] at this; omega
  go_wp2_with fail
  refine (new_has (B := w.heap.size) 60000 (by omega) hBL.size).mono ?_
  rintro e w2 ⟨p, rfl, hD2, hp, hb2⟩
  rw [HM0.out] at hD2
  have hB2 := hBL.trans (hb2.mono hBL.size)
  go_wp2_with fail
  refine (rnew_yes 60000 _ (by omega)).mono ?_
  rintro e w3 ⟨q, rfl, hq3, hR3, hb3⟩
  rw [HM0.out] at hR3
  have hB3 := hB2.trans (hb3.mono hB2.size)
  have hD3 : Has w.heap.size [q] w3 p 0 m0 := hD2.beside hb3 hq3 (RefAt.lt hR3)
  have hqB : w.heap.size ≤ q := Nat.le_trans hB2.size hq3
  clear hD2
  go_wp2_with fail
  refine (fuel_has fuel hD3 hf0 hf1).mono ?_
  rintro e w4 ⟨rfl, hD4, hk4⟩
  rw [HM2.out] at hD4
  have hR4 : RefAt w4 q m0 := hk4.heap hR3 (.inr (by simp))
  have hB4 := hB3.trans (hk4.below hD3.low)
  have hrf := hR4.fuel
  have hrz := hR4.free 49
  have hrl := RefAt.lt hR4
  have ho5 : Only (fun y => y = q) w4 (w4.setCell ⟨q, 49, none⟩ (.int .i64 (max fuel (-1)))) := Only.setCell (S := fun y => y = q) (Only.refl _ _) (a := ⟨q, 49, none⟩) (.inr rfl) _
  have hR5 := doc_fuelled hR4 fuel
  rw [HM2.out] at hR5
  have hD5 := has_only hD4 ho5 fun y hy => .inl (by rw [hy]; simp)
  have hB5 := hB4.trans (ho5.below hD4.low fun y hy => by rw [hy]; exact hqB)
  have HR5 := Lib.hid hR5
  have HD5 := Lib.hid hD5
  have HB5 := Lib.hid hB5
  clear hD3 hR3 hD4 hR4 ho5 hR5 hD5 hB5 hk4
  go_wp2_with fail
  revert HR5 HD5 HB5
  generalize World.setCell w4 _ _ = w5
  intro HR5 HD5 HB5
  have hB5 := HB5.out
  refine (open_sto HD5.out (Tab.next HT.out hB5) hg (by omega) 1 7 (by decide)).mono ?_
  rw [HM3.out]
  intro e w6 ho
  rcases ho with ⟨h0, rfl, hD6, hk6⟩ | ⟨h0, t, b, L', v, A6, c6, rfl, hS6, hre6, hk6, ht6, hes⟩
  · have h0' : r2 ≠ 0 := h0
    have ne1 : (r2 == r2) = true := by simp
    have ne2 : (r2 != 0) = true := bne_iff_ne.2 h0'
    have l7 : Below w6.heap.size w6 (w6.alloc (.cells #[.int .u64 0, .int .i64 0, .int .u64 0, .int .u64 0, .int .u64 0, .string ⟨#[]⟩, .slice none 0 0] 45)) := (Below.refl _ _).alloc (Nat.le_refl _) _
    have hR6 : RefAt w6 q m2 := hk6.heap HR5.out (.inr (by simp))
    have hB6 := hB5.trans (hk6.below HD5.out.low)
    have hop := ropen_sto (RefAt.below hR6 l7) HG2.out 1 (by decide) 7 (by decide)
    rw [HM3.out] at hop
    have HOP := Lib.hid hop
    have hB7 := hB6.trans (l7.mono hB6.size)
    clear hop hR6 hD6 hk6
    unfold zeroS
    go_wp2_with fail
    refine HOP.out.mono ?_
    intro e w8 ho
    rcases ho with ⟨_, rfl, hR8, hk8⟩ | ⟨h, _⟩
    · have hB8 := hB7.trans (hk8.below hB7.size fun y hy => by rw [hy]; exact hqB)
      go_wp2
      go_ret
      exact ⟨rfl, hB8⟩
    · exact absurd h h0'
  · have h0' : r2 = 0 := h0
    subst h0'
    obtain rfl : s2 = first 7 := sopen_none HNO.out HM3.out
    have l7 : Below w6.heap.size w6 (w6.alloc (.cells #[.int .u64 ((first 7).term : Int), .int .i64 (first 7).vote, .int .u64 ((first 7).snap.idx : Int), .int .u64 ((first 7).snap.term : Int), .int .u64 ((first 7).snap.cfg : Int), .string (first 7).snap.data, .slice A6 (first 7).es.length c6] 45)) := (Below.refl _ _).alloc (Nat.le_refl _) _
    have h7 := heap_alloc_new w6 (.cells #[.int .u64 ((first 7).term : Int), .int .i64 (first 7).vote, .int .u64 ((first 7).snap.idx : Int), .int .u64 ((first 7).snap.term : Int), .int .u64 ((first 7).snap.cfg : Int), .string (first 7).snap.data, .slice A6 (first 7).es.length c6] 45)
    obtain ⟨s2, hs2⟩ : ∃ s2, first 7 = s2 := ⟨_, rfl⟩
    have hes0 : s2.es = [] := by rw [← hs2]; rfl
    simp only at hS6 hre6
    rw [hs2] at l7 h7 hS6 hre6 HM3 ⊢
    obtain ⟨w7, hw7⟩ : ∃ w7, w6.alloc (.cells #[.int .u64 (s2.term : Int), .int .i64 s2.vote, .int .u64 (s2.snap.idx : Int), .int .u64 (s2.snap.term : Int), .int .u64 (s2.snap.cfg : Int), .string s2.snap.data, .slice A6 s2.es.length c6] 45) = w7 := ⟨_, rfl⟩
    rw [hw7] at l7 h7
    have hR6 : RefAt w6 q m2 := hk6.heap HR5.out (.inr (by simp))
    have hB6 := hB5.trans (hk6.below HD5.out.low)
    have hop := ropen_sto (RefAt.below hR6 l7) HG2.out 1 (by decide) 7 (by decide)
    rw [HM3.out] at hop
    have HOP := Lib.hid hop
    have HW7 := Lib.hid hw7
    have H7 := Lib.hid h7
    have HL7 := Lib.hid l7
    have HES : Hid (s2.es = []) := hes0
    have HS6 := Lib.hid hS6
    have hB7 := hB6.trans (l7.mono hB6.size)
    have hq6 := RefAt.lt hR6
    clear hop hR6 hk6 hw7 h7 l7 hre6 hS6 hes hs2 hes0
    unfold staV
    go_wp2_with fail
    rw [HW7.out]
    refine HOP.out.mono ?_
    intro e w8 ho
    rcases ho with ⟨h, _⟩ | ⟨_, t', b', A8, c8, rfl, hS8, hk8, ht8, hb8, hkin8, _⟩
    · exact absurd rfl h
    · have hB8 := hB7.trans (hk8.below hB7.size fun y hy => by rw [hy]; exact hqB)
      have h78 := hk8.heap H7.out (by omega)
      have hP8 := pair_open (HS6.out.below HL7.out) hS8 hk8 ht8 hb8 hkin8 hqB
      have hall : ∀ W, Below w8.heap.size w8 W → W.cell? ⟨w6.heap.size, 0, none⟩ = some (.int .u64 (s2.term : Int)) ∧ W.cell? ⟨w6.heap.size, 1, none⟩ = some (.int .i64 s2.vote) ∧ W.cell? ⟨w6.heap.size, 2, none⟩ = some (.int .u64 (s2.snap.idx : Int)) ∧ W.cell? ⟨w6.heap.size, 3, none⟩ = some (.int .u64 (s2.snap.term : Int)) ∧ W.cell? ⟨w6.heap.size, 4, none⟩ = some (.int .u64 (s2.snap.cfg : Int)) ∧ W.cell? ⟨w6.heap.size, 5, none⟩ = some (.string s2.snap.data) ∧ W.cell? ⟨w6.heap.size, 6, none⟩ = some (.slice A6 s2.es.length c6) ∧ W.cell? ⟨t', 1, none⟩ = some (.int .u64 (s2.term : Int)) ∧ W.cell? ⟨t', 2, none⟩ = some (.int .i64 s2.vote) ∧ W.cell? ⟨t', 3, none⟩ = some (.int .u64 (s2.snap.idx : Int)) ∧ W.cell? ⟨t', 4, none⟩ = some (.int .u64 (s2.snap.term : Int)) ∧ W.cell? ⟨t', 5, none⟩ = some (.int .u64 (s2.snap.cfg : Int)) ∧ W.cell? ⟨t', 6, none⟩ = some (.string s2.snap.data) ∧ W.cell? ⟨t', 7, none⟩ = some (.slice A8 s2.es.length c8) := fun W hW => by
        have hc := (hW.block _ (lt_at h78)).trans h78
        have hd := (hW.block _ hS8.lt).trans hS8.sto
        exact ⟨by rw [cell_at hc]; rfl, by rw [cell_at hc]; rfl, by rw [cell_at hc]; rfl, by rw [cell_at hc]; rfl, by rw [cell_at hc]; rfl, by rw [cell_at hc]; rfl, by rw [cell_at hc]; rfl, by rw [cell_at hd]; rfl, by rw [cell_at hd]; rfl, by rw [cell_at hd]; rfl, by rw [cell_at hd]; rfl, by rw [cell_at hd]; rfl, by rw [cell_at hd]; rfl, by rw [cell_at hd]; rfl⟩
      have hz0 : s2.es.length = 0 := by rw [HES.out]; rfl
      have hsame := same_yes (w := w8.drew) (A := A6) (C := A8) (n := s2.es.length) (m := s2.es.length) (ca := c6) (cc := c8) s2 (by rw [hz0, HES.out]; exact RE.nil _ _ _) (by rw [hz0, HES.out]; exact RE.nil _ _ _) (by omega) (by omega)
      unfold staV at hsame
      obtain ⟨e0, e1, e2, e3, e4, e5, e6, d0, d1, d2, d3, d4, d5, d6⟩ := hall w8 (Below.refl _ _)
      have l0 : Below w8.heap.size w8 w8.drew := (Below.refl _ _).drew
      have HALL := Lib.hid hall
      have HS1 := Lib.hid hsame
      have HP8 := Lib.hid hP8
      have hlt6 := lt_at h78
      have hlt8 := hS8.lt
      have HZ0 := Lib.hid hz0
      clear hall hsame hP8 h78 hS8 hk8 hkin8 hz0
      go_wp2_with fail
      go_region_held3 (fun W => W.cell? ⟨w6.heap.size, 0, none⟩ = some (.int .u64 (s2.term : Int)) ∧ W.cell? ⟨w6.heap.size, 1, none⟩ = some (.int .i64 s2.vote) ∧ W.cell? ⟨w6.heap.size, 2, none⟩ = some (.int .u64 (s2.snap.idx : Int)) ∧ W.cell? ⟨w6.heap.size, 3, none⟩ = some (.int .u64 (s2.snap.term : Int)) ∧ W.cell? ⟨w6.heap.size, 4, none⟩ = some (.int .u64 (s2.snap.cfg : Int)) ∧ W.cell? ⟨w6.heap.size, 5, none⟩ = some (.string s2.snap.data) ∧ W.cell? ⟨w6.heap.size, 6, none⟩ = some (.slice A6 s2.es.length c6) ∧ W.cell? ⟨t', 1, none⟩ = some (.int .u64 (s2.term : Int)) ∧ W.cell? ⟨t', 2, none⟩ = some (.int .i64 s2.vote) ∧ W.cell? ⟨t', 3, none⟩ = some (.int .u64 (s2.snap.idx : Int)) ∧ W.cell? ⟨t', 4, none⟩ = some (.int .u64 (s2.snap.term : Int)) ∧ W.cell? ⟨t', 5, none⟩ = some (.int .u64 (s2.snap.cfg : Int)) ∧ W.cell? ⟨t', 6, none⟩ = some (.string s2.snap.data) ∧ W.cell? ⟨t', 7, none⟩ = some (.slice A8 s2.es.length c8))
        (first
          | (with_reducible exact HALL.out _ l0)
          | (with_reducible exact HALL.out _ hB9))
        (first
          | (go_at_call 13
             (with_reducible refine HS1.out.mono ?_)
             rintro e w9 ⟨rfl, hb9⟩
             have hB9 : Below w8.heap.size w8 w9 := l0.trans hb9))
      have hP9 : Hid (Pair w.heap.size [] w9 t b p 2 t' b' q 1 m3 s2 m3 s2) := HP8.out.below hB9
      have hB9w := hB8.trans (hB9.mono hB8.size)
      clear e0 e1 e2 e3 e4 e5 e6 d0 d1 d2 d3 d4 d5 d6 hB9 hb9 HP8
      go_wp2_with fail
      go_loopw [74] (fun i wr => ∃ (k N : Nat) (m : M) (s : Sta), k ≤ mm ∧ i = .int .i64 (k : Int) ∧ Hid (Pair w.heap.size [] wr t b p N t' b' q 1 m s m s) ∧ N ≤ 2 + 2 * k ∧ s.es.length ≤ total (L.take k) ∧ Below w.heap.size w wr) (fun i _ => mm - (intOf i).toNat)
      case atStart => exact ⟨0, 2, m3, s2, by omega, rfl, hP9, by omega, by rw [HZ0.out]; omega, hB9w⟩
      case round =>
        obtain ⟨k, N, m, s, hk, rfl, HP, hNk, hsl, hbel⟩ := hrel
        by_cases hkm : k < mm
        · obtain ⟨x, hx⟩ : ∃ x, L[k]? = some x := ⟨_, List.getElem?_eq_getElem (by rw [HM.out]; exact hkm)⟩
          obtain ⟨bb, o, rfl, hbl, hten, hcal⟩ := (HH.out.below hbel (Nat.le_refl _)).2 k x hx
          have c0 := hten.c0
          have c1 := hten.c1
          have c2 := hten.c2
          have c3 := hten.c3
          have c4 := hten.c4
          have c5 := hten.c5
          have c6 := hten.c6
          have c7 := hten.c7
          have hmem := total_mem hx
          have hwx : Cals.weigh x = 1 + x.l.length + x.snap.data.size / 50 + dataW x.l := rfl
          have hxn := RE.len hcal.list
          have hkk : total (L.take (k + 1)) = total (L.take k) + Cals.weigh x := total_take hx
          have hls : ∀ e ∈ x.l, e.data.size ≤ 1000000000 := fun e he => by have := data_total e he; omega
          have l6 : Below wr.heap.size wr (wr.alloc (.cells #[.bool x.anew, .int .u64 (x.term : Int), .int .i64 x.vote, .int .u64 (x.snap.idx : Int), .int .u64 (x.snap.term : Int), .int .u64 (x.snap.cfg : Int), .string x.snap.data, .slice x.A x.n x.c] 57)) := (Below.refl _ _).alloc (Nat.le_refl _) _
          have h6 := heap_alloc_new wr (.cells #[.bool x.anew, .int .u64 (x.term : Int), .int .i64 x.vote, .int .u64 (x.snap.idx : Int), .int .u64 (x.snap.term : Int), .int .u64 (x.snap.cfg : Int), .string x.snap.data, .slice x.A x.n x.c] 57)
          obtain ⟨xa, hxa⟩ : ∃ xa, x.anew = xa := ⟨_, rfl⟩
          rw [hxa] at c0 l6 h6
          obtain ⟨w10, hw10⟩ : ∃ w10, wr.alloc (.cells #[.bool xa, .int .u64 (x.term : Int), .int .i64 x.vote, .int .u64 (x.snap.idx : Int), .int .u64 (x.snap.term : Int), .int .u64 (x.snap.cfg : Int), .string x.snap.data, .slice x.A x.n x.c] 57) = w10 := ⟨_, rfl⟩
          rw [hw10] at l6 h6
          have hB10 := hbel.trans (l6.mono hbel.size)
          have hP10 := HP.out.beside l6 (Nat.le_refl _) (lt_at h6)
          have hca := hcal.below (l6.mono HP.out.base) (Nat.le_refl _)
          have HW10 := Lib.hid hw10
          have H6 := Lib.hid h6
          have HCA := Lib.hid hca
          have hlt10 := lt_at h6
          obtain ⟨r, m', s', hcl, hlen⟩ : ∃ r m' s', (if xa = true then sanew m 1 s (staOf x) else ssave m 1 s x.term x.vote x.l) = (r, (m', s')) ∧ s'.es.length ≤ s.es.length + x.l.length := by
            cases xa with
            | true =>
              rw [if_pos rfl]
              exact ⟨_, _, _, rfl, sanew_len (x := staOf x) rfl⟩
            | false =>
              rw [if_neg (by decide)]
              exact ⟨_, _, _, rfl, ssave_len rfl⟩
          have HCL := Lib.hid hcl
          have hrr : (r != r) = false := by simp
          obtain ⟨⟨S5, f5⟩, hrd⟩ : ∃ q5, (str (m'.read 1).1, (m'.read 1).2) = q5 := ⟨_, rfl⟩
          have HRD := Lib.hid hrd
          have hss : (S5.toList == S5.toList) = true := by simp
          have hss2 : (S5.toList != S5.toList) = false := by simp
          have hm0 : ∀ z ∈ [wr.heap.size], ∀ o, w10.heap[z]? = some o → w10.drew.heap[z]? = some o := fun z _ o h => h
          have hcells : ∀ W : World, W.heap[wr.heap.size]? = some (.cells #[.bool xa, .int .u64 (x.term : Int), .int .i64 x.vote, .int .u64 (x.snap.idx : Int), .int .u64 (x.snap.term : Int), .int .u64 (x.snap.cfg : Int), .string x.snap.data, .slice x.A x.n x.c] 57 (0, 0)) → W.cell? ⟨wr.heap.size, 0, none⟩ = some (.bool xa) ∧ W.cell? ⟨wr.heap.size, 1, none⟩ = some (.int .u64 (x.term : Int)) ∧ W.cell? ⟨wr.heap.size, 2, none⟩ = some (.int .i64 x.vote) ∧ W.cell? ⟨wr.heap.size, 3, none⟩ = some (.int .u64 (x.snap.idx : Int)) ∧ W.cell? ⟨wr.heap.size, 4, none⟩ = some (.int .u64 (x.snap.term : Int)) ∧ W.cell? ⟨wr.heap.size, 5, none⟩ = some (.int .u64 (x.snap.cfg : Int)) ∧ W.cell? ⟨wr.heap.size, 6, none⟩ = some (.string x.snap.data) ∧ W.cell? ⟨wr.heap.size, 7, none⟩ = some (.slice x.A x.n x.c) := fun W hc => ⟨by rw [cell_at hc]; rfl, by rw [cell_at hc]; rfl, by rw [cell_at hc]; rfl, by rw [cell_at hc]; rfl, by rw [cell_at hc]; rfl, by rw [cell_at hc]; rfl, by rw [cell_at hc]; rfl, by rw [cell_at hc]; rfl⟩
          obtain ⟨g0, g1, g2, g3, g4, g5, g6, g7⟩ := hcells w10 h6
          have HCELLS := Lib.hid hcells
          have hPd : Pair w.heap.size [wr.heap.size] w10.drew t b p N t' b' q 1 m s m s := hP10.below (Below.refl _ _).drew
          have hTd := Tab.next HT.out hB10.drew
          have hcad : CalB w10.drew w.heap.size x := hca.below ((Below.refl w.heap.size w10).drew) (Nat.le_refl _)
          have hN9 : N < 900000 := by omega
          have hxn9 : x.n ≤ 999990 := by omega
          have hs2m : s.es.length ≤ 2000000 := by omega
          have hs1m : s.es.length ≤ 1000000 := by omega
          have HLS := Lib.hid hls
          clear hten hcal hca l6 h6 hw10 hcl hrd hxa hcells hP10 hls
          go_upto_if 79 with fail
          go_cut [11, 13] from 80 to 109 (fun e f wx => e = .int .i64 r ∧ f = .int .i64 r ∧ Pair w.heap.size [] wx t b p (N + 2) t' b' q 1 m' s' m' s' ∧ Below w.heap.size w wx)
          case first =>
            rw [HW10.out]
            have hz0 : w10.drew.heap[wr.heap.size]? = _ := H6.out
            cases xa
            case true =>
              have HS : Hid (sanew m 1 s (staOf x) = (r, (m', s'))) := HCL.out
              go_wp2_with fail
              go_region_held3 (fun W => W.cell? ⟨wr.heap.size, 0, none⟩ = some (.bool true) ∧ W.cell? ⟨wr.heap.size, 1, none⟩ = some (.int .u64 (x.term : Int)) ∧ W.cell? ⟨wr.heap.size, 2, none⟩ = some (.int .i64 x.vote) ∧ W.cell? ⟨wr.heap.size, 3, none⟩ = some (.int .u64 (x.snap.idx : Int)) ∧ W.cell? ⟨wr.heap.size, 4, none⟩ = some (.int .u64 (x.snap.term : Int)) ∧ W.cell? ⟨wr.heap.size, 5, none⟩ = some (.int .u64 (x.snap.cfg : Int)) ∧ W.cell? ⟨wr.heap.size, 6, none⟩ = some (.string x.snap.data) ∧ W.cell? ⟨wr.heap.size, 7, none⟩ = some (.slice x.A x.n x.c))
                (first
                  | (with_reducible exact HCELLS.out _ hz0)
                  | (with_reducible exact HCELLS.out _ hz1)
                  | (with_reducible exact HCELLS.out _ hz2))
                (first
                  | (go_at_call 14
                     (with_reducible refine (pair_anew hPd hTd hg hN9 hcad hxn9 HS).mono ?_)
                     rintro e w11 ⟨rfl, hP11, hb11, hkeep⟩
                     have hz1 := hkeep wr.heap.size (by simp) _ hz0)
                  | (go_at_call 15
                     (with_reducible refine (pair_ranew hP11 (hcad.below hb11 (Nat.le_refl _)) hxn9 HS).mono ?_)
                     rintro e w12 ⟨rfl, hP12, hb12, hkeep2⟩
                     have hz2 := hkeep2 wr.heap.size (by simp) _ hz1))
              go_wp2_with fail
              go_meet
              exact ⟨rfl, rfl, hP12.fewer, (hB10.drew.trans hb11).trans hb12⟩
            case false =>
              have HS : Hid (ssave m 1 s x.term x.vote x.l = (r, (m', s'))) := HCL.out
              go_wp2_with fail
              go_region_held3 (fun W => W.cell? ⟨wr.heap.size, 0, none⟩ = some (.bool false) ∧ W.cell? ⟨wr.heap.size, 1, none⟩ = some (.int .u64 (x.term : Int)) ∧ W.cell? ⟨wr.heap.size, 2, none⟩ = some (.int .i64 x.vote) ∧ W.cell? ⟨wr.heap.size, 3, none⟩ = some (.int .u64 (x.snap.idx : Int)) ∧ W.cell? ⟨wr.heap.size, 4, none⟩ = some (.int .u64 (x.snap.term : Int)) ∧ W.cell? ⟨wr.heap.size, 5, none⟩ = some (.int .u64 (x.snap.cfg : Int)) ∧ W.cell? ⟨wr.heap.size, 6, none⟩ = some (.string x.snap.data) ∧ W.cell? ⟨wr.heap.size, 7, none⟩ = some (.slice x.A x.n x.c))
                (first
                  | (with_reducible exact HCELLS.out _ hz0)
                  | (with_reducible exact HCELLS.out _ hz1)
                  | (with_reducible exact HCELLS.out _ hz2))
                (first
                  | (go_at_call 16
                     (with_reducible refine (pair_save hPd hTd hg hN9 (by decide) (by decide) hcad hxn9 hs2m HS).mono ?_)
                     rintro e w11 ⟨rfl, hP11, hb11, hkeep⟩
                     have hz1 := hkeep wr.heap.size (by simp) _ hz0)
                  | (go_at_call 17
                     (with_reducible refine (pair_rsave hP11 (hcad.below hb11 (Nat.le_refl _)) hxn9 HLS.out hs1m HS).mono ?_)
                     rintro e w12 ⟨rfl, hP12, hb12, hkeep2⟩
                     have hz2 := hkeep2 wr.heap.size (by simp) _ hz1))
              go_wp2_with fail
              go_meet
              exact ⟨rfl, rfl, hP12.fewer, (hB10.drew.trans hb11).trans hb12⟩
          case rest =>
            obtain ⟨rfl, rfl, hPc, hBc⟩ := hcut
            have hfin : s'.es.length ≤ total (L.take (k + 1)) := by omega
            have hsl' : s'.es.length ≤ 400 := by have := total_le L (k + 1); omega
            have HPC := Lib.hid hPc
            obtain ⟨X, Lx, vx, Ax, cx, hSAt, hRS, _⟩ := hPc
            have HSA := Lib.hid hSAt
            have HRS := Lib.hid hRS
            clear hSAt hRS g0 g1 g2 g3 g4 g5 g6 g7 c0 c1 c2 c3 c4 c5 c6 c7 HCL hm0
            go_wp2_with fail
            refine (read_lit HSA.out.disk (by decide) (by decide) HRD).mono ?_
            rintro e w13 ⟨rfl, hb13⟩
            have hB13 := hBc.trans (hb13.mono hBc.size)
            go_wp2_with fail
            refine (rread_lit (RefAt.below HRS.out.disk hb13) HRS.out.fine HRD).mono ?_
            rintro e w14 ⟨rfl, hb14⟩
            have hB14 := hB13.trans (hb14.mono hB13.size)
            have hbc14 := hb13.trans (hb14.mono hb13.size)
            have hS14 := HSA.out.below hbc14
            have hR14 := HRS.out.below hbc14
            have hall2 : ∀ W, Below w14.heap.size w14 W → W.cell? ⟨t', 1, none⟩ = some (.int .u64 (s'.term : Int)) ∧ W.cell? ⟨t', 2, none⟩ = some (.int .i64 s'.vote) ∧ W.cell? ⟨t', 3, none⟩ = some (.int .u64 (s'.snap.idx : Int)) ∧ W.cell? ⟨t', 4, none⟩ = some (.int .u64 (s'.snap.term : Int)) ∧ W.cell? ⟨t', 5, none⟩ = some (.int .u64 (s'.snap.cfg : Int)) ∧ W.cell? ⟨t', 6, none⟩ = some (.string s'.snap.data) ∧ W.cell? ⟨t', 7, none⟩ = some (.slice Ax s'.es.length cx) := fun W hW => by
              have hd := (hW.block _ hR14.lt).trans hR14.sto
              exact ⟨by rw [cell_at hd]; rfl, by rw [cell_at hd]; rfl, by rw [cell_at hd]; rfl, by rw [cell_at hd]; rfl, by rw [cell_at hd]; rfl, by rw [cell_at hd]; rfl, by rw [cell_at hd]; rfl⟩
            have hst := state_any (hS14.sto.below ((Below.refl w14.heap.size w14).drew)) (by omega)
            have hsame2 : ∀ W A' c', Below w14.heap.size w14 W → RE W W.heap.size A' s'.es.length s'.es → Calls Tryz.prog 13 #[.agg #[.int .u64 (s'.term : Int), .int .i64 s'.vote, .int .u64 (s'.snap.idx : Int), .int .u64 (s'.snap.term : Int), .int .u64 (s'.snap.cfg : Int), .string s'.snap.data, .slice A' s'.es.length c'], .agg #[.int .u64 (s'.term : Int), .int .i64 s'.vote, .int .u64 (s'.snap.idx : Int), .int .u64 (s'.snap.term : Int), .int .u64 (s'.snap.cfg : Int), .string s'.snap.data, .slice Ax s'.es.length cx]] W fun e W' => e = .returned (.bool true) ∧ Below W.heap.size W W' := fun W A' c' hW hr => same_yes s' hr ((Kit.Reads.below hR14.re hW).more hW.size) (by omega) (by omega)
            obtain ⟨d1, d2, d3, d4, d5, d6, d7⟩ := hall2 w14 (Below.refl _ _)
            have l0' : Below w14.heap.size w14 w14.drew := (Below.refl _ _).drew
            have HALL2 := Lib.hid hall2
            have HST2 := Lib.hid hst
            have HSAME2 := Lib.hid hsame2
            have hltt := hR14.lt
            clear hall2 hst hsame2 hS14 hR14
            go_wp2_with fail
            go_region_held3 (fun W => W.cell? ⟨t', 1, none⟩ = some (.int .u64 (s'.term : Int)) ∧ W.cell? ⟨t', 2, none⟩ = some (.int .i64 s'.vote) ∧ W.cell? ⟨t', 3, none⟩ = some (.int .u64 (s'.snap.idx : Int)) ∧ W.cell? ⟨t', 4, none⟩ = some (.int .u64 (s'.snap.term : Int)) ∧ W.cell? ⟨t', 5, none⟩ = some (.int .u64 (s'.snap.cfg : Int)) ∧ W.cell? ⟨t', 6, none⟩ = some (.string s'.snap.data) ∧ W.cell? ⟨t', 7, none⟩ = some (.slice Ax s'.es.length cx))
              (first
                | (with_reducible exact HALL2.out _ l0')
                | (with_reducible exact HALL2.out _ hB15)
                | (with_reducible exact HALL2.out _ hB16))
              (first
                | (go_at_call 20
                   (with_reducible refine HST2.out.mono ?_)
                   rintro e w15 ⟨A9, c9, rfl, hown, hb15⟩
                   have hB15 : Below w14.heap.size w14 w15 := l0'.trans hb15
                   have HS2 := Lib.hid (HSAME2.out _ A9 c9 hB15 (Few.Gives.reads hown))
                   clear hown
                   unfold staV)
                | (go_at_call 13
                   (with_reducible refine HS2.out.mono ?_)
                   rintro e w16 ⟨rfl, hb16⟩
                   have hB16 : Below w14.heap.size w14 w16 := hB15.trans (hb16.mono hB15.size)))
            go_wp2
            go_roundw
            case rel => exact ⟨k + 1, N + 2, m', s', by omega, by go_num, HPC.out.below (hbc14.trans (hB16.mono hbc14.size)), by omega, hfin, hB14.trans (hB16.mono hB14.size)⟩
            case measure => simp [intOf]; omega
        · obtain rfl : k = mm := by omega
          go_wp2
          go_ret
          exact ⟨rfl, hbel⟩
theorem small {H : Type} {d0 d : DataW H} {l : List (DataW H)} {a : Nat} (h : a ≤ Rows.uptoBulk d) (hall : Rows.uptoBulkAll (d0 :: d :: l) ≤ 1048576) : a ≤ 1048576 := by
  simp only [Rows.uptoBulkAll] at hall
  omega
end Go.Proofs.YtamncdpeklbhlaaGreatDoor.LawE
namespace Go.Proofs.YtamncdpeklbhlaaGreatDoor.PStoreRunsUpto
open Go.ChangeShapes Go.WideShapes Go.ChangeAt Go.RowKit Go.Proofs.YtamncdpeklbhlaaGreatDoor.Kit Go.Proofs.YtamncdpeklbhlaaGreatDoor.Frame
set_option linter.unusedVariables false

theorem own : ownKnob Tryz.prog.godebug = none := by kernel_rfl
theorem laidOut : laidOutB Tryz.prog = true := by kernel_rfl

set_option maxRecDepth 100000 in
theorem contract (H : Type) (enc : TypeId × Value → H) (W : World) (base : Nat) (args : Array Value) (ds gs : List (DataW H)) (before : List MemPlace)
    (hval : ∀ (j : Nat) t v, Tryz.f3.params[j]? = some t → args[j]? = some v → Value.okWide Tryz.prog W .any base t v)
    (hW : DataW.Whole enc Tryz.prog Tryz.f3.params.toList Rows.storeRunsSpec.vars false W args.toList ds gs before)
    (hk : Rows.uptoSmall H (ds ++ gs) = true)
    (hs0 : (DataW.weightsEach Tryz.prog (Tryz.f3.params.toList ++ (Rows.OpenSpec.upto Rows.storeRunsSpec).bare.plain.varTypes Tryz.prog) (ds ++ gs)).all (· ≤ reachBytes) = true)
    (hL : laidMetH Tryz.prog Rows.storeRunsUptoRow.laid W) :
    Calls Tryz.prog 3 args W fun e W' => ∃ v, e = .returned v ∧ Rows.storeRunsSpec.post enc Tryz.prog Tryz.f3 false true false false W args v W' := by
  have hW' := hW
  obtain ⟨p, q, hA0, hV, rfl, hfz, hnd⟩ := hW
  have hA : DataW.TrodAll enc Tryz.prog W 0 (fun _ => true) true Tryz.f3.params.toList args.toList ds p := hA0
  rw [Tryz.params3] at hA hval
  obtain ⟨v0, vs0, d0, ds0, p0, q0, hargs, rfl, rfl, h0, r0⟩ := trodAll_cons hA
  obtain ⟨v1, vs1, d1, ds1, p1, q1, rfl, rfl, rfl, h1, r1⟩ := trodAll_cons r0
  obtain ⟨rfl, rfl, rfl⟩ := trodAll_nil r1
  obtain rfl : args = #[v0, v1] := by cases args; simp_all
  obtain ⟨rfl, rfl⟩ := trodVars_none hV
  have lt0 : ∀ x ∈ p0, x.block < W.heap.size := by obtain ⟨m, hm⟩ := h0; exact DataW.trod_lt m _ _ _ hm
  obtain ⟨z0, rfl, hz00_0, hz10_1⟩ := Opens.arg_int (hval 0 3 v0 rfl rfl) h0
  have lt1 : ∀ x ∈ p1, x.block < W.heap.size := by obtain ⟨m, hm⟩ := h1; exact DataW.trod_lt m _ _ _ hm
  obtain ⟨C1, m1, cc1, L1, rfl, hh1_0, hm1_1, d1_2⟩ := Opens.arg_calls (hval 1 22 v1 rfl rfl) h1
  have hall : Rows.uptoBulkAll _ ≤ 1048576 := of_decide_eq_true hk
  clear hA0
  refine (LawE.runs_mid z0 C1 m1 cc1 L1 W hz00_0 hz10_1 hh1_0 hm1_1 (LawE.small d1_2 hall) (Laid.tab_of_laid hL)).mono fun e W' ⟨he, bel⟩ => ?_
  subst he
  exact ⟨_, rfl, _, _, _, [], _, [], hW', trodAll_mk1 (shut_bool Tryz.underlying4 _), (trodAll_cons_mk (Below.trod laidOut (by kernel_rfl) (of_decide_eq_true (by kernel_rfl)) h0 bel lt0) (trodAll_cons_mk (Below.trod laidOut (by kernel_rfl) (of_decide_eq_true (by kernel_rfl)) h1 bel lt1) trodAll_mk0)), rfl, bel.frame _, fun h => by cases h⟩

theorem laid_met (os : Os) : laidMet Tryz.prog Rows.storeRunsUptoRow.laid (((Laid.laidWorld os)).forCall (fun _ _ => 0) ⟨#[], #[.int .i64 0, .slice none 0 0], []⟩).memory :=
  laidMet_of_run' 8 (by kernel_rfl) (by kernel_rfl)
theorem reads (os : Os) {H : Type} (enc : TypeId × Value → H) : ∃ places, DataW.whole enc Tryz.prog ((Laid.laidWorld os).forCall (fun _ _ => 0) ⟨#[], #[.int .i64 0, .slice none 0 0], []⟩).memory Tryz.f3.params.toList Rows.storeRunsSpec.vars false (#[.int .i64 0, .slice none 0 0] : Array Value).toList 8 = some ([.lit (.int .i64 0), .nil], [], places) :=
  ⟨[], by kernel_rfl⟩

set_option maxRecDepth 100000 in
theorem lifted (os : Os) (started : os.Started) (H : Type) (enc : TypeId × Value → H) (F : Stop.Interp) :
    ReturnsInHanded {} Tryz.checked os 3 .any ((Rows.OpenSpec.upto Rows.storeRunsSpec).preRow enc Tryz.prog Tryz.f3 Rows.storeRunsUptoRow.domain false Rows.storeRunsUptoRow.laid) (((Rows.OpenSpec.upto Rows.storeRunsSpec).at F).post enc Tryz.prog Tryz.f3 false true false false) := by
  obtain ⟨places, hx⟩ := reads os enc
  refine returnsInHanded_of_row (C := Tryz.checked) (s := (Rows.OpenSpec.upto Rows.storeRunsSpec)) own started (by kernel_rfl) Tryz.func3
    (witness_row_at (enc := enc) (C := Tryz.checked) false (Laid.laidWorld os) #[.int .i64 0, .slice none 0 0] rfl (by kernel_rfl) (by kernel_rfl) (by kernel_rfl)
      (OpenSpec.preRow_of_cond 8 hx (by kernel_rfl) (fun k hk => by cases hk; kernel_rfl) (by kernel_rfl) (laid_met os))) ?_
  intro W base args ds gs before hval hW _ hcond hsz hL _ _
  exact contract H enc W base args ds gs before hval hW (hcond _ rfl) hsz hL

theorem over : Rows.StoreRunsUptoSaid :=
  OpenClaim.holds_of_cond 3 Tryz.f3 rfl rfl rfl rfl rfl rfl rfl ⟨rfl, rfl, rfl, rfl, rfl⟩ rfl rfl rfl rfl rfl (by kernel_rfl) Tryz.func3 (by kernel_rfl)
    (of_decide_eq_true (by kernel_rfl)) (by unfold Func.isWrapper; first | (rw [if_pos (by decide +kernel)]; kernel_rfl) | (rw [if_neg (by decide +kernel)]; exact ⟨rfl, rfl⟩))
    (fun os started H enc _ F => by rw [OpenClaim.pre_eq_preRow]; exact lifted os started H enc F)

theorem plain (f : FuncId) (fn : Func) (hf : Tryz.pinned.checked.prog.funcNamed "tontine/tontinelaw08.StoreRuns" = some f) (hfn : Tryz.pinned.checked.prog.funcs[f]? = some fn) :
    false = Tryz.pinned.checked.prog.looks [] ∧ ∀ (j : Nat) t, fn.params[j]? = some t → Tryz.pinned.checked.prog.wantsStandIn t = false := by
  obtain rfl : f = 3 := Option.some.inj ((show Tryz.prog.funcNamed "tontine/tontinelaw08.StoreRuns" = some 3 by kernel_rfl).symm.trans hf) |>.symm
  obtain rfl : fn = Tryz.f3 := (Option.some.inj (Tryz.func3.symm.trans hfn)).symm
  refine ⟨by kernel_rfl, fun j t ht => ?_⟩
  rw [Tryz.params3] at ht
  have hm : t ∈ [3, 22] := by simpa using Array.mem_of_getElem? ht
  have hall : (([3, 22] : List TypeId).all fun u => !Tryz.prog.wantsStandIn u) = true := by kernel_rfl
  exact (show Tryz.prog.wantsStandIn t = false by simpa using List.all_eq_true.1 hall t hm)

theorem proved : Rows.StoreRunsUptoCardSaid :=
  Claim7.holds_tied_plain_at .later [] _ _ _ _ over (fun _ h => by cases h) (by kernel_rfl) (fun _ h => by cases h) storeRunsUpto_row_tie rfl ⟨rfl, rfl⟩ (by kernel_rfl) rfl plain (by kernel_rfl)
end Go.Proofs.YtamncdpeklbhlaaGreatDoor.PStoreRunsUpto
