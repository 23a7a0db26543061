/- What alike answers of a log and the document's that are one, walked. -/
import Derived.Test.YtndehdnffajigaaBoth
import Derived.Test.YtndehdnffajigaaNone
set_option linter.unusedVariables false
namespace Go.Proofs.Ytndehdnffajigaa.Alike
open Go.RowKit Go.Proofs.Ytndehdnffajigaa.Kit Go.Proofs.Ytndehdnffajigaa.Blocks Go.Proofs.Ytndehdnffajigaa.Rlog Go.Proofs.Ytndehdnffajigaa.Ents Go.Proofs.Ytndehdnffajigaa.LogAt Go.Proofs.Ytndehdnffajigaa.WalkB Go.Proofs.Ytndehdnffajigaa.WalkC Go.Proofs.Ytndehdnffajigaa.WalkD Go.Proofs.Ytndehdnffajigaa.WalkE Go.Proofs.Ytndehdnffajigaa.WalkF Go.Proofs.Ytndehdnffajigaa.WalkG Go.Proofs.Ytndehdnffajigaa.WalkH Go.Proofs.Ytndehdnffajigaa.WalkI Go.Proofs.Ytndehdnffajigaa.WalkJ Go.Proofs.Ytndehdnffajigaa.WalkK Go.Proofs.Ytndehdnffajigaa.RefB Go.Proofs.Ytndehdnffajigaa.RefC Go.Proofs.Ytndehdnffajigaa.RefD Go.Proofs.Ytndehdnffajigaa.Cals Go.Proofs.Ytndehdnffajigaa.Duos

theorem term_any {B p : Nat} {v : Value} {g : G} {w : World} (h : LP B w p v g) (f : Fine g) {i : Nat} (hb : i < 18446744073709551616) : Calls Try.prog 19 #[.pointer (some ⟨p, 0, none⟩), .int .u64 (i : Int)] w (TermIs w (term g i)) := by
  cases ht : term g i with
  | none => exact term_no h hb ht
  | some t => exact term_yes h f hb ht
theorem term_two (r : Option Nat) : ∃ E V : Nat, ∀ w e w', TermIs w r e w' → e = .returned (.tuple #[.int .u64 (V : Int), .int .i64 (E : Int)]) ∧ w = w' := by
  obtain ⟨E, V, h, _⟩ := RefI.term_case r 0
  exact ⟨E, V, h⟩
/-- All that lies behind the snapshot. -/
theorem get_all {g : G} (f : Fine g) {i : Nat} {n : Int} (hi : i = (g.snap.idx + 1) % 18446744073709551616) (hn : (g.es.length : Int) ≤ n) : get g i n = g.es := by
  unfold Rlog.get
  rcases Nat.eq_zero_or_pos g.es.length with h0 | h0
  · have he := List.eq_nil_of_length_eq_zero h0
    cases hp : place g i with
    | none => exact he.symm
    | some k => have := (place_lt hp).1; omega
  · have hr := f.room
    rw [place_of (g := g) (i := i) (k := 0) h0 (by omega)]
    simp only [List.drop_zero]
    exact List.take_of_length_le (by omega)
theorem get_len (g : G) (i : Nat) (n : Int) : (get g i n).length ≤ g.es.length := by
  unfold Rlog.get
  split
  · simp
  · simp only [List.length_take, List.length_drop]; omega
set_option maxRecDepth 100000 in
set_option maxHeartbeats 4000000 in
theorem alike_any {B p q : Nat} {v u : Value} {g : G} {w : World} (a : LP B w p v g) (b : LR B w q u g) (f : Fine g) (hl : g.es.length ≤ 1000) {i : Nat} (hi : i < 18446744073709551616) (n : Int) (hn : n ≤ 9223372036854775807) :
    Calls Try.prog 14 #[.pointer (some ⟨p, 0, none⟩), .pointer (some ⟨q, 0, none⟩), .int .u64 (i : Int), .int .i64 n] w fun e w' => e = .returned (.bool true) ∧ Below w.heap.size w w' := by
  obtain ⟨E, V, hEV⟩ := term_two (term g i)
  have HEV := Lib.hid hEV
  have HA := Lib.hid a
  have HB := Lib.hid b
  have HF := Lib.hid f
  have HL := Lib.hid hl
  clear hEV a b f hl
  go_enter Try.func14, Try.ntmps14
  go_wp2_with fail
  refine (last_any HA.out HF.out).mono ?_
  rintro e w1 ⟨rfl, hb1⟩
  have HA1 := Lib.hid (HA.out.below hb1)
  have HB1 := Lib.hid (HB.out.below hb1)
  go_wp2_with fail
  refine (rlast_any HB1.out).mono ?_
  rintro e w2 ⟨rfl, hb2⟩
  have HA2 := Lib.hid (HA1.out.below hb2)
  have HB2 := Lib.hid (HB1.out.below hb2)
  have hB2 := hb1.trans (hb2.mono hb1.size)
  clear hb1 hb2
  generalize (last g).1 = L1
  generalize (last g).2 = L2
  go_wp2_with fail
  refine (term_any HA2.out HF.out hi).mono ?_
  intro e w3 he
  obtain ⟨rfl, rfl⟩ := HEV.out _ _ _ he
  clear he
  go_wp2_with fail
  refine (rterm_any HB2.out HF.out i).mono ?_
  intro e w3 he
  obtain ⟨rfl, rfl⟩ := HEV.out _ _ _ he
  clear he
  go_wp2_with fail
  refine (all_members HA2.out HF.out).mono ?_
  rintro e w3 ⟨rfl, hb3⟩
  have HA3 := Lib.hid (HA2.out.below hb3)
  have HB3 := Lib.hid (HB2.out.below hb3)
  have hB3 := hB2.trans (hb3.mono hB2.size)
  clear hb3 hB2
  go_wp2_with fail
  refine (rmembers_any HB3.out HF.out 18446744073709551615).mono ?_
  rintro e w4 ⟨rfl, hb4⟩
  have HA4 := Lib.hid (HA3.out.below hb4)
  have HB4 := Lib.hid (HB3.out.below hb4)
  have hB4 := hB3.trans (hb4.mono hB3.size)
  clear hb4 hB3
  generalize (members g 18446744073709551615).1 = M1
  generalize (members g 18446744073709551615).2 = M2
  go_wp2_with fail
  refine (members_any HA4.out HF.out i).mono ?_
  rintro e w5 ⟨rfl, hb5⟩
  have HA5 := Lib.hid (HA4.out.below hb5)
  have HB5 := Lib.hid (HB4.out.below hb5)
  have hB5 := hB4.trans (hb5.mono hB4.size)
  clear hb5 hB4
  go_wp2_with fail
  refine (rmembers_any HB5.out HF.out i).mono ?_
  rintro e w6 ⟨rfl, hb6⟩
  have HA6 := Lib.hid (HA5.out.below hb6)
  have HB6 := Lib.hid (HB5.out.below hb6)
  have hB6 := hB5.trans (hb6.mono hB5.size)
  clear hb6 hB5
  generalize (members g i).1 = N1
  generalize (members g i).2 = N2
  go_wp2_with fail
  have c0 := HB6.out.c0
  have c1 := HB6.out.c1
  have c2 := HB6.out.c2
  have c3 := HB6.out.c3
  have c4 := HB6.out.c4
  have hlt6 := HB6.out.lt
  obtain ⟨A, c, rfl, hnc, hcm, hr⟩ := HB6.out.form
  obtain ⟨I, hI⟩ : ∃ I, g.snap.idx = I := ⟨_, rfl⟩
  obtain ⟨T, hT⟩ : ∃ T, g.snap.term = T := ⟨_, rfl⟩
  obtain ⟨C, hC⟩ : ∃ C, g.snap.cfg = C := ⟨_, rfl⟩
  obtain ⟨D, hD⟩ : ∃ D, g.snap.data = D := ⟨_, rfl⟩
  rw [hI] at c0
  rw [hT] at c1
  rw [hC] at c2
  rw [hD] at c3
  have hfirst := first_any HA6.out.drew
  unfold snapV at hfirst
  rw [hI, hT, hC, hD] at hfirst
  have HFi := Lib.hid hfirst
  have heq := Nones.eq_snap (I : Int) (T : Int) (C : Int) D
  obtain ⟨J, hJ⟩ : ∃ J, (I + 1) % 18446744073709551616 = J := ⟨_, rfl⟩
  have hwJ : IntKind.u64.wrap ((I : Int) + 1) = (J : Int) := by rw [← hJ]; exact wrap_succ (by rw [← hI]; exact HF.out.snap.idx)
  obtain ⟨M, hM⟩ : ∃ M, get g i n = M := ⟨_, rfl⟩
  have hMl : M.length ≤ 1000 := by rw [← hM]; exact Nat.le_trans (get_len g i n) HL.out
  have hL := HL.out
  have hG1 : ∀ W, Below w6.heap.size w6 W → Calls Try.prog 16 #[.pointer (some ⟨p, 0, none⟩), .int .u64 (J : Int), .int .i64 1000] W (Gives W g.es) := fun W hb => by
    have := get_any (HA6.out.below hb) (i := J) (n := 1000) (by omega) (by omega) (by omega)
    rwa [get_all HF.out (by rw [hI]; exact hJ.symm) (by omega)] at this
  have hG2 : ∀ W, Below w6.heap.size w6 W → Calls Try.prog 16 #[.pointer (some ⟨p, 0, none⟩), .int .u64 (i : Int), .int .i64 n] W (Gives W M) := fun W hb => by
    have := get_any (HA6.out.below hb) (i := i) (n := n) hi hn (by omega)
    rwa [hM] at this
  have hR2 : ∀ W, Below w6.heap.size w6 W → Calls Try.prog 41 #[.pointer (some ⟨q, 0, none⟩), .int .u64 (i : Int), .int .i64 n] W (Gives W M) := fun W hb => by
    have := rget_any (HB6.out.below hb) HF.out (i := i) (n := n) (by omega)
    rwa [hM] at this
  have hS1 : ∀ W A8 c8, Below w6.heap.size w6 W → RE W W.heap.size A8 g.es.length g.es → Calls Try.prog 18 #[.slice A8 g.es.length c8, .slice A g.es.length c] W fun e w' => e = .returned (.bool true) ∧ Below W.heap.size W w' := fun W A8 c8 hb h8 =>
    same_any h8 ((Kit.Reads.below hr hb).more hb.size) (by omega)
  have hS2 : ∀ W A1 c1 A2 c2, RE W W.heap.size A1 M.length M → RE W W.heap.size A2 M.length M → Calls Try.prog 18 #[.slice A1 M.length c1, .slice A2 M.length c2] W fun e w' => e = .returned (.bool true) ∧ Below W.heap.size W w' := fun W A1 c1 A2 c2 h1 h2 =>
    same_any h1 h2 (by omega)
  have hcells : ∀ W, Below w6.heap.size w6 W → W.cell? ⟨q, 0, none⟩ = some (.int .u64 (I : Int)) ∧ W.cell? ⟨q, 1, none⟩ = some (.int .u64 (T : Int)) ∧ W.cell? ⟨q, 2, none⟩ = some (.int .u64 (C : Int)) ∧ W.cell? ⟨q, 3, none⟩ = some (.string D) ∧ W.cell? ⟨q, 4, none⟩ = some (.slice A g.es.length c) := fun W hb =>
    ⟨(hb.cell (p := ⟨q, 0, none⟩) hlt6).trans c0, (hb.cell (p := ⟨q, 1, none⟩) hlt6).trans c1, (hb.cell (p := ⟨q, 2, none⟩) hlt6).trans c2, (hb.cell (p := ⟨q, 3, none⟩) hlt6).trans c3, (hb.cell (p := ⟨q, 4, none⟩) hlt6).trans c4⟩
  have HG1 := Lib.hid hG1
  have HG2 := Lib.hid hG2
  have HR2 := Lib.hid hR2
  have HS1 := Lib.hid hS1
  have HS2 := Lib.hid hS2
  have HCells := Lib.hid hcells
  clear hfirst hJ hM hMl hL hG1 hG2 hR2 hS1 hS2 hcells hr hnc hcm
  dsimp only [List.append]
  go_region_held3 (fun w' => w'.cell? ⟨q, 0, none⟩ = some (.int .u64 (I : Int)) ∧ w'.cell? ⟨q, 1, none⟩ = some (.int .u64 (T : Int)) ∧ w'.cell? ⟨q, 2, none⟩ = some (.int .u64 (C : Int)) ∧ w'.cell? ⟨q, 3, none⟩ = some (.string D) ∧ w'.cell? ⟨q, 4, none⟩ = some (.slice A g.es.length c))
    (first
      | exact ⟨c0, c1, c2, c3, c4⟩
      | exact HCells.out _ hB10
      | exact HCells.out _ hBR
      | exact HCells.out _ hBG
      | exact HCells.out _ hB9
      | exact HCells.out _ hB8
      | exact HCells.out _ hB7)
    (first
      | (go_at_call 15
         (with_reducible refine HFi.out.mono ?_)
         rintro e w7 ⟨rfl, hb7⟩
         have hB7 : Below w6.heap.size w6 w7 := ((Below.refl _ _).drew).trans hb7)
      | (go_at_call 16
         (with_reducible refine (HG1.out _ hB7).mono ?_)
         rintro e w8 ⟨A8, c8, rfl, hr8, hc8, h638, hb8, hf8⟩
         have hB8 : Below w6.heap.size w6 w8 := hB7.trans (hb8.mono hB7.size))
      | (go_at_call 18
         (with_reducible refine (HS1.out _ _ _ hB8 hr8).mono ?_)
         rintro e w9 ⟨rfl, hb9⟩
         have hB9 : Below w6.heap.size w6 w9 := hB8.trans (hb9.mono hB8.size))
      | (go_at_call 16
         (with_reducible refine (HG2.out _ (by first | exact hBR | exact hB9)).mono ?_)
         rintro e wG ⟨AG, cG, rfl, hrG, hcG, h63G, hbG, hfG⟩
         have hBG : Below w6.heap.size w6 wG := by first | exact hBR.trans (hbG.mono hBR.size) | exact hB9.trans (hbG.mono hB9.size))
      | (go_at_call 41
         (with_reducible refine (HR2.out _ (by first | exact hBG | exact hB9)).mono ?_)
         rintro e wR ⟨AR, cR, rfl, hrR, hcR, h63R, hbR, hfR⟩
         have hBR : Below w6.heap.size w6 wR := by first | exact hBG.trans (hbR.mono hBG.size) | exact hB9.trans (hbR.mono hB9.size))
      | (go_at_call 18
         (with_reducible refine (HS2.out _ _ _ _ _ (by first | exact hrG | exact (Kit.Reads.below hrG hbR).more hbR.size) (by first | exact hrR | exact (Kit.Reads.below hrR hbG).more hbG.size)).mono ?_)
         rintro e w10 ⟨rfl, hb10⟩
         have hB10 : Below w6.heap.size w6 w10 := by first | exact hBR.trans (hb10.mono hBR.size) | exact hBG.trans (hb10.mono hBG.size)))
  all_goals go_wp2
  all_goals go_ret
  all_goals exact ⟨rfl, hB6.trans (hB10.mono hB6.size)⟩
end Go.Proofs.Ytndehdnffajigaa.Alike
