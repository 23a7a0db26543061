/- What the program's calls that only read a node answer, walked: isNode, only, members, isOfTerm, mayStand, others, before, hears, grants. -/
import Derived.Test.YtdbmpfongfiagaaAppL
import Derived.Test.YtdbmpfongfiagaaNodB
import Derived.Test.YtdbmpfongfiagaaRlgWalkJ
import Derived.Test.YtdbmpfongfiagaaQuoWalkD
import Derived.BigQuiet
import Derived.BigRegion
import Derived.Deep.RegionHeld3
set_option linter.unusedVariables false
namespace Go.Proofs.Ytdbmpfongfiagaa.WalkA
open Go.RowKit Go.Proofs.Ytdbmpfongfiagaa.Kit Go.Proofs.Ytdbmpfongfiagaa.Blocks Go.Proofs.Ytdbmpfongfiagaa.Rlog Go.Proofs.Ytdbmpfongfiagaa.Ents Go.Proofs.Ytdbmpfongfiagaa.LogAt Go.Proofs.Ytdbmpfongfiagaa.Nod Go.Proofs.Ytdbmpfongfiagaa.NodAt
open Go.Proofs.Ytdbmpfongfiagaa.Quorum (mem size need sound maj node has turn change)

theorem node_any (n : Int) (w : World) : Calls Try.prog 17 #[.int .i64 n] w fun e w' => e = .returned (.bool (node n)) ∧ w = w' := by
  by_cases h0 : 0 ≤ n
  · have hn : node n = decide (n < 7) := by unfold node; simp [h0]
    have h0' : ¬ n < 0 := by omega
    have h1 : decide (0 ≤ n) = true := by simp [h0]
    rw [hn]
    go_enter Try.func17, Try.ntmps17
    go_wp2
    go_ret
    exact ⟨rfl, rfl⟩
  · have hn : node n = false := by unfold node; simp [h0]
    rw [hn]
    go_enter Try.func17, Try.ntmps17
    go_wp2
    go_ret
    exact ⟨rfl, rfl⟩
theorem node_hid {n : Int} {b : Bool} (h : Hid (node n = b)) (w : World) : Calls Try.prog 17 #[.int .i64 n] w fun e w' => e = .returned (.bool b) ∧ w = w' := by
  have := node_any n w
  rwa [h.out] at this
theorem only_any (i : Nat) (hi : i < 7) (w : World) : Calls Try.prog 29 #[.int .i64 (i : Int)] w fun e w' => e = .returned (.int .u64 ((2 ^ i : Nat) : Int)) ∧ w = w' := by
  have hp := QuoWalkA.pow_lt i hi
  have hw : IntKind.u64.wrap (2 ^ i) = ((2 ^ i : Nat) : Int) := by
    have := QuoWalkA.wrap_u64 (2 ^ i) (by omega)
    rw [← this, Int.natCast_pow]
    rfl
  have HW := Lib.hid hw
  clear hw
  go_enter Try.func29, Try.ntmps29
  go_wp2
  go_ret
  exact ⟨QuoWalkA.ret_u HW.out, rfl⟩
section
variable {B p N : Nat} {z : Seat} {m : Nd} {w : World} (h : PAt B w p z m) (f : NdB N m)
include h f
theorem members_any : Calls Try.prog 42 #[.pointer (some ⟨p, 0, none⟩)] w fun e w' => e = .returned (.int .u64 (cfg m : Int)) ∧ Below w.heap.size w w' := by
  have c7 := h.c7
  have hm := RlgWalkJ.all_members h.log f.fine
  obtain ⟨a, ha⟩ : ∃ a, cfg m = a := ⟨_, rfl⟩
  have ha' : (members m.g 18446744073709551615).1 = a := ha
  obtain ⟨b, hb⟩ : ∃ b, (members m.g 18446744073709551615).2 = b := ⟨_, rfl⟩
  rw [ha', hb] at hm
  rw [ha]
  have HM := Lib.hid hm
  clear hm ha ha' hb h f
  go_enter Try.func42, Try.ntmps42
  go_wp2_with fail
  refine HM.out.mono ?_
  rintro e w1 ⟨rfl, hb1⟩
  go_wp2
  go_ret
  exact ⟨rfl, hb1⟩
theorem ofTerm_any {i : Nat} (hi : i < 18446744073709551616) : Calls Try.prog 58 #[.pointer (some ⟨p, 0, none⟩), .int .u64 (i : Int)] w fun e w' => e = .returned (.bool (ofTerm m i)) ∧ Below w.heap.size w w' := by
  have c7 := h.c7
  have c5 := h.c5
  obtain ⟨T, hT⟩ : ∃ T, m.term = T := ⟨_, rfl⟩
  rw [hT] at c5
  cases ht : term m.g i with
  | none =>
    have hh : ofTerm m i = false := by simp [ofTerm, ht]
    rw [hh]
    have HT := Lib.hid (RlgWalkE.term_no h.log hi ht)
    clear ht hh h f hT
    go_enter Try.func58, Try.ntmps58
    go_wp2_with fail
    refine HT.out.mono ?_
    rintro e w1 ⟨rfl, rfl⟩
    go_wp2
    go_ret
    exact ⟨rfl, Below.refl _ _⟩
  | some s =>
    obtain ⟨b, hh⟩ : ∃ b, ofTerm m i = b := ⟨_, rfl⟩
    have hc : ((s : Int) == (T : Int)) = b := by
      rw [← hh, Bool.eq_iff_iff]
      simp only [ofTerm, ht, hT, beq_iff_eq, decide_eq_true_eq, Option.some.injEq]
      omega
    rw [hh]
    have HT := Lib.hid (RlgWalkE.term_yes h.log f.fine hi ht)
    clear ht hh h f hT
    go_enter Try.func58, Try.ntmps58
    go_wp2_with fail
    refine HT.out.mono ?_
    rintro e w1 ⟨rfl, rfl⟩
    go_wp2
    go_ret
    exact ⟨rfl, Below.refl _ _⟩
theorem stand_any : Calls Try.prog 28 #[.pointer (some ⟨p, 0, none⟩)] w fun e w' => e = .returned (.bool (mayStand m)) ∧ Below w.heap.size w w' := by
  have c4 := h.c4
  have c7 := h.c7
  have c10 := h.c10
  have hplt := h.plt
  have hid := f.id
  have hat := RlgWalkJ.members_any (h.drew).log f.fine m.commit
  have hmem := fun W (hb : Below w.heap.size w W) => members_any (h.below hb) f
  obtain ⟨I, hI⟩ : ∃ I, m.id = I := ⟨_, rfl⟩
  obtain ⟨C, hC⟩ : ∃ C, m.commit = C := ⟨_, rfl⟩
  obtain ⟨A, hA⟩ : ∃ A, cfg m = A := ⟨_, rfl⟩
  obtain ⟨D, hD⟩ : ∃ D, (members m.g C).1 = D := ⟨_, rfl⟩
  obtain ⟨E, hE⟩ : ∃ E, (members m.g C).2 = E := ⟨_, rfl⟩
  have hAl : A < 128 := hA ▸ cfg_lt f
  have hDl : D < 128 := hD ▸ members_lt f.fine C
  obtain ⟨b, hb⟩ : ∃ b, mayStand m = b := ⟨_, rfl⟩
  have hor : bits .or .u64 (A : Int) (D : Int) = ((A ||| D : Nat) : Int) := u64_or_nat A D (by omega) (by omega)
  have hol : A ||| D < 2 ^ 7 := Nat.or_lt_two_pow hAl hDl
  have hhas := fun W => QuoWalkB.has_any (A ||| D) (by omega) (I : Int) W
  have hbe : has (A ||| D) (I : Int) = b := by rw [← hb, ← hA, ← hD, ← hI, ← hC]; rfl
  rw [hbe] at hhas
  rw [hC, hD, hE] at hat
  rw [hA] at hmem
  rw [hI] at c4
  rw [hC] at c10
  rw [hb]
  have HAt := Lib.hid hat
  have HMem := Lib.hid hmem
  have HHas := Lib.hid hhas
  clear hat hmem hhas hI hC hA hD hE hb hbe f h hol
  go_enter Try.func28, Try.ntmps28
  go_wp2_with fail
  go_region_held3 (fun W => W.cell? ⟨p, 7, none⟩ = some (.pointer (some ⟨z.q, 0, none⟩)) ∧ W.cell? ⟨p, 10, none⟩ = some (.int .u64 (C : Int)))
    (first
      | exact ⟨c7, c10⟩
      | exact ⟨(hBa.cell (p := ⟨p, 7, none⟩) hplt).trans c7, (hBa.cell (p := ⟨p, 10, none⟩) hplt).trans c10⟩)
    (first
      | (go_at_call 43
         with_reducible refine HAt.out.mono ?_
         rintro e wA ⟨rfl, hBa⟩))
  all_goals
    have hB1 : Below w.heap.size w wA := ((Below.refl _ w).drew).trans hBa
    have d4 := (hB1.cell (p := ⟨p, 4, none⟩) hplt).trans c4
    have hmm := HMem.out wA.drew hB1.drew
    go_wp2_with fail
  go_region_held3 (fun W => W.cell? ⟨p, 4, none⟩ = some (.int .i64 (I : Int)))
    (first
      | exact d4
      | exact (hBb.cell (p := ⟨p, 4, none⟩) (Nat.lt_of_lt_of_le hplt hB1.size)).trans d4)
    (first
      | (go_at_call 42
         with_reducible refine hmm.mono ?_
         rintro e wB ⟨rfl, hBb⟩)
      | (go_at_call 41
         with_reducible refine (HHas.out _).mono ?_
         rintro e wC ⟨rfl, rfl⟩))
  all_goals go_wp2
  all_goals go_ret
  all_goals exact ⟨rfl, hB1.drew.trans (hBb.mono hB1.size)⟩
omit h in
theorem rest_mem : rest m = mem (bits .andNot .u64 (cfg m : Int) ((2 ^ m.id : Nat) : Int)).toNat ∧ ∃ r : Nat, r < 128 ∧ bits .andNot .u64 (cfg m : Int) ((2 ^ m.id : Nat) : Int) = (r : Int) := by
  have hc := cfg_lt f
  have hp := QuoWalkA.pow_lt m.id f.id
  have hi := f.id
  unfold rest
  generalize cfg m = c at hc
  generalize m.id = i at hp hi
  have e1 := u64_andNot_nat c (2 ^ i) (by omega) (by omega)
  have e2 : ∀ c, c < 128 → ∀ i, i < 7 → (mem c).filter (fun j => decide (j ≠ i)) = mem (c &&& (18446744073709551615 - 2 ^ i)) := by decide +kernel
  refine ⟨?_, c &&& (18446744073709551615 - 2 ^ i), ?_, e1⟩
  · rw [e1, Int.toNat_natCast]
    exact e2 c hc i hi
  · exact Nat.lt_of_le_of_lt Nat.and_le_left hc
theorem others_any : Calls Try.prog 30 #[.pointer (some ⟨p, 0, none⟩)] w (QuoWalkC.MadeN w (rest m)) := by
  have c4 := h.c4
  have hplt := h.plt
  have hid := f.id
  obtain ⟨hr, r, hrl, hr2⟩ := rest_mem f
  have hmem := fun W (hb : Below w.heap.size w W) => members_any (h.below hb) f
  have hlist := fun W => QuoWalkC.mem_any r (by omega) W
  rw [hr2, Int.toNat_natCast] at hr
  rw [← hr] at hlist
  have honly := fun W => only_any m.id hid W
  obtain ⟨I, hI⟩ : ∃ I, m.id = I := ⟨_, rfl⟩
  obtain ⟨A, hA⟩ : ∃ A, cfg m = A := ⟨_, rfl⟩
  obtain ⟨L, hL⟩ : ∃ L, rest m = L := ⟨_, rfl⟩
  rw [hI] at c4 hr2 honly
  rw [hA] at hmem hr2
  rw [hL] at hlist
  rw [hL]
  obtain ⟨P, hP⟩ : ∃ P, 2 ^ I = P := ⟨_, rfl⟩
  rw [hP] at hr2 honly
  have HMem := Lib.hid hmem
  have HList := Lib.hid hlist
  have HOnly := Lib.hid honly
  clear hmem hlist honly hI hA hL hP hr hid f h
  go_enter Try.func30, Try.ntmps30
  go_wp2_with fail
  go_region_held3 (fun W => W.cell? ⟨p, 4, none⟩ = some (.int .i64 (I : Int)))
    (first
      | exact c4
      | exact (hBb.cell (p := ⟨p, 4, none⟩) hplt).trans c4
      | exact (hBd.cell (p := ⟨p, 4, none⟩) (Nat.lt_of_lt_of_le hplt hBb.size)).trans ((hBb.cell (p := ⟨p, 4, none⟩) hplt).trans c4))
    (first
      | (go_at_call 42
         with_reducible refine (HMem.out _ ((Below.refl _ w).drew)).mono ?_
         rintro e wB ⟨rfl, hBb⟩)
      | (go_at_call 29
         with_reducible refine (HOnly.out _).mono ?_
         rintro e wC ⟨rfl, rfl⟩)
      | (go_at_call 44
         with_reducible refine (HList.out _).mono ?_
         rintro e wD ⟨v, rfl, hown, hBd⟩))
  all_goals go_wp2
  all_goals go_ret
  all_goals
    refine ⟨v, rfl, ?_, ((Below.refl _ w).drew).trans (hBb.trans (hBd.mono hBb.size))⟩
    exact own_base hown hBb.size
theorem before_any {i : Nat} (hi : i < 18446744073709551616) : Calls Try.prog 52 #[.pointer (some ⟨p, 0, none⟩), .int .u64 (i : Int)] w fun e w' => e = .returned (.int .u64 (before m i : Int)) ∧ Below w.heap.size w w' := by
  have c7 := h.c7
  have c10 := h.c10
  have hl := RlgWalkE.last_any h.log f.fine
  obtain ⟨C, hC⟩ : ∃ C, m.commit = C := ⟨_, rfl⟩
  obtain ⟨I, hI⟩ : ∃ I, (last m.g).1 = I := ⟨_, rfl⟩
  obtain ⟨T, hT⟩ : ∃ T, (last m.g).2 = T := ⟨_, rfl⟩
  rw [hC] at c10
  rw [hI, hT] at hl
  have HL := Lib.hid hl
  have HB : Hid (before m i = if i = 0 ∨ i - 1 ≤ C then C else min (i - 1) I) := Lib.hid (by rw [← hC, ← hI]; rfl)
  clear hl hC hI hT h f
  by_cases h0 : i = 0
  · subst h0
    have HB2 : Hid (before m 0 = C) := by show _ = _; rw [HB.out, if_pos (.inl rfl)]
    clear HB
    go_enter Try.func52, Try.ntmps52
    go_wp2
    go_ret
    exact ⟨by rw [HB2.out]; rfl, Below.refl _ _⟩
  · obtain ⟨k, rfl⟩ : ∃ k, i = k + 1 := ⟨i - 1, by omega⟩
    have hw : IntKind.u64.wrap (((k + 1 : Nat) : Int) - 1) = (k : Int) := by rw [show ((k + 1 : Nat) : Int) - 1 = (k : Int) by omega]; exact IntWalk.u64_in _ (by omega)
    have hne : (((k + 1 : Nat) : Int) == 0) = false := by simp; omega
    rw [Nat.add_sub_cancel] at HB
    obtain ⟨J, hJ⟩ : ∃ J, k + 1 = J := ⟨_, rfl⟩
    rw [hJ] at hw hne hi
    rw [hJ]
    by_cases hk : k ≤ C
    · have HB2 : Hid (before m J = C) := by show _ = _; rw [← hJ, HB.out, if_pos (.inr hk)]
      clear HB hJ
      go_enter Try.func52, Try.ntmps52
      go_wp2
      go_ret
      exact ⟨by rw [HB2.out]; rfl, Below.refl _ _⟩
    · have HB2 : Hid (before m J = min k I) := by show _ = _; rw [← hJ, HB.out, if_neg (by omega)]
      obtain ⟨M, hM⟩ : ∃ M, min k I = M := ⟨_, rfl⟩
      have hmin : min (k : Int) (I : Int) = (M : Int) := by omega
      rw [hM] at HB2
      clear HB hJ hM h0
      go_enter Try.func52, Try.ntmps52
      go_wp2_with fail
      refine HL.out.mono ?_
      rintro e w1 ⟨rfl, hb1⟩
      go_wp2
      go_ret
      exact ⟨by rw [HB2.out]; rfl, hb1⟩
omit f in
set_option maxHeartbeats 1000000 in
theorem hears_any (x : Msg) (a : Pl) : Calls Try.prog 19 #[.pointer (some ⟨p, 0, none⟩), ltV x a] w fun e w' => e = .returned (.bool (hears m x)) ∧ Below w.heap.size w w' := by
  have hba : Below w.heap.size w (w.alloc (.cells (ltCs x a).toArray 41)) := (Below.refl _ _).alloc (Nat.le_refl _) _
  have hcb := heap_alloc_new w (.cells (ltCs x a).toArray 41)
  have h1 := h.below hba
  have c4 := h1.c4
  have HH : Hid (hears m x = (decide (1 ≤ x.k ∧ x.k ≤ 5 ∧ x.ix ≤ 4611686018427387904 ∧ x.t = (m.id : Int) ∧ x.f ≠ (m.id : Int)) && node x.f)) := Lib.hid rfl
  obtain ⟨I, hI⟩ : ∃ I, m.id = I := ⟨_, rfl⟩
  rw [hI] at c4 HH
  obtain ⟨b, hb⟩ : ∃ b, node x.f = b := ⟨_, rfl⟩
  have HNode := fun W => node_hid (Lib.hid hb) W
  rw [hb] at HH
  obtain ⟨R, hR⟩ : ∃ R, hears m x = R := ⟨_, rfl⟩
  rw [hR] at HH ⊢
  have HNd := Lib.hid HNode
  clear HNode hb hI hR h1 h
  obtain ⟨kd, fr, tt, tm, ix, pv, cm, ok, es, d⟩ := x
  unfold ltV
  simp only [ltCs] at hba hcb c4 HH ⊢
  obtain ⟨w0, hw0⟩ : ∃ w0, w.alloc (.cells [.int .i64 kd, .int .i64 fr, .int .i64 tt, .int .u64 (tm : Int), .int .u64 (ix : Int), .int .u64 (pv : Int), .int .u64 (cm : Int), .bool ok, .slice a.A a.n a.c, .string d].toArray 41) = w0 := ⟨_, rfl⟩
  rw [hw0] at hba hcb c4
  have x0 : w0.cell? ⟨w.heap.size, 0, none⟩ = some (.int .i64 kd) := by rw [cell_at hcb]; rfl
  have x1 : w0.cell? ⟨w.heap.size, 1, none⟩ = some (.int .i64 fr) := by rw [cell_at hcb]; rfl
  have x2 : w0.cell? ⟨w.heap.size, 2, none⟩ = some (.int .i64 tt) := by rw [cell_at hcb]; rfl
  have x4 : w0.cell? ⟨w.heap.size, 4, none⟩ = some (.int .u64 (ix : Int)) := by rw [cell_at hcb]; rfl
  have HW0 := Lib.hid hw0
  have HBA := Lib.hid hba
  clear hw0 hcb hba
  by_cases k1 : kd < 1
  · have hR : Hid (R = false) := Lib.hid (by rw [HH.out]; simp; omega)
    clear HH
    go_enter Try.func19, Try.ntmps19
    go_wp2_with fail
    rw [HW0.out]
    go_wp2
    go_ret
    exact ⟨by rw [hR.out]; rfl, HBA.out⟩
  by_cases k2 : 5 < kd
  · have hR : Hid (R = false) := Lib.hid (by rw [HH.out]; simp; omega)
    clear HH
    go_enter Try.func19, Try.ntmps19
    go_wp2_with fail
    rw [HW0.out]
    go_wp2
    go_ret
    exact ⟨by rw [hR.out]; rfl, HBA.out⟩
  by_cases k3 : 4611686018427387904 < ix
  · have hR : Hid (R = false) := Lib.hid (by rw [HH.out]; simp; omega)
    have k3' : decide ((4611686018427387904 : Int) < (ix : Int)) = true := by simp; omega
    clear HH
    go_enter Try.func19, Try.ntmps19
    go_wp2_with fail
    rw [HW0.out]
    go_wp2
    go_ret
    exact ⟨by rw [hR.out]; rfl, HBA.out⟩
  have k3' : decide ((4611686018427387904 : Int) < (ix : Int)) = false := by simp; omega
  have go : ∀ b1 b2 : Bool, (tt == (I : Int)) = b1 → (fr != (I : Int)) = b2 → R = (b1 && (b2 && b)) := fun b1 b2 e1 e2 => by
    rw [HH.out, ← e1, ← e2]
    by_cases h1 : tt = (I : Int)
    · by_cases h2 : fr = (I : Int)
      · simp [h1, h2]
      · have h3 : 1 ≤ kd ∧ kd ≤ 5 ∧ ix ≤ 4611686018427387904 := by omega
        simp [h1, h2, h3]
    · simp [h1]
  obtain ⟨b1, hb1⟩ : ∃ b1, (tt == (I : Int)) = b1 := ⟨_, rfl⟩
  obtain ⟨b2, hb2⟩ : ∃ b2, (fr != (I : Int)) = b2 := ⟨_, rfl⟩
  have HR := Lib.hid (go b1 b2 hb1 hb2)
  have hlt : w.heap.size < w0.heap.size := by rw [← HW0.out]; simp
  clear go HH
  go_enter Try.func19, Try.ntmps19
  go_wp2_with fail
  rw [HW0.out]
  cases b1 with
  | false =>
    go_quiet (fail)
    all_goals go_wp2
    all_goals go_ret
    all_goals exact ⟨by rw [HR.out]; rfl, below_drewN HBA.out _⟩
  | true =>
    cases b2 with
    | false =>
      go_quiet (fail)
      all_goals go_wp2
      all_goals go_ret
      all_goals exact ⟨by rw [HR.out]; rfl, below_drewN HBA.out _⟩
    | true =>
      have C0 : Hid (∀ q, Calls Try.prog 17 #[.int .i64 fr] (w0.drewN q) fun e w' => e = .returned (.bool b) ∧ ∃ m, w' = w0.drewN m) := fun q => Calls.quiet_of_same ((HNd.out _).mono fun _ _ h => ⟨h.1, h.2.symm⟩)
      go_quiet ((go_at_call 17; (with_reducible exact C0.out _)))
      all_goals go_wp2
      all_goals go_ret
      all_goals exact ⟨by rw [HR.out]; rfl, below_drewN HBA.out _⟩
set_option maxHeartbeats 1000000 in
theorem grants_any (x : Msg) (a : Pl) (hx : MsgB x) : Calls Try.prog 35 #[.pointer (some ⟨p, 0, none⟩), ltV x a] w fun e w' => e = .returned (.bool (grants m x)) ∧ Below w.heap.size w w' := by
  have hba : Below w.heap.size w (w.alloc (.cells (ltCs x a).toArray 41)) := (Below.refl _ _).alloc (Nat.le_refl _) _
  have hbx := LBox.new w x a
  have h1 := PAt.below h hba
  have c5 := h1.c5
  have c6 := h1.c6
  have c7 := h1.c7
  have c8 := h1.c8
  have hl := fun q => RlgWalkE.last_any (h1.drewN q).log f.fine
  have HG : Hid (grants m x = (decide (x.tm = m.term) && (decide (m.role = 0) && ((decide (m.vote = -1) || decide (m.vote = x.f)) && (decide ((last m.g).2 < x.pv) || (decide (x.pv = (last m.g).2) && decide ((last m.g).1 ≤ x.ix))))))) := Lib.hid rfl
  obtain ⟨R, hR⟩ : ∃ R, grants m x = R := ⟨_, rfl⟩
  rw [hR] at HG ⊢
  obtain ⟨T, hT⟩ : ∃ T, m.term = T := ⟨_, rfl⟩
  obtain ⟨V, hV⟩ : ∃ V, m.vote = V := ⟨_, rfl⟩
  obtain ⟨O, hO⟩ : ∃ O, m.role = O := ⟨_, rfl⟩
  obtain ⟨LI, hLI⟩ : ∃ LI, (last m.g).1 = LI := ⟨_, rfl⟩
  obtain ⟨LT, hLT⟩ : ∃ LT, (last m.g).2 = LT := ⟨_, rfl⟩
  rw [hT] at c5 HG
  rw [hV] at c6 HG
  rw [hO] at c8 HG
  rw [hLI, hLT] at HG
  simp only [hLI, hLT] at hl
  have hb1 := hx.tm
  have hb2 := hx.ix
  have hb3 := hx.pv
  have HL := Lib.hid hl
  have x1 := hbx.c1
  have x3 := hbx.c3
  have x4 := hbx.c4
  have x5 := hbx.c5
  clear hT hV hO hLI hLT hR hl h1 h hx f hbx
  obtain ⟨kd, fr, tt, tm, ix, pv, cm, ok, es, d⟩ := x
  unfold ltV
  simp only [ltCs] at *
  obtain ⟨w0, hw0⟩ : ∃ w0, w.alloc (.cells [.int .i64 kd, .int .i64 fr, .int .i64 tt, .int .u64 (tm : Int), .int .u64 (ix : Int), .int .u64 (pv : Int), .int .u64 (cm : Int), .bool ok, .slice a.A a.n a.c, .string d].toArray 41) = w0 := ⟨_, rfl⟩
  rw [hw0] at hba c5 c6 c7 c8 x1 x3 x4 x5
  simp only [hw0] at HL
  have HW0 := Lib.hid hw0
  have HBA := Lib.hid hba
  clear hw0 hba
  obtain ⟨b1, hb1'⟩ : ∃ b1, ((tm : Int) != (T : Int)) = b1 := ⟨_, rfl⟩
  obtain ⟨b2, hb2'⟩ : ∃ b2, ((O : Int) != 0) = b2 := ⟨_, rfl⟩
  obtain ⟨b3, hb3'⟩ : ∃ b3, (V != -1) = b3 := ⟨_, rfl⟩
  obtain ⟨b4, hb4'⟩ : ∃ b4, (V != fr) = b4 := ⟨_, rfl⟩
  obtain ⟨b5, hb5'⟩ : ∃ b5, decide (LT < pv) = b5 := ⟨_, rfl⟩
  obtain ⟨b6, hb6'⟩ : ∃ b6, ((pv : Int) == (LT : Int)) = b6 := ⟨_, rfl⟩
  obtain ⟨b7, hb7'⟩ : ∃ b7, decide (LI ≤ ix) = b7 := ⟨_, rfl⟩
  have HR : Hid (R = (!b1 && (!b2 && ((!b3 || !b4) && (b5 || (b6 && b7)))))) := by
    show _ = _
    have e1 : decide (tm = T) = !b1 := by rw [← hb1']; by_cases e : tm = T <;> simp [e]; omega
    have e2 : decide (O = 0) = !b2 := by rw [← hb2']; by_cases e : O = 0 <;> simp [e]
    have e3 : decide (V = -1) = !b3 := by rw [← hb3']; by_cases e : V = -1 <;> simp [e]
    have e4 : decide (V = fr) = !b4 := by rw [← hb4']; by_cases e : V = fr <;> simp [e]
    have e6 : decide (pv = LT) = b6 := by rw [← hb6']; by_cases e : pv = LT <;> simp [e]; omega
    rw [HG.out, e1, e2, e3, e4, hb5', e6, hb7']
  have hq1 : decide ((LT : Int) < (pv : Int)) = b5 := by rw [← hb5']; simp
  have hq2 : decide ((LI : Int) ≤ (ix : Int)) = b7 := by rw [← hb7']; simp
  clear HG
  have hlt : w.heap.size < w0.heap.size := by rw [← HW0.out]; simp
  have hsay : (b1 = true ∨ (b1 = false ∧ b2 = true) ∨ (b1 = false ∧ b2 = false ∧ b3 = true ∧ b4 = true)) ∨ (b1 = false ∧ b2 = false ∧ (b3 = false ∨ (b3 = true ∧ b4 = false))) := by
    cases b1 <;> cases b2 <;> cases b3 <;> cases b4 <;> simp
  rcases hsay with hno | hyes
  · have HF : Hid (R = false) := Lib.hid (by rw [HR.out]; rcases hno with rfl | ⟨rfl, rfl⟩ | ⟨rfl, rfl, rfl, rfl⟩ <;> simp)
    clear HR
    go_enter Try.func35, Try.ntmps35
    go_wp2_with fail
    rw [HW0.out]
    rcases hno with rfl | ⟨rfl, rfl⟩ | ⟨rfl, rfl, rfl, rfl⟩
    all_goals go_quiet (fail)
    all_goals go_wp2
    all_goals go_ret
    all_goals exact ⟨by rw [HF.out]; rfl, below_drewN HBA.out _⟩
  · have HF : Hid (R = (b5 || (b6 && b7))) := Lib.hid (by rw [HR.out]; rcases hyes with ⟨rfl, rfl, rfl | ⟨rfl, rfl⟩⟩ <;> simp)
    clear HR
    go_enter Try.func35, Try.ntmps35
    go_wp2_with fail
    rw [HW0.out]
    obtain ⟨rfl, rfl, hyes⟩ := hyes
    rcases hyes with rfl | ⟨rfl, rfl⟩
    all_goals go_quiet (fail)
    all_goals go_wp2_with fail
    all_goals with_reducible refine (HL.out _).mono ?_
    all_goals rintro e w1 ⟨rfl, hb1⟩
    all_goals have hB := (below_drewN HBA.out nq).trans (hb1.mono HBA.out.size)
    all_goals have y4 : w1.cell? ⟨w.heap.size, 4, none⟩ = _ := (hb1.cell (p := ⟨w.heap.size, 4, none⟩) hlt).trans x4
    all_goals have y5 : w1.cell? ⟨w.heap.size, 5, none⟩ = _ := (hb1.cell (p := ⟨w.heap.size, 5, none⟩) hlt).trans x5
    all_goals cases b5
    all_goals cases b6
    all_goals go_wp2
    all_goals go_ret
    all_goals exact ⟨by rw [HF.out]; first | rfl | (rw [← hq2]; rfl), hB⟩
end
end Go.Proofs.Ytdbmpfongfiagaa.WalkA
