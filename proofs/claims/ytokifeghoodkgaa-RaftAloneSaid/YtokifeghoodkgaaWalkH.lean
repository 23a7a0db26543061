/- What the program's lead, Timeout, Propose, Change and Compact leave, walked. -/
import Derived.Test.YtokifeghoodkgaaWalkG
import Derived.Test.YtokifeghoodkgaaRlgWalkK
import Derived.Test.YtokifeghoodkgaaChange
set_option linter.unusedVariables false
namespace Go.Proofs.Ytokifeghoodkgaa.WalkH
open Go.RowKit Go.Proofs.Ytokifeghoodkgaa.Kit Go.Proofs.Ytokifeghoodkgaa.Blocks Go.Proofs.Ytokifeghoodkgaa.Rlog Go.Proofs.Ytokifeghoodkgaa.Ents Go.Proofs.Ytokifeghoodkgaa.LogAt Go.Proofs.Ytokifeghoodkgaa.Nod Go.Proofs.Ytokifeghoodkgaa.NodAt Go.Proofs.Ytokifeghoodkgaa.AppL Go.Proofs.Ytokifeghoodkgaa.WalkA Go.Proofs.Ytokifeghoodkgaa.WalkB Go.Proofs.Ytokifeghoodkgaa.WalkC Go.Proofs.Ytokifeghoodkgaa.WalkD Go.Proofs.Ytokifeghoodkgaa.WalkE Go.Proofs.Ytokifeghoodkgaa.WalkF Go.Proofs.Ytokifeghoodkgaa.WalkG
open Go.Proofs.Ytokifeghoodkgaa.Told (unums)
open Go.Proofs.Ytokifeghoodkgaa.Quorum (mem size need sound maj node has turn change)

/-- The first k of seven are X. -/
def fillN (X k : Nat) : List Nat := (List.range 7).map fun i => if i < k then X else 0
theorem fillN_len (X k : Nat) : (fillN X k).length = 7 := by simp [fillN]
theorem fillN_set (X k : Nat) (hk : k < 7) : (fillN X k).set k X = fillN X (k + 1) := by
  apply List.ext_getElem?
  intro i
  rw [List.getElem?_set]
  unfold fillN
  by_cases hi : i < 7
  · by_cases hik : k = i
    · subst hik; simp [hi]
    · have e : i < k + 1 ↔ i < k := by omega
      simp [hik, hi, e]
  · have hik : k ≠ i := by omega
    simp [hik, hi]
theorem fillN_zero (X : Nat) : fillN X 0 = zeros := rfl
theorem fillN_all (X : Nat) : fillN X 7 = evens X := rfl
section
variable {B p N : Nat} {z : Seat} {m : Nd} {w : World}
set_option maxHeartbeats 2000000 in
theorem lead_any (h : PAt B w p z m) (f : NdB N m) (hN : N ≤ 800000000) : Calls Try.prog 25 #[.pointer (some ⟨p, 0, none⟩)] w (Does B w p z (lead m)) := by
  have c8 := h.c8
  have c11 := h.c11
  have hplt := h.plt
  have hv := f.votes
  have hcl := cfg_lt f
  by_cases hr : m.role = 1
  · have hmem := members_any h.drew f
    have hmaj := fun W => QuoWalkB.maj_any (cfg m) m.votes (by omega) (by omega) W
    obtain ⟨b, hb⟩ : ∃ b, maj (cfg m) m.votes = b := ⟨_, rfl⟩
    rw [hb] at hmaj
    obtain ⟨A, hA⟩ : ∃ A, cfg m = A := ⟨_, rfl⟩
    obtain ⟨V, hV⟩ : ∃ V, m.votes = V := ⟨_, rfl⟩
    rw [hA] at hmem hmaj
    rw [hV] at c11 hmaj
    have c8 : w.cell? ⟨p, 8, none⟩ = some (.int .i64 1) := by rw [hr] at c8; exact c8
    obtain ⟨M, hM⟩ : ∃ M, lead m = M := ⟨_, rfl⟩
    rw [hM]
    have H := Lib.hid h
    have F := Lib.hid f
    have HMem := Lib.hid hmem
    have HMaj := Lib.hid hmaj
    have HMM : Hid (M = if b = true then (Nod.add (leads m) 0 ByteArray.empty).2 else m) := Lib.hid (by rw [← hM, ← hb]; unfold lead; by_cases e : maj (cfg m) m.votes = true <;> simp [hr, e])
    have HRole := Lib.hid hr
    clear hmem hmaj hb hA hV hM h f hr hv hcl
    go_enter Try.func25, Try.ntmps25
    go_wp2_with fail
    go_region_held3 (fun W => W.cell? ⟨p, 8, none⟩ = some (.int .i64 1) ∧ W.cell? ⟨p, 11, none⟩ = some (.int .u64 (V : Int)))
      (first
        | exact ⟨c8, c11⟩
        | (with_reducible exact HKA.out))
      (first
        | (go_at_call 39
           with_reducible refine HMem.out.mono ?_
           rintro e wA ⟨rfl, hBa⟩
           have HKA := Lib.hid (And.intro ((hBa.cell (p := ⟨p, 8, none⟩) hplt).trans c8) ((hBa.cell (p := ⟨p, 11, none⟩) hplt).trans c11))
           have HB1 : Hid (Below w.heap.size w wA) := (Below.refl _ w).drew.trans hBa
           clear hBa)
        | (go_at_call 41
           with_reducible refine (HMaj.out _).mono ?_
           rintro e wC ⟨rfl, rfl⟩))
    have h1 := H.out.below HB1.out
    cases b with
    | false =>
      have HM2 : Hid (M = m) := Lib.hid (by rw [HMM.out]; simp)
      have HH1 := Lib.hid h1
      clear h1
      go_wp2
      (try simp only [Exit.inBlock, Exit.then]); refine bodyPost_ret (results_none rfl _ _ _) rfl ?_
      rw [HM2.out]
      exact ⟨rfl, z, HH1.out, Grow.of_below z HB1.out⟩
    | true =>
      have HM2 : Hid (M = (Nod.add (leads m) 0 ByteArray.empty).2) := Lib.hid (by rw [HMM.out, if_pos rfl])
      have d4 := h1.c4
      have e8 := h1.c8
      have e9 := h1.c9
      have g8 := NodeAt.free h1 8
      have g9 := NodeAt.free h1 9
      have hpl1 := NodeAt.plt h1
      obtain ⟨h2, g2⟩ := PAt.setTo h1 8 (.int .i64 2) { m with role := 2 } rfl rfl rfl rfl
      obtain ⟨h3, g3⟩ := PAt.setTo h2 9 (.int .i64 (m.id : Int)) { m with role := 2, leader := (m.id : Int) } rfl rfl rfl rfl
      have d7 := PAt.c7 h3
      have hlast := RlgWalkE.last_any (NodeAt.log h3) F.out.fine
      obtain ⟨LI, hLI⟩ : ∃ LI, (last m.g).1 = LI := ⟨_, rfl⟩
      obtain ⟨LT, hLT⟩ : ∃ LT, (last m.g).2 = LT := ⟨_, rfl⟩
      have hlb : LI + 1 < 18446744073709551616 := by have := F.out.top; omega
      simp only [hLI, hLT] at hlast
      have HLast := Lib.hid hlast
      have H3 := Lib.hid h3
      have G3 := Lib.hid ((Grow.of_below z HB1.out).trans (g2.trans g3))
      have HLI := Lib.hid hLI
      have hid := F.out.id
      obtain ⟨I, hI⟩ : ∃ I, m.id = I := ⟨_, rfl⟩
      rw [hI] at d4 HLast H3 G3 d7
      have HI := Lib.hid hI
      clear h1 h2 h3 g2 g3 hlast hLI hLT hI HMM
      go_wp2_with fail
      with_reducible refine HLast.out.mono ?_
      rintro e w4 ⟨rfl, hb4⟩
      have h4 := H3.out.below hb4
      have H4 := Lib.hid h4
      have G4 := Lib.hid (G3.out.thenBelow hb4)
      have hw1 : IntKind.u64.wrap ((LI : Int) + 1) = ((LI + 1 : Nat) : Int) := by rw [show (LI : Int) + 1 = ((LI + 1 : Nat) : Int) by omega]; exact IntWalk.u64_in _ (by omega)
      obtain ⟨X, hX⟩ : ∃ X, LI + 1 = X := ⟨_, rfl⟩
      rw [hX] at hw1
      have HX := Lib.hid hX
      obtain ⟨qn, qm⟩ := F.out.quiet (by rw [HRole.out]; decide)
      have H4' : Hid (PAt B w4 p z { m with id := I, role := 2, leader := (I : Int), next := fillN X 0 }) := by
        have := H4.out
        rw [qn] at this
        exact this
      have HQm := Lib.hid qm
      clear h4 hb4 hX H4 qn qm
      go_wp2
      go_loopw [4, 38] (fun _ i wr => ∃ k : Nat, k ≤ 7 ∧ i = .int .i64 (k : Int) ∧ Hid (PAt B wr p z { m with id := I, role := 2, leader := (I : Int), next := fillN X k }) ∧ Hid (Grow p z z w wr)) (fun _ i _ => 7 - (intOf i).toNat)
      case atStart => exact ⟨0, by omega, rfl, H4', G4⟩
      case round =>
        obtain ⟨k, hk, rfl, HK, HG⟩ := hrel
        by_cases hk7 : k < 7
        · obtain ⟨h5, g5⟩ := PAt.setNx HK.out (fillN_len X k) hk7 X
          have hn5 := PAt.nx HK.out (fillN_len X k) hk7
          have hf5 := NodeAt.free HK.out (12 + k)
          have hp5 := NodeAt.plt HK.out
          simp only [fillN_set X k hk7] at h5
          have H5 := Lib.hid h5
          have G5 := Lib.hid (HG.out.trans g5)
          have hkI : (k : Int) < 7 := by omega
          have hkJ : (0 : Int) ≤ (k : Int) := by omega
          clear h5 g5
          go_wp2
          go_roundw
          case rel => exact ⟨k + 1, by omega, by go_num, H5, G5⟩
          case measure => simp [intOf]; omega
        · obtain rfl : k = 7 := by omega
          have hmL : ({ m with id := I, role := 2, leader := (I : Int), next := fillN X 7 } : Nd) = leads m := by
            unfold leads
            rw [HI.out, HLI.out, HX.out, HQm.out]
            have e := HI.out
            cases m
            cases e
            cases HQm.out
            rfl
          have h6 := HK.out
          rw [hmL] at h6
          have hadd := add_any h6 (leads_b F.out (by omega)) rfl hN 0 ⟨#[]⟩ (by decide) (by decide) (by decide)
          have HAdd := Lib.hid hadd
          clear hmL h6 hadd
          go_wp2_with fail
          with_reducible refine HAdd.out.mono ?_
          rintro e w7 ⟨rfl, z7, h7, g7⟩
          have H7 := Lib.hid h7
          have G7 := Lib.hid (HG.out.trans g7)
          clear h7 g7
          go_wp2
          go_end0
          rw [HM2.out]
          exact ⟨rfl, z7, H7.out, G7.out⟩
  · have hl : lead m = m := by unfold lead; rw [if_neg (fun e => hr e.1)]
    rw [hl]
    obtain ⟨R, hR⟩ : ∃ R, m.role = R := ⟨_, rfl⟩
    rw [hR] at c8 hr
    have hne : ((R : Int) != 1) = true := by simp; omega
    have H := Lib.hid h
    clear hl h f hR
    go_enter Try.func25, Try.ntmps25
    go_wp2_with fail
    go_quiet (fail)
    go_wp2
    (try simp only [Exit.inBlock, Exit.then]); refine bodyPost_ret (results_none rfl _ _ _) rfl ?_
    exact ⟨rfl, LeftP.of_below H.out (below_drewN (Below.refl _ _) _)⟩
theorem fold_ask (m : Nd) : ∀ (l : List Nat), (l.foldl askN m).id = m.id ∧ (l.foldl askN m).g = m.g := by
  intro l
  induction l generalizing m with
  | nil => exact ⟨rfl, rfl⟩
  | cons i l ih => exact ih (askN m i)
/-- Nothing is done. -/
theorem timeout_still (h : PAt B w p z m) (f : NdB N m) (hs : m.role = 2 ∨ m.term = topN ∨ mayStand m = false) : Calls Try.prog 8 #[.pointer (some ⟨p, 0, none⟩)] w (Does B w p z (timeout m)) := by
  have ht : timeout m = m := by unfold timeout; rw [if_pos hs]
  rw [ht]
  have c8 := h.c8
  have c5 := h.c5
  obtain ⟨R, hR⟩ : ∃ R, m.role = R := ⟨_, rfl⟩
  obtain ⟨Y, hT⟩ : ∃ Y, m.term = Y := ⟨_, rfl⟩
  rw [hR] at c8 hs
  rw [hT] at c5 hs
  have hst := stand_any h f
  obtain ⟨b, hb⟩ : ∃ b, mayStand m = b := ⟨_, rfl⟩
  rw [hb] at hst hs
  have H := Lib.hid h
  have HSt := Lib.hid hst
  clear ht hst hb hR hT h f
  by_cases hr : R = 2
  · subst hr
    go_enter Try.func8, Try.ntmps8
    go_wp2
    (try simp only [Exit.inBlock, Exit.then]); refine bodyPost_ret (results_none rfl _ _ _) rfl ?_
    exact ⟨rfl, LeftP.refl H.out⟩
  · have hr2 : ((R : Int) == 2) = false := by simp; omega
    by_cases hY : Y = topN
    · have hY2 : ((Y : Int) == 18446744073709551615) = true := by rw [hY]; rfl
      clear hs hY
      go_enter Try.func8, Try.ntmps8
      go_wp2
      (try simp only [Exit.inBlock, Exit.then]); refine bodyPost_ret (results_none rfl _ _ _) rfl ?_
      exact ⟨rfl, LeftP.refl H.out⟩
    · have hY2 : ((Y : Int) == 18446744073709551615) = false := by simp; unfold topN at hY; omega
      obtain rfl : b = false := by simpa [hr, hY] using hs
      clear hs hY
      go_enter Try.func8, Try.ntmps8
      go_wp2_with fail
      with_reducible refine HSt.out.mono ?_
      rintro e w1 ⟨rfl, hb1⟩
      go_wp2
      (try simp only [Exit.inBlock, Exit.then]); refine bodyPost_ret (results_none rfl _ _ _) rfl ?_
      exact ⟨rfl, LeftP.of_below H.out hb1⟩
set_option maxHeartbeats 2000000 in
theorem timeout_go (h : PAt B w p z m) (f : NdB N m) (hN : N ≤ 700000000) (hr : m.role ≠ 2) (hT : m.term ≠ topN) (hs : mayStand m = true) : Calls Try.prog 8 #[.pointer (some ⟨p, 0, none⟩)] w (Does B w p z (timeout m)) := by
  have ht : timeout m = lead (asks (stands m)) := by unfold timeout; rw [if_neg (by rintro (e | e | e); exact hr e; exact hT e; rw [hs] at e; cases e)]
  have fs := stands_b f hr hT
  have fa := asks_b fs
  rw [ht]
  have c8 := h.c8
  have c5 := h.c5
  have hst := stand_any h f
  rw [hs] at hst
  have hid := f.id
  have htb := f.term
  obtain ⟨R, hR⟩ : ∃ R, m.role = R := ⟨_, rfl⟩
  obtain ⟨Y, hY⟩ : ∃ Y, m.term = Y := ⟨_, rfl⟩
  obtain ⟨I, hI⟩ : ∃ I, m.id = I := ⟨_, rfl⟩
  rw [hR] at c8 hr
  rw [hY] at c5 hT htb
  have hr2 : ((R : Int) == 2) = false := by simp; omega
  have hY2 : ((Y : Int) == 18446744073709551615) = false := by simp; unfold topN at hT; omega
  have hw1 : IntKind.u64.wrap ((Y : Int) + 1) = ((Y + 1 : Nat) : Int) := by rw [show (Y : Int) + 1 = ((Y + 1 : Nat) : Int) by omega]; exact IntWalk.u64_in _ (by unfold topN at hT; omega)
  obtain ⟨Y1, hY1⟩ : ∃ Y1, Y + 1 = Y1 := ⟨_, rfl⟩
  rw [hY1] at hw1
  obtain ⟨M, hM⟩ : ∃ M, lead (asks (stands m)) = M := ⟨_, rfl⟩
  rw [hM]
  obtain ⟨m1, hm1⟩ : ∃ m1, stands m = m1 := ⟨_, rfl⟩
  rw [hm1] at fs fa hM
  have H := Lib.hid h
  have F := Lib.hid f
  have FS := Lib.hid fs
  have FA := Lib.hid fa
  have HSt := Lib.hid hst
  have HM := Lib.hid hM
  have HM1 := Lib.hid hm1
  have HY := Lib.hid hY
  have HI := Lib.hid hI
  have HY1 := Lib.hid hY1
  have hidI : I < 7 := hI ▸ hid
  clear ht hst hs hR hY hI hY1 hM hm1 h f fs fa hid hT
  go_enter Try.func8, Try.ntmps8
  go_wp2_with fail
  with_reducible refine HSt.out.mono ?_
  rintro e w1 ⟨rfl, hb1⟩
  have h1 := H.out.below hb1
  have e8 := h1.c8
  have e9 := h1.c9
  have g8 := NodeAt.free h1 8
  have g9 := NodeAt.free h1 9
  have hp1 := h1.plt
  obtain ⟨h2, g2⟩ := PAt.setTo h1 8 (.int .i64 1) { m with role := 1 } rfl rfl rfl rfl
  obtain ⟨h3, g3⟩ := PAt.setTo h2 9 (.int .i64 (-1)) { m with role := 1, leader := -1 } rfl rfl rfl rfl
  have d4 := PAt.c4 h3
  have d5 := PAt.c5 h3
  have d6 := PAt.c6 h3
  have k5 := NodeAt.free h3 5
  have k6 := NodeAt.free h3 6
  rw [show ({ m with role := 1, leader := -1 } : Nd).id = I from HI.out] at d4
  rw [show ({ m with role := 1, leader := -1 } : Nd).term = Y from HY.out] at d5
  have hp3 := NodeAt.plt h3
  have G3 := Lib.hid ((Grow.of_below z hb1).trans (g2.trans g3))
  have H3 := Lib.hid h3
  clear h1 h2 h3 g2 g3 hb1
  go_wp2_with fail
  generalize (w1.setCell ⟨p, 8, none⟩ (.int .i64 1)).setCell ⟨p, 9, none⟩ (.int .i64 (-1)) = w3 at d4 d5 d6 k5 k6 hp3 G3 H3 ⊢
  obtain ⟨h5, g5⟩ := PAt.setTo H3.out 5 (.int .u64 (Y1 : Int)) { m with role := 1, leader := -1, term := Y1 } rfl rfl rfl rfl
  obtain ⟨h6, g6⟩ := PAt.setTo h5 6 (.int .i64 (I : Int)) { m with role := 1, leader := -1, term := Y1, vote := (I : Int) } rfl rfl rfl rfl
  have HD : ∀ W : World, Below W.heap.size W W.drew := fun W => (Below.refl _ W).drew
  have h7 := PAt.below h6 (HD _)
  have G7 := Lib.hid (((G3.out.trans g5).trans g6).thenBelow (HD _))
  have H7 := Lib.hid h7
  have q4 := PAt.c4 h7
  have q11 := PAt.c11 h7
  have k11 := NodeAt.free h7 11
  have hp7 := NodeAt.plt h7
  have q3 := PAt.c3 h7
  have k3 := NodeAt.free h7 3
  rw [show ({ m with role := 1, leader := -1, term := Y1, vote := (I : Int) } : Nd).id = I from HI.out] at q4
  clear h5 h6 h7 g5 g6
  go_region
  generalize ((w3.setCell ⟨p, 5, none⟩ (.int .u64 (Y1 : Int))).setCell ⟨p, 6, none⟩ (.int .i64 (I : Int))).drew = w7 at q4 q11 k11 hp7 q3 k3 G7 H7 ⊢
  have honly := only_any I hidI w7
  obtain ⟨P2, hP2⟩ : ∃ P2, 2 ^ I = P2 := ⟨_, rfl⟩
  rw [hP2] at honly
  have HOnly := Lib.hid honly
  clear honly
  obtain ⟨h8, g8'⟩ := PAt.setTo H7.out 11 (.int .u64 (P2 : Int)) { m with role := 1, leader := -1, term := Y1, vote := (I : Int), votes := P2 } rfl rfl rfl rfl
  obtain ⟨h9, g9'⟩ := PAt.setTo h8 3 (.bool true) { m with role := 1, leader := -1, term := Y1, vote := (I : Int), votes := P2, reset := true } rfl rfl rfl rfl
  have hst : ({ m with role := 1, leader := -1, term := Y1, vote := (I : Int), votes := P2, reset := true } : Nd) = m1 := by
    rw [← HM1.out]
    unfold stands
    rw [HI.out, HY.out, HY1.out, hP2]
  rw [hst] at h9
  have hlast := RlgWalkE.last_any (NodeAt.log h9) FS.out.fine
  have s7 := PAt.c7 h9
  obtain ⟨LI, hLI⟩ : ∃ LI, (last m1.g).1 = LI := ⟨_, rfl⟩
  obtain ⟨LT, hLT⟩ : ∃ LT, (last m1.g).2 = LT := ⟨_, rfl⟩
  simp only [hLI, hLT] at hlast
  have HLast := Lib.hid hlast
  have HLI := Lib.hid hLI
  have HLT := Lib.hid hLT
  have H9 := Lib.hid h9
  have G9 := Lib.hid ((G7.out.trans g8').trans g9')
  clear h8 h9 g8' g9' hlast hLI hLT hP2 hst
  go_wp2_with fail
  with_reducible refine HOnly.out.mono ?_
  rintro e w8 ⟨rfl, rfl⟩
  go_wp2_with fail
  with_reducible refine HLast.out.mono ?_
  rintro e wa ⟨rfl, hba⟩
  have ha := H9.out.below hba
  have HA := Lib.hid ha
  have GA := Lib.hid (G9.out.thenBelow hba)
  have hoth := others_any ha FS.out
  have hl7 := rest_len m1
  obtain ⟨L, hL⟩ : ∃ L, rest m1 = L := ⟨_, rfl⟩
  have hlt7 : ∀ i, i ∈ L → i < 7 := fun i hi => rest_lt (hL ▸ hi)
  have has2 : asks m1 = L.foldl askN m1 := by unfold asks; rw [hL]
  rw [hL] at hoth hl7
  have hstk : ∀ k, NdB (N + 7) ((L.take k).foldl askN m1) := fun k => (fold_b (fun j h => askN_b h j) (L.take k) FS.out).mono (Nat.add_le_add_left (Nat.le_trans (List.length_take_le' k L) hl7) N)
  have HO := Lib.hid hoth
  have HStk := Lib.hid hstk
  have HL7 := Lib.hid hlt7
  have HAs := Lib.hid has2
  clear ha hba hoth hlt7 has2 hstk hL
  go_wp2_with fail
  with_reducible refine HO.out.mono ?_
  rintro e wb ⟨v, rfl, hown, hbb⟩
  obtain ⟨A, c, rfl, hnc, hcm, hrd⟩ := own_form hown
  obtain ⟨n, hn⟩ : ∃ n, L.length = n := ⟨_, rfl⟩
  have hoff := off_nums HA.out hown
  rw [hn] at hrd hnc hl7 hoff
  have hb := HA.out.below hbb
  have HRd := Lib.hid hrd
  have HOff := Lib.hid hoff
  have HHb := Lib.hid hb
  have HN := Lib.hid hn
  have GB := Lib.hid (GA.out.thenBelow hbb)
  clear hn hown hrd hoff hb hbb
  rw [HN.out]
  go_wp2
  go_loopw [5, 71] (fun _ i wr => ∃ (k : Nat) (z' : Seat), k ≤ n ∧ i = .int .i64 (k : Int) ∧ Hid (PAt B wr p z' ((L.take k).foldl askN m1)) ∧ Hid (Grow p z z' w wr) ∧ Hid (Grow p z z' wb wr)) (fun _ i _ => n - (intOf i).toNat)
  case atStart => exact ⟨0, z, by omega, rfl, Lib.hid HHb.out, GB, Lib.hid (Grow.refl _ _ _)⟩
  case round =>
    obtain ⟨k, z', hk, rfl, HK, HG, HGb⟩ := hrel
    by_cases hkn : k < n
    · obtain ⟨b, o, j, rfl, _, hj, hcell⟩ := QuoWalkC.Reads.num (Off.reads HOff.out HGb.out.only HRd.out (Nat.le_refl _)) hkn
      have hjl : j < 7 := HL7.out j (List.mem_of_getElem? hj)
      obtain ⟨_, hfg⟩ := fold_ask m1 (L.take k)
      have hs : Calls Try.prog 24 #[.pointer (some ⟨p, 0, none⟩), .agg #[.int .i64 1, .int .i64 0, .int .i64 (j : Int), .int .u64 0, .int .u64 (LI : Int), .int .u64 (LT : Int), .int .u64 0, .bool false, .slice none 0 0, .string ⟨#[]⟩]] wr (Does B wr p z' ((L.take (k + 1)).foldl askN m1)) := by
        have := send_any HK.out (HStk.out k) (by omega) (askOf ((L.take k).foldl askN m1) j) noPl (Fit.none wr _ rfl)
        rw [fold_take askN m1 L k j hj]
        have e2 : ltV (askOf ((L.take k).foldl askN m1) j) noPl = .agg #[.int .i64 1, .int .i64 0, .int .i64 (j : Int), .int .u64 0, .int .u64 (LI : Int), .int .u64 (LT : Int), .int .u64 0, .bool false, .slice none 0 0, .string ⟨#[]⟩] := by
          unfold ltV askOf
          rw [hfg]
          simp only [HLI.out, HLT.out]
          rfl
        rw [e2] at this
        exact this
      have HS := Lib.hid hs
      clear hs hj hfg
      go_wp2_with fail
      with_reducible refine HS.out.mono ?_
      rintro e w2 ⟨rfl, z2, h2, g2⟩
      have H2 := Lib.hid h2
      have G2 := Lib.hid (HG.out.trans g2)
      have G2b := Lib.hid (HGb.out.trans g2)
      clear h2 g2
      go_wp2
      go_roundw
      case rel => exact ⟨k + 1, z2, by omega, by go_num, H2, G2, G2b⟩
      case measure => simp [intOf]; omega
    · obtain rfl : k = n := by omega
      have hA := HK.out
      rw [List.take_of_length_le (by rw [HN.out]; exact Nat.le_refl _), ← HAs.out] at hA
      have hld := lead_any hA FA.out (by omega)
      rw [HM.out] at hld
      have HLd := Lib.hid hld
      clear hA hld
      go_wp2_with fail
      with_reducible refine HLd.out.mono ?_
      rintro e w2 ⟨rfl, z2, h2, g2⟩
      have H2 := Lib.hid h2
      have G2 := Lib.hid (HG.out.trans g2)
      clear h2 g2
      go_wp2
      go_end0
      exact ⟨rfl, z2, H2.out, G2.out⟩
theorem timeout_any (h : PAt B w p z m) (f : NdB N m) (hN : N ≤ 700000000) : Calls Try.prog 8 #[.pointer (some ⟨p, 0, none⟩)] w (Does B w p z (timeout m)) := by
  by_cases hs : m.role = 2 ∨ m.term = topN ∨ mayStand m = false
  · exact timeout_still h f hs
  · exact timeout_go h f hN (fun e => hs (.inl e)) (fun e => hs (.inr (.inl e))) (by cases e : mayStand m with | true => rfl | false => exact absurd (.inr (.inr e)) hs)
theorem propose_any (h : PAt B w p z m) (f : NdB N m) (hN : N ≤ 800000000) (d : ByteArray) (hd : d.size ≤ 9223372036854775807) :
    Calls Try.prog 9 #[.pointer (some ⟨p, 0, none⟩), .string d] w fun e w' => e = .returned (.tuple #[.int .u64 ((propose m d).1.1 : Int), .int .i64 (propose m d).1.2]) ∧ LeftP B w p z (propose m d).2 w' := by
  have c8 := h.c8
  by_cases hr : m.role = 2
  · have hp : propose m d = Nod.add m 1 d := by unfold propose; rw [if_pos hr]
    rw [hp]
    have ha := add_any h f hr hN 1 d (by decide) (by decide) hd
    obtain ⟨⟨⟨J, E⟩, M⟩, hM⟩ : ∃ R, Nod.add m 1 d = R := ⟨_, rfl⟩
    rw [hM] at ha ⊢
    simp only at ha ⊢
    rw [hr] at c8
    have HA := Lib.hid ha
    clear hp ha hM h f hr
    go_enter Try.func9, Try.ntmps9
    go_wp2_with fail
    with_reducible refine HA.out.mono ?_
    rintro e w1 ⟨rfl, hl⟩
    have HL := Lib.hid hl
    clear hl
    go_wp2
    go_ret2
    exact ⟨rfl, HL.out⟩
  · have hp : propose m d = ((0, 30), m) := by unfold propose; rw [if_neg hr]
    rw [hp]
    obtain ⟨R, hR⟩ : ∃ R, m.role = R := ⟨_, rfl⟩
    rw [hR] at c8 hr
    have hne : ((R : Int) != 2) = true := by simp; omega
    have H := Lib.hid h
    clear hp h f hR
    go_enter Try.func9, Try.ntmps9
    go_wp2
    go_ret2
    exact ⟨rfl, LeftP.refl H.out⟩
end
end Go.Proofs.Ytokifeghoodkgaa.WalkH
