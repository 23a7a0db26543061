/- What the program's advance leaves, walked. -/
import Derived.Test.YtdbmpfongfiagaaWalkE
import Derived.Test.YtdbmpfongfiagaaReach
set_option linter.unusedVariables false
namespace Go.Proofs.Ytdbmpfongfiagaa.WalkF
open Go.RowKit Go.Proofs.Ytdbmpfongfiagaa.Kit Go.Proofs.Ytdbmpfongfiagaa.Blocks Go.Proofs.Ytdbmpfongfiagaa.Rlog Go.Proofs.Ytdbmpfongfiagaa.Ents Go.Proofs.Ytdbmpfongfiagaa.LogAt Go.Proofs.Ytdbmpfongfiagaa.Nod Go.Proofs.Ytdbmpfongfiagaa.NodAt Go.Proofs.Ytdbmpfongfiagaa.AppL Go.Proofs.Ytdbmpfongfiagaa.WalkA Go.Proofs.Ytdbmpfongfiagaa.WalkB Go.Proofs.Ytdbmpfongfiagaa.WalkC Go.Proofs.Ytdbmpfongfiagaa.WalkD
open Go.Proofs.Ytdbmpfongfiagaa.Told (unums)
open Go.Proofs.Ytdbmpfongfiagaa.Quorum (mem size need sound maj node has turn change)

section
variable {B p N : Nat} {z : Seat} {m : Nd} {w : World}
theorem PAt.matReads (h : PAt B w p z m) (hl : m.next.length = 7) (hm : m.mat.length = 7) : Reads w w.heap.size 1 (some ⟨p, 19, none⟩) 7 (unums m.mat) := by
  refine ⟨by rw [Told.unums_length, hm], fun _ => ⟨_, rfl, h.plt, fun j u hj => ?_⟩⟩
  have hjl : j < 7 := by
    have := (List.getElem?_eq_some_iff.1 hj).1
    rw [Told.unums_length, hm] at this
    exact this
  rw [unums_get _ (by omega)] at hj
  cases hj
  rw [Addr.add_lit]
  exact h.mt hl hm hjl
set_option maxHeartbeats 1000000 in
theorem advance_any (h : PAt B w p z m) (f : NdB N m) (hN : N ≤ 900000000) : Calls Try.prog 40 #[.pointer (some ⟨p, 0, none⟩)] w (Does B w p z (advance m)) := by
  have c7 := h.c7
  have hplt := h.plt
  have hmem := RlgWalkJ.all_members h.log f.fine
  have hcl := cfg_lt f
  have hid := f.id
  have hreach : ∀ W, Below w.heap.size w W → Calls Try.prog 57 #[.int .u64 (cfg m : Int), .slice (some ⟨p, 19, none⟩) 7 7] W fun e w' => e = .returned (.int .u64 (best m : Int)) ∧ Below W.heap.size W w' := fun W hb =>
    (Reach.reached_any (cfg m) (by omega) (some ⟨p, 19, none⟩) 7 7 m.mat W (PAt.matReads (h.below hb) f.nl f.ml)).mono fun e w' ⟨r, h1, h2, h3⟩ => ⟨by rw [h1, show best m = r from reach_of h2], h3⟩
  have hoft := fun W (hb : Below w.heap.size w W) => ofTerm_any (h.below hb) f (i := best m) (by have := best_b f; omega)
  have hcm : (members m.g 18446744073709551615).1 = cfg m := rfl
  have hsm : (members m.g 18446744073709551615).2 = since m := rfl
  rw [hcm, hsm] at hmem
  obtain ⟨bt, hbt⟩ : ∃ bt, ofTerm m (best m) = bt := ⟨_, rfl⟩
  obtain ⟨hh, hhh⟩ : ∃ hh, has (cfg m) (m.id : Int) = hh := ⟨_, rfl⟩
  have hhas := fun W => QuoWalkB.has_any (cfg m) (by omega) (m.id : Int) W
  rw [hhh] at hhas
  rw [hbt] at hoft
  have HR0 : Hid (advance m = if (bt && decide (m.commit < best m)) = true then (if (decide (since m ≤ best m) && !hh) = true then gone m else reached m) else m) := Lib.hid (by unfold advance mayAdvance goes; rw [hbt, hhh])
  have hbb := best_b f
  obtain ⟨A, hA⟩ : ∃ A, cfg m = A := ⟨_, rfl⟩
  obtain ⟨S, hS⟩ : ∃ S, since m = S := ⟨_, rfl⟩
  obtain ⟨X, hX⟩ : ∃ X, best m = X := ⟨_, rfl⟩
  obtain ⟨I, hI⟩ : ∃ I, m.id = I := ⟨_, rfl⟩
  obtain ⟨C, hC⟩ : ∃ C, m.commit = C := ⟨_, rfl⟩
  rw [hA] at hmem hreach hhas
  rw [hX] at hreach hoft hbb HR0
  rw [hS] at hmem HR0
  rw [hC] at HR0
  rw [hI] at hhas
  obtain ⟨M, hM⟩ : ∃ M, advance m = M := ⟨_, rfl⟩
  rw [hM] at HR0 ⊢
  have H := Lib.hid h
  have F := Lib.hid f
  have HMem := Lib.hid hmem
  have HReach := Lib.hid hreach
  have HOf := Lib.hid hoft
  have HHas := Lib.hid hhas
  have HX := Lib.hid hX
  have HI := Lib.hid hI
  have HC := Lib.hid hC
  clear hmem hreach hoft hhas hbt hhh hA hS hX hI hC hM h f hcm hsm hcl hid
  go_enter Try.func40, Try.ntmps40
  go_wp2_with fail
  with_reducible refine HMem.out.mono ?_
  rintro e w1 ⟨rfl, hb1⟩
  go_wp2_with fail
  with_reducible refine (HReach.out _ hb1).mono ?_
  rintro e w2 ⟨rfl, hb2⟩
  have hB2 := hb1.trans (hb2.mono hb1.size)
  go_wp2_with fail
  with_reducible refine (HOf.out _ hB2).mono ?_
  rintro e w3 ⟨rfl, hb3⟩
  have hB3 := hB2.trans (hb3.mono hB2.size)
  have h3 := H.out.below hB3
  have c10 := h3.c10
  have f10 := NodeAt.free h3 10
  have hplt3 := h3.plt
  rw [HC.out] at c10
  have HB3 := Lib.hid hB3
  have H3 := Lib.hid h3
  clear hb1 hb2 hb3 hB2 hB3 h3
  cases bt with
  | false =>
    have HM : Hid (M = m) := Lib.hid (by rw [HR0.out]; simp)
    clear HR0
    go_wp2
    (try simp only [Exit.inBlock, Exit.then]); refine bodyPost_ret (results_none rfl _ _ _) rfl ?_
    rw [HM.out]
    exact ⟨rfl, LeftP.of_below H.out HB3.out⟩
  | true =>
    by_cases hle : X ≤ C
    · have HM : Hid (M = m) := Lib.hid (by rw [HR0.out]; simp; omega)
      clear HR0
      go_wp2
      (try simp only [Exit.inBlock, Exit.then]); refine bodyPost_ret (results_none rfl _ _ _) rfl ?_
      rw [HM.out]
      exact ⟨rfl, LeftP.of_below H.out HB3.out⟩
    · have hlt : C < X := by omega
      obtain ⟨h4, g4⟩ := PAt.setTo H3.out 10 (.int .u64 (X : Int)) (reached m) (by unfold reached; rw [HX.out]; rfl) rfl rfl rfl
      have d4 := PAt.c4 h4
      rw [show (reached m).id = I from HI.out] at d4
      have HM : Hid (M = if (decide (S ≤ X) && !hh) = true then gone m else reached m) := Lib.hid (by rw [HR0.out, decide_eq_true hlt, Bool.true_and, if_pos rfl])
      have hplt4 := NodeAt.plt h4
      have H4 := Lib.hid h4
      have G4 := Lib.hid g4
      clear HR0 h4 g4
      by_cases hsx : S ≤ X
      · cases hh with
        | true =>
          have HM2 : Hid (M = reached m) := Lib.hid (by rw [HM.out]; simp)
          clear HM
          go_wp2_with fail
          with_reducible refine (HHas.out _).mono ?_
          rintro e w5 ⟨rfl, rfl⟩
          go_wp2
          go_end0
          rw [HM2.out]
          exact ⟨rfl, LeftP.afterBelow HB3.out ⟨z, H4.out, G4.out⟩⟩
        | false =>
          have HM2 : Hid (M = gone m) := Lib.hid (by rw [HM.out, decide_eq_true hsx]; rfl)
          clear HM
          go_wp2_with fail
          with_reducible refine (HHas.out _).mono ?_
          rintro e w5 ⟨rfl, rfl⟩
          go_wp2_with fail
          with_reducible refine (beat_any H4.out (reached_b F.out) hN).mono ?_
          rintro e w6 ⟨rfl, z6, h6, g6⟩
          go_wp2_with fail
          with_reducible refine (retire_any h6 (beat_b (reached_b F.out))).mono ?_
          rintro e w7 ⟨rfl, z7, h7, g7⟩
          obtain ⟨h8, g8⟩ := PAt.setTo h7 9 (.int .i64 (-1)) (gone m) rfl rfl rfl rfl
          have e9 := PAt.c9 h7
          have f9 := NodeAt.free h7 9
          have hplt7 := NodeAt.plt h7
          have H8 := Lib.hid h8
          have G8 := Lib.hid (((G4.out.trans g6).trans g7).trans g8)
          clear h6 g6 h7 g7 h8 g8
          go_wp2
          go_end0
          rw [HM2.out]
          exact ⟨rfl, LeftP.afterBelow HB3.out ⟨z7, H8.out, G8.out⟩⟩
      · have HM2 : Hid (M = reached m) := Lib.hid (by rw [HM.out]; simp; omega)
        clear HM
        go_wp2
        go_end0
        rw [HM2.out]
        exact ⟨rfl, LeftP.afterBelow HB3.out ⟨z, H4.out, G4.out⟩⟩
end
end Go.Proofs.Ytdbmpfongfiagaa.WalkF
