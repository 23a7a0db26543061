/- The walk of the statement that runs of one byte around the longest piece are put into pieces as the document has it. -/
import Derived.Test.YtokgompjomeolaaWalkH
import Derived.Test.YtokgompjomeolaaRuns
namespace Go.Proofs.Ytokgompjomeolaa.LawF
open Go.RowKit Go.Proofs.Ytokgompjomeolaa.Kit Go.Proofs.Ytokgompjomeolaa.Stuff Go.Proofs.Ytokgompjomeolaa.WalkA Go.Proofs.Ytokgompjomeolaa.WalkD Go.Proofs.Ytokgompjomeolaa.WalkG Go.Proofs.Ytokgompjomeolaa.WalkH

set_option maxRecDepth 100000 in
set_option maxHeartbeats 4000000 in
theorem runs_zero (a b : Int)  (w : World) :
    Calls Try.prog 7 #[.int .i64 a, .int .u8 0, .int .i64 b] w fun e w' => e = .returned (.bool true) ∧ Below w.heap.size w w' := by
  obtain ⟨i0, hi0, hi1, hi2, hi3⟩ := info_parts info8
  have t1 := Int.tmod_lt_of_pos a (b := 1100) (by decide)
  have t2 := Int.lt_tmod_of_pos a (b := 1100) (by decide)
  have t3 := Int.tmod_lt_of_pos b (b := 5) (by decide)
  have t4 := Int.lt_tmod_of_pos b (b := 5) (by decide)
  obtain ⟨N, hN⟩ : ∃ N : Nat, (a.tmod 1100 + 1100) % 1100 = (N : Int) := ⟨((a.tmod 1100 + 1100) % 1100).toNat, by omega⟩
  obtain ⟨Z, hZ⟩ : ∃ Z : Nat, (b.tmod 5 + 5) % 5 = (Z : Int) := ⟨((b.tmod 5 + 5) % 5).toNat, by omega⟩
  have hNl : N < 1100 := by omega
  have hZl : Z < 5 := by omega
  have hC : (1 : UInt8) ≠ 0 := by decide
  have hCU : (((1 : UInt8).toNat : Nat) : Int) = 1 := rfl
  obtain ⟨F, hF⟩ : ∃ F : Nat, (N : Int) / 254 = (F : Int) := ⟨N / 254, by omega⟩
  obtain ⟨R, hR⟩ : ∃ R : Nat, (N : Int) % 254 = (R : Int) := ⟨N % 254, by omega⟩
  have hFl : F ≤ 4 := by omega
  have hRl : R < 254 := by omega
  obtain ⟨h1, h2, h3⟩ := Runs.runs (1 : UInt8) hC Z F N (by omega)
  have e3 : N % 254 = R := by omega
  rw [e3] at h3
  have hE : (encode (List.replicate N (1 : UInt8) ++ List.replicate Z 0)).length ≤ 140737488355328 := by omega
  have hval : vals (List.replicate N (1 : UInt8) ++ List.replicate Z 0) = List.replicate N (.int .u8 1) ++ List.replicate Z (.int .u8 0) := by
    rw [vals_append]
    simp only [vals, List.map_replicate, hCU]
    rfl
  have HV := Lib.hid hval
  have H1 := Lib.hid h1
  have H2 := Lib.hid h2
  have H3 := Lib.hid h3
  clear h1 h2 h3 e3 hval hC hCU
  generalize List.replicate N (1 : UInt8) ++ List.replicate Z 0 = L at hE HV H1 H2 H3
  go_enter Try.func7, Try.ntmps7
  go_wp2_with fail
  refine (begun_true _).mono ?_
  rintro e w1 ⟨rfl, hb1⟩
  go_wp2_with fail
  rw [hN, hZ]
  clear hN hZ t1 t2 t3 t4
  go_loopw [7, 24] (fun v i wr => ∃ k : Nat, k ≤ N ∧ i = .int .i64 k ∧ wr.ownsRow w.heap.size 5 1 v k (List.replicate k (.int .u8 1)) ∧ Below w.heap.size w wr) (fun _ i _ => N - (intOf i).toNat)
  case atStart => exact ⟨0, Nat.zero_le _, rfl, World.ownsRow_nil _ _ _ _, hb1⟩
  case round =>
    obtain ⟨k, hk, rfl, hown, hbel⟩ := hrel
    have hB := hbel.size
    by_cases hkN : k < N
    · have hm1 : k + 1 ≤ maxLen := by unfold maxLen; omega
      have hs1 : (k + 1) * 1 ≤ 140737488355328 := by rw [Nat.mul_one]; omega
      have hBo : ∀ o : Obj, w.heap.size ≤ (wr.alloc o).heap.size := fun o => by simp; omega
      go_wp2_with
        (at_builtin
         refine wpList_append_any _ rfl (.tmp 26) (.tmp 28) _ rfl w.heap.size 5 i0 _ 1 1 Try.underlying22 hi0 hi1 hi2 hi3 rfl (by decide) _ k (List.replicate k (.int .u8 1)) rfl (hown.alloc _)
           (wr.heap.size + 1) _ 1 1 [.int .u8 1] rfl (reads_one _ _ _) (by simp [Value.oneCell']) hm1 hs1 (hBo _) ?_
         intro v2 w2 hown2 hg2 hat2
         clear hat2
         obtain ⟨hbel2, hB2, hkeep2⟩ := behind_new hown hbel hB hg2
         clear hg2)
      go_roundw
      case rel => exact ⟨k + 1, by omega, by go_num, own_cast hown2 rfl (by rw [List.replicate_succ']), hbel2⟩
      case measure => simp [intOf]; omega
    · obtain rfl : N = k := by omega
      clear hkN hk
      obtain ⟨wq, hwq⟩ : ∃ wq : World, wq = wr := ⟨_, rfl⟩
      subst hwq
      go_wp2_with fail
      go_loopw [7, 32] (fun v i wr => ∃ j : Nat, j ≤ Z ∧ i = .int .i64 j ∧ wr.ownsRow w.heap.size 5 1 v (N + j) (List.replicate N (.int .u8 1) ++ List.replicate j (.int .u8 0)) ∧ Below w.heap.size w wr) (fun _ i _ => Z - (intOf i).toNat)
      case atStart => exact ⟨0, Nat.zero_le _, rfl, own_cast hown rfl (by simp), hbel⟩
      case round =>
        obtain ⟨j, hj, rfl, hown, hbel⟩ := hrel
        have hB := hbel.size
        by_cases hjZ : j < Z
        · have hm1 : N + j + 1 ≤ maxLen := by unfold maxLen; omega
          have hs1 : (N + j + 1) * 1 ≤ 140737488355328 := by rw [Nat.mul_one]; omega
          have hBo : ∀ o : Obj, w.heap.size ≤ (wr.alloc o).heap.size := fun o => by simp; omega
          go_wp2_with
            (at_builtin
             refine wpList_append_any _ rfl (.tmp 34) (.tmp 35) _ rfl w.heap.size 5 i0 _ 1 1 Try.underlying22 hi0 hi1 hi2 hi3 rfl (by decide) _ (N + j) _ rfl (hown.alloc _)
               (wr.heap.size + 1) _ 1 1 [.int .u8 0] rfl (reads_one _ _ _) (by simp [Value.oneCell']) hm1 hs1 (hBo _) ?_
             intro v2 w2 hown2 hg2 hat2
             clear hat2
             obtain ⟨hbel2, hB2, hkeep2⟩ := behind_new hown hbel hB hg2
             clear hg2)
          go_roundw
          case rel => exact ⟨j + 1, by omega, by go_num, own_cast hown2 rfl (by rw [List.replicate_succ', List.append_assoc]), hbel2⟩
          case measure => simp [intOf]; omega
        · obtain rfl : Z = j := by omega
          clear hjZ hj
          have hown' := own_cast hown rfl HV.out.symm
          obtain ⟨A1, c1, rfl, hnc1, hcm1, hr1⟩ := own_form hown'
          unfold maxLen at hcm1
          go_wp2_with fail
          refine (WalkC.encode_any _ _ _ L _ hr1 hnc1 hcm1 hE).mono ?_
          rintro e w3 ⟨v3, rfl, hown3, hb3⟩
          have hbel3 : Below w.heap.size w w3 := hbel.trans (hb3.mono hB)
          obtain ⟨M, hM⟩ : ∃ M, M = (encode L).length := ⟨_, rfl⟩
          have hMe : ((M : Int) == (N : Int) + (F : Int) + (Z : Int) + 1) = true := by
            have := H1.out
            simp
            omega
          have hMF : 255 * F < M := by
            have := H1.out
            omega
          rw [← hM] at hown3
          obtain ⟨A3, c3, rfl, _, _, hr3⟩ := own_form hown3
          have HM := Lib.hid hM
          clear hM hown3
          obtain ⟨b3, o3, rfl, _, hcellF⟩ := hr3.byte (k := 255 * F) hMF (by have := HM.out; omega)
          have hlast : (encode L)[255 * F]'(by have := HM.out; omega) = UInt8.ofNat (R + 1) := by
            have := H3.out
            rw [List.getElem?_eq_getElem (by have := HM.out; omega)] at this
            exact Option.some.inj this
          rw [hlast, ofNat_toNat R (by omega)] at hcellF
          clear hlast
          go_wp2_with fail
          go_loop [43] (fun i => ∃ k : Nat, k ≤ F ∧ i = .int .i64 k) (fun i => F - (intOf i).toNat)
          case atStart => exact ⟨0, Nat.zero_le _, rfl⟩
          case round =>
            obtain ⟨i, hi, rfl⟩ := hrel
            by_cases hiF : i < F
            · have hiM : 255 * i < M := by omega
              obtain ⟨b4, o4, hA, _, hcell⟩ := hr3.byte (k := 255 * i) hiM (by have := HM.out; omega)
              cases hA
              have hel : (encode L)[255 * i]'(by have := HM.out; omega) = 255 := by
                have := H2.out i hiF
                rw [List.getElem?_eq_getElem (by have := HM.out; omega)] at this
                exact Option.some.inj this
              rw [hel] at hcell
              clear hel
              have hcell' : w3.cell? ⟨b3, o3 + 255 * i, none⟩ = some (.int .u8 255) := hcell
              clear hcell
              go_wp2_with fail
              go_round
              case rel => exact ⟨i + 1, by omega, by go_num⟩
              case measure => simp [intOf]; omega
            · obtain rfl : F = i := by omega
              go_wp2_with fail
              go_ret
              exact ⟨rfl, hbel3⟩

set_option maxRecDepth 100000 in
set_option maxHeartbeats 4000000 in
theorem runs_byte (a b : Int) (y : Nat) (w : World) (hy1 : 1 ≤ y) (hy2 : y ≤ 255) :
    Calls Try.prog 7 #[.int .i64 a, .int .u8 y, .int .i64 b] w fun e w' => e = .returned (.bool true) ∧ Below w.heap.size w w' := by
  obtain ⟨i0, hi0, hi1, hi2, hi3⟩ := info_parts info8
  have t1 := Int.tmod_lt_of_pos a (b := 1100) (by decide)
  have t2 := Int.lt_tmod_of_pos a (b := 1100) (by decide)
  have t3 := Int.tmod_lt_of_pos b (b := 5) (by decide)
  have t4 := Int.lt_tmod_of_pos b (b := 5) (by decide)
  obtain ⟨N, hN⟩ : ∃ N : Nat, (a.tmod 1100 + 1100) % 1100 = (N : Int) := ⟨((a.tmod 1100 + 1100) % 1100).toNat, by omega⟩
  obtain ⟨Z, hZ⟩ : ∃ Z : Nat, (b.tmod 5 + 5) % 5 = (Z : Int) := ⟨((b.tmod 5 + 5) % 5).toNat, by omega⟩
  have hNl : N < 1100 := by omega
  have hZl : Z < 5 := by omega
  have hCU0 : (UInt8.ofNat y).toNat = y := by simp; omega
  have hC : UInt8.ofNat y ≠ 0 := by
    intro e
    rw [e] at hCU0
    simp at hCU0
    omega
  have hCU : (((UInt8.ofNat y).toNat : Nat) : Int) = (y : Int) := by rw [hCU0]
  have hy0 : ((y : Int) == 0) = false := by simp; omega
  clear hCU0
  obtain ⟨F, hF⟩ : ∃ F : Nat, (N : Int) / 254 = (F : Int) := ⟨N / 254, by omega⟩
  obtain ⟨R, hR⟩ : ∃ R : Nat, (N : Int) % 254 = (R : Int) := ⟨N % 254, by omega⟩
  have hFl : F ≤ 4 := by omega
  have hRl : R < 254 := by omega
  obtain ⟨h1, h2, h3⟩ := Runs.runs (UInt8.ofNat y) hC Z F N (by omega)
  have e3 : N % 254 = R := by omega
  rw [e3] at h3
  have hE : (encode (List.replicate N (UInt8.ofNat y) ++ List.replicate Z 0)).length ≤ 140737488355328 := by omega
  have hval : vals (List.replicate N (UInt8.ofNat y) ++ List.replicate Z 0) = List.replicate N (.int .u8 (y : Int)) ++ List.replicate Z (.int .u8 0) := by
    rw [vals_append]
    simp only [vals, List.map_replicate, hCU]
    rfl
  have HV := Lib.hid hval
  have H1 := Lib.hid h1
  have H2 := Lib.hid h2
  have H3 := Lib.hid h3
  clear h1 h2 h3 e3 hval hC hCU
  generalize List.replicate N (UInt8.ofNat y) ++ List.replicate Z 0 = L at hE HV H1 H2 H3
  go_enter Try.func7, Try.ntmps7
  go_wp2_with fail
  refine (begun_true _).mono ?_
  rintro e w1 ⟨rfl, hb1⟩
  go_wp2_with fail
  rw [hN, hZ]
  clear hN hZ t1 t2 t3 t4
  go_loopw [7, 24] (fun v i wr => ∃ k : Nat, k ≤ N ∧ i = .int .i64 k ∧ wr.ownsRow w.heap.size 5 1 v k (List.replicate k (.int .u8 (y : Int))) ∧ Below w.heap.size w wr) (fun _ i _ => N - (intOf i).toNat)
  case atStart => exact ⟨0, Nat.zero_le _, rfl, World.ownsRow_nil _ _ _ _, hb1⟩
  case round =>
    obtain ⟨k, hk, rfl, hown, hbel⟩ := hrel
    have hB := hbel.size
    by_cases hkN : k < N
    · have hm1 : k + 1 ≤ maxLen := by unfold maxLen; omega
      have hs1 : (k + 1) * 1 ≤ 140737488355328 := by rw [Nat.mul_one]; omega
      have hBo : ∀ o : Obj, w.heap.size ≤ (wr.alloc o).heap.size := fun o => by simp; omega
      go_wp2_with
        (at_builtin
         refine wpList_append_any _ rfl (.tmp 26) (.tmp 28) _ rfl w.heap.size 5 i0 _ 1 1 Try.underlying22 hi0 hi1 hi2 hi3 rfl (by decide) _ k (List.replicate k (.int .u8 (y : Int))) rfl (hown.alloc _)
           (wr.heap.size + 1) _ 1 1 [.int .u8 (y : Int)] rfl (reads_one _ _ _) (by simp [Value.oneCell']) hm1 hs1 (hBo _) ?_
         intro v2 w2 hown2 hg2 hat2
         clear hat2
         obtain ⟨hbel2, hB2, hkeep2⟩ := behind_new hown hbel hB hg2
         clear hg2)
      go_roundw
      case rel => exact ⟨k + 1, by omega, by go_num, own_cast hown2 rfl (by rw [List.replicate_succ']), hbel2⟩
      case measure => simp [intOf]; omega
    · obtain rfl : N = k := by omega
      clear hkN hk
      obtain ⟨wq, hwq⟩ : ∃ wq : World, wq = wr := ⟨_, rfl⟩
      subst hwq
      go_wp2_with fail
      go_loopw [7, 32] (fun v i wr => ∃ j : Nat, j ≤ Z ∧ i = .int .i64 j ∧ wr.ownsRow w.heap.size 5 1 v (N + j) (List.replicate N (.int .u8 (y : Int)) ++ List.replicate j (.int .u8 0)) ∧ Below w.heap.size w wr) (fun _ i _ => Z - (intOf i).toNat)
      case atStart => exact ⟨0, Nat.zero_le _, rfl, own_cast hown rfl (by simp), hbel⟩
      case round =>
        obtain ⟨j, hj, rfl, hown, hbel⟩ := hrel
        have hB := hbel.size
        by_cases hjZ : j < Z
        · have hm1 : N + j + 1 ≤ maxLen := by unfold maxLen; omega
          have hs1 : (N + j + 1) * 1 ≤ 140737488355328 := by rw [Nat.mul_one]; omega
          have hBo : ∀ o : Obj, w.heap.size ≤ (wr.alloc o).heap.size := fun o => by simp; omega
          go_wp2_with
            (at_builtin
             refine wpList_append_any _ rfl (.tmp 34) (.tmp 35) _ rfl w.heap.size 5 i0 _ 1 1 Try.underlying22 hi0 hi1 hi2 hi3 rfl (by decide) _ (N + j) _ rfl (hown.alloc _)
               (wr.heap.size + 1) _ 1 1 [.int .u8 0] rfl (reads_one _ _ _) (by simp [Value.oneCell']) hm1 hs1 (hBo _) ?_
             intro v2 w2 hown2 hg2 hat2
             clear hat2
             obtain ⟨hbel2, hB2, hkeep2⟩ := behind_new hown hbel hB hg2
             clear hg2)
          go_roundw
          case rel => exact ⟨j + 1, by omega, by go_num, own_cast hown2 rfl (by rw [List.replicate_succ', List.append_assoc]), hbel2⟩
          case measure => simp [intOf]; omega
        · obtain rfl : Z = j := by omega
          clear hjZ hj
          have hown' := own_cast hown rfl HV.out.symm
          obtain ⟨A1, c1, rfl, hnc1, hcm1, hr1⟩ := own_form hown'
          unfold maxLen at hcm1
          go_wp2_with fail
          refine (WalkC.encode_any _ _ _ L _ hr1 hnc1 hcm1 hE).mono ?_
          rintro e w3 ⟨v3, rfl, hown3, hb3⟩
          have hbel3 : Below w.heap.size w w3 := hbel.trans (hb3.mono hB)
          obtain ⟨M, hM⟩ : ∃ M, M = (encode L).length := ⟨_, rfl⟩
          have hMe : ((M : Int) == (N : Int) + (F : Int) + (Z : Int) + 1) = true := by
            have := H1.out
            simp
            omega
          have hMF : 255 * F < M := by
            have := H1.out
            omega
          rw [← hM] at hown3
          obtain ⟨A3, c3, rfl, _, _, hr3⟩ := own_form hown3
          have HM := Lib.hid hM
          clear hM hown3
          obtain ⟨b3, o3, rfl, _, hcellF⟩ := hr3.byte (k := 255 * F) hMF (by have := HM.out; omega)
          have hlast : (encode L)[255 * F]'(by have := HM.out; omega) = UInt8.ofNat (R + 1) := by
            have := H3.out
            rw [List.getElem?_eq_getElem (by have := HM.out; omega)] at this
            exact Option.some.inj this
          rw [hlast, ofNat_toNat R (by omega)] at hcellF
          clear hlast
          go_wp2_with fail
          go_loop [43] (fun i => ∃ k : Nat, k ≤ F ∧ i = .int .i64 k) (fun i => F - (intOf i).toNat)
          case atStart => exact ⟨0, Nat.zero_le _, rfl⟩
          case round =>
            obtain ⟨i, hi, rfl⟩ := hrel
            by_cases hiF : i < F
            · have hiM : 255 * i < M := by omega
              obtain ⟨b4, o4, hA, _, hcell⟩ := hr3.byte (k := 255 * i) hiM (by have := HM.out; omega)
              cases hA
              have hel : (encode L)[255 * i]'(by have := HM.out; omega) = 255 := by
                have := H2.out i hiF
                rw [List.getElem?_eq_getElem (by have := HM.out; omega)] at this
                exact Option.some.inj this
              rw [hel] at hcell
              clear hel
              have hcell' : w3.cell? ⟨b3, o3 + 255 * i, none⟩ = some (.int .u8 255) := hcell
              clear hcell
              go_wp2_with fail
              go_round
              case rel => exact ⟨i + 1, by omega, by go_num⟩
              case measure => simp [intOf]; omega
            · obtain rfl : F = i := by omega
              go_wp2_with fail
              go_ret
              exact ⟨rfl, hbel3⟩

theorem runs_walk (a : Int) (x : Int) (b : Int) (w : World) (_ha : (Lit.int .i64 a).wf = true) (hx : (Lit.int .u8 x).wf = true) (_hb : (Lit.int .i64 b).wf = true) :
    Calls Try.prog 7 #[.int .i64 a, .int .u8 x, .int .i64 b] w fun e w' => e = .returned (.bool true) ∧ Below w.heap.size w w' := by
  have hx' : 0 ≤ x ∧ x ≤ 255 := by simpa [Lit.wf, IntKind.min, IntKind.max, IntKind.signed, IntKind.bits] using hx
  obtain ⟨y, rfl⟩ := Int.eq_ofNat_of_zero_le hx'.1
  by_cases hy : y = 0
  · subst hy
    exact runs_zero a b w
  · exact runs_byte a b y w (by omega) (by omega)
end Go.Proofs.Ytokgompjomeolaa.LawF
