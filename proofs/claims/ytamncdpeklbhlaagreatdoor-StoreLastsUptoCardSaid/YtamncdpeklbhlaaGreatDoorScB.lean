/- What is scanned, walked: the document's own scanning; when texts are the same. -/
import Derived.Test.YtamncdpeklbhlaaGreatDoorScA
import Derived.Deep.QuietTactic
import Derived.BigQuiet
set_option linter.unusedVariables false
set_option linter.unusedSimpArgs false
namespace Go.Proofs.YtamncdpeklbhlaaGreatDoor.ScB
open Go.RowKit Go.Proofs.YtamncdpeklbhlaaGreatDoor.Kit Go.Proofs.YtamncdpeklbhlaaGreatDoor.Blocks Go.Proofs.YtamncdpeklbhlaaGreatDoor.Stuff Go.Proofs.YtamncdpeklbhlaaGreatDoor.Crc Go.Proofs.YtamncdpeklbhlaaGreatDoor.SumA Go.Proofs.YtamncdpeklbhlaaGreatDoor.SumB Go.Proofs.YtamncdpeklbhlaaGreatDoor.Wal Go.Proofs.YtamncdpeklbhlaaGreatDoor.StuWalkA Go.Proofs.YtamncdpeklbhlaaGreatDoor.FrA Go.Proofs.YtamncdpeklbhlaaGreatDoor.FrB Go.Proofs.YtamncdpeklbhlaaGreatDoor.FrC Go.Proofs.YtamncdpeklbhlaaGreatDoor.ScA
open Go.Proofs.YtamncdpeklbhlaaGreatDoor.DskWalkC (str)

/-- The first frame of what is left, or none. -/
theorem first_left (s : ByteArray) (k : Nat) (w : World) (hs : s.size ≤ 1000000000) (hk : k ≤ s.size) :
    (scan (s.data.toList.drop k) = ([], 0) ∧ ∀ w, Calls Tryz.prog 108 #[.string (s.extract k s.size)] w fun e w' => e = .returned (.tuple #[.string (str []), .int .i64 0]) ∧ Below w.heap.size w w') ∨
    ∃ z x, zl (s.data.toList.drop k) = z ∧ k + z < s.size ∧ unframe ((s.data.toList.drop k).take z) = some x ∧
      ∀ w, Calls Tryz.prog 108 #[.string (s.extract k s.size)] w fun e w' => e = .returned (.tuple #[.string (str x), .int .i64 ((z + 1 : Nat) : Int)]) ∧ Below w.heap.size w w' := by
  obtain ⟨T, hT⟩ : ∃ T, s.extract k s.size = T := ⟨_, rfl⟩
  have hl : T.data.toList = s.data.toList.drop k := by
    rw [← hT, extract_list, List.take_of_length_le]
    rw [List.length_drop, size_list]
    exact Nat.le_refl _
  have hTs : T.size = s.size - k := by rw [← size_list, hl, List.length_drop, size_list]
  rw [hT]
  obtain ⟨z, hz⟩ : ∃ z, zl (s.data.toList.drop k) = z := ⟨_, rfl⟩
  by_cases he : z < s.size - k
  · cases hu : unframe ((s.data.toList.drop k).take z) with
    | none =>
      refine .inl ⟨scan_bad _ (by rw [hz]; exact hu), fun w => ?_⟩
      have := first_at T z w (by omega) (by rw [hl]; exact hz) (by omega)
      rw [hl, hu] at this
      exact this
    | some x =>
      refine .inr ⟨z, x, hz, by omega, hu, fun w => ?_⟩
      have := first_at T z w (by omega) (by rw [hl]; exact hz) (by omega)
      rw [hl, hu] at this
      exact this
  · have h1 := zl_le (s.data.toList.drop k)
    rw [List.length_drop, size_list] at h1
    have h2 : zl (s.data.toList.drop k) = (s.data.toList.drop k).length := by rw [List.length_drop, size_list]; omega
    exact .inl ⟨scan_end _ h2, fun w => first_end T w (by omega) (by rw [hl]; exact h2)⟩

set_option maxRecDepth 100000 in
set_option maxHeartbeats 4000000 in
theorem rscan_any (s : ByteArray) (w : World) (hs : s.size ≤ 1000000000) :
    Calls Tryz.prog 78 #[.string s] w (Scn w (scan s.data.toList)) := by
  obtain ⟨i0, hi0, hz0, hz1, hz2⟩ := info_parts info9
  obtain ⟨L, hL⟩ : ∃ L, s.data.toList = L := ⟨_, rfl⟩
  have hLl : L.length = s.size := by rw [← hL]; rfl
  obtain ⟨R, hR⟩ : ∃ R, scan L = R := ⟨_, rfl⟩
  rw [hL, hR]
  have HR := Lib.hid hR
  have HL := Lib.hid hL
  clear hL hR
  go_enter Tryz.func78, Tryz.ntmps78
  go_wp2_with fail
  go_loopw [4, 5] (fun v p wr => ∃ (k : Nat) (acc : List (List UInt8)), p = .int .i64 (k : Int) ∧ Hid (At L acc k) ∧ wr.ownsRow w.heap.size 9 1 v acc.length (strs acc) ∧ Below w.heap.size w wr) (fun _ p _ => s.size - (intOf p).toNat)
  case atStart => exact ⟨0, [], rfl, At.start L, World.ownsRow_nil _ _ _ _, Below.refl _ _⟩
  case round =>
    obtain ⟨k, acc, rfl, hat, hown, hbel⟩ := hrel
    have hk := hat.out.le
    have hfew := hat.out.few
    have hB := hbel.size
    have hks : (k : Int) ≤ (s.size : Int) := by omega
    rcases first_left s k wr hs (by omega) with ⟨hsc, hcall⟩ | ⟨z, x, hz, hzs, hu, hcall⟩
    · have hdone : scan L = (acc, k) := hat.out.done (by rw [← HL.out]; exact hsc)
      rw [HR.out] at hdone
      have HD := Lib.hid hdone
      have HC := Lib.hid hcall
      clear hdone hsc hcall
      go_wp2_with fail
      refine (HC.out wr).mono ?_
      rintro e w2 ⟨rfl, hb2⟩
      go_wp2_with fail
      go_ret2
      exact scn (own_below hown hb2) (hbel.trans (hb2.mono hB)) HD.out
    · have hnext : At L (acc ++ [x]) (k + z + 1) := hat.out.next (by rw [← HL.out]; exact hz) (by rw [List.length_drop]; omega) (by rw [← HL.out]; exact hu)
      have HN := Lib.hid hnext
      have HC := Lib.hid hcall
      have hm1 : acc.length + 1 ≤ maxLen := by unfold maxLen; omega
      have hs1 : (acc.length + 1) * 16 ≤ 140737488355328 := by omega
      clear hnext hu hz hcall
      go_wp2_with fail
      refine (HC.out wr).mono ?_
      rintro e w2 ⟨rfl, hb2⟩
      have hbel2 : Below w.heap.size w w2 := hbel.trans (hb2.mono hB)
      have hB2 := hbel2.size
      have hown2 := own_below hown hb2
      have hBo : ∀ o : Obj, w.heap.size ≤ (w2.alloc o).heap.size := fun o => by simp; omega
      have hne : (((z + 1 : Nat) : Int) == 0) = false := by simp; omega
      go_wp2_with
        (at_builtin
         refine wpList_append_any _ rfl (.tmp 19) (.tmp 21) _ rfl w.heap.size 9 i0 _ 1 16 Tryz.underlying68 hi0 hz0 hz1 hz2 rfl (by decide) _ acc.length (strs acc) rfl (hown2.alloc _)
           (w2.heap.size + 1) _ 1 1 [.string (str x)] rfl (reads_one _ _ _) (by simp [Value.oneCell']) hm1 hs1 (hBo _) ?_
         intro v3 w3 hown3 hg3 hat3
         clear hat3
         obtain ⟨hbel3, hB3, _⟩ := behind_new hown2 hbel2 hB2 hg3
         clear hg3)
      go_roundw
      case rel => exact ⟨k + z + 1, acc ++ [x], by go_num, HN, own_cast hown3 (by simp) (by rw [strs_append]; rfl), hbel3⟩
      case measure => simp [intOf]; omega

/-! ### The same texts -/
end Go.Proofs.YtamncdpeklbhlaaGreatDoor.ScB
