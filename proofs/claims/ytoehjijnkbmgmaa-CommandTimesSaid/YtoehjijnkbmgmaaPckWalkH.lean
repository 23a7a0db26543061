/- What the document's own numbers and texts are as bytes, walked. -/
import Derived.Test.YtoehjijnkbmgmaaPckWalkG
namespace Go.Proofs.Ytoehjijnkbmgmaa.PckWalkH
open Go.RowKit Go.Proofs.Ytoehjijnkbmgmaa.Kit Go.Proofs.Ytoehjijnkbmgmaa.Num Go.Proofs.Ytoehjijnkbmgmaa.State Go.Proofs.Ytoehjijnkbmgmaa.PckWalkA Go.Proofs.Ytoehjijnkbmgmaa.PckWalkB

/-- A string of bytes. -/
def str (l : List UInt8) : ByteArray := ⟨l.toArray⟩
theorem str_list (l : List UInt8) : (str l).data.toList = l := by simp [str]
theorem str_back (s : ByteArray) : str s.data.toList = s := Lib.mk_data s
theorem str_size (l : List UInt8) : (str l).size = l.length := by rw [Lib.size_eq, str_list]
theorem str_append (a b : List UInt8) : str a ++ str b = str (a ++ b) := by
  apply ByteArray.ext
  rw [ByteArray.data_append]
  simp [str]
theorem conv_one (wr : World) (z : Int) (c : UInt8) (hz : z = (c.toNat : Int)) :
    (convert 50 9 (.slice (some ⟨wr.heap.size, 0, none⟩) 1 1)).run Try.prog (wr.alloc (.cells #[.int .u8 z] 5)) = .ok (.string (str [c])) (wr.alloc (.cells #[.int .u8 z] 5)) := by
  subst hz
  exact run_string (P := Try.prog) 50 5 9 Try.underlying50 Try.underlying5 Try.underlying9 _ _ _ 1 1 [c] (reads_one wr _ _)

/-- A call that makes a string. -/
def Said (w : World) (l : List UInt8) (e : Ending) (w' : World) : Prop := e = .returned (.string (str l)) ∧ Below w.heap.size w w'

set_option maxRecDepth 100000 in
set_option maxHeartbeats 400000 in
theorem num_any (x : Nat) (w : World) (hx : x < 18446744073709551616) :
    Calls Try.prog 46 #[.int .u64 (x : Int)] w (Said w (num x)) := by
  have h8 := wide_le8 hx
  go_enter Try.func46, Try.ntmps46
  go_wp2
  go_loopw [0, 3, 4] (fun v t i wr => ∃ k y : Nat, ∃ l : List UInt8, v = .int .u64 y ∧ t = .string (str l) ∧ i = .int .i64 k ∧ y < 18446744073709551616 ∧ k ≤ 8 ∧ Hid (y = x / 256 ^ k) ∧ Hid (l = dig k x) ∧ Hid (k + wide y = wide x) ∧ Below w.heap.size w wr)
    (fun v _ _ _ => (intOf v).toNat)
  case atStart => exact ⟨0, x, [], rfl, rfl, rfl, hx, by omega, by show x = _; simp, rfl, Nat.zero_add _, Below.refl _ _⟩
  case round =>
    obtain ⟨k, y, l, rfl, rfl, rfl, hyl, hk8, hy, hl, hw, hbel⟩ := hrel
    have hll : l.length = k := by rw [hl.out, dig_length]
    have hsz : ∀ c : UInt8, (str [c]).size + (str l).size ≤ 9223372036854775807 := fun c => by rw [str_size, str_size, hll]; simp; omega
    clear hll
    by_cases h0 : y = 0
    · subst h0
      have hkw : k = wide x := by have := hw.out; rw [wide_zero] at this; omega
      have hcv := conv_one wr (k : Int) (UInt8.ofNat k) (by simp; omega)
      have hs := hsz (UInt8.ofNat k)
      have HK := Lib.hid hkw
      clear hkw hsz
      go_wp2
      go_ret
      refine ⟨?_, hbel.alloc hbel.size _⟩
      have e : num x = [UInt8.ofNat k] ++ l := by unfold num; rw [← HK.out, ← hl.out]; rfl
      rw [e, ← str_append]
      rfl
    · have hy0 : 0 < (y : Int) := by omega
      have hcv := conv_one wr ((y : Int) % 256) (UInt8.ofNat (y % 256)) (by simp)
      have hs := hsz (UInt8.ofNat (y % 256))
      have hw1 := wide_pos y h0
      have HW1 := Lib.hid hw1
      clear hsz hw1
      go_wp2
      go_roundw
      case rel =>
        refine ⟨k + 1, y / 256, UInt8.ofNat (y % 256) :: l, by go_num, ?_, by go_num, by omega, by have := hw.out; have := HW1.out; omega, ?_, ?_, ?_, hbel.alloc hbel.size _⟩
        · rw [str_append]; rfl
        · show _ = _
          rw [hy.out, Nat.div_div_eq_div_mul, Nat.pow_succ]
        · show _ = _
          rw [hl.out, hy.out]
          rfl
        · show _ = _
          rw [← hw.out, HW1.out]
          omega
      case measure => simp [intOf]; omega


set_option maxRecDepth 100000 in
theorem text_any (s : ByteArray) (w : World) (hs : s.size ≤ 140737488355000) :
    Calls Try.prog 47 #[.string s] w (Said w (text s)) := by
  have hyl : s.size < 18446744073709551616 := by omega
  have h9 : (str (num s.size)).size + s.size ≤ 9223372036854775807 := by rw [str_size, num_length]; have := wide_le8 hyl; omega
  go_enter Try.func47, Try.ntmps47
  go_wp2_with fail
  refine (num_any s.size _ hyl).mono ?_
  rintro e w1 ⟨rfl, hb⟩
  go_wp2
  go_ret
  refine ⟨?_, hb⟩
  unfold text
  rw [← str_append, str_back]
  rfl
end Go.Proofs.Ytoehjijnkbmgmaa.PckWalkH
