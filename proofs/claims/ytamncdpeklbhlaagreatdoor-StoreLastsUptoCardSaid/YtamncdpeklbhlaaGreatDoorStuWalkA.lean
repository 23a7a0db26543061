/- What the small functions of layer 1 answer, walked: the search for a zero, the piece's length at the front, in the program and in the document's own answer. -/
import Derived.Test.YtamncdpeklbhlaaGreatDoorRows
import Derived.Test.YtamncdpeklbhlaaGreatDoorKit
import Derived.Test.YtamncdpeklbhlaaGreatDoorStuff
import Derived.WalkKit
import Derived.WalkSpells
import Derived.LoopTactic
import Derived.Outline
namespace Go.Proofs.YtamncdpeklbhlaaGreatDoor.StuWalkA
open Go.RowKit Go.Proofs.YtamncdpeklbhlaaGreatDoor.Kit Go.Proofs.YtamncdpeklbhlaaGreatDoor.Stuff

theorem sz (w : World) : (Go.sizeOf 5).run Tryz.prog w = .ok 1 w := by kernel_rfl
theorem info8 : (Tryz.prog.info? 5).map (fun i => (i.zero, i.size, i.bytes)) = some (some (.int .u8 0), 1, 1) := by kernel_rfl

set_option maxRecDepth 100000 in
theorem index_any (A : Option Addr) (n c : Nat) (l : List UInt8) (w : World) (h : RB w A n l) :
    Calls Tryz.prog 131 #[.slice A n c, .int .u8 0] w fun e w' => e = .returned (.int .i64 (Lib.indexByte l 0)) ∧ w = w' := by
  have hr := run_index (P := Tryz.prog) w _ A n c l h 0
  go_enter Tryz.func131, Tryz.ntmps131
  go_wp2
  rw [run_callFunc_extern Tryz.func132 (by kernel_rfl) (by kernel_rfl) (by kernel_rfl) (e := Extern.BytealgIndexByte.indexByte) (by kernel_rfl), hr]
  simp only [Result.andThen]
  rw [Oper.upon_value]
  go_wp2
  go_ret
  exact ⟨rfl, rfl⟩

theorem index_take (l : List UInt8) (m : Nat) (hm : m ≤ l.length) : Lib.indexByte (l.take m) 0 = if zl l < m then (zl l : Int) else -1 := by
  rw [index_zl, zl_take, List.length_take]
  by_cases hlt : zl l < m
  · rw [if_pos hlt, if_pos (by omega)]; omega
  · rw [if_neg hlt, if_neg (by omega)]

set_option maxRecDepth 100000 in
set_option maxHeartbeats 400000 in
theorem run_cut (A : Option Addr) (n c m : Nat) (r : Int) (l : List UInt8) (w : World) (h : RB w A n l) (hm : m ≤ n) (hi : Hid (Lib.indexByte (l.take m) 0 = r)) (e : Int) (he : Hid (e = if 0 ≤ r then r else (m : Int)))
    (hnc : n ≤ c) (hc : c ≤ 9223372036854775807) (hmm : (254 < n ∧ m = 254) ∨ (n ≤ 254 ∧ m = n)) :
    Calls Tryz.prog 130 #[.slice A n c] w fun e' w' => e' = .returned (.int .i64 e) ∧ w = w' := by
  have hread : RB w A m (l.take m) := h.bytes_upto hm
  rw [he.out]
  by_cases hr : 0 ≤ r
  · rw [if_pos hr]
    rcases hmm with ⟨h1, rfl⟩ | ⟨h1, rfl⟩
    all_goals
      go_enter Tryz.func130, Tryz.ntmps130
      go_wp2_with fail
      refine (index_any _ _ _ _ _ hread).mono ?_
      rintro e w' ⟨rfl, rfl⟩
      rw [hi.out]
      go_wp2
      go_ret
      exact ⟨rfl, rfl⟩
  · rw [if_neg hr]
    rcases hmm with ⟨h1, rfl⟩ | ⟨h1, rfl⟩
    all_goals
      go_enter Tryz.func130, Tryz.ntmps130
      go_wp2_with fail
      refine (index_any _ _ _ _ _ hread).mono ?_
      rintro e w' ⟨rfl, rfl⟩
      rw [hi.out]
      go_wp2
      go_ret
      exact ⟨rfl, rfl⟩

theorem run_any (A : Option Addr) (n c : Nat) (l : List UInt8) (w : World) (h : RB w A n l) (hnc : n ≤ c) (hc : c ≤ 9223372036854775807) :
    Calls Tryz.prog 130 #[.slice A n c] w fun e w' => e = .returned (.int .i64 (min (zl l) 254 : Nat)) ∧ w = w' := by
  have hl := reads_len h
  have hz := zl_le l
  have hi := index_take l (min n 254) (by omega)
  refine run_cut A n c (min n 254) _ l w h (by omega) hi _ ?_ hnc hc (by omega)
  show ((min (zl l) 254 : Nat) : Int) = _
  by_cases hlt : zl l < min n 254
  · rw [if_pos hlt, if_pos (by omega)]; omega
  · rw [if_neg hlt, if_neg (by omega)]; omega

set_option maxRecDepth 100000 in
set_option maxHeartbeats 400000 in
theorem zero_any (A : Option Addr) (n c : Nat) (l : List UInt8) (w : World) (h : RB w A n l) (hnc : n ≤ c) (hc : c ≤ 9223372036854775807) :
    Calls Tryz.prog 95 #[.slice A n c] w fun e w' => e = .returned (.int .i64 (zl l : Nat)) ∧ w = w' := by
  have hl := reads_len h
  have hz := zl_le l
  have HL := Lib.hid hl
  clear hl
  go_enter Tryz.func95, Tryz.ntmps95
  go_wp2
  go_loop [3] (fun i => ∃ k : Nat, k ≤ zl l ∧ i = .int .i64 k) (fun i => n - (intOf i).toNat)
  case atStart => exact ⟨0, Nat.zero_le _, rfl⟩
  case round =>
    obtain ⟨k, hk, rfl⟩ := hrel
    by_cases hkn : k < n
    · have hkl : k < l.length := by have := HL.out; omega
      obtain ⟨b, o, rfl, hb, hcell⟩ := h.byte hkn hkl
      by_cases hz0 : k = zl l
      · have hb0 : l[k] = 0 := by
          have := zl_get l (by omega)
          simpa [← hz0] using this
        rw [hb0] at hcell
        have HZ := Lib.hid hz0
        clear hz0 hb0
        go_wp2
        go_ret
        exact ⟨congrArg (fun k : Nat => Ending.returned (.int .i64 (k : Int))) HZ.out, rfl⟩
      · have hne := zl_front l k (by omega) hkl
        have hne' : (((l[k].toNat : Nat) : Int) == 0) = false := by
          have : l[k].toNat ≠ 0 := fun e => hne (by rw [← UInt8.toNat_inj]; simpa using e)
          simp; omega
        generalize l[k] = x at hcell hne hne'
        clear hne
        go_wp2
        go_round
        case rel => exact ⟨k + 1, by omega, by go_num⟩
        case measure => simp [intOf]; omega
    · have e : n = zl l := by have := HL.out; omega
      have HE := Lib.hid e
      clear e
      go_wp2
      go_ret
      exact ⟨congrArg (fun k : Nat => Ending.returned (.int .i64 (k : Int))) HE.out, rfl⟩
end Go.Proofs.YtamncdpeklbhlaaGreatDoor.StuWalkA
