/- What the program's encoding answers, walked: a slice of the call's own that holds the encoding. -/
import Derived.Test.YtamncdpeklbhlaaGreatDoorStuWalkB
namespace Go.Proofs.YtamncdpeklbhlaaGreatDoor.StuWalkC
open Go.RowKit Go.Proofs.YtamncdpeklbhlaaGreatDoor.Kit Go.Proofs.YtamncdpeklbhlaaGreatDoor.Stuff Go.Proofs.YtamncdpeklbhlaaGreatDoor.StuWalkA

theorem run_full (A : Option Addr) (n c : Nat) (l : List UInt8) (w : World) (h : RB w A n l) (hnc : n ≤ c) (hc : c ≤ 9223372036854775807) (hz : 254 ≤ zl l) :
    Calls Tryz.prog 130 #[.slice A n c] w fun e w' => e = .returned (.int .i64 254) ∧ w = w' := by
  have := run_any A n c l w h hnc hc
  rwa [show min (zl l) 254 = 254 by omega] at this
theorem run_part (A : Option Addr) (n c k : Nat) (l : List UInt8) (w : World) (h : RB w A n l) (hnc : n ≤ c) (hc : c ≤ 9223372036854775807) (hz : zl l < 254) (hk : Hid (zl l = k)) :
    Calls Tryz.prog 130 #[.slice A n c] w fun e w' => e = .returned (.int .i64 (k : Int)) ∧ w = w' := by
  have := run_any A n c l w h hnc hc
  rwa [show min (zl l) 254 = k by have := hk.out; omega] at this

set_option maxRecDepth 100000 in
set_option maxHeartbeats 1000000 in
theorem encode_any (A : Option Addr) (n c : Nat) (l : List UInt8) (w : World) (h : RB w A n l) (hnc : n ≤ c) (hc : c ≤ 9223372036854775807) (hE : (encode l).length ≤ 140737488355328) :
    Calls Tryz.prog 122 #[.slice A n c] w (Made 5 w (encode l)) := by
  obtain ⟨i0, hi0, hz0, hz1, hz2⟩ := info_parts info8
  have hlen := reads_len h
  have hlong := encode_longer l
  have hn : n ≤ 140737488355328 := by omega
  have HL := Lib.hid hlen
  clear hlen hlong
  go_enter Tryz.func122, Tryz.ntmps122
  go_wp2_with (at_make; refine wpList_make_own _ rfl _ _ 111 rfl w.heap.size 5 i0 _ 1 Tryz.underlying111 hi0 hz0 hz1 _ _ _ (n + n / 254 + 1) rfl rfl (by omega) ?b1 ?b2 (Nat.le_refl _) ?_)
  case b1 => rw [hz2]; omega
  case b2 => unfold maxLen; omega
  intro w1 hown1 hg1
  have hbel1 : Below w.heap.size w w1 := (Below.refl _ _).grown hg1 (Nat.le_refl _) (by simp)
  have hr1 : Reads w1 w.heap.size 1 A n (vals l) := h.below hbel1
  clear hg1
  go_wp2_with fail
  go_loopw [0, 3] (fun b v wr => ∃ (A' : Option Addr) (n' c' : Nat) (l' acc : List UInt8), b = .slice A' n' c' ∧ Reads wr w.heap.size 1 A' n' (vals l') ∧ n' ≤ c' ∧ c' ≤ 9223372036854775807 ∧
      wr.ownsRow w.heap.size 5 1 v acc.length (vals acc) ∧ acc ++ encode l' = encode l ∧ Below w.heap.size w wr)
    (fun b _ _ => lenOf b)
  case atStart => exact ⟨A, n, c, l, [], rfl, hr1, hnc, hc, hown1, rfl, hbel1⟩
  case round =>
    obtain ⟨A', n', c', l', acc, rfl, hr, hnc', hc', hown, heq, hbel⟩ := hrel
    have hB := hbel.size
    have hlen' := reads_len hr
    have hsum : acc.length + (encode l').length = (encode l).length := by rw [← heq, List.length_append]
    have hrw : RB wr A' n' l' := hr.more hB
    have hzl := zl_le l'
    have HE := Lib.hid heq
    have HL' := Lib.hid hlen'
    rcases threeWays l' with hw | ⟨hw, hw2⟩ | ⟨hw, hw2⟩
    · have he := encode_full l' hw
      have hn254 : 254 ≤ n' := by omega
      have hb1 : acc.length + 1 + 254 ≤ 140737488355328 := by
        rw [he] at hsum
        simp only [List.length_cons, List.length_append, List.length_take] at hsum
        omega
      have hcut : ∀ w, (Instr.slice 111 (.slice A' n' c') (some (.int .i64 254)) none none).run Tryz.prog w = .ok (.slice (cutA A' c' 254) (n' - 254) (c' - 254)) w :=
        run_from (P := Tryz.prog) 111 5 Tryz.underlying111 sz A' n' c' 254 hn254
      have hread : Reads wr w.heap.size 1 A' 254 (vals (l'.take 254)) := hr.bytes_upto hn254
      have hrest : Reads wr w.heap.size 1 (cutA A' c' 254) (n' - 254) (vals (l'.drop 254)) := hr.bytes_from hn254 hnc'
      have hm1 : acc.length + 1 ≤ maxLen := by unfold maxLen; omega
      have hs1 : (acc.length + 1) * 1 ≤ 140737488355328 := by rw [Nat.mul_one]; omega
      have hm2 : acc.length + 1 + 254 ≤ maxLen := by unfold maxLen; omega
      have hs2 : (acc.length + 1 + 254) * 1 ≤ 140737488355328 := by rw [Nat.mul_one]; exact hb1
      have hBo : ∀ o : Obj, w.heap.size ≤ (wr.alloc o).heap.size := fun o => by simp; omega
      have HF := Lib.hid he
      clear heq hlen' hsum he
      go_wp2_with fail
      refine (run_full _ _ _ _ _ hrw hnc' hc' hw).mono ?_
      rintro e w' ⟨rfl, rfl⟩
      go_wp2_with (first
        | (at_builtin
           refine wpList_append_any _ rfl (.tmp 15) (.tmp 19) _ rfl w.heap.size 5 i0 _ 1 1 Tryz.underlying111 hi0 hz0 hz1 hz2 rfl (by decide) _ acc.length (vals acc) rfl (hown.alloc _)
             (wr.heap.size + 1) _ 1 1 [.int .u8 255] rfl (reads_one _ _ _) (by simp [Value.oneCell']) hm1 hs1 (hBo _) ?_
           intro v1 w2 hown2 hg2 hat2
           clear hat2
           obtain ⟨hbel2, hB2, hkeep2⟩ := behind_new hown hbel hB hg2
           have hread2 := hkeep2 hread
           clear hg2)
        | (at_builtin
           refine wpList_append_any _ rfl (.tmp 21) (.tmp 24) _ rfl w.heap.size 5 i0 _ 1 1 Tryz.underlying111 hi0 hz0 hz1 hz2 rfl (by decide) v1 (acc.length + 1) (vals acc ++ [.int .u8 255]) rfl hown2
             w.heap.size A' 254 _ (vals (l'.take 254)) rfl hread2 (vals_one _) hm2 hs2 hB2 ?_
           intro v2 w3 hown3 hg3 hat3
           clear hat3
           obtain ⟨hbel3, hB3, hkeep3⟩ := behind_old hown2 hbel2 hB2 hg3
           clear hg3))
      go_roundw
      case rel =>
        have hl254 : (l'.take 254).length = 254 := by rw [List.length_take]; have := HL'.out; omega
        refine ⟨_, _, _, l'.drop 254, acc ++ 255 :: l'.take 254, rfl, hkeep3 (hkeep2 hrest), by omega, by omega, ?_, ?_, hbel3⟩
        · refine own_cast hown3 (by simp only [List.length_append, List.length_cons, hl254]) ?_
          rw [vals_append, List.append_assoc]
          rfl
        · have h1 := HF.out
          have h2 := HE.out
          rw [← h2, h1]
          simp
      case measure => simp only [lenOf]; omega
    · have he := encode_last l' hw hw2
      obtain ⟨k, hk⟩ : ∃ k, k = zl l' := ⟨_, rfl⟩
      have hkn : n' = k := by omega
      subst hkn
      have hb1 : acc.length + 1 + n' ≤ 140737488355328 := by
        rw [he] at hsum
        simp only [List.length_cons] at hsum
        omega
      have hcut := run_from (P := Tryz.prog) 111 5 Tryz.underlying111 sz A' n' c' n' (Nat.le_refl _)
      rw [Nat.sub_self] at hcut
      have hm1 : acc.length + 1 ≤ maxLen := by unfold maxLen; omega
      have hs1 : (acc.length + 1) * 1 ≤ 140737488355328 := by rw [Nat.mul_one]; omega
      have hm2 : acc.length + 1 + n' ≤ maxLen := by unfold maxLen; omega
      have hs2 : (acc.length + 1 + n') * 1 ≤ 140737488355328 := by rw [Nat.mul_one]; exact hb1
      have hBo : ∀ o : Obj, w.heap.size ≤ (wr.alloc o).heap.size := fun o => by simp; omega
      have hne : ((n' : Int) == 254) = false := by simp; omega
      have hlt : n' < 254 := by omega
      have HF := Lib.hid he
      have HK := Lib.hid hk.symm
      clear heq hlen' hsum he hk hw2
      go_wp2_with fail
      refine (run_part _ _ _ n' _ _ hrw hnc' hc' hw HK).mono ?_
      rintro e w' ⟨rfl, rfl⟩
      go_wp2_with (first
        | (at_builtin
           refine wpList_append_any _ rfl (.tmp 15) (.tmp 19) _ rfl w.heap.size 5 i0 _ 1 1 Tryz.underlying111 hi0 hz0 hz1 hz2 rfl (by decide) _ acc.length (vals acc) rfl (hown.alloc _)
             (wr.heap.size + 1) _ 1 1 [.int .u8 (n' + 1)] rfl (reads_one _ _ _) (by simp [Value.oneCell']) hm1 hs1 (hBo _) ?_
           intro v1 w2 hown2 hg2 hat2
           clear hat2
           obtain ⟨hbel2, hB2, hkeep2⟩ := behind_new hown hbel hB hg2
           have hread2 := hkeep2 hr
           clear hg2)
        | (at_builtin
           refine wpList_append_any _ rfl (.tmp 21) (.tmp 24) _ rfl w.heap.size 5 i0 _ 1 1 Tryz.underlying111 hi0 hz0 hz1 hz2 rfl (by decide) v1 (acc.length + 1) (vals acc ++ [.int .u8 (n' + 1)]) rfl hown2
             w.heap.size A' n' _ (vals l') rfl hread2 (vals_one _) hm2 hs2 hB2 ?_
           intro v2 w3 hown3 hg3 hat3
           clear hat3
           obtain ⟨hbel3, hB3, hkeep3⟩ := behind_old hown2 hbel2 hB2 hg3
           clear hg3))
      go_ret
      have h1 := HF.out
      have h2 := HE.out
      have h3 := HK.out
      have h4 := HL'.out
      have hu := ofNat_toNat n' (by omega)
      have ex : encode l = acc ++ UInt8.ofNat (n' + 1) :: l' := by rw [← h2, h1, h3]
      refine made hown3 ?_ ?_ hbel3
      · rw [ex, List.length_append, List.length_cons, h4]; omega
      · rw [ex, vals_append, List.append_assoc]
        simp only [vals, List.map_cons, hu]
        rfl
    · have he := encode_zero l' hw hw2
      obtain ⟨k, hk⟩ : ∃ k, k = zl l' := ⟨_, rfl⟩
      obtain ⟨d, hd⟩ : ∃ d, n' = k + (d + 1) := ⟨n' - k - 1, by omega⟩
      subst hd
      have hb1 : acc.length + 1 + k ≤ 140737488355328 := by
        rw [he] at hsum
        simp only [List.length_cons, List.length_append, List.length_take] at hsum
        omega
      have hcut := run_from (P := Tryz.prog) 111 5 Tryz.underlying111 sz A' (k + (d + 1)) c' k (by omega)
      rw [show k + (d + 1) - k = d + 1 by omega] at hcut
      have hcut1 : ∀ w, (Instr.slice 111 (.slice (cutA A' c' k) (d + 1) (c' - k)) (some (.int .i64 1)) none none).run Tryz.prog w = .ok (.slice (cutA (cutA A' c' k) (c' - k) 1) d (c' - k - 1)) w :=
        run_from (P := Tryz.prog) 111 5 Tryz.underlying111 sz (cutA A' c' k) (d + 1) (c' - k) 1 (by omega)
      have hread : Reads wr w.heap.size 1 A' k (vals (l'.take k)) := hr.bytes_upto (by omega)
      have hrest : Reads wr w.heap.size 1 (cutA (cutA A' c' k) (c' - k) 1) d (vals (l'.drop (k + 1))) := by
        have h1 := hr.bytes_from (k := k) (by omega) hnc'
        rw [show k + (d + 1) - k = d + 1 by omega] at h1
        have h2 := h1.bytes_from (k := 1) (cap := c' - k) (by omega) (by omega)
        rw [List.drop_drop] at h2
        exact h2
      have hm1 : acc.length + 1 ≤ maxLen := by unfold maxLen; omega
      have hs1 : (acc.length + 1) * 1 ≤ 140737488355328 := by rw [Nat.mul_one]; omega
      have hm2 : acc.length + 1 + k ≤ maxLen := by unfold maxLen; omega
      have hs2 : (acc.length + 1 + k) * 1 ≤ 140737488355328 := by rw [Nat.mul_one]; exact hb1
      have hBo : ∀ o : Obj, w.heap.size ≤ (wr.alloc o).heap.size := fun o => by simp; omega
      have hne : ((k : Int) == 254) = false := by simp; omega
      have hlt : k < 254 := by omega
      have HF := Lib.hid he
      have HK := Lib.hid hk.symm
      clear heq hlen' hsum he hk hw2
      go_wp2_with fail
      refine (run_part _ _ _ k _ _ hrw hnc' hc' hw HK).mono ?_
      rintro e w' ⟨rfl, rfl⟩
      go_wp2_with (first
        | (at_builtin
           refine wpList_append_any _ rfl (.tmp 15) (.tmp 19) _ rfl w.heap.size 5 i0 _ 1 1 Tryz.underlying111 hi0 hz0 hz1 hz2 rfl (by decide) _ acc.length (vals acc) rfl (hown.alloc _)
             (wr.heap.size + 1) _ 1 1 [.int .u8 (k + 1)] rfl (reads_one _ _ _) (by simp [Value.oneCell']) hm1 hs1 (hBo _) ?_
           intro v1 w2 hown2 hg2 hat2
           clear hat2
           obtain ⟨hbel2, hB2, hkeep2⟩ := behind_new hown hbel hB hg2
           have hread2 := hkeep2 hread
           clear hg2)
        | (at_builtin
           refine wpList_append_any _ rfl (.tmp 21) (.tmp 24) _ rfl w.heap.size 5 i0 _ 1 1 Tryz.underlying111 hi0 hz0 hz1 hz2 rfl (by decide) v1 (acc.length + 1) (vals acc ++ [.int .u8 (k + 1)]) rfl hown2
             w.heap.size A' k _ (vals (l'.take k)) rfl hread2 (vals_one _) hm2 hs2 hB2 ?_
           intro v2 w3 hown3 hg3 hat3
           clear hat3
           obtain ⟨hbel3, hB3, hkeep3⟩ := behind_old hown2 hbel2 hB2 hg3
           clear hg3))
      go_roundw
      case rel =>
        have h1 := HF.out
        have h2 := HE.out
        have h3 := HK.out
        have h4 := HL'.out
        have hu := ofNat_toNat k (by omega)
        have hlk : (l'.take k).length = k := by rw [List.length_take]; omega
        refine ⟨_, _, _, l'.drop (k + 1), acc ++ UInt8.ofNat (k + 1) :: l'.take k, rfl, hkeep3 (hkeep2 hrest), by omega, by omega, ?_, ?_, hbel3⟩
        · refine own_cast hown3 (by simp only [List.length_append, List.length_cons, hlk]; omega) ?_
          rw [vals_append, List.append_assoc]
          simp only [vals, List.map_cons, hu]
          rfl
        · rw [← h2, h1, h3]
          simp
      case measure => simp only [lenOf]; omega
end Go.Proofs.YtamncdpeklbhlaaGreatDoor.StuWalkC
