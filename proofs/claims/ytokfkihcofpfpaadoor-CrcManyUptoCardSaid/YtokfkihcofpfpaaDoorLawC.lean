/- CrcParts walked: the sum of two texts, one behind the other, by the first one's sum and the second, and by both sums. -/
import Derived.Test.YtokfkihcofpfpaaDoorJoin
import Derived.Test.YtokfkihcofpfpaaDoorLawB
namespace Go.Proofs.YtokfkihcofpfpaaDoor.LawC
open Go.RowKit Go.Proofs.YtokfkihcofpfpaaDoor.Kit Go.Proofs.YtokfkihcofpfpaaDoor.Crc Go.Proofs.YtokfkihcofpfpaaDoor.SumA Go.Proofs.YtokfkihcofpfpaaDoor.SumB Go.Proofs.YtokfkihcofpfpaaDoor.Begun Go.Proofs.YtokfkihcofpfpaaDoor.LawA Go.Proofs.YtokfkihcofpfpaaDoor.Join Go.Proofs.YtokfkihcofpfpaaDoor.LawB

theorem info8 : (Tryd.prog.info? 5).map (fun i => (i.zero, i.size, i.bytes)) = some (some (.int .u8 0), 1, 1) := by kernel_rfl

set_option maxHeartbeats 1000000 in
theorem parts_walk (A : Option Addr) (n c : Nat) (l : List UInt8) (B : Option Addr) (m d : Nat) (r : List UInt8) (w : World) (h : RB w A n l) (hnc : n ≤ c) (hc : c ≤ 9223372036854775807) (hn : n ≤ 1048576)
    (k : RB w B m r) (hmd : m ≤ d) (hd : d ≤ 9223372036854775807) (hm : m ≤ 1048576) (ht : Tab w) :
    Calls Tryd.prog 5 #[.slice A n c, .slice B m d] w fun e w' => e = .returned (.bool true) ∧ Below w.heap.size w w' := by
  obtain ⟨i0, hi0, hi1, hi2, hi3⟩ := info_parts info8
  have klen := reads_len k
  obtain ⟨sl, hsl⟩ : ∃ x, add 0 l = x := ⟨_, rfl⟩
  obtain ⟨sr, hsr⟩ : ∃ x, add 0 r = x := ⟨_, rfl⟩
  obtain ⟨sq, hsq⟩ : ∃ x, add 0 (l ++ r) = x := ⟨_, rfl⟩
  have hsll : sl < 2 ^ 32 := by rw [← hsl]; exact add_lt (by decide) _
  have hsrl : sr < 2 ^ 32 := by rw [← hsr]; exact add_lt (by decide) _
  have HA : Hid (add sl r = sq) := by show _ = _; rw [← hsl, ← add_append, hsq]
  have HJ : Hid (join sl sr m = sq) := by show _ = _; rw [← hsq, sum_append, hsl, hsr, klen]
  have hvq : vals (l ++ r) = [] ++ vals l ++ vals r := by rw [vals_append]; rfl
  have hlq : (l ++ r).length = 0 + n + m := by rw [List.length_append, reads_len h, klen]; omega
  have HVQ := Lib.hid hvq
  have HLQ := Lib.hid hlq
  have HT := Lib.hid ht
  have HL := Lib.hid hsl
  have HR := Lib.hid hsr
  have HQ := Lib.hid hsq
  clear klen hsl hsr hsq hvq hlq ht
  go_enter Tryd.func5, Tryd.ntmps5
  go_wp2_with fail
  refine (begun_any _ HT.out).mono ?_
  rintro e w1 ⟨rfl, hb1⟩
  have hB1 := hb1.size
  have hr1 : Reads w1 w.heap.size 1 A n (vals l) := h.below hb1
  have kr1 : Reads w1 w.heap.size 1 B m (vals r) := k.below hb1
  have hm1 : 0 + n ≤ maxLen := by unfold maxLen; omega
  have hs1 : (0 + n) * 1 ≤ 140737488355328 := by rw [Nat.mul_one]; omega
  have hm2 : 0 + n + m ≤ maxLen := by unfold maxLen; omega
  have hs2 : (0 + n + m) * 1 ≤ 140737488355328 := by rw [Nat.mul_one]; omega
  go_wp2_with (first
    | (at_builtin
       refine wpList_append_any _ rfl (.const (.slice none 0 0)) (.tmp 8) _ rfl w.heap.size 5 i0 _ 1 1 Tryd.underlying23 hi0 hi1 hi2 hi3 rfl (by decide) _ 0 [] rfl (World.ownsRow_nil _ _ _ _)
         w.heap.size A n _ (vals l) rfl hr1 (vals_one _) hm1 hs1 hB1 ?_
       intro v2 w2 hown2 hg2 hat2
       clear hat2
       obtain ⟨hbel2, hB2, hkeep2⟩ := behind_old (World.ownsRow_nil _ _ 5 1) hb1 hB1 hg2
       have kr2 := hkeep2 kr1
       have hr2 := hkeep2 hr1
       clear hg2)
    | (at_builtin
       refine wpList_append_any _ rfl (.tmp 9) (.tmp 10) _ rfl w.heap.size 5 i0 _ 1 1 Tryd.underlying23 hi0 hi1 hi2 hi3 rfl (by decide) v2 (0 + n) ([] ++ vals l) rfl hown2
         w.heap.size B m _ (vals r) rfl kr2 (vals_one _) hm2 hs2 hB2 ?_
       intro v3 w3 hown3 hg3 hat3
       clear hat3
       obtain ⟨hbel3, hB3, hkeep3⟩ := behind_old hown2 hbel2 hB2 hg3
       have kr3 := hkeep3 kr2
       have hr3 := hkeep3 hr2
       obtain ⟨Q, cq, rfl, hqc, hcm, hq0⟩ := own_form hown3
       clear hg3))
  have HT3 := Lib.hid (Tab.below HT.out hbel3)
  have hq : RB w3 Q (n + m) (l ++ r) := by
    show Reads _ _ _ _ _ _
    rw [HVQ.out, ← Nat.zero_add n]
    exact hq0
  rw [Nat.zero_add] at hqc
  have hr4 : RB w3 A n l := hr3.more hB3
  have kr4 : RB w3 B m r := kr3.more hB3
  have hcq : cq ≤ 9223372036854775807 := by have := hcm; unfold maxLen at this; omega
  clear hcm hm1 hm2 hs1 hs2 hq0
  refine (sum_hid Q (n + m) cq sq _ _ hq HT3.out hqc hcq HQ).mono ?_
  rintro e w' ⟨rfl, rfl⟩
  go_wp2_with fail
  refine (sum_hid A n c sl _ _ hr4 HT3.out hnc hc HL).mono ?_
  rintro e w' ⟨rfl, rfl⟩
  go_wp2_with fail
  refine (add_hid B m d sl sq _ _ kr4 HT3.out hmd hd hsll HA).mono ?_
  rintro e w' ⟨rfl, rfl⟩
  go_wp2_with fail
  refine (sum_hid Q (n + m) cq sq _ _ hq HT3.out hqc hcq HQ).mono ?_
  rintro e w' ⟨rfl, rfl⟩
  go_wp2_with fail
  refine (sum_hid A n c sl _ _ hr4 HT3.out hnc hc HL).mono ?_
  rintro e w' ⟨rfl, rfl⟩
  go_wp2_with fail
  refine (sum_hid B m d sr _ _ kr4 HT3.out hmd hd HR).mono ?_
  rintro e w' ⟨rfl, rfl⟩
  go_wp2_with fail
  refine (join_hid sl sr m sq hsll hsrl (by omega) HJ _).mono ?_
  rintro e w4 ⟨rfl, hb4⟩
  go_wp2
  go_ret
  exact ⟨rfl, hbel3.trans (hb4.mono hB3)⟩
end Go.Proofs.YtokfkihcofpfpaaDoor.LawC
