/- The walk of the statement that two texts with a zero between are encoded as the one and then the other. -/
import Derived.Test.YtokgompjomeolaaWalkH
namespace Go.Proofs.Ytokgompjomeolaa.LawE
open Go.RowKit Go.Proofs.Ytokgompjomeolaa.Kit Go.Proofs.Ytokgompjomeolaa.Stuff Go.Proofs.Ytokgompjomeolaa.WalkA Go.Proofs.Ytokgompjomeolaa.WalkD Go.Proofs.Ytokgompjomeolaa.WalkG Go.Proofs.Ytokgompjomeolaa.WalkH

theorem said_as (q a b : List UInt8) (h : q = a ++ b) : (q == ((⟨a.toArray⟩ : ByteArray) ++ (⟨b.toArray⟩ : ByteArray)).toList) = true := by
  rw [Lib.toList_data, ByteArray.data_append, h]
  simp

set_option maxRecDepth 100000 in
set_option maxHeartbeats 4000000 in
theorem joins_walk (A : Option Addr) (n c : Nat) (l : List UInt8) (B : Option Addr) (m d : Nat) (r : List UInt8) (w : World) (h : RB w A n l) (hnc : n ≤ c) (hc : c ≤ 9223372036854775807) (hn : n ≤ 1048576)
    (k : RB w B m r) (hmd : m ≤ d) (hd : d ≤ 9223372036854775807) (hm : m ≤ 1048576) :
    Calls Try.prog 8 #[.slice A n c, .slice B m d] w fun e w' => e = .returned (.bool true) ∧ Below w.heap.size w w' := by
  obtain ⟨i0, hi0, hi1, hi2, hi3⟩ := info_parts info8
  have hlen := reads_len h
  have klen := reads_len k
  have hshort := encode_short l
  have kshort := encode_short r
  have hE : (encode l).length ≤ 1052706 := by omega
  have kE : (encode r).length ≤ 1052706 := by omega
  have hj := joins l r
  have jE : (encode (l ++ 0 :: r)).length ≤ 140737488355328 := by rw [hj, List.length_append]; omega
  have hvq : vals (l ++ 0 :: r) = [] ++ vals l ++ [.int .u8 0] ++ vals r := by rw [vals_append]; simp [vals]
  have hlq : (l ++ 0 :: r).length = 0 + n + 1 + m := by rw [List.length_append, List.length_cons, hlen, klen]; omega
  generalize l ++ 0 :: r = q at hj jE hvq hlq
  obtain ⟨N, hN⟩ : ∃ N, N = 0 + n + 1 + m := ⟨_, rfl⟩
  have HVQ := Lib.hid hvq
  have HN := Lib.hid hN
  have HNL := Lib.hid (hlq.trans hN.symm)
  have HJ := Lib.hid hj
  have HL := Lib.hid hlen
  have KL := Lib.hid klen
  clear hlen klen hshort kshort hj hvq hlq hN
  go_enter Try.func8, Try.ntmps8
  go_wp2_with fail
  refine (begun_true _).mono ?_
  rintro e w1 ⟨rfl, hb1⟩
  have hB1 := hb1.size
  have hr1 : Reads w1 w.heap.size 1 A n (vals l) := h.below hb1
  have kr1 : Reads w1 w.heap.size 1 B m (vals r) := k.below hb1
  have hm1 : 0 + n ≤ maxLen := by unfold maxLen; omega
  have hs1 : (0 + n) * 1 ≤ 140737488355328 := by rw [Nat.mul_one]; omega
  have hm2 : 0 + n + 1 ≤ maxLen := by unfold maxLen; omega
  have hs2 : (0 + n + 1) * 1 ≤ 140737488355328 := by rw [Nat.mul_one]; omega
  have hm3 : 0 + n + 1 + m ≤ maxLen := by unfold maxLen; omega
  have hs3 : (0 + n + 1 + m) * 1 ≤ 140737488355328 := by rw [Nat.mul_one]; omega
  have hBo : ∀ w3 : World, w.heap.size ≤ w3.heap.size → ∀ o : Obj, w.heap.size ≤ (w3.alloc o).heap.size := fun w3 h3 o => by simp; omega
  go_wp2_with (first
    | (at_builtin
       refine wpList_append_any _ rfl (.const (.slice none 0 0)) (.tmp 8) _ rfl w.heap.size 5 i0 _ 1 1 Try.underlying22 hi0 hi1 hi2 hi3 rfl (by decide) _ 0 [] rfl (World.ownsRow_nil _ _ _ _)
         w.heap.size A n _ (vals l) rfl hr1 (vals_one _) hm1 hs1 hB1 ?_
       intro v2 w2 hown2 hg2 hat2
       clear hat2
       obtain ⟨hbel2, hB2, hkeep2⟩ := behind_old (World.ownsRow_nil _ _ 5 1) hb1 hB1 hg2
       have kr2 := hkeep2 kr1
       clear hg2)
    | (at_builtin
       refine wpList_append_any _ rfl (.tmp 9) (.tmp 10) _ rfl w.heap.size 5 i0 _ 1 1 Try.underlying22 hi0 hi1 hi2 hi3 rfl (by decide) v2 (0 + n) ([] ++ vals l) rfl (hown2.alloc _)
         (w2.heap.size + 1) _ 1 1 [.int .u8 0] rfl (reads_one _ _ _) (by simp [Value.oneCell']) hm2 hs2 (hBo _ hB2 _) ?_
       intro v3 w3 hown3 hg3 hat3
       clear hat3
       obtain ⟨hbel3, hB3, hkeep3⟩ := behind_new hown2 hbel2 hB2 hg3
       have kr3 := hkeep3 kr2
       clear hg3)
    | (at_builtin
       refine wpList_append_any _ rfl (.tmp 11) (.tmp 12) _ rfl w.heap.size 5 i0 _ 1 1 Try.underlying22 hi0 hi1 hi2 hi3 rfl (by decide) v3 (0 + n + 1) ([] ++ vals l ++ [.int .u8 0]) rfl hown3
         w.heap.size B m _ (vals r) rfl kr3 (vals_one _) hm3 hs3 hB3 ?_
       intro v4 w4 hown4 hg4 hat4
       clear hat4
       obtain ⟨hbel4, hB4, hkeep4⟩ := behind_old hown3 hbel3 hB3 hg4
       clear hg4))
  have hown5 := own_cast hown4 HN.out.symm HVQ.out.symm
  obtain ⟨A4, c4, rfl, hnc4, hcm4, hr4⟩ := own_form hown5
  unfold maxLen at hcm4
  have hr4d : RB w4.drew A4 N q := hr4
  have ha4 : Reads w4.drew w.heap.size 1 A n (vals l) := h.below hbel4.drew
  have kb4 : Reads w4.drew w.heap.size 1 B m (vals r) := k.below hbel4.drew
  clear hown2 hown3 hown4 hown5 hkeep2 hkeep3 hkeep4 kr2 kr3 kr1 hr1 hm1 hm2 hm3 hs1 hs2 hs3 hBo hi0 hi1 hi2 hi3
  have hEl : (encode l).length ≤ 140737488355328 := by omega
  have hEr : (encode r).length ≤ 140737488355328 := by omega
  have hjb := said_as _ _ _ HJ.out
  go_region_with (first
    | (go_at_call_of 10 (Value.slice A4 N c4); refine (WalkC.encode_any A4 _ c4 _ w4.drew hr4d hnc4 hcm4 jE).mono ?_; rintro e w5 ⟨v5, rfl, hown5, hb5⟩; obtain ⟨A5, c5, rfl, hnc5, hcm5, hr5⟩ := own_form hown5; have ha5 : Reads w5 w.heap.size 1 A n (vals l) := ha4.below (hb5.mono hB4); have kb5 : Reads w5 w.heap.size 1 B m (vals r) := kb4.below (hb5.mono hB4); have hB5 : w.heap.size ≤ w5.heap.size := Nat.le_trans hB4 hb5.size; have hv5 := conv w5 _ A5 _ c5 _ hr5)
    | (go_at_call_of 10 (Value.slice A n c); refine (WalkC.encode_any A n c l w5 (ha5.more hB5) hnc hc hEl).mono ?_; rintro e w6 ⟨v6, rfl, hown6, hb6⟩; obtain ⟨A6, c6, rfl, hnc6, hcm6, hr6⟩ := own_form hown6; have kb6 : Reads w6 w.heap.size 1 B m (vals r) := kb5.below (hb6.mono hB5); have hB6 : w.heap.size ≤ w6.heap.size := Nat.le_trans hB5 hb6.size; have hv6 := conv w6 _ A6 _ c6 _ hr6; have hv65 := conv w6 _ A5 _ c5 _ (hr5.below hb6))
    | (go_at_call_of 10 (Value.slice B m d); refine (WalkC.encode_any B m d r w6 (kb6.more hB6) hmd hd hEr).mono ?_; rintro e w7 ⟨v7, rfl, hown7, hb7⟩; obtain ⟨A7, c7, rfl, hnc7, hcm7, hr7⟩ := own_form hown7; have hv7 := conv w7 _ A7 _ c7 _ hr7; have hv76 := conv w7 _ A6 _ c6 _ (hr6.below hb7); have hv75 := conv w7 _ A5 _ c5 _ ((hr5.below hb6).below (hb7.mono hb6.size))))
  all_goals go_wp2
  all_goals go_ret
  all_goals exact ⟨rfl, hbel4.drew.trans ((hb5.mono hB4).trans ((hb6.mono hB5).trans (hb7.mono hB6)))⟩
end Go.Proofs.Ytokgompjomeolaa.LawE
