/- CrcMany walked: sums of many texts are joined in any grouping. -/
import Derived.Test.YtokfkihcofpfpaaDoorLawC
import Derived.Test.YtokfkihcofpfpaaDoorFrames
namespace Go.Proofs.YtokfkihcofpfpaaDoor.LawF
open Go.RowKit Go.Proofs.YtokfkihcofpfpaaDoor.Kit Go.Proofs.YtokfkihcofpfpaaDoor.Crc Go.Proofs.YtokfkihcofpfpaaDoor.SumA Go.Proofs.YtokfkihcofpfpaaDoor.SumB Go.Proofs.YtokfkihcofpfpaaDoor.Begun Go.Proofs.YtokfkihcofpfpaaDoor.LawA Go.Proofs.YtokfkihcofpfpaaDoor.Join Go.Proofs.YtokfkihcofpfpaaDoor.LawB Go.Proofs.YtokfkihcofpfpaaDoor.LawC Go.Proofs.YtokfkihcofpfpaaDoor.Frames

/-- The first k texts, one behind the other; those from k on. -/
def front (L : List (List UInt8)) (k : Nat) : List UInt8 := (L.take k).flatten
def rear (L : List (List UInt8)) (k : Nat) : List UInt8 := (L.drop k).flatten
theorem front_zero (L : List (List UInt8)) : front L 0 = [] := by simp [front]
theorem front_all (L : List (List UInt8)) (n : Nat) (h : L.length = n) : front L n = L.flatten := by simp [front, ← h]
theorem front_succ (L : List (List UInt8)) (k : Nat) (h : k < L.length) : front L (k + 1) = front L k ++ L[k] := by
  unfold front
  rw [List.take_succ_eq_append_getElem h, List.flatten_append]
  simp
theorem rear_all (L : List (List UInt8)) (n : Nat) (h : L.length = n) : rear L n = [] := by simp [rear, ← h]
theorem rear_zero (L : List (List UInt8)) : rear L 0 = L.flatten := by simp [rear]
theorem rear_step (L : List (List UInt8)) (k : Nat) (h : k < L.length) : rear L k = L[k] ++ rear L (k + 1) := by
  unfold rear
  rw [List.drop_eq_getElem_cons h, List.flatten_cons]
theorem front_rear (L : List (List UInt8)) (k : Nat) : (front L k).length + (rear L k).length = (L.map List.length).sum := by
  rw [← List.length_append]
  unfold front rear
  rw [← List.flatten_append, List.take_append_drop, List.length_flatten]

set_option maxRecDepth 100000 in
set_option maxHeartbeats 1000000 in
theorem many_walk (A : Option Addr) (n c : Nat) (L : List (List UInt8)) (w : World) (h : Texts w A n L) (hnc : n ≤ c) (hc : c ≤ 9223372036854775807) (hn : (L.map List.length).sum + n ≤ 1048576) (ht : Tab w) :
    Calls Tryd.prog 7 #[.slice A n c] w fun e w' => e = .returned (.bool true) ∧ Below w.heap.size w w' := by
  obtain ⟨i0, hi0, hi1, hi2, hi3⟩ := info_parts info8
  have HT := Lib.hid ht
  have HLEN := Lib.hid h.1
  have hnn : n ≤ 1048576 := by omega
  have HN := Lib.hid hn
  clear ht hn
  go_enter Tryd.func7, Tryd.ntmps7
  go_wp2_with fail
  refine (begun_any _ HT.out).mono ?_
  rintro e w1 ⟨rfl, hb1⟩
  go_wp2_with fail
  go_loopw [3, 4, 14] (fun v x i wr => ∃ (k s : Nat), k ≤ n ∧ i = .int .i64 k ∧ x = .int .u32 (s : Int) ∧ s < 2 ^ 32 ∧ Hid (s = add 0 (front L k)) ∧
      wr.ownsRow w.heap.size 5 1 v (front L k).length (vals (front L k)) ∧ Below w.heap.size w wr)
    (fun _ _ i _ => n - (intOf i).toNat)
  case atStart =>
    refine ⟨0, 0, Nat.zero_le _, rfl, rfl, by decide, ?_, ?_, hb1⟩
    · show 0 = _
      rw [front_zero, add_nil]
    · rw [front_zero]; exact World.ownsRow_nil _ _ _ _
  case round =>
    obtain ⟨k, s, hk, rfl, rfl, hs, HS, hown, hbel⟩ := hrel
    by_cases hlt : k < n
    · have hkl : k < L.length := by have := HLEN.out; omega
      obtain ⟨b, o, A', m, c', rfl, hcell, hr, hmc, hcm⟩ := h.at_ hbel rfl k hkl
      have hfs := front_succ L k hkl
      have hsum := front_rear L (k + 1)
      rw [hfs, List.length_append] at hsum
      have hml := reads_len hr
      have hNo := HN.out
      have hm1 : (front L k).length + m ≤ maxLen := by unfold maxLen; omega
      have hs1 : ((front L k).length + m) * 1 ≤ 140737488355328 := by rw [Nat.mul_one]; omega
      have hB := hbel.size
      generalize L[k] = y at hr hfs hsum hml
      obtain ⟨sy, hsy⟩ : ∃ z, add 0 y = z := ⟨_, rfl⟩
      have hsyl : sy < 2 ^ 32 := by rw [← hsy]; exact add_lt (by decide) _
      obtain ⟨s', hs'⟩ : ∃ z, add 0 (front L (k + 1)) = z := ⟨_, rfl⟩
      have hsl' : s' < 2 ^ 32 := by rw [← hs']; exact add_lt (by decide) _
      have HJ : Hid (join s sy m = s') := by show _ = _; rw [← hs', hfs, sum_append, HS.out, hsy, hml]
      have HSY := Lib.hid hsy
      have HS' : Hid (s' = add 0 (front L (k + 1))) := hs'.symm
      have HFL : Hid ((front L (k + 1)).length = (front L k).length + m) := by show _ = _; rw [hfs, List.length_append, hml]
      have HFV : Hid (vals (front L (k + 1)) = vals (front L k) ++ vals y) := by show _ = _; rw [hfs, vals_append]
      have hmm : m ≤ 9223372036854775807 := by omega
      clear hsy hs' hfs hsum hml hNo
      go_wp2_with (at_builtin
                   refine wpList_append_any _ rfl (.tmp 18) (.tmp 19) _ rfl w.heap.size 5 i0 _ 1 1 Tryd.underlying23 hi0 hi1 hi2 hi3 rfl (by decide) _ (front L k).length (vals (front L k)) rfl hown
                     w.heap.size A' m _ (vals y) rfl hr (vals_one _) hm1 hs1 hB ?_
                   intro v2 w2 hown2 hg2 hat2
                   clear hat2
                   obtain ⟨hbel2, hB2, hkeep2⟩ := behind_old hown hbel hB hg2
                   have hr2 := hkeep2 hr
                   clear hg2)
      have HT2 := Lib.hid (Tab.below HT.out hbel2)
      have hr3 : RB w2 A' m y := hr2.more hB2
      refine (sum_hid A' m c' sy y _ hr3 HT2.out hmc hcm HSY).mono ?_
      rintro e w' ⟨rfl, rfl⟩
      go_wp2_with fail
      refine (join_hid s sy m s' hs hsyl hmm HJ _).mono ?_
      rintro e w3 ⟨rfl, hb3⟩
      have hown3 := own_below hown2 hb3
      have hbel3 : Below w.heap.size w w3 := hbel2.trans (hb3.mono hB2)
      clear hown2 hown hbel2 hb3
      go_wp2
      go_roundw
      case rel =>
        refine ⟨k + 1, s', by omega, by go_num, rfl, hsl', HS', ?_, hbel3⟩
        exact own_cast hown3 HFL.out.symm HFV.out.symm
      case measure => simp [intOf]; omega
    · have hkn : k = n := by omega
      subst hkn
      rw [front_all L k HLEN.out] at HS hown
      obtain ⟨V, hV⟩ : ∃ V, V = u3 := ⟨_, rfl⟩
      rw [← hV] at hown
      go_wp2_with fail
      rw [← hV]
      clear hV
      go_loopw [5, 8, 9] (fun x u i wx => ∃ (j r q : Nat), j ≤ k ∧ i = .int .i64 ((j : Int) - 1) ∧ x = .int .u32 (r : Int) ∧ r < 2 ^ 32 ∧ Hid (r = add 0 (rear L j)) ∧ u = .int .i64 (q : Int) ∧ Hid (q = (rear L j).length) ∧ q ≤ 1048576 ∧
          wx.ownsRow w.heap.size 5 1 V L.flatten.length (vals L.flatten) ∧ Below w.heap.size w wx)
        (fun _ _ i _ => (intOf i + 1).toNat)
      case atStart =>
        refine ⟨k, 0, 0, Nat.le_refl _, rfl, rfl, by decide, ?_, rfl, ?_, by omega, hown, hbel⟩
        · show 0 = _
          rw [rear_all L k HLEN.out, add_nil]
        · show 0 = _
          rw [rear_all L k HLEN.out]; rfl
      case round =>
        obtain ⟨j, r, q, hj, rfl, rfl, hr, HR, rfl, HQ, hq, hown, hbel⟩ := hrel
        by_cases hj0 : 0 < j
        · obtain ⟨p, rfl⟩ : ∃ p, j = p + 1 := ⟨j - 1, by omega⟩
          have hpl : p < L.length := by have := HLEN.out; omega
          obtain ⟨b, o, A', m, c', rfl, hcell, hrd, hmc, hcm⟩ := h.at_ hbel rfl p hpl
          have hst := rear_step L p hpl
          have hsum := front_rear L p
          rw [hst, List.length_append] at hsum
          have hml := reads_len hrd
          have hNo := HN.out
          have hB := hbel.size
          have ep : (((p + 1 : Nat) : Int) - 1) = (p : Int) := by omega
          generalize L[p] = y at hrd hst hsum hml
          obtain ⟨sy, hsy⟩ : ∃ z, add 0 y = z := ⟨_, rfl⟩
          have hsyl : sy < 2 ^ 32 := by rw [← hsy]; exact add_lt (by decide) _
          obtain ⟨r', hr'⟩ : ∃ z, add 0 (rear L p) = z := ⟨_, rfl⟩
          have hrl' : r' < 2 ^ 32 := by rw [← hr']; exact add_lt (by decide) _
          have HJ : Hid (join sy r q = r') := by show _ = _; rw [← hr', hst, sum_append, hsy, HR.out, HQ.out]
          have HSY := Lib.hid hsy
          have HR' : Hid (r' = add 0 (rear L p)) := hr'.symm
          have HQ' : Hid (q + m = (rear L p).length) := by show _ = _; rw [hst, List.length_append, hml, HQ.out]; omega
          have hqm : q + m ≤ 1048576 := by have := HQ.out; omega
          have HT2 := Lib.hid (Tab.below HT.out hbel)
          have hr3 : RB wr A' m y := hrd.more hB
          clear hsy hr' hst hsum hml hNo
          rw [ep]
          clear ep
          go_wp2_with fail
          refine (sum_hid A' m c' sy y _ hr3 HT2.out hmc hcm HSY).mono ?_
          rintro e w' ⟨rfl, rfl⟩
          go_wp2_with fail
          refine (join_hid sy r q r' hsyl hr (by omega) HJ _).mono ?_
          rintro e w3 ⟨rfl, hb3⟩
          have hown3 := own_below hown hb3
          have hbel3 : Below w.heap.size w w3 := hbel.trans (hb3.mono hB)
          obtain ⟨b2, o2, A2, m2, c2, e2, hcell3, hrd3, _, _⟩ := h.at_ hbel3 rfl p hpl
          have hcell4 : w3.cell? ⟨b, o + p, none⟩ = some (.slice A' m c') := (hb3.cell (p := ⟨b, o + p, none⟩) (World.block_lt_of_cell? _ (⟨b, o + p, none⟩ : Addr) hcell)).trans hcell
          clear hcell3 hrd3 e2 hown hb3
          go_wp2
          go_roundw
          case rel =>
            refine ⟨p, r', q + m, by omega, by go_num, rfl, hrl', HR', by go_num, HQ', hqm, hown3, hbel3⟩
          case measure => simp [intOf]
        · have hj' : j = 0 := by omega
          subst hj'
          rw [rear_zero] at HR
          have HT2 := Lib.hid (Tab.below HT.out hbel)
          obtain ⟨X, cx, rfl, hxc, hxm, hx0⟩ := own_form hown
          have HSE : Hid (add 0 L.flatten = s) := HS.out.symm
          have hrs : r = s := by rw [HR.out, HS.out]
          subst hrs
          obtain ⟨N, hN⟩ : ∃ N, N = L.flatten.length := ⟨_, rfl⟩
          rw [← hN] at hxc hx0 ⊢
          have HNN := Lib.hid hN
          have hcx : cx ≤ 9223372036854775807 := by have := hxm; unfold maxLen at this; omega
          clear hxm hown hN
          go_wp2_with fail
          refine (sum_hid X N cx r L.flatten _ hx0 HT2.out hxc hcx HSE).mono ?_
          rintro e w' ⟨rfl, rfl⟩
          go_wp2
          go_ret
          exact ⟨rfl, hbel⟩
end Go.Proofs.YtokfkihcofpfpaaDoor.LawF
