/- What the document's own reader answers, walked. -/
import Derived.Test.YtoehjijnkbmgmaaPckWalkE
namespace Go.Proofs.Ytoehjijnkbmgmaa.PckWalkF
open Go.RowKit Go.Proofs.Ytoehjijnkbmgmaa.Kit Go.Proofs.Ytoehjijnkbmgmaa.Num Go.Proofs.Ytoehjijnkbmgmaa.State Go.Proofs.Ytoehjijnkbmgmaa.PckWalkA Go.Proofs.Ytoehjijnkbmgmaa.PckWalkC Go.Proofs.Ytoehjijnkbmgmaa.PckWalkD Go.Proofs.Ytoehjijnkbmgmaa.PckWalkE

abbrev M (w : World) (q : Nat) (s : ByteArray) (bad : Bool) : Prop := RV 69 w q s bad
abbrev TookM (q : Nat) (s : ByteArray) (bad : Bool) (r : Value) (w : World) (e : Ending) (w' : World) : Prop := Took 69 q s bad r w e w'

set_option maxRecDepth 100000 in
theorem fail_any (q : Nat) (s : ByteArray) (bad : Bool) (w : World) (h : M w q s bad) :
    Calls Try.prog 52 #[.pointer (some ⟨q, 0, none⟩)] w (TookM q ByteArray.empty true (.tuple #[]) w) := by
  have h0 := h.left
  have f0 := free_at h 0
  have h1 := h.flag
  have f1 := free_at h 1
  have hlt := h.lt
  have hr : M ((w.setCell ⟨q, 0, none⟩ (.string ByteArray.empty)).setCell ⟨q, 1, none⟩ (.bool true)) q ByteArray.empty true := (h.set0 _).set1 _
  have ho : Only (· = q) w ((w.setCell ⟨q, 0, none⟩ (.string ByteArray.empty)).setCell ⟨q, 1, none⟩ (.bool true)) := ((Only.refl (· = q) w).setCell (a := ⟨q, 0, none⟩) (.inr rfl) _).setCell (a := ⟨q, 1, none⟩) (.inr rfl) _
  go_enter Try.func52, Try.ntmps52
  go_wp2
  go_end0
  exact ⟨rfl, hr, ho⟩

set_option maxRecDepth 100000 in
set_option maxHeartbeats 400000 in
theorem bad_none (q : Nat) (s : ByteArray) (bad : Bool) (w : World) (h : M w q s bad) (hz : s.size = 0) :
    Calls Try.prog 40 #[.pointer (some ⟨q, 0, none⟩)] w (TookM q ByteArray.empty true (.int .u64 0) w) := by
  have h0 := h.left
  go_enter Try.func40, Try.ntmps40
  go_wp2_with fail
  refine (fail_any q s bad _ h).mono ?_
  rintro e w1 ⟨rfl, hr, ho⟩
  go_wp2
  go_ret
  exact ⟨rfl, hr, ho⟩
set_option maxRecDepth 100000 in
set_option maxHeartbeats 400000 in
theorem bad_high (q c : Nat) (s : ByteArray) (bad : Bool) (w : World) (h : M w q s bad) (hz : 0 < s.size) (hc : s[0].toNat = c) (h8 : 8 < (c : Int)) (h255 : (c : Int) ≤ 255) :
    Calls Try.prog 40 #[.pointer (some ⟨q, 0, none⟩)] w (TookM q ByteArray.empty true (.int .u64 0) w) := by
  have h0 := h.left
  have hc0 : ¬ ((c : Int) < 0) := by omega
  go_enter Try.func40, Try.ntmps40
  go_wp2_with fail
  refine (fail_any q s bad _ h).mono ?_
  rintro e w1 ⟨rfl, hr, ho⟩
  go_wp2
  go_ret
  exact ⟨rfl, hr, ho⟩
set_option maxRecDepth 100000 in
set_option maxHeartbeats 400000 in
theorem bad_few (q c : Nat) (s : ByteArray) (bad : Bool) (w : World) (h : M w q s bad) (hz : 0 < s.size) (hc : s[0].toNat = c) (h8 : (c : Int) ≤ 8) (hf : (s.size : Int) < (c : Int) + 1) :
    Calls Try.prog 40 #[.pointer (some ⟨q, 0, none⟩)] w (TookM q ByteArray.empty true (.int .u64 0) w) := by
  have h0 := h.left
  have hc0 : ¬ ((c : Int) < 0) := by omega
  have hc8 : ¬ (8 < (c : Int)) := by omega
  go_enter Try.func40, Try.ntmps40
  go_wp2_with fail
  refine (fail_any q s bad _ h).mono ?_
  rintro e w1 ⟨rfl, hr, ho⟩
  go_wp2
  go_ret
  exact ⟨rfl, hr, ho⟩
set_option maxRecDepth 100000 in
set_option maxHeartbeats 400000 in
theorem bad_zero (q c : Nat) (s : ByteArray) (bad : Bool) (w : World) (h : M w q s bad) (hz : 1 < s.size) (hc : s[0].toNat = c) (h8 : (c : Int) ≤ 8) (hp : 0 < (c : Int)) (hf : ¬ (s.size : Int) < (c : Int) + 1) (h1 : s[1].toNat = 0) :
    Calls Try.prog 40 #[.pointer (some ⟨q, 0, none⟩)] w (TookM q ByteArray.empty true (.int .u64 0) w) := by
  have h0 := h.left
  have hc0 : ¬ ((c : Int) < 0) := by omega
  have hc8 : ¬ (8 < (c : Int)) := by omega
  have hz0 : 0 < s.size := by omega
  go_enter Try.func40, Try.ntmps40
  go_wp2_with fail
  refine (fail_any q s bad _ h).mono ?_
  rintro e w1 ⟨rfl, hr, ho⟩
  go_wp2
  go_ret
  exact ⟨rfl, hr, ho⟩
theorem num_bad (q : Nat) (s : ByteArray) (bad : Bool) (w : World) (h : M w q s bad) (hf : frontB s = 0) :
    Calls Try.prog 40 #[.pointer (some ⟨q, 0, none⟩)] w (TookM q ByteArray.empty true (.int .u64 0) w) := by
  by_cases h0 : s.size = 0
  · exact bad_none q s bad w h h0
  have hp : 0 < s.size := by omega
  have hb := s[0].toNat_lt
  by_cases h8 : 8 < s[0].toNat
  · exact bad_high q _ s bad w h hp rfl (by omega) (by omega)
  by_cases hl : s.size < s[0].toNat + 1
  · exact bad_few q _ s bad w h hp rfl (by omega) (by omega)
  by_cases h1 : s.size = 1
  · have := frontB_one h1
    rw [hf] at this
    split at this <;> omega
  have h2 : 2 ≤ s.size := by omega
  have := frontB_more h2
  rw [hf] at this
  split at this
  · rename_i hc
    exact bad_zero q _ s bad w h (by omega) rfl (by omega) (by omega) (by omega) (by omega)
  · omega

theorem step_sum (v : Nat) (c : UInt8) : (256 * (v : Int) + (c.toNat : Int)) = ((256 * v + c.toNat : Nat) : Int) := by omega

set_option maxRecDepth 100000 in
set_option maxHeartbeats 800000 in
theorem good_none (q : Nat) (s : ByteArray) (bad : Bool) (w : World) (h : M w q s bad) (hs : s.size ≤ 9223372036854775807) (hz : 0 < s.size) (hc : s[0].toNat = 0) :
    Calls Try.prog 40 #[.pointer (some ⟨q, 0, none⟩)] w (TookM q (s.extract 1 s.size) bad (.int .u64 0) w) := by
  have h0 := h.left
  have f0 := free_at h 0
  have hr : M (w.setCell ⟨q, 0, none⟩ (.string (s.extract 1 s.size))) q (s.extract 1 s.size) bad := h.set0 _
  have ho : Only (· = q) w (w.setCell ⟨q, 0, none⟩ (.string (s.extract 1 s.size))) := (Only.refl (· = q) w).setCell (a := ⟨q, 0, none⟩) (.inr rfl) _
  have hlt : ¬ ((s.size : Int) < 1) := by omega
  go_enter Try.func40, Try.ntmps40
  go_wp2
  refine wp_loop_rounds 1 ?_
  rw [rounds_succ]
  go_wp2
  go_ret
  exact ⟨rfl, hr, ho⟩

set_option maxRecDepth 100000 in
set_option maxHeartbeats 800000 in
theorem good_some (q n c : Nat) (s : ByteArray) (bad : Bool) (w : World) (h : M w q s bad) (hs : s.size ≤ 9223372036854775807) (hz : 1 < s.size) (hc : s[0].toNat = c) (h8 : (c : Int) ≤ 8) (hp : 0 < (c : Int)) (hf : ¬ (s.size : Int) < (c : Int) + 1)
    (h1 : ((s[1].toNat : Int) == 0) = false) (hn : Hid (n = c + 1)) :
    Calls Try.prog 40 #[.pointer (some ⟨q, 0, none⟩)] w (TookM q (s.extract n s.size) bad (.int .u64 (val ((s.data.toList.take n).drop 1) : Nat)) w) := by
  have h0 := h.left
  have f0 := free_at h 0
  have hr : M (w.setCell ⟨q, 0, none⟩ (.string (s.extract n s.size))) q (s.extract n s.size) bad := h.set0 _
  have ho : Only (· = q) w (w.setCell ⟨q, 0, none⟩ (.string (s.extract n s.size))) := (Only.refl (· = q) w).setCell (a := ⟨q, 0, none⟩) (.inr rfl) _
  have hc0 : ¬ ((c : Int) < 0) := by omega
  have hc8 : ¬ (8 < (c : Int)) := by omega
  have hz0 : 0 < s.size := by omega
  have hns : n ≤ s.size := by have := hn.out; omega
  obtain ⟨g, hg⟩ : ∃ g, val ((s.data.toList.take n).drop 1) = g := ⟨_, rfl⟩
  rw [hg]
  have HG := Lib.hid hg
  clear hg
  go_enter Try.func40, Try.ntmps40
  go_wp2
  go_loop [4, 5] (fun x i => ∃ k v : Nat, 1 ≤ k ∧ k ≤ n ∧ i = .int .i64 k ∧ x = .int .u64 v ∧ Hid (v = val ((s.data.toList.take k).drop 1))) (fun _ i => n - (intOf i).toNat)
  case atStart => exact ⟨1, 0, Nat.le_refl _, by have := hn.out; omega, rfl, rfl, by cases s.data.toList <;> rfl⟩
  case round =>
    obtain ⟨k, v, hk1, hk, rfl, rfl, hv⟩ := hrel
    by_cases hkn : k < n
    · have hks : k < s.size := by omega
      have hkc : (k : Int) ≤ (c : Int) := by have := hn.out; omega
      have hvl : v < 72057594037927936 := by rw [hv.out]; exact part_lt _ _ (by omega)
      have hsn := part_snoc s k hk1 hks
      have hst := step_sum v s[k]
      have hbk := s[k].toNat_lt
      obtain ⟨v', hv'⟩ : ∃ v', 256 * v + s[k].toNat = v' := ⟨_, rfl⟩
      rw [hv'] at hst
      have HS : Hid (v' = val ((s.data.toList.take (k + 1)).drop 1)) := by
        show v' = _
        rw [hsn, val_snoc, ← hv.out, hv']
      clear hsn hv'
      go_wp2
      go_round
      case rel => exact ⟨k + 1, v', by omega, by omega, by go_num, by go_num, HS⟩
      case measure => simp [intOf]; omega
    · have hkc : ¬ (k : Int) ≤ (c : Int) := by have := hn.out; omega
      have hkn' : (c : Int) + 1 = (n : Int) := by have := hn.out; omega
      go_wp2
      go_ret
      refine ⟨?_, hr, ho⟩
      have e : k = n := by omega
      subst e
      rw [hv.out, HG.out]
      rfl
theorem num_good (q : Nat) (s : ByteArray) (bad : Bool) (w : World) (h : M w q s bad) (hs : s.size ≤ 9223372036854775807) (hf : frontB s ≠ 0) :
    Calls Try.prog 40 #[.pointer (some ⟨q, 0, none⟩)] w (TookM q (s.extract (frontB s) s.size) bad (.int .u64 (gotB s)) w) := by
  have hp : 0 < s.size := by
    rcases Nat.eq_zero_or_pos s.size with e | e
    · exact absurd (frontB_none e) hf
    · exact e
  have hg : gotB s = val ((s.data.toList.take (frontB s)).drop 1) := rfl
  rw [hg]
  by_cases hc : s[0].toNat = 0
  · have e : frontB s = 1 := by
      by_cases h1 : s.size = 1
      · rw [frontB_one h1, if_pos hc]
      · rw [frontB_more (by omega), if_neg (by omega)]; omega
    rw [e]
    have e2 : val ((s.data.toList.take 1).drop 1) = 0 := by cases s.data.toList <;> rfl
    rw [e2]
    exact good_none q s bad w h hs hp hc
  · by_cases h1 : s.size = 1
    · exact absurd (by rw [frontB_one h1, if_neg hc]) hf
    · have e := frontB_more (s := s) (by omega)
      split at e
      · exact absurd e hf
      · rename_i hn
        rw [e]
        refine good_some q _ s[0].toNat s bad w h hs (by omega) rfl (by omega) (by omega) (by omega) ?_ (by show _ = _; omega)
        simp
        omega
theorem num_any (q : Nat) (s : ByteArray) (bad : Bool) (w : World) (h : M w q s bad) (hs : s.size ≤ 9223372036854775807) :
    Calls Try.prog 40 #[.pointer (some ⟨q, 0, none⟩)] w (TookM q (restB s) (badB s bad) (.int .u64 (gotB s)) w) := by
  by_cases hf : frontB s = 0
  · have h1 : gotB s = 0 := got_none hf
    have h2 : restB s = ByteArray.empty := by unfold restB; rw [if_pos hf]
    have h3 : badB s bad = true := by simp [badB, hf]
    rw [h1, h2, h3]
    exact num_bad q s bad w h hf
  · have h2 : restB s = s.extract (frontB s) s.size := by unfold restB; rw [if_neg hf]
    have h3 : badB s bad = bad := by simp [badB, hf]
    rw [h2, h3]
    exact num_good q s bad w h hs hf
end Go.Proofs.Ytoehjijnkbmgmaa.PckWalkF
