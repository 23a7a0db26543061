/- What a reader's calls answer, walked: the reader, its failing, a number. -/
import Derived.Test.YtdbmpfongfiagaaPckWalkC
namespace Go.Proofs.Ytdbmpfongfiagaa.PckWalkD
open Go.RowKit Go.Proofs.Ytdbmpfongfiagaa.Kit Go.Proofs.Ytdbmpfongfiagaa.Num Go.Proofs.Ytdbmpfongfiagaa.State Go.Proofs.Ytdbmpfongfiagaa.PckWalkA Go.Proofs.Ytdbmpfongfiagaa.PckWalkC

/-- The program's reader. -/
abbrev R (w : World) (q : Nat) (s : ByteArray) (bad : Bool) : Prop := RV 120 w q s bad
abbrev TookR (q : Nat) (s : ByteArray) (bad : Bool) (r : Value) (w : World) (e : Ending) (w' : World) : Prop := Took 120 q s bad r w e w'

set_option maxRecDepth 100000 in
theorem from_any (s : ByteArray) (w : World) :
    Calls Try.prog 66 #[.string s] w fun e w' => e = .returned (.pointer (some ⟨w.heap.size, 0, none⟩)) ∧ R w' w.heap.size s false ∧ Below w.heap.size w w' := by
  go_enter Try.func66, Try.ntmps66
  go_wp2
  go_ret
  exact ⟨rfl, heap_alloc_new w _, (Below.refl _ _).alloc (Nat.le_refl _) _⟩

set_option maxRecDepth 100000 in
theorem fail_any (q : Nat) (s : ByteArray) (bad : Bool) (w : World) (h : R w q s bad) :
    Calls Try.prog 81 #[.pointer (some ⟨q, 0, none⟩)] w (TookR q ByteArray.empty true (.tuple #[]) w) := by
  have h0 := h.left
  have f0 := free_at h 0
  have h1 := h.flag
  have f1 := free_at h 1
  have hlt := h.lt
  have hr : R ((w.setCell ⟨q, 0, none⟩ (.string ByteArray.empty)).setCell ⟨q, 1, none⟩ (.bool true)) q ByteArray.empty true := (h.set0 _).set1 _
  have ho : Only (· = q) w ((w.setCell ⟨q, 0, none⟩ (.string ByteArray.empty)).setCell ⟨q, 1, none⟩ (.bool true)) := ((Only.refl (· = q) w).setCell (a := ⟨q, 0, none⟩) (.inr rfl) _).setCell (a := ⟨q, 1, none⟩) (.inr rfl) _
  go_enter Try.func81, Try.ntmps81
  go_wp2
  go_end0
  exact ⟨rfl, hr, ho⟩

theorem step_bits (v : Nat) (c : UInt8) (h : v < 72057594037927936) : bits .or .u64 ((v : Int) * 256) (c.toNat : Int) = ((256 * v + c.toNat : Nat) : Int) := by
  have hc := c.toNat_lt
  have e : (v : Int) * 256 = ((v * 256 : Nat) : Int) := by omega
  rw [e, u64_or_nat _ _ (by omega) (by omega), nat_join 8 (v * 256) c.toNat (by simp) (by simpa using hc), Nat.mul_comm]
theorem part_snoc (s : ByteArray) (k : Nat) (h1 : 1 ≤ k) (hk : k < s.size) : (s.data.toList.take (k + 1)).drop 1 = (s.data.toList.take k).drop 1 ++ [s[k]] := by
  have hl : s.data.toList.length = s.size := (Lib.size_eq s).symm
  rw [List.take_succ_eq_append_getElem (by omega), List.drop_append_of_le_length (by rw [List.length_take]; omega)]
  rfl
theorem part_lt (l : List UInt8) (k : Nat) (hk : k ≤ 8) : val ((l.take k).drop 1) < 72057594037927936 := by
  have h := val_lt ((l.take k).drop 1)
  have hl : ((l.take k).drop 1).length ≤ 7 := by simp; omega
  have := Nat.pow_le_pow_right (show 256 > 0 by decide) hl
  have e : (256 : Nat) ^ 7 = 72057594037927936 := by decide
  omega

set_option maxRecDepth 100000 in
theorem num_bad (q : Nat) (s : ByteArray) (bad : Bool) (w : World) (h : R w q s bad) (hs : s.size ≤ 9223372036854775807) (hf : frontB s = 0) :
    Calls Try.prog 67 #[.pointer (some ⟨q, 0, none⟩)] w (TookR q ByteArray.empty true (.int .u64 0) w) := by
  have h0 := h.left
  have hl := len_any s w hs
  rw [hf] at hl
  have HF := Lib.hid hf
  clear hf
  go_enter Try.func67, Try.ntmps67
  go_wp2_with fail
  refine hl.mono ?_
  rintro e w1 ⟨rfl, rfl⟩
  go_wp2_with fail
  refine (fail_any q s bad _ h).mono ?_
  rintro e w1 ⟨rfl, hr, ho⟩
  go_wp2
  go_ret
  exact ⟨rfl, hr, ho⟩

set_option maxRecDepth 100000 in
set_option maxHeartbeats 400000 in
theorem num_good (q : Nat) (s : ByteArray) (bad : Bool) (w : World) (h : R w q s bad) (hs : s.size ≤ 9223372036854775807) (hf : frontB s ≠ 0) :
    Calls Try.prog 67 #[.pointer (some ⟨q, 0, none⟩)] w (TookR q (s.extract (frontB s) s.size) bad (.int .u64 (gotB s)) w) := by
  have h0 := h.left
  have f0 := free_at h 0
  have hl := len_any s w hs
  have h9 := frontB_le9 s
  have hle := frontB_le s
  obtain ⟨g, hg⟩ : ∃ g, gotB s = g := ⟨_, rfl⟩
  have hgv : val ((s.data.toList.take (frontB s)).drop 1) = g := hg
  rw [hg]
  clear hg
  obtain ⟨n, hn⟩ : ∃ n, frontB s = n := ⟨_, rfl⟩
  rw [hn] at hf hl h9 hle hgv ⊢
  clear hn
  have hnz : ((n : Int) == 0) = false := by simp; omega
  have hr : R (w.setCell ⟨q, 0, none⟩ (.string (s.extract n s.size))) q (s.extract n s.size) bad := h.set0 _
  have ho : Only (· = q) w (w.setCell ⟨q, 0, none⟩ (.string (s.extract n s.size))) := (Only.refl (· = q) w).setCell (a := ⟨q, 0, none⟩) (.inr rfl) _
  have HG := Lib.hid hgv
  clear hgv
  go_enter Try.func67, Try.ntmps67
  go_wp2_with fail
  refine hl.mono ?_
  rintro e w1 ⟨rfl, rfl⟩
  clear hl
  go_wp2_with fail
  go_loop [4, 5] (fun x i => ∃ k v : Nat, 1 ≤ k ∧ k ≤ n ∧ i = .int .i64 k ∧ x = .int .u64 v ∧ Hid (v = val ((s.data.toList.take k).drop 1))) (fun _ i => n - (intOf i).toNat)
  case atStart => exact ⟨1, 0, Nat.le_refl _, by omega, rfl, rfl, by cases s.data.toList <;> rfl⟩
  case round =>
    obtain ⟨k, v, h1, hk, rfl, rfl, hv⟩ := hrel
    by_cases hkn : k < n
    · have hks : k < s.size := by omega
      have hvl : v < 72057594037927936 := by rw [hv.out]; exact part_lt _ _ (by omega)
      have hsn := part_snoc s k h1 hks
      have hst := step_bits v s[k] hvl
      have hbk := s[k].toNat_lt
      obtain ⟨v', hv'⟩ : ∃ v', 256 * v + s[k].toNat = v' := ⟨_, rfl⟩
      rw [hv'] at hst
      have HS : Hid (v' = val ((s.data.toList.take (k + 1)).drop 1)) := by
        show v' = _
        rw [hsn, val_snoc, ← hv.out, hv']
      clear hsn hv'
      go_wp2
      go_round
      case rel => exact ⟨k + 1, v', by omega, by omega, by go_num, rfl, HS⟩
      case measure => simp [intOf]; omega
    · have hkn' : k = n := by omega
      go_wp2
      go_ret
      refine ⟨?_, hr, ho⟩
      subst hkn'
      rw [hv.out, HG.out]
      rfl

/-- Whether it has failed behind a number. -/
def badB (s : ByteArray) (bad : Bool) : Bool := bad || decide (frontB s = 0)
theorem num_any (q : Nat) (s : ByteArray) (bad : Bool) (w : World) (h : R w q s bad) (hs : s.size ≤ 9223372036854775807) :
    Calls Try.prog 67 #[.pointer (some ⟨q, 0, none⟩)] w (TookR q (restB s) (badB s bad) (.int .u64 (gotB s)) w) := by
  by_cases hf : frontB s = 0
  · have h1 : gotB s = 0 := got_none hf
    have h2 : restB s = ByteArray.empty := by unfold restB; rw [if_pos hf]
    have h3 : badB s bad = true := by simp [badB, hf]
    rw [h1, h2, h3]
    exact num_bad q s bad w h hs hf
  · have h2 : restB s = s.extract (frontB s) s.size := by unfold restB; rw [if_neg hf]
    have h3 : badB s bad = bad := by simp [badB, hf]
    rw [h2, h3]
    exact num_good q s bad w h hs hf
theorem restB_le (s : ByteArray) : (restB s).size ≤ s.size := by
  unfold restB
  split
  · simp
  · rw [ByteArray.size_extract]; omega
end Go.Proofs.Ytdbmpfongfiagaa.PckWalkD
