/- What the document's own numbers and texts are as bytes, walked. -/
import Derived.Test.YthaepkpmpnofgaaGreatRows
import Derived.Test.YthaepkpmpnofgaaGreatState
import Derived.Test.YthaepkpmpnofgaaGreatShelf
import Derived.Deep.RegionLaw
import Derived.BigRegion
import Derived.WalkKit
import Derived.WalkSpells
import Derived.IntWalk
import Derived.WalkLawsBesides
import Derived.LoopTactic
import Derived.Outline
import Derived.Laws.BitsAllLaws
import Derived.Lib.IndexBytes
import Derived.Deep.QuietTactic
import Derived.BigQuiet
namespace Go.Proofs.YthaepkpmpnofgaaGreat.PckWalkA
open Go.RowKit Go.Proofs.YthaepkpmpnofgaaGreat.Kit Go.Proofs.YthaepkpmpnofgaaGreat.Num Go.Proofs.YthaepkpmpnofgaaGreat.State

theorem sz (w : World) : (Go.sizeOf 5).run Tryz.prog w = .ok 1 w := by kernel_rfl
theorem info8 : (Tryz.prog.info? 5).map (fun i => (i.zero, i.size, i.bytes)) = some (some (.int .u8 0), 1, 1) := by kernel_rfl

set_option maxRecDepth 100000 in
/-- A writer that is none. -/
theorem num_nil (x : Nat) (w : World) : Calls Tryz.prog 49 #[.pointer none, .int .u64 (x : Int)] w fun e w' => e = .returned (.pointer none) ∧ w = w' := by
  go_enter Tryz.func49, Tryz.ntmps49
  go_wp2
  go_ret
  exact ⟨rfl, rfl⟩

theorem shr_at (x j : Nat) (hj : j ≤ 7) : Op.shift .shr .u64 (x : Int) .i64 (IntKind.i64.wrap (8 * (j : Int))) = pure (.int .u64 ((x / 256 ^ j : Nat) : Int)) := by
  have hs := shift_shr .u64 .i64 (x : Int) (8 * (j : Int)) (by omega) (by simp [IntKind.bits]; omega)
  rw [IntWalk.i64_in _ (by omega), hs]
  congr 2
  have e : (8 * (j : Int)).toNat = 8 * j := by omega
  have e2 : (256 : Nat) ^ j = 2 ^ (8 * j) := by rw [Nat.pow_mul]
  rw [e, e2]
  simp
theorem wrap8 (d : Nat) : IntKind.u8.wrap (d : Int) = ((d % 256 : Nat) : Int) := by
  simp [IntKind.wrap, IntKind.bits, IntKind.signed]

set_option maxRecDepth 100000 in
set_option maxHeartbeats 1000000 in
theorem num_any (p : Nat) (v : Value) (l : List UInt8) (x : Nat) (w : World) (h : WV w p v l) (hx : x < 18446744073709551616) (hl : l.length ≤ 140737488355000) :
    Calls Tryz.prog 49 #[.pointer (some ⟨p, 0, none⟩), .int .u64 (x : Int)] w (Wrote p v.ownBlock (l ++ num x) w) := by
  obtain ⟨i0, hi0, hz0, hz1, hz2⟩ := info_parts info8
  have h8 := wide_le8 hx
  have hbits := wide_bits hx
  obtain ⟨n, hn⟩ : ∃ n, wide x = n := ⟨_, rfl⟩
  obtain ⟨b, hb⟩ : ∃ b, Lib.bitLen x = b := ⟨_, rfl⟩
  rw [hn] at h8 hbits
  rw [hb] at hbits
  have hb64 : (b : Int) ≤ 64 := by omega
  have hcell := h.at_
  have hlt := h.lt
  have hown := h.own
  have hq : ((b : Int) + 7) / 8 = (n : Int) := by omega
  have HN := Lib.hid hn
  have HB := Lib.hid hb
  clear hn hb hbits
  go_enter Tryz.func49, Tryz.ntmps49
  go_wp2_with fail
  refine (Shelf.len_any (x : Int) _ (by omega) (by omega)).mono ?_
  rw [Int.toNat_natCast, HB.out]
  rintro e w1 ⟨rfl, hw1⟩
  subst hw1
  have hm1 : l.length + 1 ≤ maxLen := by unfold maxLen; omega
  have hs1 : (l.length + 1) * 1 ≤ 140737488355328 := by rw [Nat.mul_one]; omega
  go_wp2_with (first
    | (at_builtin
       refine wpList_append_lies _ rfl (.tmp 17) (.tmp 20) _ rfl (p + 1) 5 i0 _ 1 1 Tryz.underlying103 hi0 hz0 hz1 hz2 rfl (by decide) v l.length (vals l) rfl (hown.alloc _)
         ⟨w1.heap.size, 0, none⟩ 1 1 [.int .u8 (n : Int)] rfl rfl (cell_one_new _ _ _) (by simp [Value.oneCell']) (by decide) hm1 hs1 (by simp; omega) (w1.heap.size + 1) (by simp) ?_
       intro g cap w2 hown2 hg2 hat2 hlt2
       obtain ⟨hc2, hf2, hwv2, hst2⟩ := one_more (w := w1) (c := UInt8.ofNat n) h (Step.refl _ _ _) (by simp; omega) hown2 hg2 hat2 rfl
       clear hown2 hg2 hat2))
  generalize hw0 : w2.setCell ⟨p, 0, none⟩ (.slice (some ⟨g, 0, none⟩) (l.length + 1) cap) = w3 at hwv2 hst2
  clear hw0 hc2 hf2 hcell hown hm1 hs1 hq hlt2
  go_loopw [6] (fun i wr => ∃ (k : Nat) (a : List UInt8) (v' : Value) (z : Int), k ≤ n ∧ i = .int .i64 z ∧ Hid (z + 1 = k) ∧ WV wr p v' (l ++ [UInt8.ofNat n] ++ a) ∧ a ++ dig k x = dig n x ∧ Step p v.ownBlock v'.ownBlock w1 wr)
    (fun i _ => (intOf i + 1).toNat)
  case atStart => exact ⟨n, [], .slice (some ⟨g, 0, none⟩) (l.length + 1) cap, _, Nat.le_refl _, rfl, Int.sub_add_cancel _ _, by rw [List.append_nil]; exact hwv2, rfl, hst2⟩
  case round =>
    obtain ⟨k, a, v', z, hk, rfl, hz, hwv, heq, hst⟩ := hrel
    cases k with
    | zero =>
      obtain rfl : z = -1 := by have := hz.out; omega
      go_wp2
      go_ret
      refine ⟨rfl, v', ?_, hst⟩
      have : a = dig n x := by simpa [dig] using heq
      subst this
      unfold num
      rw [HN.out]
      simpa using hwv
    | succ j =>
      obtain rfl : z = (j : Int) := by have := hz.out; omega
      clear hz
      have hal : a.length = n - (j + 1) := by have := congrArg List.length heq; simp [dig_length] at this; omega
      have hll : (l ++ [UInt8.ofNat n] ++ a).length ≤ 140737488355100 := by simp; omega
      have hd := heq
      simp only [dig] at hd
      have HE := Lib.hid hd
      have HA := Lib.hid hal
      clear heq hal hd
      have hcell := hwv.at_
      have hlt := hwv.lt
      have hown := hwv.own
      obtain ⟨L, hL⟩ : ∃ L, l ++ [UInt8.ofNat n] ++ a = L := ⟨_, rfl⟩
      rw [hL] at hll hwv hown
      have HL := Lib.hid hL
      clear hL
      have hm1 : L.length + 1 ≤ maxLen := by unfold maxLen; omega
      have hs1 : (L.length + 1) * 1 ≤ 140737488355328 := by rw [Nat.mul_one]; omega
      have hj8 : (j : Int) ≤ 7 := by omega
      have hsh := shr_at x j (by omega)
      obtain ⟨d, hd⟩ : ∃ d, x / 256 ^ j = d := ⟨_, rfl⟩
      have hdl : d < 18446744073709551616 := by rw [← hd]; exact Nat.lt_of_le_of_lt (Nat.div_le_self _ _) hx
      rw [hd] at hsh
      have hcv := wrap8 d
      have HD := Lib.hid hd
      clear hd
      have hcd : wr.drew.cell? ⟨p, 0, none⟩ = some v' := hcell
      have hwvd : WV wr.drew p v' L := ⟨hwv.cell, hwv.own⟩
      have hstd : Step p v.ownBlock v'.ownBlock w1 wr.drew := ⟨hst.only.drew, hst.next⟩
      have hownd := hwvd.own
      go_wp2_with fail
      go_region_law (first
        | (refine step_append_lies _ rfl (.tmp 34) (.tmp 40) 103 rfl (p + 1) 5 i0 _ 1 1 Tryz.underlying103 hi0 hz0 hz1 hz2 rfl (by decide) v' L.length (vals L) rfl (hownd.alloc _)
             ⟨wr.heap.size, 0, none⟩ 1 1 [.int .u8 ((d : Int) % 256)] rfl rfl (cell_one_new _ _ _) (by simp [Value.oneCell']) (by decide) hm1 hs1 (by simp; omega) (wr.heap.size + 1) (by simp) ?_
           intro g' cap' w5 hown2 hg2 hat2 hlt2
           obtain ⟨hc2, hf2, hwv2, hst2⟩ := one_more (w := w1) (c := UInt8.ofNat (d % 256)) hwvd hstd (by simp) hown2 hg2 hat2 rfl
           clear hown2 hg2 hat2))
      all_goals go_wp2
      all_goals
        go_roundw
        case rel =>
          refine ⟨j, a ++ [UInt8.ofNat (d % 256)], .slice (some ⟨g', 0, none⟩) (L.length + 1) cap', _, by omega, rfl, Int.sub_add_cancel _ _, ?_, ?_, hst2⟩
          · have e := HL.out
            rw [← List.append_assoc, e]
            exact hwv2
          · have e := HE.out
            rw [HD.out] at e
            rw [← e]
            simp
        case measure => simp [intOf]
end Go.Proofs.YthaepkpmpnofgaaGreat.PckWalkA
namespace Go.Proofs.YthaepkpmpnofgaaGreat.PckWalkB
open Go.RowKit Go.Proofs.YthaepkpmpnofgaaGreat.Kit Go.Proofs.YthaepkpmpnofgaaGreat.Num Go.Proofs.YthaepkpmpnofgaaGreat.State Go.Proofs.YthaepkpmpnofgaaGreat.PckWalkA

/-- All bits turned about. -/
theorem not_nat (q : Nat) (h : q < 18446744073709551616) : 18446744073709551615 ^^^ q = 18446744073709551615 - q := by
  have e : (18446744073709551615 : Nat) = 2 ^ 64 - 1 := by decide
  apply Nat.eq_of_testBit_eq
  intro i
  have h2 : (2 ^ 64 - (q + 1)).testBit i = (decide (i < 64) && !q.testBit i) := Nat.testBit_two_pow_sub_succ (by simpa using h) i
  have e3 : 18446744073709551615 - q = 2 ^ 64 - (q + 1) := by rw [e]; omega
  rw [e3, h2, Nat.testBit_xor, e, Nat.testBit_two_pow_sub_one]
  by_cases hi : i < 64
  · simp [hi]
  · have : q.testBit i = false := Nat.testBit_lt_two_pow (Nat.lt_of_lt_of_le h (by rw [show (18446744073709551616 : Nat) = 2 ^ 64 by decide]; exact Nat.pow_le_pow_right (by decide) (by omega)))
    simp [hi, this]

theorem num_hid (p : Nat) (v : Value) (l r : List UInt8) (x : Nat) (w : World) (h : WV w p v l) (hx : x < 18446744073709551616) (hl : l.length ≤ 140737488355000) (hr : Hid (l ++ num x = r)) :
    Calls Tryz.prog 49 #[.pointer (some ⟨p, 0, none⟩), .int .u64 (x : Int)] w (Wrote p v.ownBlock r w) := by
  have := num_any p v l x w h hx hl
  rwa [hr.out] at this

theorem twice_pos {x : Int} (h0 : 0 ≤ x) : x * 2 = (twice x : Int) := by unfold twice; rw [if_pos h0]; omega
theorem twice_neg {x : Int} (h0 : x < 0) (h1 : -9223372036854775808 ≤ x) : bits .xor .u64 IntKind.u64.max (IntKind.u64.wrap (IntKind.u64.wrap x * 2)) = (twice x : Int) := by
  obtain ⟨q, hq⟩ : ∃ q : Nat, IntKind.u64.wrap (IntKind.u64.wrap x * 2) = (q : Int) := ⟨_, (Int.toNat_of_nonneg (by rw [IntKind.wrap_u64]; omega)).symm⟩
  have hql : q < 18446744073709551616 := by rw [IntKind.wrap_u64] at hq; omega
  have hm : IntKind.u64.max = ((18446744073709551615 : Nat) : Int) := by decide
  rw [hq, hm, u64_xor_nat _ _ (by decide) hql, not_nat q hql]
  rw [IntKind.wrap_u64, IntKind.wrap_u64] at hq
  unfold twice
  rw [if_neg (by omega)]
  omega


/-- A truth as a number. -/
def bit (b : Bool) : Nat := if b then 1 else 0

/-- A text's bytes. -/
def text (s : ByteArray) : List UInt8 := num s.size ++ s.data.toList
set_option maxRecDepth 100000 in
theorem text_any (p : Nat) (v : Value) (l : List UInt8) (s : ByteArray) (w : World) (h : WV w p v l) (hl : l.length + s.size ≤ 140737488355000) :
    Calls Tryz.prog 110 #[.pointer (some ⟨p, 0, none⟩), .string s] w (Wrote p v.ownBlock (l ++ text s) w) := by
  obtain ⟨i0, hi0, hz0, hz1, hz2⟩ := info_parts info8
  have hs64 : s.size < 18446744073709551616 := by omega
  have hsl : s.size ≤ 140737488355000 := by omega
  have h9 : (num s.size).length ≤ 9 := by rw [num_length]; have := wide_le8 hs64; omega
  obtain ⟨L, hL⟩ : ∃ L, l ++ num s.size = L := ⟨_, rfl⟩
  have hll : L.length ≤ l.length + 9 := by rw [← hL, List.length_append]; omega
  have HL := Lib.hid hL
  clear hL h9
  go_enter Tryz.func110, Tryz.ntmps110
  go_wp2_with fail
  refine (num_hid p v l L s.size _ h hs64 (by omega) HL).mono ?_
  rintro e w1 ⟨rfl, v1, hwv1, hst1⟩
  have hcell := hwv1.at_
  have hlt := hwv1.lt
  have hown := hwv1.own
  have hm1 : L.length + s.size ≤ maxLen := by unfold maxLen; omega
  have hs1 : L.length + s.size ≤ 140737488355328 := by omega
  go_wp2_with (first
    | (at_builtin
       refine wpList_append_text _ rfl (.tmp 16) (.tmp 17) _ _ rfl (p + 1) 5 i0 Tryz.underlying103 Tryz.underlying9 hi0 hz0 hz1 hz2 v1 L.length (vals L) rfl hown s rfl hm1 hs1 (by omega) ?_
       intro A c w2 hown2 hg2 hat2
       obtain ⟨hc2, hf2, hwv2, hst2⟩ := some_more (w := w) hwv1 hst1 hown2 (by simp) hg2 hat2
       clear hown2 hg2 hat2))
  go_ret
  refine ⟨rfl, _, ?_, hst2⟩
  unfold text
  rw [← List.append_assoc, HL.out]
  exact hwv2

set_option maxRecDepth 100000 in
theorem bytes_any (p : Nat) (v : Value) (l : List UInt8) (w : World) (h : WV w p v l) :
    Calls Tryz.prog 51 #[.pointer (some ⟨p, 0, none⟩)] w fun e w' => e = .returned (.string ⟨l.toArray⟩) ∧ w = w' := by
  have hcell := h.at_
  obtain ⟨A, c, rfl, _, _, hr⟩ := own_form h.own
  have hconv := run_string (P := Tryz.prog) 103 5 9 Tryz.underlying103 Tryz.underlying5 Tryz.underlying9 w _ A l.length c l hr
  clear hr
  go_enter Tryz.func51, Tryz.ntmps51
  go_wp2
  go_ret
  exact ⟨rfl, rfl⟩
end Go.Proofs.YthaepkpmpnofgaaGreat.PckWalkB
namespace Go.Proofs.YthaepkpmpnofgaaGreat.PckWalkC
open Go.RowKit Go.Proofs.YthaepkpmpnofgaaGreat.Kit Go.Proofs.YthaepkpmpnofgaaGreat.Num Go.Proofs.YthaepkpmpnofgaaGreat.State Go.Proofs.YthaepkpmpnofgaaGreat.PckWalkA

/-- The same of strings. -/
def frontB (s : ByteArray) : Nat := front s.data.toList
def gotB (s : ByteArray) : Nat := got s.data.toList
def restB (s : ByteArray) : ByteArray := if frontB s = 0 then ByteArray.empty else s.extract (frontB s) s.size

theorem one_byte (s : ByteArray) (h : s.size = 1) : s.data.toList = [s[0]] := by
  have hl : s.data.toList.length = 1 := by rw [← Lib.size_eq]; exact h
  have h0 := Lib.data_getElem? s 0 (by omega)
  match hs : s.data.toList, hl with
  | [a], _ => rw [hs] at h0; simpa using h0
theorem frontB_none {s : ByteArray} (h : s.size = 0) : frontB s = 0 := by
  have hl : s.data.toList.length = 0 := by rw [← Lib.size_eq]; exact h
  unfold frontB
  rw [List.eq_nil_of_length_eq_zero hl]
  rfl
theorem frontB_one {s : ByteArray} (h : s.size = 1) : frontB s = if s[0].toNat = 0 then 1 else 0 := by
  unfold frontB
  rw [one_byte s h]
  simp only [front, List.length_nil]
  by_cases h0 : s[0].toNat = 0
  · rw [if_neg (by simp; omega), if_pos h0]; omega
  · rw [if_pos (by omega), if_neg h0]
theorem frontB_more {s : ByteArray} (h : 2 ≤ s.size) : frontB s = if 8 < s[0].toNat ∨ s.size < 1 + s[0].toNat ∨ (0 < s[0].toNat ∧ s[1].toNat = 0) then 0 else 1 + s[0].toNat := by
  obtain ⟨tl, ht⟩ := Lib.two_bytes s h
  have hl : s.data.toList.length = s.size := (Lib.size_eq s).symm
  unfold frontB
  rw [ht] at hl ⊢
  simp only [List.length_cons] at hl
  have e : (s[1] = 0) ↔ s[1].toNat = 0 := by rw [← UInt8.toNat_inj]; rfl
  simp only [front, List.length_cons, List.head?_cons, Option.some.injEq, e]
  by_cases hc : 8 < s[0].toNat ∨ s.size < 1 + s[0].toNat ∨ (0 < s[0].toNat ∧ s[1].toNat = 0)
  · rw [if_pos hc, if_pos (by omega)]
  · rw [if_neg hc, if_neg (by omega)]; omega
theorem frontB_le (s : ByteArray) : frontB s ≤ s.size := by rw [Lib.size_eq]; exact front_le _
theorem frontB_le9 (s : ByteArray) : frontB s ≤ 9 := front_le9 _
theorem gotB_lt (s : ByteArray) : gotB s < 18446744073709551616 := got_lt _

theorem ret_int {k : IntKind} {a b : Int} (h : a = b) : Ending.returned (.int k a) = .returned (.int k b) := by rw [h]

set_option maxRecDepth 100000 in
theorem len_any (s : ByteArray) (w : World) (hs : s.size ≤ 9223372036854775807) :
    Calls Tryz.prog 93 #[.string s] w fun e w' => e = .returned (.int .i64 (frontB s)) ∧ w = w' := by
  rcases Nat.lt_or_ge s.size 2 with h2 | h2
  · rcases Nat.lt_or_ge s.size 1 with h1 | h1
    · have h0 : s.size = 0 := by omega
      have HF := Lib.hid (frontB_none h0)
      rw [HF.out]
      go_enter Tryz.func93, Tryz.ntmps93
      go_wp2
      go_ret
      exact ⟨rfl, rfl⟩
    · have h0 : s.size = 1 := by omega
      have hf := frontB_one h0
      by_cases hc : s[0].toNat = 0
      · rw [if_pos hc] at hf
        have HF := Lib.hid hf
        rw [HF.out]
        clear hf
        go_enter Tryz.func93, Tryz.ntmps93
        go_wp2
        go_ret
        exact ⟨rfl, rfl⟩
      · rw [if_neg hc] at hf
        have HF := Lib.hid hf
        rw [HF.out]
        clear hf
        go_enter Tryz.func93, Tryz.ntmps93
        go_wp2
        all_goals go_ret
        all_goals exact ⟨rfl, rfl⟩
  · have hf := frontB_more h2
    have hne : ¬ s = ByteArray.empty := fun e => by rw [e] at h2; simp at h2
    have hz : ((s.size : Int) == 0) = false := by simp; omega
    have hb1 := s[0].toNat_lt
    have HF := Lib.hid hf
    clear hf
    go_enter Tryz.func93, Tryz.ntmps93
    go_wp2
    all_goals
      go_ret
      refine ⟨ret_int ?_, rfl⟩
      rw [HF.out]
      simp only [beq_iff_eq, beq_eq_false_iff_ne, ne_eq] at *
      split <;> omega
end Go.Proofs.YthaepkpmpnofgaaGreat.PckWalkC
namespace Go.Proofs.YthaepkpmpnofgaaGreat.PckWalkD
open Go.RowKit Go.Proofs.YthaepkpmpnofgaaGreat.Kit Go.Proofs.YthaepkpmpnofgaaGreat.Num Go.Proofs.YthaepkpmpnofgaaGreat.State Go.Proofs.YthaepkpmpnofgaaGreat.PckWalkA Go.Proofs.YthaepkpmpnofgaaGreat.PckWalkC

/-- The program's reader. -/
abbrev R (w : World) (q : Nat) (s : ByteArray) (bad : Bool) : Prop := RV 131 w q s bad
abbrev TookR (q : Nat) (s : ByteArray) (bad : Bool) (r : Value) (w : World) (e : Ending) (w' : World) : Prop := Took 131 q s bad r w e w'

set_option maxRecDepth 100000 in
theorem from_any (s : ByteArray) (w : World) :
    Calls Tryz.prog 39 #[.string s] w fun e w' => e = .returned (.pointer (some ⟨w.heap.size, 0, none⟩)) ∧ R w' w.heap.size s false ∧ Below w.heap.size w w' := by
  go_enter Tryz.func39, Tryz.ntmps39
  go_wp2
  go_ret
  exact ⟨rfl, heap_alloc_new w _, (Below.refl _ _).alloc (Nat.le_refl _) _⟩

set_option maxRecDepth 100000 in
theorem fail_any (q : Nat) (s : ByteArray) (bad : Bool) (w : World) (h : R w q s bad) :
    Calls Tryz.prog 92 #[.pointer (some ⟨q, 0, none⟩)] w (TookR q ByteArray.empty true (.tuple #[]) w) := by
  have h0 := h.left
  have f0 := free_at h 0
  have h1 := h.flag
  have f1 := free_at h 1
  have hlt := h.lt
  have hr : R ((w.setCell ⟨q, 0, none⟩ (.string ByteArray.empty)).setCell ⟨q, 1, none⟩ (.bool true)) q ByteArray.empty true := (h.set0 _).set1 _
  have ho : Only (· = q) w ((w.setCell ⟨q, 0, none⟩ (.string ByteArray.empty)).setCell ⟨q, 1, none⟩ (.bool true)) := ((Only.refl (· = q) w).setCell (a := ⟨q, 0, none⟩) (.inr rfl) _).setCell (a := ⟨q, 1, none⟩) (.inr rfl) _
  go_enter Tryz.func92, Tryz.ntmps92
  go_wp2
  go_end0
  exact ⟨rfl, hr, ho⟩

theorem step_bits (v : Nat) (c : UInt8) (h : v < 72057594037927936) : bits .or .u64 ((v : Int) * 256) (c.toNat : Int) = ((256 * v + c.toNat : Nat) : Int) := by
  have hc := c.toNat_lt
  have e : (v : Int) * 256 = ((v * 256 : Nat) : Int) := by omega
  rw [e, u64_or_nat _ _ (by omega) (by omega), nat_join 8 (v * 256) c.toNat (by simp) (by simpa using hc), Nat.mul_comm]
theorem part_snoc (s : ByteArray) (k : Nat) (h1 : 1 ≤ k) (hk : k < s.size) : (s.data.toList.take (k + 1)).drop 1 = (s.data.toList.take k).drop 1 ++ [s[k]] := by
  have hl : s.data.toList.length = s.size := (Lib.size_eq s).symm
  rw [List.take_succ_eq_append_getElem (by omega), List.drop_append_of_le_length (by rw [List.length_take]; omega)]
  rfl
theorem part_lt (l : List UInt8) (k : Nat) (hk : k ≤ 8) : val ((l.take k).drop 1) < 72057594037927936 := by
  have h := val_lt ((l.take k).drop 1)
  have hl : ((l.take k).drop 1).length ≤ 7 := by simp; omega
  have := Nat.pow_le_pow_right (show 256 > 0 by decide) hl
  have e : (256 : Nat) ^ 7 = 72057594037927936 := by decide
  omega

set_option maxRecDepth 100000 in
theorem num_bad (q : Nat) (s : ByteArray) (bad : Bool) (w : World) (h : R w q s bad) (hs : s.size ≤ 9223372036854775807) (hf : frontB s = 0) :
    Calls Tryz.prog 62 #[.pointer (some ⟨q, 0, none⟩)] w (TookR q ByteArray.empty true (.int .u64 0) w) := by
  have h0 := h.left
  have hl := len_any s w hs
  rw [hf] at hl
  have HF := Lib.hid hf
  clear hf
  go_enter Tryz.func62, Tryz.ntmps62
  go_wp2_with fail
  refine hl.mono ?_
  rintro e w1 ⟨rfl, rfl⟩
  go_wp2_with fail
  refine (fail_any q s bad _ h).mono ?_
  rintro e w1 ⟨rfl, hr, ho⟩
  go_wp2
  go_ret
  exact ⟨rfl, hr, ho⟩

set_option maxRecDepth 100000 in
set_option maxHeartbeats 400000 in
theorem num_good (q : Nat) (s : ByteArray) (bad : Bool) (w : World) (h : R w q s bad) (hs : s.size ≤ 9223372036854775807) (hf : frontB s ≠ 0) :
    Calls Tryz.prog 62 #[.pointer (some ⟨q, 0, none⟩)] w (TookR q (s.extract (frontB s) s.size) bad (.int .u64 (gotB s)) w) := by
  have h0 := h.left
  have f0 := free_at h 0
  have hl := len_any s w hs
  have h9 := frontB_le9 s
  have hle := frontB_le s
  obtain ⟨g, hg⟩ : ∃ g, gotB s = g := ⟨_, rfl⟩
  have hgv : val ((s.data.toList.take (frontB s)).drop 1) = g := hg
  rw [hg]
  clear hg
  obtain ⟨n, hn⟩ : ∃ n, frontB s = n := ⟨_, rfl⟩
  rw [hn] at hf hl h9 hle hgv ⊢
  clear hn
  have hnz : ((n : Int) == 0) = false := by simp; omega
  have hr : R (w.setCell ⟨q, 0, none⟩ (.string (s.extract n s.size))) q (s.extract n s.size) bad := h.set0 _
  have ho : Only (· = q) w (w.setCell ⟨q, 0, none⟩ (.string (s.extract n s.size))) := (Only.refl (· = q) w).setCell (a := ⟨q, 0, none⟩) (.inr rfl) _
  have HG := Lib.hid hgv
  clear hgv
  go_enter Tryz.func62, Tryz.ntmps62
  go_wp2_with fail
  refine hl.mono ?_
  rintro e w1 ⟨rfl, rfl⟩
  clear hl
  go_wp2_with fail
  go_loop [4, 5] (fun x i => ∃ k v : Nat, 1 ≤ k ∧ k ≤ n ∧ i = .int .i64 k ∧ x = .int .u64 v ∧ Hid (v = val ((s.data.toList.take k).drop 1))) (fun _ i => n - (intOf i).toNat)
  case atStart => exact ⟨1, 0, Nat.le_refl _, by omega, rfl, rfl, by cases s.data.toList <;> rfl⟩
  case round =>
    obtain ⟨k, v, h1, hk, rfl, rfl, hv⟩ := hrel
    by_cases hkn : k < n
    · have hks : k < s.size := by omega
      have hvl : v < 72057594037927936 := by rw [hv.out]; exact part_lt _ _ (by omega)
      have hsn := part_snoc s k h1 hks
      have hst := step_bits v s[k] hvl
      have hbk := s[k].toNat_lt
      obtain ⟨v', hv'⟩ : ∃ v', 256 * v + s[k].toNat = v' := ⟨_, rfl⟩
      rw [hv'] at hst
      have HS : Hid (v' = val ((s.data.toList.take (k + 1)).drop 1)) := by
        show v' = _
        rw [hsn, val_snoc, ← hv.out, hv']
      clear hsn hv'
      go_wp2
      go_round
      case rel => exact ⟨k + 1, v', by omega, by omega, by go_num, rfl, HS⟩
      case measure => simp [intOf]; omega
    · have hkn' : k = n := by omega
      go_wp2
      go_ret
      refine ⟨?_, hr, ho⟩
      subst hkn'
      rw [hv.out, HG.out]
      rfl

/-- Whether it has failed behind a number. -/
def badB (s : ByteArray) (bad : Bool) : Bool := bad || decide (frontB s = 0)
theorem num_any (q : Nat) (s : ByteArray) (bad : Bool) (w : World) (h : R w q s bad) (hs : s.size ≤ 9223372036854775807) :
    Calls Tryz.prog 62 #[.pointer (some ⟨q, 0, none⟩)] w (TookR q (restB s) (badB s bad) (.int .u64 (gotB s)) w) := by
  by_cases hf : frontB s = 0
  · have h1 : gotB s = 0 := got_none hf
    have h2 : restB s = ByteArray.empty := by unfold restB; rw [if_pos hf]
    have h3 : badB s bad = true := by simp [badB, hf]
    rw [h1, h2, h3]
    exact num_bad q s bad w h hs hf
  · have h2 : restB s = s.extract (frontB s) s.size := by unfold restB; rw [if_neg hf]
    have h3 : badB s bad = bad := by simp [badB, hf]
    rw [h2, h3]
    exact num_good q s bad w h hs hf
theorem restB_le (s : ByteArray) : (restB s).size ≤ s.size := by
  unfold restB
  split
  · simp
  · rw [ByteArray.size_extract]; omega
end Go.Proofs.YthaepkpmpnofgaaGreat.PckWalkD
namespace Go.Proofs.YthaepkpmpnofgaaGreat.PckWalkE
open Go.RowKit Go.Proofs.YthaepkpmpnofgaaGreat.Kit Go.Proofs.YthaepkpmpnofgaaGreat.Num Go.Proofs.YthaepkpmpnofgaaGreat.State Go.Proofs.YthaepkpmpnofgaaGreat.PckWalkA Go.Proofs.YthaepkpmpnofgaaGreat.PckWalkC Go.Proofs.YthaepkpmpnofgaaGreat.PckWalkD

/-- A number that a reader gives, by a name. -/
theorem num_hid (q g : Nat) (s r : ByteArray) (bad b : Bool) (w : World) (h : R w q s bad) (hs : s.size ≤ 9223372036854775807) (hg : Hid (gotB s = g)) (hr : Hid (restB s = r)) (hb : Hid (badB s bad = b)) :
    Calls Tryz.prog 62 #[.pointer (some ⟨q, 0, none⟩)] w (TookR q r b (.int .u64 g) w) := by
  have := num_any q s bad w h hs
  rwa [hg.out, hr.out, hb.out] at this

theorem and_one (g : Nat) (h : g < 18446744073709551616) : bits .and .u64 (g : Int) 1 = ((g % 2 : Nat) : Int) := by
  have := u64_and_nat g 1 h (by decide)
  rw [nat_mask1] at this
  simpa using this
theorem half_even {g : Nat} (h : g % 2 = 0) : half g = (g : Int) / 2 := by unfold half; rw [if_pos h]; omega
theorem not_i64 (m : Nat) (hm : m < 9223372036854775808) : bits .xor .i64 (-1) (m : Int) = -(m : Int) - 1 := by
  show IntKind.i64.wrap ((BitVec.ofInt 64 (-1) ^^^ BitVec.ofInt 64 (m : Int)).toNat : Int) = _
  have e : (BitVec.ofInt 64 (-1)).toNat = 18446744073709551615 := by decide
  rw [BitVec.toNat_xor, ofInt_u64 m (by omega), e, PckWalkB.not_nat m (by omega)]
  have e2 : ((18446744073709551615 - m : Nat) : Int) = 18446744073709551615 - (m : Int) := by omega
  rw [e2, IntKind.wrap_i64]
  omega
theorem half_odd {g : Nat} (h : g % 2 = 1) : -((g : Int) / 2) - 1 = half g := by unfold half; rw [if_neg (by omega)]; omega


/-! ### Up to a limit -/
def upOk (s : ByteArray) (limit : Int) : Bool := decide (0 ≤ limit ∧ (gotB s : Int) ≤ limit)
def upV (s : ByteArray) (limit : Int) : Nat := if upOk s limit then gotB s else 0
def upR (s : ByteArray) (limit : Int) : ByteArray := if upOk s limit then restB s else ByteArray.empty
def upB (s : ByteArray) (bad : Bool) (limit : Int) : Bool := if upOk s limit then badB s bad else true
theorem upV_le (s : ByteArray) (limit : Int) : (upV s limit : Int) ≤ 9223372036854775807 ∨ 9223372036854775807 < limit := by
  unfold upV
  split
  · rename_i h
    unfold upOk at h
    simp only [decide_eq_true_eq] at h
    omega
  · left; decide
theorem upR_le (s : ByteArray) (limit : Int) : (upR s limit).size ≤ s.size := by
  unfold upR
  split
  · exact restB_le s
  · simp

set_option maxRecDepth 100000 in
set_option maxHeartbeats 400000 in
theorem up_any (q : Nat) (s : ByteArray) (bad : Bool) (limit : Int) (w : World) (h : R w q s bad) (hs : s.size ≤ 9223372036854775807) (hlim : limit ≤ 9223372036854775807) :
    Calls Tryz.prog 61 #[.pointer (some ⟨q, 0, none⟩), .int .i64 limit] w (TookR q (upR s limit) (upB s bad limit) (.int .i64 (upV s limit)) w) := by
  by_cases h0 : limit < 0
  · have hk : upOk s limit = false := by unfold upOk; simp; omega
    have e1 : upR s limit = ByteArray.empty := by simp [upR, hk]
    have e2 : upB s bad limit = true := by simp [upB, hk]
    have e3 : upV s limit = 0 := by simp [upV, hk]
    rw [e1, e2, e3]
    clear e1 e2 e3 hk
    go_enter Tryz.func61, Tryz.ntmps61
    go_wp2_with fail
    refine (num_any q s bad _ h hs).mono ?_
    rintro e w1 ⟨rfl, hr, ho⟩
    go_wp2_with fail
    refine (fail_any q _ _ _ hr).mono ?_
    rintro e w2 ⟨rfl, hr2, ho2⟩
    go_wp2
    go_ret
    exact ⟨rfl, hr2, ho.trans ho2⟩
  · have hn0 : 0 ≤ limit := by omega
    obtain ⟨g, hg⟩ : ∃ g, gotB s = g := ⟨_, rfl⟩
    by_cases hgt : limit < (g : Int)
    · have hk : upOk s limit = false := by unfold upOk; rw [hg]; simp; omega
      have e1 : upR s limit = ByteArray.empty := by simp [upR, hk]
      have e2 : upB s bad limit = true := by simp [upB, hk]
      have e3 : upV s limit = 0 := by simp [upV, hk]
      rw [e1, e2, e3]
      have HG := Lib.hid hg
      clear e1 e2 e3 hk hg
      go_enter Tryz.func61, Tryz.ntmps61
      go_wp2_with fail
      refine (num_hid q g s _ bad _ _ h hs HG rfl rfl).mono ?_
      rintro e w1 ⟨rfl, hr, ho⟩
      go_wp2_with fail
      refine (fail_any q _ _ _ hr).mono ?_
      rintro e w2 ⟨rfl, hr2, ho2⟩
      go_wp2
      go_ret
      exact ⟨rfl, hr2, ho.trans ho2⟩
    · have hle : (g : Int) ≤ limit := by omega
      have hk : upOk s limit = true := by unfold upOk; rw [hg]; simp; omega
      have e1 : upR s limit = restB s := by simp [upR, hk]
      have e2 : upB s bad limit = badB s bad := by simp [upB, hk]
      have e3 : upV s limit = g := by simp [upV, hk, hg]
      rw [e1, e2, e3]
      have HG := Lib.hid hg
      clear e1 e2 e3 hk hg
      go_enter Tryz.func61, Tryz.ntmps61
      go_wp2_with fail
      refine (num_hid q g s _ bad _ _ h hs HG rfl rfl).mono ?_
      rintro e w1 ⟨rfl, hr, ho⟩
      go_wp2
      go_ret
      exact ⟨rfl, hr, ho⟩

theorem up_hid (q n : Nat) (s r : ByteArray) (bad b : Bool) (limit : Int) (w : World) (h : R w q s bad) (hs : s.size ≤ 9223372036854775807) (hlim : limit ≤ 9223372036854775807) (hn : Hid (upV s limit = n)) (hr : Hid (upR s limit = r)) (hb : Hid (upB s bad limit = b)) :
    Calls Tryz.prog 61 #[.pointer (some ⟨q, 0, none⟩), .int .i64 limit] w (TookR q r b (.int .i64 n) w) := by
  have := up_any q s bad limit w h hs hlim
  rwa [hn.out, hr.out, hb.out] at this

/-- A truth. -/
def truth (s : ByteArray) : Bool := decide (upV s 1 = 1)
set_option maxRecDepth 100000 in
theorem bool_any (q : Nat) (s : ByteArray) (bad : Bool) (w : World) (h : R w q s bad) (hs : s.size ≤ 9223372036854775807) :
    Calls Tryz.prog 64 #[.pointer (some ⟨q, 0, none⟩)] w (TookR q (upR s 1) (upB s bad 1) (.bool (truth s)) w) := by
  obtain ⟨n, hn⟩ : ∃ n, upV s 1 = n := ⟨_, rfl⟩
  have ht : ((n : Int) == 1) = truth s := by
    unfold truth
    rw [hn, Bool.eq_iff_iff]
    simp
    omega
  have HN := Lib.hid hn
  clear hn
  go_enter Tryz.func64, Tryz.ntmps64
  go_wp2_with fail
  refine (up_hid q n s _ bad _ 1 _ h hs (by decide) HN rfl rfl).mono ?_
  rintro e w1 ⟨rfl, hr, ho⟩
  go_wp2
  go_ret
  exact ⟨rfl, hr, ho⟩

/-! ### A text -/
def textOk (s : ByteArray) (limit : Int) : Bool := decide (upV s limit ≤ (upR s limit).size)
def textV (s : ByteArray) (limit : Int) : ByteArray := if textOk s limit then (upR s limit).extract 0 (upV s limit) else ByteArray.empty
def textR (s : ByteArray) (limit : Int) : ByteArray := if textOk s limit then (upR s limit).extract (upV s limit) (upR s limit).size else ByteArray.empty
def textB (s : ByteArray) (bad : Bool) (limit : Int) : Bool := if textOk s limit then upB s bad limit else true
set_option maxRecDepth 100000 in
set_option maxHeartbeats 400000 in
theorem text_any (q : Nat) (s : ByteArray) (bad : Bool) (limit : Int) (w : World) (h : R w q s bad) (hs : s.size ≤ 281474976710656) (hlim : limit ≤ 9223372036854775807) :
    Calls Tryz.prog 94 #[.pointer (some ⟨q, 0, none⟩), .int .i64 limit] w (TookR q (textR s limit) (textB s bad limit) (.string (textV s limit)) w) := by
  have hrl := upR_le s limit
  obtain ⟨n, hn⟩ : ∃ n, upV s limit = n := ⟨_, rfl⟩
  obtain ⟨r, hr⟩ : ∃ r, upR s limit = r := ⟨_, rfl⟩
  obtain ⟨b, hb⟩ : ∃ b, upB s bad limit = b := ⟨_, rfl⟩
  by_cases hgt : r.size < n
  · have hk : textOk s limit = false := by unfold textOk; rw [hn, hr]; simp; omega
    have e1 : textR s limit = ByteArray.empty := by simp [textR, hk]
    have e2 : textB s bad limit = true := by simp [textB, hk]
    have e3 : textV s limit = ByteArray.empty := by simp [textV, hk]
    rw [e1, e2, e3]
    rw [hr] at hrl
    have HN := Lib.hid hn
    have HR := Lib.hid hr
    have HB := Lib.hid hb
    clear e1 e2 e3 hk hn hr hb
    go_enter Tryz.func94, Tryz.ntmps94
    go_wp2_with fail
    refine (up_hid q n s r bad b limit _ h (by omega) hlim HN HR HB).mono ?_
    rintro e w1 ⟨rfl, hr1, ho1⟩
    have h0 := hr1.left
    go_wp2_with fail
    refine (fail_any q _ _ _ hr1).mono ?_
    rintro e w2 ⟨rfl, hr2, ho2⟩
    go_wp2
    go_ret
    exact ⟨rfl, hr2, ho1.trans ho2⟩
  · have hle : n ≤ r.size := by omega
    have hk : textOk s limit = true := by unfold textOk; rw [hn, hr]; simpa using hle
    have e1 : textR s limit = r.extract n r.size := by simp [textR, hk, hn, hr]
    have e2 : textB s bad limit = b := by simp [textB, hk, hb]
    have e3 : textV s limit = r.extract 0 n := by simp [textV, hk, hn, hr]
    rw [e1, e2, e3]
    rw [hr] at hrl
    have hsz : (r.extract 0 n).size ≤ 281474976710656 := by rw [ByteArray.size_extract]; omega
    have HN := Lib.hid hn
    have HR := Lib.hid hr
    have HB := Lib.hid hb
    clear e1 e2 e3 hk hn hr hb
    go_enter Tryz.func94, Tryz.ntmps94
    go_wp2_with fail
    refine (up_hid q n s r bad b limit _ h (by omega) hlim HN HR HB).mono ?_
    rintro e w1 ⟨rfl, hr1, ho1⟩
    have h0 := hr1.left
    go_wp2_with fail
    refine (Shelf.clone_any _ _ hsz).mono ?_
    rintro e w2 ⟨rfl, hb2⟩
    have hr2 := hr1.below hb2
    have h2 := hr2.left
    have f2 := free_at hr2 0
    have ho2 := ho1.thenBelow hb2
    have hr3 : R (w2.setCell ⟨q, 0, none⟩ (.string (r.extract n r.size))) q (r.extract n r.size) b := hr2.set0 _
    have ho3 : Only (· = q) w (w2.setCell ⟨q, 0, none⟩ (.string (r.extract n r.size))) := ho2.setCell (a := ⟨q, 0, none⟩) (.inr rfl) _
    go_wp2
    go_ret
    exact ⟨rfl, hr3, ho3⟩
set_option maxRecDepth 100000 in
set_option maxHeartbeats 400000 in
theorem text_wide (q : Nat) (s : ByteArray) (bad : Bool) (limit : Int) (w : World) (h : R w q s bad) (hs : s.size ≤ 9223372036854775807) (hlim : limit ≤ 281474976710656) :
    Calls Tryz.prog 94 #[.pointer (some ⟨q, 0, none⟩), .int .i64 limit] w (TookR q (textR s limit) (textB s bad limit) (.string (textV s limit)) w) := by
  have hrl := upR_le s limit
  have hul : (upV s limit : Int) ≤ 281474976710656 := by
    unfold upV
    split
    · rename_i h
      unfold upOk at h
      simp only [decide_eq_true_eq] at h
      omega
    · decide
  obtain ⟨n, hn⟩ : ∃ n, upV s limit = n := ⟨_, rfl⟩
  rw [hn] at hul
  have HUL := Lib.hid hul
  clear hul
  obtain ⟨r, hr⟩ : ∃ r, upR s limit = r := ⟨_, rfl⟩
  obtain ⟨b, hb⟩ : ∃ b, upB s bad limit = b := ⟨_, rfl⟩
  by_cases hgt : r.size < n
  · have hk : textOk s limit = false := by unfold textOk; rw [hn, hr]; simp; omega
    have e1 : textR s limit = ByteArray.empty := by simp [textR, hk]
    have e2 : textB s bad limit = true := by simp [textB, hk]
    have e3 : textV s limit = ByteArray.empty := by simp [textV, hk]
    rw [e1, e2, e3]
    rw [hr] at hrl
    have HN := Lib.hid hn
    have HR := Lib.hid hr
    have HB := Lib.hid hb
    clear e1 e2 e3 hk hn hr hb
    go_enter Tryz.func94, Tryz.ntmps94
    go_wp2_with fail
    refine (up_hid q n s r bad b limit _ h (by omega) (by omega) HN HR HB).mono ?_
    rintro e w1 ⟨rfl, hr1, ho1⟩
    have h0 := hr1.left
    go_wp2_with fail
    refine (fail_any q _ _ _ hr1).mono ?_
    rintro e w2 ⟨rfl, hr2, ho2⟩
    go_wp2
    go_ret
    exact ⟨rfl, hr2, ho1.trans ho2⟩
  · have hle : n ≤ r.size := by omega
    have hk : textOk s limit = true := by unfold textOk; rw [hn, hr]; simpa using hle
    have e1 : textR s limit = r.extract n r.size := by simp [textR, hk, hn, hr]
    have e2 : textB s bad limit = b := by simp [textB, hk, hb]
    have e3 : textV s limit = r.extract 0 n := by simp [textV, hk, hn, hr]
    rw [e1, e2, e3]
    rw [hr] at hrl
    have hsz : (r.extract 0 n).size ≤ 281474976710656 := by rw [ByteArray.size_extract]; have := HUL.out; omega
    have HN := Lib.hid hn
    have HR := Lib.hid hr
    have HB := Lib.hid hb
    clear e1 e2 e3 hk hn hr hb
    go_enter Tryz.func94, Tryz.ntmps94
    go_wp2_with fail
    refine (up_hid q n s r bad b limit _ h (by omega) (by omega) HN HR HB).mono ?_
    rintro e w1 ⟨rfl, hr1, ho1⟩
    have h0 := hr1.left
    go_wp2_with fail
    refine (Shelf.clone_any _ _ hsz).mono ?_
    rintro e w2 ⟨rfl, hb2⟩
    have hr2 := hr1.below hb2
    have h2 := hr2.left
    have f2 := free_at hr2 0
    have ho2 := ho1.thenBelow hb2
    have hr3 : R (w2.setCell ⟨q, 0, none⟩ (.string (r.extract n r.size))) q (r.extract n r.size) b := hr2.set0 _
    have ho3 : Only (· = q) w (w2.setCell ⟨q, 0, none⟩ (.string (r.extract n r.size))) := ho2.setCell (a := ⟨q, 0, none⟩) (.inr rfl) _
    go_wp2
    go_ret
    exact ⟨rfl, hr3, ho3⟩

set_option maxRecDepth 100000 in
theorem left_any (q : Nat) (s : ByteArray) (bad : Bool) (w : World) (h : R w q s bad) :
    Calls Tryz.prog 81 #[.pointer (some ⟨q, 0, none⟩)] w (TookR q s bad (.tuple #[.int .i64 s.size, .bool (!bad)]) w) := by
  have h0 := h.left
  have h1 := h.flag
  go_enter Tryz.func81, Tryz.ntmps81
  go_wp2
  go_quiet (fail)
  go_wp2
  go_ret2
  exact ⟨rfl, h, (Only.refl _ _).drewN _⟩
set_option maxRecDepth 100000 in
theorem done_any (q : Nat) (s : ByteArray) (bad : Bool) (w : World) (h : R w q s bad) :
    Calls Tryz.prog 42 #[.pointer (some ⟨q, 0, none⟩)] w (TookR q s bad (.bool (decide (s.size = 0) && !bad)) w) := by
  obtain ⟨n, hn⟩ : ∃ n, s.size = n := ⟨_, rfl⟩
  have hd : ((n : Int) == 0) = decide (n = 0) := by
    rw [Bool.eq_iff_iff]
    simp
  have hl := left_any q s bad w h
  rw [hn] at hl ⊢
  clear hn
  by_cases h0 : n = 0
  · subst h0
    cases bad
    · go_enter Tryz.func42, Tryz.ntmps42
      go_wp2_with fail
      refine hl.mono ?_
      rintro e w1 ⟨rfl, hr, ho⟩
      go_wp2
      go_ret
      exact ⟨rfl, hr, ho⟩
    · go_enter Tryz.func42, Tryz.ntmps42
      go_wp2_with fail
      refine hl.mono ?_
      rintro e w1 ⟨rfl, hr, ho⟩
      go_wp2
      go_ret
      exact ⟨rfl, hr, ho⟩
  · have hz : ((n : Int) == 0) = false := by simp; omega
    have e : (decide (n = 0) && !bad) = false := by simp [h0]
    rw [e]
    clear e hd
    go_enter Tryz.func42, Tryz.ntmps42
    go_wp2_with fail
    refine hl.mono ?_
    rintro e w1 ⟨rfl, hr, ho⟩
    go_wp2
    go_ret
    exact ⟨rfl, hr, ho⟩
end Go.Proofs.YthaepkpmpnofgaaGreat.PckWalkE
namespace Go.Proofs.YthaepkpmpnofgaaGreat.PckWalkF
open Go.RowKit Go.Proofs.YthaepkpmpnofgaaGreat.Kit Go.Proofs.YthaepkpmpnofgaaGreat.Num Go.Proofs.YthaepkpmpnofgaaGreat.State Go.Proofs.YthaepkpmpnofgaaGreat.PckWalkA Go.Proofs.YthaepkpmpnofgaaGreat.PckWalkC Go.Proofs.YthaepkpmpnofgaaGreat.PckWalkD Go.Proofs.YthaepkpmpnofgaaGreat.PckWalkE

abbrev M (w : World) (q : Nat) (s : ByteArray) (bad : Bool) : Prop := RV 95 w q s bad
abbrev TookM (q : Nat) (s : ByteArray) (bad : Bool) (r : Value) (w : World) (e : Ending) (w' : World) : Prop := Took 95 q s bad r w e w'

set_option maxRecDepth 100000 in
theorem fail_any (q : Nat) (s : ByteArray) (bad : Bool) (w : World) (h : M w q s bad) :
    Calls Tryz.prog 84 #[.pointer (some ⟨q, 0, none⟩)] w (TookM q ByteArray.empty true (.tuple #[]) w) := by
  have h0 := h.left
  have f0 := free_at h 0
  have h1 := h.flag
  have f1 := free_at h 1
  have hlt := h.lt
  have hr : M ((w.setCell ⟨q, 0, none⟩ (.string ByteArray.empty)).setCell ⟨q, 1, none⟩ (.bool true)) q ByteArray.empty true := (h.set0 _).set1 _
  have ho : Only (· = q) w ((w.setCell ⟨q, 0, none⟩ (.string ByteArray.empty)).setCell ⟨q, 1, none⟩ (.bool true)) := ((Only.refl (· = q) w).setCell (a := ⟨q, 0, none⟩) (.inr rfl) _).setCell (a := ⟨q, 1, none⟩) (.inr rfl) _
  go_enter Tryz.func84, Tryz.ntmps84
  go_wp2
  go_end0
  exact ⟨rfl, hr, ho⟩

set_option maxRecDepth 100000 in
set_option maxHeartbeats 400000 in
theorem bad_none (q : Nat) (s : ByteArray) (bad : Bool) (w : World) (h : M w q s bad) (hz : s.size = 0) :
    Calls Tryz.prog 45 #[.pointer (some ⟨q, 0, none⟩)] w (TookM q ByteArray.empty true (.int .u64 0) w) := by
  have h0 := h.left
  go_enter Tryz.func45, Tryz.ntmps45
  go_wp2_with fail
  refine (fail_any q s bad _ h).mono ?_
  rintro e w1 ⟨rfl, hr, ho⟩
  go_wp2
  go_ret
  exact ⟨rfl, hr, ho⟩
set_option maxRecDepth 100000 in
set_option maxHeartbeats 400000 in
theorem bad_high (q c : Nat) (s : ByteArray) (bad : Bool) (w : World) (h : M w q s bad) (hz : 0 < s.size) (hc : s[0].toNat = c) (h8 : 8 < (c : Int)) (h255 : (c : Int) ≤ 255) :
    Calls Tryz.prog 45 #[.pointer (some ⟨q, 0, none⟩)] w (TookM q ByteArray.empty true (.int .u64 0) w) := by
  have h0 := h.left
  have hc0 : ¬ ((c : Int) < 0) := by omega
  go_enter Tryz.func45, Tryz.ntmps45
  go_wp2_with fail
  refine (fail_any q s bad _ h).mono ?_
  rintro e w1 ⟨rfl, hr, ho⟩
  go_wp2
  go_ret
  exact ⟨rfl, hr, ho⟩
set_option maxRecDepth 100000 in
set_option maxHeartbeats 400000 in
theorem bad_few (q c : Nat) (s : ByteArray) (bad : Bool) (w : World) (h : M w q s bad) (hz : 0 < s.size) (hc : s[0].toNat = c) (h8 : (c : Int) ≤ 8) (hf : (s.size : Int) < (c : Int) + 1) :
    Calls Tryz.prog 45 #[.pointer (some ⟨q, 0, none⟩)] w (TookM q ByteArray.empty true (.int .u64 0) w) := by
  have h0 := h.left
  have hc0 : ¬ ((c : Int) < 0) := by omega
  have hc8 : ¬ (8 < (c : Int)) := by omega
  go_enter Tryz.func45, Tryz.ntmps45
  go_wp2_with fail
  refine (fail_any q s bad _ h).mono ?_
  rintro e w1 ⟨rfl, hr, ho⟩
  go_wp2
  go_ret
  exact ⟨rfl, hr, ho⟩
set_option maxRecDepth 100000 in
set_option maxHeartbeats 400000 in
theorem bad_zero (q c : Nat) (s : ByteArray) (bad : Bool) (w : World) (h : M w q s bad) (hz : 1 < s.size) (hc : s[0].toNat = c) (h8 : (c : Int) ≤ 8) (hp : 0 < (c : Int)) (hf : ¬ (s.size : Int) < (c : Int) + 1) (h1 : s[1].toNat = 0) :
    Calls Tryz.prog 45 #[.pointer (some ⟨q, 0, none⟩)] w (TookM q ByteArray.empty true (.int .u64 0) w) := by
  have h0 := h.left
  have hc0 : ¬ ((c : Int) < 0) := by omega
  have hc8 : ¬ (8 < (c : Int)) := by omega
  have hz0 : 0 < s.size := by omega
  go_enter Tryz.func45, Tryz.ntmps45
  go_wp2_with fail
  refine (fail_any q s bad _ h).mono ?_
  rintro e w1 ⟨rfl, hr, ho⟩
  go_wp2
  go_ret
  exact ⟨rfl, hr, ho⟩
theorem num_bad (q : Nat) (s : ByteArray) (bad : Bool) (w : World) (h : M w q s bad) (hf : frontB s = 0) :
    Calls Tryz.prog 45 #[.pointer (some ⟨q, 0, none⟩)] w (TookM q ByteArray.empty true (.int .u64 0) w) := by
  by_cases h0 : s.size = 0
  · exact bad_none q s bad w h h0
  have hp : 0 < s.size := by omega
  have hb := s[0].toNat_lt
  by_cases h8 : 8 < s[0].toNat
  · exact bad_high q _ s bad w h hp rfl (by omega) (by omega)
  by_cases hl : s.size < s[0].toNat + 1
  · exact bad_few q _ s bad w h hp rfl (by omega) (by omega)
  by_cases h1 : s.size = 1
  · have := frontB_one h1
    rw [hf] at this
    split at this <;> omega
  have h2 : 2 ≤ s.size := by omega
  have := frontB_more h2
  rw [hf] at this
  split at this
  · rename_i hc
    exact bad_zero q _ s bad w h (by omega) rfl (by omega) (by omega) (by omega) (by omega)
  · omega

theorem step_sum (v : Nat) (c : UInt8) : (256 * (v : Int) + (c.toNat : Int)) = ((256 * v + c.toNat : Nat) : Int) := by omega

set_option maxRecDepth 100000 in
set_option maxHeartbeats 800000 in
theorem good_none (q : Nat) (s : ByteArray) (bad : Bool) (w : World) (h : M w q s bad) (hs : s.size ≤ 9223372036854775807) (hz : 0 < s.size) (hc : s[0].toNat = 0) :
    Calls Tryz.prog 45 #[.pointer (some ⟨q, 0, none⟩)] w (TookM q (s.extract 1 s.size) bad (.int .u64 0) w) := by
  have h0 := h.left
  have f0 := free_at h 0
  have hr : M (w.setCell ⟨q, 0, none⟩ (.string (s.extract 1 s.size))) q (s.extract 1 s.size) bad := h.set0 _
  have ho : Only (· = q) w (w.setCell ⟨q, 0, none⟩ (.string (s.extract 1 s.size))) := (Only.refl (· = q) w).setCell (a := ⟨q, 0, none⟩) (.inr rfl) _
  have hlt : ¬ ((s.size : Int) < 1) := by omega
  go_enter Tryz.func45, Tryz.ntmps45
  go_wp2
  refine wp_loop_rounds 1 ?_
  rw [rounds_succ]
  go_wp2
  go_ret
  exact ⟨rfl, hr, ho⟩

set_option maxRecDepth 100000 in
set_option maxHeartbeats 800000 in
theorem good_some (q n c : Nat) (s : ByteArray) (bad : Bool) (w : World) (h : M w q s bad) (hs : s.size ≤ 9223372036854775807) (hz : 1 < s.size) (hc : s[0].toNat = c) (h8 : (c : Int) ≤ 8) (hp : 0 < (c : Int)) (hf : ¬ (s.size : Int) < (c : Int) + 1)
    (h1 : ((s[1].toNat : Int) == 0) = false) (hn : Hid (n = c + 1)) :
    Calls Tryz.prog 45 #[.pointer (some ⟨q, 0, none⟩)] w (TookM q (s.extract n s.size) bad (.int .u64 (val ((s.data.toList.take n).drop 1) : Nat)) w) := by
  have h0 := h.left
  have f0 := free_at h 0
  have hr : M (w.setCell ⟨q, 0, none⟩ (.string (s.extract n s.size))) q (s.extract n s.size) bad := h.set0 _
  have ho : Only (· = q) w (w.setCell ⟨q, 0, none⟩ (.string (s.extract n s.size))) := (Only.refl (· = q) w).setCell (a := ⟨q, 0, none⟩) (.inr rfl) _
  have hc0 : ¬ ((c : Int) < 0) := by omega
  have hc8 : ¬ (8 < (c : Int)) := by omega
  have hz0 : 0 < s.size := by omega
  have hns : n ≤ s.size := by have := hn.out; omega
  obtain ⟨g, hg⟩ : ∃ g, val ((s.data.toList.take n).drop 1) = g := ⟨_, rfl⟩
  rw [hg]
  have HG := Lib.hid hg
  clear hg
  go_enter Tryz.func45, Tryz.ntmps45
  go_wp2
  go_loop [4, 5] (fun x i => ∃ k v : Nat, 1 ≤ k ∧ k ≤ n ∧ i = .int .i64 k ∧ x = .int .u64 v ∧ Hid (v = val ((s.data.toList.take k).drop 1))) (fun _ i => n - (intOf i).toNat)
  case atStart => exact ⟨1, 0, Nat.le_refl _, by have := hn.out; omega, rfl, rfl, by cases s.data.toList <;> rfl⟩
  case round =>
    obtain ⟨k, v, hk1, hk, rfl, rfl, hv⟩ := hrel
    by_cases hkn : k < n
    · have hks : k < s.size := by omega
      have hkc : (k : Int) ≤ (c : Int) := by have := hn.out; omega
      have hvl : v < 72057594037927936 := by rw [hv.out]; exact part_lt _ _ (by omega)
      have hsn := part_snoc s k hk1 hks
      have hst := step_sum v s[k]
      have hbk := s[k].toNat_lt
      obtain ⟨v', hv'⟩ : ∃ v', 256 * v + s[k].toNat = v' := ⟨_, rfl⟩
      rw [hv'] at hst
      have HS : Hid (v' = val ((s.data.toList.take (k + 1)).drop 1)) := by
        show v' = _
        rw [hsn, val_snoc, ← hv.out, hv']
      clear hsn hv'
      go_wp2
      go_round
      case rel => exact ⟨k + 1, v', by omega, by omega, by go_num, by go_num, HS⟩
      case measure => simp [intOf]; omega
    · have hkc : ¬ (k : Int) ≤ (c : Int) := by have := hn.out; omega
      have hkn' : (c : Int) + 1 = (n : Int) := by have := hn.out; omega
      go_wp2
      go_ret
      refine ⟨?_, hr, ho⟩
      have e : k = n := by omega
      subst e
      rw [hv.out, HG.out]
      rfl
theorem num_good (q : Nat) (s : ByteArray) (bad : Bool) (w : World) (h : M w q s bad) (hs : s.size ≤ 9223372036854775807) (hf : frontB s ≠ 0) :
    Calls Tryz.prog 45 #[.pointer (some ⟨q, 0, none⟩)] w (TookM q (s.extract (frontB s) s.size) bad (.int .u64 (gotB s)) w) := by
  have hp : 0 < s.size := by
    rcases Nat.eq_zero_or_pos s.size with e | e
    · exact absurd (frontB_none e) hf
    · exact e
  have hg : gotB s = val ((s.data.toList.take (frontB s)).drop 1) := rfl
  rw [hg]
  by_cases hc : s[0].toNat = 0
  · have e : frontB s = 1 := by
      by_cases h1 : s.size = 1
      · rw [frontB_one h1, if_pos hc]
      · rw [frontB_more (by omega), if_neg (by omega)]; omega
    rw [e]
    have e2 : val ((s.data.toList.take 1).drop 1) = 0 := by cases s.data.toList <;> rfl
    rw [e2]
    exact good_none q s bad w h hs hp hc
  · by_cases h1 : s.size = 1
    · exact absurd (by rw [frontB_one h1, if_neg hc]) hf
    · have e := frontB_more (s := s) (by omega)
      split at e
      · exact absurd e hf
      · rename_i hn
        rw [e]
        refine good_some q _ s[0].toNat s bad w h hs (by omega) rfl (by omega) (by omega) (by omega) ?_ (by show _ = _; omega)
        simp
        omega
theorem num_any (q : Nat) (s : ByteArray) (bad : Bool) (w : World) (h : M w q s bad) (hs : s.size ≤ 9223372036854775807) :
    Calls Tryz.prog 45 #[.pointer (some ⟨q, 0, none⟩)] w (TookM q (restB s) (badB s bad) (.int .u64 (gotB s)) w) := by
  by_cases hf : frontB s = 0
  · have h1 : gotB s = 0 := got_none hf
    have h2 : restB s = ByteArray.empty := by unfold restB; rw [if_pos hf]
    have h3 : badB s bad = true := by simp [badB, hf]
    rw [h1, h2, h3]
    exact num_bad q s bad w h hf
  · have h2 : restB s = s.extract (frontB s) s.size := by unfold restB; rw [if_neg hf]
    have h3 : badB s bad = bad := by simp [badB, hf]
    rw [h2, h3]
    exact num_good q s bad w h hs hf
end Go.Proofs.YthaepkpmpnofgaaGreat.PckWalkF
namespace Go.Proofs.YthaepkpmpnofgaaGreat.PckWalkG
open Go.RowKit Go.Proofs.YthaepkpmpnofgaaGreat.Kit Go.Proofs.YthaepkpmpnofgaaGreat.Num Go.Proofs.YthaepkpmpnofgaaGreat.State Go.Proofs.YthaepkpmpnofgaaGreat.PckWalkA Go.Proofs.YthaepkpmpnofgaaGreat.PckWalkC Go.Proofs.YthaepkpmpnofgaaGreat.PckWalkF
open Go.Proofs.YthaepkpmpnofgaaGreat.PckWalkD (badB restB_le part_lt)
open Go.Proofs.YthaepkpmpnofgaaGreat.PckWalkE (half_even half_odd upOk upV upR upB upV_le upR_le textOk textV textR textB)

/-- A number that a reader gives, by a name. -/
theorem num_hid (q g : Nat) (s r : ByteArray) (bad b : Bool) (w : World) (h : M w q s bad) (hs : s.size ≤ 9223372036854775807) (hg : Hid (gotB s = g)) (hr : Hid (restB s = r)) (hb : Hid (badB s bad = b)) :
    Calls Tryz.prog 45 #[.pointer (some ⟨q, 0, none⟩)] w (TookM q r b (.int .u64 g) w) := by
  have := num_any q s bad w h hs
  rwa [hg.out, hr.out, hb.out] at this



set_option maxRecDepth 100000 in
set_option maxHeartbeats 400000 in
theorem up_any (q : Nat) (s : ByteArray) (bad : Bool) (limit : Int) (w : World) (h : M w q s bad) (hs : s.size ≤ 9223372036854775807) (hlim : limit ≤ 9223372036854775807) :
    Calls Tryz.prog 44 #[.pointer (some ⟨q, 0, none⟩), .int .i64 limit] w (TookM q (upR s limit) (upB s bad limit) (.int .i64 (upV s limit)) w) := by
  by_cases h0 : limit < 0
  · have hk : upOk s limit = false := by unfold upOk; simp; omega
    have e1 : upR s limit = ByteArray.empty := by simp [upR, hk]
    have e2 : upB s bad limit = true := by simp [upB, hk]
    have e3 : upV s limit = 0 := by simp [upV, hk]
    rw [e1, e2, e3]
    clear e1 e2 e3 hk
    go_enter Tryz.func44, Tryz.ntmps44
    go_wp2_with fail
    refine (num_any q s bad _ h hs).mono ?_
    rintro e w1 ⟨rfl, hr, ho⟩
    go_wp2_with fail
    refine (fail_any q _ _ _ hr).mono ?_
    rintro e w2 ⟨rfl, hr2, ho2⟩
    go_wp2
    go_ret
    exact ⟨rfl, hr2, ho.trans ho2⟩
  · have hn0 : 0 ≤ limit := by omega
    obtain ⟨g, hg⟩ : ∃ g, gotB s = g := ⟨_, rfl⟩
    by_cases hgt : limit < (g : Int)
    · have hk : upOk s limit = false := by unfold upOk; rw [hg]; simp; omega
      have e1 : upR s limit = ByteArray.empty := by simp [upR, hk]
      have e2 : upB s bad limit = true := by simp [upB, hk]
      have e3 : upV s limit = 0 := by simp [upV, hk]
      rw [e1, e2, e3]
      have HG := Lib.hid hg
      clear e1 e2 e3 hk hg
      go_enter Tryz.func44, Tryz.ntmps44
      go_wp2_with fail
      refine (num_hid q g s _ bad _ _ h hs HG rfl rfl).mono ?_
      rintro e w1 ⟨rfl, hr, ho⟩
      go_wp2_with fail
      refine (fail_any q _ _ _ hr).mono ?_
      rintro e w2 ⟨rfl, hr2, ho2⟩
      go_wp2
      go_ret
      exact ⟨rfl, hr2, ho.trans ho2⟩
    · have hle : (g : Int) ≤ limit := by omega
      have hk : upOk s limit = true := by unfold upOk; rw [hg]; simp; omega
      have e1 : upR s limit = restB s := by simp [upR, hk]
      have e2 : upB s bad limit = badB s bad := by simp [upB, hk]
      have e3 : upV s limit = g := by simp [upV, hk, hg]
      rw [e1, e2, e3]
      have HG := Lib.hid hg
      clear e1 e2 e3 hk hg
      go_enter Tryz.func44, Tryz.ntmps44
      go_wp2_with fail
      refine (num_hid q g s _ bad _ _ h hs HG rfl rfl).mono ?_
      rintro e w1 ⟨rfl, hr, ho⟩
      go_wp2
      go_ret
      exact ⟨rfl, hr, ho⟩

theorem up_hid (q n : Nat) (s r : ByteArray) (bad b : Bool) (limit : Int) (w : World) (h : M w q s bad) (hs : s.size ≤ 9223372036854775807) (hlim : limit ≤ 9223372036854775807) (hn : Hid (upV s limit = n)) (hr : Hid (upR s limit = r)) (hb : Hid (upB s bad limit = b)) :
    Calls Tryz.prog 44 #[.pointer (some ⟨q, 0, none⟩), .int .i64 limit] w (TookM q r b (.int .i64 n) w) := by
  have := up_any q s bad limit w h hs hlim
  rwa [hn.out, hr.out, hb.out] at this


set_option maxRecDepth 100000 in
set_option maxHeartbeats 400000 in
theorem text_any (q : Nat) (s : ByteArray) (bad : Bool) (limit : Int) (w : World) (h : M w q s bad) (hs : s.size ≤ 281474976710656) (hlim : limit ≤ 9223372036854775807) :
    Calls Tryz.prog 85 #[.pointer (some ⟨q, 0, none⟩), .int .i64 limit] w (TookM q (textR s limit) (textB s bad limit) (.string (textV s limit)) w) := by
  have hrl := upR_le s limit
  obtain ⟨n, hn⟩ : ∃ n, upV s limit = n := ⟨_, rfl⟩
  obtain ⟨r, hr⟩ : ∃ r, upR s limit = r := ⟨_, rfl⟩
  obtain ⟨b, hb⟩ : ∃ b, upB s bad limit = b := ⟨_, rfl⟩
  by_cases hgt : r.size < n
  · have hk : textOk s limit = false := by unfold textOk; rw [hn, hr]; simp; omega
    have e1 : textR s limit = ByteArray.empty := by simp [textR, hk]
    have e2 : textB s bad limit = true := by simp [textB, hk]
    have e3 : textV s limit = ByteArray.empty := by simp [textV, hk]
    rw [e1, e2, e3]
    rw [hr] at hrl
    have HN := Lib.hid hn
    have HR := Lib.hid hr
    have HB := Lib.hid hb
    clear e1 e2 e3 hk hn hr hb
    go_enter Tryz.func85, Tryz.ntmps85
    go_wp2_with fail
    refine (up_hid q n s r bad b limit _ h (by omega) hlim HN HR HB).mono ?_
    rintro e w1 ⟨rfl, hr1, ho1⟩
    have h0 := hr1.left
    go_wp2_with fail
    refine (fail_any q _ _ _ hr1).mono ?_
    rintro e w2 ⟨rfl, hr2, ho2⟩
    go_wp2
    go_ret
    exact ⟨rfl, hr2, ho1.trans ho2⟩
  · have hle : n ≤ r.size := by omega
    have hk : textOk s limit = true := by unfold textOk; rw [hn, hr]; simpa using hle
    have e1 : textR s limit = r.extract n r.size := by simp [textR, hk, hn, hr]
    have e2 : textB s bad limit = b := by simp [textB, hk, hb]
    have e3 : textV s limit = r.extract 0 n := by simp [textV, hk, hn, hr]
    rw [e1, e2, e3]
    rw [hr] at hrl
    have HN := Lib.hid hn
    have HR := Lib.hid hr
    have HB := Lib.hid hb
    clear e1 e2 e3 hk hn hr hb
    go_enter Tryz.func85, Tryz.ntmps85
    go_wp2_with fail
    refine (up_hid q n s r bad b limit _ h (by omega) hlim HN HR HB).mono ?_
    rintro e w1 ⟨rfl, hr1, ho1⟩
    have h0 := hr1.left
    have f1 := free_at hr1 0
    have hr3 : M (w1.setCell ⟨q, 0, none⟩ (.string (r.extract n r.size))) q (r.extract n r.size) b := hr1.set0 _
    have ho3 : Only (· = q) w (w1.setCell ⟨q, 0, none⟩ (.string (r.extract n r.size))) := ho1.setCell (a := ⟨q, 0, none⟩) (.inr rfl) _
    go_wp2
    go_ret
    exact ⟨rfl, hr3, ho3⟩
set_option maxRecDepth 100000 in
set_option maxHeartbeats 400000 in
theorem text_wide (q : Nat) (s : ByteArray) (bad : Bool) (limit : Int) (w : World) (h : M w q s bad) (hs : s.size ≤ 9223372036854775807) (hlim : limit ≤ 281474976710656) :
    Calls Tryz.prog 85 #[.pointer (some ⟨q, 0, none⟩), .int .i64 limit] w (TookM q (textR s limit) (textB s bad limit) (.string (textV s limit)) w) := by
  have hrl := upR_le s limit
  have hul : (upV s limit : Int) ≤ 281474976710656 := by
    unfold upV
    split
    · rename_i h
      unfold upOk at h
      simp only [decide_eq_true_eq] at h
      omega
    · decide
  obtain ⟨n, hn⟩ : ∃ n, upV s limit = n := ⟨_, rfl⟩
  rw [hn] at hul
  have HUL := Lib.hid hul
  clear hul
  obtain ⟨r, hr⟩ : ∃ r, upR s limit = r := ⟨_, rfl⟩
  obtain ⟨b, hb⟩ : ∃ b, upB s bad limit = b := ⟨_, rfl⟩
  by_cases hgt : r.size < n
  · have hk : textOk s limit = false := by unfold textOk; rw [hn, hr]; simp; omega
    have e1 : textR s limit = ByteArray.empty := by simp [textR, hk]
    have e2 : textB s bad limit = true := by simp [textB, hk]
    have e3 : textV s limit = ByteArray.empty := by simp [textV, hk]
    rw [e1, e2, e3]
    rw [hr] at hrl
    have HN := Lib.hid hn
    have HR := Lib.hid hr
    have HB := Lib.hid hb
    clear e1 e2 e3 hk hn hr hb
    go_enter Tryz.func85, Tryz.ntmps85
    go_wp2_with fail
    refine (up_hid q n s r bad b limit _ h (by omega) (by omega) HN HR HB).mono ?_
    rintro e w1 ⟨rfl, hr1, ho1⟩
    have h0 := hr1.left
    go_wp2_with fail
    refine (fail_any q _ _ _ hr1).mono ?_
    rintro e w2 ⟨rfl, hr2, ho2⟩
    go_wp2
    go_ret
    exact ⟨rfl, hr2, ho1.trans ho2⟩
  · have hle : n ≤ r.size := by omega
    have hk : textOk s limit = true := by unfold textOk; rw [hn, hr]; simpa using hle
    have e1 : textR s limit = r.extract n r.size := by simp [textR, hk, hn, hr]
    have e2 : textB s bad limit = b := by simp [textB, hk, hb]
    have e3 : textV s limit = r.extract 0 n := by simp [textV, hk, hn, hr]
    rw [e1, e2, e3]
    rw [hr] at hrl
    have HN := Lib.hid hn
    have HR := Lib.hid hr
    have HB := Lib.hid hb
    clear e1 e2 e3 hk hn hr hb
    go_enter Tryz.func85, Tryz.ntmps85
    go_wp2_with fail
    refine (up_hid q n s r bad b limit _ h (by omega) (by omega) HN HR HB).mono ?_
    rintro e w1 ⟨rfl, hr1, ho1⟩
    have h0 := hr1.left
    have f1 := free_at hr1 0
    have hr3 : M (w1.setCell ⟨q, 0, none⟩ (.string (r.extract n r.size))) q (r.extract n r.size) b := hr1.set0 _
    have ho3 : Only (· = q) w (w1.setCell ⟨q, 0, none⟩ (.string (r.extract n r.size))) := ho1.setCell (a := ⟨q, 0, none⟩) (.inr rfl) _
    go_wp2
    go_ret
    exact ⟨rfl, hr3, ho3⟩

end Go.Proofs.YthaepkpmpnofgaaGreat.PckWalkG
namespace Go.Proofs.YthaepkpmpnofgaaGreat.PckWalkH
open Go.RowKit Go.Proofs.YthaepkpmpnofgaaGreat.Kit Go.Proofs.YthaepkpmpnofgaaGreat.Num Go.Proofs.YthaepkpmpnofgaaGreat.State Go.Proofs.YthaepkpmpnofgaaGreat.PckWalkA Go.Proofs.YthaepkpmpnofgaaGreat.PckWalkB

/-- A string of bytes. -/
def str (l : List UInt8) : ByteArray := ⟨l.toArray⟩
theorem str_list (l : List UInt8) : (str l).data.toList = l := by simp [str]
theorem str_back (s : ByteArray) : str s.data.toList = s := Lib.mk_data s
theorem str_size (l : List UInt8) : (str l).size = l.length := by rw [Lib.size_eq, str_list]
theorem str_append (a b : List UInt8) : str a ++ str b = str (a ++ b) := by
  apply ByteArray.ext
  rw [ByteArray.data_append]
  simp [str]
theorem conv_one (wr : World) (z : Int) (c : UInt8) (hz : z = (c.toNat : Int)) :
    (convert 103 9 (.slice (some ⟨wr.heap.size, 0, none⟩) 1 1)).run Tryz.prog (wr.alloc (.cells #[.int .u8 z] 5)) = .ok (.string (str [c])) (wr.alloc (.cells #[.int .u8 z] 5)) := by
  subst hz
  exact run_string (P := Tryz.prog) 103 5 9 Tryz.underlying103 Tryz.underlying5 Tryz.underlying9 _ _ _ 1 1 [c] (reads_one wr _ _)

/-- A call that makes a string. -/
def Said (w : World) (l : List UInt8) (e : Ending) (w' : World) : Prop := e = .returned (.string (str l)) ∧ Below w.heap.size w w'

set_option maxRecDepth 100000 in
set_option maxHeartbeats 400000 in
theorem num_any (x : Nat) (w : World) (hx : x < 18446744073709551616) :
    Calls Tryz.prog 78 #[.int .u64 (x : Int)] w (Said w (num x)) := by
  have h8 := wide_le8 hx
  go_enter Tryz.func78, Tryz.ntmps78
  go_wp2
  go_loopw [0, 3, 4] (fun v t i wr => ∃ k y : Nat, ∃ l : List UInt8, v = .int .u64 y ∧ t = .string (str l) ∧ i = .int .i64 k ∧ y < 18446744073709551616 ∧ k ≤ 8 ∧ Hid (y = x / 256 ^ k) ∧ Hid (l = dig k x) ∧ Hid (k + wide y = wide x) ∧ Below w.heap.size w wr)
    (fun v _ _ _ => (intOf v).toNat)
  case atStart => exact ⟨0, x, [], rfl, rfl, rfl, hx, by omega, by show x = _; simp, rfl, Nat.zero_add _, Below.refl _ _⟩
  case round =>
    obtain ⟨k, y, l, rfl, rfl, rfl, hyl, hk8, hy, hl, hw, hbel⟩ := hrel
    have hll : l.length = k := by rw [hl.out, dig_length]
    have hsz : ∀ c : UInt8, (str [c]).size + (str l).size ≤ 9223372036854775807 := fun c => by rw [str_size, str_size, hll]; simp; omega
    clear hll
    by_cases h0 : y = 0
    · subst h0
      have hkw : k = wide x := by have := hw.out; rw [wide_zero] at this; omega
      have hcv := conv_one wr (k : Int) (UInt8.ofNat k) (by simp; omega)
      have hs := hsz (UInt8.ofNat k)
      have HK := Lib.hid hkw
      clear hkw hsz
      go_wp2
      go_ret
      refine ⟨?_, hbel.alloc hbel.size _⟩
      have e : num x = [UInt8.ofNat k] ++ l := by unfold num; rw [← HK.out, ← hl.out]; rfl
      rw [e, ← str_append]
      rfl
    · have hy0 : 0 < (y : Int) := by omega
      have hcv := conv_one wr ((y : Int) % 256) (UInt8.ofNat (y % 256)) (by simp)
      have hs := hsz (UInt8.ofNat (y % 256))
      have hw1 := wide_pos y h0
      have HW1 := Lib.hid hw1
      clear hsz hw1
      go_wp2
      go_roundw
      case rel =>
        refine ⟨k + 1, y / 256, UInt8.ofNat (y % 256) :: l, by go_num, ?_, by go_num, by omega, by have := hw.out; have := HW1.out; omega, ?_, ?_, ?_, hbel.alloc hbel.size _⟩
        · rw [str_append]; rfl
        · show _ = _
          rw [hy.out, Nat.div_div_eq_div_mul, Nat.pow_succ]
        · show _ = _
          rw [hl.out, hy.out]
          rfl
        · show _ = _
          rw [← hw.out, HW1.out]
          omega
      case measure => simp [intOf]; omega


set_option maxRecDepth 100000 in
theorem text_any (s : ByteArray) (w : World) (hs : s.size ≤ 140737488355000) :
    Calls Tryz.prog 91 #[.string s] w (Said w (text s)) := by
  have hyl : s.size < 18446744073709551616 := by omega
  have h9 : (str (num s.size)).size + s.size ≤ 9223372036854775807 := by rw [str_size, num_length]; have := wide_le8 hyl; omega
  go_enter Tryz.func91, Tryz.ntmps91
  go_wp2_with fail
  refine (num_any s.size _ hyl).mono ?_
  rintro e w1 ⟨rfl, hb⟩
  go_wp2
  go_ret
  refine ⟨?_, hb⟩
  unfold text
  rw [← str_append, str_back]
  rfl
end Go.Proofs.YthaepkpmpnofgaaGreat.PckWalkH
