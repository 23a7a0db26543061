/- A reader of bytes: what it has left, whether it failed; what was laid is read, what was read had been laid: plain mathematics. No statement is proved here. -/
import Derived.Test.YthaepkpmpnofgaaHReads
set_option linter.unusedVariables false
set_option linter.unusedSimpArgs false
namespace Go.Proofs.Ythaepkpmpnofgaa.Rdr
open Go.RowKit Go.Proofs.Ythaepkpmpnofgaa.Kit Go.Proofs.Ythaepkpmpnofgaa.Num Go.Proofs.Ythaepkpmpnofgaa.Reads
open Go.Proofs.Ythaepkpmpnofgaa.PckWalkB (text bit)
open Go.Proofs.Ythaepkpmpnofgaa.PckWalkH (str str_list str_back str_size str_append)
open Go.Proofs.Ythaepkpmpnofgaa.PckWalkC (frontB gotB restB gotB_lt)
open Go.Proofs.Ythaepkpmpnofgaa.PckWalkD (badB restB_le)
open Go.Proofs.Ythaepkpmpnofgaa.PckWalkE (upOk upV upR upB textOk textV textR textB truth upR_le)

/-! ### A reader -/
structure Rd where
  s : ByteArray
  bad : Bool
def Rd.num (r : Rd) : Rd := ⟨restB r.s, badB r.s r.bad⟩
def Rd.up (r : Rd) (k : Int) : Rd := ⟨upR r.s k, upB r.s r.bad k⟩
def Rd.text (r : Rd) (k : Int) : Rd := ⟨textR r.s k, textB r.s r.bad k⟩
def Rd.done (r : Rd) : Bool := decide (r.s.size = 0) && !r.bad
theorem textR_le (s : ByteArray) (k : Int) : (textR s k).size ≤ s.size := by
  unfold textR
  split
  · have := upR_le s k
    rw [ByteArray.size_extract]; omega
  · simp
theorem Rd.num_le (r : Rd) : r.num.s.size ≤ r.s.size := restB_le _
theorem Rd.up_le (r : Rd) (k : Int) : (r.up k).s.size ≤ r.s.size := upR_le _ _
theorem Rd.text_le (r : Rd) (k : Int) : (r.text k).s.size ≤ r.s.size := textR_le _ _

/-! ### Forward: what was laid is read -/
theorem num_go {x : Nat} (h : x < 18446744073709551616) (r : List UInt8) (b : Bool) : Rd.num ⟨str (num x ++ r), b⟩ = ⟨str r, b⟩ := by
  unfold Rd.num
  rw [rest_laid h, bad_laid h]
theorem up_go {x : Nat} (h : x < 18446744073709551616) (r : List UInt8) (b : Bool) {k : Int} (hk : (x : Int) ≤ k) : Rd.up ⟨str (num x ++ r), b⟩ k = ⟨str r, b⟩ := by
  unfold Rd.up
  rw [upR_laid h r hk, upB_laid h r hk]
theorem text_go {s : ByteArray} (h : s.size < 18446744073709551616) (r : List UInt8) (b : Bool) {k : Int} (hk : (s.size : Int) ≤ k) : Rd.text ⟨str (text s ++ r), b⟩ k = ⟨str r, b⟩ := by
  unfold Rd.text
  rw [textR_laid h r hk, textB_laid h r hk]

/-! ### Backward: what was read had been laid -/
def Rd.l (r : Rd) : List UInt8 := r.s.data.toList
theorem Rd.eta (r : Rd) : r = ⟨str r.l, r.bad⟩ := by
  obtain ⟨s, b⟩ := r
  unfold Rd.l
  rw [str_back]
theorem num_back (r : Rd) (h : r.num.bad = false) : r.bad = false ∧ r.l = num (gotB r.s) ++ r.num.l := by
  obtain ⟨s, b⟩ := r
  obtain ⟨l, rfl⟩ : ∃ l, s = str l := ⟨_, (str_back s).symm⟩
  simp only [Rd.num, badB, Bool.or_eq_false_iff, decide_eq_false_iff_not] at h
  obtain ⟨hb, hf⟩ := h
  refine ⟨hb, ?_⟩
  have hf' : front l ≠ 0 := by unfold frontB at hf; rwa [str_list] at hf
  have h1 := num_got hf'
  unfold Rd.l Rd.num gotB
  simp only
  rw [restB_str, str_list, str_list, h1]
  unfold rest
  rw [if_neg hf', List.take_append_drop]
theorem up_back (r : Rd) (k : Int) (h : (r.up k).bad = false) : r.bad = false ∧ (upV r.s k : Int) ≤ k ∧ r.l = num (upV r.s k) ++ (r.up k).l := by
  simp only [Rd.up, upB] at h
  split at h
  · rename_i hk
    obtain ⟨h1, h2⟩ := num_back r h
    have hle : (gotB r.s : Int) ≤ k := by unfold upOk at hk; simpa using (of_decide_eq_true hk).2
    refine ⟨h1, ?_, ?_⟩
    · unfold upV; rw [if_pos hk]; exact hle
    · unfold upV
      rw [if_pos hk, h2]
      congr 1
      unfold Rd.l Rd.num Rd.up upR
      simp only
      rw [if_pos hk]
  · cases h
theorem text_back (r : Rd) (k : Int) (h : (r.text k).bad = false) : r.bad = false ∧ ((textV r.s k).size : Int) ≤ k ∧ r.l = text (textV r.s k) ++ (r.text k).l := by
  simp only [Rd.text, textB] at h
  split at h
  · rename_i hk
    obtain ⟨h1, h2, h3⟩ := up_back r k h
    have hle : upV r.s k ≤ (upR r.s k).size := by unfold textOk at hk; simpa using hk
    obtain ⟨l, hl⟩ : ∃ l, upR r.s k = str l := ⟨_, (str_back _).symm⟩
    rw [hl, str_size] at hle
    have hv : textV r.s k = str (l.take (upV r.s k)) := by unfold textV; rw [if_pos hk, hl, extract_str, List.drop_zero, Nat.sub_zero]
    have hr : textR r.s k = str (l.drop (upV r.s k)) := by unfold textR; rw [if_pos hk, hl, extract_str, str_size, List.take_of_length_le (by rw [List.length_drop]; omega)]
    have hsz : (textV r.s k).size = upV r.s k := by rw [hv, str_size, List.length_take]; omega
    refine ⟨h1, by rw [hsz]; exact h2, ?_⟩
    rw [h3]
    unfold text
    rw [hsz, List.append_assoc]
    congr 1
    unfold Rd.l Rd.up Rd.text
    simp only
    rw [hl, hv, hr, str_list, str_list, str_list, List.take_append_drop]
  · cases h
theorem upV_nat (s : ByteArray) {k : Int} (hk : 0 ≤ k) : (upV s k : Int) ≤ k := by
  unfold upV
  split
  · rename_i h
    unfold upOk at h
    simpa using (of_decide_eq_true h).2
  · simpa using hk
theorem textV_le (s : ByteArray) {k : Int} (hk : 0 ≤ k) : ((textV s k).size : Int) ≤ k := by
  have h := upV_nat s hk
  unfold textV
  split
  · rw [ByteArray.size_extract]; omega
  · simpa using hk
theorem upV_u64 (s : ByteArray) (k : Int) : upV s k < 18446744073709551616 := by
  unfold upV
  split
  · exact gotB_lt s
  · decide
theorem bit_lt (b : Bool) : bit b < 18446744073709551616 := by cases b <;> decide
theorem bit_le (b : Bool) : ((bit b : Nat) : Int) ≤ 1 := by cases b <;> decide
/-! ### Lengths -/
theorem num9 {x : Nat} (h : x < 18446744073709551616) : (num x).length ≤ 9 := by rw [num_length]; have := wide_le8 h; omega
theorem text_length (s : ByteArray) (h : s.size < 18446744073709551616) : (text s).length ≤ s.size + 9 := by
  have := num9 h
  unfold text
  rw [List.length_append, ← Lib.size_eq]
  omega
theorem num_pos (x : Nat) : 0 < (num x).length := by rw [num_length]; omega
end Go.Proofs.Ythaepkpmpnofgaa.Rdr
