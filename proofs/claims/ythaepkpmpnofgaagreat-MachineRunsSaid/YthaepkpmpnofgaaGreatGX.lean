/- A reader of bytes: what it has left, whether it failed; what was laid is read, what was read had been laid: plain mathematics. No statement is proved here. -/
import Derived.Test.YthaepkpmpnofgaaGreatGP
namespace Go.Proofs.YthaepkpmpnofgaaGreat.PckBegun
open Go.RowKit Go.Proofs.YthaepkpmpnofgaaGreat.Kit Go.Proofs.YthaepkpmpnofgaaGreat.Num Go.Proofs.YthaepkpmpnofgaaGreat.State Go.Proofs.YthaepkpmpnofgaaGreat.PckWalkA Go.Proofs.YthaepkpmpnofgaaGreat.PckWalkB Go.Proofs.YthaepkpmpnofgaaGreat.PckWalkC Go.Proofs.YthaepkpmpnofgaaGreat.PckWalkD Go.Proofs.YthaepkpmpnofgaaGreat.PckWalkE Go.Proofs.YthaepkpmpnofgaaGreat.PckWalkH

/-- A new writer. -/
theorem new_writer (w : World) : WV (w.alloc (.cells #[.slice none 0 0] 105)) w.heap.size (.slice none 0 0) [] :=
  ⟨heap_alloc_new w _, World.ownsRow_nil _ _ _ _⟩
theorem bytes_hid (p : Nat) (v : Value) (l : List UInt8) (s : ByteArray) (w : World) (h : WV w p v l) (hs : Hid (str l = s)) :
    Calls Tryz.prog 51 #[.pointer (some ⟨p, 0, none⟩)] w fun e w' => e = .returned (.string s) ∧ w = w' := by
  have := bytes_any p v l w h
  rw [← hs.out]
  exact this
theorem text_hid (q : Nat) (s v r : ByteArray) (bad b : Bool) (limit : Int) (w : World) (h : R w q s bad) (hs : s.size ≤ 281474976710656) (hlim : limit ≤ 9223372036854775807) (hv : Hid (textV s limit = v)) (hr : Hid (textR s limit = r)) (hb : Hid (textB s bad limit = b)) :
    Calls Tryz.prog 94 #[.pointer (some ⟨q, 0, none⟩), .int .i64 limit] w (TookR q r b (.string v) w) := by
  have := PckWalkE.text_any q s bad limit w h hs hlim
  rwa [hv.out, hr.out, hb.out] at this
theorem done_hid (q : Nat) (s : ByteArray) (bad b : Bool) (w : World) (h : R w q s bad) (hb : Hid ((decide (s.size = 0) && !bad) = b)) :
    Calls Tryz.prog 42 #[.pointer (some ⟨q, 0, none⟩)] w (TookR q s bad (.bool b) w) := by
  have := done_any q s bad w h
  rwa [hb.out] at this

def ab : ByteArray := ⟨#[97, 98]⟩
def known : ByteArray := ⟨#[2, 1, 44, 1, 2, 97, 98]⟩
theorem wide300 : wide 300 = 2 := wide_of (n := 1) (by decide) (by decide)
theorem wide2 : wide 2 = 1 := wide_of (n := 0) (by decide) (by decide)
theorem laid_known : str ([] ++ num 300 ++ text ab) = known := by
  unfold text num
  have e : ab.size = 2 := by decide
  rw [e, wide300, wide2]
  decide +kernel
theorem said_known : (known.toList == [2, 1, 44, 1, 2, 97, 98]) = true := by rw [Lib.toList_data]; decide
theorem said_ab : (ab.toList == [97, 98]) = true := by rw [Lib.toList_data]; decide
theorem got_known : gotB known = 300 := by decide +kernel
theorem rest_known : restB known = ⟨#[1, 2, 97, 98]⟩ := by decide +kernel
theorem bad_known : badB known false = false := by decide +kernel
theorem textV_known : textV ⟨#[1, 2, 97, 98]⟩ 2 = ab := by decide +kernel
theorem textR_known : textR ⟨#[1, 2, 97, 98]⟩ 2 = ByteArray.empty := by decide +kernel
theorem textB_known : textB ⟨#[1, 2, 97, 98]⟩ false 2 = false := by decide +kernel
theorem done_known : (decide (ByteArray.empty.size = 0) && !false) = true := by decide +kernel

end Go.Proofs.YthaepkpmpnofgaaGreat.PckBegun
namespace Go.Proofs.YthaepkpmpnofgaaGreat.PckLawB
open Go.RowKit Go.Proofs.YthaepkpmpnofgaaGreat.Kit Go.Proofs.YthaepkpmpnofgaaGreat.Num Go.Proofs.YthaepkpmpnofgaaGreat.State Go.Proofs.YthaepkpmpnofgaaGreat.PckWalkA Go.Proofs.YthaepkpmpnofgaaGreat.PckWalkB Go.Proofs.YthaepkpmpnofgaaGreat.PckWalkC Go.Proofs.YthaepkpmpnofgaaGreat.PckWalkD Go.Proofs.YthaepkpmpnofgaaGreat.PckWalkH Go.Proofs.YthaepkpmpnofgaaGreat.PckBegun

theorem bytesLess_less : ∀ l r : List UInt8, Op.bytesLess l r = less l r
  | [], [] => rfl
  | [], _ :: _ => rfl
  | _ :: _, [] => rfl
  | a :: l, b :: r => by
    simp only [Op.bytesLess, less, bytesLess_less l r]
    by_cases h1 : a < b
    · simp [h1]
    · by_cases h2 : b < a
      · have : ¬ a = b := fun e => by subst e; exact h1 h2
        simp [h1, h2, this]
      · have : a = b := by
          rw [UInt8.lt_iff_toNat_lt] at h1 h2
          exact UInt8.toNat_inj.1 (by omega)
        simp [this]
theorem less_str {a b : Nat} (ha : a < 18446744073709551616) (hb : b < 18446744073709551616) (U V : ByteArray) (hU : str ([] ++ num a) = U) (hV : str ([] ++ num b) = V) : Op.bytesLess U.toList V.toList = decide (a < b) := by
  subst hU hV
  rw [Lib.toList_data, Lib.toList_data, str_list, str_list, List.nil_append, List.nil_append, bytesLess_less, num_less ha hb]
theorem same_str {a b : Nat} (ha : a < 18446744073709551616) (hb : b < 18446744073709551616) (U V : ByteArray) (hU : str ([] ++ num a) = U) (hV : str ([] ++ num b) = V) : (U.toList == V.toList) = ((a : Int) == (b : Int)) := by
  subst hU hV
  rw [Lib.toList_data, Lib.toList_data, str_list, str_list, List.nil_append, List.nil_append, Bool.eq_iff_iff]
  simp only [beq_iff_eq]
  constructor
  · intro h; rw [num_inj ha hb h]
  · intro h; rw [show a = b by omega]
/-- What is read, laid again. -/
theorem again (s : ByteArray) (h : frontB s ≠ 0) : str ([] ++ num (gotB s)) = s.extract 0 (frontB s) := by
  rw [List.nil_append]
  unfold gotB
  rw [num_got h, Lib.extract_eq]
  rfl

theorem left_hid (q n : Nat) (s : ByteArray) (bad ok : Bool) (w : World) (h : R w q s bad) (hn : Hid (s.size = n)) (hb : Hid ((!bad) = ok)) :
    Calls Tryz.prog 81 #[.pointer (some ⟨q, 0, none⟩)] w (TookR q s bad (.tuple #[.int .i64 n, .bool ok]) w) := by
  have := PckWalkE.left_any q s bad w h
  rwa [hn.out, hb.out] at this

end Go.Proofs.YthaepkpmpnofgaaGreat.PckLawB
namespace Go.Proofs.YthaepkpmpnofgaaGreat.Reads
open Go.RowKit Go.Proofs.YthaepkpmpnofgaaGreat.Kit Go.Proofs.YthaepkpmpnofgaaGreat.Num Go.Proofs.YthaepkpmpnofgaaGreat.State Go.Proofs.YthaepkpmpnofgaaGreat.PckWalkA Go.Proofs.YthaepkpmpnofgaaGreat.PckWalkB Go.Proofs.YthaepkpmpnofgaaGreat.PckWalkC Go.Proofs.YthaepkpmpnofgaaGreat.PckWalkD Go.Proofs.YthaepkpmpnofgaaGreat.PckWalkE Go.Proofs.YthaepkpmpnofgaaGreat.PckWalkH

theorem extract_str (l : List UInt8) (a b : Nat) : (str l).extract a b = str ((l.drop a).take (b - a)) := by rw [Lib.extract_eq, str_list]; rfl
theorem restB_str (l : List UInt8) : restB (str l) = str (rest l) := by
  unfold restB rest frontB
  rw [str_list]
  split
  · rfl
  · rw [extract_str, List.take_of_length_le (by rw [List.length_drop, str_size]; omega)]
section
variable {x : Nat} (h : x < 18446744073709551616) (r : List UInt8)
include h
theorem got_laid : gotB (str (num x ++ r)) = x := by unfold gotB; rw [str_list]; exact got_num h r
theorem rest_laid : restB (str (num x ++ r)) = str r := by rw [restB_str, rest_num h]
theorem bad_laid (bad : Bool) : badB (str (num x ++ r)) bad = bad := by
  unfold badB frontB
  rw [str_list, front_num h]
  simp
theorem upOk_laid (limit : Int) : upOk (str (num x ++ r)) limit = decide ((x : Int) ≤ limit) := by
  unfold upOk
  rw [got_laid h r]
  congr 1
  simp
  omega
theorem upV_laid {limit : Int} (hl : (x : Int) ≤ limit) : upV (str (num x ++ r)) limit = x := by unfold upV; rw [upOk_laid h, if_pos (by simpa using hl), got_laid h]
theorem upR_laid {limit : Int} (hl : (x : Int) ≤ limit) : upR (str (num x ++ r)) limit = str r := by unfold upR; rw [upOk_laid h, if_pos (by simpa using hl), rest_laid h]
theorem upB_laid {limit : Int} (hl : (x : Int) ≤ limit) (bad : Bool) : upB (str (num x ++ r)) bad limit = bad := by unfold upB; rw [upOk_laid h, if_pos (by simpa using hl), bad_laid h]
theorem upV_over {limit : Int} (hl : limit < (x : Int)) : upV (str (num x ++ r)) limit = 0 := by unfold upV; rw [upOk_laid h, if_neg (by simp; omega)]
theorem upR_over {limit : Int} (hl : limit < (x : Int)) : upR (str (num x ++ r)) limit = ByteArray.empty := by unfold upR; rw [upOk_laid h, if_neg (by simp; omega)]
theorem upB_over {limit : Int} (hl : limit < (x : Int)) (bad : Bool) : upB (str (num x ++ r)) bad limit = true := by unfold upB; rw [upOk_laid h, if_neg (by simp; omega)]
end
section
variable {s : ByteArray} (h : s.size < 18446744073709551616) (r : List UInt8)
include h
theorem textOk_laid {limit : Int} (hl : (s.size : Int) ≤ limit) : textOk (str (text s ++ r)) limit = true := by
  unfold textOk text
  rw [List.append_assoc, upV_laid h _ hl, upR_laid h _ hl, str_size, List.length_append, ← Lib.size_eq]
  simp
theorem textV_laid {limit : Int} (hl : (s.size : Int) ≤ limit) : textV (str (text s ++ r)) limit = s := by
  unfold textV
  rw [textOk_laid h r hl, if_pos rfl]
  unfold text
  rw [List.append_assoc, upV_laid h _ hl, upR_laid h _ hl, extract_str, List.drop_zero, Nat.sub_zero, Lib.size_eq, List.take_left, str_back]
theorem textR_laid {limit : Int} (hl : (s.size : Int) ≤ limit) : textR (str (text s ++ r)) limit = str r := by
  unfold textR
  rw [textOk_laid h r hl, if_pos rfl]
  unfold text
  rw [List.append_assoc, upV_laid h _ hl, upR_laid h _ hl, extract_str, str_size, Lib.size_eq s, List.drop_left, List.take_of_length_le (by simp)]
theorem textB_laid {limit : Int} (hl : (s.size : Int) ≤ limit) (bad : Bool) : textB (str (text s ++ r)) bad limit = bad := by
  unfold textB
  rw [textOk_laid h r hl, if_pos rfl]
  unfold text
  rw [List.append_assoc, upB_laid h _ hl]
theorem textV_over {limit : Int} (hl : limit < (s.size : Int)) : textV (str (text s ++ r)) limit = ByteArray.empty := by
  unfold textV text
  rw [List.append_assoc, upV_over h _ hl, upR_over h _ hl]
  split
  · simp
  · rfl
theorem textR_over {limit : Int} (hl : limit < (s.size : Int)) : textR (str (text s ++ r)) limit = ByteArray.empty := by
  unfold textR text
  rw [List.append_assoc, upV_over h _ hl, upR_over h _ hl]
  split
  · simp
  · rfl
theorem textB_over {limit : Int} (hl : limit < (s.size : Int)) (bad : Bool) : textB (str (text s ++ r)) bad limit = true := by
  unfold textB text
  rw [List.append_assoc, upB_over h _ hl]
  split <;> rfl
end
theorem got_empty : gotB ByteArray.empty = 0 := by decide +kernel
theorem rest_empty : restB ByteArray.empty = ByteArray.empty := by decide +kernel
theorem bad_empty (bad : Bool) : badB ByteArray.empty bad = true := by
  have : frontB ByteArray.empty = 0 := by decide +kernel
  simp [badB, this]
theorem str_nil : str [] = ByteArray.empty := rfl
end Go.Proofs.YthaepkpmpnofgaaGreat.Reads
set_option linter.unusedVariables false
set_option linter.unusedSimpArgs false
namespace Go.Proofs.YthaepkpmpnofgaaGreat.Rdr
open Go.RowKit Go.Proofs.YthaepkpmpnofgaaGreat.Kit Go.Proofs.YthaepkpmpnofgaaGreat.Num Go.Proofs.YthaepkpmpnofgaaGreat.Reads
open Go.Proofs.YthaepkpmpnofgaaGreat.PckWalkB (text bit)
open Go.Proofs.YthaepkpmpnofgaaGreat.PckWalkH (str str_list str_back str_size str_append)
open Go.Proofs.YthaepkpmpnofgaaGreat.PckWalkC (frontB gotB restB gotB_lt)
open Go.Proofs.YthaepkpmpnofgaaGreat.PckWalkD (badB restB_le)
open Go.Proofs.YthaepkpmpnofgaaGreat.PckWalkE (upOk upV upR upB textOk textV textR textB truth upR_le)

/-! ### A reader -/
structure Rd where
  s : ByteArray
  bad : Bool
def Rd.num (r : Rd) : Rd := ⟨restB r.s, badB r.s r.bad⟩
def Rd.up (r : Rd) (k : Int) : Rd := ⟨upR r.s k, upB r.s r.bad k⟩
def Rd.text (r : Rd) (k : Int) : Rd := ⟨textR r.s k, textB r.s r.bad k⟩
def Rd.done (r : Rd) : Bool := decide (r.s.size = 0) && !r.bad
theorem textR_le (s : ByteArray) (k : Int) : (textR s k).size ≤ s.size := by
  unfold textR
  split
  · have := upR_le s k
    rw [ByteArray.size_extract]; omega
  · simp
theorem Rd.num_le (r : Rd) : r.num.s.size ≤ r.s.size := restB_le _
theorem Rd.up_le (r : Rd) (k : Int) : (r.up k).s.size ≤ r.s.size := upR_le _ _
theorem Rd.text_le (r : Rd) (k : Int) : (r.text k).s.size ≤ r.s.size := textR_le _ _

/-! ### Forward: what was laid is read -/
theorem num_go {x : Nat} (h : x < 18446744073709551616) (r : List UInt8) (b : Bool) : Rd.num ⟨str (num x ++ r), b⟩ = ⟨str r, b⟩ := by
  unfold Rd.num
  rw [rest_laid h, bad_laid h]
theorem up_go {x : Nat} (h : x < 18446744073709551616) (r : List UInt8) (b : Bool) {k : Int} (hk : (x : Int) ≤ k) : Rd.up ⟨str (num x ++ r), b⟩ k = ⟨str r, b⟩ := by
  unfold Rd.up
  rw [upR_laid h r hk, upB_laid h r hk]
theorem text_go {s : ByteArray} (h : s.size < 18446744073709551616) (r : List UInt8) (b : Bool) {k : Int} (hk : (s.size : Int) ≤ k) : Rd.text ⟨str (text s ++ r), b⟩ k = ⟨str r, b⟩ := by
  unfold Rd.text
  rw [textR_laid h r hk, textB_laid h r hk]

/-! ### Backward: what was read had been laid -/
def Rd.l (r : Rd) : List UInt8 := r.s.data.toList
theorem Rd.eta (r : Rd) : r = ⟨str r.l, r.bad⟩ := by
  obtain ⟨s, b⟩ := r
  unfold Rd.l
  rw [str_back]
theorem num_back (r : Rd) (h : r.num.bad = false) : r.bad = false ∧ r.l = num (gotB r.s) ++ r.num.l := by
  obtain ⟨s, b⟩ := r
  obtain ⟨l, rfl⟩ : ∃ l, s = str l := ⟨_, (str_back s).symm⟩
  simp only [Rd.num, badB, Bool.or_eq_false_iff, decide_eq_false_iff_not] at h
  obtain ⟨hb, hf⟩ := h
  refine ⟨hb, ?_⟩
  have hf' : front l ≠ 0 := by unfold frontB at hf; rwa [str_list] at hf
  have h1 := num_got hf'
  unfold Rd.l Rd.num gotB
  simp only
  rw [restB_str, str_list, str_list, h1]
  unfold rest
  rw [if_neg hf', List.take_append_drop]
theorem up_back (r : Rd) (k : Int) (h : (r.up k).bad = false) : r.bad = false ∧ (upV r.s k : Int) ≤ k ∧ r.l = num (upV r.s k) ++ (r.up k).l := by
  simp only [Rd.up, upB] at h
  split at h
  · rename_i hk
    obtain ⟨h1, h2⟩ := num_back r h
    have hle : (gotB r.s : Int) ≤ k := by unfold upOk at hk; simpa using (of_decide_eq_true hk).2
    refine ⟨h1, ?_, ?_⟩
    · unfold upV; rw [if_pos hk]; exact hle
    · unfold upV
      rw [if_pos hk, h2]
      congr 1
      unfold Rd.l Rd.num Rd.up upR
      simp only
      rw [if_pos hk]
  · cases h
theorem text_back (r : Rd) (k : Int) (h : (r.text k).bad = false) : r.bad = false ∧ ((textV r.s k).size : Int) ≤ k ∧ r.l = text (textV r.s k) ++ (r.text k).l := by
  simp only [Rd.text, textB] at h
  split at h
  · rename_i hk
    obtain ⟨h1, h2, h3⟩ := up_back r k h
    have hle : upV r.s k ≤ (upR r.s k).size := by unfold textOk at hk; simpa using hk
    obtain ⟨l, hl⟩ : ∃ l, upR r.s k = str l := ⟨_, (str_back _).symm⟩
    rw [hl, str_size] at hle
    have hv : textV r.s k = str (l.take (upV r.s k)) := by unfold textV; rw [if_pos hk, hl, extract_str, List.drop_zero, Nat.sub_zero]
    have hr : textR r.s k = str (l.drop (upV r.s k)) := by unfold textR; rw [if_pos hk, hl, extract_str, str_size, List.take_of_length_le (by rw [List.length_drop]; omega)]
    have hsz : (textV r.s k).size = upV r.s k := by rw [hv, str_size, List.length_take]; omega
    refine ⟨h1, by rw [hsz]; exact h2, ?_⟩
    rw [h3]
    unfold text
    rw [hsz, List.append_assoc]
    congr 1
    unfold Rd.l Rd.up Rd.text
    simp only
    rw [hl, hv, hr, str_list, str_list, str_list, List.take_append_drop]
  · cases h
theorem upV_nat (s : ByteArray) {k : Int} (hk : 0 ≤ k) : (upV s k : Int) ≤ k := by
  unfold upV
  split
  · rename_i h
    unfold upOk at h
    simpa using (of_decide_eq_true h).2
  · simpa using hk
theorem textV_le (s : ByteArray) {k : Int} (hk : 0 ≤ k) : ((textV s k).size : Int) ≤ k := by
  have h := upV_nat s hk
  unfold textV
  split
  · rw [ByteArray.size_extract]; omega
  · simpa using hk
theorem upV_u64 (s : ByteArray) (k : Int) : upV s k < 18446744073709551616 := by
  unfold upV
  split
  · exact gotB_lt s
  · decide
theorem bit_lt (b : Bool) : bit b < 18446744073709551616 := by cases b <;> decide
theorem bit_le (b : Bool) : ((bit b : Nat) : Int) ≤ 1 := by cases b <;> decide
/-! ### Lengths -/
theorem num9 {x : Nat} (h : x < 18446744073709551616) : (num x).length ≤ 9 := by rw [num_length]; have := wide_le8 h; omega
theorem text_length (s : ByteArray) (h : s.size < 18446744073709551616) : (text s).length ≤ s.size + 9 := by
  have := num9 h
  unfold text
  rw [List.length_append, ← Lib.size_eq]
  omega
theorem num_pos (x : Nat) : 0 < (num x).length := by rw [num_length]; omega
end Go.Proofs.YthaepkpmpnofgaaGreat.Rdr
