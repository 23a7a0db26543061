/- What is laid is read as it was: the plain facts. No statement is proved here. -/
import Derived.Test.YthaepkpmpnofgaaHPckLawB
namespace Go.Proofs.Ythaepkpmpnofgaa.Reads
open Go.RowKit Go.Proofs.Ythaepkpmpnofgaa.Kit Go.Proofs.Ythaepkpmpnofgaa.Num Go.Proofs.Ythaepkpmpnofgaa.State Go.Proofs.Ythaepkpmpnofgaa.PckWalkA Go.Proofs.Ythaepkpmpnofgaa.PckWalkB Go.Proofs.Ythaepkpmpnofgaa.PckWalkC Go.Proofs.Ythaepkpmpnofgaa.PckWalkD Go.Proofs.Ythaepkpmpnofgaa.PckWalkE Go.Proofs.Ythaepkpmpnofgaa.PckWalkH

theorem extract_str (l : List UInt8) (a b : Nat) : (str l).extract a b = str ((l.drop a).take (b - a)) := by rw [Lib.extract_eq, str_list]; rfl
theorem restB_str (l : List UInt8) : restB (str l) = str (rest l) := by
  unfold restB rest frontB
  rw [str_list]
  split
  · rfl
  · rw [extract_str, List.take_of_length_le (by rw [List.length_drop, str_size]; omega)]
section
variable {x : Nat} (h : x < 18446744073709551616) (r : List UInt8)
include h
theorem got_laid : gotB (str (num x ++ r)) = x := by unfold gotB; rw [str_list]; exact got_num h r
theorem rest_laid : restB (str (num x ++ r)) = str r := by rw [restB_str, rest_num h]
theorem bad_laid (bad : Bool) : badB (str (num x ++ r)) bad = bad := by
  unfold badB frontB
  rw [str_list, front_num h]
  simp
theorem upOk_laid (limit : Int) : upOk (str (num x ++ r)) limit = decide ((x : Int) ≤ limit) := by
  unfold upOk
  rw [got_laid h r]
  congr 1
  simp
  omega
theorem upV_laid {limit : Int} (hl : (x : Int) ≤ limit) : upV (str (num x ++ r)) limit = x := by unfold upV; rw [upOk_laid h, if_pos (by simpa using hl), got_laid h]
theorem upR_laid {limit : Int} (hl : (x : Int) ≤ limit) : upR (str (num x ++ r)) limit = str r := by unfold upR; rw [upOk_laid h, if_pos (by simpa using hl), rest_laid h]
theorem upB_laid {limit : Int} (hl : (x : Int) ≤ limit) (bad : Bool) : upB (str (num x ++ r)) bad limit = bad := by unfold upB; rw [upOk_laid h, if_pos (by simpa using hl), bad_laid h]
theorem upV_over {limit : Int} (hl : limit < (x : Int)) : upV (str (num x ++ r)) limit = 0 := by unfold upV; rw [upOk_laid h, if_neg (by simp; omega)]
theorem upR_over {limit : Int} (hl : limit < (x : Int)) : upR (str (num x ++ r)) limit = ByteArray.empty := by unfold upR; rw [upOk_laid h, if_neg (by simp; omega)]
theorem upB_over {limit : Int} (hl : limit < (x : Int)) (bad : Bool) : upB (str (num x ++ r)) bad limit = true := by unfold upB; rw [upOk_laid h, if_neg (by simp; omega)]
end
section
variable {s : ByteArray} (h : s.size < 18446744073709551616) (r : List UInt8)
include h
theorem textOk_laid {limit : Int} (hl : (s.size : Int) ≤ limit) : textOk (str (text s ++ r)) limit = true := by
  unfold textOk text
  rw [List.append_assoc, upV_laid h _ hl, upR_laid h _ hl, str_size, List.length_append, ← Lib.size_eq]
  simp
theorem textV_laid {limit : Int} (hl : (s.size : Int) ≤ limit) : textV (str (text s ++ r)) limit = s := by
  unfold textV
  rw [textOk_laid h r hl, if_pos rfl]
  unfold text
  rw [List.append_assoc, upV_laid h _ hl, upR_laid h _ hl, extract_str, List.drop_zero, Nat.sub_zero, Lib.size_eq, List.take_left, str_back]
theorem textR_laid {limit : Int} (hl : (s.size : Int) ≤ limit) : textR (str (text s ++ r)) limit = str r := by
  unfold textR
  rw [textOk_laid h r hl, if_pos rfl]
  unfold text
  rw [List.append_assoc, upV_laid h _ hl, upR_laid h _ hl, extract_str, str_size, Lib.size_eq s, List.drop_left, List.take_of_length_le (by simp)]
theorem textB_laid {limit : Int} (hl : (s.size : Int) ≤ limit) (bad : Bool) : textB (str (text s ++ r)) bad limit = bad := by
  unfold textB
  rw [textOk_laid h r hl, if_pos rfl]
  unfold text
  rw [List.append_assoc, upB_laid h _ hl]
theorem textV_over {limit : Int} (hl : limit < (s.size : Int)) : textV (str (text s ++ r)) limit = ByteArray.empty := by
  unfold textV text
  rw [List.append_assoc, upV_over h _ hl, upR_over h _ hl]
  split
  · simp
  · rfl
theorem textR_over {limit : Int} (hl : limit < (s.size : Int)) : textR (str (text s ++ r)) limit = ByteArray.empty := by
  unfold textR text
  rw [List.append_assoc, upV_over h _ hl, upR_over h _ hl]
  split
  · simp
  · rfl
theorem textB_over {limit : Int} (hl : limit < (s.size : Int)) (bad : Bool) : textB (str (text s ++ r)) bad limit = true := by
  unfold textB text
  rw [List.append_assoc, upB_over h _ hl]
  split <;> rfl
end
theorem got_empty : gotB ByteArray.empty = 0 := by decide +kernel
theorem rest_empty : restB ByteArray.empty = ByteArray.empty := by decide +kernel
theorem bad_empty (bad : Bool) : badB ByteArray.empty bad = true := by
  have : frontB ByteArray.empty = 0 := by decide +kernel
  simp [badB, this]
theorem str_nil : str [] = ByteArray.empty := rfl
end Go.Proofs.Ythaepkpmpnofgaa.Reads
