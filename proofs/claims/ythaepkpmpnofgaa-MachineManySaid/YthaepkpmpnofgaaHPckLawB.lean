/- The walk of the statement that a number has one form, and a greater one is no shorter. -/
import Derived.Test.YthaepkpmpnofgaaHPckBegun
namespace Go.Proofs.Ythaepkpmpnofgaa.PckLawB
open Go.RowKit Go.Proofs.Ythaepkpmpnofgaa.Kit Go.Proofs.Ythaepkpmpnofgaa.Num Go.Proofs.Ythaepkpmpnofgaa.State Go.Proofs.Ythaepkpmpnofgaa.PckWalkA Go.Proofs.Ythaepkpmpnofgaa.PckWalkB Go.Proofs.Ythaepkpmpnofgaa.PckWalkC Go.Proofs.Ythaepkpmpnofgaa.PckWalkD Go.Proofs.Ythaepkpmpnofgaa.PckWalkH Go.Proofs.Ythaepkpmpnofgaa.PckBegun

theorem bytesLess_less : ∀ l r : List UInt8, Op.bytesLess l r = less l r
  | [], [] => rfl
  | [], _ :: _ => rfl
  | _ :: _, [] => rfl
  | a :: l, b :: r => by
    simp only [Op.bytesLess, less, bytesLess_less l r]
    by_cases h1 : a < b
    · simp [h1]
    · by_cases h2 : b < a
      · have : ¬ a = b := fun e => by subst e; exact h1 h2
        simp [h1, h2, this]
      · have : a = b := by
          rw [UInt8.lt_iff_toNat_lt] at h1 h2
          exact UInt8.toNat_inj.1 (by omega)
        simp [this]
theorem less_str {a b : Nat} (ha : a < 18446744073709551616) (hb : b < 18446744073709551616) (U V : ByteArray) (hU : str ([] ++ num a) = U) (hV : str ([] ++ num b) = V) : Op.bytesLess U.toList V.toList = decide (a < b) := by
  subst hU hV
  rw [Lib.toList_data, Lib.toList_data, str_list, str_list, List.nil_append, List.nil_append, bytesLess_less, num_less ha hb]
theorem same_str {a b : Nat} (ha : a < 18446744073709551616) (hb : b < 18446744073709551616) (U V : ByteArray) (hU : str ([] ++ num a) = U) (hV : str ([] ++ num b) = V) : (U.toList == V.toList) = ((a : Int) == (b : Int)) := by
  subst hU hV
  rw [Lib.toList_data, Lib.toList_data, str_list, str_list, List.nil_append, List.nil_append, Bool.eq_iff_iff]
  simp only [beq_iff_eq]
  constructor
  · intro h; rw [num_inj ha hb h]
  · intro h; rw [show a = b by omega]
/-- What is read, laid again. -/
theorem again (s : ByteArray) (h : frontB s ≠ 0) : str ([] ++ num (gotB s)) = s.extract 0 (frontB s) := by
  rw [List.nil_append]
  unfold gotB
  rw [num_got h, Lib.extract_eq]
  rfl

theorem left_hid (q n : Nat) (s : ByteArray) (bad ok : Bool) (w : World) (h : R w q s bad) (hn : Hid (s.size = n)) (hb : Hid ((!bad) = ok)) :
    Calls Try.prog 47 #[.pointer (some ⟨q, 0, none⟩)] w (TookR q s bad (.tuple #[.int .i64 n, .bool ok]) w) := by
  have := PckWalkE.left_any q s bad w h
  rwa [hn.out, hb.out] at this

end Go.Proofs.Ythaepkpmpnofgaa.PckLawB
