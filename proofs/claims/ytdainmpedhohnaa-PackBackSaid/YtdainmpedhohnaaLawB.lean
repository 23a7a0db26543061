/- The walk of the statement that a number has one form, and a greater one is no shorter. -/
import Derived.Test.YtdainmpedhohnaaBegun
namespace Go.Proofs.Ytdainmpedhohnaa.LawB
open Go.RowKit Go.Proofs.Ytdainmpedhohnaa.Kit Go.Proofs.Ytdainmpedhohnaa.Num Go.Proofs.Ytdainmpedhohnaa.State Go.Proofs.Ytdainmpedhohnaa.WalkA Go.Proofs.Ytdainmpedhohnaa.WalkB Go.Proofs.Ytdainmpedhohnaa.WalkC Go.Proofs.Ytdainmpedhohnaa.WalkD Go.Proofs.Ytdainmpedhohnaa.WalkH Go.Proofs.Ytdainmpedhohnaa.Begun

theorem bytesLess_less : ∀ l r : List UInt8, Op.bytesLess l r = less l r
  | [], [] => rfl
  | [], _ :: _ => rfl
  | _ :: _, [] => rfl
  | a :: l, b :: r => by
    simp only [Op.bytesLess, less, bytesLess_less l r]
    by_cases h1 : a < b
    · simp [h1]
    · by_cases h2 : b < a
      · have : ¬ a = b := fun e => by subst e; exact h1 h2
        simp [h1, h2, this]
      · have : a = b := by
          rw [UInt8.lt_iff_toNat_lt] at h1 h2
          exact UInt8.toNat_inj.1 (by omega)
        simp [this]
theorem less_str {a b : Nat} (ha : a < 18446744073709551616) (hb : b < 18446744073709551616) (U V : ByteArray) (hU : str ([] ++ num a) = U) (hV : str ([] ++ num b) = V) : Op.bytesLess U.toList V.toList = decide (a < b) := by
  subst hU hV
  rw [Lib.toList_data, Lib.toList_data, str_list, str_list, List.nil_append, List.nil_append, bytesLess_less, num_less ha hb]
theorem same_str {a b : Nat} (ha : a < 18446744073709551616) (hb : b < 18446744073709551616) (U V : ByteArray) (hU : str ([] ++ num a) = U) (hV : str ([] ++ num b) = V) : (U.toList == V.toList) = ((a : Int) == (b : Int)) := by
  subst hU hV
  rw [Lib.toList_data, Lib.toList_data, str_list, str_list, List.nil_append, List.nil_append, Bool.eq_iff_iff]
  simp only [beq_iff_eq]
  constructor
  · intro h; rw [num_inj ha hb h]
  · intro h; rw [show a = b by omega]
/-- What is read, laid again. -/
theorem again (s : ByteArray) (h : frontB s ≠ 0) : str ([] ++ num (gotB s)) = s.extract 0 (frontB s) := by
  rw [List.nil_append]
  unfold gotB
  rw [num_got h, Lib.extract_eq]
  rfl

theorem left_hid (q n : Nat) (s : ByteArray) (bad ok : Bool) (w : World) (h : R w q s bad) (hn : Hid (s.size = n)) (hb : Hid ((!bad) = ok)) :
    Calls Try.prog 28 #[.pointer (some ⟨q, 0, none⟩)] w (TookR q s bad (.tuple #[.int .i64 n, .bool ok]) w) := by
  have := WalkE.left_any q s bad w h
  rwa [hn.out, hb.out] at this

set_option maxRecDepth 100000 in
set_option maxHeartbeats 1000000 in
/-- Where there is none at the front. -/
theorem one_bad (s : ByteArray) (a b : Nat) (w : World) (hs : s.size ≤ 9223372036854775807) (ha : a < 18446744073709551616) (hb : b < 18446744073709551616) (hf : frontB s = 0) :
    Calls Try.prog 6 #[.string s, .int .u64 (a : Int), .int .u64 (b : Int)] w fun e w' => e = .returned (.bool true) ∧ Below w.heap.size w w' := by
  have hgot : gotB s = 0 := got_none hf
  have hrest : restB s = ByteArray.empty := by unfold restB; rw [if_pos hf]
  have hbad : badB s false = true := by simp [badB, hf]
  obtain ⟨U, hU⟩ : ∃ U, str ([] ++ num a) = U := ⟨_, rfl⟩
  obtain ⟨V, hV⟩ : ∃ V, str ([] ++ num b) = V := ⟨_, rfl⟩
  have hless := less_str ha hb U V hU hV
  have hsame := same_str ha hb U V hU hV
  obtain ⟨ls, hls⟩ : ∃ ls, decide (a < b) = ls := ⟨_, rfl⟩
  obtain ⟨sm, hsm⟩ : ∃ sm, ((a : Int) == (b : Int)) = sm := ⟨_, rfl⟩
  rw [hls] at hless
  rw [hsm] at hsame
  have HG := Lib.hid hgot
  have HR := Lib.hid hrest
  have HB := Lib.hid hbad
  have HF := Lib.hid hf
  have HU := Lib.hid hU
  have HV := Lib.hid hV
  clear hgot hrest hbad hU hV hf
  go_enter Try.func6, Try.ntmps6
  go_wp2_with fail
  refine (begun_true _).mono ?_
  rintro e w1 ⟨rfl, hb1⟩
  go_wp2_with fail
  refine (from_any s _).mono ?_
  rintro e w2 ⟨rfl, hr2, hb2⟩
  go_wp2_with fail
  refine (WalkE.num_hid _ 0 s _ false _ _ hr2 hs HG HR HB).mono ?_
  rintro e w3 ⟨rfl, hr3, ho3⟩
  go_wp2_with fail
  refine (left_hid _ 0 _ _ false _ hr3 rfl rfl).mono ?_
  rintro e w4 ⟨rfl, hr4, ho4⟩
  go_wp2_with fail
  have hB4 : Below w.heap.size w w4 := ((hb1.trans (hb2.mono hb1.size)).trans (ho3.below (Nat.le_trans hb1.size hb2.size) (by rintro k rfl; exact hb1.size))).trans (ho4.below (Nat.le_trans hb1.size (Nat.le_trans hb2.size ho3.size)) (by rintro k rfl; exact hb1.size))
  go_quiet (fail)
  have hB5 : Below w.heap.size w (w4.drewN nq) := ⟨hB4.os, hB4.tape, hB4.output, hB4.size, hB4.block⟩
  generalize w4.drewN nq = w5 at hB5 ⊢
  have hsz5 := hB5.size
  have hn5 := new_writer w5
  go_wp2_with fail
  refine (WalkA.num_any _ _ _ a _ hn5 ha (by decide)).mono ?_
  rintro e w6 ⟨rfl, v6, hw6, hs6⟩
  have hB6 : Below w.heap.size w w6 := (hB5.alloc hsz5 _).trans (hs6.below (by simp; omega) hsz5 (by simp [Value.ownBlock]))
  have hsz6 := hB6.size
  go_wp2_with fail
  refine (bytes_hid _ _ _ U _ hw6 HU).mono ?_
  rintro e w7 ⟨rfl, rfl⟩
  have hn6 := new_writer w6
  go_wp2_with fail
  refine (WalkA.num_any _ _ _ b _ hn6 hb (by decide)).mono ?_
  rintro e w7 ⟨rfl, v7, hw7, hs7⟩
  have hB7 : Below w.heap.size w w7 := (hB6.alloc hsz6 _).trans (hs7.below (by simp; omega) hsz6 (by simp [Value.ownBlock]))
  go_wp2_with fail
  refine (bytes_hid _ _ _ V _ hw7 HV).mono ?_
  rintro e w8 ⟨rfl, rfl⟩
  go_wp2
  go_ret
  exact ⟨rfl, hB7⟩
end Go.Proofs.Ytdainmpedhohnaa.LawB
