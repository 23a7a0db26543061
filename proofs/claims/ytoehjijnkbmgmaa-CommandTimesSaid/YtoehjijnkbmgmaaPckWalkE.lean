/- What a reader's other calls answer, walked: numbers with a sign, up to a limit, truths, texts, what is left. -/
import Derived.Test.YtoehjijnkbmgmaaPckWalkD
import Derived.Deep.QuietTactic
import Derived.BigQuiet
namespace Go.Proofs.Ytoehjijnkbmgmaa.PckWalkE
open Go.RowKit Go.Proofs.Ytoehjijnkbmgmaa.Kit Go.Proofs.Ytoehjijnkbmgmaa.Num Go.Proofs.Ytoehjijnkbmgmaa.State Go.Proofs.Ytoehjijnkbmgmaa.PckWalkA Go.Proofs.Ytoehjijnkbmgmaa.PckWalkC Go.Proofs.Ytoehjijnkbmgmaa.PckWalkD

/-- A number that a reader gives, by a name. -/
theorem num_hid (q g : Nat) (s r : ByteArray) (bad b : Bool) (w : World) (h : R w q s bad) (hs : s.size ≤ 9223372036854775807) (hg : Hid (gotB s = g)) (hr : Hid (restB s = r)) (hb : Hid (badB s bad = b)) :
    Calls Try.prog 35 #[.pointer (some ⟨q, 0, none⟩)] w (TookR q r b (.int .u64 g) w) := by
  have := num_any q s bad w h hs
  rwa [hg.out, hr.out, hb.out] at this

theorem and_one (g : Nat) (h : g < 18446744073709551616) : bits .and .u64 (g : Int) 1 = ((g % 2 : Nat) : Int) := by
  have := u64_and_nat g 1 h (by decide)
  rw [nat_mask1] at this
  simpa using this
theorem half_even {g : Nat} (h : g % 2 = 0) : half g = (g : Int) / 2 := by unfold half; rw [if_pos h]; omega
theorem not_i64 (m : Nat) (hm : m < 9223372036854775808) : bits .xor .i64 (-1) (m : Int) = -(m : Int) - 1 := by
  show IntKind.i64.wrap ((BitVec.ofInt 64 (-1) ^^^ BitVec.ofInt 64 (m : Int)).toNat : Int) = _
  have e : (BitVec.ofInt 64 (-1)).toNat = 18446744073709551615 := by decide
  rw [BitVec.toNat_xor, ofInt_u64 m (by omega), e, PckWalkB.not_nat m (by omega)]
  have e2 : ((18446744073709551615 - m : Nat) : Int) = 18446744073709551615 - (m : Int) := by omega
  rw [e2, IntKind.wrap_i64]
  omega
theorem half_odd {g : Nat} (h : g % 2 = 1) : -((g : Int) / 2) - 1 = half g := by unfold half; rw [if_neg (by omega)]; omega


/-! ### Up to a limit -/
def upOk (s : ByteArray) (limit : Int) : Bool := decide (0 ≤ limit ∧ (gotB s : Int) ≤ limit)
def upV (s : ByteArray) (limit : Int) : Nat := if upOk s limit then gotB s else 0
def upR (s : ByteArray) (limit : Int) : ByteArray := if upOk s limit then restB s else ByteArray.empty
def upB (s : ByteArray) (bad : Bool) (limit : Int) : Bool := if upOk s limit then badB s bad else true
theorem upV_le (s : ByteArray) (limit : Int) : (upV s limit : Int) ≤ 9223372036854775807 ∨ 9223372036854775807 < limit := by
  unfold upV
  split
  · rename_i h
    unfold upOk at h
    simp only [decide_eq_true_eq] at h
    omega
  · left; decide
theorem upR_le (s : ByteArray) (limit : Int) : (upR s limit).size ≤ s.size := by
  unfold upR
  split
  · exact restB_le s
  · simp

set_option maxRecDepth 100000 in
set_option maxHeartbeats 400000 in
theorem up_any (q : Nat) (s : ByteArray) (bad : Bool) (limit : Int) (w : World) (h : R w q s bad) (hs : s.size ≤ 9223372036854775807) (hlim : limit ≤ 9223372036854775807) :
    Calls Try.prog 34 #[.pointer (some ⟨q, 0, none⟩), .int .i64 limit] w (TookR q (upR s limit) (upB s bad limit) (.int .i64 (upV s limit)) w) := by
  by_cases h0 : limit < 0
  · have hk : upOk s limit = false := by unfold upOk; simp; omega
    have e1 : upR s limit = ByteArray.empty := by simp [upR, hk]
    have e2 : upB s bad limit = true := by simp [upB, hk]
    have e3 : upV s limit = 0 := by simp [upV, hk]
    rw [e1, e2, e3]
    clear e1 e2 e3 hk
    go_enter Try.func34, Try.ntmps34
    go_wp2_with fail
    refine (num_any q s bad _ h hs).mono ?_
    rintro e w1 ⟨rfl, hr, ho⟩
    go_wp2_with fail
    refine (fail_any q _ _ _ hr).mono ?_
    rintro e w2 ⟨rfl, hr2, ho2⟩
    go_wp2
    go_ret
    exact ⟨rfl, hr2, ho.trans ho2⟩
  · have hn0 : 0 ≤ limit := by omega
    obtain ⟨g, hg⟩ : ∃ g, gotB s = g := ⟨_, rfl⟩
    by_cases hgt : limit < (g : Int)
    · have hk : upOk s limit = false := by unfold upOk; rw [hg]; simp; omega
      have e1 : upR s limit = ByteArray.empty := by simp [upR, hk]
      have e2 : upB s bad limit = true := by simp [upB, hk]
      have e3 : upV s limit = 0 := by simp [upV, hk]
      rw [e1, e2, e3]
      have HG := Lib.hid hg
      clear e1 e2 e3 hk hg
      go_enter Try.func34, Try.ntmps34
      go_wp2_with fail
      refine (num_hid q g s _ bad _ _ h hs HG rfl rfl).mono ?_
      rintro e w1 ⟨rfl, hr, ho⟩
      go_wp2_with fail
      refine (fail_any q _ _ _ hr).mono ?_
      rintro e w2 ⟨rfl, hr2, ho2⟩
      go_wp2
      go_ret
      exact ⟨rfl, hr2, ho.trans ho2⟩
    · have hle : (g : Int) ≤ limit := by omega
      have hk : upOk s limit = true := by unfold upOk; rw [hg]; simp; omega
      have e1 : upR s limit = restB s := by simp [upR, hk]
      have e2 : upB s bad limit = badB s bad := by simp [upB, hk]
      have e3 : upV s limit = g := by simp [upV, hk, hg]
      rw [e1, e2, e3]
      have HG := Lib.hid hg
      clear e1 e2 e3 hk hg
      go_enter Try.func34, Try.ntmps34
      go_wp2_with fail
      refine (num_hid q g s _ bad _ _ h hs HG rfl rfl).mono ?_
      rintro e w1 ⟨rfl, hr, ho⟩
      go_wp2
      go_ret
      exact ⟨rfl, hr, ho⟩

theorem up_hid (q n : Nat) (s r : ByteArray) (bad b : Bool) (limit : Int) (w : World) (h : R w q s bad) (hs : s.size ≤ 9223372036854775807) (hlim : limit ≤ 9223372036854775807) (hn : Hid (upV s limit = n)) (hr : Hid (upR s limit = r)) (hb : Hid (upB s bad limit = b)) :
    Calls Try.prog 34 #[.pointer (some ⟨q, 0, none⟩), .int .i64 limit] w (TookR q r b (.int .i64 n) w) := by
  have := up_any q s bad limit w h hs hlim
  rwa [hn.out, hr.out, hb.out] at this

/-- A truth. -/
def truth (s : ByteArray) : Bool := decide (upV s 1 = 1)
set_option maxRecDepth 100000 in
theorem bool_any (q : Nat) (s : ByteArray) (bad : Bool) (w : World) (h : R w q s bad) (hs : s.size ≤ 9223372036854775807) :
    Calls Try.prog 37 #[.pointer (some ⟨q, 0, none⟩)] w (TookR q (upR s 1) (upB s bad 1) (.bool (truth s)) w) := by
  obtain ⟨n, hn⟩ : ∃ n, upV s 1 = n := ⟨_, rfl⟩
  have ht : ((n : Int) == 1) = truth s := by
    unfold truth
    rw [hn, Bool.eq_iff_iff]
    simp
    omega
  have HN := Lib.hid hn
  clear hn
  go_enter Try.func37, Try.ntmps37
  go_wp2_with fail
  refine (up_hid q n s _ bad _ 1 _ h hs (by decide) HN rfl rfl).mono ?_
  rintro e w1 ⟨rfl, hr, ho⟩
  go_wp2
  go_ret
  exact ⟨rfl, hr, ho⟩

/-! ### A text -/
def textOk (s : ByteArray) (limit : Int) : Bool := decide (upV s limit ≤ (upR s limit).size)
def textV (s : ByteArray) (limit : Int) : ByteArray := if textOk s limit then (upR s limit).extract 0 (upV s limit) else ByteArray.empty
def textR (s : ByteArray) (limit : Int) : ByteArray := if textOk s limit then (upR s limit).extract (upV s limit) (upR s limit).size else ByteArray.empty
def textB (s : ByteArray) (bad : Bool) (limit : Int) : Bool := if textOk s limit then upB s bad limit else true
set_option maxRecDepth 100000 in
set_option maxHeartbeats 400000 in
theorem text_any (q : Nat) (s : ByteArray) (bad : Bool) (limit : Int) (w : World) (h : R w q s bad) (hs : s.size ≤ 281474976710656) (hlim : limit ≤ 9223372036854775807) :
    Calls Try.prog 50 #[.pointer (some ⟨q, 0, none⟩), .int .i64 limit] w (TookR q (textR s limit) (textB s bad limit) (.string (textV s limit)) w) := by
  have hrl := upR_le s limit
  obtain ⟨n, hn⟩ : ∃ n, upV s limit = n := ⟨_, rfl⟩
  obtain ⟨r, hr⟩ : ∃ r, upR s limit = r := ⟨_, rfl⟩
  obtain ⟨b, hb⟩ : ∃ b, upB s bad limit = b := ⟨_, rfl⟩
  by_cases hgt : r.size < n
  · have hk : textOk s limit = false := by unfold textOk; rw [hn, hr]; simp; omega
    have e1 : textR s limit = ByteArray.empty := by simp [textR, hk]
    have e2 : textB s bad limit = true := by simp [textB, hk]
    have e3 : textV s limit = ByteArray.empty := by simp [textV, hk]
    rw [e1, e2, e3]
    rw [hr] at hrl
    have HN := Lib.hid hn
    have HR := Lib.hid hr
    have HB := Lib.hid hb
    clear e1 e2 e3 hk hn hr hb
    go_enter Try.func50, Try.ntmps50
    go_wp2_with fail
    refine (up_hid q n s r bad b limit _ h (by omega) hlim HN HR HB).mono ?_
    rintro e w1 ⟨rfl, hr1, ho1⟩
    have h0 := hr1.left
    go_wp2_with fail
    refine (fail_any q _ _ _ hr1).mono ?_
    rintro e w2 ⟨rfl, hr2, ho2⟩
    go_wp2
    go_ret
    exact ⟨rfl, hr2, ho1.trans ho2⟩
  · have hle : n ≤ r.size := by omega
    have hk : textOk s limit = true := by unfold textOk; rw [hn, hr]; simpa using hle
    have e1 : textR s limit = r.extract n r.size := by simp [textR, hk, hn, hr]
    have e2 : textB s bad limit = b := by simp [textB, hk, hb]
    have e3 : textV s limit = r.extract 0 n := by simp [textV, hk, hn, hr]
    rw [e1, e2, e3]
    rw [hr] at hrl
    have hsz : (r.extract 0 n).size ≤ 281474976710656 := by rw [ByteArray.size_extract]; omega
    have HN := Lib.hid hn
    have HR := Lib.hid hr
    have HB := Lib.hid hb
    clear e1 e2 e3 hk hn hr hb
    go_enter Try.func50, Try.ntmps50
    go_wp2_with fail
    refine (up_hid q n s r bad b limit _ h (by omega) hlim HN HR HB).mono ?_
    rintro e w1 ⟨rfl, hr1, ho1⟩
    have h0 := hr1.left
    go_wp2_with fail
    refine (Shelf.clone_any _ _ hsz).mono ?_
    rintro e w2 ⟨rfl, hb2⟩
    have hr2 := hr1.below hb2
    have h2 := hr2.left
    have f2 := free_at hr2 0
    have ho2 := ho1.thenBelow hb2
    have hr3 : R (w2.setCell ⟨q, 0, none⟩ (.string (r.extract n r.size))) q (r.extract n r.size) b := hr2.set0 _
    have ho3 : Only (· = q) w (w2.setCell ⟨q, 0, none⟩ (.string (r.extract n r.size))) := ho2.setCell (a := ⟨q, 0, none⟩) (.inr rfl) _
    go_wp2
    go_ret
    exact ⟨rfl, hr3, ho3⟩

set_option maxRecDepth 100000 in
theorem left_any (q : Nat) (s : ByteArray) (bad : Bool) (w : World) (h : R w q s bad) :
    Calls Try.prog 51 #[.pointer (some ⟨q, 0, none⟩)] w (TookR q s bad (.tuple #[.int .i64 s.size, .bool (!bad)]) w) := by
  have h0 := h.left
  have h1 := h.flag
  go_enter Try.func51, Try.ntmps51
  go_wp2
  go_quiet (fail)
  go_wp2
  go_ret2
  exact ⟨rfl, h, (Only.refl _ _).drewN _⟩
set_option maxRecDepth 100000 in
theorem done_any (q : Nat) (s : ByteArray) (bad : Bool) (w : World) (h : R w q s bad) :
    Calls Try.prog 38 #[.pointer (some ⟨q, 0, none⟩)] w (TookR q s bad (.bool (decide (s.size = 0) && !bad)) w) := by
  obtain ⟨n, hn⟩ : ∃ n, s.size = n := ⟨_, rfl⟩
  have hd : ((n : Int) == 0) = decide (n = 0) := by
    rw [Bool.eq_iff_iff]
    simp
  have hl := left_any q s bad w h
  rw [hn] at hl ⊢
  clear hn
  by_cases h0 : n = 0
  · subst h0
    cases bad
    · go_enter Try.func38, Try.ntmps38
      go_wp2_with fail
      refine hl.mono ?_
      rintro e w1 ⟨rfl, hr, ho⟩
      go_wp2
      go_ret
      exact ⟨rfl, hr, ho⟩
    · go_enter Try.func38, Try.ntmps38
      go_wp2_with fail
      refine hl.mono ?_
      rintro e w1 ⟨rfl, hr, ho⟩
      go_wp2
      go_ret
      exact ⟨rfl, hr, ho⟩
  · have hz : ((n : Int) == 0) = false := by simp; omega
    have e : (decide (n = 0) && !bad) = false := by simp [h0]
    rw [e]
    clear e hd
    go_enter Try.func38, Try.ntmps38
    go_wp2_with fail
    refine hl.mono ?_
    rintro e w1 ⟨rfl, hr, ho⟩
    go_wp2
    go_ret
    exact ⟨rfl, hr, ho⟩
end Go.Proofs.Ytoehjijnkbmgmaa.PckWalkE
