/- What the document's own reader answers, walked: numbers with a sign, up to a limit, texts. -/
import Derived.Test.YtoehjijnkbmgmaaPckWalkF
namespace Go.Proofs.Ytoehjijnkbmgmaa.PckWalkG
open Go.RowKit Go.Proofs.Ytoehjijnkbmgmaa.Kit Go.Proofs.Ytoehjijnkbmgmaa.Num Go.Proofs.Ytoehjijnkbmgmaa.State Go.Proofs.Ytoehjijnkbmgmaa.PckWalkA Go.Proofs.Ytoehjijnkbmgmaa.PckWalkC Go.Proofs.Ytoehjijnkbmgmaa.PckWalkF
open Go.Proofs.Ytoehjijnkbmgmaa.PckWalkD (badB restB_le part_lt)
open Go.Proofs.Ytoehjijnkbmgmaa.PckWalkE (half_even half_odd upOk upV upR upB upV_le upR_le textOk textV textR textB)

/-- A number that a reader gives, by a name. -/
theorem num_hid (q g : Nat) (s r : ByteArray) (bad b : Bool) (w : World) (h : M w q s bad) (hs : s.size ≤ 9223372036854775807) (hg : Hid (gotB s = g)) (hr : Hid (restB s = r)) (hb : Hid (badB s bad = b)) :
    Calls Try.prog 40 #[.pointer (some ⟨q, 0, none⟩)] w (TookM q r b (.int .u64 g) w) := by
  have := num_any q s bad w h hs
  rwa [hg.out, hr.out, hb.out] at this



set_option maxRecDepth 100000 in
set_option maxHeartbeats 400000 in
theorem up_any (q : Nat) (s : ByteArray) (bad : Bool) (limit : Int) (w : World) (h : M w q s bad) (hs : s.size ≤ 9223372036854775807) (hlim : limit ≤ 9223372036854775807) :
    Calls Try.prog 39 #[.pointer (some ⟨q, 0, none⟩), .int .i64 limit] w (TookM q (upR s limit) (upB s bad limit) (.int .i64 (upV s limit)) w) := by
  by_cases h0 : limit < 0
  · have hk : upOk s limit = false := by unfold upOk; simp; omega
    have e1 : upR s limit = ByteArray.empty := by simp [upR, hk]
    have e2 : upB s bad limit = true := by simp [upB, hk]
    have e3 : upV s limit = 0 := by simp [upV, hk]
    rw [e1, e2, e3]
    clear e1 e2 e3 hk
    go_enter Try.func39, Try.ntmps39
    go_wp2_with fail
    refine (num_any q s bad _ h hs).mono ?_
    rintro e w1 ⟨rfl, hr, ho⟩
    go_wp2_with fail
    refine (fail_any q _ _ _ hr).mono ?_
    rintro e w2 ⟨rfl, hr2, ho2⟩
    go_wp2
    go_ret
    exact ⟨rfl, hr2, ho.trans ho2⟩
  · have hn0 : 0 ≤ limit := by omega
    obtain ⟨g, hg⟩ : ∃ g, gotB s = g := ⟨_, rfl⟩
    by_cases hgt : limit < (g : Int)
    · have hk : upOk s limit = false := by unfold upOk; rw [hg]; simp; omega
      have e1 : upR s limit = ByteArray.empty := by simp [upR, hk]
      have e2 : upB s bad limit = true := by simp [upB, hk]
      have e3 : upV s limit = 0 := by simp [upV, hk]
      rw [e1, e2, e3]
      have HG := Lib.hid hg
      clear e1 e2 e3 hk hg
      go_enter Try.func39, Try.ntmps39
      go_wp2_with fail
      refine (num_hid q g s _ bad _ _ h hs HG rfl rfl).mono ?_
      rintro e w1 ⟨rfl, hr, ho⟩
      go_wp2_with fail
      refine (fail_any q _ _ _ hr).mono ?_
      rintro e w2 ⟨rfl, hr2, ho2⟩
      go_wp2
      go_ret
      exact ⟨rfl, hr2, ho.trans ho2⟩
    · have hle : (g : Int) ≤ limit := by omega
      have hk : upOk s limit = true := by unfold upOk; rw [hg]; simp; omega
      have e1 : upR s limit = restB s := by simp [upR, hk]
      have e2 : upB s bad limit = badB s bad := by simp [upB, hk]
      have e3 : upV s limit = g := by simp [upV, hk, hg]
      rw [e1, e2, e3]
      have HG := Lib.hid hg
      clear e1 e2 e3 hk hg
      go_enter Try.func39, Try.ntmps39
      go_wp2_with fail
      refine (num_hid q g s _ bad _ _ h hs HG rfl rfl).mono ?_
      rintro e w1 ⟨rfl, hr, ho⟩
      go_wp2
      go_ret
      exact ⟨rfl, hr, ho⟩

theorem up_hid (q n : Nat) (s r : ByteArray) (bad b : Bool) (limit : Int) (w : World) (h : M w q s bad) (hs : s.size ≤ 9223372036854775807) (hlim : limit ≤ 9223372036854775807) (hn : Hid (upV s limit = n)) (hr : Hid (upR s limit = r)) (hb : Hid (upB s bad limit = b)) :
    Calls Try.prog 39 #[.pointer (some ⟨q, 0, none⟩), .int .i64 limit] w (TookM q r b (.int .i64 n) w) := by
  have := up_any q s bad limit w h hs hlim
  rwa [hn.out, hr.out, hb.out] at this


set_option maxRecDepth 100000 in
set_option maxHeartbeats 400000 in
theorem text_any (q : Nat) (s : ByteArray) (bad : Bool) (limit : Int) (w : World) (h : M w q s bad) (hs : s.size ≤ 281474976710656) (hlim : limit ≤ 9223372036854775807) :
    Calls Try.prog 53 #[.pointer (some ⟨q, 0, none⟩), .int .i64 limit] w (TookM q (textR s limit) (textB s bad limit) (.string (textV s limit)) w) := by
  have hrl := upR_le s limit
  obtain ⟨n, hn⟩ : ∃ n, upV s limit = n := ⟨_, rfl⟩
  obtain ⟨r, hr⟩ : ∃ r, upR s limit = r := ⟨_, rfl⟩
  obtain ⟨b, hb⟩ : ∃ b, upB s bad limit = b := ⟨_, rfl⟩
  by_cases hgt : r.size < n
  · have hk : textOk s limit = false := by unfold textOk; rw [hn, hr]; simp; omega
    have e1 : textR s limit = ByteArray.empty := by simp [textR, hk]
    have e2 : textB s bad limit = true := by simp [textB, hk]
    have e3 : textV s limit = ByteArray.empty := by simp [textV, hk]
    rw [e1, e2, e3]
    rw [hr] at hrl
    have HN := Lib.hid hn
    have HR := Lib.hid hr
    have HB := Lib.hid hb
    clear e1 e2 e3 hk hn hr hb
    go_enter Try.func53, Try.ntmps53
    go_wp2_with fail
    refine (up_hid q n s r bad b limit _ h (by omega) hlim HN HR HB).mono ?_
    rintro e w1 ⟨rfl, hr1, ho1⟩
    have h0 := hr1.left
    go_wp2_with fail
    refine (fail_any q _ _ _ hr1).mono ?_
    rintro e w2 ⟨rfl, hr2, ho2⟩
    go_wp2
    go_ret
    exact ⟨rfl, hr2, ho1.trans ho2⟩
  · have hle : n ≤ r.size := by omega
    have hk : textOk s limit = true := by unfold textOk; rw [hn, hr]; simpa using hle
    have e1 : textR s limit = r.extract n r.size := by simp [textR, hk, hn, hr]
    have e2 : textB s bad limit = b := by simp [textB, hk, hb]
    have e3 : textV s limit = r.extract 0 n := by simp [textV, hk, hn, hr]
    rw [e1, e2, e3]
    rw [hr] at hrl
    have HN := Lib.hid hn
    have HR := Lib.hid hr
    have HB := Lib.hid hb
    clear e1 e2 e3 hk hn hr hb
    go_enter Try.func53, Try.ntmps53
    go_wp2_with fail
    refine (up_hid q n s r bad b limit _ h (by omega) hlim HN HR HB).mono ?_
    rintro e w1 ⟨rfl, hr1, ho1⟩
    have h0 := hr1.left
    have f1 := free_at hr1 0
    have hr3 : M (w1.setCell ⟨q, 0, none⟩ (.string (r.extract n r.size))) q (r.extract n r.size) b := hr1.set0 _
    have ho3 : Only (· = q) w (w1.setCell ⟨q, 0, none⟩ (.string (r.extract n r.size))) := ho1.setCell (a := ⟨q, 0, none⟩) (.inr rfl) _
    go_wp2
    go_ret
    exact ⟨rfl, hr3, ho3⟩

end Go.Proofs.Ytoehjijnkbmgmaa.PckWalkG
