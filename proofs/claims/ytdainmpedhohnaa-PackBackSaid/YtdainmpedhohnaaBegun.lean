/- What each statement asks first: a number and a text, laid and read, walked. -/
import Derived.Test.YtdainmpedhohnaaWalkH
namespace Go.Proofs.Ytdainmpedhohnaa.Begun
open Go.RowKit Go.Proofs.Ytdainmpedhohnaa.Kit Go.Proofs.Ytdainmpedhohnaa.Num Go.Proofs.Ytdainmpedhohnaa.State Go.Proofs.Ytdainmpedhohnaa.WalkA Go.Proofs.Ytdainmpedhohnaa.WalkB Go.Proofs.Ytdainmpedhohnaa.WalkC Go.Proofs.Ytdainmpedhohnaa.WalkD Go.Proofs.Ytdainmpedhohnaa.WalkE Go.Proofs.Ytdainmpedhohnaa.WalkH

/-- A new writer. -/
theorem new_writer (w : World) : WV (w.alloc (.cells #[.slice none 0 0] 27)) w.heap.size (.slice none 0 0) [] :=
  ⟨heap_alloc_new w _, World.ownsRow_nil _ _ _ _⟩
theorem bytes_hid (p : Nat) (v : Value) (l : List UInt8) (s : ByteArray) (w : World) (h : WV w p v l) (hs : Hid (str l = s)) :
    Calls Try.prog 17 #[.pointer (some ⟨p, 0, none⟩)] w fun e w' => e = .returned (.string s) ∧ w = w' := by
  have := bytes_any p v l w h
  rw [← hs.out]
  exact this
theorem text_hid (q : Nat) (s v r : ByteArray) (bad b : Bool) (limit : Int) (w : World) (h : R w q s bad) (hs : s.size ≤ 281474976710656) (hlim : limit ≤ 9223372036854775807) (hv : Hid (textV s limit = v)) (hr : Hid (textR s limit = r)) (hb : Hid (textB s bad limit = b)) :
    Calls Try.prog 25 #[.pointer (some ⟨q, 0, none⟩), .int .i64 limit] w (TookR q r b (.string v) w) := by
  have := WalkE.text_any q s bad limit w h hs hlim
  rwa [hv.out, hr.out, hb.out] at this
theorem done_hid (q : Nat) (s : ByteArray) (bad b : Bool) (w : World) (h : R w q s bad) (hb : Hid ((decide (s.size = 0) && !bad) = b)) :
    Calls Try.prog 29 #[.pointer (some ⟨q, 0, none⟩)] w (TookR q s bad (.bool b) w) := by
  have := done_any q s bad w h
  rwa [hb.out] at this

def ab : ByteArray := ⟨#[97, 98]⟩
def known : ByteArray := ⟨#[2, 1, 44, 1, 2, 97, 98]⟩
theorem wide300 : wide 300 = 2 := wide_of (n := 1) (by decide) (by decide)
theorem wide2 : wide 2 = 1 := wide_of (n := 0) (by decide) (by decide)
theorem laid_known : str ([] ++ num 300 ++ text ab) = known := by
  unfold text num
  have e : ab.size = 2 := by decide
  rw [e, wide300, wide2]
  decide +kernel
theorem said_known : (known.toList == [2, 1, 44, 1, 2, 97, 98]) = true := by rw [Lib.toList_data]; decide
theorem said_ab : (ab.toList == [97, 98]) = true := by rw [Lib.toList_data]; decide
theorem got_known : gotB known = 300 := by decide +kernel
theorem rest_known : restB known = ⟨#[1, 2, 97, 98]⟩ := by decide +kernel
theorem bad_known : badB known false = false := by decide +kernel
theorem textV_known : textV ⟨#[1, 2, 97, 98]⟩ 2 = ab := by decide +kernel
theorem textR_known : textR ⟨#[1, 2, 97, 98]⟩ 2 = ByteArray.empty := by decide +kernel
theorem textB_known : textB ⟨#[1, 2, 97, 98]⟩ false 2 = false := by decide +kernel
theorem done_known : (decide (ByteArray.empty.size = 0) && !false) = true := by decide +kernel

set_option maxHeartbeats 400000 in
theorem begun_true (w : World) : Calls Try.prog 9 #[] w fun e w' => e = .returned (.bool true) ∧ Below w.heap.size w w' := by
  have hk := said_known
  have ha := said_ab
  have hw0 := new_writer w
  have hb0 : Below w.heap.size w (w.alloc (.cells #[.slice none 0 0] 27)) := (Below.refl _ _).alloc (Nat.le_refl _) _
  go_enter Try.func9, Try.ntmps9
  go_wp2_with fail
  refine (WalkA.num_any _ _ _ 300 _ hw0 (by decide) (by decide)).mono ?_
  rintro e w1 ⟨rfl, v1, hw1, hs1⟩
  go_wp2_with fail
  refine (WalkB.text_any _ _ _ ab _ hw1 ?_).mono ?_
  · rw [List.nil_append, num_length, wide300]; decide
  rintro e w2 ⟨rfl, v2, hw2, hs2⟩
  go_wp2_with fail
  refine (bytes_hid _ _ _ known _ hw2 laid_known).mono ?_
  rintro e w3 ⟨rfl, rfl⟩
  go_wp2_with fail
  refine (from_any known _).mono ?_
  rintro e w4 ⟨rfl, hr4, hb4⟩
  go_wp2_with fail
  refine (WalkE.num_hid _ 300 known _ false _ _ hr4 (by decide) got_known rest_known bad_known).mono ?_
  rintro e w5 ⟨rfl, hr5, ho5⟩
  go_wp2_with fail
  refine (text_hid _ _ ab _ false _ 2 _ hr5 (by decide) (by decide) textV_known textR_known textB_known).mono ?_
  rintro e w6 ⟨rfl, hr6, ho6⟩
  go_wp2_with fail
  refine (done_hid _ _ false true _ hr6 done_known).mono ?_
  rintro e w7 ⟨rfl, hr7, ho7⟩
  go_wp2
  go_ret
  have hs : w.heap.size ≤ w2.heap.size := by have := hs1.only.size; have := hs2.only.size; simp at *; omega
  have hB2 : Below w.heap.size w w2 := (hb0.trans (hs1.below (by simp) (Nat.le_refl _) (by simp [Value.ownBlock]))).trans (hs2.below (by have := hs1.only.size; simp at *; omega) (Nat.le_refl _) fun g hg => by have := (hw1.row g hg).1; omega)
  have hB4 := hB2.trans (hb4.mono hs)
  refine ⟨rfl, ((hB4.trans (ho5.below hB4.size ?_)).trans (ho6.below ?_ ?_)).trans (ho7.below ?_ ?_)⟩
  · rintro k rfl; exact hs
  · have := ho5.size; have := hB4.size; omega
  · rintro k rfl; exact hs
  · have := ho5.size; have := ho6.size; have := hB4.size; omega
  · rintro k rfl; exact hs
end Go.Proofs.Ytdainmpedhohnaa.Begun
