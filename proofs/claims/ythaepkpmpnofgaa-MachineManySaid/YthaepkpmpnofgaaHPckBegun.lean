/- What each statement asks first: a number and a text, laid and read, walked. -/
import Derived.Test.YthaepkpmpnofgaaGP
namespace Go.Proofs.Ythaepkpmpnofgaa.PckBegun
open Go.RowKit Go.Proofs.Ythaepkpmpnofgaa.Kit Go.Proofs.Ythaepkpmpnofgaa.Num Go.Proofs.Ythaepkpmpnofgaa.State Go.Proofs.Ythaepkpmpnofgaa.PckWalkA Go.Proofs.Ythaepkpmpnofgaa.PckWalkB Go.Proofs.Ythaepkpmpnofgaa.PckWalkC Go.Proofs.Ythaepkpmpnofgaa.PckWalkD Go.Proofs.Ythaepkpmpnofgaa.PckWalkE Go.Proofs.Ythaepkpmpnofgaa.PckWalkH

/-- A new writer. -/
theorem new_writer (w : World) : WV (w.alloc (.cells #[.slice none 0 0] 65)) w.heap.size (.slice none 0 0) [] :=
  ⟨heap_alloc_new w _, World.ownsRow_nil _ _ _ _⟩
theorem bytes_hid (p : Nat) (v : Value) (l : List UInt8) (s : ByteArray) (w : World) (h : WV w p v l) (hs : Hid (str l = s)) :
    Calls Try.prog 26 #[.pointer (some ⟨p, 0, none⟩)] w fun e w' => e = .returned (.string s) ∧ w = w' := by
  have := bytes_any p v l w h
  rw [← hs.out]
  exact this
theorem text_hid (q : Nat) (s v r : ByteArray) (bad b : Bool) (limit : Int) (w : World) (h : R w q s bad) (hs : s.size ≤ 281474976710656) (hlim : limit ≤ 9223372036854775807) (hv : Hid (textV s limit = v)) (hr : Hid (textR s limit = r)) (hb : Hid (textB s bad limit = b)) :
    Calls Try.prog 59 #[.pointer (some ⟨q, 0, none⟩), .int .i64 limit] w (TookR q r b (.string v) w) := by
  have := PckWalkE.text_any q s bad limit w h hs hlim
  rwa [hv.out, hr.out, hb.out] at this
theorem done_hid (q : Nat) (s : ByteArray) (bad b : Bool) (w : World) (h : R w q s bad) (hb : Hid ((decide (s.size = 0) && !bad) = b)) :
    Calls Try.prog 22 #[.pointer (some ⟨q, 0, none⟩)] w (TookR q s bad (.bool b) w) := by
  have := done_any q s bad w h
  rwa [hb.out] at this

def ab : ByteArray := ⟨#[97, 98]⟩
def known : ByteArray := ⟨#[2, 1, 44, 1, 2, 97, 98]⟩
theorem wide300 : wide 300 = 2 := wide_of (n := 1) (by decide) (by decide)
theorem wide2 : wide 2 = 1 := wide_of (n := 0) (by decide) (by decide)
theorem laid_known : str ([] ++ num 300 ++ text ab) = known := by
  unfold text num
  have e : ab.size = 2 := by decide
  rw [e, wide300, wide2]
  decide +kernel
theorem said_known : (known.toList == [2, 1, 44, 1, 2, 97, 98]) = true := by rw [Lib.toList_data]; decide
theorem said_ab : (ab.toList == [97, 98]) = true := by rw [Lib.toList_data]; decide
theorem got_known : gotB known = 300 := by decide +kernel
theorem rest_known : restB known = ⟨#[1, 2, 97, 98]⟩ := by decide +kernel
theorem bad_known : badB known false = false := by decide +kernel
theorem textV_known : textV ⟨#[1, 2, 97, 98]⟩ 2 = ab := by decide +kernel
theorem textR_known : textR ⟨#[1, 2, 97, 98]⟩ 2 = ByteArray.empty := by decide +kernel
theorem textB_known : textB ⟨#[1, 2, 97, 98]⟩ false 2 = false := by decide +kernel
theorem done_known : (decide (ByteArray.empty.size = 0) && !false) = true := by decide +kernel

end Go.Proofs.Ythaepkpmpnofgaa.PckBegun
