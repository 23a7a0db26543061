/- What each statement asks first: a number and a text, laid and read, walked. -/
import Derived.Test.YtdmlfnknmilhcaaPckWalkH
namespace Go.Proofs.Ytdmlfnknmilhcaa.PckBegun
open Go.RowKit Go.Proofs.Ytdmlfnknmilhcaa.Kit Go.Proofs.Ytdmlfnknmilhcaa.Num Go.Proofs.Ytdmlfnknmilhcaa.State Go.Proofs.Ytdmlfnknmilhcaa.PckWalkA Go.Proofs.Ytdmlfnknmilhcaa.PckWalkB Go.Proofs.Ytdmlfnknmilhcaa.PckWalkC Go.Proofs.Ytdmlfnknmilhcaa.PckWalkD Go.Proofs.Ytdmlfnknmilhcaa.PckWalkE Go.Proofs.Ytdmlfnknmilhcaa.PckWalkH

/-- A new writer. -/
theorem new_writer (w : World) : WV (w.alloc (.cells #[.slice none 0 0] 41)) w.heap.size (.slice none 0 0) [] :=
  ⟨heap_alloc_new w _, World.ownsRow_nil _ _ _ _⟩
theorem bytes_hid (p : Nat) (v : Value) (l : List UInt8) (s : ByteArray) (w : World) (h : WV w p v l) (hs : Hid (str l = s)) :
    Calls Try.prog 14 #[.pointer (some ⟨p, 0, none⟩)] w fun e w' => e = .returned (.string s) ∧ w = w' := by
  have := bytes_any p v l w h
  rw [← hs.out]
  exact this

def ab : ByteArray := ⟨#[97, 98]⟩
def known : ByteArray := ⟨#[2, 1, 44, 1, 2, 97, 98]⟩
theorem wide300 : wide 300 = 2 := wide_of (n := 1) (by decide) (by decide)
theorem wide2 : wide 2 = 1 := wide_of (n := 0) (by decide) (by decide)
theorem laid_known : str ([] ++ num 300 ++ text ab) = known := by
  unfold text num
  have e : ab.size = 2 := by decide
  rw [e, wide300, wide2]
  decide +kernel
theorem said_known : (known.toList == [2, 1, 44, 1, 2, 97, 98]) = true := by rw [Lib.toList_data]; decide
theorem said_ab : (ab.toList == [97, 98]) = true := by rw [Lib.toList_data]; decide
theorem got_known : gotB known = 300 := by decide +kernel
theorem rest_known : restB known = ⟨#[1, 2, 97, 98]⟩ := by decide +kernel
theorem bad_known : badB known false = false := by decide +kernel
theorem textV_known : textV ⟨#[1, 2, 97, 98]⟩ 2 = ab := by decide +kernel
theorem textR_known : textR ⟨#[1, 2, 97, 98]⟩ 2 = ByteArray.empty := by decide +kernel
theorem textB_known : textB ⟨#[1, 2, 97, 98]⟩ false 2 = false := by decide +kernel
theorem done_known : (decide (ByteArray.empty.size = 0) && !false) = true := by decide +kernel

end Go.Proofs.Ytdmlfnknmilhcaa.PckBegun
