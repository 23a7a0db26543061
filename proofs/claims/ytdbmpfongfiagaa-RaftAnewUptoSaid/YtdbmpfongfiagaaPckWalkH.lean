/- What the document's own numbers and texts are as bytes, walked. -/
import Derived.Test.YtdbmpfongfiagaaPckWalkG
namespace Go.Proofs.Ytdbmpfongfiagaa.PckWalkH
open Go.RowKit Go.Proofs.Ytdbmpfongfiagaa.Kit Go.Proofs.Ytdbmpfongfiagaa.Num Go.Proofs.Ytdbmpfongfiagaa.State Go.Proofs.Ytdbmpfongfiagaa.PckWalkA Go.Proofs.Ytdbmpfongfiagaa.PckWalkB

/-- A string of bytes. -/
def str (l : List UInt8) : ByteArray := ⟨l.toArray⟩
theorem str_list (l : List UInt8) : (str l).data.toList = l := by simp [str]
theorem str_back (s : ByteArray) : str s.data.toList = s := Lib.mk_data s
theorem str_size (l : List UInt8) : (str l).size = l.length := by rw [Lib.size_eq, str_list]
theorem str_append (a b : List UInt8) : str a ++ str b = str (a ++ b) := by
  apply ByteArray.ext
  rw [ByteArray.data_append]
  simp [str]
theorem conv_one (wr : World) (z : Int) (c : UInt8) (hz : z = (c.toNat : Int)) :
    (convert 109 9 (.slice (some ⟨wr.heap.size, 0, none⟩) 1 1)).run Try.prog (wr.alloc (.cells #[.int .u8 z] 5)) = .ok (.string (str [c])) (wr.alloc (.cells #[.int .u8 z] 5)) := by
  subst hz
  exact run_string (P := Try.prog) 109 5 9 Try.underlying109 Try.underlying5 Try.underlying9 _ _ _ 1 1 [c] (reads_one wr _ _)

/-- A call that makes a string. -/
def Said (w : World) (l : List UInt8) (e : Ending) (w' : World) : Prop := e = .returned (.string (str l)) ∧ Below w.heap.size w w'



end Go.Proofs.Ytdbmpfongfiagaa.PckWalkH
