/- What each statement asks first: a known sum, walked. -/
import Derived.Test.YtmimpfccngihiaaDoorSumB
import Derived.Lib.SlBytesConst
namespace Go.Proofs.YtmimpfccngihiaaDoor.CrcBegun
open Go.RowKit Go.Proofs.YtmimpfccngihiaaDoor.Kit Go.Proofs.YtmimpfccngihiaaDoor.Crc Go.Proofs.YtmimpfccngihiaaDoor.SumA Go.Proofs.YtmimpfccngihiaaDoor.SumB

theorem Tab.below {w w' : World} (h : Tab w) (hb : Below w.heap.size w w') : Tab w' := fun i hi => by
  have := h i hi
  rw [← this]
  exact hb.cell (block_lt_of_cell this)
theorem Tab.drew {w : World} (h : Tab w) : Tab w.drew := h

/-- The sum, to be reckoned. -/
def feedc : Nat → List UInt8 → Nat
  | x, [] => x
  | x, c :: l => feedc (hk 8 (x ^^^ c.toNat)) l
theorem feed_feedc : ∀ (l : List UInt8) (x : Nat), feed x l = feedc x l
  | [], x => rfl
  | c :: l, x => by rw [feed_cons, oct_eq, feed_feedc l]; rfl
def digits : List UInt8 := [49, 50, 51, 52, 53, 54, 55, 56, 57]
theorem feedc_digits : feedc 4294967295 digits = 486108540 := by decide +kernel
theorem add_digits : add 0 digits = 3808858755 := by
  have h0 : inv 0 = 4294967295 := by rw [inv_eq (by decide)]
  unfold add
  rw [h0, feed_feedc, feedc_digits, inv_eq (by decide)]

/-- Several new cells, in a block that bears a mark. -/
theorem reads_marked (w : World) (us : List Value) (e : TypeId) (fr : Nat × Nat) : Reads (w.alloc (.cells us.toArray e fr)) (w.heap.size + 1) 1 (some ⟨w.heap.size, 0, none⟩) us.length us := by
  refine ⟨by simp, fun _ => ⟨_, rfl, Nat.lt_succ_self _, fun j x hj => ?_⟩⟩
  rw [Addr.add_lit, Nat.zero_add, cell_of_row _ _ j us.toArray e fr (heap_alloc_new w _)]
  simpa using hj

/-- A sum of bytes that are there, by a name. -/
theorem sum_hid (A : Option Addr) (n c r : Nat) (l : List UInt8) (w : World) (h : RB w A n l) (ht : Tab w) (hnc : n ≤ c) (hc : c ≤ 9223372036854775807) (hr : Hid (add 0 l = r)) :
    Calls Tryd.prog 36 #[.slice A n c] w fun e w' => e = .returned (.int .u32 (r : Int)) ∧ w = w' := by
  have := sum_any A n c l w h ht hnc hc
  rwa [hr.out] at this

end Go.Proofs.YtmimpfccngihiaaDoor.CrcBegun
