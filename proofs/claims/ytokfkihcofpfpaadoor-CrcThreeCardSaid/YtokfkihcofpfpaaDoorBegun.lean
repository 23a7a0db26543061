/- What each statement asks first: a known sum, walked. -/
import Derived.Test.YtokfkihcofpfpaaDoorSumB
import Derived.Lib.SlBytesConst
namespace Go.Proofs.YtokfkihcofpfpaaDoor.Begun
open Go.RowKit Go.Proofs.YtokfkihcofpfpaaDoor.Kit Go.Proofs.YtokfkihcofpfpaaDoor.Crc Go.Proofs.YtokfkihcofpfpaaDoor.SumA Go.Proofs.YtokfkihcofpfpaaDoor.SumB

theorem Tab.below {w w' : World} (h : Tab w) (hb : Below w.heap.size w w') : Tab w' := fun i hi => by
  have := h i hi
  rw [← this]
  exact hb.cell (block_lt_of_cell this)
theorem Tab.drew {w : World} (h : Tab w) : Tab w.drew := h

/-- The sum, to be reckoned. -/
def feedc : Nat → List UInt8 → Nat
  | x, [] => x
  | x, c :: l => feedc (hk 8 (x ^^^ c.toNat)) l
theorem feed_feedc : ∀ (l : List UInt8) (x : Nat), feed x l = feedc x l
  | [], x => rfl
  | c :: l, x => by rw [feed_cons, oct_eq, feed_feedc l]; rfl
def digits : List UInt8 := [49, 50, 51, 52, 53, 54, 55, 56, 57]
theorem feedc_digits : feedc 4294967295 digits = 486108540 := by decide +kernel
theorem add_digits : add 0 digits = 3808858755 := by
  have h0 : inv 0 = 4294967295 := by rw [inv_eq (by decide)]
  unfold add
  rw [h0, feed_feedc, feedc_digits, inv_eq (by decide)]

/-- Several new cells, in a block that bears a mark. -/
theorem reads_marked (w : World) (us : List Value) (e : TypeId) (fr : Nat × Nat) : Reads (w.alloc (.cells us.toArray e fr)) (w.heap.size + 1) 1 (some ⟨w.heap.size, 0, none⟩) us.length us := by
  refine ⟨by simp, fun _ => ⟨_, rfl, Nat.lt_succ_self _, fun j x hj => ?_⟩⟩
  rw [Addr.add_lit, Nat.zero_add, cell_of_row _ _ j us.toArray e fr (heap_alloc_new w _)]
  simpa using hj

/-- A sum of bytes that are there, by a name. -/
theorem sum_hid (A : Option Addr) (n c r : Nat) (l : List UInt8) (w : World) (h : RB w A n l) (ht : Tab w) (hnc : n ≤ c) (hc : c ≤ 9223372036854775807) (hr : Hid (add 0 l = r)) :
    Calls Tryd.prog 12 #[.slice A n c] w fun e w' => e = .returned (.int .u32 (r : Int)) ∧ w = w' := by
  have := sum_any A n c l w h ht hnc hc
  rwa [hr.out] at this

set_option maxHeartbeats 400000 in
theorem begun_any (w : World) (ht : Tab w) :
    Calls Tryd.prog 9 #[] w fun e w' => e = .returned (.bool true) ∧ Below w.heap.size w w' := by
  have hsz : w.heap.size ≤ w.heap.size := Nat.le_refl _
  have HT := Lib.hid ht
  have HD := Lib.hid add_digits
  have HN := Lib.hid (add_nil 0)
  have hcv : (Go.convert 23 23 (.slice (some ⟨w.heap.size, 0, none⟩) 9 9)).run Tryd.prog (w.alloc (.cells #[.int .u8 49, .int .u8 50, .int .u8 51, .int .u8 52, .int .u8 53, .int .u8 54, .int .u8 55, .int .u8 56, .int .u8 57] 5)) = .ok (.slice (some ⟨w.heap.size, 0, none⟩) 9 9) (w.alloc (.cells #[.int .u8 49, .int .u8 50, .int .u8 51, .int .u8 52, .int .u8 53, .int .u8 54, .int .u8 55, .int .u8 56, .int .u8 57] 5 (9, 10))) :=
    Lib.run_convert_bytes_const (P := Tryd.prog) w 23 5 #[.int .u8 49, .int .u8 50, .int .u8 51, .int .u8 52, .int .u8 53, .int .u8 54, .int .u8 55, .int .u8 56, .int .u8 57] 9 9 Tryd.underlying23 Tryd.underlying5
  clear ht
  go_enter Tryd.func9, Tryd.ntmps9
  go_wp2_with fail
  have hbel := (Below.refl w.heap.size w).alloc hsz (.cells #[.int .u8 49, .int .u8 50, .int .u8 51, .int .u8 52, .int .u8 53, .int .u8 54, .int .u8 55, .int .u8 56, .int .u8 57] 5 (9, 10))
  have hread : RB (w.alloc (.cells #[.int .u8 49, .int .u8 50, .int .u8 51, .int .u8 52, .int .u8 53, .int .u8 54, .int .u8 55, .int .u8 56, .int .u8 57] 5 (9, 10))) (some ⟨w.heap.size, 0, none⟩) 9 digits := by
    have := reads_marked w (vals digits) 5 (9, 10)
    exact this.more (by simp)
  refine (sum_hid _ 9 9 3808858755 digits _ hread (Tab.below HT.out hbel) (by omega) (by omega) HD).mono ?_
  rintro e w' ⟨rfl, rfl⟩
  go_wp2_with fail
  refine (sum_hid _ 0 0 0 [] _ Reads.none_ (Tab.below HT.out hbel) (by omega) (by omega) HN).mono ?_
  rintro e w' ⟨rfl, rfl⟩
  go_wp2
  go_ret
  exact ⟨rfl, hbel⟩
end Go.Proofs.YtokfkihcofpfpaaDoor.Begun
