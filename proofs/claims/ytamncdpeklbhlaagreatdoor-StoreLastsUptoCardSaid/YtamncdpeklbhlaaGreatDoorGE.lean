/- Plain mathematics of layer 8: a store alone on a disk with room enough that may go off, call by call, and what stands behind a crash. No program's text; no statement is proved here. -/
import Derived.Test.YtamncdpeklbhlaaGreatDoorGB
import Derived.Test.YtamncdpeklbhlaaGreatDoorGA
import Derived.Test.YtamncdpeklbhlaaGreatDoorRows
import Derived.Test.YtamncdpeklbhlaaGreatDoorKit
import Derived.ProofKit
import Derived.OpenShut
import Derived.ShutString
import Derived.ChangeOld
import Derived.SizedLaws
import Derived.JoinedCond
import Derived.Test.YtamncdpeklbhlaaGreatDoorSumB
import Derived.Lib.SlBytesConst
import Derived.Deep.DeepHandedRow
import Derived.Lib.LaidTab
import Derived.Deep.Slices
import Derived.Deep.CondSized
import Derived.Lib.SmallJoins
import Derived.Test.YtamncdpeklbhlaaGreatDoorScA
import Derived.Deep.Strs
set_option linter.unusedVariables false
namespace Go.Proofs.YtamncdpeklbhlaaGreatDoor.Cals
open Go.RowKit Go.Proofs.YtamncdpeklbhlaaGreatDoor.Kit Go.Proofs.YtamncdpeklbhlaaGreatDoor.Blocks Go.Proofs.YtamncdpeklbhlaaGreatDoor.Rlog Go.Proofs.YtamncdpeklbhlaaGreatDoor.Sto Go.Proofs.YtamncdpeklbhlaaGreatDoor.Ents Go.Proofs.YtamncdpeklbhlaaGreatDoor.Hold

structure Cal where
  anew : Bool
  term : Nat
  vote : Int
  snap : Snap
  A : Option Addr
  n : Nat
  c : Nat
  l : List Ent
def callCs (x : Cal) : List Value := [.bool x.anew, .int .u64 (x.term : Int), .int .i64 x.vote, .int .u64 (x.snap.idx : Int), .int .u64 (x.snap.term : Int), .int .u64 (x.snap.cfg : Int), .string x.snap.data, .slice x.A x.n x.c]
def callV (x : Cal) : Value := .agg #[.bool x.anew, .int .u64 (x.term : Int), .int .i64 x.vote, .int .u64 (x.snap.idx : Int), .int .u64 (x.snap.term : Int), .int .u64 (x.snap.cfg : Int), .string x.snap.data, .slice x.A x.n x.c]
/-- The state that a call of Anew hands in. -/
def staOf (x : Cal) : Sta := ⟨x.term, x.vote, x.snap, x.l⟩
/-- What is known of a call that came in. -/
structure CalB (w : World) (B : Nat) (x : Cal) : Prop where
  term : x.term < 18446744073709551616
  v0 : -9223372036854775808 ≤ x.vote
  v1 : x.vote ≤ 9223372036854775807
  snap : SnapB x.snap
  data : x.snap.data.size ≤ 9223372036854775807
  list : RE w B x.A x.n x.l
  fits : x.n ≤ x.c
  max : x.c ≤ 9223372036854775807
  ents : ∀ e ∈ x.l, EntB e
theorem CalB.below {w w' : World} {B B' : Nat} {x : Cal} (h : CalB w B x) (k : Below B w w') (hB : B ≤ B') : CalB w' B' x :=
  ⟨h.term, h.v0, h.v1, h.snap, h.data, (Kit.Reads.below h.list k).more hB, h.fits, h.max, h.ents⟩
theorem CalB.sta {w : World} {B : Nat} {x : Cal} (h : CalB w B x) : StaB (staOf x) := ⟨h.term, h.v0, h.v1, h.snap, h.ents⟩
/-- The call lies at these eight cells. -/
structure Eight (w : World) (b o : Nat) (x : Cal) : Prop where
  c0 : w.cell? ⟨b, o, none⟩ = some (.bool x.anew)
  c1 : w.cell? ⟨b, o + 1, none⟩ = some (.int .u64 (x.term : Int))
  c2 : w.cell? ⟨b, o + 2, none⟩ = some (.int .i64 x.vote)
  c3 : w.cell? ⟨b, o + 3, none⟩ = some (.int .u64 (x.snap.idx : Int))
  c4 : w.cell? ⟨b, o + 4, none⟩ = some (.int .u64 (x.snap.term : Int))
  c5 : w.cell? ⟨b, o + 5, none⟩ = some (.int .u64 (x.snap.cfg : Int))
  c6 : w.cell? ⟨b, o + 6, none⟩ = some (.string x.snap.data)
  c7 : w.cell? ⟨b, o + 7, none⟩ = some (.slice x.A x.n x.c)
theorem Eight.below {w w' : World} {b o : Nat} {x : Cal} {B : Nat} (h : Eight w b o x) (k : Below B w w') (hb : b < B) : Eight w' b o x :=
  ⟨(k.cell (p := ⟨b, o, none⟩) hb).trans h.c0, (k.cell (p := ⟨b, o + 1, none⟩) hb).trans h.c1, (k.cell (p := ⟨b, o + 2, none⟩) hb).trans h.c2, (k.cell (p := ⟨b, o + 3, none⟩) hb).trans h.c3, (k.cell (p := ⟨b, o + 4, none⟩) hb).trans h.c4,
    (k.cell (p := ⟨b, o + 5, none⟩) hb).trans h.c5, (k.cell (p := ⟨b, o + 6, none⟩) hb).trans h.c6, (k.cell (p := ⟨b, o + 7, none⟩) hb).trans h.c7⟩
/-- The slice with address a and n elements holds these calls. -/
def Holds (w : World) (B : Nat) (a : Option Addr) (n : Nat) (L : List Cal) : Prop :=
  L.length = n ∧ ∀ (k : Nat) (x : Cal), L[k]? = some x → ∃ b o, a = some ⟨b, o, none⟩ ∧ b < B ∧ Eight w b (o + k * 8) x ∧ CalB w B x
theorem Holds.below {w w' : World} {B B' : Nat} {a : Option Addr} {n : Nat} {L : List Cal} (h : Holds w B a n L) (k : Below B w w') (hB : B ≤ B') : Holds w' B' a n L := by
  refine ⟨h.1, fun i x hx => ?_⟩
  obtain ⟨b, o, ha, hb, ht, hc⟩ := h.2 i x hx
  exact ⟨b, o, ha, by omega, ht.below k hb, hc.below k hB⟩
theorem Holds.nil (w : World) (B : Nat) (a : Option Addr) : Holds w B a 0 [] := ⟨rfl, fun k x hx => by simp at hx⟩

/-! ### The sum -/
def dataW (l : List Ent) : Nat := (l.map fun e => e.data.size / 50).sum
def weigh (x : Cal) : Nat := 1 + x.l.length + x.snap.data.size / 50 + dataW x.l
def total (L : List Cal) : Nat := (L.map weigh).sum
theorem dataW_snoc (l : List Ent) (e : Ent) : dataW (l ++ [e]) = dataW l + e.data.size / 50 := by simp [dataW]
theorem total_snoc (L : List Cal) (x : Cal) : total (L ++ [x]) = total L + weigh x := by simp [total]
theorem total_take {L : List Cal} {k : Nat} {x : Cal} (h : L[k]? = some x) : total (L.take (k + 1)) = total (L.take k) + weigh x := by rw [take_snoc L k x h, total_snoc]
theorem total_le (L : List Cal) (k : Nat) : total (L.take k) ≤ total L := by
  unfold total
  conv => rhs; rw [← List.take_append_drop k L, List.map_append, List.sum_append]
  omega
theorem total_mem {L : List Cal} {k : Nat} {x : Cal} (h : L[k]? = some x) : total (L.take k) + weigh x ≤ total L := by rw [← total_take h]; exact total_le L _
theorem dataW_take {l : List Ent} {k : Nat} {e : Ent} (h : l[k]? = some e) : dataW (l.take (k + 1)) = dataW (l.take k) + e.data.size / 50 := by rw [take_snoc l k e h, dataW_snoc]
theorem dataW_le (l : List Ent) (k : Nat) : dataW (l.take k) ≤ dataW l := by
  unfold dataW
  conv => rhs; rw [← List.take_append_drop k l, List.map_append, List.sum_append]
  omega
end Go.Proofs.YtamncdpeklbhlaaGreatDoor.Cals
namespace Go.Proofs.YtamncdpeklbhlaaGreatDoor.Frame
open Go.ChangeShapes Go.WideShapes Go.ChangeAt Go.RowKit Go.Proofs.YtamncdpeklbhlaaGreatDoor.Kit

/-- A slice of bytes that came in: its bytes, its bounds, its datum. -/
structure Came {H : Type} (w : World) (a : Option Addr) (len cap : Nat) (d : DataW H) (l : List UInt8) : Prop where
  reads : RB w a len l
  fits : len ≤ cap
  max : cap ≤ 9223372036854775807
  datum : (d = .nil ∧ len = 0 ∧ cap = 0) ∨ ∃ elems spare, d = .slice elems spare ∧ elems.length + spare.length = cap

theorem rb_of_ints {w : World} {x : Addr} {len cap : Nat} {zs : List Int} (hl : len ≤ cap) (hz : zs.length = cap) (hcell : ∀ i, i < zs.length → w.cell? (x.add i) = some (.int .u8 (zs.getD i 0)))
    (hwz : ∀ n ∈ zs, (Lit.int .u8 n).wf = true) : RB w (some x) len ((zs.take len).map fun n => UInt8.ofNat n.toNat) := by
  have hlen : ((zs.take len).map fun n => UInt8.ofNat n.toNat).length = len := by simp; omega
  refine ⟨by rw [vals_length, hlen, Nat.mul_one], fun hn => ?_⟩
  have h0 := hcell 0 (by omega)
  rw [add_zero] at h0
  refine ⟨x, rfl, World.block_lt_of_cell? _ _ h0, fun j u hj => ?_⟩
  have hjl : j < len := by
    have := (List.getElem?_eq_some_iff.1 hj).1
    rwa [vals_length, hlen] at this
  have hjz : j < zs.length := by omega
  rw [hcell j hjz]
  rw [vals_get _ j (by omega)] at hj
  rw [← hj]
  have hw := hwz zs[j] (List.getElem_mem hjz)
  have hb : 0 ≤ zs[j] ∧ zs[j] ≤ 255 := by simpa [Lit.wf, IntKind.min, IntKind.max, IntKind.signed, IntKind.bits] using hw
  have e : ((((zs.take len).map fun n => UInt8.ofNat n.toNat)[j]'(by omega)).toNat : Int) = zs[j] := by
    simp
    omega
  rw [e]
  simp [List.getD, List.getElem?_eq_getElem hjz]

theorem open_bytes {H : Type} {enc : TypeId × Value → H} {P : Program} {w : World} {t e : TypeId} {fuel len cap : Nat} {a0 : Option Addr} {x : DataW H × List MemPlace}
    (ht : P.underlying t = some (.slice e)) (he : P.underlying e = some (.int .u8)) (hc : P.cellsOf e = 1)
    (h : DataW.trod enc P w 0 (fun _ => true) true fuel t (Value.slice a0 len cap).cells.toList = some x) : ∃ l, Came w a0 len cap x.1 l := by
  rcases open_ints ht he hc h with ⟨hcs, hx⟩ | ⟨y, l, c, zs, hcs, _, hl, hm, hz, hx, hcell, hwz⟩
  · simp [Value.cells] at hcs
    obtain ⟨rfl, rfl, rfl⟩ := hcs
    subst hx
    exact ⟨[], Reads.none_, by omega, by omega, .inl ⟨rfl, rfl, rfl⟩⟩
  · simp [Value.cells] at hcs
    obtain ⟨rfl, rfl, rfl⟩ := hcs
    simp only [if_true] at hz
    subst hx
    unfold maxLen at hm
    refine ⟨_, rb_of_ints hl hz hcell hwz, hl, by omega, .inr ⟨_, _, rfl, ?_⟩⟩
    simp only [lits, List.length_map, List.length_take, List.length_drop]
    omega

/-- The form's own reach. -/
theorem Came.reach {H : Type} {P : Program} {w : World} {a : Option Addr} {len cap : Nat} {d : DataW H} {l : List UInt8} (h : Came w a len cap d l) {ts : List TypeId} {ds : List (DataW H)} {j : Nat} {t e : TypeId}
    (hs : (DataW.weightsEach P ts ds).all (· ≤ reachBytes) = true) (hj : ts[j]? = some t) (hd : ds[j]? = some d) (ht : P.underlying t = some (.slice e)) (hb : P.bytesOf e = 1) : len ≤ 140737488351232 := by
  have hf := h.fits
  rcases h.datum with ⟨rfl, rfl, _⟩ | ⟨elems, spare, rfl, hlen⟩
  · omega
  · have := sized_slice hs hj hd ht
    rw [hb] at this
    simp only [reachBytes] at this
    omega

/-! ### The second form's bound -/
theorem one_le {H : Type} (d : DataW H) : 1 ≤ Rows.uptoBulk d := by
  cases d with
  | lit l => cases l <;> simp [Rows.uptoBulk]
  | nil => simp [Rows.uptoBulk]
  | ptr d => simp [Rows.uptoBulk]
  | slice elems spare => simp [Rows.uptoBulk]
  | agg parts => simp [Rows.uptoBulk]
  | iface t d => simp [Rows.uptoBulk]
  | map entries => simp [Rows.uptoBulk]
  | held h => simp [Rows.uptoBulk]
theorem part_le {H : Type} {d : DataW H} {l : List (DataW H)} (h : d ∈ l) : Rows.uptoBulk d ≤ Rows.uptoBulkAll l := by
  induction l with
  | nil => cases h
  | cons x r ih =>
    simp only [Rows.uptoBulkAll]
    cases List.mem_cons.1 h with
    | inl e => subst e; omega
    | inr e => have := ih e; omega
theorem length_le {H : Type} (l : List (DataW H)) : l.length ≤ Rows.uptoBulkAll l := by
  induction l with
  | nil => simp [Rows.uptoBulkAll]
  | cons x r ih => have := one_le x; simp only [Rows.uptoBulkAll, List.length_cons]; omega
theorem Came.bulk {H : Type} {w : World} {a : Option Addr} {len cap : Nat} {d : DataW H} {l : List UInt8} (h : Came w a len cap d l) {ds : List (DataW H)} (hk : Rows.uptoSmall H ds = true) (hd : d ∈ ds) : len ≤ 1048576 := by
  have hf := h.fits
  have hall : Rows.uptoBulkAll ds ≤ 1048576 := of_decide_eq_true hk
  have hp := part_le hd
  rcases h.datum with ⟨rfl, rfl, _⟩ | ⟨elems, spare, rfl, hlen⟩
  · omega
  · have h1 := length_le elems
    have h2 := length_le spare
    simp only [Rows.uptoBulk] at hp
    omega
end Go.Proofs.YtamncdpeklbhlaaGreatDoor.Frame
namespace Go.Proofs.YtamncdpeklbhlaaGreatDoor.CrcBegun
open Go.RowKit Go.Proofs.YtamncdpeklbhlaaGreatDoor.Kit Go.Proofs.YtamncdpeklbhlaaGreatDoor.Crc Go.Proofs.YtamncdpeklbhlaaGreatDoor.SumA Go.Proofs.YtamncdpeklbhlaaGreatDoor.SumB

theorem Tab.below {w w' : World} (h : Tab w) (hb : Below w.heap.size w w') : Tab w' := fun i hi => by
  have := h i hi
  rw [← this]
  exact hb.cell (block_lt_of_cell this)
theorem Tab.drew {w : World} (h : Tab w) : Tab w.drew := h

/-- The sum, to be reckoned. -/
def feedc : Nat → List UInt8 → Nat
  | x, [] => x
  | x, c :: l => feedc (hk 8 (x ^^^ c.toNat)) l
theorem feed_feedc : ∀ (l : List UInt8) (x : Nat), feed x l = feedc x l
  | [], x => rfl
  | c :: l, x => by rw [feed_cons, oct_eq, feed_feedc l]; rfl
def digits : List UInt8 := [49, 50, 51, 52, 53, 54, 55, 56, 57]
theorem feedc_digits : feedc 4294967295 digits = 486108540 := by decide +kernel
theorem add_digits : add 0 digits = 3808858755 := by
  have h0 : inv 0 = 4294967295 := by rw [inv_eq (by decide)]
  unfold add
  rw [h0, feed_feedc, feedc_digits, inv_eq (by decide)]

/-- Several new cells, in a block that bears a mark. -/
theorem reads_marked (w : World) (us : List Value) (e : TypeId) (fr : Nat × Nat) : Reads (w.alloc (.cells us.toArray e fr)) (w.heap.size + 1) 1 (some ⟨w.heap.size, 0, none⟩) us.length us := by
  refine ⟨by simp, fun _ => ⟨_, rfl, Nat.lt_succ_self _, fun j x hj => ?_⟩⟩
  rw [Addr.add_lit, Nat.zero_add, cell_of_row _ _ j us.toArray e fr (heap_alloc_new w _)]
  simpa using hj

/-- A sum of bytes that are there, by a name. -/
theorem sum_hid (A : Option Addr) (n c r : Nat) (l : List UInt8) (w : World) (h : RB w A n l) (ht : Tab w) (hnc : n ≤ c) (hc : c ≤ 9223372036854775807) (hr : Hid (add 0 l = r)) :
    Calls Tryz.prog 117 #[.slice A n c] w fun e w' => e = .returned (.int .u32 (r : Int)) ∧ w = w' := by
  have := sum_any A n c l w h ht hnc hc
  rwa [hr.out] at this

end Go.Proofs.YtamncdpeklbhlaaGreatDoor.CrcBegun
namespace Go.Proofs.YtamncdpeklbhlaaGreatDoor.Laid
open Go.RowKit Go.Proofs.YtamncdpeklbhlaaGreatDoor.Kit Go.Proofs.YtamncdpeklbhlaaGreatDoor.Crc Go.Proofs.YtamncdpeklbhlaaGreatDoor.SumB

theorem gTab : Tryz.prog.globalNamed "tontine/crc.fours" = some 0 := by kernel_rfl
theorem gTabType : (Tryz.prog.globals[(0 : Nat)]?).map (·.type) = some 200 := by kernel_rfl
theorem cellsArr : Tryz.prog.cellsOf 200 = 16 := by kernel_rfl
theorem cellsElem : Tryz.prog.cellsOf 117 = 1 := by kernel_rfl

def ints : List Int := fours.map fun (n : Nat) => (n : Int)
theorem ints_get (i : Nat) (h : i < 16) : ints.getD i 0 = ((fours.getD i 0 : Nat) : Int) := by
  have : ∀ j : Fin 16, ints.getD j.1 0 = ((fours.getD j.1 0 : Nat) : Int) := by decide
  exact this ⟨i, h⟩
/-- What the row's list gives: the table's cells hold its sixteen numbers. -/
theorem tab_of_laid {W : World} (h : laidMetH Tryz.prog [("tontine/crc.fours", Rows.laid_tontine_crc_fours)] W) : Tab W := fun i hi => by
  have ht : Lib.TabIs Tryz.prog W "tontine/crc.fours" .u32 ints :=
    Lib.tabIs_of_head (rest := []) gTab gTabType Tryz.underlying200 Tryz.underlying117 cellsElem cellsArr h
  have := ht.cell gTab i (by show i < (ints).length; exact hi)
  rw [ints_get i hi] at this
  exact this
/-- A world for the witness: the settled one, the table holding what its initialiser lays. -/
noncomputable def laidWorld (os : Os) : World :=
  { World.holding Tryz.prog os ⟨#[], #[], []⟩ with heap := (World.holding Tryz.prog os ⟨#[], #[], []⟩).heap.modify 0 fun
      | .cells _ t frozen => .cells #[.int .u32 0, .int .u32 274646895, .int .u32 549293790, .int .u32 820201905, .int .u32 1098587580, .int .u32 1361435347, .int .u32 1640403810, .int .u32 1905808397, .int .u32 2197175160, .int .u32 2460548119, .int .u32 2722870694, .int .u32 2987750089, .int .u32 3280807620, .int .u32 3553878443, .int .u32 3811616794, .int .u32 4084100981] t frozen
      | o => o }
end Go.Proofs.YtamncdpeklbhlaaGreatDoor.Laid
set_option linter.unusedVariables false
set_option linter.unusedSimpArgs false
namespace Go.Proofs.YtamncdpeklbhlaaGreatDoor.Opens
open Go.ChangeShapes Go.WideShapes Go.ChangeAt Go.RowKit Go.Deep Go.Proofs.YtamncdpeklbhlaaGreatDoor.Kit Go.Proofs.YtamncdpeklbhlaaGreatDoor.Rlog Go.Proofs.YtamncdpeklbhlaaGreatDoor.Ents Go.Proofs.YtamncdpeklbhlaaGreatDoor.Sto Go.Proofs.YtamncdpeklbhlaaGreatDoor.Hold Go.Proofs.YtamncdpeklbhlaaGreatDoor.Cals

theorem i64_wf {z : Int} (h : (Lit.int .i64 z).wf = true) : -9223372036854775808 ≤ z ∧ z ≤ 9223372036854775807 := by
  simpa [Lit.wf, IntKind.min, IntKind.max, IntKind.signed, IntKind.bits] using h
theorem u64_wf {z : Int} (h : (Lit.int .u64 z).wf = true) : ∃ n : Nat, z = (n : Int) ∧ n < 18446744073709551616 := by
  have hb : 0 ≤ z ∧ z ≤ 18446744073709551615 := by simpa [Lit.wf, IntKind.min, IntKind.max, IntKind.signed, IntKind.bits] using h
  exact ⟨z.toNat, by omega, by omega⟩
theorem add_lit (a : Addr) (h : a = ⟨a.block, a.off, none⟩) (i : Nat) : a.add i = ⟨a.block, a.off + i, none⟩ := by
  rw [h]
  unfold Addr.add
  split
  · rename_i e; subst e; rfl
  · rfl

/-! ### What is read -/
def strD {H : Type} (s : ByteArray) : DataW H := .lit (.string s.data.toList)
def entD {H : Type} (e : Ent) : DataW H := .agg [.lit (.int .u64 (e.term : Int)), .lit (.int .u64 (e.idx : Int)), .lit (.int .i64 e.kind), strD e.data]
def listD {H : Type} (d : DataW H) (l : List Ent) : Prop := (d = .nil ∧ l = []) ∨ ∃ sp, d = .slice (l.map entD) sp
section
variable {H : Type} {enc : TypeId × Value → H} {w : World}
set_option maxRecDepth 100000 in
theorem open_ent {fuel : Nat} {cs : List Value} {x : DataW H × List MemPlace} (h : DataW.trod enc Tryz.prog w 0 (fun _ => true) true fuel 83 cs = some x) : ∃ e : Ent, cs = entCs e ∧ EntB e ∧ x.1 = entD e := by
  have hlen := (DataW.trod_struct Tryz.underlying83 h).choose_spec.choose_spec.2.2.1
  rw [show Tryz.prog.cellsOf 83 = 4 by kernel_rfl] at hlen
  match cs, hlen with
  | [v0, v1, v2, v3], _ =>
    obtain ⟨y0, y1, y2, y3, n, rfl, _, h0, h1, h2, h3⟩ := Joins.trod_struct4 Tryz.underlying83 h
    have k0 : DataW.trod enc Tryz.prog w 0 (fun _ => true) true n 38 [v0] = some y0 := h0
    have k1 : DataW.trod enc Tryz.prog w 0 (fun _ => true) true n 38 [v1] = some y1 := h1
    have k2 : DataW.trod enc Tryz.prog w 0 (fun _ => true) true n 3 [v2] = some y2 := h2
    have k3 : DataW.trod enc Tryz.prog w 0 (fun _ => true) true n 9 [v3] = some y3 := h3
    obtain ⟨z0, e0, rfl, r0⟩ := DataW.trod_int Tryz.underlying38 k0
    obtain ⟨z1, e1, rfl, r1⟩ := DataW.trod_int Tryz.underlying38 k1
    obtain ⟨z2, e2, rfl, r2⟩ := DataW.trod_int Tryz.underlying3 k2
    obtain ⟨s, e3, rfl, r3⟩ := DataW.trod_string Tryz.underlying9 k3
    simp at e0 e1 e2 e3
    subst e0 e1 e2 e3
    obtain ⟨t, rfl, ht⟩ := u64_wf r0
    obtain ⟨i, rfl, hi⟩ := u64_wf r1
    have hk := i64_wf r2
    unfold maxLen at r3
    exact ⟨⟨t, i, z2, s⟩, rfl, ⟨ht, hi, hk.1, hk.2, by simp only []; omega⟩, rfl⟩
set_option maxRecDepth 100000 in
theorem open_snapC {fuel : Nat} {cs : List Value} {x : DataW H × List MemPlace} (h : DataW.trod enc Tryz.prog w 0 (fun _ => true) true fuel 42 cs = some x) :
    ∃ s : Snap, cs = [.int .u64 (s.idx : Int), .int .u64 (s.term : Int), .int .u64 (s.cfg : Int), .string s.data] ∧ SnapB s := by
  have hlen := (DataW.trod_struct Tryz.underlying42 h).choose_spec.choose_spec.2.2.1
  rw [show Tryz.prog.cellsOf 42 = 4 by kernel_rfl] at hlen
  match cs, hlen with
  | [v0, v1, v2, v3], _ =>
    obtain ⟨y0, y1, y2, y3, n, rfl, _, h0, h1, h2, h3⟩ := Joins.trod_struct4 Tryz.underlying42 h
    have k0 : DataW.trod enc Tryz.prog w 0 (fun _ => true) true n 38 [v0] = some y0 := h0
    have k1 : DataW.trod enc Tryz.prog w 0 (fun _ => true) true n 38 [v1] = some y1 := h1
    have k2 : DataW.trod enc Tryz.prog w 0 (fun _ => true) true n 38 [v2] = some y2 := h2
    have k3 : DataW.trod enc Tryz.prog w 0 (fun _ => true) true n 9 [v3] = some y3 := h3
    obtain ⟨z0, e0, rfl, r0⟩ := DataW.trod_int Tryz.underlying38 k0
    obtain ⟨z1, e1, rfl, r1⟩ := DataW.trod_int Tryz.underlying38 k1
    obtain ⟨z2, e2, rfl, r2⟩ := DataW.trod_int Tryz.underlying38 k2
    obtain ⟨s, e3, rfl, r3⟩ := DataW.trod_string Tryz.underlying9 k3
    simp at e0 e1 e2 e3
    subst e0 e1 e2 e3
    obtain ⟨t, rfl, ht⟩ := u64_wf r0
    obtain ⟨i, rfl, hi⟩ := u64_wf r1
    obtain ⟨c, rfl, hc⟩ := u64_wf r2
    exact ⟨⟨t, i, c, s⟩, rfl, ⟨ht, hi, hc⟩⟩
/-- A slice of entries that came in. -/
structure CameE (w : World) (A : Option Addr) (n c : Nat) (l : List Ent) : Prop where
  reads : RE w w.heap.size A n l
  fits : n ≤ c
  max : c ≤ 9223372036854775807
  ents : ∀ e ∈ l, EntB e
set_option maxRecDepth 100000 in
theorem open_list {fuel : Nat} {cs : List Value} {x : DataW H × List MemPlace} (h : DataW.trod enc Tryz.prog w 0 (fun _ => true) true fuel 43 cs = some x) :
    ∃ A n c l, cs = [.slice A n c] ∧ CameE w A n c l ∧ listD x.1 l ∧ ((∀ m ∈ x.1.weights Tryz.prog 43, m ≤ reachBytes) → c * 40 ≤ 140737488351232) := by
  rcases open_slice Tryz.underlying43 h with ⟨rfl, rfl⟩ | ⟨a, len, cap, m, n, D, Pl, rfl, _, hl, hm, hmm, rfl, hi⟩
  · exact ⟨none, 0, 0, [], rfl, ⟨RE.nil _ _ _, by omega, by omega, by simp⟩, .inl ⟨rfl, rfl⟩, fun _ => by omega⟩
  · unfold maxLen at hm
    simp only [if_true] at hmm
    subst hmm
    have each : ∀ i, i < len → ∃ e : Ent, w.cells? 0 (a.add (i * 4)) 4 = some (entCs e) ∧ EntB e ∧ D i = entD e := fun i hil => by
      obtain ⟨cs', h1, h2⟩ := hi i (by omega)
      obtain ⟨e, rfl, he, hd⟩ := open_ent h2
      exact ⟨e, h1, he, hd⟩
    have : Inhabited Ent := ⟨⟨0, 0, 0, ByteArray.empty⟩⟩
    obtain ⟨f, hf⟩ := choose_lt (p := fun i (e : Ent) => w.cells? 0 (a.add (i * 4)) 4 = some (entCs e) ∧ EntB e ∧ D i = entD e) each
    have hat : ∀ k, k < len → ((List.range len).map f)[k]? = some (f k) := fun k hk => by simp [hk]
    refine ⟨some a, len, _, (List.range len).map f, rfl, ⟨⟨?_, fun hn => ?_⟩, hl, by omega, fun e he => ?_⟩, .inr ⟨(List.range (m - len)).map fun j => D (len + j), ?_⟩, fun hw => ?_⟩
    · rw [ecells_length]; simp
    · have hb : a.block < w.heap.size := by
        obtain ⟨_, _, hc⟩ := World.cells?_some (hf 0 hn).1
        have h0 := hc 0 (by decide)
        rw [Nat.zero_mul, Kit.add_zero, Kit.add_zero] at h0
        exact World.block_lt_of_cell? _ _ h0
      refine ⟨a, rfl, hb, fun j u hj => ?_⟩
      have hjl : j < len * 4 := by
        have := (List.getElem?_eq_some_iff.1 hj).1
        rw [ecells_length] at this
        simpa using this
      obtain ⟨k, r, hr, rfl⟩ : ∃ k r, r < 4 ∧ j = k * 4 + r := ⟨j / 4, j % 4, by omega, by omega⟩
      have hk : k < len := by omega
      rw [ecells_get _ k r _ (hat k hk) hr] at hj
      obtain ⟨_, _, hc⟩ := World.cells?_some (hf k hk).1
      have h0 := hc r hr
      rw [Go.Deep.add_add, hj] at h0
      exact h0
    · obtain ⟨k, hk, rfl⟩ := List.mem_map.1 he
      exact (hf k (List.mem_range.1 hk)).2.1
    · simp only [List.map_map]
      congr 1
      exact List.map_congr_left fun k hk => (hf k (List.mem_range.1 hk)).2.2
    · have := hw ((((List.range len).map D).length + ((List.range (m - len)).map fun j => D (len + j)).length) * Tryz.prog.bytesOf 83) (by simp [DataW.weights, Tryz.underlying43])
      rw [show Tryz.prog.bytesOf 83 = 40 by kernel_rfl] at this
      simp only [List.length_map, List.length_range, reachBytes] at this
      omega

/-! ### The second form's bound -/
theorem bulk_ents {l : List Ent} : l.length + dataW l ≤ Rows.uptoBulkAll (H := H) (l.map entD) := by
  induction l with
  | nil => simp [dataW, Rows.uptoBulkAll]
  | cons e l ih =>
    have h2 : dataW (e :: l) = e.data.size / 50 + dataW l := by simp [dataW]
    have hs : e.data.data.toList.length = e.data.size := by simp
    simp only [List.map_cons, Rows.uptoBulkAll, List.length_cons, entD, strD, Rows.uptoBulk, hs]
    omega
theorem bulk_list {d : DataW H} {l : List Ent} (h : listD d l) : l.length + dataW l + 1 ≤ Rows.uptoBulk d := by
  rcases h with ⟨rfl, rfl⟩ | ⟨sp, rfl⟩
  · simp [dataW, Rows.uptoBulk]
  · have := bulk_ents (H := H) (l := l)
    simp only [Rows.uptoBulk]
    omega
set_option maxRecDepth 100000 in
theorem open_hardC {fuel : Nat} {cs : List Value} {x : DataW H × List MemPlace} (h : DataW.trod enc Tryz.prog w 0 (fun _ => true) true fuel 40 cs = some x) :
    ∃ (t : Nat) (v : Int), cs = [.int .u64 (t : Int), .int .i64 v] ∧ t < 18446744073709551616 ∧ -9223372036854775808 ≤ v ∧ v ≤ 9223372036854775807 := by
  obtain ⟨xs, n, _, rfl, hlen, hxl, hfs⟩ := DataW.trod_struct Tryz.underlying40 h
  rw [show Tryz.prog.cellsOf 40 = 2 by kernel_rfl] at hlen
  match cs, hlen, xs, hxl with
  | [v0, v1], _, [y0, y1], _ =>
    have k0 : DataW.trod enc Tryz.prog w 0 (fun _ => true) true n 38 [v0] = some y0 := hfs 0 _ rfl
    have k1 : DataW.trod enc Tryz.prog w 0 (fun _ => true) true n 3 [v1] = some y1 := hfs 1 _ rfl
    obtain ⟨z0, e0, rfl, r0⟩ := DataW.trod_int Tryz.underlying38 k0
    obtain ⟨z1, e1, rfl, r1⟩ := DataW.trod_int Tryz.underlying3 k1
    simp at e0 e1
    subst e0 e1
    obtain ⟨t, rfl, ht⟩ := u64_wf r0
    have hk := i64_wf r1
    exact ⟨t, z1, rfl, ht, hk.1, hk.2⟩
set_option maxRecDepth 100000 in
theorem open_snapD {fuel : Nat} {cs : List Value} {x : DataW H × List MemPlace} (h : DataW.trod enc Tryz.prog w 0 (fun _ => true) true fuel 42 cs = some x) :
    ∃ s : Snap, cs = [.int .u64 (s.idx : Int), .int .u64 (s.term : Int), .int .u64 (s.cfg : Int), .string s.data] ∧ SnapB s ∧ s.data.size ≤ 9223372036854775807 ∧ s.data.size / 50 ≤ Rows.uptoBulk x.1 := by
  have hlen := (DataW.trod_struct Tryz.underlying42 h).choose_spec.choose_spec.2.2.1
  rw [show Tryz.prog.cellsOf 42 = 4 by kernel_rfl] at hlen
  match cs, hlen with
  | [v0, v1, v2, v3], _ =>
    obtain ⟨y0, y1, y2, y3, n, hx, _, h0, h1, h2, h3⟩ := Joins.trod_struct4 Tryz.underlying42 h
    have k0 : DataW.trod enc Tryz.prog w 0 (fun _ => true) true n 38 [v0] = some y0 := h0
    have k1 : DataW.trod enc Tryz.prog w 0 (fun _ => true) true n 38 [v1] = some y1 := h1
    have k2 : DataW.trod enc Tryz.prog w 0 (fun _ => true) true n 38 [v2] = some y2 := h2
    have k3 : DataW.trod enc Tryz.prog w 0 (fun _ => true) true n 9 [v3] = some y3 := h3
    obtain ⟨z0, e0, rfl, r0⟩ := DataW.trod_int Tryz.underlying38 k0
    obtain ⟨z1, e1, rfl, r1⟩ := DataW.trod_int Tryz.underlying38 k1
    obtain ⟨z2, e2, rfl, r2⟩ := DataW.trod_int Tryz.underlying38 k2
    obtain ⟨s, e3, rfl, r3⟩ := DataW.trod_string Tryz.underlying9 k3
    simp at e0 e1 e2 e3
    subst e0 e1 e2 e3
    obtain ⟨t, rfl, ht⟩ := u64_wf r0
    obtain ⟨i, rfl, hi⟩ := u64_wf r1
    obtain ⟨c, rfl, hc⟩ := u64_wf r2
    unfold maxLen at r3
    refine ⟨⟨t, i, c, s⟩, rfl, ⟨ht, hi, hc⟩, by simp only []; omega, ?_⟩
    have hs : s.data.toList.length = s.size := by simp
    rw [hx]
    simp only [Rows.uptoBulk, Rows.uptoBulkAll, hs]
    omega
set_option maxRecDepth 100000 in
theorem open_callC {fuel : Nat} {cs : List Value} {x : DataW H × List MemPlace} (h : DataW.trod enc Tryz.prog w 0 (fun _ => true) true fuel 57 cs = some x) :
    ∃ c : Cal, cs = callCs c ∧ CalB w w.heap.size c ∧ weigh c ≤ Rows.uptoBulk x.1 := by
  obtain ⟨xs, n, _, rfl, hlen, hxl, hfs⟩ := DataW.trod_struct Tryz.underlying57 h
  rw [show Tryz.prog.cellsOf 57 = 8 by kernel_rfl] at hlen
  match cs, hlen, xs, hxl with
  | [v0, v1, v2, v3, v4, v5, v6, v7], _, [y0, y1, y2, y3], _ =>
    have k0 : DataW.trod enc Tryz.prog w 0 (fun _ => true) true n 4 [v0] = some y0 := hfs 0 _ rfl
    have k1 : DataW.trod enc Tryz.prog w 0 (fun _ => true) true n 40 [v1, v2] = some y1 := hfs 1 _ rfl
    have k2 : DataW.trod enc Tryz.prog w 0 (fun _ => true) true n 42 [v3, v4, v5, v6] = some y2 := hfs 2 _ rfl
    have k3 : DataW.trod enc Tryz.prog w 0 (fun _ => true) true n 43 [v7] = some y3 := hfs 3 _ rfl
    obtain ⟨z0, e0, rfl⟩ := DataW.trod_bool Tryz.underlying4 k0
    obtain ⟨tm, vt, e1, ht, hv0, hv1⟩ := open_hardC k1
    obtain ⟨sn, e2, hsn, hsd, hsb⟩ := open_snapD k2
    obtain ⟨A, ln, cp, l, e3, hl, hd, hr⟩ := open_list k3
    simp only [List.cons.injEq, and_true] at e0 e1 e2 e3
    obtain ⟨rfl, rfl⟩ := e1
    obtain ⟨rfl, rfl, rfl, rfl⟩ := e2
    subst e0 e3
    refine ⟨⟨z0, tm, vt, sn, A, ln, cp, l⟩, rfl, ⟨ht, hv0, hv1, hsn, hsd, hl.reads, hl.fits, hl.max, hl.ents⟩, ?_⟩
    have h1 := bulk_list hd
    simp only [weigh, Rows.uptoBulk, Rows.uptoBulkAll, List.map_cons, List.map_nil]
    omega
theorem bulk_all {n : Nat} {D : Nat → DataW H} {f : Nat → Cal} (h : ∀ i, i < n → weigh (f i) ≤ Rows.uptoBulk (D i)) : (((List.range n).map f).map weigh).sum ≤ Rows.uptoBulkAll ((List.range n).map D) := by
  have key : ∀ L : List Nat, (∀ i ∈ L, i < n) → ((L.map f).map weigh).sum ≤ Rows.uptoBulkAll (L.map D) := by
    intro L
    induction L with
    | nil => intro _; simp [Rows.uptoBulkAll]
    | cons i L ih =>
      intro hL
      have h1 := ih fun j hj => hL j (by simp [hj])
      have h2 := h i (hL i (by simp))
      simp only [List.map_cons, List.sum_cons, Rows.uptoBulkAll]
      omega
  exact key (List.range n) fun i hi => List.mem_range.1 hi
set_option maxRecDepth 100000 in
theorem open_calls {fuel : Nat} {cs : List Value} {x : DataW H × List MemPlace} (h : DataW.trod enc Tryz.prog w 0 (fun _ => true) true fuel 22 cs = some x) :
    ∃ A n c L, cs = [.slice A n c] ∧ Holds w w.heap.size A n L ∧ n ≤ c ∧ c ≤ 9223372036854775807 ∧ total L ≤ Rows.uptoBulk x.1 := by
  rcases open_slice Tryz.underlying22 h with ⟨rfl, rfl⟩ | ⟨a, len, cap, m, n, D, Pl, rfl, _, hl, hm, hmm, rfl, hi⟩
  · exact ⟨none, 0, 0, [], rfl, Holds.nil _ _ _, by omega, by omega, by simp [total, Rows.uptoBulk]⟩
  · unfold maxLen at hm
    simp only [if_true] at hmm
    subst hmm
    have each : ∀ i, i < len → ∃ c : Cal, w.cells? 0 (a.add (i * 8)) 8 = some (callCs c) ∧ CalB w w.heap.size c ∧ weigh c ≤ Rows.uptoBulk (D i) := fun i hil => by
      obtain ⟨cs', h1, h2⟩ := hi i (by omega)
      obtain ⟨c, rfl, hc, hd⟩ := open_callC h2
      exact ⟨c, h1, hc, hd⟩
    have : Inhabited Cal := ⟨⟨false, 0, 0, ⟨0, 0, 0, ByteArray.empty⟩, none, 0, 0, []⟩⟩
    obtain ⟨f, hf⟩ := choose_lt (p := fun i (c : Cal) => w.cells? 0 (a.add (i * 8)) 8 = some (callCs c) ∧ CalB w w.heap.size c ∧ weigh c ≤ Rows.uptoBulk (D i)) each
    have hsp : 0 < len → a = ⟨a.block, a.off, none⟩ := fun hn => by
      obtain ⟨_, _, hc⟩ := World.cells?_some (hf 0 hn).1
      have h0 := hc 0 (by decide)
      rw [Nat.zero_mul, Kit.add_zero, Kit.add_zero] at h0
      have hs := World.cell?_spot h0
      obtain ⟨b, o, s⟩ := a
      have : s = none := hs
      subst this
      rfl
    refine ⟨some a, len, _, (List.range len).map f, rfl, ⟨by simp, fun k c hk => ?_⟩, hl, by omega, ?_⟩
    · have hkl : k < len := by
        have := (List.getElem?_eq_some_iff.1 hk).1
        simpa using this
      have hc : f k = c := by simpa [hkl] using hk
      subst hc
      obtain ⟨h1, h2, _⟩ := hf k hkl
      obtain ⟨_, _, hc⟩ := World.cells?_some h1
      have ha := hsp (by omega)
      have hcell : ∀ j, j < 8 → w.cell? ⟨a.block, a.off + k * 8 + j, none⟩ = (callCs (f k))[j]? := fun j hj => by
        have := hc j hj
        rw [Go.Deep.add_add, add_lit a ha, ← Nat.add_assoc] at this
        exact this
      have h0 := hcell 0 (by decide)
      have hb : a.block < w.heap.size := World.block_lt_of_cell? w (⟨a.block, a.off + k * 8 + 0, none⟩ : Addr) h0
      exact ⟨a.block, a.off, by rw [← ha], hb, ⟨h0, hcell 1 (by decide), hcell 2 (by decide), hcell 3 (by decide), hcell 4 (by decide), hcell 5 (by decide), hcell 6 (by decide), hcell 7 (by decide)⟩, h2⟩
    · have := bulk_all (D := D) (f := f) fun i hi => (hf i hi).2.2
      unfold total
      simp only [Rows.uptoBulk]
      omega
end
/-! ### By the row's own hands -/
section
variable {H : Type} {enc : TypeId × Value → H} {w : World} {b0 : Nat} {v : Value} {d : DataW H} {p : List MemPlace}
set_option maxRecDepth 100000 in
theorem arg_hard (hv : Value.okWide Tryz.prog w .any b0 40 v) (h : DataW.Trod enc Tryz.prog w 0 (fun _ => true) true 40 v d p) :
    ∃ (t : Nat) (u : Int), v = .agg #[.int .u64 (t : Int), .int .i64 u] ∧ t < 18446744073709551616 ∧ -9223372036854775808 ≤ u ∧ u ≤ 9223372036854775807 := by
  obtain ⟨cs, rfl, _⟩ := okWide_struct Tryz.underlying40 hv
  obtain ⟨fuel, hf⟩ := h
  obtain ⟨t, u, hs, h1, h2, h3⟩ := open_hardC hf
  exact ⟨t, u, by rw [← Array.toArray_toList (xs := cs)]; show Value.agg (List.toArray cs.toList) = _; rw [show cs.toList = _ from hs], h1, h2, h3⟩
set_option maxRecDepth 100000 in
theorem arg_calls (hv : Value.okWide Tryz.prog w .any b0 22 v) (h : DataW.Trod enc Tryz.prog w 0 (fun _ => true) true 22 v d p) :
    ∃ A n c L, v = .slice A n c ∧ Holds w w.heap.size A n L ∧ n ≤ 9223372036854775807 ∧ total L ≤ Rows.uptoBulk d := by
  obtain ⟨A, n, c, rfl⟩ := okWide_slice Tryz.underlying22 hv
  obtain ⟨fuel, hf⟩ := h
  obtain ⟨A', n', c', L, he, h1, h2, h3, h4⟩ := open_calls hf
  simp [Value.cells] at he
  obtain ⟨rfl, rfl, rfl⟩ := he
  exact ⟨_, _, _, L, rfl, h1, by omega, h4⟩
set_option maxRecDepth 100000 in
theorem arg_u64 (hv : Value.okWide Tryz.prog w .any b0 38 v) (h : DataW.Trod enc Tryz.prog w 0 (fun _ => true) true 38 v d p) : ∃ n : Nat, v = .int .u64 (n : Int) ∧ n < 18446744073709551616 := by
  obtain ⟨x, rfl, _, _, hw⟩ := open_int Tryz.underlying38 hv h
  obtain ⟨n, rfl, hn⟩ := u64_wf hw
  exact ⟨n, rfl, hn⟩
set_option maxRecDepth 100000 in
theorem arg_int (hv : Value.okWide Tryz.prog w .any b0 3 v) (h : DataW.Trod enc Tryz.prog w 0 (fun _ => true) true 3 v d p) : ∃ z : Int, v = .int .i64 z ∧ -9223372036854775808 ≤ z ∧ z ≤ 9223372036854775807 := by
  obtain ⟨x, rfl, _, _, hw⟩ := open_int Tryz.underlying3 hv h
  have := i64_wf hw
  exact ⟨x, rfl, this.1, this.2⟩
end
end Go.Proofs.YtamncdpeklbhlaaGreatDoor.Opens
set_option linter.unusedVariables false
set_option linter.unusedSimpArgs false
namespace Go.Proofs.YtamncdpeklbhlaaGreatDoor.OpensB
open Go.ChangeShapes Go.WideShapes Go.ChangeAt Go.RowKit Go.Deep Go.Proofs.YtamncdpeklbhlaaGreatDoor.Kit Go.Proofs.YtamncdpeklbhlaaGreatDoor.ScA
open Go.Proofs.YtamncdpeklbhlaaGreatDoor.DskWalkC (str)

theorem weights_in {H : Type} {P : Program} {e : TypeId} : ∀ {l : List (DataW H)} {d : DataW H}, d ∈ l → ∀ n ∈ d.weights P e, n ∈ DataW.weightsAll P e l
  | x :: l, d, h, n, hn => by
    simp only [DataW.weightsAll, List.mem_append]
    rcases List.mem_cons.1 h with rfl | h
    · exact .inl hn
    · exact .inr (weights_in h n hn)
section
variable {H : Type} {enc : TypeId × Value → H} {w : World} {b0 : Nat} {v : Value} {d : DataW H} {p : List MemPlace}
theorem reads_of {y : Addr} {len : Nat} {Sx : Nat → ByteArray} (h : ∀ i, i < len → w.cell? (y.add i) = some (.string (Sx i))) : RS w (some y) len ((List.range len).map fun i => (Sx i).data.toList) := by
  refine ⟨by simp [ScA.strs], fun hn => ?_⟩
  have h0 := h 0 (by omega)
  rw [Kit.add_zero] at h0
  refine ⟨y, rfl, World.block_lt_of_cell? _ _ h0, fun j u hj => ?_⟩
  have hjl : j < len := by
    have := (List.getElem?_eq_some_iff.1 hj).1
    simpa [ScA.strs] using this
  rw [h j hjl, ← hj]
  simp [ScA.strs, hjl]
  rfl
set_option maxRecDepth 100000 in
theorem arg_string (hv : Value.okWide Tryz.prog w .any b0 9 v) (h : DataW.Trod enc Tryz.prog w 0 (fun _ => true) true 9 v d p) :
    ∃ s : ByteArray, v = .string s ∧ ((∀ m ∈ d.weights Tryz.prog 9, m ≤ reachBytes) → s.size ≤ 140737488355328) := by
  obtain ⟨s, rfl, rfl, _, _⟩ := Go.ChangeMaps.open_string Tryz.underlying9 hv h
  refine ⟨s, rfl, fun hw => ?_⟩
  have := hw s.data.toList.length (by simp [DataW.weights])
  have h2 := reachBytes_lt
  have h3 : s.data.toList.length = s.size := by simp
  omega
set_option maxRecDepth 100000 in
theorem arg_strs (hv : Value.okWide Tryz.prog w .any b0 68 v) (h : DataW.Trod enc Tryz.prog w 0 (fun _ => true) true 68 v d p) :
    ∃ A n c l, v = .slice A n c ∧ RS w A n l ∧ ((∀ m ∈ d.weights Tryz.prog 68, m ≤ reachBytes) → n ≤ 17592186044416) ∧ ((∀ m ∈ d.weights Tryz.prog 68, m ≤ reachBytes) → ∀ y ∈ l, y.length ≤ 140737488355328) := by
  obtain ⟨A, n, c, rfl⟩ := okWide_slice Tryz.underlying68 hv
  obtain ⟨fuel, hf⟩ := h
  rcases open_strs Tryz.underlying68 Tryz.underlying9 (by kernel_rfl) hf with ⟨hcs, hx⟩ | ⟨y, l, c', m, Sx, hcs, _, hl, hm, hmm, hx, hcell⟩
  · simp [Value.cells] at hcs
    obtain ⟨rfl, rfl, rfl⟩ := hcs
    exact ⟨none, 0, 0, [], rfl, Kit.Reads.none_, fun _ => by omega, fun _ y hy => by simp at hy⟩
  · simp [Value.cells] at hcs
    obtain ⟨rfl, rfl, rfl⟩ := hcs
    unfold maxLen at hm
    simp only [if_true] at hmm
    simp only [Prod.mk.injEq] at hx
    obtain ⟨rfl, _⟩ := hx
    refine ⟨some y, n, c, _, rfl, reads_of fun i hi => (hcell i (by omega)).1, fun hw => ?_, fun hw y hy => ?_⟩
    · have := hw ((((List.range n).map fun i => (DataW.lit (.string (Sx i).data.toList) : DataW H)).length + ((List.range (m - n)).map fun j => (DataW.lit (.string (Sx (n + j)).data.toList) : DataW H)).length) * Tryz.prog.bytesOf 9) (by simp [DataW.weights, Tryz.underlying68])
      rw [show Tryz.prog.bytesOf 9 = 16 by kernel_rfl] at this
      have h2 := reachBytes_lt
      simp only [List.length_map, List.length_range] at this
      omega
    · obtain ⟨i, hi, rfl⟩ := List.mem_map.1 hy
      have : (Sx i).data.toList.length ≤ reachBytes := hw _ (by
        simp only [DataW.weights, Tryz.underlying68, List.mem_cons, List.mem_append]
        refine .inr (.inl (weights_in (d := .lit (.string (Sx i).data.toList)) (List.mem_map.2 ⟨i, hi, rfl⟩) _ ?_))
        simp [DataW.weights])
      have h2 := reachBytes_lt
      omega
end
end Go.Proofs.YtamncdpeklbhlaaGreatDoor.OpensB
set_option linter.unusedVariables false
namespace Go.Proofs.YtamncdpeklbhlaaGreatDoor.Light
open Go.RowKit Go.Proofs.YtamncdpeklbhlaaGreatDoor.Kit Go.Proofs.YtamncdpeklbhlaaGreatDoor.Blocks Go.Proofs.YtamncdpeklbhlaaGreatDoor.Rlog Go.Proofs.YtamncdpeklbhlaaGreatDoor.Sto Go.Proofs.YtamncdpeklbhlaaGreatDoor.Ents Go.Proofs.YtamncdpeklbhlaaGreatDoor.Hold Go.Proofs.YtamncdpeklbhlaaGreatDoor.Cals Go.Proofs.YtamncdpeklbhlaaGreatDoor.RlgWalkC

set_option maxRecDepth 100000 in
set_option maxHeartbeats 2000000 in
theorem light_any (C : Option Addr) (m cc : Nat) (L : List Cal) (w : World) (hh : Holds w w.heap.size C m L) (hm : m ≤ 9223372036854775807) (hT : total L ≤ 1048576) :
    Calls Tryz.prog 7 #[.slice C m cc] w fun e w' => e = .returned (.bool (decide (total L ≤ 400))) ∧ Below w.heap.size w w' := by
  have HM := Lib.hid hh.1
  have HH := Lib.hid hh
  have HT := Lib.hid hT
  obtain ⟨q, hq⟩ : ∃ q, decide (total L ≤ 400) = q := ⟨_, rfl⟩
  rw [hq]
  have HQ := Lib.hid hq
  clear hh hT hq
  go_enter Tryz.func7, Tryz.ntmps7
  go_wp2_with fail
  go_loopw [3, 10] (fun a x wr => ∃ (k T : Nat), k ≤ m ∧ a = .int .i64 (T : Int) ∧ x = .int .i64 (k : Int) ∧ Hid (total (L.take k) = T) ∧ T ≤ 1048576 ∧ Below w.heap.size w wr) (fun _ x _ => m - (intOf x).toNat)
  case atStart => exact ⟨0, 0, by omega, rfl, rfl, Lib.hid (by simp [total]), by omega, Below.refl _ _⟩
  case round =>
    obtain ⟨k, T, hk, rfl, rfl, HS, hTb, hbel⟩ := hrel
    by_cases hkm : k < m
    · obtain ⟨x, hx⟩ : ∃ x, L[k]? = some x := ⟨_, List.getElem?_eq_getElem (by rw [HM.out]; exact hkm)⟩
      obtain ⟨b, o, rfl, hbl, hten, hcal⟩ := HH.out.2 k x hx
      have ht := hten.below hbel hbl
      have c0 := ht.c0
      have c1 := ht.c1
      have c2 := ht.c2
      have c3 := ht.c3
      have c4 := ht.c4
      have c5 := ht.c5
      have c6 := ht.c6
      have c7 := ht.c7
      have hle := total_mem hx
      rw [HS.out] at hle
      have hsum := total_take hx
      rw [HS.out] at hsum
      have HSum := Lib.hid hsum
      have hwx : weigh x = 1 + x.n + x.snap.data.size / 50 + dataW x.l := by unfold weigh; rw [RE.len hcal.list]
      rw [hwx] at hle hsum
      have hT0 := HT.out
      have HWX := Lib.hid hwx
      have hd63 := hcal.data
      have hnb : x.n ≤ 1048576 := by omega
      have hdb : x.snap.data.size / 50 ≤ 1048576 := by omega
      have hdi : ((x.snap.data.size : Int) / 50) = ((x.snap.data.size / 50 : Nat) : Int) := by omega
      obtain ⟨D, hD⟩ : ∃ D, x.snap.data.size / 50 = D := ⟨_, rfl⟩
      rw [hD] at hdi hdb hle
      have HD := Lib.hid hD
      obtain ⟨W, hW⟩ : ∃ W, dataW x.l = W := ⟨_, rfl⟩
      rw [hW] at hle
      have HW := Lib.hid hW
      have HCal := Lib.hid hcal
      have hTD : T + 1 + x.n + D + W ≤ 1048576 := by omega
      clear ht hten hcal hsum hx hwx hD hW hle hT0
      go_wp2_with fail
      have hb1 : Below w.heap.size w (wr.alloc (.cells #[.bool x.anew, .int .u64 (x.term : Int), .int .i64 x.vote, .int .u64 (x.snap.idx : Int), .int .u64 (x.snap.term : Int), .int .u64 (x.snap.cfg : Int), .string x.snap.data, .slice x.A x.n x.c] 57)) := hbel.alloc hbel.size _
      generalize wr.alloc (.cells #[.bool x.anew, .int .u64 (x.term : Int), .int .i64 x.vote, .int .u64 (x.snap.idx : Int), .int .u64 (x.snap.term : Int), .int .u64 (x.snap.cfg : Int), .string x.snap.data, .slice x.A x.n x.c] 57) = w1 at hb1 ⊢
      obtain ⟨P, hP⟩ : ∃ P, T + (1 + x.n + D) = P := ⟨_, rfl⟩
      have hPi : ((T : Int) + (1 + (x.n : Int) + (D : Int))) = (P : Int) := by omega
      rw [hPi]
      have HP := Lib.hid hP
      have hPb : P + W ≤ 1048576 := by omega
      clear hP hPi
      go_loopw [3, 29] (fun a y wi => ∃ (j S : Nat), j ≤ x.n ∧ a = .int .i64 (S : Int) ∧ y = .int .i64 (j : Int) ∧ Hid (S = P + dataW (x.l.take j)) ∧ S ≤ 1048576 ∧ Below w.heap.size w wi) (fun _ y _ => x.n - (intOf y).toNat)
      case atStart => exact ⟨0, P, by omega, rfl, rfl, Lib.hid (by simp [dataW]), by omega, hb1⟩
      case round =>
        obtain ⟨j, S, hj, rfl, rfl, HS2, hSb, hbi⟩ := hrel
        by_cases hjn : j < x.n
        · obtain ⟨b', o', e, hA, hbl', he, hfour⟩ := RE.at_ HCal.out.list hjn
          have hfr := Four.below hfour hbi hbl'
          have d0 := hfr.c0
          have d1 := hfr.c1
          have d2 := hfr.c2
          have d3 := hfr.c3
          have he63 := (HCal.out.ents e (List.mem_of_getElem? he)).size
          have hdt := dataW_take he
          have hdl := dataW_le x.l (j + 1)
          rw [HW.out] at hdl
          have hss := HS2.out
          have hS2 : S + e.data.size / 50 = P + dataW (x.l.take (j + 1)) := by omega
          have hSb2 : S + e.data.size / 50 ≤ 1048576 := by omega
          have HS3 := Lib.hid hS2
          have hdi2 : ((e.data.size : Int) / 50) = ((e.data.size / 50 : Nat) : Int) := by omega
          obtain ⟨D2, hD2⟩ : ∃ D2, e.data.size / 50 = D2 := ⟨_, rfl⟩
          rw [hD2] at hdi2 hSb2 HS3
          have hz4 := hbi.size
          simp only [hA]
          clear hfr hfour he hdt hdl hss hS2 hD2
          go_wp2_with fail
          go_roundw
          case rel => exact ⟨j + 1, S + D2, by omega, by go_num, by go_num, HS3, hSb2, hbi.alloc hz4 _⟩
          case measure => simp [intOf]; omega
        · obtain rfl : j = x.n := by omega
          have hfin : Hid (total (L.take (k + 1)) = S) := by
            have h1 := HS2.out
            rw [List.take_of_length_le (by rw [RE.len HCal.out.list]; exact Nat.le_refl _), HW.out] at h1
            have h2 := HSum.out
            have h3 := HWX.out
            rw [HD.out, HW.out] at h3
            have h4 := HP.out
            show _ = S
            omega
          go_wp2_with fail
          go_roundw
          case rel => exact ⟨k + 1, S, by omega, rfl, by go_num, hfin, hSb, hbi⟩
          case measure => simp [intOf]; omega
    · obtain rfl : k = m := by omega
      have hall : total L = T := by
        have := HS.out
        rwa [List.take_of_length_le (by rw [HM.out]; exact Nat.le_refl _)] at this
      have hqi : decide ((T : Int) ≤ 400) = q := by
        rw [← HQ.out, hall]
        by_cases h : T ≤ 400
        · rw [decide_eq_true h]; exact decide_eq_true (by omega)
        · rw [decide_eq_false h]; exact decide_eq_false (by omega)
      have hqn : decide (T ≤ 400) = q := by rw [← HQ.out, hall]
      clear hall
      go_wp2
      go_ret
      exact ⟨rfl, hbel⟩
end Go.Proofs.YtamncdpeklbhlaaGreatDoor.Light
set_option linter.unusedVariables false
set_option linter.unusedSimpArgs false
namespace Go.Proofs.YtamncdpeklbhlaaGreatDoor.Lit
open Go.Proofs.YtamncdpeklbhlaaGreatDoor.Rlog Go.Proofs.YtamncdpeklbhlaaGreatDoor.Sto Go.Proofs.YtamncdpeklbhlaaGreatDoor.Sav Go.Proofs.YtamncdpeklbhlaaGreatDoor.Wal Go.Proofs.YtamncdpeklbhlaaGreatDoor.Solo Go.Proofs.YtamncdpeklbhlaaGreatDoor.Sol Go.Proofs.YtamncdpeklbhlaaGreatDoor.Cals
open Go.Proofs.YtamncdpeklbhlaaGreatDoor.Quorum (sound)
open Go.Proofs.YtamncdpeklbhlaaGreatDoor.Model (M)
open Go.Proofs.YtamncdpeklbhlaaGreatDoor.Log (wopen wappend wanew)
open Go.Proofs.YtamncdpeklbhlaaGreatDoor.Model.M (kept)

theorem bulk_le : ∀ (l : List Ent), bulk l ≤ 50 * dataW l + 87 * l.length
  | [] => by simp [bulk]
  | e :: l => by
    have h := bulk_le l
    unfold bulk dataW at h ⊢
    simp only [List.map_cons, List.sum_cons, List.length_cons]
    omega
theorem sound7 : sound 7 = true := by decide
def weight (s : Sta) : Nat := s.es.length + s.snap.data.size / 50 + dataW s.es
def Fit (i : Nat) (c : Nat) (m : M) (s : Sta) (T : Nat) : Prop := ∃ J, Recs J ∧ makes (first c) J = some s ∧ m = solo 1048576 (-1) false i (frames J) [] true (fun _ => false) ∧ (frames J).length ≤ 150 * T ∧ (weight s ≤ T ∧ s.snap.data.size ≤ 32768)
theorem fit_first (i c : Nat) : Fit i c (solo 1048576 (-1) false i [] [] true (fun _ => false)) (first c) 0 :=
  ⟨[], (fun x hx => by cases hx), rfl, rfl, by simp [frames], by simp [weight, first, dataW], by simp [first]⟩
theorem Fit.more {i c T T' : Nat} {m : M} {s : Sta} (h : Fit i c m s T) (hT : T ≤ T') : Fit i c m s T' := by
  obtain ⟨J, h1, h2, h3, h4, h5⟩ := h
  exact ⟨J, h1, h2, h3, by omega, by omega, h5.2⟩
theorem Fit.len {i c T : Nat} {m : M} {s : Sta} (h : Fit i c m s T) : s.es.length ≤ T := by
  obtain ⟨J, h1, h2, h3, h4, h5, h6⟩ := h
  unfold weight at h5
  omega
theorem while_data (f : Ent → Bool) : ∀ (l : List Ent), dataW (l.takeWhile f) ≤ dataW l
  | [] => Nat.le_refl _
  | e :: l => by
    have h := while_data f l
    rw [List.takeWhile_cons]
    split
    · unfold dataW at h ⊢
      simp only [List.map_cons, List.sum_cons]
      omega
    · unfold dataW
      simp
theorem stay_data (s : Sta) (l : List Ent) : dataW (stayE s l) ≤ dataW s.es := by
  cases l with
  | nil => exact Nat.le_refl _
  | cons e r => exact while_data _ _
theorem dataW_append (a b : List Ent) : dataW (a ++ b) = dataW a + dataW b := by simp [dataW]
theorem stay_len (s : Sta) (l : List Ent) : (stayE s l).length ≤ s.es.length := by
  cases l with
  | nil => exact Nat.le_refl _
  | cons e r => exact (List.takeWhile_sublist _).length_le
theorem fit_save {i c T x : Nat} {m : M} {s : Sta} (hi : i < 16) (h : Fit i c m s T) (hr : right s = true) {t : Nat} {v : Int} {l : List Ent} (ht : t < 18446744073709551616) (hv0 : -9223372036854775808 ≤ v) (hv1 : v ≤ 9223372036854775807) (hl : ∀ e ∈ l, EntB e)
    (hx : 1 + l.length + dataW l ≤ x) (hT : T + x ≤ 500) : ∃ r m' s', ssave m i s t v l = (r, (m', s')) ∧ Fit i c m' s' (T + x) ∧ (right (savedS s t v l) = true → r = 0 ∧ s' = savedS s t v l) := by
  by_cases hok : right (savedS s t v l) = true
  · obtain ⟨J, h1, h2, h3, h4, h5⟩ := h
    have hrec : Recs (out s t v l) := recs_out ht hl (data_saved hok)
    have hw := weigh_out (s := s) (v := v) ht hl
    have hb := bulk_le l
    have hlen := out_len s t v l
    have hfs := frames_short (out s t v l)
    have hfl : (frames (out s t v l)).length ≤ 150 * x := by omega
    have hwr := solo_wappend_free (R := 1048576) (i := i) (F := frames J) (T := fun _ => false) hi (out s t v l) hrec (by omega)
    rw [← frames_append] at hwr
    have hst := stay_len s l
    have hsd := stay_data s l
    have hel : weight (savedS s t v l) ≤ T + x ∧ (savedS s t v l).snap.data.size ≤ 32768 := by
      unfold savedS weight at *
      simp only [List.length_append, dataW_append]
      exact ⟨by omega, h5.2⟩
    have hmk : makes (first c) (J ++ out s t v l) = some (savedS s t v l) := by
      rw [makes_append, h2]
      exact records_ok hr ht hv0 hv1 hl hok
    refine ⟨0, solo 1048576 (-1) false i (frames (J ++ out s t v l)) [] true (fun _ => false), savedS s t v l, ?_, ⟨J ++ out s t v l, h1.append hrec, hmk, rfl, ?_, hel⟩, fun _ => ⟨rfl, rfl⟩⟩
    · rw [h3]
      refine ssave_ok hok (fun _ => hwr) fun h0 => ?_
      rw [h0, List.append_nil]
    · rw [frames_append, List.length_append]
      omega
  · refine ⟨1, m, s, ?_, h.more (by omega), fun e => absurd e hok⟩
    unfold ssave
    rw [if_neg hok]
theorem fit_anew {i c T x : Nat} {m : M} {s y : Sta} (hi : i < 16) (h : Fit i c m s T) (hb : StaB y) (hd : y.snap.data.size ≤ 9223372036854775807)
    (hx : 1 + y.es.length + y.snap.data.size / 50 + dataW y.es ≤ x) (hT : T + x ≤ 500) : ∃ r m' s', sanew m i s y = (r, (m', s')) ∧ Fit i c m' s' (T + x) ∧ (okAnew y = true → r = 0 ∧ s' = y) := by
  by_cases hok : okAnew y = true
  · obtain ⟨J, h1, h2, h3, h4, h5⟩ := h
    have ho := hok
    unfold okAnew at ho
    rw [Bool.and_eq_true] at ho
    obtain ⟨hr, hsd⟩ := ho
    have hsd := of_decide_eq_true hsd
    have hrec : Recs (allOf y) := recs_all hb hr hsd
    have hw := weigh_all hb (by omega)
    have hbu := bulk_le y.es
    have hlen : (allOf y).length = y.es.length + 2 := by simp [allOf]
    have hfs := frames_short (allOf y)
    have hfl : (frames (allOf y)).length ≤ 150 * x := by omega
    have hwr := solo_wanew (R := 1048576) (i := i) (f := -1) (F := frames J) (S := []) (t := true) (T := fun _ => false) hi (allOf y) hrec (by omega)
    rw [if_neg (by decide)] at hwr
    refine ⟨0, solo 1048576 (-1) false i (frames (allOf y)) [] true (fun _ => false), y, ?_, ⟨allOf y, hrec, makes_all hb hr (by omega), rfl, by omega, by unfold weight; omega, hsd⟩, fun _ => ⟨rfl, rfl⟩⟩
    unfold sanew
    rw [if_pos hok, h3, hwr]
    rfl
  · refine ⟨1, m, s, ?_, h.more (by omega), fun e => absurd e hok⟩
    unfold sanew
    rw [if_neg hok]
theorem fit_crash {i c T : Nat} {m : M} {s : Sta} (hi : i < 16) (hc : sound c = true) (h : Fit i c m s T) (hr : right s = true) (hT : T ≤ 500) (keep : List Int) : ∃ m', sopen (m.crash keep) i c = ((0, s), m') := by
  obtain ⟨J, h1, h2, h3, h4, h5⟩ := h
  obtain ⟨t', ha⟩ := solo_again (R := 1048576) (f := -1) (o := false) (i := i) (F := frames J) (S := []) (T := fun _ => false) hi (by simp; omega) keep
  rw [List.take_nil, List.append_nil, scan_all _ h1] at ha
  rw [h3]
  exact ⟨_, sopen_said hc ha (said_iff.2 ⟨h2, hr⟩)⟩
theorem fit_open {i c T : Nat} {m : M} {s : Sta} (hi : i < 16) (hc : sound c = true) (h : Fit i c m s T) (hr : right s = true) (hT : T ≤ 500) : ∃ m', sopen m i c = ((0, s), m') := by
  obtain ⟨J, h1, h2, h3, h4, h5⟩ := h
  have ha := solo_open_old (R := 1048576) (f := -1) (i := i) (F := frames J) (S := []) (T := fun _ => false) hi (by decide) (by simp; omega)
  rw [List.append_nil, scan_all _ h1] at ha
  rw [h3]
  exact ⟨_, sopen_said hc ha (said_iff.2 ⟨h2, hr⟩)⟩
theorem fit_read {i c T : Nat} {m : M} {s : Sta} (hi : i < 16) (h : Fit i c m s T) : ∃ F, m.read i = (F, 0) ∧ F.length ≤ 150 * T ∧ m = solo 1048576 (-1) false i F [] true (fun _ => false) := by
  obtain ⟨J, h1, h2, h3, h4, h5⟩ := h
  refine ⟨frames J, ?_, h4, h3⟩
  rw [h3]
  unfold M.read
  rw [if_neg (by simp [solo]), if_neg (by rw [solo_has hi]; decide)]
  rw [show ((i : Int).toNat) = i by omega, solo_all]
  simp
/-- Saving what is there already. -/
theorem saved_still {s : Sta} : savedS s s.term s.vote [] = s := by simp [savedS, stayE]
theorem out_still {s : Sta} : out s s.term s.vote [] = [] := by simp [out, hards, cuts]
theorem save_still {m : M} {n : Int} {s : Sta} (hr : right s = true) : ssave m n s s.term s.vote [] = (0, (m, s)) := by
  unfold ssave
  rw [saved_still, if_pos hr, if_pos out_still]
theorem saved_vote {s : Sta} {t : Nat} {v : Int} : savedS s t v [] = ⟨t, v, s.snap, s.es⟩ := by simp [savedS, stayE]
theorem right_vote {s : Sta} {t : Nat} {v : Int} (hr : right s = true) : right (savedS s t v []) = voteB v := by
  rw [saved_vote]
  unfold right at hr ⊢
  rw [Bool.and_eq_true] at hr
  simp [hr.1]
theorem save_novote {m : M} {n : Int} {s : Sta} {t : Nat} {v : Int} (hr : right s = true) (hv : voteB v = false) : ssave m n s t v [] = (1, (m, s)) := by
  unfold ssave
  rw [right_vote hr, if_neg (by rw [hv]; decide)]
theorem save_one {i c T : Nat} {m : M} {s : Sta} (hi : i < 16) (h : Fit i c m s T) (hr : right s = true) (hT : T ≤ 400) {t : Nat} {v : Int} (ht : t < 18446744073709551616) (hv0 : -9223372036854775808 ≤ v) (hv1 : v ≤ 9223372036854775807) (hv : voteB v = true) {F : List UInt8} (hF : m = solo 1048576 (-1) false i F [] true (fun _ => false)) (hFl : F.length ≤ 150 * T) :
    ∃ m', ssave m i s t v [] = (0, (m', savedS s t v [])) ∧ m'.read i = (F ++ (if t = s.term ∧ v = s.vote then [] else frame (recHard t v)), 0) := by
  have ho : out s t v [] = hards s t v := by simp [out, cuts]
  have hrec : Recs (hards s t v) := by rw [← ho]; exact recs_out ht (fun e he => by cases he) (fun e he => by cases he)
  have hw := weigh_hards (s := s) (v := v) ht
  have hlen := out_len s t v []
  rw [ho] at hlen
  have hfs := frames_short (hards s t v)
  have hwr := solo_wappend_free (R := 1048576) (i := i) (F := F) (T := fun _ => false) hi (hards s t v) hrec (by simp at hlen; omega)
  refine ⟨solo 1048576 (-1) false i (F ++ frames (hards s t v)) [] true (fun _ => false), ?_, ?_⟩
  · rw [hF]
    refine ssave_ok (by rw [right_vote hr]; exact hv) (fun _ => by rw [ho]; exact hwr) fun h0 => ?_
    rw [ho] at h0
    rw [h0]
    simp [frames]
  · unfold M.read
    rw [if_neg (by simp [solo]), if_neg (by rw [solo_has hi]; decide)]
    rw [show ((i : Int).toNat) = i by omega, solo_all]
    unfold hards
    split
    · simp [frames]
    · simp [frames]
end Go.Proofs.YtamncdpeklbhlaaGreatDoor.Lit
set_option linter.unusedVariables false
set_option linter.unusedSimpArgs false
namespace Go.Proofs.YtamncdpeklbhlaaGreatDoor.LitF
open Go.Proofs.YtamncdpeklbhlaaGreatDoor.Rlog Go.Proofs.YtamncdpeklbhlaaGreatDoor.Sto Go.Proofs.YtamncdpeklbhlaaGreatDoor.Sav Go.Proofs.YtamncdpeklbhlaaGreatDoor.Wal Go.Proofs.YtamncdpeklbhlaaGreatDoor.Solo Go.Proofs.YtamncdpeklbhlaaGreatDoor.Sol Go.Proofs.YtamncdpeklbhlaaGreatDoor.Cals Go.Proofs.YtamncdpeklbhlaaGreatDoor.Lit
open Go.Proofs.YtamncdpeklbhlaaGreatDoor.Quorum (sound)
open Go.Proofs.YtamncdpeklbhlaaGreatDoor.Model (M)
open Go.Proofs.YtamncdpeklbhlaaGreatDoor.Log (wopen wappend wanew)
open Go.Proofs.YtamncdpeklbhlaaGreatDoor.Model.M (kept)

def FitF (f : Int) (m : M) (s : Sta) (T : Nat) : Prop := ∃ J, Recs J ∧ makes (first 7) J = some s ∧ m = solo 1048576 f false 0 (frames J) [] true (fun _ => false) ∧ (frames J).length ≤ 150 * T ∧ (weight s ≤ T ∧ s.snap.data.size ≤ 32768)
theorem fitf_first (fuel : Int) : FitF (max fuel (-1)) ((solo 1048576 (-1) false 0 [] [] true (fun _ => false)).fuelled fuel) (first 7) 0 :=
  ⟨[], (fun x hx => by cases hx), rfl, rfl, by simp [frames], by simp [weight, first, dataW], by simp [first]⟩
theorem FitF.more {f : Int} {T T' : Nat} {m : M} {s : Sta} (h : FitF f m s T) (hT : T ≤ T') : FitF f m s T' := by
  obtain ⟨J, h1, h2, h3, h4, h5⟩ := h
  exact ⟨J, h1, h2, h3, by omega, by omega, h5.2⟩
theorem FitF.len {f : Int} {T : Nat} {m : M} {s : Sta} (h : FitF f m s T) : s.es.length ≤ T := by
  obtain ⟨J, h1, h2, h3, h4, h5, h6⟩ := h
  unfold weight at h5
  omega
/-- Behind a crash: what a disk says. -/
def Says (m : M) (keep : Int) (s : Sta) : Prop := ∃ m', sopen (m.crash [keep]) 0 7 = ((0, s), m')
theorem says_of {f : Int} {o : Bool} {J S : List (List UInt8)} {s : Sta} {k : Nat} (keep : Int) {P : List UInt8} (hP : P = (frames S)) (hJ : Recs J) (hS : Recs S) (hR : (frames J).length + (frames S).length ≤ 1048576)
    (h : ∀ j, j ≤ S.length → ∃ x, makes (first 7) (J ++ S.take j) = some x ∧ right x = true) :
    ∃ j, j ≤ S.length ∧ ∀ x, makes (first 7) (J ++ S.take j) = some x → Says (solo 1048576 f o 0 (frames J) P true (fun _ => false)) keep x := by
  subst hP
  obtain ⟨t', ha⟩ := solo_again (R := 1048576) (f := f) (o := o) (i := 0) (F := frames J) (S := frames S) (T := fun _ => false) (by decide) hR [keep]
  have hk := Model.kept_le [keep] 0 (frames S).length
  rw [crash_scan J S _ hJ hS hk] at ha
  refine ⟨cut S (kept [keep] 0 (frames S).length), cut_le _ _, fun x hx => ?_⟩
  obtain ⟨y, hy, hr⟩ := h _ (cut_le S (kept [keep] 0 (frames S).length))
  rw [hx] at hy
  cases hy
  exact ⟨_, sopen_said sound7 ha (said_iff.2 ⟨hx, hr⟩)⟩
theorem says_alone {f : Int} {o : Bool} {J : List (List UInt8)} {s : Sta} (keep : Int) (hJ : Recs J) (hR : (frames J).length ≤ 1048576) (hm : makes (first 7) J = some s) (hr : right s = true) : Says (solo 1048576 f o 0 (frames J) [] true (fun _ => false)) keep s := by
  obtain ⟨t', ha⟩ := solo_again (R := 1048576) (f := f) (o := o) (i := 0) (F := frames J) (S := []) (T := fun _ => false) (by decide) (by simpa using hR) [keep]
  rw [List.take_nil, List.append_nil, scan_all _ hJ] at ha
  exact ⟨_, sopen_said sound7 ha (said_iff.2 ⟨hm, hr⟩)⟩
theorem fitf_end {f : Int} {m : M} {s : Sta} {T : Nat} (h : FitF f m s T) (hr : right s = true) (hT : T ≤ 500) (keep : Int) : Says m keep s := by
  obtain ⟨J, h1, h2, h3, h4, h5⟩ := h
  rw [h3]
  exact says_alone keep h1 (by omega) h2 hr
/-- What a Save leaves: refused; done; or the disk has gone off. -/
theorem fitf_save {f : Int} {T x : Nat} {m : M} {s : Sta} (h : FitF f m s T) (hr : right s = true) {t : Nat} {v : Int} {l : List Ent} (ht : t < 18446744073709551616) (hv0 : -9223372036854775808 ≤ v) (hv1 : v ≤ 9223372036854775807) (hl : ∀ e ∈ l, EntB e)
    (hx : 1 + l.length + dataW l ≤ x) (hT : T + x ≤ 500) (keep : Int) : ∃ r m' s', ssave m 0 s t v l = (r, (m', s')) ∧
      ((r = 1 ∧ (m' = m ∧ s' = s)) ∨ (r = 0 ∧ (right (savedS s t v l) = true ∧ (s' = savedS s t v l ∧ ∃ f', FitF f' m' s' (T + x)))) ∨
       (r = 10 ∧ (right (savedS s t v l) = true ∧ (s' = s ∧ ∃ y, Says m' keep y ∧ (y = s ∨ ∃ j, j < (out s t v l).length ∧ makes s ((out s t v l).take (j + 1)) = some y))))) := by
  by_cases hok : right (savedS s t v l) = true
  · obtain ⟨J, h1, h2, h3, h4, h5⟩ := h
    have hrec : Recs (out s t v l) := recs_out ht hl (data_saved hok)
    have hw := weigh_out (s := s) (v := v) ht hl
    have hb := bulk_le l
    have hlen := out_len s t v l
    have hfs := frames_short (out s t v l)
    have hfl : (frames (out s t v l)).length ≤ 150 * x := by omega
    have hwr := solo_wappend (R := 1048576) (f := f) (i := 0) (F := frames J) (T := fun _ => false) (by decide) (out s t v l) hrec (by omega)
    have hst := stay_len s l
    have hsd := stay_data s l
    have hel : weight (savedS s t v l) ≤ T + x ∧ (savedS s t v l).snap.data.size ≤ 32768 := by
      unfold savedS weight at *
      simp only [List.length_append, dataW_append]
      exact ⟨by omega, h5.2⟩
    have hmk : makes (first 7) (J ++ out s t v l) = some (savedS s t v l) := by
      rw [makes_append, h2]
      exact records_ok hr ht hv0 hv1 hl hok
    by_cases ho : out s t v l = []
    · refine ⟨0, m, savedS s t v l, ?_, .inr (.inl ⟨rfl, hok, rfl, f, J, h1, ?_, h3, by omega, hel⟩)⟩
      · unfold ssave
        rw [if_pos hok, if_pos ho]
      · rw [ho, List.append_nil] at hmk
        exact hmk
    · have hsv : ssave m 0 s t v l = if (wappend m 0 (out s t v l)).1 = 0 then (0, ((wappend m 0 (out s t v l)).2, savedS s t v l)) else ((wappend m 0 (out s t v l)).1, ((wappend m 0 (out s t v l)).2, s)) := by
        unfold ssave
        rw [if_pos hok, if_neg ho]
      rw [show wappend m 0 (out s t v l) = wappend (solo 1048576 f false 0 (frames J) [] true (fun _ => false)) ((0 : Nat) : Int) (out s t v l) by rw [h3]; rfl, hwr] at hsv
      by_cases hf0 : f = 0
      · rw [if_pos hf0] at hsv
        exact ⟨10, _, s, hsv, .inr (.inr ⟨rfl, hok, rfl, s, says_alone keep h1 (by omega) h2 hr, .inl rfl⟩)⟩
      rw [if_neg hf0] at hsv
      by_cases hf1 : f = 1
      · rw [if_pos hf1] at hsv
        have hruns := runs_out hr ht hv0 hv1 hl hok
        obtain ⟨j, hj, hs⟩ := says_of (f := 0) (o := true) (J := J) (S := out s t v l) (s := s) (k := 0) keep rfl h1 hrec (by omega) fun j _ => by
          obtain ⟨y, hy, hyr⟩ := hruns j
          exact ⟨y, by rw [makes_append, h2]; exact hy, hyr⟩
        obtain ⟨y, hy, hyr⟩ := hruns j
        refine ⟨10, _, s, hsv, .inr (.inr ⟨rfl, hok, rfl, y, hs y (by rw [makes_append, h2]; exact hy), ?_⟩)⟩
        cases j with
        | zero => rw [List.take_zero] at hy; cases hy; exact .inl rfl
        | succ j => exact .inr ⟨j, by omega, hy⟩
      · rw [if_neg hf1] at hsv
        refine ⟨0, _, _, hsv, .inr (.inl ⟨rfl, hok, rfl, _, J ++ out s t v l, h1.append hrec, hmk, by rw [frames_append], ?_, hel⟩)⟩
        rw [frames_append, List.length_append]
        omega
  · refine ⟨1, m, s, ?_, .inl ⟨rfl, rfl, rfl⟩⟩
    unfold ssave
    rw [if_neg hok]
/-- What an Anew leaves. -/
theorem fitf_anew {f : Int} {T x : Nat} {m : M} {s y : Sta} (h : FitF f m s T) (hr : right s = true) (hb : StaB y) (hd : y.snap.data.size ≤ 9223372036854775807)
    (hx : 1 + y.es.length + y.snap.data.size / 50 + dataW y.es ≤ x) (hT : T + x ≤ 500) (keep : Int) : ∃ r m' s', sanew m 0 s y = (r, (m', s')) ∧
      ((r = 1 ∧ (m' = m ∧ s' = s)) ∨ (r = 0 ∧ (right y = true ∧ (s' = y ∧ ∃ f', FitF f' m' s' (T + x)))) ∨ (r = 10 ∧ (s' = s ∧ Says m' keep s))) := by
  by_cases hok : okAnew y = true
  · obtain ⟨J, h1, h2, h3, h4, h5⟩ := h
    have ho := hok
    unfold okAnew at ho
    rw [Bool.and_eq_true] at ho
    obtain ⟨hry, hsd⟩ := ho
    have hsd := of_decide_eq_true hsd
    have hrec : Recs (allOf y) := recs_all hb hry hsd
    have hw := weigh_all hb (by omega)
    have hbu := bulk_le y.es
    have hlen : (allOf y).length = y.es.length + 2 := by simp [allOf]
    have hfs := frames_short (allOf y)
    have hfl : (frames (allOf y)).length ≤ 150 * x := by omega
    have hwr := solo_wanew (R := 1048576) (i := 0) (f := f) (F := frames J) (S := []) (t := true) (T := fun _ => false) (by decide) (allOf y) hrec (by omega)
    have hsv : sanew m 0 s y = if (wanew m 0 (allOf y)).1 = 0 then (0, ((wanew m 0 (allOf y)).2, y)) else ((wanew m 0 (allOf y)).1, ((wanew m 0 (allOf y)).2, s)) := by
      unfold sanew
      rw [if_pos hok]
    rw [show wanew m 0 (allOf y) = wanew (solo 1048576 f false 0 (frames J) [] true (fun _ => false)) ((0 : Nat) : Int) (allOf y) by rw [h3]; rfl, hwr] at hsv
    by_cases hf0 : f = 0
    · rw [if_pos hf0] at hsv
      exact ⟨10, _, s, hsv, .inr (.inr ⟨rfl, rfl, says_alone keep h1 (by omega) h2 hr⟩)⟩
    · rw [if_neg hf0] at hsv
      exact ⟨0, _, y, hsv, .inr (.inl ⟨rfl, hry, rfl, _, allOf y, hrec, makes_all hb hry (by omega), rfl, by omega, by unfold weight; omega, hsd⟩)⟩
  · refine ⟨1, m, s, ?_, .inl ⟨rfl, rfl, rfl⟩⟩
    unfold sanew
    rw [if_neg hok]
/-- What the document's own words make of a state and some first records. -/
theorem said_some {s y : Sta} {l : List (List UInt8)} (hb : StaB s) (hr : right s = true) (hd : s.snap.data.size ≤ 65536) (hm : makes s l = some y) (hy : right y = true) : said 7 (allOf s ++ l) = some y := by
  refine said_iff.2 ⟨?_, hy⟩
  rw [makes_append, makes_all hb hr hd]
  exact hm
end Go.Proofs.YtamncdpeklbhlaaGreatDoor.LitF
