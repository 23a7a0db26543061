/- A call of a log as it came in, and a slice of them; the sum of what came in. No statement is proved here. -/
import Derived.Test.YtndehdnffajigaaWalkK
set_option linter.unusedVariables false
namespace Go.Proofs.Ytndehdnffajigaa.Cals
open Go.RowKit Go.Proofs.Ytndehdnffajigaa.Kit Go.Proofs.Ytndehdnffajigaa.Blocks Go.Proofs.Ytndehdnffajigaa.Rlog Go.Proofs.Ytndehdnffajigaa.Ents Go.Proofs.Ytndehdnffajigaa.LogAt Go.Proofs.Ytndehdnffajigaa.WalkB Go.Proofs.Ytndehdnffajigaa.WalkD Go.Proofs.Ytndehdnffajigaa.WalkH

structure Cal where
  kind : Int
  idx : Nat
  term : Nat
  what : Int
  data : ByteArray
  A : Option Addr
  n : Nat
  c : Nat
  l : List Ent
  snap : Snap
def callCs (x : Cal) : List Value := [.int .i64 x.kind, .int .u64 (x.idx : Int), .int .u64 (x.term : Int), .int .i64 x.what, .string x.data, .slice x.A x.n x.c, .int .u64 (x.snap.idx : Int), .int .u64 (x.snap.term : Int), .int .u64 (x.snap.cfg : Int), .string x.snap.data]
/-- A call by value. -/
def callV (x : Cal) : Value := .agg #[.int .i64 x.kind, .int .u64 (x.idx : Int), .int .u64 (x.term : Int), .int .i64 x.what, .string x.data, .slice x.A x.n x.c, .int .u64 (x.snap.idx : Int), .int .u64 (x.snap.term : Int), .int .u64 (x.snap.cfg : Int), .string x.snap.data]
/-- What is known of a call that came in. -/
structure CalB (w : World) (B : Nat) (x : Cal) : Prop where
  k0 : -9223372036854775808 ≤ x.kind
  k1 : x.kind ≤ 9223372036854775807
  idx : x.idx < 18446744073709551616
  term : x.term < 18446744073709551616
  w0 : -9223372036854775808 ≤ x.what
  w1 : x.what ≤ 9223372036854775807
  data : x.data.size ≤ 9223372036854775807
  list : RE w B x.A x.n x.l
  fits : x.n ≤ x.c
  max : x.c ≤ 9223372036854775807
  ents : ∀ e ∈ x.l, EntB e
  snap : SnapB x.snap
theorem CalB.below {w w' : World} {B B' : Nat} {x : Cal} (h : CalB w B x) (k : Below B w w') (hB : B ≤ B') : CalB w' B' x :=
  ⟨h.k0, h.k1, h.idx, h.term, h.w0, h.w1, h.data, (Kit.Reads.below h.list k).more hB, h.fits, h.max, h.ents, h.snap⟩
/-- The call lies at these ten cells. -/
structure Ten (w : World) (b o : Nat) (x : Cal) : Prop where
  c0 : w.cell? ⟨b, o, none⟩ = some (.int .i64 x.kind)
  c1 : w.cell? ⟨b, o + 1, none⟩ = some (.int .u64 (x.idx : Int))
  c2 : w.cell? ⟨b, o + 2, none⟩ = some (.int .u64 (x.term : Int))
  c3 : w.cell? ⟨b, o + 3, none⟩ = some (.int .i64 x.what)
  c4 : w.cell? ⟨b, o + 4, none⟩ = some (.string x.data)
  c5 : w.cell? ⟨b, o + 5, none⟩ = some (.slice x.A x.n x.c)
  c6 : w.cell? ⟨b, o + 6, none⟩ = some (.int .u64 (x.snap.idx : Int))
  c7 : w.cell? ⟨b, o + 7, none⟩ = some (.int .u64 (x.snap.term : Int))
  c8 : w.cell? ⟨b, o + 8, none⟩ = some (.int .u64 (x.snap.cfg : Int))
  c9 : w.cell? ⟨b, o + 9, none⟩ = some (.string x.snap.data)
theorem Ten.below {w w' : World} {b o : Nat} {x : Cal} {B : Nat} (h : Ten w b o x) (k : Below B w w') (hb : b < B) : Ten w' b o x :=
  ⟨(k.cell (p := ⟨b, o, none⟩) hb).trans h.c0, (k.cell (p := ⟨b, o + 1, none⟩) hb).trans h.c1, (k.cell (p := ⟨b, o + 2, none⟩) hb).trans h.c2, (k.cell (p := ⟨b, o + 3, none⟩) hb).trans h.c3, (k.cell (p := ⟨b, o + 4, none⟩) hb).trans h.c4,
    (k.cell (p := ⟨b, o + 5, none⟩) hb).trans h.c5, (k.cell (p := ⟨b, o + 6, none⟩) hb).trans h.c6, (k.cell (p := ⟨b, o + 7, none⟩) hb).trans h.c7, (k.cell (p := ⟨b, o + 8, none⟩) hb).trans h.c8, (k.cell (p := ⟨b, o + 9, none⟩) hb).trans h.c9⟩
/-- The slice with address a and n elements holds these calls. -/
def Holds (w : World) (B : Nat) (a : Option Addr) (n : Nat) (L : List Cal) : Prop :=
  L.length = n ∧ ∀ (k : Nat) (x : Cal), L[k]? = some x → ∃ b o, a = some ⟨b, o, none⟩ ∧ b < B ∧ Ten w b (o + k * 10) x ∧ CalB w B x
theorem Holds.below {w w' : World} {B B' : Nat} {a : Option Addr} {n : Nat} {L : List Cal} (h : Holds w B a n L) (k : Below B w w') (hB : B ≤ B') : Holds w' B' a n L := by
  refine ⟨h.1, fun i x hx => ?_⟩
  obtain ⟨b, o, ha, hb, ht, hc⟩ := h.2 i x hx
  exact ⟨b, o, ha, by omega, ht.below k hb, hc.below k hB⟩
theorem Holds.nil (w : World) (B : Nat) (a : Option Addr) : Holds w B a 0 [] := ⟨rfl, fun k x hx => by simp at hx⟩
/-- One call, in a block that is new. -/
theorem Holds.one {w : World} {B : Nat} {x : Cal} (h : CalB w B x) (hB : B ≤ w.heap.size) (t : TypeId) : Holds (w.alloc (.cells (callCs x).toArray t)) (w.heap.size + 1) (some ⟨w.heap.size, 0, none⟩) 1 [x] := by
  refine ⟨rfl, fun k y hy => ?_⟩
  have hk : k = 0 := by
    have := (List.getElem?_eq_some_iff.1 hy).1
    simpa using this
  subst hk
  simp at hy
  subst hy
  have hc := heap_alloc_new w (.cells (callCs x).toArray t)
  refine ⟨_, _, rfl, Nat.lt_succ_self _, ⟨?_, ?_, ?_, ?_, ?_, ?_, ?_, ?_, ?_, ?_⟩, h.below ((Below.refl _ _).alloc hB _) (by omega)⟩ <;> rw [cell_at hc] <;> rfl

/-! ### The sum -/
def dataW (l : List Ent) : Nat := (l.map fun e => e.data.size / 100).sum
def weigh (x : Cal) : Nat := x.l.length + x.data.size / 100 + dataW x.l
def total (l : List Ent) (L : List Cal) : Nat := l.length + L.length + (L.map weigh).sum + dataW l
def lightB (l : List Ent) (L : List Cal) : Bool := decide (wrap64 (total l L : Int) ≤ 800)
theorem dataW_snoc (l : List Ent) (e : Ent) : dataW (l ++ [e]) = dataW l + e.data.size / 100 := by simp [dataW]
theorem weigh_snoc (L : List Cal) (x : Cal) : ((L ++ [x]).map weigh).sum = (L.map weigh).sum + weigh x := by simp
theorem wrap_add (a b : Int) : wrap64 (wrap64 a + b) = wrap64 (a + b) := by unfold wrap64; omega
end Go.Proofs.Ytndehdnffajigaa.Cals
