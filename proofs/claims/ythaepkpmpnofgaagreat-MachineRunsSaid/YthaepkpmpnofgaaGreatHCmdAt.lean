/- Commands in memory: boxes of a command's ten cells, of a reply's three; what came by value. No statement is proved here. -/
import Derived.Test.YthaepkpmpnofgaaGreatGN
import Derived.Test.YthaepkpmpnofgaaGreatHWtr
set_option linter.unusedVariables false
set_option linter.unusedSimpArgs false
namespace Go.Proofs.YthaepkpmpnofgaaGreat.CmdAt
open Go.RowKit Go.Proofs.YthaepkpmpnofgaaGreat.Kit Go.Proofs.YthaepkpmpnofgaaGreat.Stq Go.Proofs.YthaepkpmpnofgaaGreat.Pln Go.Proofs.YthaepkpmpnofgaaGreat.Cmd
open Go.Proofs.YthaepkpmpnofgaaGreat.State (Only cell_at free_at lt_at set_at)

/-- A command's value: its steps have address A, length n and capacity c. -/
def cmV (A : Option Addr) (n c : Nat) (m : Cm) : Value := .agg #[.int .i64 m.k, .int .u64 (m.ss : Int), .int .u64 (m.sq : Int), .int .u64 (m.sg : Int), .slice A n c, .int .i64 m.st, .bool m.bk, .int .i64 m.tr, .bool m.ok, .int .u64 (m.nw : Int)]
/-- Its steps lie in a world. -/
structure CAt (w : World) (A : Option Addr) (n : Nat) (m : Cm) : Prop where
  rs : RS w w.heap.size A n m.l
  n63 : n ≤ 9223372036854775807
  nm : ∀ e ∈ m.l, e.nm.size ≤ 9223372036854775807
  fin : Fin m
theorem rs_later {w w' : World} {A : Option Addr} {n : Nat} {l : List Sp} (h : RS w w.heap.size A n l) (k : Below w.heap.size w w') : RS w' w'.heap.size A n l := (Kit.Reads.below h k).more k.size
theorem CAt.below {w w' : World} {A : Option Addr} {n : Nat} {m : Cm} (h : CAt w A n m) (k : Below w.heap.size w w') : CAt w' A n m := ⟨rs_later h.rs k, h.n63, h.nm, h.fin⟩
/-- A block of a command's ten cells. -/
structure Bx (w : World) (r : Nat) (a b c d e f g h i j : Value) : Prop where
  blk : w.heap[r]? = some (.cells #[a, b, c, d, e, f, g, h, i, j] 42 (0, 0))
section
variable {w w' : World} {r : Nat} {a b c d e f g h i j : Value}
theorem Bx.lt (hx : Bx w r a b c d e f g h i j) : r < w.heap.size := lt_at hx.blk
theorem Bx.c0 (hx : Bx w r a b c d e f g h i j) : w.cell? ⟨r, 0, none⟩ = some a := by rw [cell_at hx.blk]; rfl
theorem Bx.c1 (hx : Bx w r a b c d e f g h i j) : w.cell? ⟨r, 1, none⟩ = some b := by rw [cell_at hx.blk]; rfl
theorem Bx.c2 (hx : Bx w r a b c d e f g h i j) : w.cell? ⟨r, 2, none⟩ = some c := by rw [cell_at hx.blk]; rfl
theorem Bx.c3 (hx : Bx w r a b c d e f g h i j) : w.cell? ⟨r, 3, none⟩ = some d := by rw [cell_at hx.blk]; rfl
theorem Bx.c4 (hx : Bx w r a b c d e f g h i j) : w.cell? ⟨r, 4, none⟩ = some e := by rw [cell_at hx.blk]; rfl
theorem Bx.c5 (hx : Bx w r a b c d e f g h i j) : w.cell? ⟨r, 5, none⟩ = some f := by rw [cell_at hx.blk]; rfl
theorem Bx.c6 (hx : Bx w r a b c d e f g h i j) : w.cell? ⟨r, 6, none⟩ = some g := by rw [cell_at hx.blk]; rfl
theorem Bx.c7 (hx : Bx w r a b c d e f g h i j) : w.cell? ⟨r, 7, none⟩ = some h := by rw [cell_at hx.blk]; rfl
theorem Bx.c8 (hx : Bx w r a b c d e f g h i j) : w.cell? ⟨r, 8, none⟩ = some i := by rw [cell_at hx.blk]; rfl
theorem Bx.c9 (hx : Bx w r a b c d e f g h i j) : w.cell? ⟨r, 9, none⟩ = some j := by rw [cell_at hx.blk]; rfl
theorem Bx.all (hx : Bx w r a b c d e f g h i j) : w.cell? ⟨r, 0, none⟩ = some a ∧ w.cell? ⟨r, 1, none⟩ = some b ∧ w.cell? ⟨r, 2, none⟩ = some c ∧ w.cell? ⟨r, 3, none⟩ = some d ∧ w.cell? ⟨r, 4, none⟩ = some e ∧ w.cell? ⟨r, 5, none⟩ = some f ∧ w.cell? ⟨r, 6, none⟩ = some g ∧ w.cell? ⟨r, 7, none⟩ = some h ∧ w.cell? ⟨r, 8, none⟩ = some i ∧ w.cell? ⟨r, 9, none⟩ = some j := ⟨hx.c0, hx.c1, hx.c2, hx.c3, hx.c4, hx.c5, hx.c6, hx.c7, hx.c8, hx.c9⟩
theorem Bx.free (hx : Bx w r a b c d e f g h i j) (x : Nat) : w.frozen? ⟨r, x, none⟩ = false := free_at hx.blk x
theorem Bx.keep (hx : Bx w r a b c d e f g h i j) {S : Nat → Prop} (k : Only S w w') (hr : ¬ S r) : Bx w' r a b c d e f g h i j := ⟨(k.block r hx.lt hr).trans hx.blk⟩
theorem Bx.below (hx : Bx w r a b c d e f g h i j) (k : Below w.heap.size w w') : Bx w' r a b c d e f g h i j := ⟨(k.block r hx.lt).trans hx.blk⟩
theorem Bx.new (w : World) (a b c d e f g h i j : Value) : Bx (w.alloc (.cells #[a, b, c, d, e, f, g, h, i, j] 42)) w.heap.size a b c d e f g h i j := ⟨heap_alloc_new w _⟩
theorem Bx.set1 (hx : Bx w r a b c d e f g h i j) (v : Value) : Bx (w.setCell ⟨r, 1, none⟩ v) r a v c d e f g h i j ∧ Only (fun q => q = r) w (w.setCell ⟨r, 1, none⟩ v) := ⟨⟨by rw [set_at hx.blk]; rfl⟩, (Only.refl (fun q => q = r) w).setCell (a := ⟨r, 1, none⟩) (.inr rfl) _⟩
theorem Bx.set2 (hx : Bx w r a b c d e f g h i j) (v : Value) : Bx (w.setCell ⟨r, 2, none⟩ v) r a b v d e f g h i j ∧ Only (fun q => q = r) w (w.setCell ⟨r, 2, none⟩ v) := ⟨⟨by rw [set_at hx.blk]; rfl⟩, (Only.refl (fun q => q = r) w).setCell (a := ⟨r, 2, none⟩) (.inr rfl) _⟩
theorem Bx.set3 (hx : Bx w r a b c d e f g h i j) (v : Value) : Bx (w.setCell ⟨r, 3, none⟩ v) r a b c v e f g h i j ∧ Only (fun q => q = r) w (w.setCell ⟨r, 3, none⟩ v) := ⟨⟨by rw [set_at hx.blk]; rfl⟩, (Only.refl (fun q => q = r) w).setCell (a := ⟨r, 3, none⟩) (.inr rfl) _⟩
theorem Bx.set4 (hx : Bx w r a b c d e f g h i j) (v : Value) : Bx (w.setCell ⟨r, 4, none⟩ v) r a b c d v f g h i j ∧ Only (fun q => q = r) w (w.setCell ⟨r, 4, none⟩ v) := ⟨⟨by rw [set_at hx.blk]; rfl⟩, (Only.refl (fun q => q = r) w).setCell (a := ⟨r, 4, none⟩) (.inr rfl) _⟩
theorem Bx.set5 (hx : Bx w r a b c d e f g h i j) (v : Value) : Bx (w.setCell ⟨r, 5, none⟩ v) r a b c d e v g h i j ∧ Only (fun q => q = r) w (w.setCell ⟨r, 5, none⟩ v) := ⟨⟨by rw [set_at hx.blk]; rfl⟩, (Only.refl (fun q => q = r) w).setCell (a := ⟨r, 5, none⟩) (.inr rfl) _⟩
theorem Bx.set6 (hx : Bx w r a b c d e f g h i j) (v : Value) : Bx (w.setCell ⟨r, 6, none⟩ v) r a b c d e f v h i j ∧ Only (fun q => q = r) w (w.setCell ⟨r, 6, none⟩ v) := ⟨⟨by rw [set_at hx.blk]; rfl⟩, (Only.refl (fun q => q = r) w).setCell (a := ⟨r, 6, none⟩) (.inr rfl) _⟩
theorem Bx.set7 (hx : Bx w r a b c d e f g h i j) (v : Value) : Bx (w.setCell ⟨r, 7, none⟩ v) r a b c d e f g v i j ∧ Only (fun q => q = r) w (w.setCell ⟨r, 7, none⟩ v) := ⟨⟨by rw [set_at hx.blk]; rfl⟩, (Only.refl (fun q => q = r) w).setCell (a := ⟨r, 7, none⟩) (.inr rfl) _⟩
theorem Bx.set8 (hx : Bx w r a b c d e f g h i j) (v : Value) : Bx (w.setCell ⟨r, 8, none⟩ v) r a b c d e f g h v j ∧ Only (fun q => q = r) w (w.setCell ⟨r, 8, none⟩ v) := ⟨⟨by rw [set_at hx.blk]; rfl⟩, (Only.refl (fun q => q = r) w).setCell (a := ⟨r, 8, none⟩) (.inr rfl) _⟩
theorem Bx.set9 (hx : Bx w r a b c d e f g h i j) (v : Value) : Bx (w.setCell ⟨r, 9, none⟩ v) r a b c d e f g h i v ∧ Only (fun q => q = r) w (w.setCell ⟨r, 9, none⟩ v) := ⟨⟨by rw [set_at hx.blk]; rfl⟩, (Only.refl (fun q => q = r) w).setCell (a := ⟨r, 9, none⟩) (.inr rfl) _⟩
theorem Bx.set (hx : Bx w r a b c d e f g h i j) (a' b' c' d' e' f' g' h' i' j' : Value) : Bx ((((((((((w.setCell ⟨r, 0, none⟩ a').setCell ⟨r, 1, none⟩ b').setCell ⟨r, 2, none⟩ c').setCell ⟨r, 3, none⟩ d').setCell ⟨r, 4, none⟩ e').setCell ⟨r, 5, none⟩ f').setCell ⟨r, 6, none⟩ g').setCell ⟨r, 7, none⟩ h').setCell ⟨r, 8, none⟩ i').setCell ⟨r, 9, none⟩ j') r a' b' c' d' e' f' g' h' i' j' ∧ Only (fun q => q = r) w ((((((((((w.setCell ⟨r, 0, none⟩ a').setCell ⟨r, 1, none⟩ b').setCell ⟨r, 2, none⟩ c').setCell ⟨r, 3, none⟩ d').setCell ⟨r, 4, none⟩ e').setCell ⟨r, 5, none⟩ f').setCell ⟨r, 6, none⟩ g').setCell ⟨r, 7, none⟩ h').setCell ⟨r, 8, none⟩ i').setCell ⟨r, 9, none⟩ j') := by
  have st {w' : World} {L : List Value} (i : Nat) (u : Value) (k : w'.heap[r]? = some (.cells L.toArray 42 (0, 0))) : (w'.setCell ⟨r, i, none⟩ u).heap[r]? = some (.cells (L.set i u).toArray 42 (0, 0)) := by rw [set_at k, List.setIfInBounds_toArray]
  have on (i : Nat) {w' : World} (k : Only (fun q => q = r) w w') (u : Value) : Only (fun q => q = r) w (w'.setCell ⟨r, i, none⟩ u) := k.setCell (a := ⟨r, i, none⟩) (.inr rfl) u
  exact ⟨⟨st 9 j' (st 8 i' (st 7 h' (st 6 g' (st 5 f' (st 4 e' (st 3 d' (st 2 c' (st 1 b' (st 0 a' (L := [a, b, c, d, e, f, g, h, i, j]) hx.blk)))))))))⟩, on 9 (on 8 (on 7 (on 6 (on 5 (on 4 (on 3 (on 2 (on 1 (on 0 (Only.refl (fun q => q = r) w) a') b') c') d') e') f') g') h') i') j'⟩
end
/-- Since w all but new blocks is as it was, and the box is new. -/
theorem cm_box {w : World} {A : Option Addr} {n : Nat} (c : Nat) {m : Cm} (h : CAt w A n m) :
    ∃ w1, Hid (w.alloc (.cells #[.int .i64 m.k, .int .u64 (m.ss : Int), .int .u64 (m.sq : Int), .int .u64 (m.sg : Int), .slice A n c, .int .i64 m.st, .bool m.bk, .int .i64 m.tr, .bool m.ok, .int .u64 (m.nw : Int)] 42) = w1) ∧
      Bx w1 w.heap.size (.int .i64 m.k) (.int .u64 (m.ss : Int)) (.int .u64 (m.sq : Int)) (.int .u64 (m.sg : Int)) (.slice A n c) (.int .i64 m.st) (.bool m.bk) (.int .i64 m.tr) (.bool m.ok) (.int .u64 (m.nw : Int)) ∧ CAt w1 A n m ∧ Below w.heap.size w w1 := by
  have hb : ∀ o, Below w.heap.size w (w.alloc o) := fun o => (Below.refl _ _).alloc (Nat.le_refl _) o
  exact ⟨_, rfl, Bx.new w _ _ _ _ _ _ _ _ _ _, h.below (hb _), hb _⟩
section
variable {fn : Func} {p u : Tmp} {w : World} {q : Nat} {a b c d e f g h i j : Value}
theorem res2 (hf : fn.results = #[.cell p 42, .tmp u]) (tmps : Array Value) (hp : tmps.getD p undef = .pointer (some ⟨q, 0, none⟩)) (hx : Bx w q a b c d e f g h i j) : (results fn tmps).run Tryz.prog w = .ok (.tuple #[.agg #[a, b, c, d, e, f, g, h, i, j], tmps.getD u undef]) w := by
  have hp' : tmps[p]?.getD undef = .pointer (some ⟨q, 0, none⟩) := by simpa using hp
  have hl := run_loadVar_row (P := Tryz.prog) w q 42 42 #[a, b, c, d, e, f, g, h, i, j] (0, 0) _ hx.blk Tryz.underlying42 rfl (by kernel_rfl)
  simp [results, hf, hp', asAddr, Result.andThen, hl]
end
/-! ### Replies -/
def ryV (y : Ry) : Value := .agg #[.int .i64 y.err, .int .u64 (y.num : Int), .int .u64 (y.ext : Int)]
structure Box3 (w : World) (r : Nat) (a b c : Value) : Prop where
  blk : w.heap[r]? = some (.cells #[a, b, c] 32 (0, 0))
section
variable {w w' : World} {r : Nat} {a b c : Value}
theorem Box3.lt (h : Box3 w r a b c) : r < w.heap.size := lt_at h.blk
theorem Box3.c0 (h : Box3 w r a b c) : w.cell? ⟨r, 0, none⟩ = some a := by rw [cell_at h.blk]; rfl
theorem Box3.c1 (h : Box3 w r a b c) : w.cell? ⟨r, 1, none⟩ = some b := by rw [cell_at h.blk]; rfl
theorem Box3.c2 (h : Box3 w r a b c) : w.cell? ⟨r, 2, none⟩ = some c := by rw [cell_at h.blk]; rfl
theorem Box3.free (h : Box3 w r a b c) (i : Nat) : w.frozen? ⟨r, i, none⟩ = false := free_at h.blk i
theorem Box3.keep (h : Box3 w r a b c) {S : Nat → Prop} (k : Only S w w') (hr : ¬ S r) : Box3 w' r a b c := ⟨(k.block r h.lt hr).trans h.blk⟩
theorem Box3.below (h : Box3 w r a b c) (k : Below w.heap.size w w') : Box3 w' r a b c := ⟨(k.block r h.lt).trans h.blk⟩
theorem Box3.new (w : World) (a b c : Value) : Box3 (w.alloc (.cells #[a, b, c] 32)) w.heap.size a b c := ⟨heap_alloc_new w _⟩
theorem Box3.set1 (h : Box3 w r a b c) (v : Value) : Box3 (w.setCell ⟨r, 1, none⟩ v) r a v c ∧ Only (fun q => q = r) w (w.setCell ⟨r, 1, none⟩ v) := ⟨⟨by rw [set_at h.blk]; rfl⟩, (Only.refl (fun q => q = r) w).setCell (a := ⟨r, 1, none⟩) (.inr rfl) _⟩
theorem Box3.set2 (h : Box3 w r a b c) (v : Value) : Box3 (w.setCell ⟨r, 2, none⟩ v) r a b v ∧ Only (fun q => q = r) w (w.setCell ⟨r, 2, none⟩ v) := ⟨⟨by rw [set_at h.blk]; rfl⟩, (Only.refl (fun q => q = r) w).setCell (a := ⟨r, 2, none⟩) (.inr rfl) _⟩
theorem Box3.set (h : Box3 w r a b c) (a' b' c' : Value) : Box3 (((w.setCell ⟨r, 0, none⟩ a').setCell ⟨r, 1, none⟩ b').setCell ⟨r, 2, none⟩ c') r a' b' c' ∧
    Only (fun q => q = r) w (((w.setCell ⟨r, 0, none⟩ a').setCell ⟨r, 1, none⟩ b').setCell ⟨r, 2, none⟩ c') := by
  refine ⟨⟨?_⟩, (((Only.refl (fun q => q = r) w).setCell (a := ⟨r, 0, none⟩) (.inr rfl) _).setCell (a := ⟨r, 1, none⟩) (.inr rfl) _).setCell (a := ⟨r, 2, none⟩) (.inr rfl) _⟩
  rw [set_at (set_at (set_at h.blk _) _) _]
  rfl
end
section
variable {fn : Func} {p u : Tmp} {w : World} {g : Nat} {a b c : Value}
theorem res2y (hf : fn.results = #[.cell p 32, .tmp u]) (tmps : Array Value) (hp : tmps.getD p undef = .pointer (some ⟨g, 0, none⟩)) (hx : Box3 w g a b c) : (results fn tmps).run Tryz.prog w = .ok (.tuple #[.agg #[a, b, c], tmps.getD u undef]) w := by
  have hp' : tmps[p]?.getD undef = .pointer (some ⟨g, 0, none⟩) := by simpa using hp
  have hl := run_loadVar_row (P := Tryz.prog) w g 32 32 #[a, b, c] (0, 0) _ hx.blk Tryz.underlying32 rfl (by kernel_rfl)
  simp [results, hf, hp', asAddr, Result.andThen, hl]
end
end Go.Proofs.YthaepkpmpnofgaaGreat.CmdAt
