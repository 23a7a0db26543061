/- Replies in boxes; a row of a table that is written. No statement is proved here. -/
import Derived.Test.YthaepkpmpnofgaaHSsnWalkA
set_option linter.unusedVariables false
set_option linter.unusedSimpArgs false
namespace Go.Proofs.Ythaepkpmpnofgaa.Boxs
open Go.RowKit Go.Proofs.Ythaepkpmpnofgaa.Kit Go.Proofs.Ythaepkpmpnofgaa.Blocks Go.Proofs.Ythaepkpmpnofgaa.Ses Go.Proofs.Ythaepkpmpnofgaa.Rws Go.Proofs.Ythaepkpmpnofgaa.SsnWalkA

/-- A block of a reply's three cells. -/
structure Box3 (w : World) (r : Nat) (a b c : Value) : Prop where
  blk : w.heap[r]? = some (.cells #[a, b, c] 30 (0, 0))
section
variable {w w' : World} {r : Nat} {a b c : Value}
theorem Box3.lt (h : Box3 w r a b c) : r < w.heap.size := lt_at h.blk
theorem Box3.c0 (h : Box3 w r a b c) : w.cell? ⟨r, 0, none⟩ = some a := by rw [cell_at h.blk]; rfl
theorem Box3.c1 (h : Box3 w r a b c) : w.cell? ⟨r, 1, none⟩ = some b := by rw [cell_at h.blk]; rfl
theorem Box3.c2 (h : Box3 w r a b c) : w.cell? ⟨r, 2, none⟩ = some c := by rw [cell_at h.blk]; rfl
theorem Box3.free (h : Box3 w r a b c) (i : Nat) : w.frozen? ⟨r, i, none⟩ = false := free_at h.blk i
theorem Box3.keep (h : Box3 w r a b c) {S : Nat → Prop} (k : Only S w w') (hr : ¬ S r) : Box3 w' r a b c := ⟨(k.block r h.lt hr).trans h.blk⟩
theorem Box3.below (h : Box3 w r a b c) (k : Below w.heap.size w w') : Box3 w' r a b c := ⟨(k.block r h.lt).trans h.blk⟩
theorem Box3.new (w : World) (a b c : Value) : Box3 (w.alloc (.cells #[a, b, c] 30)) w.heap.size a b c := ⟨heap_alloc_new w _⟩
theorem Box3.set (h : Box3 w r a b c) (a' b' c' : Value) : Box3 (((w.setCell ⟨r, 0, none⟩ a').setCell ⟨r, 1, none⟩ b').setCell ⟨r, 2, none⟩ c') r a' b' c' ∧
    Only (fun q => q = r) w (((w.setCell ⟨r, 0, none⟩ a').setCell ⟨r, 1, none⟩ b').setCell ⟨r, 2, none⟩ c') := by
  refine ⟨⟨?_⟩, (((Only.refl (fun q => q = r) w).setCell (a := ⟨r, 0, none⟩) (.inr rfl) _).setCell (a := ⟨r, 1, none⟩) (.inr rfl) _).setCell (a := ⟨r, 2, none⟩) (.inr rfl) _⟩
  rw [set_at (set_at (set_at h.blk _) _) _]
  rfl
end
section
variable {fn : Func} {p u : Tmp} {w : World} {g : Nat} {a b c : Value}
theorem res2 (h : fn.results = #[.cell p 30, .tmp u]) (tmps : Array Value) (hp : tmps.getD p undef = .pointer (some ⟨g, 0, none⟩)) (hx : Box3 w g a b c) : (results fn tmps).run Try.prog w = .ok (.tuple #[.agg #[a, b, c], tmps.getD u undef]) w := by
  have hp' : tmps[p]?.getD undef = .pointer (some ⟨g, 0, none⟩) := by simpa using hp
  have hl := run_loadVar_row (P := Try.prog) w g 30 30 #[a, b, c] (0, 0) _ hx.blk Try.underlying30 rfl (by kernel_rfl)
  simp [results, h, hp', asAddr, Result.andThen, hl]
end
/-- Its last use is written into a row. -/
theorem put_used {m : Tb} {i : Nat} {r : Rw} (h : m.rows[i]? = some r) : (rcells m.rows).set (i * 6 + 1) (.int .u64 (m.now : Int)) = rcells (m.rows.set i (usedRow m r)) := by
  have hi : i < m.rows.length := (List.getElem?_eq_some_iff.1 h).1
  have hl : ((rcells m.rows).take (i * 6)).length = i * 6 := by rw [List.length_take, rcells_length]; omega
  rw [rcells_set h]
  conv => lhs; rw [rcells_at h]
  rw [List.append_assoc, List.append_assoc, List.set_append_right _ _ (by omega), hl, show i * 6 + 1 - i * 6 = 1 by omega]
  rfl
theorem put_seq {l : List Rw} {i : Nat} {r : Rw} (h : l[i]? = some r) (s : Nat) : (rcells l).set (i * 6 + 2) (.int .u64 (s : Int)) = rcells (l.set i (endRow r s r.y)) := by
  have hi : i < l.length := (List.getElem?_eq_some_iff.1 h).1
  have hl : ((rcells l).take (i * 6)).length = i * 6 := by rw [List.length_take, rcells_length]; omega
  rw [rcells_set h]
  conv => lhs; rw [rcells_at h]
  rw [List.append_assoc, List.append_assoc, List.set_append_right _ _ (by omega), hl, show i * 6 + 2 - i * 6 = 2 by omega]
  rfl
theorem put_ry {l : List Rw} {i : Nat} {r : Rw} (h : l[i]? = some r) (y : Ry) : (((rcells l).set (i * 6 + 3) (.int .i64 y.err)).set (i * 6 + 4) (.int .u64 (y.num : Int))).set (i * 6 + 5) (.int .u64 (y.ext : Int)) = rcells (l.set i (endRow r r.seq y)) := by
  have hi : i < l.length := (List.getElem?_eq_some_iff.1 h).1
  have hl : ((rcells l).take (i * 6)).length = i * 6 := by rw [List.length_take, rcells_length]; omega
  rw [rcells_set h]
  conv => lhs; rw [rcells_at h]
  rw [List.append_assoc, List.append_assoc, List.set_append_right _ _ (by omega), hl, show i * 6 + 3 - i * 6 = 3 by omega]
  rw [List.set_append_right _ _ (by omega), hl, show i * 6 + 4 - i * 6 = 4 by omega]
  rw [List.set_append_right _ _ (by omega), hl, show i * 6 + 5 - i * 6 = 5 by omega]
  rfl
section
variable {B : Nat} {T : Shape} {E : TypeId} {w : World} {p : Nat} {v : Value} {m : Tb} {i : Nat} {r : Rw} {g : Nat}
/-- A session is used now. -/
theorem TAt.used (h : TAt B T E w p v m) (hi : m.rows[i]? = some r) (hg : v.ownBlock = some g) :
    TAt B T E (w.setCell ⟨g, i * 6 + 1, none⟩ (.int .u64 (m.now : Int))) p v ⟨m.now, m.next, m.rows.set i (usedRow m r)⟩ ∧ Only (fun q => q = g) w (w.setCell ⟨g, i * 6 + 1, none⟩ (.int .u64 (m.now : Int))) := by
  have hil : i < m.rows.length := (List.getElem?_eq_some_iff.1 hi).1
  exact h.put (by simp) (by omega) (put_used hi) hg
theorem TAt.seqd (h : TAt B T E w p v m) (hi : m.rows[i]? = some r) (hg : v.ownBlock = some g) (s : Nat) :
    TAt B T E (w.setCell ⟨g, i * 6 + 2, none⟩ (.int .u64 (s : Int))) p v ⟨m.now, m.next, m.rows.set i (endRow r s r.y)⟩ ∧ Only (fun q => q = g) w (w.setCell ⟨g, i * 6 + 2, none⟩ (.int .u64 (s : Int))) := by
  have hil : i < m.rows.length := (List.getElem?_eq_some_iff.1 hi).1
  exact h.put (by simp) (by omega) (put_seq hi s) hg
/-- A cell of the rows' block is written, whatever the cells are then. -/
structure Raw (B : Nat) (T : Shape) (E : TypeId) (w : World) (p : Nat) (v : Value) (m : Tb) (xs : List Value) : Prop where
  low : B ≤ p
  cell : w.heap[p]? = some (.cells (Value.int .u64 (m.now : Int) :: .int .u64 (m.next : Int) :: v :: T.tl).toArray T.ty (0, 0))
  own : w.ownsRow B E 6 v m.rows.length xs
  np : v.ownBlock ≠ some p
theorem Raw.put {xs : List Value} {u : Value} (h : Raw B T E w p v m xs) {j : Nat} (hj : j < m.rows.length * 6) (hg : v.ownBlock = some g) :
    Raw B T E (w.setCell ⟨g, j, none⟩ u) p v m (xs.set j u) ∧ Only (fun q => q = g) w (w.setCell ⟨g, j, none⟩ u) := by
  have hset : Only (fun q => q = g) w (w.setCell ⟨g, j, none⟩ u) := (Only.refl (fun q => q = g) w).setCell (a := ⟨g, j, none⟩) (.inr rfl) _
  have hgp : g ≠ p := fun e => h.np (e ▸ hg)
  refine ⟨⟨h.low, hset.heap h.cell fun e => hgp e.symm, ?_, h.np⟩, hset⟩
  refine ⟨by rw [List.length_set]; exact h.own.1, ?_⟩
  rcases h.own.2 with ⟨e, h0⟩ | ⟨g', cap, cur, e, hb, hg', h4, h5, h6, h7⟩
  · omega
  · subst e
    have : g' = g := by simpa [Value.ownBlock] using hg
    subst this
    refine .inr ⟨g', cap, cur.setIfInBounds j u, rfl, hb, set_at hg' u, h4, h5, by simpa using h6, ?_⟩
    rw [Array.toList_setIfInBounds, ← h7, List.take_set]
theorem TAt.replied (h : TAt B T E w p v m) (hi : m.rows[i]? = some r) (hg : v.ownBlock = some g) (y : Ry) :
    TAt B T E (((w.setCell ⟨g, i * 6 + 3, none⟩ (.int .i64 y.err)).setCell ⟨g, i * 6 + 4, none⟩ (.int .u64 (y.num : Int))).setCell ⟨g, i * 6 + 5, none⟩ (.int .u64 (y.ext : Int))) p v ⟨m.now, m.next, m.rows.set i (endRow r r.seq y)⟩ ∧
      Only (fun q => q = g) w (((w.setCell ⟨g, i * 6 + 3, none⟩ (.int .i64 y.err)).setCell ⟨g, i * 6 + 4, none⟩ (.int .u64 (y.num : Int))).setCell ⟨g, i * 6 + 5, none⟩ (.int .u64 (y.ext : Int))) := by
  have hil : i < m.rows.length := (List.getElem?_eq_some_iff.1 hi).1
  have h0 : Raw B T E w p v m (rcells m.rows) := ⟨h.low, h.cell, h.own, h.np⟩
  obtain ⟨h1, o1⟩ := h0.put (j := i * 6 + 3) (u := .int .i64 y.err) (by omega) hg
  obtain ⟨h2, o2⟩ := h1.put (j := i * 6 + 4) (u := .int .u64 (y.num : Int)) (by omega) hg
  obtain ⟨h3, o3⟩ := h2.put (j := i * 6 + 5) (u := .int .u64 (y.ext : Int)) (by omega) hg
  refine ⟨⟨h3.low, h3.cell, ?_, h3.np⟩, (o1.trans o2).trans o3⟩
  have := h3.own
  rw [put_ry hi] at this
  simpa using this
end
end Go.Proofs.Ythaepkpmpnofgaa.Boxs
