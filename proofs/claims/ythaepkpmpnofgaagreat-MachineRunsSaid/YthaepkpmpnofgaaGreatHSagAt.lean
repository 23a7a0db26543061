/- Sagas in memory: values, boxes, copies. No statement is proved here. -/
import Derived.Test.YthaepkpmpnofgaaGreatGN
import Derived.Test.YthaepkpmpnofgaaGreatHAppS
import Derived.Test.YthaepkpmpnofgaaGreatGQ1
import Derived.Lib.SliceRun
set_option linter.unusedVariables false
set_option linter.unusedSimpArgs false
namespace Go.Proofs.YthaepkpmpnofgaaGreat.SagAt
open Go.RowKit Go.Proofs.YthaepkpmpnofgaaGreat.Kit Go.Proofs.YthaepkpmpnofgaaGreat.Stq Go.Proofs.YthaepkpmpnofgaaGreat.Pln Go.Proofs.YthaepkpmpnofgaaGreat.Sag
open Go.Proofs.YthaepkpmpnofgaaGreat.AppS (wpList_app)
open Go.Proofs.YthaepkpmpnofgaaGreat.State (Only cell_at free_at set_at lt_at)

/-- A saga's steps in memory, at most so many that a copy has room. -/
structure At (w : World) (A : Option Addr) (l : List Sp) : Prop where
  rs : RS w w.heap.size A l.length l
  room : l.length * 32 ≤ 140737488355328
  nm : ∀ e ∈ l, e.nm.size ≤ 9223372036854775807
/-- Steps whose block is not below a border. -/
def Fresh (B : Nat) (A : Option Addr) (n : Nat) : Prop := 0 < n → ∀ ad, A = some ad → B ≤ ad.block
def sgV (A : Option Addr) (c : Nat) (s : Sg) : Value := .agg #[.slice A s.l.length c, .int .i64 s.st, .int .i64 s.cu, .int .i64 s.fa]
section
variable {w w' : World} {A : Option Addr} {l : List Sp}
theorem rs_later {n : Nat} (h : RS w w.heap.size A n l) (k : Below w.heap.size w w') : RS w' w'.heap.size A n l := (Kit.Reads.below h k).more k.size
theorem At.below (h : At w A l) (k : Below w.heap.size w w') : At w' A l := ⟨rs_later h.rs k, h.room, h.nm⟩
theorem At.few (h : At w A l) : l.length ≤ 9223372036854775807 := by have := h.room; omega
/-- Steps that lie elsewhere stay. -/
theorem At.only {S : Nat → Prop} (h : At w A l) (k : Only S w w') (hs : 0 < l.length → ∀ ad, A = some ad → ¬ S ad.block) : At w' A l :=
  ⟨⟨h.rs.1, fun hn => by
    obtain ⟨ad, e, hb, hc⟩ := h.rs.2 hn
    exact ⟨ad, e, Nat.lt_of_lt_of_le hb k.size, fun i u hi => (k.cell (p := ad.add i) (by rw [block_of_add]; omega) (by rw [block_of_add]; exact hs hn ad e)).trans (hc i u hi)⟩⟩, h.room, h.nm⟩
end
/-- A block of four cells. -/
structure Box4 (w : World) (r : Nat) (a b c d : Value) : Prop where
  blk : w.heap[r]? = some (.cells #[a, b, c, d] 49 (0, 0))
section
variable {w w' : World} {r : Nat} {a b c d : Value}
theorem Box4.lt (h : Box4 w r a b c d) : r < w.heap.size := lt_at h.blk
theorem Box4.c0 (h : Box4 w r a b c d) : w.cell? ⟨r, 0, none⟩ = some a := by rw [cell_at h.blk]; rfl
theorem Box4.c1 (h : Box4 w r a b c d) : w.cell? ⟨r, 1, none⟩ = some b := by rw [cell_at h.blk]; rfl
theorem Box4.c2 (h : Box4 w r a b c d) : w.cell? ⟨r, 2, none⟩ = some c := by rw [cell_at h.blk]; rfl
theorem Box4.c3 (h : Box4 w r a b c d) : w.cell? ⟨r, 3, none⟩ = some d := by rw [cell_at h.blk]; rfl
theorem Box4.free (h : Box4 w r a b c d) (i : Nat) : w.frozen? ⟨r, i, none⟩ = false := free_at h.blk i
theorem Box4.keep (h : Box4 w r a b c d) {S : Nat → Prop} (k : Only S w w') (hr : ¬ S r) : Box4 w' r a b c d := ⟨(k.block r h.lt hr).trans h.blk⟩
theorem Box4.below (h : Box4 w r a b c d) (k : Below w.heap.size w w') : Box4 w' r a b c d := ⟨(k.block r h.lt).trans h.blk⟩
theorem Box4.new (w : World) (a b c d : Value) : Box4 (w.alloc (.cells #[a, b, c, d] 49)) w.heap.size a b c d := ⟨heap_alloc_new w _⟩
theorem Box4.set (h : Box4 w r a b c d) (a' b' c' d' : Value) : Box4 ((((w.setCell ⟨r, 0, none⟩ a').setCell ⟨r, 1, none⟩ b').setCell ⟨r, 2, none⟩ c').setCell ⟨r, 3, none⟩ d') r a' b' c' d' ∧
    Only (fun q => q = r) w ((((w.setCell ⟨r, 0, none⟩ a').setCell ⟨r, 1, none⟩ b').setCell ⟨r, 2, none⟩ c').setCell ⟨r, 3, none⟩ d') := by
  refine ⟨⟨?_⟩, ((((Only.refl (fun q => q = r) w).setCell (a := ⟨r, 0, none⟩) (.inr rfl) _).setCell (a := ⟨r, 1, none⟩) (.inr rfl) _).setCell (a := ⟨r, 2, none⟩) (.inr rfl) _).setCell (a := ⟨r, 3, none⟩) (.inr rfl) _⟩
  rw [set_at (set_at (set_at (set_at h.blk _) _) _) _]
  rfl
theorem Box4.set0 (h : Box4 w r a b c d) (v : Value) : Box4 (w.setCell ⟨r, 0, none⟩ v) r v b c d ∧ Only (fun q => q = r) w (w.setCell ⟨r, 0, none⟩ v) := ⟨⟨by rw [set_at h.blk]; rfl⟩, (Only.refl (fun q => q = r) w).setCell (a := ⟨r, 0, none⟩) (.inr rfl) _⟩
theorem Box4.set1 (h : Box4 w r a b c d) (v : Value) : Box4 (w.setCell ⟨r, 1, none⟩ v) r a v c d ∧ Only (fun q => q = r) w (w.setCell ⟨r, 1, none⟩ v) := ⟨⟨by rw [set_at h.blk]; rfl⟩, (Only.refl (fun q => q = r) w).setCell (a := ⟨r, 1, none⟩) (.inr rfl) _⟩
theorem Box4.set2 (h : Box4 w r a b c d) (v : Value) : Box4 (w.setCell ⟨r, 2, none⟩ v) r a b v d ∧ Only (fun q => q = r) w (w.setCell ⟨r, 2, none⟩ v) := ⟨⟨by rw [set_at h.blk]; rfl⟩, (Only.refl (fun q => q = r) w).setCell (a := ⟨r, 2, none⟩) (.inr rfl) _⟩
theorem Box4.set3 (h : Box4 w r a b c d) (v : Value) : Box4 (w.setCell ⟨r, 3, none⟩ v) r a b c v ∧ Only (fun q => q = r) w (w.setCell ⟨r, 3, none⟩ v) := ⟨⟨by rw [set_at h.blk]; rfl⟩, (Only.refl (fun q => q = r) w).setCell (a := ⟨r, 3, none⟩) (.inr rfl) _⟩
end

/-! ### Results in a box -/
section
variable {fn : Func} {p u : Tmp} {w : World} {g : Nat} {a b c d : Value}
theorem res1 (h : fn.results = #[.cell p 49]) (tmps : Array Value) (hp : tmps.getD p undef = .pointer (some ⟨g, 0, none⟩)) (hx : Box4 w g a b c d) : (results fn tmps).run Tryz.prog w = .ok (.agg #[a, b, c, d]) w := by
  have hp' : tmps[p]?.getD undef = .pointer (some ⟨g, 0, none⟩) := by simpa using hp
  have hl := run_loadVar_row (P := Tryz.prog) w g 49 49 #[a, b, c, d] (0, 0) _ hx.blk Tryz.underlying49 rfl (by kernel_rfl)
  simp [results, h, hp', asAddr, Result.andThen, hl]
theorem res2 (h : fn.results = #[.cell p 49, .tmp u]) (tmps : Array Value) (hp : tmps.getD p undef = .pointer (some ⟨g, 0, none⟩)) (hx : Box4 w g a b c d) : (results fn tmps).run Tryz.prog w = .ok (.tuple #[.agg #[a, b, c, d], tmps.getD u undef]) w := by
  have hp' : tmps[p]?.getD undef = .pointer (some ⟨g, 0, none⟩) := by simpa using hp
  have hl := run_loadVar_row (P := Tryz.prog) w g 49 49 #[a, b, c, d] (0, 0) _ hx.blk Tryz.underlying49 rfl (by kernel_rfl)
  simp [results, h, hp', asAddr, Result.andThen, hl]
end

/-- A copy is handed back. -/
def Gives (w : World) (l : List Sp) (e : Ending) (w' : World) : Prop := ∃ A c, e = .returned (.slice A l.length c) ∧ RS w' w'.heap.size A l.length l ∧ Below w.heap.size w w' ∧ Fresh w.heap.size A l.length
theorem qE : ∀ (w : World) (a : Option Addr) (n c n' c' : Nat), (binOp .eql 40 (.slice a n c) (.slice none n' c')).run Tryz.prog w = .ok (.bool a.isNone) w := fun w a n c n' c' => Lib.run_eql_slice_nil w _ _ a n c n' c' Tryz.underlying40
set_option maxRecDepth 100000 in
theorem clone_nil (c : Nat) (w : World) : Calls Tryz.prog 53 #[.slice none 0 c] w (Gives w []) := by
  have q := qE
  go_enter Tryz.func53, Tryz.ntmps53
  go_wp2
  go_ret
  exact ⟨none, 0, rfl, RS.nil _ _ _, Below.refl _ _, fun h => absurd h (by decide)⟩
set_option maxRecDepth 100000 in
theorem clone_some (ad : Addr) (n c : Nat) (l : List Sp) (w : World) (hr : RS w w.heap.size (some ad) n l) (hb : n * 32 ≤ 140737488355328) : Calls Tryz.prog 53 #[.slice (some ad) n c] w (Gives w l) := by
  have q := qE
  have hn := RS.len hr
  have HN := Lib.hid hn
  have hra : ∀ o, Reads (w.alloc o) w.heap.size 3 (some ad) n (scells l) := fun o => Reads.alloc hr (Nat.le_refl _) o
  have hown := World.ownsRow_made (e := 67) (size := 3) w #[] 0 (base := w.heap.size) (Nat.le_refl _) (Nat.zero_le _) (by simp)
  have HO := Lib.hid hown
  clear hn hown
  go_enter Tryz.func53, Tryz.ntmps53
  go_wp2_with (first
    | (at_builtin
       refine wpList_app (v := .slice (some ⟨w.heap.size, 0, none⟩) 0 0) _ rfl _ _ rfl w.heap.size rfl HO.out rfl (hra _) (scells_one l) (by omega) (by simp) ?_
       intro A' c' w1 hown1 hg1 hat1))
  have hb1 : Below w.heap.size w w1 := ((Below.refl _ w).alloc (Nat.le_refl _) _).grown hg1 (by simp) (by intro k hk; simp [Value.ownBlock] at hk; omega)
  rw [Nat.zero_add] at hown1
  obtain ⟨A2, c2, he2, hc1, hc2, hr2⟩ := own_form hown1
  cases he2
  have HR := Lib.hid hr2
  have HFr : Hid (Fresh w.heap.size A' n) := fun hn ad' e => by
    subst e
    rcases hown1.2 with h0 | ⟨g, cap, cur, hv, h1, _, _⟩
    · cases h0.1
    · cases hv; exact h1
  clear hown1 hat1 hr2
  go_wp2
  go_ret
  have hN := HN.out
  subst hN
  exact ⟨A', c', rfl, by simpa using HR.out, hb1, HFr.out⟩
theorem clone_any (A : Option Addr) (c : Nat) {l : List Sp} {w : World} (h : At w A l) : Calls Tryz.prog 53 #[.slice A l.length c] w (Gives w l) := by
  cases A with
  | some ad => exact clone_some ad l.length c l w h.rs h.room
  | none =>
    have hn : l.length = 0 := by
      rcases Nat.eq_zero_or_pos l.length with e | e
      · exact e
      · obtain ⟨ad, e, _⟩ := h.rs.2 e; cases e
    have hl := List.eq_nil_of_length_eq_zero hn
    subst hl
    exact clone_nil c w
end Go.Proofs.YthaepkpmpnofgaaGreat.SagAt
