/- What Rows leaves, walked. No statement is proved here. -/
import Derived.Test.YtdmlfnknmilhcaaBoxs
import Derived.Laws.CopyOwn
import Derived.OwnWalk
set_option linter.unusedVariables false
set_option linter.unusedSimpArgs false
namespace Go.Proofs.Ytdmlfnknmilhcaa.WalkD
open Go.RowKit Go.Proofs.Ytdmlfnknmilhcaa.Kit Go.Proofs.Ytdmlfnknmilhcaa.Blocks Go.Proofs.Ytdmlfnknmilhcaa.Ses Go.Proofs.Ytdmlfnknmilhcaa.Rws Go.Proofs.Ytdmlfnknmilhcaa.WalkA Go.Proofs.Ytdmlfnknmilhcaa.Boxs

theorem run_copy6 {P : Program} (w : World) (dT sT ty elem : TypeId) (g n dCap : Nat) (a : Addr) (sCap : Nat) (cur : Array Value) (t : TypeId) (cs : List Value)
    (hu : P.underlying dT = some (.slice elem)) (hs : (P.info? elem).map (·.size) = some 6)
    (hg : w.heap[g]? = some (.cells cur t (0, 0))) (hn : cs.length = n * 6)
    (hsrc : ∀ j v, cs[j]? = some v → w.cell? (a.add j) = some v) (hfit : cs.length = cur.size) (h1 : ∀ v ∈ cs, v.oneCell' = true) :
    (Builtin.copy_ #[dT, sT] ty #[.slice (some ⟨g, 0, none⟩) n dCap, .slice (some a) n sCap]).run P w = .ok (goInt n) (w.setRow g cs.toArray) := by
  have hl := run_loadCells_list (P := P) w a cs hsrc
  have hst := run_storeCells_at P g 0 t cs 0 cur w hg (by omega) h1
  have e1 : cur.toList.drop cs.length = [] := List.drop_eq_nil_of_le (by simp; omega)
  simp only [Nat.add_zero, Nat.zero_add, List.take_zero, List.nil_append, e1, List.append_nil] at hst
  cases hq : P.info? elem with
  | none => simp [hq] at hs
  | some i =>
    have hi : i.size = 6 := by simpa [hq] using hs
    simp [Builtin.copy_, run_underlying hu, Builtin.lenOf, Builtin.firstCells, sizeOf, typeInfo, hq, hi, ← hn, hl, hst]
theorem run_copy0 {P : Program} (w : World) (dT sT ty elem : TypeId) (d a : Option Addr) (dCap sCap : Nat)
    (hu : P.underlying dT = some (.slice elem)) (hs : (P.info? elem).map (·.size) = some 6) :
    (Builtin.copy_ #[dT, sT] ty #[.slice d 0 dCap, .slice a 0 sCap]).run P w = .ok (goInt 0) w := by
  cases hq : P.info? elem with
  | none => simp [hq] at hs
  | some i =>
    have hi : i.size = 6 := by simpa [hq] using hs
    cases d <;> cases a <;> simp [Builtin.copy_, run_underlying hu, Builtin.lenOf, Builtin.firstCells, sizeOf, typeInfo, hq, hi, storeCells, loadCells, loadCellsFrom]
theorem infoZ : ((Try.prog.info? 74).map (·.size)) = some 6 := by kernel_rfl
/-- The rows, copied. -/
def Listed (w : World) (l : List Rw) (e : Ending) (w' : World) : Prop := ∃ A c, e = .returned (.slice A l.length c) ∧ RR w' w'.heap.size A l.length l ∧ Below w.heap.size w w'
theorem rows_none (w : World) : Calls Try.prog 23 #[.pointer none] w (Listed w []) := by
  go_enter Try.func23, Try.ntmps23
  go_wp2
  go_ret
  exact ⟨none, 0, rfl, RR.nil _ _ _, Below.refl _ _⟩
/-- A new row of zeros. -/
theorem made (w : World) (n : Nat) (hn : n ≤ 1000) : ∃ w1, (Instr.makeSlice 64 (.int .i64 (n : Int)) (.int .i64 (n : Int))).run Try.prog w = .ok (.slice (some ⟨w.heap.size, 0, none⟩) n n) w1 ∧
    (∃ cur, w1.heap[w.heap.size]? = some (.cells cur 74 (0, 0)) ∧ cur.size = n * 6) ∧ Below w.heap.size w w1 := by
  obtain ⟨i0, hi0, hz0, hz1, hz2⟩ := info_parts infoP
  obtain ⟨w1, h1, h2, h3⟩ := run_makeSlice_full (P := Try.prog) w w.heap.size 64 74 i0 _ 6 Try.underlying64 hi0 hz0 hz1 .i64 .i64 n (by omega) (by rw [hz2]; omega) (by unfold maxLen; omega) (Nat.le_refl _)
  refine ⟨w1, h1, ?_, (Below.refl _ _).grown h3 (Nat.le_refl _) (by simp)⟩
  rcases h2.2 with ⟨e, _⟩ | ⟨g, cap, cur, e, hb, hg, h4, h5, h6, h7⟩
  · cases e
  · cases e
    exact ⟨cur, hg, h6⟩
section
variable {B : Nat} {w : World} {p : Nat} {v : Value} {m : Tb}
set_option maxRecDepth 100000 in
theorem rows_any (h : PT B w p v m) (hf : m.rows.length ≤ 16) : Calls Try.prog 23 #[.pointer (some ⟨p, 0, none⟩)] w (Listed w m.rows) := by
  obtain ⟨w1, hmk, ⟨cur, hg, hcs⟩, hb1⟩ := made w m.rows.length (by omega)
  have c2 := h.c2
  have hp := h.plt
  have h1 := h.below hb1
  have d2 := h1.c2
  have hp1 := h1.plt
  obtain ⟨A, c, rfl, hnc, hcm, hr⟩ := h1.form
  obtain ⟨n, hl⟩ : ∃ n, m.rows.length = n := ⟨_, rfl⟩
  rw [hl] at hmk hcs c2 d2 hnc hr hf
  have hlt : w.heap.size < w1.heap.size := lt_at hg
  rcases Nat.eq_zero_or_pos n with h0 | h0
  · subst h0
    have hrows : m.rows = [] := List.eq_nil_of_length_eq_zero hl
    rw [hrows]
    have hcp := fun ty => run_copy0 (P := Try.prog) w1 64 64 ty 74 (some ⟨w.heap.size, 0, none⟩) A 0 c Try.underlying64 infoZ
    have hmk0 : (Instr.makeSlice 64 (.int .i64 0) (.int .i64 0)).run Try.prog w = .ok (.slice (some ⟨w.heap.size, 0, none⟩) 0 0) w1 := hmk
    clear h h1 hr hg hl hrows hmk
    go_enter Try.func23, Try.ntmps23
    go_wp2
    go_ret
    exact ⟨_, 0, rfl, RR.nil _ _ _, hb1⟩
  · obtain ⟨ad, rfl, hbl, hcell⟩ := hr.2 h0
    have hcp := fun ty => run_copy6 (P := Try.prog) w1 64 64 ty 74 w.heap.size n n ad c cur _ (rcells m.rows) Try.underlying64 infoZ hg (by rw [rcells_length, hl]) hcell (by rw [rcells_length, hl, hcs]) (rcells_one _)
    have hrow := setRow_heap w1 w.heap.size cur (rcells m.rows).toArray _ (0, 0) hg
    have HR : Hid (Listed w m.rows (.returned (.slice (some ⟨w.heap.size, 0, none⟩) n n)) (w1.setRow w.heap.size (rcells m.rows).toArray)) := by
      refine ⟨_, n, by rw [hl], ⟨by rw [rcells_length], fun hn => ⟨_, rfl, lt_at hrow, fun j u hj => ?_⟩⟩, below_setRow hb1 (Nat.le_refl _) _⟩
      rw [Addr.add_lit, Nat.zero_add, cell_of_row _ _ j _ _ (0, 0) hrow]
      simpa using hj
    clear h h1 hr hg hrow hcell
    go_enter Try.func23, Try.ntmps23
    go_wp2
    go_ret
    exact HR.out
end
end Go.Proofs.Ytdmlfnknmilhcaa.WalkD
