/- Steps of a region that only reads, one by one, by what each yields. No statement is proved here. -/
import Derived.Test.YthaepkpmpnofgaaGreatHSagAt
import Derived.StillTailTactics
set_option linter.unusedVariables false
set_option linter.unusedSimpArgs false
namespace Go.Proofs.YthaepkpmpnofgaaGreat.Stl
open Go.RowKit Go.Proofs.YthaepkpmpnofgaaGreat.Kit

section
variable {ops : Array Oper} {w : World} {Q : Act → Prop} {o : Oper} {rest : List Oper} {a : Act} {v : Value}
theorem st_skip (hw : Region.wanted o (yielded ops a.tmps) = false) (h : wpStill Tryz.prog ops w Q rest (a.put o.dst undef)) : wpStill Tryz.prog ops w Q (o :: rest) a := by
  unfold wpStill
  rw [hw]
  exact h
theorem st_val (hw : Region.wanted o (yielded ops a.tmps) = true) (hv : (execOp a.eval o).run Tryz.prog w = .ok (.value v) w) (h : wpStill Tryz.prog ops w Q rest (a.put o.dst v)) : wpStill Tryz.prog ops w Q (o :: rest) a := by
  unfold wpStill
  rw [hw]
  unfold Oper.still
  rw [hv]
  exact ⟨rfl, h⟩
theorem st_skip2 {a' : Act} (hw : Region.wanted o (yielded ops a.tmps) = false) (hp : a.put o.dst undef = a') (h : wpStill Tryz.prog ops w Q rest a') : wpStill Tryz.prog ops w Q (o :: rest) a := by
  subst hp
  exact st_skip hw h
theorem st_val2 {a' : Act} (hw : Region.wanted o (yielded ops a.tmps) = true) (hv : (execOp a.eval o).run Tryz.prog w = .ok (.value v) w) (hp : a.put o.dst v = a') (h : wpStill Tryz.prog ops w Q rest a') : wpStill Tryz.prog ops w Q (o :: rest) a := by
  subst hp
  exact st_val hw hv h
theorem st_done (h : ∀ aF : Act, aF.tmps.getD 2 undef = v → aF.defers = [] → Q aF) (hv : a.tmps.getD 2 undef = v) (hd : a.defers = []) : wpStill Tryz.prog ops w Q [] a := h a hv hd
end
section
variable {ev : Operand → Value} {w : World} {x y : Operand} {d : Option Tmp} {ty t2 : TypeId} {pos : String} {af : Array Edge} {g : Option (Nat × Bool)}
theorem yz_load {p : Addr} {v : Value} (hp : ev x = .pointer (some p)) (hc : w.cell? p = some v) :
    (execOp ev { dst := d, op := .load 3 x, type := ty, pos := pos, after := af, guard := g }).run Tryz.prog w = .ok (.value v) w := by
  go_simp
theorem yz_loadS {p : Addr} {v : Value} (hp : ev x = .pointer (some p)) (hc : w.cell? p = some v) :
    (execOp ev { dst := d, op := .load 40 x, type := ty, pos := pos, after := af, guard := g }).run Tryz.prog w = .ok (.value v) w := by
  go_simp
theorem yz_eql {i j : Int} {b : Bool} (hx : ev x = .int .i64 i) (hy : ev y = .int .i64 j) (hb : (i == j) = b) :
    (execOp ev { dst := d, op := .binOp .eql 3 x y t2, type := ty, pos := pos, after := af, guard := g }).run Tryz.prog w = .ok (.value (.bool b)) w := by
  subst hb
  go_simp
theorem yz_geq {i j : Int} {b : Bool} (hx : ev x = .int .i64 i) (hy : ev y = .int .i64 j) (hb : decide (j ≤ i) = b) :
    (execOp ev { dst := d, op := .binOp .geq 3 x y t2, type := ty, pos := pos, after := af, guard := g }).run Tryz.prog w = .ok (.value (.bool b)) w := by
  subst hb
  go_simp
theorem yz_lss {i j : Int} {b : Bool} (hx : ev x = .int .i64 i) (hy : ev y = .int .i64 j) (hb : decide (i < j) = b) :
    (execOp ev { dst := d, op := .binOp .lss 3 x y t2, type := ty, pos := pos, after := af, guard := g }).run Tryz.prog w = .ok (.value (.bool b)) w := by
  subst hb
  go_simp
theorem yz_index {bk o n c k : Nat} (hx : ev x = .slice (some ⟨bk, o, none⟩) n c) (hy : ev y = .int .i64 (k : Int)) (hk : (k : Int) < (n : Int)) :
    (execOp ev { dst := d, op := .indexAddr 40 x y, type := ty, pos := pos, after := af, guard := g }).run Tryz.prog w = .ok (.value (.pointer (some ⟨bk, o + k * 3, none⟩))) w := by
  go_simp
end
end Go.Proofs.YthaepkpmpnofgaaGreat.Stl
