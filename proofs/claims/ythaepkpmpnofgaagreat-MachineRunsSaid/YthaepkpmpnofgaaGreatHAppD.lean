/- An append of sessions, from any source, onto any row of the call's own: the law at a plain list and at a step of a region that draws. No statement is proved here. -/
import Derived.Test.YthaepkpmpnofgaaGreatGSs
import Derived.Deep.RegionLaw
set_option linter.unusedVariables false
namespace Go.Proofs.YthaepkpmpnofgaaGreat.AppD
open Go.RowKit Go.Proofs.YthaepkpmpnofgaaGreat.Kit Go.Proofs.YthaepkpmpnofgaaGreat.Rws

section
variable {B n m c : Nat} {A : Option Addr} {v : Value} {xs news : List Value}
theorem run_app (w : World) (base : Nat) (hown : w.ownsRow base 125 6 v n xs) (hr : Reads w B 6 A m news) (h1 : ∀ u ∈ news, u.oneCell' = true) (hb : (n + m) * 48 ≤ 140737488355328) (hbase : base ≤ w.heap.size) (ty : TypeId) :
    ∃ A' c' w', (Builtin.append_ #[54, 54] ty #[v, .slice A m c]).run Tryz.prog w = .ok (.slice A' (n + m) c') w' ∧ w'.ownsRow base 125 6 (.slice A' (n + m) c') (n + m) (xs ++ news) ∧ w.grownBy w' v.ownBlock ∧
      ((Value.slice A' (n + m) c').ownBlock = v.ownBlock ∨ (Value.slice A' (n + m) c').ownBlock = some w.heap.size) := by
  obtain ⟨i0, hi0, hz0, hz1, hz2⟩ := info_parts infoD
  obtain ⟨v', w', hrun, h2, h3, h4⟩ := run_append_any (P := Tryz.prog) w base 54 ty 125 i0 _ 6 48 Tryz.underlying54 hi0 hz0 hz1 hz2 rfl (by decide) v n xs hown B A m c news hr h1 (by unfold maxLen; omega) hb hbase
  obtain ⟨A', c', rfl, _, _, _⟩ := own_form h2
  exact ⟨A', c', w', hrun, h2, h3, h4⟩
theorem wp_app {o : Oper} {a : Act} {K : Act → World → Prop} {Q : Exit → Act → World → Prop} (w : World) (s x : Operand) 
    (ho : o.op = .call { callee := .builtin .append, args := #[s, x], argTypes := #[54, 54] })
    (base : Nat) (hs : a.eval s = v) (hown : w.ownsRow base 125 6 v n xs) (hx : a.eval x = .slice A m c) (hr : Reads w B 6 A m news) (h1 : ∀ u ∈ news, u.oneCell' = true) (hb : (n + m) * 48 ≤ 140737488355328) (hbase : base ≤ w.heap.size)
    (h : ∀ A' c' w', w'.ownsRow base 125 6 (.slice A' (n + m) c') (n + m) (xs ++ news) → w.grownBy w' v.ownBlock →
      ((Value.slice A' (n + m) c').ownBlock = v.ownBlock ∨ (Value.slice A' (n + m) c').ownBlock = some w.heap.size) → K (a.put o.dst (.slice A' (n + m) c')) w') : o.wp Tryz.prog a w K Q := by
  obtain ⟨A', c', w', hrun, h2, h3, h4⟩ := run_app (c := c) w base hown hr h1 hb hbase o.type
  unfold Oper.wp execOp
  simp only [ho, resolve, invoke, builtin, Sem.run_bind, Sem.run_pure, Result.andThen_ok, List.map_toArray, List.map_cons, List.map_nil, hs, hx, hrun]
  exact h A' c' w' h2 h3 h4
theorem wpList_app {ops : Array Oper} {rest : List Oper} {o : Oper} {a : Act} {Q : Exit → Act → World → Prop} (w : World) (hgd : o.guard = none) (s x : Operand) 
    (ho : o.op = .call { callee := .builtin .append, args := #[s, x], argTypes := #[54, 54] })
    (base : Nat) (hs : a.eval s = v) (hown : w.ownsRow base 125 6 v n xs) (hx : a.eval x = .slice A m c) (hr : Reads w B 6 A m news) (h1 : ∀ u ∈ news, u.oneCell' = true) (hb : (n + m) * 48 ≤ 140737488355328) (hbase : base ≤ w.heap.size)
    (h : ∀ A' c' w', w'.ownsRow base 125 6 (.slice A' (n + m) c') (n + m) (xs ++ news) → w.grownBy w' v.ownBlock →
      ((Value.slice A' (n + m) c').ownBlock = v.ownBlock ∨ (Value.slice A' (n + m) c').ownBlock = some w.heap.size) → wpList Tryz.prog ops Q rest (a.put o.dst (.slice A' (n + m) c')) w') : wpList Tryz.prog ops Q (o :: rest) a w :=
  wpList_plain hgd fun _ hK => wp_app w s x ho base hs hown hx hr h1 hb hbase fun A' c' w' h2 h3 h4 => hK _ _ (h A' c' w' h2 h3 h4)
theorem step_app {ops : Array Oper} {o : Oper} {a : Act} {K : Act → World → Prop} {Q : Exit → Act → World → Prop} {E : Prop} (w : World) (hgd : o.guard = none) (s x : Operand) 
    (ho : o.op = .call { callee := .builtin .append, args := #[s, x], argTypes := #[54, 54] })
    (base : Nat) (hs : a.eval s = v) (hown : w.ownsRow base 125 6 v n xs) (hx : a.eval x = .slice A m c) (hr : Reads w B 6 A m news) (h1 : ∀ u ∈ news, u.oneCell' = true) (hb : (n + m) * 48 ≤ 140737488355328) (hbase : base ≤ w.heap.size)
    (h : ∀ A' c' w', w'.ownsRow base 125 6 (.slice A' (n + m) c') (n + m) (xs ++ news) → w.grownBy w' v.ownBlock →
      ((Value.slice A' (n + m) c').ownBlock = v.ownBlock ∨ (Value.slice A' (n + m) c').ownBlock = some w.heap.size) → K (a.put o.dst (.slice A' (n + m) c')) w') :
    if Region.wanted o (yielded ops a.tmps) = true then Oper.wp Tryz.prog o a w K Q else E := by
  have hw : Region.wanted o (yielded ops a.tmps) = true := by simp [Region.wanted, hgd]
  rw [if_pos hw]
  exact wp_app w s x ho base hs hown hx hr h1 hb hbase h
end
end Go.Proofs.YthaepkpmpnofgaaGreat.AppD
