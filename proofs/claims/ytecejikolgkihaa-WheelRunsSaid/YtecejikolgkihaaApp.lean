/- An append of timers onto any row of the call's own: the law at a plain region's list and at a step of a region that draws. No statement is proved here. -/
import Derived.Test.YtecejikolgkihaaWAt
import Derived.Deep.RegionLaw
set_option linter.unusedVariables false
namespace Go.Proofs.Ytecejikolgkihaa.App
open Go.RowKit Go.Proofs.Ytecejikolgkihaa.Kit Go.Proofs.Ytecejikolgkihaa.Blocks Go.Proofs.Ytecejikolgkihaa.Whl Go.Proofs.Ytecejikolgkihaa.Tms

section
variable {B n m c : Nat} {A : Option Addr} {v : Value} {xs news : List Value}
theorem run_app (w : World) (base : Nat) (hown : w.ownsRow base 52 2 v n xs) (hr : Reads w B 2 A m news) (h1 : ∀ u ∈ news, u.oneCell' = true) (hb : (n + m) * 16 ≤ 140737488355328) (hbase : base ≤ w.heap.size) (ty : TypeId) :
    ∃ A' c' w', (Builtin.append_ #[46, 46] ty #[v, .slice A m c]).run Try.prog w = .ok (.slice A' (n + m) c') w' ∧ w'.ownsRow base 52 2 (.slice A' (n + m) c') (n + m) (xs ++ news) ∧ w.grownBy w' v.ownBlock ∧
      ((Value.slice A' (n + m) c').ownBlock = v.ownBlock ∨ (Value.slice A' (n + m) c').ownBlock = some w.heap.size) := by
  obtain ⟨i0, hi0, hz0, hz1, hz2⟩ := info_parts infoT
  obtain ⟨v', w', hrun, h2, h3, h4⟩ := run_append_any (P := Try.prog) w base 46 ty 52 i0 _ 2 16 Try.underlying46 hi0 hz0 hz1 hz2 rfl (by decide) v n xs hown B A m c news hr h1 (by unfold maxLen; omega) hb hbase
  obtain ⟨A', c', rfl, _, _, _⟩ := own_form h2
  exact ⟨A', c', w', hrun, h2, h3, h4⟩
theorem wp_app {o : Oper} {a : Act} {K : Act → World → Prop} {Q : Exit → Act → World → Prop} (w : World) (s x : Operand) 
    (ho : o.op = .call { callee := .builtin .append, args := #[s, x], argTypes := #[46, 46] })
    (base : Nat) (hs : a.eval s = v) (hown : w.ownsRow base 52 2 v n xs) (hx : a.eval x = .slice A m c) (hr : Reads w B 2 A m news) (h1 : ∀ u ∈ news, u.oneCell' = true) (hb : (n + m) * 16 ≤ 140737488355328) (hbase : base ≤ w.heap.size)
    (h : ∀ A' c' w', w'.ownsRow base 52 2 (.slice A' (n + m) c') (n + m) (xs ++ news) → w.grownBy w' v.ownBlock →
      ((Value.slice A' (n + m) c').ownBlock = v.ownBlock ∨ (Value.slice A' (n + m) c').ownBlock = some w.heap.size) → K (a.put o.dst (.slice A' (n + m) c')) w') : o.wp Try.prog a w K Q := by
  obtain ⟨A', c', w', hrun, h2, h3, h4⟩ := run_app (c := c) w base hown hr h1 hb hbase o.type
  unfold Oper.wp execOp
  simp only [ho, resolve, invoke, builtin, Sem.run_bind, Sem.run_pure, Result.andThen_ok, List.map_toArray, List.map_cons, List.map_nil, hs, hx, hrun]
  exact h A' c' w' h2 h3 h4
theorem step_app {ops : Array Oper} {o : Oper} {a : Act} {K : Act → World → Prop} {Q : Exit → Act → World → Prop} {E : Prop} (w : World) (hgd : o.guard = none) (s x : Operand) 
    (ho : o.op = .call { callee := .builtin .append, args := #[s, x], argTypes := #[46, 46] })
    (base : Nat) (hs : a.eval s = v) (hown : w.ownsRow base 52 2 v n xs) (hx : a.eval x = .slice A m c) (hr : Reads w B 2 A m news) (h1 : ∀ u ∈ news, u.oneCell' = true) (hb : (n + m) * 16 ≤ 140737488355328) (hbase : base ≤ w.heap.size)
    (h : ∀ A' c' w', w'.ownsRow base 52 2 (.slice A' (n + m) c') (n + m) (xs ++ news) → w.grownBy w' v.ownBlock →
      ((Value.slice A' (n + m) c').ownBlock = v.ownBlock ∨ (Value.slice A' (n + m) c').ownBlock = some w.heap.size) → K (a.put o.dst (.slice A' (n + m) c')) w') :
    if Region.wanted o (yielded ops a.tmps) = true then Oper.wp Try.prog o a w K Q else E := by
  have hw : Region.wanted o (yielded ops a.tmps) = true := by simp [Region.wanted, hgd]
  rw [if_pos hw]
  exact wp_app w s x ho base hs hown hx hr h1 hb hbase h
end
/-- One new timer. -/
theorem tm_new (w : World) (e : Tm) (t : TypeId) : RT (w.alloc (.cells (tmCs e).toArray t)) (w.heap.size + 1) (some ⟨w.heap.size, 0, none⟩) 1 [e] := by
  refine ⟨by rw [tcells_length]; rfl, fun _ => ⟨_, rfl, Nat.lt_succ_self _, fun j x hj => ?_⟩⟩
  rw [tcells_one_tm] at hj
  rw [Addr.add_lit, Nat.zero_add, cell_of_row _ _ j _ t (0, 0) (heap_alloc_new w _)]
  simpa using hj
end Go.Proofs.Ytecejikolgkihaa.App
