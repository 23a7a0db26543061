/- slices.Backward over entries: what the iterator hands out, and its contract with whatever body. -/
import Derived.Test.YtdbmpfongfiagaaRlgWalkC
import Derived.RangeFuncNested
import Derived.RangeFuncBound
import Derived.RangeFuncCalls
import Derived.RangeFuncLeaves
import Derived.RangeFuncBox
import Derived.Shelf.Abstract
import Derived.WalkKit
import Derived.OwnWalkIn
import Derived.TacticsInMore
import Derived.LoopNIn
import Derived.LoopIn
set_option linter.unusedVariables false
namespace Go.Proofs.Ytdbmpfongfiagaa.Back
open Go.RowKit Go.Shelf Go.Proofs.Ytdbmpfongfiagaa.Kit Go.Proofs.Ytdbmpfongfiagaa.Blocks Go.Proofs.Ytdbmpfongfiagaa.Rlog Go.Proofs.Ytdbmpfongfiagaa.Ents Go.Proofs.Ytdbmpfongfiagaa.RlgWalkC
attribute [local go_sem] Oper.semAt_some

/-- What a round is handed: an index and an entry. -/
abbrev Al := { x : Nat × Ent // x.2.data.size ≤ 9223372036854775807 }
def encs (x : Al) : Array Value := #[.int .i64 (x.1.1 : Int), .agg #[.int .u64 (x.1.2.term : Int), .int .u64 (x.1.2.idx : Int), .int .i64 x.1.2.kind, .string x.1.2.data]]
/-- All that comes, from the last one on. -/
def backs (es : List Ent) (hb : ∀ e ∈ es, e.data.size ≤ 9223372036854775807) : List Al := (List.range es.length).attach.reverse.map fun k => ⟨(k.1, es[k.1]'(List.mem_range.1 k.2)), hb _ (List.getElem_mem _)⟩
theorem backs_length (es : List Ent) (hb) : (backs es hb).length = es.length := by simp [backs]
theorem backs_get (es : List Ent) (hb) (k : Nat) (hk : k < es.length) : (backs es hb)[k]? = some ⟨(es.length - 1 - k, es[es.length - 1 - k]), hb _ (List.getElem_mem _)⟩ := by
  rw [List.getElem?_eq_getElem (by rw [backs_length]; exact hk)]
  simp [backs]
theorem takeS {α : Type} (l : List α) (k : Nat) (x : α) (h : l[k]? = some x) : l.take (k + 1) = l.take k ++ [x] := take_snoc l k x h

set_option maxRecDepth 100000 in
set_option maxHeartbeats 2000000 in
theorem back1_in (F : Fence) (n : Nat) (h7 : F.fn 78) (hro : F.round = none) (hn : 1 ≤ n) (l Bs n₀ len cap : Nat) (A : Option Addr) (es : List Ent) (hes) (h63 : len ≤ 9223372036854775807) (J Jx : List Al → World → Prop)
    (hY : ∀ pre (x : Al) W, J pre W → pre.length < len → YieldAt F (n - 1) Try.prog l (encs x) W fun e W' =>
      (e = .returned (.bool true) ∧ J (pre ++ [x]) W' ∧ Below n₀ W W') ∨ (e = .returned (.bool false) ∧ Jx (pre ++ [x]) W'))
    (W : World) (hBs0 : Bs < n₀) (hBs : W.cell? ⟨Bs, 0, none⟩ = some (.slice A len cap)) (hr : RE W n₀ A len es) (h0 : J [] W) :
    CallsIn F n Try.prog 78 #[.func (.yield l) #[] #[], .pointer (some ⟨Bs, 0, none⟩)] W fun e W' => (∃ v, e = .returned v) ∧
      ((∃ ys, ys = backs es hes ∧ J ys W') ∨ (∃ pre, (∃ k, k ≤ len ∧ pre = (backs es hes).take k) ∧ Jx pre W')) := by
  have hlen := RE.len hr
  have HLen := Lib.hid hlen
  refine callsIn_of_wp Try.func78 rfl h7 ?_ hro
  simp only [Try.ntmps78, List.size_toArray, List.length_cons, List.length_nil, Nat.reduceAdd, Nat.reduceSub, Array.replicate_succ, Array.replicate_zero, List.push_toArray, List.append_toArray, List.nil_append, List.cons_append]
  clear hlen
  gi_wp2
  gi_loopw [3] (fun i wr => ∃ z : Int, -1 ≤ z ∧ z < (len : Int) ∧ i = .int .i64 z ∧ J ((backs es hes).take ((len : Int) - 1 - z).toNat) wr ∧ Below n₀ W wr)
    (fun i _ => (intOf i + 1).toNat)
  case atStart => exact ⟨(len : Int) - 1, by omega, by omega, rfl, by rw [show ((len : Int) - 1 - ((len : Int) - 1)).toNat = 0 by omega]; exact h0, Below.refl _ _⟩
  case round =>
    obtain ⟨z, hz0, hz1, rfl, hJs, hnx⟩ := hrel
    have hbs := (hnx.cell (p := ⟨Bs, 0, none⟩) hBs0).trans hBs
    by_cases hlt : 0 ≤ z
    · obtain ⟨q, rfl⟩ := Int.eq_ofNat_of_zero_le hlt
      have hq : q < len := by omega
      obtain ⟨b, o, e, rfl, hbl, he, hfour⟩ := RE.at_ hr hq
      have hx := backs_get es hes (len - 1 - q) (by rw [HLen.out]; omega)
      have hqe : es.length - 1 - (len - 1 - q) = q := by rw [HLen.out]; omega
      have hx' : (backs es hes)[len - 1 - q]? = some ⟨(q, e), hes e (List.mem_of_getElem? he)⟩ := by
        rw [hx]
        simp only [hqe]
        obtain ⟨_, rfl⟩ := List.getElem?_eq_some_iff.1 he
        rfl
      rw [show ((len : Int) - 1 - (q : Int)).toNat = len - 1 - q by omega] at hJs
      obtain ⟨fn, tmps, assign, body, hy, hR⟩ := hY _ ⟨(q, e), hes e (List.mem_of_getElem? he)⟩ wr hJs (by rw [List.length_take, backs_length, HLen.out]; omega)
      have hts := takeS _ _ _ hx'
      rw [← hts] at hR
      have hf := Four.below hfour hnx hbl
      have c0 := hf.c0
      have c1 := hf.c1
      have c2 := hf.c2
      have c3 := hf.c3
      obtain ⟨tm, ix, kd, d⟩ := e
      dsimp only [encs] at hy
      simp only at c0 c1 c2 c3
      have hw1 : wrap64 ((q : Int) - 1) = (q : Int) - 1 := by unfold wrap64; omega
      clear hx hqe hx' hts hf hfour
      gi_wp2
      refine hR.mono ?_
      rintro e W3 (⟨rfl, hJ3, hk3⟩ | ⟨rfl, hJx3⟩)
      · gi_wp2
        go_roundw
        case rel => exact ⟨(q : Int) - 1, by omega, by omega, by simp, by rw [show ((len : Int) - 1 - ((q : Int) - 1)).toNat = len - 1 - q + 1 by omega]; exact hJ3, hnx.trans hk3⟩
        case measure => simp [intOf]
      · gi_wp2
        refine bodyPost_ret (results_none rfl _ _ _) rfl ?_
        exact ⟨⟨_, rfl⟩, .inr ⟨_, ⟨len - 1 - q + 1, by omega, rfl⟩, hJx3⟩⟩
    · obtain rfl : z = -1 := by omega
      rw [show ((len : Int) - 1 - (-1)).toNat = len by omega, List.take_of_length_le (by rw [backs_length, HLen.out]; exact Nat.le_refl _)] at hJs
      gi_wp2
      go_end0
      first | exact ⟨⟨_, rfl⟩, .inl ⟨_, rfl, hJs⟩⟩ | exact ⟨⟨_, rfl⟩, .inl hJs⟩
set_option maxRecDepth 100000 in
/-- slices.Backward(s): the slice's value is boxed; the function value captures the box. -/
theorem back_in (F : Fence) (n : Nat) (h5 : F.fn 62) (hro : F.round = none) (a : Option Addr) (len cap : Nat) (w : World) :
    CallsIn F n Try.prog 62 #[.slice a len cap] w fun e w' => e = .returned (.func (.func 78) #[] #[.pointer (some ⟨w.heap.size, 0, none⟩)]) ∧ w' = w.alloc (.cells #[.slice a len cap] 27) := by
  refine callsIn_of_wp Try.func62 rfl h5 ?_ hro
  simp only [Try.ntmps62, List.size_toArray, List.length_cons, List.length_nil, Nat.reduceAdd, Nat.reduceSub, Array.replicate_succ, Array.replicate_zero, List.push_toArray, List.append_toArray, List.nil_append, List.cons_append]
  gi_wp2
  go_ret
  exact ⟨rfl, rfl⟩
/-- It hands out all, or some first ones. -/
theorem back_stops (F : Fence) (n : Nat) (h7 : F.fn 78) (hro : F.round = none) (hn : 1 ≤ n) (Bs n₀ len cap : Nat) (A : Option Addr) (es : List Ent) (hes) (h63 : len ≤ 9223372036854775807) (w : World) (hBs : Bs < n₀) (hn₀ : n₀ ≤ w.heap.size)
    (hc : w.cell? ⟨Bs, 0, none⟩ = some (.slice A len cap)) (hr : RE w n₀ A len es) :
    SeqStopsK F n Try.prog 78 #[.pointer (some ⟨Bs, 0, none⟩)] encs (Below n₀) (fun ys => ys = backs es hes) (fun pre => ∃ k, k ≤ len ∧ pre = (backs es hes).take k) len w := fun l J Jx W hW _ _ hY h0 => by
  have hW' : Below n₀ w W := hW.mono hn₀
  exact back1_in F n h7 hro hn l Bs n₀ len cap A es hes h63 J Jx hY W hBs ((hW'.cell (p := ⟨Bs, 0, none⟩) hBs).trans hc) (Kit.Reads.below hr hW') h0
end Go.Proofs.Ytdbmpfongfiagaa.Back
