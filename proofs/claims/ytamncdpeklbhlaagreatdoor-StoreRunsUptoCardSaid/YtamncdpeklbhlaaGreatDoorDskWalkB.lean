/- What put leaves, walked: an entry is laid into a disk's map, which is made with the first one. -/
import Derived.Test.YtamncdpeklbhlaaGreatDoorDskWalkA
namespace Go.Proofs.YtamncdpeklbhlaaGreatDoor.DskWalkB
open Go.RowKit Go.Proofs.YtamncdpeklbhlaaGreatDoor.Kit Go.Proofs.YtamncdpeklbhlaaGreatDoor.Blocks Go.Proofs.YtamncdpeklbhlaaGreatDoor.Keys Go.Proofs.YtamncdpeklbhlaaGreatDoor.Model Go.Proofs.YtamncdpeklbhlaaGreatDoor.Disk

/-- What put leaves. -/
def Put (w : World) (p N : Nat) (r x : Int) (off : Bool) (mb : Option Nat) (g : Int → Option Value) (n : Int) (v : Value) (e : Ending) (w' : World) : Prop :=
  e = .returned (.tuple #[]) ∧ ∃ b, (mb = some b ∨ (mb = none ∧ w.heap.size ≤ b)) ∧ w'.heap[p]? = some (.cells #[.int .i64 r, .int .i64 x, .bool off, .map (some b)] 86 (0, 0)) ∧
    MapAt Tryz.prog 3 w' b (N + 1) (fun j => if j = n then some v else g j) ∧ Only (fun q => q = p ∨ mb = some q) w w'

section
variable {w : World} {p N : Nat} {r x : Int} {off : Bool} {g : Int → Option Value}
set_option maxRecDepth 100000 in
theorem put_some (b : Nat) (n fl : Int) (sl : Value) (hc : w.heap[p]? = some (.cells #[.int .i64 r, .int .i64 x, .bool off, .map (some b)] 86 (0, 0))) (hm : MapAt Tryz.prog 3 w b N g) (hN : N < 1000000)
    (h0 : -9223372036854775808 ≤ n) (h1 : n ≤ 9223372036854775807) :
    Calls Tryz.prog 61 #[.pointer (some ⟨p, 0, none⟩), .int .i64 n, .agg #[sl, .int .i64 fl]] w (Put w p N r x off (some b) g n (.agg #[sl, .int .i64 fl])) := by
  have hlt := lt_at hc
  have hcell : w.cell? ⟨p, 3, none⟩ = some (.map (some b)) := by rw [cell_at hc]; rfl
  have hmd : MapAt Tryz.prog 3 (w.alloc (.cells #[sl, .int .i64 fl] 113)).drew b N g := hm.keep (by show (w.alloc _).heap[b]? = _; exact Below.heap_alloc _ _ _ hm.lt)
  obtain ⟨w1, hrun, hm1, ho1⟩ := hmd.store (e := 113) Tryz.underlying3 Tryz.underlying84 (by unfold maxLen; omega) h0 h1 (.agg #[sl, .int .i64 fl])
  have hoa : Only (fun q => q = b) w w1 := (((Only.refl (fun q => q = b) w).alloc _).drew).trans ho1
  have qT : ∀ (w : World) (r : Option Nat), (binOp .eql 84 (.map r) (.map none)).run Tryz.prog w = .ok (.bool r.isNone) w := fun w r => run_eql_map_nil w _ _ _ r Tryz.underlying84
  go_enter Tryz.func61, Tryz.ntmps61
  go_wp2
  go_region
  all_goals go_wp2
  all_goals go_end0
  have hpb : p ≠ b := fun e => by
    obtain ⟨D, ⟨es, clock, hes, _⟩, _⟩ := hm
    rw [← e, hc] at hes
    cases hes
  exact ⟨rfl, b, .inl rfl, hoa.heap hc hpb, hm1, hoa.mono fun q _ hq => .inr (by rw [hq])⟩
set_option maxRecDepth 100000 in
theorem put_none (n fl : Int) (sl : Value) (hc : w.heap[p]? = some (.cells #[.int .i64 r, .int .i64 x, .bool off, .map none] 86 (0, 0))) (hg : ∀ i, g i = none) (hN : N < 1000000)
    (h0 : -9223372036854775808 ≤ n) (h1 : n ≤ 9223372036854775807) :
    Calls Tryz.prog 61 #[.pointer (some ⟨p, 0, none⟩), .int .i64 n, .agg #[sl, .int .i64 fl]] w (Put w p N r x off none g n (.agg #[sl, .int .i64 fl])) := by
  have hlt := lt_at hc
  have hcell : w.cell? ⟨p, 3, none⟩ = some (.map none) := by rw [cell_at hc]; rfl
  have hfr := free_at hc 3
  obtain ⟨ws, hws⟩ : ∃ ws, w.setCell ⟨p, 3, none⟩ (.map (some (w.heap.size + 1))) = ws := ⟨_, rfl⟩
  have hzs : ws.heap.size = w.heap.size := by rw [← hws]; simp [World.setCell]
  have hos : Only (fun q => q = p) w ws := by rw [← hws]; exact DskWalkA.only_set w p _ _
  have hcs : ws.heap[p]? = some (.cells #[.int .i64 r, .int .i64 x, .bool off, .map (some (w.heap.size + 1))] 86 (0, 0)) := by rw [← hws]; exact set_at hc _
  obtain ⟨wa, hwa⟩ : ∃ wa, ws.alloc (.cells #[sl, .int .i64 fl] 113) = wa := ⟨_, rfl⟩
  have hza : wa.heap.size = w.heap.size + 1 := by rw [← hwa]; simp [hzs]
  have hoa : Only (fun q => q = p) w wa := by rw [← hwa]; exact hos.alloc _
  have hca : wa.heap[p]? = some (.cells #[.int .i64 r, .int .i64 x, .bool off, .map (some (w.heap.size + 1))] 86 (0, 0)) := by rw [← hwa]; exact (Below.heap_alloc ws _ p (by omega)).trans hcs
  obtain ⟨wb, hwb⟩ : ∃ wb, wa.alloc (.map #[] 0) = wb := ⟨_, rfl⟩
  have hob : Only (fun q => q = p) w wb := by rw [← hwb]; exact hoa.alloc _
  have hcb : wb.heap[p]? = some (.cells #[.int .i64 r, .int .i64 x, .bool off, .map (some (w.heap.size + 1))] 86 (0, 0)) := by rw [← hwb]; exact (Below.heap_alloc wa _ p (by omega)).trans hca
  have hmb : MapAt Tryz.prog 3 wb (w.heap.size + 1) 0 (fun _ => none) := by
    have h1 := mapAt_made wa Tryz.prog 3
    rw [hza] at h1
    rw [← hwb]
    exact h1
  obtain ⟨w1, hrun, hm1, ho1⟩ := (MapAt.drewn hmb).store (e := 113) Tryz.underlying3 Tryz.underlying84 (by unfold maxLen; omega) h0 h1 (.agg #[sl, .int .i64 fl])
  have hoc : Only (fun q => q = p) w w1 := by
    refine (hob.drew).trans' ho1 fun q hq => ?_
    omega
  have hcw : w1.heap[p]? = some (.cells #[.int .i64 r, .int .i64 x, .bool off, .map (some (w.heap.size + 1))] 86 (0, 0)) := ho1.heap hcb (by omega)
  rw [← hwb, ← hwa, ← hws] at hrun
  have qT : ∀ (w : World) (r : Option Nat), (binOp .eql 84 (.map r) (.map none)).run Tryz.prog w = .ok (.bool r.isNone) w := fun w r => run_eql_map_nil w _ _ _ r Tryz.underlying84
  have hmm := @run_makeMap Tryz.prog
  have H1 := Lib.hid hm1
  have H2 := Lib.hid hoc
  have H3 := Lib.hid hcw
  have hc3 := cell_at hcb 3
  rw [← hwb, ← hwa, ← hws] at hc3
  clear hm1 hoc hcw ho1 hmb hcb hob hwb hca hoa hza hwa hcs hos hzs hws
  go_enter Tryz.func61, Tryz.ntmps61
  go_wp2
  go_region
  all_goals go_wp2
  all_goals go_end0
  refine ⟨rfl, w.heap.size + 1, .inr ⟨rfl, by omega⟩, H3.out, (H1.out.more (by omega)).same fun j => ?_, H2.out.mono fun q _ hq => .inl hq⟩
  simp only [hg]
end

/-- What put leaves of a disk. -/
def Laid (w : World) (p N : Nat) (m' : M) (A : Nat → Option Addr) (mb : Option Nat) (A1 : Option Addr) (e : Ending) (w' : World) : Prop :=
  e = .returned (.tuple #[]) ∧ ∃ A' c' mb' x', DV w' p N m' A' c' mb' x' none ∧ Only (Foot p mb A) w w' ∧ ∀ q, Foot p mb' A' q → Foot p mb A q ∨ w.heap.size ≤ q ∨ ∃ y, A1 = some y ∧ y.block = q
theorem put_any {w : World} {p N : Nat} {m : M} {A : Nat → Option Addr} {c : Nat → Nat} {mb : Option Nat} {x : Int} {e : Option Nat} (h : DV w p N m A c mb x e) (hN : N < 1000000) (i : Nat) (hi : i < 16) (he : ∀ j, e = some j → j = i) (a b : List UInt8) (A1 : Option Addr) (c1 : Nat)
    (hown : Row w (p + 1) 5 (.slice A1 (a ++ b).length c1) (a ++ b).length (vals (a ++ b))) (hap : ∀ y, A1 = some y → ∀ j z, j ≠ i → A j = some z → y.block ≠ z.block)
    (n fl : Int) (len : Nat) (hn : n = (i : Int)) (hfl : fl = (a.length : Int)) (hlen : len = (a ++ b).length) :
    Calls Tryz.prog 61 #[.pointer (some ⟨p, 0, none⟩), .int .i64 n, .agg #[.slice A1 len c1, .int .i64 fl]] w (Laid w p (N + 1) (m.set i a b true) A mb A1) := by
  subst hn hfl hlen
  cases mb with
  | some b1 =>
    refine (put_some b1 (i : Int) (a.length : Int) _ h.cell h.map hN (by omega) (by omega)).mono ?_
    rintro r w1 ⟨rfl, b2, hb, hc, hm, ho⟩
    have hb' : some b1 = some b2 ∨ ((some b1 : Option Nat) = none ∧ w.heap.size ≤ b2) := hb
    obtain ⟨d1, d2, d3⟩ := h.put hi he hown hap hb' hc hm ho
    exact ⟨rfl, _, _, _, _, d1, d2, d3⟩
  | none =>
    refine (put_none (i : Int) (a.length : Int) _ h.cell h.map hN (by omega) (by omega)).mono ?_
    rintro r w1 ⟨rfl, b2, hb, hc, hm, ho⟩
    obtain ⟨d1, d2, d3⟩ := h.put hi he hown hap hb hc hm ho
    exact ⟨rfl, _, _, _, _, d1, d2, d3⟩
end Go.Proofs.YtamncdpeklbhlaaGreatDoor.DskWalkB
