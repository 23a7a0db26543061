/- What the document's disk is in memory; its small calls, walked. No statement is proved here. -/
import Derived.Test.YtmimpfccngihiaaDoorDskWalkD
namespace Go.Proofs.YtmimpfccngihiaaDoor.Ref
open Go.RowKit Go.Proofs.YtmimpfccngihiaaDoor.Kit Go.Proofs.YtmimpfccngihiaaDoor.Blocks Go.Proofs.YtmimpfccngihiaaDoor.Model Go.Proofs.YtmimpfccngihiaaDoor.DskWalkA Go.Proofs.YtmimpfccngihiaaDoor.DskWalkC

def cellOf (m : M) (j : Nat) : Value :=
  if j < 16 then .string (str (m.firm j)) else if j < 32 then .string (str (m.soft (j - 16))) else if j < 48 then .bool (m.there (j - 32)) else if j = 48 then .int .i64 (m.room : Int) else if j = 49 then .int .i64 m.fuel else .bool m.off
def refCells (m : M) : Array Value := ((List.range 51).map (cellOf m)).toArray
/-- Block q is the document's disk m. -/
def RefAt (w : World) (q : Nat) (m : M) : Prop := w.heap[q]? = some (.cells (refCells m) 47 (0, 0))
theorem ref_get (m : M) (j : Nat) (h : j < 51) : (refCells m)[j]? = some (cellOf m j) := by
  simp [refCells, List.getElem?_range h]
theorem ref_set (m m' : M) (j : Nat) (v : Value) (hv : cellOf m' j = v) (ho : ∀ k, k < 51 → k ≠ j → cellOf m' k = cellOf m k) : (refCells m).setIfInBounds j v = refCells m' := by
  apply Array.ext_getElem?
  intro k
  rw [Array.getElem?_setIfInBounds]
  by_cases hk : k < 51
  · rw [ref_get m' k hk]
    split
    · rename_i e
      subst e
      rw [if_pos (by simpa [refCells] using hk), hv]
    · rename_i e
      rw [ref_get m k hk, ho k hk (fun e' => e e'.symm)]
  · have h1 : (refCells m).size = 51 := by simp [refCells]
    have h2 : (refCells m').size = 51 := by simp [refCells]
    rw [Array.getElem?_eq_none (xs := refCells m') (by omega)]
    split
    · rw [if_neg (by omega)]
    · rw [Array.getElem?_eq_none (by omega)]
section
variable {w w' : World} {q : Nat} {m m' : M}
theorem RefAt.cell (h : RefAt w q m) (j : Nat) (hj : j < 51) : w.cell? ⟨q, j, none⟩ = some (cellOf m j) := by rw [cell_at h, ref_get m j hj]
theorem RefAt.firm (h : RefAt w q m) {i : Nat} (hi : i < 16) : w.cell? ⟨q, i, none⟩ = some (.string (str (m.firm i))) := by
  rw [h.cell i (by omega)]; unfold cellOf; rw [if_pos hi]
theorem RefAt.soft (h : RefAt w q m) {i : Nat} (hi : i < 16) : w.cell? ⟨q, 16 + i, none⟩ = some (.string (str (m.soft i))) := by
  rw [h.cell _ (by omega)]; unfold cellOf; rw [if_neg (by omega), if_pos (by omega), Nat.add_sub_cancel_left]
theorem RefAt.there (h : RefAt w q m) {i : Nat} (hi : i < 16) : w.cell? ⟨q, 32 + i, none⟩ = some (.bool (m.there i)) := by
  rw [h.cell _ (by omega)]; unfold cellOf; rw [if_neg (by omega), if_neg (by omega), if_pos (by omega), Nat.add_sub_cancel_left]
theorem RefAt.room (h : RefAt w q m) : w.cell? ⟨q, 48, none⟩ = some (.int .i64 (m.room : Int)) := h.cell 48 (by omega)
theorem RefAt.fuel (h : RefAt w q m) : w.cell? ⟨q, 49, none⟩ = some (.int .i64 m.fuel) := h.cell 49 (by omega)
theorem RefAt.off (h : RefAt w q m) : w.cell? ⟨q, 50, none⟩ = some (.bool m.off) := h.cell 50 (by omega)
theorem RefAt.free (h : RefAt w q m) (j : Nat) : w.frozen? ⟨q, j, none⟩ = false := free_at h j
theorem RefAt.lt (h : RefAt w q m) : q < w.heap.size := lt_at h
theorem RefAt.below (h : RefAt w q m) (k : Below w.heap.size w w') : RefAt w' q m := (k.block q h.lt).trans h
theorem RefAt.set (h : RefAt w q m) (j : Nat) (v : Value) (m' : M) (hv : cellOf m' j = v) (ho : ∀ k, k < 51 → k ≠ j → cellOf m' k = cellOf m k) : RefAt (w.setCell ⟨q, j, none⟩ v) q m' := by
  have := set_at h (i := j) v
  rw [ref_set m m' j v hv ho] at this
  exact this
end

/-! ### Its small calls -/
set_option maxRecDepth 100000 in
theorem rno_yes (n : Int) (w : World) (h : ¬ (0 ≤ n ∧ n < 16)) : Calls Tryd.prog 45 #[.int .i64 n] w fun e w' => e = .returned (.bool true) ∧ w = w' := by
  by_cases h0 : n < 0
  · clear h
    go_enter Tryd.func45, Tryd.ntmps45
    go_wp2
    go_ret
    exact ⟨rfl, rfl⟩
  · have h1 : 15 < n := by omega
    clear h
    go_enter Tryd.func45, Tryd.ntmps45
    go_wp2
    go_ret
    exact ⟨rfl, rfl⟩
set_option maxRecDepth 100000 in
theorem rno_no (n : Int) (w : World) (h : 0 ≤ n ∧ n < 16) : Calls Tryd.prog 45 #[.int .i64 n] w fun e w' => e = .returned (.bool false) ∧ w = w' := by
  obtain ⟨h0, h1⟩ := h
  have h2 : ¬ 15 < n := by omega
  have h3 : decide (n < 0) = false := decide_eq_false (by omega)
  go_enter Tryd.func45, Tryd.ntmps45
  go_wp2
  go_ret
  exact ⟨rfl, rfl⟩
section
variable {w : World} {q : Nat} {m : M}
set_option maxRecDepth 100000 in
theorem rstep_dry (h : RefAt w q m) (hf : m.fuel = 0) : Calls Tryd.prog 47 #[.pointer (some ⟨q, 0, none⟩)] w fun e w' => e = .returned (.bool false) ∧ RefAt w' q m.dead ∧ Only (fun k => k = q) w w' := by
  have hc := h.fuel
  have hc2 := h.off
  have hfr := h.free 50
  have hlt := h.lt
  rw [hf] at hc
  have hset := h.set 50 (.bool true) m.dead rfl (fun k hk hne => by unfold cellOf M.dead; simp only []; (repeat' split) <;> first | rfl | omega)
  have H := Lib.hid hset
  clear hset hf
  go_enter Tryd.func47, Tryd.ntmps47
  go_wp2
  go_ret
  exact ⟨rfl, H.out, only_set w q _ _⟩
set_option maxRecDepth 100000 in
theorem rstep_wet (h : RefAt w q m) (g : Fine m) (hf : ¬ m.fuel = 0) : Calls Tryd.prog 47 #[.pointer (some ⟨q, 0, none⟩)] w fun e w' => e = .returned (.bool true) ∧ RefAt w' q m.burnt ∧ Only (fun k => k = q) w w' := by
  have hc := h.fuel
  have hfr := h.free 49
  have hlt := h.lt
  have hlo := g.lo
  have hhi := g.hi
  have hset := h.set 49 (.int .i64 (m.fuel - 1)) { m with fuel := m.fuel - 1 } rfl (fun k hk hne => by unfold cellOf; simp only []; (repeat' split) <;> first | rfl | omega)
  have hb : 0 < m.fuel → m.burnt = { m with fuel := m.fuel - 1 } := fun h => by simp only [M.burnt, if_pos h]
  have hb' : ¬ 0 < m.fuel → m.burnt = m := fun h => by simp only [M.burnt, if_neg h]
  have H := Lib.hid hset
  have HB := Lib.hid hb
  have HB' := Lib.hid hb'
  obtain ⟨x, hx⟩ : ∃ x, m.fuel = x := ⟨_, rfl⟩
  have HX := Lib.hid hx
  rw [hx] at hc hlo hhi hf H
  have hxb : (x == 0) = false := by simpa using hf
  clear hset hb hb' hx
  by_cases hp : 0 < x
  · go_enter Tryd.func47, Tryd.ntmps47
    go_wp2
    go_ret
    refine ⟨rfl, ?_, only_set w q _ _⟩
    rw [HB.out (by rw [HX.out]; exact hp), HX.out]
    exact H.out
  · go_enter Tryd.func47, Tryd.ntmps47
    go_wp2
    go_ret
    refine ⟨rfl, ?_, Only.refl _ w⟩
    rw [HB'.out (by rw [HX.out]; exact hp)]
    exact h
set_option maxRecDepth 100000 in
theorem rhas_no (n : Int) (hn : ¬ (0 ≤ n ∧ n < 16)) : Calls Tryd.prog 56 #[.pointer (some ⟨q, 0, none⟩), .int .i64 n] w fun e w' => e = .returned (.bool false) ∧ w = w' := by
  go_enter Tryd.func56, Tryd.ntmps56
  go_wp2_with fail
  refine (rno_yes n _ hn).mono ?_
  rintro e w1 ⟨rfl, rfl⟩
  go_wp2
  go_ret
  exact ⟨rfl, rfl⟩
set_option maxRecDepth 100000 in
theorem rhas_in (i : Nat) (h : RefAt w q m) (hi : i < 16) : Calls Tryd.prog 56 #[.pointer (some ⟨q, 0, none⟩), .int .i64 (i : Int)] w fun e w' => e = .returned (.bool (m.there i)) ∧ w = w' := by
  have hc := h.there hi
  have hlt := h.lt
  go_enter Tryd.func56, Tryd.ntmps56
  go_wp2_with fail
  refine (rno_no (i : Int) _ (by omega)).mono ?_
  rintro e w1 ⟨rfl, rfl⟩
  go_wp2
  go_ret
  exact ⟨rfl, rfl⟩
theorem rhas_any (n : Int) (h : RefAt w q m) : Calls Tryd.prog 56 #[.pointer (some ⟨q, 0, none⟩), .int .i64 n] w fun e w' => e = .returned (.bool (m.has n)) ∧ w = w' := by
  by_cases hn : 0 ≤ n ∧ n < 16
  · have := rhas_in n.toNat h (by omega)
    rw [show ((n.toNat : Nat) : Int) = n by omega] at this
    simpa [M.has, hn] using this
  · have := rhas_no (w := w) (q := q) n hn
    simpa [M.has, hn] using this
end
end Go.Proofs.YtmimpfccngihiaaDoor.Ref
