/- Whether states are the same, the document's way, walked. -/
import Derived.Test.YtamncdpeklbhlaaGreatDoorG0
import Derived.Deep.RegionHeld3
import Derived.BigRegion
import Derived.Lib.MinMax
import Derived.Test.YtamncdpeklbhlaaGreatDoorGB
import Derived.Test.YtamncdpeklbhlaaGreatDoorGA
import Derived.Test.YtamncdpeklbhlaaGreatDoorPckWalkG
import Derived.Test.YtamncdpeklbhlaaGreatDoorPckWalkH
import Derived.Deep.CutRange
import Derived.Deep.CutBlock
import Derived.BigQuiet
import Derived.Deep.QuietTactic
namespace Go.Proofs.YtamncdpeklbhlaaGreatDoor.Ref
open Go.RowKit Go.Proofs.YtamncdpeklbhlaaGreatDoor.Kit Go.Proofs.YtamncdpeklbhlaaGreatDoor.Blocks Go.Proofs.YtamncdpeklbhlaaGreatDoor.Model Go.Proofs.YtamncdpeklbhlaaGreatDoor.DskWalkA Go.Proofs.YtamncdpeklbhlaaGreatDoor.DskWalkC

def cellOf (m : M) (j : Nat) : Value :=
  if j < 16 then .string (str (m.firm j)) else if j < 32 then .string (str (m.soft (j - 16))) else if j < 48 then .bool (m.there (j - 32)) else if j = 48 then .int .i64 (m.room : Int) else if j = 49 then .int .i64 m.fuel else .bool m.off
def refCells (m : M) : Array Value := ((List.range 51).map (cellOf m)).toArray
/-- Block q is the document's disk m. -/
def RefAt (w : World) (q : Nat) (m : M) : Prop := w.heap[q]? = some (.cells (refCells m) 36 (0, 0))
theorem ref_get (m : M) (j : Nat) (h : j < 51) : (refCells m)[j]? = some (cellOf m j) := by
  simp [refCells, List.getElem?_range h]
theorem ref_set (m m' : M) (j : Nat) (v : Value) (hv : cellOf m' j = v) (ho : ∀ k, k < 51 → k ≠ j → cellOf m' k = cellOf m k) : (refCells m).setIfInBounds j v = refCells m' := by
  apply Array.ext_getElem?
  intro k
  rw [Array.getElem?_setIfInBounds]
  by_cases hk : k < 51
  · rw [ref_get m' k hk]
    split
    · rename_i e
      subst e
      rw [if_pos (by simpa [refCells] using hk), hv]
    · rename_i e
      rw [ref_get m k hk, ho k hk (fun e' => e e'.symm)]
  · have h1 : (refCells m).size = 51 := by simp [refCells]
    have h2 : (refCells m').size = 51 := by simp [refCells]
    rw [Array.getElem?_eq_none (xs := refCells m') (by omega)]
    split
    · rw [if_neg (by omega)]
    · rw [Array.getElem?_eq_none (by omega)]
section
variable {w w' : World} {q : Nat} {m m' : M}
theorem RefAt.cell (h : RefAt w q m) (j : Nat) (hj : j < 51) : w.cell? ⟨q, j, none⟩ = some (cellOf m j) := by rw [cell_at h, ref_get m j hj]
theorem RefAt.firm (h : RefAt w q m) {i : Nat} (hi : i < 16) : w.cell? ⟨q, i, none⟩ = some (.string (str (m.firm i))) := by
  rw [h.cell i (by omega)]; unfold cellOf; rw [if_pos hi]
theorem RefAt.soft (h : RefAt w q m) {i : Nat} (hi : i < 16) : w.cell? ⟨q, 16 + i, none⟩ = some (.string (str (m.soft i))) := by
  rw [h.cell _ (by omega)]; unfold cellOf; rw [if_neg (by omega), if_pos (by omega), Nat.add_sub_cancel_left]
theorem RefAt.there (h : RefAt w q m) {i : Nat} (hi : i < 16) : w.cell? ⟨q, 32 + i, none⟩ = some (.bool (m.there i)) := by
  rw [h.cell _ (by omega)]; unfold cellOf; rw [if_neg (by omega), if_neg (by omega), if_pos (by omega), Nat.add_sub_cancel_left]
theorem RefAt.room (h : RefAt w q m) : w.cell? ⟨q, 48, none⟩ = some (.int .i64 (m.room : Int)) := h.cell 48 (by omega)
theorem RefAt.fuel (h : RefAt w q m) : w.cell? ⟨q, 49, none⟩ = some (.int .i64 m.fuel) := h.cell 49 (by omega)
theorem RefAt.off (h : RefAt w q m) : w.cell? ⟨q, 50, none⟩ = some (.bool m.off) := h.cell 50 (by omega)
theorem RefAt.free (h : RefAt w q m) (j : Nat) : w.frozen? ⟨q, j, none⟩ = false := free_at h j
theorem RefAt.lt (h : RefAt w q m) : q < w.heap.size := lt_at h
theorem RefAt.below (h : RefAt w q m) (k : Below w.heap.size w w') : RefAt w' q m := (k.block q h.lt).trans h
theorem RefAt.set (h : RefAt w q m) (j : Nat) (v : Value) (m' : M) (hv : cellOf m' j = v) (ho : ∀ k, k < 51 → k ≠ j → cellOf m' k = cellOf m k) : RefAt (w.setCell ⟨q, j, none⟩ v) q m' := by
  have := set_at h (i := j) v
  rw [ref_set m m' j v hv ho] at this
  exact this
end

/-! ### Its small calls -/
set_option maxRecDepth 100000 in
theorem rno_yes (n : Int) (w : World) (h : ¬ (0 ≤ n ∧ n < 16)) : Calls Tryz.prog 62 #[.int .i64 n] w fun e w' => e = .returned (.bool true) ∧ w = w' := by
  by_cases h0 : n < 0
  · clear h
    go_enter Tryz.func62, Tryz.ntmps62
    go_wp2
    go_ret
    exact ⟨rfl, rfl⟩
  · have h1 : 15 < n := by omega
    clear h
    go_enter Tryz.func62, Tryz.ntmps62
    go_wp2
    go_ret
    exact ⟨rfl, rfl⟩
set_option maxRecDepth 100000 in
theorem rno_no (n : Int) (w : World) (h : 0 ≤ n ∧ n < 16) : Calls Tryz.prog 62 #[.int .i64 n] w fun e w' => e = .returned (.bool false) ∧ w = w' := by
  obtain ⟨h0, h1⟩ := h
  have h2 : ¬ 15 < n := by omega
  have h3 : decide (n < 0) = false := decide_eq_false (by omega)
  go_enter Tryz.func62, Tryz.ntmps62
  go_wp2
  go_ret
  exact ⟨rfl, rfl⟩
section
variable {w : World} {q : Nat} {m : M}
set_option maxRecDepth 100000 in
theorem rstep_dry (h : RefAt w q m) (hf : m.fuel = 0) : Calls Tryz.prog 64 #[.pointer (some ⟨q, 0, none⟩)] w fun e w' => e = .returned (.bool false) ∧ RefAt w' q m.dead ∧ Only (fun k => k = q) w w' := by
  have hc := h.fuel
  have hc2 := h.off
  have hfr := h.free 50
  have hlt := h.lt
  rw [hf] at hc
  have hset := h.set 50 (.bool true) m.dead rfl (fun k hk hne => by unfold cellOf M.dead; simp only []; (repeat' split) <;> first | rfl | omega)
  have H := Lib.hid hset
  clear hset hf
  go_enter Tryz.func64, Tryz.ntmps64
  go_wp2
  go_ret
  exact ⟨rfl, H.out, only_set w q _ _⟩
set_option maxRecDepth 100000 in
theorem rstep_wet (h : RefAt w q m) (g : Fine m) (hf : ¬ m.fuel = 0) : Calls Tryz.prog 64 #[.pointer (some ⟨q, 0, none⟩)] w fun e w' => e = .returned (.bool true) ∧ RefAt w' q m.burnt ∧ Only (fun k => k = q) w w' := by
  have hc := h.fuel
  have hfr := h.free 49
  have hlt := h.lt
  have hlo := g.lo
  have hhi := g.hi
  have hset := h.set 49 (.int .i64 (m.fuel - 1)) { m with fuel := m.fuel - 1 } rfl (fun k hk hne => by unfold cellOf; simp only []; (repeat' split) <;> first | rfl | omega)
  have hb : 0 < m.fuel → m.burnt = { m with fuel := m.fuel - 1 } := fun h => by simp only [M.burnt, if_pos h]
  have hb' : ¬ 0 < m.fuel → m.burnt = m := fun h => by simp only [M.burnt, if_neg h]
  have H := Lib.hid hset
  have HB := Lib.hid hb
  have HB' := Lib.hid hb'
  obtain ⟨x, hx⟩ : ∃ x, m.fuel = x := ⟨_, rfl⟩
  have HX := Lib.hid hx
  rw [hx] at hc hlo hhi hf H
  have hxb : (x == 0) = false := by simpa using hf
  clear hset hb hb' hx
  by_cases hp : 0 < x
  · go_enter Tryz.func64, Tryz.ntmps64
    go_wp2
    go_ret
    refine ⟨rfl, ?_, only_set w q _ _⟩
    rw [HB.out (by rw [HX.out]; exact hp), HX.out]
    exact H.out
  · go_enter Tryz.func64, Tryz.ntmps64
    go_wp2
    go_ret
    refine ⟨rfl, ?_, Only.refl _ w⟩
    rw [HB'.out (by rw [HX.out]; exact hp)]
    exact h
set_option maxRecDepth 100000 in
theorem rhas_no (n : Int) (hn : ¬ (0 ≤ n ∧ n < 16)) : Calls Tryz.prog 54 #[.pointer (some ⟨q, 0, none⟩), .int .i64 n] w fun e w' => e = .returned (.bool false) ∧ w = w' := by
  go_enter Tryz.func54, Tryz.ntmps54
  go_wp2_with fail
  refine (rno_yes n _ hn).mono ?_
  rintro e w1 ⟨rfl, rfl⟩
  go_wp2
  go_ret
  exact ⟨rfl, rfl⟩
set_option maxRecDepth 100000 in
theorem rhas_in (i : Nat) (h : RefAt w q m) (hi : i < 16) : Calls Tryz.prog 54 #[.pointer (some ⟨q, 0, none⟩), .int .i64 (i : Int)] w fun e w' => e = .returned (.bool (m.there i)) ∧ w = w' := by
  have hc := h.there hi
  have hlt := h.lt
  go_enter Tryz.func54, Tryz.ntmps54
  go_wp2_with fail
  refine (rno_no (i : Int) _ (by omega)).mono ?_
  rintro e w1 ⟨rfl, rfl⟩
  go_wp2
  go_ret
  exact ⟨rfl, rfl⟩
theorem rhas_any (n : Int) (h : RefAt w q m) : Calls Tryz.prog 54 #[.pointer (some ⟨q, 0, none⟩), .int .i64 n] w fun e w' => e = .returned (.bool (m.has n)) ∧ w = w' := by
  by_cases hn : 0 ≤ n ∧ n < 16
  · have := rhas_in n.toNat h (by omega)
    rw [show ((n.toNat : Nat) : Int) = n by omega] at this
    simpa [M.has, hn] using this
  · have := rhas_no (w := w) (q := q) n hn
    simpa [M.has, hn] using this
end
end Go.Proofs.YtamncdpeklbhlaaGreatDoor.Ref
namespace Go.Proofs.YtamncdpeklbhlaaGreatDoor.RefB
open Go.RowKit Go.Proofs.YtamncdpeklbhlaaGreatDoor.Kit Go.Proofs.YtamncdpeklbhlaaGreatDoor.Blocks Go.Proofs.YtamncdpeklbhlaaGreatDoor.Model Go.Proofs.YtamncdpeklbhlaaGreatDoor.DskWalkA Go.Proofs.YtamncdpeklbhlaaGreatDoor.DskWalkC Go.Proofs.YtamncdpeklbhlaaGreatDoor.DskWalkD Go.Proofs.YtamncdpeklbhlaaGreatDoor.Ref

theorem str_size (l : List UInt8) : (str l).size = l.length := by simp [str, ByteArray.size]
theorem str_append (a b : List UInt8) : str a ++ str b = str (a ++ b) := by
  apply ByteArray.ext
  simp [str]
theorem str_self (s : ByteArray) : str s.data.toList = s := by
  apply ByteArray.ext
  simp [str]
theorem ref_new (r : Nat) : (#[.string .empty, .string .empty, .string .empty, .string .empty, .string .empty, .string .empty, .string .empty, .string .empty, .string .empty, .string .empty, .string .empty, .string .empty, .string .empty, .string .empty, .string .empty, .string .empty,
    .string .empty, .string .empty, .string .empty, .string .empty, .string .empty, .string .empty, .string .empty, .string .empty, .string .empty, .string .empty, .string .empty, .string .empty, .string .empty, .string .empty, .string .empty, .string .empty,
    .bool false, .bool false, .bool false, .bool false, .bool false, .bool false, .bool false, .bool false, .bool false, .bool false, .bool false, .bool false, .bool false, .bool false, .bool false, .bool false, .int .i64 (r : Int), .int .i64 (-1), .bool false] : Array Value) = refCells (M.new r) := by rfl
set_option maxRecDepth 100000 in
theorem rnew_no (r : Int) (w : World) (h : ¬ (0 ≤ r ∧ r ≤ 1048576)) : Calls Tryz.prog 9 #[.int .i64 r] w fun e w' => e = .returned (.tuple #[.pointer none, .int .i64 1]) ∧ w = w' := by
  by_cases h0 : r < 0
  · clear h
    go_enter Tryz.func9, Tryz.ntmps9
    go_wp2
    go_ret2
    exact ⟨rfl, rfl⟩
  · have h1 : 1048576 < r := by omega
    clear h
    go_enter Tryz.func9, Tryz.ntmps9
    go_wp2
    go_ret2
    exact ⟨rfl, rfl⟩
def MadeR (w : World) (m : M) (e : Ending) (w' : World) : Prop := ∃ q, e = .returned (.tuple #[.pointer (some ⟨q, 0, none⟩), .int .i64 0]) ∧ w.heap.size ≤ q ∧ RefAt w' q m ∧ Below w.heap.size w w'
set_option maxRecDepth 100000 in
theorem rnew_yes (r : Nat) (w : World) (h : r ≤ 1048576) : Calls Tryz.prog 9 #[.int .i64 (r : Int)] w (MadeR w (M.new r)) := by
  have h1 : (r : Int) ≤ 1048576 := by omega
  have hn := heap_alloc_new w (.cells (refCells (M.new r)) 36)
  have hb : Below w.heap.size w (w.alloc (.cells (refCells (M.new r)) 36)) := (Below.refl _ _).alloc (Nat.le_refl _) _
  rw [← ref_new] at hn hb
  have HN := Lib.hid hn
  have HB := Lib.hid hb
  clear h hn hb
  go_enter Tryz.func9, Tryz.ntmps9
  go_wp2
  go_ret2
  refine ⟨_, rfl, Nat.le_refl _, ?_, HB.out⟩
  have := HN.out
  rw [ref_new] at this
  exact this

theorem below_drewN (B : Nat) (w : World) (n : Nat) : Below B w (w.drewN n) := ⟨rfl, rfl, rfl, Nat.le_refl _, fun _ _ => rfl⟩
section
variable {w : World} {q : Nat} {m : M}
set_option maxRecDepth 100000 in
set_option maxHeartbeats 1000000 in
theorem rused_any (h : RefAt w q m) (g : Fine m) : Calls Tryz.prog 63 #[.pointer (some ⟨q, 0, none⟩)] w (TellsD w (m.used : Int)) := by
  have hu := g.used
  have hr := g.room
  go_enter Tryz.func63, Tryz.ntmps63
  go_wp2
  go_loopw [3, 4] (fun s i wr => ∃ k : Nat, k ≤ 16 ∧ s = .int .i64 (m.usedTo k : Int) ∧ i = .int .i64 (k : Int) ∧ Below w.heap.size w wr) (fun _ i _ => 16 - (intOf i).toNat)
  case atStart => exact ⟨0, by omega, rfl, rfl, Below.refl _ _⟩
  case round =>
    obtain ⟨k, hk, rfl, rfl, hb⟩ := hrel
    by_cases hlt : k < 16
    · have hh := h.below hb
      have hf := hh.firm hlt
      have hs := hh.soft hlt
      have hlt2 := hh.lt
      have hmono := usedTo_mono m (show k + 1 ≤ 16 by omega)
      have hst : m.usedTo (k + 1) = m.usedTo k + ((str (m.firm k)).size + (str (m.soft k)).size) := by rw [str_size, str_size]; rfl
      obtain ⟨a, ha⟩ : ∃ a, str (m.firm k) = a := ⟨_, rfl⟩
      obtain ⟨b, hbb⟩ : ∃ b, str (m.soft k) = b := ⟨_, rfl⟩
      obtain ⟨U, hU⟩ : ∃ U, m.usedTo k = U := ⟨_, rfl⟩
      have hle : U + (a.size + b.size) ≤ 1048576 := by rw [← hU, ← ha, ← hbb, ← hst]; unfold M.used at hu; omega
      rw [ha] at hf
      rw [hbb] at hs
      rw [ha, hbb, hU] at hst
      rw [hU]
      have HS := Lib.hid hst
      clear hst ha hbb hU hmono
      have w1 : IntKind.i64.wrap ((a.size : Int) + (b.size : Int)) = (a.size : Int) + (b.size : Int) := IntWalk.i64_in _ (by omega)
      have w2 : IntKind.i64.wrap ((U : Int) + ((a.size : Int) + (b.size : Int))) = (U : Int) + ((a.size : Int) + (b.size : Int)) := IntWalk.i64_in _ (by omega)
      go_wp2_with fail
      go_quiet (fail)
      all_goals clear w1 w2
      all_goals go_wp2
      all_goals
        go_roundw
        case rel => exact ⟨k + 1, by omega, by rw [HS.out]; go_num, by go_num, hb.trans (below_drewN _ _ _)⟩
        case measure => simp [intOf]; omega
    · obtain rfl : k = 16 := by omega
      go_wp2
      go_ret
      exact ⟨rfl, hb⟩
set_option maxRecDepth 100000 in
theorem rread_off (n : Int) (h : RefAt w q m) (hoff : m.off = true) : Calls Tryz.prog 19 #[.pointer (some ⟨q, 0, none⟩), .int .i64 n] w (Got w [] 10) := by
  have hc := h.off
  have hlt := h.lt
  rw [hoff] at hc
  clear hoff
  go_enter Tryz.func19, Tryz.ntmps19
  go_wp2
  go_ret2
  exact ⟨rfl, Below.refl _ _⟩
theorem rhas_lit (n : Int) (h : RefAt w q m) {b : Bool} (hb : Hid (m.has n = b)) : Calls Tryz.prog 54 #[.pointer (some ⟨q, 0, none⟩), .int .i64 n] w fun e w' => e = .returned (.bool b) ∧ w = w' := by
  have := rhas_any n h
  rwa [hb.out] at this
set_option maxRecDepth 100000 in
theorem rread_none (n : Int) (h : RefAt w q m) (hoff : m.off = false) (hn : m.has n = false) : Calls Tryz.prog 19 #[.pointer (some ⟨q, 0, none⟩), .int .i64 n] w (Got w [] 12) := by
  have hc := h.off
  have hlt := h.lt
  rw [hoff] at hc
  have HN := Lib.hid hn
  clear hoff hn
  go_enter Tryz.func19, Tryz.ntmps19
  go_wp2_with fail
  refine (rhas_lit n h HN).mono ?_
  rintro e w1 ⟨rfl, rfl⟩
  go_wp2
  go_ret2
  exact ⟨rfl, Below.refl _ _⟩
set_option maxRecDepth 100000 in
set_option maxHeartbeats 1000000 in
theorem rread_ok (i : Nat) (h : RefAt w q m) (g : Fine m) (hi : i < 16) (hoff : m.off = false) (hn : m.has (i : Int) = true) : Calls Tryz.prog 19 #[.pointer (some ⟨q, 0, none⟩), .int .i64 (i : Int)] w (Got w (m.all i) 0) := by
  have hc := h.off
  have hlt := h.lt
  have hf := h.firm hi
  have hs := h.soft hi
  rw [hoff] at hc
  have HN := Lib.hid hn
  have hab : str (m.firm i) ++ str (m.soft i) = str (m.all i) := str_append _ _
  have hal := all_le g i
  have hsz : (str (m.firm i)).size + (str (m.soft i)).size ≤ 1048576 := by rw [str_size, str_size, ← List.length_append]; exact hal
  obtain ⟨a, ha⟩ : ∃ a, str (m.firm i) = a := ⟨_, rfl⟩
  obtain ⟨b, hbb⟩ : ∃ b, str (m.soft i) = b := ⟨_, rfl⟩
  rw [ha, hbb] at hab hsz
  rw [ha] at hf
  rw [hbb] at hs
  have HAB := Lib.hid hab
  have hnb : ¬ 9223372036854775807 < a.size + b.size := by omega
  clear hoff hn ha hbb hab hal
  go_enter Tryz.func19, Tryz.ntmps19
  go_wp2_with fail
  refine (rhas_lit (i : Int) h HN).mono ?_
  rintro e w1 ⟨rfl, rfl⟩
  go_wp2_with fail
  go_quiet (fail)
  all_goals go_wp2
  all_goals go_ret2
  all_goals exact ⟨by rw [← HAB.out]; rfl, below_drewN _ _ _⟩
theorem rread_any (n : Int) (h : RefAt w q m) (g : Fine m) : Calls Tryz.prog 19 #[.pointer (some ⟨q, 0, none⟩), .int .i64 n] w (Got w (m.read n).1 (m.read n).2) := by
  unfold M.read
  by_cases hoff : m.off = true
  · rw [if_pos hoff]
    exact rread_off n h hoff
  · rw [if_neg hoff]
    have hoff' : m.off = false := by simpa using hoff
    by_cases hn : m.has n = false
    · rw [if_pos hn]
      exact rread_none n h hoff' hn
    · rw [if_neg hn]
      have hn' : m.has n = true := by simpa using hn
      have hin := (has_in hn').1
      have hni : ((n.toNat : Nat) : Int) = n := by omega
      have := rread_ok n.toNat h g (by omega) hoff' (by rw [hni]; exact hn')
      rwa [hni] at this
end
end Go.Proofs.YtamncdpeklbhlaaGreatDoor.RefB
namespace Go.Proofs.YtamncdpeklbhlaaGreatDoor.RefC
open Go.RowKit Go.Proofs.YtamncdpeklbhlaaGreatDoor.Kit Go.Proofs.YtamncdpeklbhlaaGreatDoor.Blocks Go.Proofs.YtamncdpeklbhlaaGreatDoor.Model Go.Proofs.YtamncdpeklbhlaaGreatDoor.DskWalkA Go.Proofs.YtamncdpeklbhlaaGreatDoor.DskWalkC Go.Proofs.YtamncdpeklbhlaaGreatDoor.DskWalkD Go.Proofs.YtamncdpeklbhlaaGreatDoor.Ref Go.Proofs.YtamncdpeklbhlaaGreatDoor.RefB

theorem set_set (m : M) (i : Nat) (a a' b b' : List UInt8) (t t' : Bool) : (m.set i a b t).set i a' b' t' = m.set i a' b' t' := by
  simp only [M.set, M.mk.injEq, true_and]
  refine ⟨?_, ?_, ?_⟩ <;> (funext j; split <;> rfl)
theorem set_firm (m : M) (i : Nat) (a b : List UInt8) (t : Bool) : (m.set i a b t).firm i = a := by simp [M.set]
theorem set_soft (m : M) (i : Nat) (a b : List UInt8) (t : Bool) : (m.set i a b t).soft i = b := by simp [M.set]
theorem set_there (m : M) (i : Nat) (a b : List UInt8) (t : Bool) : (m.set i a b t).there i = t := by simp [M.set]
section
variable {w w' : World} {q : Nat} {m : M}
theorem RefAt.drew (h : RefAt w q m) : RefAt w.drew q m := h
theorem RefAt.setFirm (h : RefAt w q m) {i : Nat} (hi : i < 16) (a : List UInt8) : RefAt (w.setCell ⟨q, i, none⟩ (.string (str a))) q (m.set i a (m.soft i) (m.there i)) := by
  refine h.set i _ _ (by unfold cellOf; simp [hi, M.set]) fun k hk hne => ?_
  unfold cellOf M.set
  simp only [hne, if_false]
  repeat' split
  all_goals first | rfl | omega | (rename_i e; simp only [e])
theorem RefAt.setSoft (h : RefAt w q m) {i : Nat} (hi : i < 16) (b : List UInt8) : RefAt (w.setCell ⟨q, 16 + i, none⟩ (.string (str b))) q (m.set i (m.firm i) b (m.there i)) := by
  refine h.set (16 + i) _ _ (by unfold cellOf; rw [if_neg (by omega), if_pos (by omega), Nat.add_sub_cancel_left]; simp [M.set]) fun k hk hne => ?_
  unfold cellOf M.set
  simp only []
  repeat' split
  all_goals first | rfl | omega | (rename_i e; simp only [e])
theorem RefAt.setThere (h : RefAt w q m) {i : Nat} (hi : i < 16) (t : Bool) : RefAt (w.setCell ⟨q, 32 + i, none⟩ (.bool t)) q (m.set i (m.firm i) (m.soft i) t) := by
  refine h.set (32 + i) _ _ (by unfold cellOf; rw [if_neg (by omega), if_neg (by omega), if_pos (by omega), Nat.add_sub_cancel_left]; simp [M.set]) fun k hk hne => ?_
  unfold cellOf M.set
  simp only []
  repeat' split
  all_goals first | rfl | omega | (rename_i e; simp only [e])
end

/-- What a call on the document's disk leaves. -/
def DoneR (w : World) (q : Nat) (r : Int × M) (e : Ending) (w' : World) : Prop := e = .returned (.int .i64 r.1) ∧ RefAt w' q r.2 ∧ Only (fun k => k = q) w w'
section
variable {w : World} {q : Nat} {m : M}
set_option maxRecDepth 100000 in
theorem rappend_no (n : Int) (s : ByteArray) (h : RefAt w q m) (hn : ¬ (0 ≤ n ∧ n < 16)) : Calls Tryz.prog 93 #[.pointer (some ⟨q, 0, none⟩), .int .i64 n, .string s] w (DoneR w q (1, m)) := by
  go_enter Tryz.func93, Tryz.ntmps93
  go_wp2_with fail
  refine (rno_yes n _ hn).mono ?_
  rintro e w1 ⟨rfl, rfl⟩
  go_wp2
  go_ret
  exact ⟨rfl, h, Only.refl _ _⟩
set_option maxRecDepth 100000 in
theorem rappend_off (n : Int) (s : ByteArray) (h : RefAt w q m) (hn : 0 ≤ n ∧ n < 16) (hoff : m.off = true) : Calls Tryz.prog 93 #[.pointer (some ⟨q, 0, none⟩), .int .i64 n, .string s] w (DoneR w q (10, m)) := by
  have hc := h.off
  have hlt := h.lt
  rw [hoff] at hc
  clear hoff
  go_enter Tryz.func93, Tryz.ntmps93
  go_wp2_with fail
  refine (rno_no n _ hn).mono ?_
  rintro e w1 ⟨rfl, rfl⟩
  go_wp2
  go_ret
  exact ⟨rfl, h, Only.refl _ _⟩
set_option maxRecDepth 100000 in
set_option maxHeartbeats 1000000 in
theorem rappend_full (n : Int) (s : ByteArray) (h : RefAt w q m) (g : Fine m) (hn : 0 ≤ n ∧ n < 16) (hoff : m.off = false) (hsz : s.size ≤ 281474976710656) (hf : m.room < m.used + s.size) : Calls Tryz.prog 93 #[.pointer (some ⟨q, 0, none⟩), .int .i64 n, .string s] w (DoneR w q (11, m)) := by
  have hc := h.off
  have hlt := h.lt
  have hrm := h.room
  have hu := g.used
  have hr := g.room
  rw [hoff] at hc
  have hgb : decide ((m.room : Int) < (m.used : Int) + (s.size : Int)) = true := decide_eq_true (by omega)
  have hw1 : IntKind.i64.wrap ((m.used : Int) + (s.size : Int)) = (m.used : Int) + (s.size : Int) := IntWalk.i64_in _ (by omega)
  have hused := rused_any (h.below ((Below.refl w.heap.size w).drew)) g
  obtain ⟨R, hR⟩ : ∃ R, m.room = R := ⟨_, rfl⟩
  obtain ⟨U, hU⟩ : ∃ U, m.used = U := ⟨_, rfl⟩
  rw [hR] at hrm hgb
  rw [hU] at hgb hw1 hused
  have HU := Lib.hid hused
  have HG := Lib.hid hgb
  clear hused hgb hR hU hoff hf hu hr hsz
  go_enter Tryz.func93, Tryz.ntmps93
  go_wp2_with fail
  refine (rno_no n _ hn).mono ?_
  rintro e w1 ⟨rfl, rfl⟩
  go_wp2_with fail
  go_region_held3 (fun w' => w'.cell? ⟨q, 48, none⟩ = some (.int .i64 (R : Int)))
    (first
      | exact hrm
      | exact (hBb.cell (p := ⟨q, 48, none⟩) hlt).trans hrm)
    (first
      | (go_at_call 63
         refine HU.out.mono ?_
         rintro e wA ⟨rfl, hBb⟩))
  all_goals have hgt := of_decide_eq_true HG.out
  all_goals go_wp2
  all_goals go_ret
  all_goals (have hb1 := ((Below.refl w.heap.size w).drew).trans hBb)
  all_goals exact ⟨rfl, h.below hb1, Only.of_below hb1⟩
set_option maxRecDepth 100000 in
set_option maxHeartbeats 1000000 in
theorem rappend_dry (n : Int) (s : ByteArray) (h : RefAt w q m) (g : Fine m) (hn : 0 ≤ n ∧ n < 16) (hoff : m.off = false) (hsz : s.size ≤ 281474976710656) (hf : ¬ m.room < m.used + s.size) (h0 : m.fuel = 0) : Calls Tryz.prog 93 #[.pointer (some ⟨q, 0, none⟩), .int .i64 n, .string s] w (DoneR w q (10, m.dead)) := by
  have H0 := Lib.hid h0
  clear h0
  have hc := h.off
  have hlt := h.lt
  have hrm := h.room
  have hu := g.used
  have hr := g.room
  rw [hoff] at hc
  have hgb : decide ((m.room : Int) < (m.used : Int) + (s.size : Int)) = false := decide_eq_false (by omega)
  have hw1 : IntKind.i64.wrap ((m.used : Int) + (s.size : Int)) = (m.used : Int) + (s.size : Int) := IntWalk.i64_in _ (by omega)
  have hused := rused_any (h.below ((Below.refl w.heap.size w).drew)) g
  obtain ⟨R, hR⟩ : ∃ R, m.room = R := ⟨_, rfl⟩
  obtain ⟨U, hU⟩ : ∃ U, m.used = U := ⟨_, rfl⟩
  rw [hR] at hrm hgb
  rw [hU] at hgb hw1 hused
  have HU := Lib.hid hused
  have HG := Lib.hid hgb
  clear hused hgb hR hU hoff hf hu hr hsz
  go_enter Tryz.func93, Tryz.ntmps93
  go_wp2_with fail
  refine (rno_no n _ hn).mono ?_
  rintro e w1 ⟨rfl, rfl⟩
  go_wp2_with fail
  go_region_held3 (fun w' => w'.cell? ⟨q, 48, none⟩ = some (.int .i64 (R : Int)))
    (first
      | exact hrm
      | exact (hBb.cell (p := ⟨q, 48, none⟩) hlt).trans hrm)
    (first
      | (go_at_call 63
         refine HU.out.mono ?_
         rintro e wA ⟨rfl, hBb⟩))
  all_goals have hgt := of_decide_eq_false HG.out
  all_goals go_wp2_with fail
  all_goals (have hb1 := ((Below.refl w.heap.size w).drew).trans hBb)
  all_goals (refine (rstep_dry (h.below hb1) H0.out).mono ?_)
  all_goals rintro e w2 ⟨rfl, h2, ho2⟩
  all_goals go_wp2
  all_goals go_ret
  all_goals exact ⟨rfl, h2, (Only.of_below hb1).trans ho2⟩
set_option maxRecDepth 100000 in
set_option maxHeartbeats 2000000 in
theorem rappend_ok (i : Nat) (s : ByteArray) (h : RefAt w q m) (g : Fine m) (hi : i < 16) (hoff : m.off = false) (hsz : s.size ≤ 281474976710656) (hf : ¬ m.room < m.used + s.size) (h0 : ¬ m.fuel = 0) : Calls Tryz.prog 93 #[.pointer (some ⟨q, 0, none⟩), .int .i64 (i : Int), .string s] w (DoneR w q (0, m.burnt.set i (m.firm i) (m.soft i ++ s.data.toList) true)) := by
  have H0 := Lib.hid h0
  have hn : 0 ≤ (i : Int) ∧ (i : Int) < 16 := by omega
  have HN := Lib.hid hn
  have hl1 := len_le_used m hi
  have hbs : (str (m.soft i)).size + s.size ≤ 1048576 := by rw [str_size]; have := g.room; unfold M.len at hl1; omega
  have hap : str (m.soft i) ++ s = str (m.soft i ++ s.data.toList) := by
    conv => lhs; rw [← str_self s]
    exact str_append _ _
  obtain ⟨b, hb⟩ : ∃ b, str (m.soft i) = b := ⟨_, rfl⟩
  rw [hb] at hbs hap
  have HB := Lib.hid hb
  have HAP := Lib.hid hap
  have hnb : ¬ 9223372036854775807 < b.size + s.size := by omega
  clear h0 hn hl1 hb hap
  have hc := h.off
  have hlt := h.lt
  have hrm := h.room
  have hu := g.used
  have hr := g.room
  rw [hoff] at hc
  have hgb : decide ((m.room : Int) < (m.used : Int) + (s.size : Int)) = false := decide_eq_false (by omega)
  have hw1 : IntKind.i64.wrap ((m.used : Int) + (s.size : Int)) = (m.used : Int) + (s.size : Int) := IntWalk.i64_in _ (by omega)
  have hused := rused_any (h.below ((Below.refl w.heap.size w).drew)) g
  obtain ⟨R, hR⟩ : ∃ R, m.room = R := ⟨_, rfl⟩
  obtain ⟨U, hU⟩ : ∃ U, m.used = U := ⟨_, rfl⟩
  rw [hR] at hrm hgb
  rw [hU] at hgb hw1 hused
  have HU := Lib.hid hused
  have HG := Lib.hid hgb
  clear hused hgb hR hU hoff hf hu hr hsz
  go_enter Tryz.func93, Tryz.ntmps93
  go_wp2_with fail
  refine (rno_no (i : Int) _ HN.out).mono ?_
  rintro e w1 ⟨rfl, rfl⟩
  go_wp2_with fail
  go_region_held3 (fun w' => w'.cell? ⟨q, 48, none⟩ = some (.int .i64 (R : Int)))
    (first
      | exact hrm
      | exact (hBb.cell (p := ⟨q, 48, none⟩) hlt).trans hrm)
    (first
      | (go_at_call 63
         refine HU.out.mono ?_
         rintro e wA ⟨rfl, hBb⟩))
  all_goals have hgt := of_decide_eq_false HG.out
  all_goals go_wp2_with fail
  all_goals (have hb1 := ((Below.refl w.heap.size w).drew).trans hBb)
  all_goals (refine (rstep_wet (h.below hb1) g H0.out).mono ?_)
  all_goals rintro e w2 ⟨rfl, h2, ho2⟩
  all_goals have hs2 := h2.soft hi
  all_goals have ht2 := h2.there hi
  all_goals have hfs := h2.free (16 + i)
  all_goals have hft := h2.free (32 + i)
  all_goals have hl2 := h2.lt
  all_goals (have hbb : str (m.burnt.soft i) = b := HB.out)
  all_goals rw [hbb] at hs2
  all_goals clear hbb
  all_goals go_wp2_with fail
  all_goals go_region
  all_goals go_wp2
  all_goals go_ret
  all_goals (refine ⟨rfl, ?_, (Only.of_below hb1).trans (ho2.trans ((only_set w2 q _ _).trans (only_set _ q _ _)).drew)⟩)
  all_goals
    rw [HAP.out]
    have h4 := RefAt.drew (RefAt.setThere (RefAt.setSoft h2 hi (m.soft i ++ s.data.toList)) hi true)
    rw [set_set, set_firm, set_soft] at h4
    exact h4
theorem rappend_any (n : Int) (s : ByteArray) (h : RefAt w q m) (g : Fine m) (hsz : s.size ≤ 281474976710656) : Calls Tryz.prog 93 #[.pointer (some ⟨q, 0, none⟩), .int .i64 n, .string s] w (DoneR w q (m.append n s.data.toList)) := by
  have hs : s.data.toList.length = s.size := by rw [Lib.size_eq]
  unfold M.append
  rw [hs]
  by_cases hn : 0 ≤ n ∧ n < 16
  · rw [if_neg (by simpa using hn)]
    by_cases hoff : m.off = true
    · rw [if_pos hoff]
      exact rappend_off n s h hn hoff
    · rw [if_neg hoff]
      have hoff' : m.off = false := by simpa using hoff
      by_cases hf : m.room < m.used + s.size
      · rw [if_pos hf]
        exact rappend_full n s h g hn hoff' hsz hf
      · rw [if_neg hf]
        by_cases h0 : m.fuel = 0
        · rw [if_pos h0]
          exact rappend_dry n s h g hn hoff' hsz hf h0
        · rw [if_neg h0]
          have hi := rappend_ok n.toNat s h g (by omega) hoff' hsz hf h0
          rwa [show ((n.toNat : Nat) : Int) = n by omega] at hi
  · rw [if_pos hn]
    exact rappend_no n s h hn
end
end Go.Proofs.YtamncdpeklbhlaaGreatDoor.RefC
namespace Go.Proofs.YtamncdpeklbhlaaGreatDoor.RefD
open Go.RowKit Go.Proofs.YtamncdpeklbhlaaGreatDoor.Kit Go.Proofs.YtamncdpeklbhlaaGreatDoor.Blocks Go.Proofs.YtamncdpeklbhlaaGreatDoor.Model Go.Proofs.YtamncdpeklbhlaaGreatDoor.DskWalkA Go.Proofs.YtamncdpeklbhlaaGreatDoor.DskWalkC Go.Proofs.YtamncdpeklbhlaaGreatDoor.DskWalkD Go.Proofs.YtamncdpeklbhlaaGreatDoor.Ref Go.Proofs.YtamncdpeklbhlaaGreatDoor.RefB Go.Proofs.YtamncdpeklbhlaaGreatDoor.RefC

section
variable {w : World} {q : Nat} {m : M}
set_option maxRecDepth 100000 in
theorem rsync_off (n : Int) (h : RefAt w q m) (hoff : m.off = true) : Calls Tryz.prog 79 #[.pointer (some ⟨q, 0, none⟩), .int .i64 n] w (DoneR w q (10, m)) := by
  have hc := h.off
  have hlt := h.lt
  rw [hoff] at hc
  clear hoff
  go_enter Tryz.func79, Tryz.ntmps79
  go_wp2
  go_ret
  exact ⟨rfl, h, Only.refl _ _⟩
set_option maxRecDepth 100000 in
theorem rsync_none (n : Int) (h : RefAt w q m) (hoff : m.off = false) (hn : m.has n = false) : Calls Tryz.prog 79 #[.pointer (some ⟨q, 0, none⟩), .int .i64 n] w (DoneR w q (12, m)) := by
  have hc := h.off
  have hlt := h.lt
  rw [hoff] at hc
  have HN := Lib.hid hn
  clear hoff hn
  go_enter Tryz.func79, Tryz.ntmps79
  go_wp2_with fail
  refine (rhas_lit n h HN).mono ?_
  rintro e w1 ⟨rfl, rfl⟩
  go_wp2
  go_ret
  exact ⟨rfl, h, Only.refl _ _⟩
set_option maxRecDepth 100000 in
theorem rsync_dry (n : Int) (h : RefAt w q m) (hoff : m.off = false) (hn : m.has n = true) (h0 : m.fuel = 0) : Calls Tryz.prog 79 #[.pointer (some ⟨q, 0, none⟩), .int .i64 n] w (DoneR w q (10, m.dead)) := by
  have hc := h.off
  have hlt := h.lt
  rw [hoff] at hc
  have HN := Lib.hid hn
  have H0 := Lib.hid h0
  clear hoff hn h0
  go_enter Tryz.func79, Tryz.ntmps79
  go_wp2_with fail
  refine (rhas_lit n h HN).mono ?_
  rintro e w1 ⟨rfl, rfl⟩
  go_wp2_with fail
  refine (rstep_dry h H0.out).mono ?_
  rintro e w2 ⟨rfl, h2, ho2⟩
  go_wp2
  go_ret
  exact ⟨rfl, h2, ho2⟩
set_option maxRecDepth 100000 in
set_option maxHeartbeats 1000000 in
theorem rsync_ok (i : Nat) (h : RefAt w q m) (g : Fine m) (hi : i < 16) (hoff : m.off = false) (hn : m.has (i : Int) = true) (h0 : ¬ m.fuel = 0) : Calls Tryz.prog 79 #[.pointer (some ⟨q, 0, none⟩), .int .i64 (i : Int)] w (DoneR w q (0, m.burnt.set i (m.all i) [] true)) := by
  have hc := h.off
  have hlt := h.lt
  rw [hoff] at hc
  have HN := Lib.hid hn
  have H0 := Lib.hid h0
  have hthere := (has_in hn).2
  have hab : str (m.firm i) ++ str (m.soft i) = str (m.all i) := str_append _ _
  have hal := all_le g i
  have hsz : (str (m.firm i)).size + (str (m.soft i)).size ≤ 1048576 := by rw [str_size, str_size, ← List.length_append]; exact hal
  obtain ⟨a, ha⟩ : ∃ a, str (m.firm i) = a := ⟨_, rfl⟩
  obtain ⟨b, hb⟩ : ∃ b, str (m.soft i) = b := ⟨_, rfl⟩
  rw [ha, hb] at hab hsz
  have HA := Lib.hid ha
  have HB := Lib.hid hb
  have HAB := Lib.hid hab
  have HT := Lib.hid hthere
  have hnb : ¬ 9223372036854775807 < a.size + b.size := by omega
  clear hoff hn h0 ha hb hab hal hthere
  go_enter Tryz.func79, Tryz.ntmps79
  go_wp2_with fail
  refine (rhas_lit (i : Int) h HN).mono ?_
  rintro e w1 ⟨rfl, rfl⟩
  go_wp2_with fail
  refine (rstep_wet h g H0.out).mono ?_
  rintro e w2 ⟨rfl, h2, ho2⟩
  have hf2 := h2.firm hi
  have hs2 := h2.soft hi
  have hff := h2.free i
  have hfs := h2.free (16 + i)
  have hl2 := h2.lt
  have hba : str (m.burnt.firm i) = a := HA.out
  have hbb : str (m.burnt.soft i) = b := HB.out
  rw [hba] at hf2
  rw [hbb] at hs2
  clear hba hbb
  go_wp2_with fail
  go_region
  all_goals go_wp2
  all_goals go_ret
  all_goals (refine ⟨rfl, ?_, ho2.trans ((only_set w2 q _ _).trans (only_set _ q _ _)).drew⟩)
  all_goals
    rw [HAB.out]
    have h4 := RefAt.drew (RefAt.setSoft (RefAt.setFirm h2 hi (m.all i)) hi [])
    rw [set_set, set_firm, set_there] at h4
    rw [show m.burnt.there i = true from HT.out] at h4
    exact h4
theorem rsync_any (n : Int) (h : RefAt w q m) (g : Fine m) : Calls Tryz.prog 79 #[.pointer (some ⟨q, 0, none⟩), .int .i64 n] w (DoneR w q (m.sync n)) := by
  unfold M.sync
  by_cases hoff : m.off = true
  · rw [if_pos hoff]
    exact rsync_off n h hoff
  · rw [if_neg hoff]
    have hoff' : m.off = false := by simpa using hoff
    by_cases hn : m.has n = false
    · rw [if_pos hn]
      exact rsync_none n h hoff' hn
    · rw [if_neg hn]
      have hn' : m.has n = true := by simpa using hn
      by_cases hf : m.fuel = 0
      · rw [if_pos hf]
        exact rsync_dry n h hoff' hn' hf
      · rw [if_neg hf]
        have hin := (has_in hn').1
        have hni : ((n.toNat : Nat) : Int) = n := by omega
        have := rsync_ok n.toNat h g (by omega) hoff' (by rw [hni]; exact hn') hf
        rwa [hni] at this

/-! ### Remove -/
end
end Go.Proofs.YtamncdpeklbhlaaGreatDoor.RefD
namespace Go.Proofs.YtamncdpeklbhlaaGreatDoor.RefE
open Go.RowKit Go.Proofs.YtamncdpeklbhlaaGreatDoor.Kit Go.Proofs.YtamncdpeklbhlaaGreatDoor.Blocks Go.Proofs.YtamncdpeklbhlaaGreatDoor.Model Go.Proofs.YtamncdpeklbhlaaGreatDoor.DskWalkA Go.Proofs.YtamncdpeklbhlaaGreatDoor.DskWalkC Go.Proofs.YtamncdpeklbhlaaGreatDoor.DskWalkD Go.Proofs.YtamncdpeklbhlaaGreatDoor.Ref Go.Proofs.YtamncdpeklbhlaaGreatDoor.RefB Go.Proofs.YtamncdpeklbhlaaGreatDoor.RefC

section
variable {w : World} {q : Nat} {m : M}
set_option maxRecDepth 100000 in
theorem rreplace_no (n : Int) (s : ByteArray) (h : RefAt w q m) (hn : ¬ (0 ≤ n ∧ n < 16)) : Calls Tryz.prog 23 #[.pointer (some ⟨q, 0, none⟩), .int .i64 n, .string s] w (DoneR w q (1, m)) := by
  go_enter Tryz.func23, Tryz.ntmps23
  go_wp2_with fail
  refine (rno_yes n _ hn).mono ?_
  rintro e w1 ⟨rfl, rfl⟩
  go_wp2
  go_ret
  exact ⟨rfl, h, Only.refl _ _⟩
set_option maxRecDepth 100000 in
theorem rreplace_off (n : Int) (s : ByteArray) (h : RefAt w q m) (hn : 0 ≤ n ∧ n < 16) (hoff : m.off = true) : Calls Tryz.prog 23 #[.pointer (some ⟨q, 0, none⟩), .int .i64 n, .string s] w (DoneR w q (10, m)) := by
  have hc := h.off
  have hlt := h.lt
  rw [hoff] at hc
  clear hoff
  go_enter Tryz.func23, Tryz.ntmps23
  go_wp2_with fail
  refine (rno_no n _ hn).mono ?_
  rintro e w1 ⟨rfl, rfl⟩
  go_wp2
  go_ret
  exact ⟨rfl, h, Only.refl _ _⟩
set_option maxRecDepth 100000 in
set_option maxHeartbeats 2000000 in
theorem rreplace_full (i : Nat) (s : ByteArray) (h : RefAt w q m) (g : Fine m) (hi : i < 16) (hoff : m.off = false) (hsz : s.size ≤ 281474976710656) (hf : m.room + m.len i < m.used + s.size) : Calls Tryz.prog 23 #[.pointer (some ⟨q, 0, none⟩), .int .i64 (i : Int), .string s] w (DoneR w q (11, m)) := by
  have hc := h.off
  have hlt := h.lt
  have hrm := h.room
  have hu := g.used
  have hr := g.room
  have hl := len_le_used m hi
  have hn : 0 ≤ (i : Int) ∧ (i : Int) < 16 := by omega
  have HN := Lib.hid hn
  have hfi := h.firm hi
  have hso := h.soft hi
  have hab : (str (m.firm i)).size + (str (m.soft i)).size = m.len i := by rw [str_size, str_size]; rfl
  rw [hoff] at hc
  have hused := rused_any (h.below ((Below.refl w.heap.size w).drew)) g
  obtain ⟨R, hR⟩ : ∃ R, m.room = R := ⟨_, rfl⟩
  obtain ⟨U, hU⟩ : ∃ U, m.used = U := ⟨_, rfl⟩
  obtain ⟨a, ha⟩ : ∃ a, str (m.firm i) = a := ⟨_, rfl⟩
  obtain ⟨b, hb⟩ : ∃ b, str (m.soft i) = b := ⟨_, rfl⟩
  rw [ha, hb] at hab
  rw [hR, hU, ← hab] at hf
  rw [hU, ← hab] at hl
  rw [hR, hU] at hu
  rw [hR] at hrm hr
  rw [hU] at hused
  rw [ha] at hfi
  rw [hb] at hso
  have hgb : decide ((R : Int) < (U : Int) - (a.size : Int) - (b.size : Int) + (s.size : Int)) = true := decide_eq_true (by omega)
  have hw1 : IntKind.i64.wrap ((U : Int) - (a.size : Int)) = (U : Int) - (a.size : Int) := IntWalk.i64_in _ (by omega)
  have hw2 : IntKind.i64.wrap ((U : Int) - (a.size : Int) - (b.size : Int)) = (U : Int) - (a.size : Int) - (b.size : Int) := IntWalk.i64_in _ (by omega)
  have hw3 : IntKind.i64.wrap ((U : Int) - (a.size : Int) - (b.size : Int) + (s.size : Int)) = (U : Int) - (a.size : Int) - (b.size : Int) + (s.size : Int) := IntWalk.i64_in _ (by omega)
  have HU := Lib.hid hused
  have HG := Lib.hid hgb
  have hi0 : (0 : Int) ≤ (i : Int) := by omega
  have hi1 : (i : Int) < 16 := by omega
  clear hused hgb hR hU ha hb hab hoff hf hu hr hl hsz hn
  go_enter Tryz.func23, Tryz.ntmps23
  go_wp2_with fail
  refine (rno_no (i : Int) _ HN.out).mono ?_
  rintro e w1 ⟨rfl, rfl⟩
  go_wp2_with fail
  go_region_held3 (fun w' => w'.cell? ⟨q, 48, none⟩ = some (.int .i64 (R : Int)) ∧ w'.cell? ⟨q, i, none⟩ = some (.string a) ∧ w'.cell? ⟨q, 16 + i, none⟩ = some (.string b))
    (first
      | exact ⟨hrm, hfi, hso⟩
      | exact ⟨(hBb.cell (p := ⟨q, 48, none⟩) hlt).trans hrm, (hBb.cell (p := ⟨q, i, none⟩) hlt).trans hfi, (hBb.cell (p := ⟨q, 16 + i, none⟩) hlt).trans hso⟩)
    (first
      | (go_at_call 63
         refine HU.out.mono ?_
         rintro e wA ⟨rfl, hBb⟩))
  all_goals have hgt := of_decide_eq_true HG.out
  all_goals go_wp2
  all_goals go_ret
  all_goals (have hb1 := ((Below.refl w.heap.size w).drew).trans hBb)
  all_goals exact ⟨rfl, h.below hb1, Only.of_below hb1⟩
set_option maxRecDepth 100000 in
set_option maxHeartbeats 2000000 in
theorem rreplace_dry (i : Nat) (s : ByteArray) (h : RefAt w q m) (g : Fine m) (hi : i < 16) (hoff : m.off = false) (hsz : s.size ≤ 281474976710656) (hf : ¬ m.room + m.len i < m.used + s.size) (h0 : m.fuel = 0) : Calls Tryz.prog 23 #[.pointer (some ⟨q, 0, none⟩), .int .i64 (i : Int), .string s] w (DoneR w q (10, m.dead)) := by
  have H0 := Lib.hid h0
  clear h0
  have hc := h.off
  have hlt := h.lt
  have hrm := h.room
  have hu := g.used
  have hr := g.room
  have hl := len_le_used m hi
  have hn : 0 ≤ (i : Int) ∧ (i : Int) < 16 := by omega
  have HN := Lib.hid hn
  have hfi := h.firm hi
  have hso := h.soft hi
  have hab : (str (m.firm i)).size + (str (m.soft i)).size = m.len i := by rw [str_size, str_size]; rfl
  rw [hoff] at hc
  have hused := rused_any (h.below ((Below.refl w.heap.size w).drew)) g
  obtain ⟨R, hR⟩ : ∃ R, m.room = R := ⟨_, rfl⟩
  obtain ⟨U, hU⟩ : ∃ U, m.used = U := ⟨_, rfl⟩
  obtain ⟨a, ha⟩ : ∃ a, str (m.firm i) = a := ⟨_, rfl⟩
  obtain ⟨b, hb⟩ : ∃ b, str (m.soft i) = b := ⟨_, rfl⟩
  rw [ha, hb] at hab
  rw [hR, hU, ← hab] at hf
  rw [hU, ← hab] at hl
  rw [hR, hU] at hu
  rw [hR] at hrm hr
  rw [hU] at hused
  rw [ha] at hfi
  rw [hb] at hso
  have hgb : decide ((R : Int) < (U : Int) - (a.size : Int) - (b.size : Int) + (s.size : Int)) = false := decide_eq_false (by omega)
  have hw1 : IntKind.i64.wrap ((U : Int) - (a.size : Int)) = (U : Int) - (a.size : Int) := IntWalk.i64_in _ (by omega)
  have hw2 : IntKind.i64.wrap ((U : Int) - (a.size : Int) - (b.size : Int)) = (U : Int) - (a.size : Int) - (b.size : Int) := IntWalk.i64_in _ (by omega)
  have hw3 : IntKind.i64.wrap ((U : Int) - (a.size : Int) - (b.size : Int) + (s.size : Int)) = (U : Int) - (a.size : Int) - (b.size : Int) + (s.size : Int) := IntWalk.i64_in _ (by omega)
  have HU := Lib.hid hused
  have HG := Lib.hid hgb
  have hi0 : (0 : Int) ≤ (i : Int) := by omega
  have hi1 : (i : Int) < 16 := by omega
  clear hused hgb hR hU ha hb hab hoff hf hu hr hl hsz hn
  go_enter Tryz.func23, Tryz.ntmps23
  go_wp2_with fail
  refine (rno_no (i : Int) _ HN.out).mono ?_
  rintro e w1 ⟨rfl, rfl⟩
  go_wp2_with fail
  go_region_held3 (fun w' => w'.cell? ⟨q, 48, none⟩ = some (.int .i64 (R : Int)) ∧ w'.cell? ⟨q, i, none⟩ = some (.string a) ∧ w'.cell? ⟨q, 16 + i, none⟩ = some (.string b))
    (first
      | exact ⟨hrm, hfi, hso⟩
      | exact ⟨(hBb.cell (p := ⟨q, 48, none⟩) hlt).trans hrm, (hBb.cell (p := ⟨q, i, none⟩) hlt).trans hfi, (hBb.cell (p := ⟨q, 16 + i, none⟩) hlt).trans hso⟩)
    (first
      | (go_at_call 63
         refine HU.out.mono ?_
         rintro e wA ⟨rfl, hBb⟩))
  all_goals have hgt := of_decide_eq_false HG.out
  all_goals go_wp2_with fail
  all_goals (have hb1 := ((Below.refl w.heap.size w).drew).trans hBb)
  all_goals (refine (rstep_dry (h.below hb1) H0.out).mono ?_)
  all_goals rintro e w2 ⟨rfl, h2, ho2⟩
  all_goals go_wp2
  all_goals go_ret
  all_goals exact ⟨rfl, h2, (Only.of_below hb1).trans ho2⟩
set_option maxRecDepth 100000 in
set_option maxHeartbeats 2000000 in
theorem rreplace_ok (i : Nat) (s : ByteArray) (h : RefAt w q m) (g : Fine m) (hi : i < 16) (hoff : m.off = false) (hsz : s.size ≤ 281474976710656) (hf : ¬ m.room + m.len i < m.used + s.size) (h0 : ¬ m.fuel = 0) : Calls Tryz.prog 23 #[.pointer (some ⟨q, 0, none⟩), .int .i64 (i : Int), .string s] w (DoneR w q (0, m.burnt.set i s.data.toList [] true)) := by
  have H0 := Lib.hid h0
  clear h0
  have hc := h.off
  have hlt := h.lt
  have hrm := h.room
  have hu := g.used
  have hr := g.room
  have hl := len_le_used m hi
  have hn : 0 ≤ (i : Int) ∧ (i : Int) < 16 := by omega
  have HN := Lib.hid hn
  have hfi := h.firm hi
  have hso := h.soft hi
  have hab : (str (m.firm i)).size + (str (m.soft i)).size = m.len i := by rw [str_size, str_size]; rfl
  rw [hoff] at hc
  have hused := rused_any (h.below ((Below.refl w.heap.size w).drew)) g
  obtain ⟨R, hR⟩ : ∃ R, m.room = R := ⟨_, rfl⟩
  obtain ⟨U, hU⟩ : ∃ U, m.used = U := ⟨_, rfl⟩
  obtain ⟨a, ha⟩ : ∃ a, str (m.firm i) = a := ⟨_, rfl⟩
  obtain ⟨b, hb⟩ : ∃ b, str (m.soft i) = b := ⟨_, rfl⟩
  rw [ha, hb] at hab
  rw [hR, hU, ← hab] at hf
  rw [hU, ← hab] at hl
  rw [hR, hU] at hu
  rw [hR] at hrm hr
  rw [hU] at hused
  rw [ha] at hfi
  rw [hb] at hso
  have hgb : decide ((R : Int) < (U : Int) - (a.size : Int) - (b.size : Int) + (s.size : Int)) = false := decide_eq_false (by omega)
  have hw1 : IntKind.i64.wrap ((U : Int) - (a.size : Int)) = (U : Int) - (a.size : Int) := IntWalk.i64_in _ (by omega)
  have hw2 : IntKind.i64.wrap ((U : Int) - (a.size : Int) - (b.size : Int)) = (U : Int) - (a.size : Int) - (b.size : Int) := IntWalk.i64_in _ (by omega)
  have hw3 : IntKind.i64.wrap ((U : Int) - (a.size : Int) - (b.size : Int) + (s.size : Int)) = (U : Int) - (a.size : Int) - (b.size : Int) + (s.size : Int) := IntWalk.i64_in _ (by omega)
  have HU := Lib.hid hused
  have HG := Lib.hid hgb
  have hi0 : (0 : Int) ≤ (i : Int) := by omega
  have hi1 : (i : Int) < 16 := by omega
  clear hused hgb hR hU ha hb hab hoff hf hu hr hl hsz hn
  go_enter Tryz.func23, Tryz.ntmps23
  go_wp2_with fail
  refine (rno_no (i : Int) _ HN.out).mono ?_
  rintro e w1 ⟨rfl, rfl⟩
  go_wp2_with fail
  go_region_held3 (fun w' => w'.cell? ⟨q, 48, none⟩ = some (.int .i64 (R : Int)) ∧ w'.cell? ⟨q, i, none⟩ = some (.string a) ∧ w'.cell? ⟨q, 16 + i, none⟩ = some (.string b))
    (first
      | exact ⟨hrm, hfi, hso⟩
      | exact ⟨(hBb.cell (p := ⟨q, 48, none⟩) hlt).trans hrm, (hBb.cell (p := ⟨q, i, none⟩) hlt).trans hfi, (hBb.cell (p := ⟨q, 16 + i, none⟩) hlt).trans hso⟩)
    (first
      | (go_at_call 63
         refine HU.out.mono ?_
         rintro e wA ⟨rfl, hBb⟩))
  all_goals have hgt := of_decide_eq_false HG.out
  all_goals go_wp2_with fail
  all_goals (have hb1 := ((Below.refl w.heap.size w).drew).trans hBb)
  all_goals (refine (rstep_wet (h.below hb1) g H0.out).mono ?_)
  all_goals rintro e w2 ⟨rfl, h2, ho2⟩
  all_goals have hf2 := h2.firm hi
  all_goals have hs2 := h2.soft hi
  all_goals have ht2 := h2.there hi
  all_goals have hff := h2.free i
  all_goals have hfs := h2.free (16 + i)
  all_goals have hft := h2.free (32 + i)
  all_goals have hl2 := h2.lt
  all_goals clear hw1 hw2 hw3
  all_goals go_wp2
  all_goals go_ret
  all_goals (refine ⟨rfl, ?_, (Only.of_below hb1).trans (ho2.trans (((only_set w2 q _ _).trans (only_set _ q _ _)).trans (only_set _ q _ _)))⟩)
  all_goals
    have h4 := RefAt.setThere (RefAt.setSoft (RefAt.setFirm h2 hi s.data.toList) hi []) hi true
    rw [set_set, set_set, set_firm, set_soft, set_firm, str_self] at h4
    exact h4
theorem rreplace_any (n : Int) (s : ByteArray) (h : RefAt w q m) (g : Fine m) (hsz : s.size ≤ 281474976710656) : Calls Tryz.prog 23 #[.pointer (some ⟨q, 0, none⟩), .int .i64 n, .string s] w (DoneR w q (m.replace n s.data.toList)) := by
  have hs : s.data.toList.length = s.size := by rw [Lib.size_eq]
  unfold M.replace
  rw [hs]
  by_cases hn : 0 ≤ n ∧ n < 16
  · rw [if_neg (by simpa using hn)]
    have hni : ((n.toNat : Nat) : Int) = n := by omega
    by_cases hoff : m.off = true
    · rw [if_pos hoff]
      exact rreplace_off n s h hn hoff
    · rw [if_neg hoff]
      have hoff' : m.off = false := by simpa using hoff
      by_cases hf : m.room + m.len n.toNat < m.used + s.size
      · rw [if_pos hf]
        have := rreplace_full n.toNat s h g (by omega) hoff' hsz hf
        rwa [hni] at this
      · rw [if_neg hf]
        by_cases h0 : m.fuel = 0
        · rw [if_pos h0]
          have := rreplace_dry n.toNat s h g (by omega) hoff' hsz hf h0
          rwa [hni] at this
        · rw [if_neg h0]
          have := rreplace_ok n.toNat s h g (by omega) hoff' hsz hf h0
          rwa [hni] at this
  · rw [if_pos hn]
    exact rreplace_no n s h hn
end
end Go.Proofs.YtamncdpeklbhlaaGreatDoor.RefE
namespace Go.Proofs.YtamncdpeklbhlaaGreatDoor.RefF
open Go.RowKit Go.Proofs.YtamncdpeklbhlaaGreatDoor.Kit Go.Proofs.YtamncdpeklbhlaaGreatDoor.Blocks Go.Proofs.YtamncdpeklbhlaaGreatDoor.Model Go.Proofs.YtamncdpeklbhlaaGreatDoor.DskWalkA Go.Proofs.YtamncdpeklbhlaaGreatDoor.DskWalkC Go.Proofs.YtamncdpeklbhlaaGreatDoor.DskWalkD Go.Proofs.YtamncdpeklbhlaaGreatDoor.DskWalkJ Go.Proofs.YtamncdpeklbhlaaGreatDoor.Ref Go.Proofs.YtamncdpeklbhlaaGreatDoor.RefB Go.Proofs.YtamncdpeklbhlaaGreatDoor.RefC

section
variable {w : World} {q : Nat} {m : M}
end

end Go.Proofs.YtamncdpeklbhlaaGreatDoor.RefF
namespace Go.Proofs.YtamncdpeklbhlaaGreatDoor.RefG
open Go.RowKit Go.Proofs.YtamncdpeklbhlaaGreatDoor.Kit Go.Proofs.YtamncdpeklbhlaaGreatDoor.Blocks Go.Proofs.YtamncdpeklbhlaaGreatDoor.Model Go.Proofs.YtamncdpeklbhlaaGreatDoor.DskWalkA Go.Proofs.YtamncdpeklbhlaaGreatDoor.DskWalkC Go.Proofs.YtamncdpeklbhlaaGreatDoor.DskWalkD Go.Proofs.YtamncdpeklbhlaaGreatDoor.DskWalkJ Go.Proofs.YtamncdpeklbhlaaGreatDoor.Ref Go.Proofs.YtamncdpeklbhlaaGreatDoor.RefB Go.Proofs.YtamncdpeklbhlaaGreatDoor.RefC

/-- The disk that is left, its first k files done. -/
def upTo (m : M) (keep : List Int) (k : Nat) : M :=
  { room := m.room, fuel := -1, off := false, firm := fun j => if j < k then m.left keep j else [], soft := fun _ => [], there := fun j => if j < k then (m.crash keep).there j else false }
theorem upTo_zero (m : M) (keep : List Int) : upTo m keep 0 = M.new m.room := by simp [upTo, M.new]
theorem upTo_succ (m : M) (keep : List Int) (k : Nat) : upTo m keep (k + 1) = (upTo m keep k).set k (m.left keep k) [] ((m.crash keep).there k) := by
  simp only [upTo, M.set, M.mk.injEq, true_and]
  refine ⟨funext fun j => ?_, funext fun j => by split <;> rfl, funext fun j => ?_⟩
  · by_cases h : j = k
    · subst h; simp
    · simp only [h, if_false]
      by_cases h2 : j < k
      · simp [h2, show j < k + 1 by omega]
      · simp [h2, show ¬ j < k + 1 by omega]
  · by_cases h : j = k
    · subst h; simp
    · simp only [h, if_false]
      by_cases h2 : j < k
      · simp [h2, show j < k + 1 by omega]
      · simp [h2, show ¬ j < k + 1 by omega]
theorem upTo_all {m : M} (g : Fine m) (keep : List Int) : upTo m keep 16 = m.crash keep := by
  have g' := g.crash keep
  have e1 : (upTo m keep 16).firm = (m.crash keep).firm := funext fun j => by
    simp only [upTo]
    split
    · rfl
    · exact ((g'.gone j (g'.far j (by omega))).1).symm
  have e2 : (upTo m keep 16).there = (m.crash keep).there := funext fun j => by
    simp only [upTo]
    split
    · rfl
    · exact (g'.far j (by omega)).symm
  have e3 : upTo m keep 16 = { m.crash keep with firm := (upTo m keep 16).firm, there := (upTo m keep 16).there } := rfl
  rw [e3, e1, e2]
theorem str_toList (l : List UInt8) : (str l).toList = l := by rw [Lib.toList_data]; rfl
theorem cut_str (l : List UInt8) (k : Nat) (z : Int) (hz : z = (k : Int)) (hk : k ≤ l.length) (w : World) : (Instr.slice 9 (.string (str l)) none (some (.int .i64 z)) none).run Tryz.prog w = .ok (.string (str (l.take k))) w := by
  subst hz
  rw [run_slice_string_h w 9 _ Tryz.underlying9 .i64 _ (by omega) (by rw [str_size]; omega)]
  congr 2
  apply ByteArray.ext
  simp [str]
section
variable {w : World} {q : Nat} {m : M}
end
end Go.Proofs.YtamncdpeklbhlaaGreatDoor.RefG
set_option linter.unusedVariables false
set_option linter.unusedSimpArgs false
namespace Go.Proofs.YtamncdpeklbhlaaGreatDoor.RRight
open Go.RowKit Go.Proofs.YtamncdpeklbhlaaGreatDoor.Kit Go.Proofs.YtamncdpeklbhlaaGreatDoor.Blocks Go.Proofs.YtamncdpeklbhlaaGreatDoor.Rlog Go.Proofs.YtamncdpeklbhlaaGreatDoor.Sto Go.Proofs.YtamncdpeklbhlaaGreatDoor.Sav Go.Proofs.YtamncdpeklbhlaaGreatDoor.Ents Go.Proofs.YtamncdpeklbhlaaGreatDoor.Hold
open Go.Proofs.YtamncdpeklbhlaaGreatDoor.Quorum (sound)

set_option maxRecDepth 100000 in
theorem rfirst_any (c : Nat) (w : World) (hc : c < 18446744073709551616) : Calls Tryz.prog 24 #[.int .u64 (c : Int)] w fun e w' => e = .returned (staV (first c) none 0 0) ∧ Below w.heap.size w w' := by
  have hba : Below w.heap.size w (w.alloc (.cells #[.int .u64 0, .int .i64 0, .int .u64 0, .int .u64 0, .int .u64 0, .string ⟨#[]⟩, .slice none 0 0] 53)) := (Below.refl _ _).alloc (Nat.le_refl _) _
  have hbb : Below w.heap.size w (w.alloc (.cells #[.int .u64 0, .int .i64 (-1), .int .u64 0, .int .u64 0, .int .u64 (c : Int), .string ⟨#[]⟩, .slice none 0 0] 53)) := (Below.refl _ _).alloc (Nat.le_refl _) _
  have hcz := heap_alloc_new w (.cells #[.int .u64 0, .int .i64 (-1), .int .u64 0, .int .u64 0, .int .u64 (c : Int), .string ⟨#[]⟩, .slice none 0 0] 53)
  unfold staV first
  go_enter Tryz.func24, Tryz.ntmps24
  go_wp2_with fail
  refine bodyPost_ret (results_cell_row (p := 2) (ty := 53) rfl _ _ w.heap.size 53 _ (0, 0) _ rfl hcz Tryz.underlying53 rfl (by kernel_rfl)) rfl ?_
  exact ⟨rfl, hbb⟩
/-- Does a log stand? -/
def Stands (w : World) (b : Bool) (e : Ending) (w' : World) : Prop := (∃ p, e = .returned (.tuple #[.pointer p, .int .i64 (if b = true then 0 else 1)])) ∧ Below w.heap.size w w'
theorem rnew_hid {s : Snap} {b : Bool} {l : List Ent} (hs : SnapB s) (A : Option Addr) (n c : Nat) (w : World) (hr : RE w w.heap.size A n l) (hb : ∀ e ∈ l, EntB e) (h63 : n * 40 ≤ 140737488355328) (ho : Hid (okB s l = b)) :
    Calls Tryz.prog 87 #[.agg #[.int .u64 (s.idx : Int), .int .u64 (s.term : Int), .int .u64 (s.cfg : Int), .string s.data], .slice A n c] w (Stands w b) := by
  have ho := ho.out
  unfold okB at ho
  cases h1 : sound s.cfg with
  | false =>
    rw [h1, Bool.false_and] at ho
    subst ho
    refine (RefA.rnew_mad hs A n c w h1).mono ?_
    rintro e w' ⟨he, hb⟩
    exact ⟨⟨_, he⟩, hb⟩
  | true =>
    rw [h1, Bool.true_and] at ho
    refine (RefA.rnew_any hs A n c l w hr hb h63 h1).mono ?_
    intro e w' hh
    cases b
    · rw [if_neg (by rw [ho]; decide)] at hh
      exact ⟨⟨_, hh.1⟩, hh.2⟩
    · rw [if_pos ho] at hh
      obtain ⟨p, v, he, _, hb⟩ := hh
      exact ⟨⟨_, he⟩, hb⟩
set_option maxRecDepth 100000 in
theorem right_any (s : Sta) (hs : StaB s) (A : Option Addr) (n c : Nat) (w : World) (hr : RE w w.heap.size A n s.es) (h63 : n * 40 ≤ 140737488355328) :
    Calls Tryz.prog 41 #[staV s A n c] w fun e w' => e = .returned (.bool (right s)) ∧ Below w.heap.size w w' := by
  have hba : Below w.heap.size w (w.alloc (.cells #[.int .u64 (s.term : Int), .int .i64 s.vote, .int .u64 (s.snap.idx : Int), .int .u64 (s.snap.term : Int), .int .u64 (s.snap.cfg : Int), .string s.snap.data, .slice A n c] 53)) := (Below.refl _ _).alloc (Nat.le_refl _) _
  have hcb := heap_alloc_new w (.cells #[.int .u64 (s.term : Int), .int .i64 s.vote, .int .u64 (s.snap.idx : Int), .int .u64 (s.snap.term : Int), .int .u64 (s.snap.cfg : Int), .string s.snap.data, .slice A n c] 53)
  obtain ⟨b, hb⟩ : ∃ b, okB s.snap s.es = b := ⟨_, rfl⟩
  have HB := Lib.hid hb
  have hw : right s = (b && voteB s.vote) := by unfold right; rw [hb]
  have hvd : voteB s.vote = decide (-1 ≤ s.vote ∧ s.vote < 7) := rfl
  have hnew := rnew_hid hs.snap A n c _ ((Kit.Reads.below hr hba).more hba.size) hs.ents h63 HB
  have hv0 := hs.v0
  have hv1 := hs.v1
  rw [hw, hvd]
  obtain ⟨tm, vt, ⟨ix, st, cf, d⟩, es⟩ := s
  unfold staV
  simp only at *
  have HN := Lib.hid hnew
  have HCB := Lib.hid hcb
  clear hb hw hvd hnew hcb hr hs
  go_enter Tryz.func41, Tryz.ntmps41
  go_wp2_with fail
  refine HN.out.mono ?_
  rintro e w1 ⟨⟨p, rfl⟩, hb1⟩
  have hc1 := (hb1.block w.heap.size (lt_at HCB.out)).trans HCB.out
  have x1 : w1.cell? ⟨w.heap.size, 1, none⟩ = some (.int .i64 vt) := by rw [cell_at hc1]; rfl
  have hlt := lt_at hc1
  have hB1 := hba.trans (hb1.mono hba.size)
  clear hc1 hb1
  cases b
  · go_wp2
    go_ret
    exact ⟨by simp, hB1⟩
  · by_cases h0 : -1 ≤ vt
    · by_cases h1 : vt < 7
      · go_wp2
        go_ret
        exact ⟨by simp [h0, h1]; try omega, hB1⟩
      · go_wp2
        go_ret
        exact ⟨by simp [h0, h1]; try omega, hB1⟩
    · go_wp2
      go_ret
      exact ⟨by simp [h0]; try omega, hB1⟩
end Go.Proofs.YtamncdpeklbhlaaGreatDoor.RRight
set_option linter.unusedVariables false
set_option linter.unusedSimpArgs false
namespace Go.Proofs.YtamncdpeklbhlaaGreatDoor.RTake
open Go.RowKit Go.Proofs.YtamncdpeklbhlaaGreatDoor.Kit Go.Proofs.YtamncdpeklbhlaaGreatDoor.Blocks Go.Proofs.YtamncdpeklbhlaaGreatDoor.Rlog Go.Proofs.YtamncdpeklbhlaaGreatDoor.Sto Go.Proofs.YtamncdpeklbhlaaGreatDoor.Sav Go.Proofs.YtamncdpeklbhlaaGreatDoor.Ents Go.Proofs.YtamncdpeklbhlaaGreatDoor.Hold
open Go.Proofs.YtamncdpeklbhlaaGreatDoor.App (step_app step_new)
open Go.Proofs.YtamncdpeklbhlaaGreatDoor.PckWalkF (M TookM)
open Go.Proofs.YtamncdpeklbhlaaGreatDoor.PckWalkC (gotB restB frontB gotB_lt)
open Go.Proofs.YtamncdpeklbhlaaGreatDoor.PckWalkD (badB)
open Go.Proofs.YtamncdpeklbhlaaGreatDoor.PckWalkE (upV upR upB textV textR textB)

def zs : List Value := [.int .u64 0, .int .i64 0, .int .u64 0, .int .u64 0, .int .u64 0, .string ⟨#[]⟩, .slice none 0 0]
/-- The document's record under way: its state's block, its answer's block, its reader. -/
structure Tk (w W : World) (ps : List Value) (r : Rd) : Prop where
  box : W.heap[w.heap.size]? = some (.cells ps.toArray 53 (0, 0))
  res : W.heap[w.heap.size + 1]? = some (.cells zs.toArray 53 (0, 0))
  rd : M W (w.heap.size + 2) r.s r.bad
  bel : Below w.heap.size w W
section
variable {w W W' : World} {ps : List Value} {r r' : Rd}
theorem Tk.only (h : Tk w W ps r) (k : State.Only (fun q => q = w.heap.size + 2) W W') (hr : M W' (w.heap.size + 2) r'.s r'.bad) : Tk w W' ps r' :=
  ⟨(k.block _ (lt_at h.box) (by omega)).trans h.box, (k.block _ (lt_at h.res) (by omega)).trans h.res, hr, h.bel.trans (k.below h.bel.size fun q hq => by omega)⟩
theorem tk_num {g : Nat} (h : Tk w W ps r) (hs : r.s.size ≤ 281474976710656) (hg : Hid (gotB r.s = g)) (hr : Hid (r.num = r')) :
    Calls Tryz.prog 97 #[.pointer (some ⟨w.heap.size + 2, 0, none⟩)] W fun e W' => e = .returned (.int .u64 (g : Int)) ∧ Tk w W' ps r' := by
  refine (PckWalkF.num_any _ r.s r.bad W h.rd (by omega)).mono ?_
  rintro e W' ⟨he, h1, h2⟩
  rw [hg.out] at he
  exact ⟨he, h.only h2 (by rw [← hr.out]; exact h1)⟩
theorem tk_up {n : Nat} (k : Int) (h : Tk w W ps r) (hs : r.s.size ≤ 281474976710656) (hk : k ≤ 9223372036854775807) (hn : Hid (upV r.s k = n)) (hr : Hid (r.up k = r')) :
    Calls Tryz.prog 98 #[.pointer (some ⟨w.heap.size + 2, 0, none⟩), .int .i64 k] W fun e W' => e = .returned (.int .i64 (n : Int)) ∧ Tk w W' ps r' := by
  refine (PckWalkG.up_any _ r.s r.bad k W h.rd (by omega) hk).mono ?_
  rintro e W' ⟨he, h1, h2⟩
  rw [hn.out] at he
  exact ⟨he, h.only h2 (by rw [← hr.out]; exact h1)⟩
theorem tk_text {x : ByteArray} (k : Int) (h : Tk w W ps r) (hs : r.s.size ≤ 281474976710656) (hk : k ≤ 9223372036854775807) (hx : Hid (textV r.s k = x)) (hr : Hid (r.text k = r')) :
    Calls Tryz.prog 99 #[.pointer (some ⟨w.heap.size + 2, 0, none⟩), .int .i64 k] W fun e W' => e = .returned (.string x) ∧ Tk w W' ps r' := by
  refine (PckWalkG.text_any _ r.s r.bad k W h.rd hs hk).mono ?_
  rintro e W' ⟨he, h1, h2⟩
  rw [hx.out] at he
  exact ⟨he, h.only h2 (by rw [← hr.out]; exact h1)⟩
theorem Tk.lt (h : Tk w W ps r) : w.heap.size + 2 < W.heap.size := lt_at h.rd
theorem Tk.set (h : Tk w W ps r) (i : Nat) (v : Value) : Tk w (W.setCell ⟨w.heap.size, i, none⟩ v) (ps.set i v) r := by
  have hset : Only (fun q => q = w.heap.size) W (W.setCell ⟨w.heap.size, i, none⟩ v) := (Only.refl (fun q => q = w.heap.size) W).setCell (a := ⟨w.heap.size, i, none⟩) (.inr rfl) v
  refine ⟨?_, hset.heap h.res (by omega), hset.heap h.rd (by omega), h.bel.trans (hset.below h.bel.size fun q hq => by omega)⟩
  rw [set_at h.box, List.setIfInBounds_toArray]
theorem Tk.at_ (h : Tk w W ps r) (i : Nat) {u : Value} (hi : ps[i]? = some u) : W.cell? ⟨w.heap.size, i, none⟩ = some u := by rw [cell_at h.box]; simpa using hi
theorem Tk.free (h : Tk w W ps r) (i : Nat) : W.frozen? ⟨w.heap.size, i, none⟩ = false := free_at h.box i
theorem tk_num' {g : Nat} (h : Tk w W ps r) (hs : r.s.size ≤ 281474976710656) (hg : Hid (gotB r.s = g)) (hr : Hid (r.num = r')) :
    Calls Tryz.prog 97 #[.pointer (some ⟨w.heap.size + 2, 0, none⟩)] W fun e W' => e = .returned (.int .u64 (g : Int)) ∧ Tk w W' ps r' ∧ State.Only (fun q => q = w.heap.size + 2) W W' := by
  refine (PckWalkF.num_any _ r.s r.bad W h.rd (by omega)).mono ?_
  rintro e W' ⟨he, h1, h2⟩
  rw [hg.out] at he
  exact ⟨he, h.only h2 (by rw [← hr.out]; exact h1), h2⟩
theorem tk_up' {n : Nat} (k : Int) (h : Tk w W ps r) (hs : r.s.size ≤ 281474976710656) (hk : k ≤ 9223372036854775807) (hn : Hid (upV r.s k = n)) (hr : Hid (r.up k = r')) :
    Calls Tryz.prog 98 #[.pointer (some ⟨w.heap.size + 2, 0, none⟩), .int .i64 k] W fun e W' => e = .returned (.int .i64 (n : Int)) ∧ Tk w W' ps r' ∧ State.Only (fun q => q = w.heap.size + 2) W W' := by
  refine (PckWalkG.up_any _ r.s r.bad k W h.rd (by omega) hk).mono ?_
  rintro e W' ⟨he, h1, h2⟩
  rw [hn.out] at he
  exact ⟨he, h.only h2 (by rw [← hr.out]; exact h1), h2⟩
theorem tk_text' {x : ByteArray} (k : Int) (h : Tk w W ps r) (hs : r.s.size ≤ 281474976710656) (hk : k ≤ 9223372036854775807) (hx : Hid (textV r.s k = x)) (hr : Hid (r.text k = r')) :
    Calls Tryz.prog 99 #[.pointer (some ⟨w.heap.size + 2, 0, none⟩), .int .i64 k] W fun e W' => e = .returned (.string x) ∧ Tk w W' ps r' ∧ State.Only (fun q => q = w.heap.size + 2) W W' := by
  refine (PckWalkG.text_any _ r.s r.bad k W h.rd hs hk).mono ?_
  rintro e W' ⟨he, h1, h2⟩
  rw [hx.out] at he
  exact ⟨he, h.only h2 (by rw [← hr.out]; exact h1), h2⟩
theorem Tk.below (h : Tk w W ps r) (k : Below W.heap.size W W') : Tk w W' ps r :=
  ⟨(k.block _ (lt_at h.box)).trans h.box, (k.block _ (lt_at h.res)).trans h.res, (k.block _ (lt_at h.rd)).trans h.rd, h.bel.trans (k.mono h.bel.size)⟩
theorem Tk.beside (h : Tk w W ps r) {y : Nat} (hy : w.heap.size + 2 < y) (i : Nat) (v : Value) : Tk w (W.setCell ⟨y, i, none⟩ v) ps r := by
  have hset : Only (fun q => q = y) W (W.setCell ⟨y, i, none⟩ v) := (Only.refl (fun q => q = y) W).setCell (a := ⟨y, i, none⟩) (.inr rfl) v
  exact ⟨hset.heap h.box (by omega), hset.heap h.res (by omega), hset.heap h.rd (by omega), h.bel.trans (hset.below h.bel.size fun q hq => by omega)⟩
theorem Tk.first (w : World) (ps : List Value) (b : ByteArray) : Tk w (((w.alloc (.cells ps.toArray 53)).alloc (.cells zs.toArray 53)).alloc (.cells #[.string b, .bool false] 160)) ps (rd0 b) := by
  have l1 : Below w.heap.size w (w.alloc (.cells ps.toArray 53)) := (Below.refl _ _).alloc (Nat.le_refl _) _
  have n1 := heap_alloc_new w (.cells ps.toArray 53)
  have s1 : (w.alloc (.cells ps.toArray 53)).heap.size = w.heap.size + 1 := by simp
  generalize w.alloc (.cells ps.toArray 53) = w1 at l1 n1 s1 ⊢
  have l2 : Below w1.heap.size w1 (w1.alloc (.cells zs.toArray 53)) := (Below.refl _ _).alloc (Nat.le_refl _) _
  have n2 := heap_alloc_new w1 (.cells zs.toArray 53)
  have s2 : (w1.alloc (.cells zs.toArray 53)).heap.size = w.heap.size + 2 := by simp [s1]
  generalize w1.alloc (.cells zs.toArray 53) = w2 at l2 n2 s2 ⊢
  have l3 : Below w2.heap.size w2 (w2.alloc (.cells #[.string b, .bool false] 160)) := (Below.refl _ _).alloc (Nat.le_refl _) _
  have n3 := heap_alloc_new w2 (.cells #[.string b, .bool false] 160)
  rw [s1] at n2
  rw [s2] at n3
  have n1' := (l2.block w.heap.size (by omega)).trans n1
  exact ⟨(l3.block w.heap.size (by omega)).trans n1', (l3.block (w.heap.size + 1) (by omega)).trans n2, n3, (l1.trans (l2.mono (by omega))).trans (l3.mono (by omega))⟩
end
theorem results_ct {P : Program} {fn : Func} {p u : Tmp} {ty : TypeId} (h : fn.results = #[.cell p ty, .tmp u]) (tmps : Array Value) (w : World) (g : Nat) (t : TypeId) (cs : Array Value) (fr : Nat × Nat) (d : TypeDesc)
    (hp : tmps.getD p undef = .pointer (some ⟨g, 0, none⟩)) (hg : w.heap[g]? = some (.cells cs t fr))
    (hu : P.underlying ty = some d) (hd : (match d with | .struct _ | .array _ _ => true | _ => false) = true) (hi : (P.info? ty).map (·.size) = some cs.size) :
    (results fn tmps).run P w = .ok (.tuple #[.agg cs, tmps.getD u undef]) w := by
  have hp' : tmps[p]?.getD undef = .pointer (some ⟨g, 0, none⟩) := by simpa using hp
  simp [results, h, hp', asAddr, Result.andThen, run_loadVar_row w g t ty cs fr d hg hu hd hi]
theorem empty_size (s : ByteArray) : s.toList.isEmpty = decide (s.size = 0) := by
  have h : s.toList = s.data.toList := by
    have := RefG.str_toList s.data.toList
    rwa [show DskWalkC.str s.data.toList = s from PckWalkH.str_back s] at this
  rw [h, Lib.size_eq]
  cases s.data.toList <;> simp
theorem Tk.ends {w W : World} {p0 p1 p2 p3 p4 p5 p6 : Value} {r : Rd} (h : Tk w W [p0, p1, p2, p3, p4, p5, p6] r) : ∃ W', (((((((W.setCell ⟨w.heap.size + 1, 0, none⟩ p0).setCell ⟨w.heap.size + 1, 1, none⟩ p1).setCell ⟨w.heap.size + 1, 2, none⟩ p2).setCell ⟨w.heap.size + 1, 3, none⟩ p3).setCell ⟨w.heap.size + 1, 4, none⟩ p4).setCell ⟨w.heap.size + 1, 5, none⟩ p5).setCell ⟨w.heap.size + 1, 6, none⟩ p6) = W' ∧
    W'.heap[w.heap.size + 1]? = some (.cells #[p0, p1, p2, p3, p4, p5, p6] 53 (0, 0)) ∧ Below w.heap.size w W' := by
  obtain ⟨h1, h2⟩ := Few.set7 h.res rfl p0 p1 p2 p3 p4 p5 p6
  exact ⟨_, rfl, h1, h.bel.trans (h2.below h.bel.size fun q hq => by omega)⟩
theorem Tk.ends' {w W : World} {p0 p1 p2 p3 p4 p5 p6 : Value} {r : Rd} (h : Tk w W [p0, p1, p2, p3, p4, p5, p6] r) : ∃ W', (((((((W.setCell ⟨w.heap.size + 1, 0, none⟩ p0).setCell ⟨w.heap.size + 1, 1, none⟩ p1).setCell ⟨w.heap.size + 1, 2, none⟩ p2).setCell ⟨w.heap.size + 1, 3, none⟩ p3).setCell ⟨w.heap.size + 1, 4, none⟩ p4).setCell ⟨w.heap.size + 1, 5, none⟩ p5).setCell ⟨w.heap.size + 1, 6, none⟩ p6) = W' ∧
    W'.heap[w.heap.size + 1]? = some (.cells #[p0, p1, p2, p3, p4, p5, p6] 53 (0, 0)) ∧ Below w.heap.size w W' ∧ Only (fun q => q = w.heap.size + 1) W W' := by
  obtain ⟨h1, h2⟩ := Few.set7 h.res rfl p0 p1 p2 p3 p4 p5 p6
  exact ⟨_, rfl, h1, h.bel.trans (h2.below h.bel.size fun q hq => by omega), h2⟩
/-- An address that was there, with the same entries, or that came behind. -/
def Kin (w w' : World) (A : Option Addr) (l : List Ent) (A' : Option Addr) (l' : List Ent) : Prop := ∀ ad, A' = some ad → (A = some ad ∧ l' = l) ∨ (w.heap.size ≤ ad.block ∧ ad.block < w'.heap.size)
theorem Kin.refl (w w' : World) (A : Option Addr) (l : List Ent) : Kin w w' A l A l := fun _ h => .inl ⟨h, rfl⟩
theorem Kin.none_ (w w' : World) (A : Option Addr) (l l' : List Ent) : Kin w w' A l none l' := fun _ h => by cases h
theorem Kin.trans {w w1 w2 : World} {A A' A'' : Option Addr} {l l' l'' : List Ent} (h : Kin w w1 A l A' l') (k : Kin w1 w2 A' l' A'' l'') (h1 : w.heap.size ≤ w1.heap.size) (h2 : w1.heap.size ≤ w2.heap.size) : Kin w w2 A l A'' l'' := fun ad e => by
  rcases k ad e with ⟨k1, k2⟩ | k1
  · exact (h ad k1).imp (fun ⟨a, b⟩ => ⟨a, k2.trans b⟩) fun ⟨a, b⟩ => ⟨a, Nat.lt_of_lt_of_le b h2⟩
  · exact .inr ⟨Nat.le_trans h1 k1.1, k1.2⟩
theorem Kin.mono {w0 w w' w1 : World} {A A' : Option Addr} {l l' : List Ent} (h : Kin w w' A l A' l') (h0 : w0.heap.size ≤ w.heap.size) (h1 : w'.heap.size ≤ w1.heap.size) : Kin w0 w1 A l A' l' := fun ad e => (h ad e).imp id fun ⟨a, b⟩ => ⟨Nat.le_trans h0 a, Nat.lt_of_lt_of_le b h1⟩
theorem Kin.own {w W W' : World} {A A' : Option Addr} {l l' : List Ent} {base n c : Nat} {e : TypeId} {size : Nat} {xs : List Value} (h : W.ownsRow base e size (.slice A' n c) n xs) (hs : w.heap.size ≤ base) (hW : W.heap.size ≤ W'.heap.size) : Kin w W' A l A' l' := fun ad e => by
  subst e
  exact .inr ⟨Nat.le_trans hs (h.lt ad.block rfl).1, Nat.lt_of_lt_of_le (h.lt ad.block rfl).2 hW⟩
/-- Where entries lie, if there are some. -/
theorem RE.blk {w : World} {D n : Nat} {A : Option Addr} {l : List Ent} (h : RE w D A n l) (hn : 0 < n) : ∀ ad, A = some ad → ad.block < D := fun ad e => by
  obtain ⟨ad', e', hb, _⟩ := h.2 hn
  rw [e] at e'
  cases e'
  exact hb
/-- What take answers: ok, and (where it is) what the record makes of the state. -/
def RTook (w : World) (A : Option Addr) (l : List Ent) (p : Sta × Bool) (e : Ending) (w' : World) : Prop := ∃ (s : Sta) (A' : Option Addr) (c : Nat), e = .returned (.tuple #[staV s A' s.es.length c, .bool p.2]) ∧ (p.2 = true → s = p.1) ∧ RE w' w'.heap.size A' s.es.length s.es ∧ Below w.heap.size w w' ∧ Kin w w' A l A' s.es

section
variable {w : World} {s : Sta} {b : ByteArray} {A : Option Addr} {c : Nat} (hr : RE w w.heap.size A s.es.length s.es) (hb : b.size ≤ 281474976710656)
include hr hb
set_option maxRecDepth 100000 in
set_option maxHeartbeats 4000000 in
theorem rtake_hard (h1 : kind b = 1) : Calls Tryz.prog 66 #[staV s A s.es.length c, .string b] w (RTook w A s.es (say s b)) := by
  obtain ⟨k, hk⟩ : ∃ k, kind b = k := ⟨_, rfl⟩
  have hs : say s b = (sayHard s b, ((rd2 b).up 7).done) := by unfold say; rw [if_pos h1]
  rw [hk] at h1
  have n1 : ((k : Int) == 1) = true := by simp; omega
  have HK : Hid (gotB (rd0 b).s = k) := hk
  obtain ⟨r1, hr1⟩ : ∃ r1, rd1 b = r1 := ⟨_, rfl⟩
  obtain ⟨t, ht⟩ : ∃ t, gotB (rd1 b).s = t := ⟨_, rfl⟩
  obtain ⟨r2, hr2⟩ : ∃ r2, rd2 b = r2 := ⟨_, rfl⟩
  obtain ⟨u, hu⟩ : ∃ u, upV (rd2 b).s 7 = u := ⟨_, rfl⟩
  have hul : (u : Int) ≤ 7 := by rw [← hu]; exact upV_le (by decide)
  obtain ⟨r3, hr3⟩ : ∃ r3, (rd2 b).up 7 = r3 := ⟨_, rfl⟩
  obtain ⟨d, hd⟩ : ∃ d, ((rd2 b).up 7).done = d := ⟨_, rfl⟩
  have hz1 : r1.s.size ≤ 281474976710656 := by rw [← hr1]; exact Nat.le_trans (rd1_size b) hb
  have hz2 : r2.s.size ≤ 281474976710656 := by rw [← hr2]; exact Nat.le_trans (rd2_size b) hb
  have hsy : sayHard s b = { s with term := t, vote := (u : Int) - 1 } := by unfold sayHard; rw [ht, hu]
  rw [hd, hsy] at hs
  have HR1 : Hid ((rd0 b).num = r1) := hr1
  have HR2 : Hid (r1.num = r2) := by rw [← hr1]; exact hr2
  have HR3 : Hid (r2.up 7 = r3) := by rw [← hr2]; exact hr3
  have HT : Hid (gotB r1.s = t) := by rw [← hr1]; exact ht
  have HU : Hid (upV r2.s 7 = u) := by rw [← hr2]; exact hu
  have HD : Hid (r3.done = d) := by rw [← hr3]; exact hd
  rw [hs]
  have HTK := Lib.hid (Tk.first w (pre s ++ [.slice A s.es.length c]) b)
  obtain ⟨n, hn⟩ : ∃ n, s.es.length = n := ⟨_, rfl⟩
  have HN := Lib.hid hn
  have hre := hr
  unfold staV
  obtain ⟨tm, vt, ⟨ix, st, cf, x⟩, es⟩ := s
  simp only at *
  rw [hn] at HTK hre ⊢
  have HRE := Lib.hid hre
  clear hk h1 hs hr1 hr2 hr3 ht hu hd hsy hr hre hn
  go_enter Tryz.func66, Tryz.ntmps66
  go_wp2_with fail
  refine (tk_num HTK.out hb HK HR1).mono ?_
  rintro e w2 ⟨rfl, hT2⟩
  go_wp2_with fail
  refine (tk_num hT2 hz1 HT HR2).mono ?_
  rintro e w3 ⟨rfl, hT3⟩
  have c0 := hT3.at_ 0 rfl
  have f0 := hT3.free 0
  have hlt3 := hT3.lt
  have hT4 := hT3.set 0 (.int .u64 (t : Int))
  go_wp2_with fail
  refine (tk_up 7 hT4 hz2 (by decide) HU HR3).mono ?_
  rintro e w4 ⟨rfl, hT5⟩
  have c1 := hT5.at_ 1 rfl
  have f1 := hT5.free 1
  have hlt5 := hT5.lt
  have hT6 := hT5.set 1 (.int .i64 ((u : Int) - 1))
  go_wp2_with fail
  generalize w4.setCell ⟨w.heap.size, 1, none⟩ (.int .i64 ((u : Int) - 1)) = w5 at hT6 ⊢
  have q0 : w5.cell? ⟨w.heap.size + 1 + 1, 0, none⟩ = some (.string r3.s) := by rw [cell_at hT6.rd]; rfl
  have q1 : w5.cell? ⟨w.heap.size + 1 + 1, 1, none⟩ = some (.bool r3.bad) := by rw [cell_at hT6.rd]; rfl
  have b0 := hT6.at_ 0 rfl
  have b1 := hT6.at_ 1 rfl
  have b2 := hT6.at_ 2 rfl
  have b3 := hT6.at_ 3 rfl
  have b4 := hT6.at_ 4 rfl
  have b5 := hT6.at_ 5 rfl
  have b6 := hT6.at_ 6 rfl
  have z0 : w5.cell? ⟨w.heap.size + 1, 0, none⟩ = some (.int .u64 0) := by rw [cell_at hT6.res]; rfl
  have z1 : w5.cell? ⟨w.heap.size + 1, 1, none⟩ = some (.int .i64 0) := by rw [cell_at hT6.res]; rfl
  have z2 : w5.cell? ⟨w.heap.size + 1, 2, none⟩ = some (.int .u64 0) := by rw [cell_at hT6.res]; rfl
  have z3 : w5.cell? ⟨w.heap.size + 1, 3, none⟩ = some (.int .u64 0) := by rw [cell_at hT6.res]; rfl
  have z4 : w5.cell? ⟨w.heap.size + 1, 4, none⟩ = some (.int .u64 0) := by rw [cell_at hT6.res]; rfl
  have z5 : w5.cell? ⟨w.heap.size + 1, 5, none⟩ = some (.string ⟨#[]⟩) := by rw [cell_at hT6.res]; rfl
  have z6 : w5.cell? ⟨w.heap.size + 1, 6, none⟩ = some (.slice none 0 0) := by rw [cell_at hT6.res]; rfl
  have fz := fun i => free_at hT6.res i
  have hlt6 := hT6.lt
  have HT6 := Lib.hid hT6
  have HRES := Lib.hid hT6.res
  obtain ⟨bad, hbad⟩ : ∃ bad, r3.bad = bad := ⟨_, rfl⟩
  rw [hbad] at q1
  clear hT6 hT5 hT4 hT3 hT2 c0 c1 f0 f1
  have hdd : Hid ((decide (r3.s.size = 0) && !bad) = d) := by rw [← hbad]; exact HD.out
  clear hbad
  obtain ⟨W6, hW6, hc6, hb6⟩ := HT6.out.ends
  have HW6 := Lib.hid hW6
  have HC6 := Lib.hid hc6
  have HB6 := Lib.hid hb6
  clear hW6 hc6 hb6
  cases bad
  · go_region
    have hde : r3.s.toList.isEmpty = d := by rw [empty_size]; simpa using hdd.out
    rw [HW6.out, hde]
    go_wp2
    refine bodyPost_ret (results_ct (p := 4) (u := 5) (ty := 53) rfl _ _ (w.heap.size + 1) 53 _ (0, 0) _ rfl HC6.out Tryz.underlying53 rfl (by kernel_rfl)) rfl ?_
    obtain rfl := HN.out
    exact ⟨⟨t, (u : Int) - 1, ⟨ix, st, cf, x⟩, es⟩, A, c, rfl, fun _ => rfl, (Kit.Reads.below HRE.out HB6.out.drew).more HB6.out.drew.size, HB6.out.drew, Kin.refl _ _ _ _⟩
  · go_region
    have hde : d = false := by simpa using hdd.out.symm
    rw [HW6.out, hde]
    go_wp2
    refine bodyPost_ret (results_ct (p := 4) (u := 5) (ty := 53) rfl _ _ (w.heap.size + 1) 53 _ (0, 0) _ rfl HC6.out Tryz.underlying53 rfl (by kernel_rfl)) rfl ?_
    obtain rfl := HN.out
    exact ⟨⟨t, (u : Int) - 1, ⟨ix, st, cf, x⟩, es⟩, A, c, rfl, fun _ => rfl, (Kit.Reads.below HRE.out HB6.out.drew).more HB6.out.drew.size, HB6.out.drew, Kin.refl _ _ _ _⟩
set_option maxRecDepth 100000 in
set_option maxHeartbeats 4000000 in
theorem rtake_snap (h4 : kind b = 4) : Calls Tryz.prog 66 #[staV s A s.es.length c, .string b] w (RTook w A s.es (say s b)) := by
  obtain ⟨k, hk⟩ : ∃ k, kind b = k := ⟨_, rfl⟩
  have hs : say s b = (saySnap s (snapOf b), ((rd4 b).text 65536).done) := by unfold say; rw [if_neg (by rw [h4]; decide), if_neg (by rw [h4]; decide), if_neg (by rw [h4]; decide), if_pos h4]
  rw [hk] at h4
  have n1 : ((k : Int) == 1) = false := by simp; omega
  have n2 : ((k : Int) == 2) = false := by simp; omega
  have n3 : ((k : Int) == 3) = false := by simp; omega
  have n4 : ((k : Int) == 4) = true := by simp; omega
  have HK : Hid (gotB (rd0 b).s = k) := hk
  obtain ⟨r1, hr1⟩ : ∃ r1, rd1 b = r1 := ⟨_, rfl⟩
  obtain ⟨r2, hr2⟩ : ∃ r2, rd2 b = r2 := ⟨_, rfl⟩
  obtain ⟨r3, hr3⟩ : ∃ r3, rd3 b = r3 := ⟨_, rfl⟩
  obtain ⟨r4, hr4⟩ : ∃ r4, rd4 b = r4 := ⟨_, rfl⟩
  obtain ⟨r5, hr5⟩ : ∃ r5, (rd4 b).text 65536 = r5 := ⟨_, rfl⟩
  obtain ⟨jx, hjx⟩ : ∃ jx, gotB (rd1 b).s = jx := ⟨_, rfl⟩
  obtain ⟨jt, hjt⟩ : ∃ jt, gotB (rd2 b).s = jt := ⟨_, rfl⟩
  obtain ⟨jc, hjc⟩ : ∃ jc, gotB (rd3 b).s = jc := ⟨_, rfl⟩
  obtain ⟨jd, hjd⟩ : ∃ jd, textV (rd4 b).s 65536 = jd := ⟨_, rfl⟩
  obtain ⟨d, hd⟩ : ∃ d, ((rd4 b).text 65536).done = d := ⟨_, rfl⟩
  have hz1 : r1.s.size ≤ 281474976710656 := by rw [← hr1]; exact Nat.le_trans (rd1_size b) hb
  have hz2 : r2.s.size ≤ 281474976710656 := by rw [← hr2]; exact Nat.le_trans (rd2_size b) hb
  have hz3 : r3.s.size ≤ 281474976710656 := by rw [← hr3]; exact Nat.le_trans (rd3_size b) hb
  have hz4 : r4.s.size ≤ 281474976710656 := by rw [← hr4]; exact Nat.le_trans (rd4_size b) hb
  have hsy : saySnap s (snapOf b) = { s with snap := ⟨jx, jt, jc, jd⟩, es := [] } := by unfold saySnap snapOf; rw [hjx, hjt, hjc, hjd]
  rw [hd, hsy] at hs
  have HR1 : Hid ((rd0 b).num = r1) := hr1
  have HR2 : Hid (r1.num = r2) := by rw [← hr1]; exact hr2
  have HR3 : Hid (r2.num = r3) := by rw [← hr2]; exact hr3
  have HR4 : Hid (r3.num = r4) := by rw [← hr3]; exact hr4
  have HR5 : Hid (r4.text 65536 = r5) := by rw [← hr4]; exact hr5
  have HI : Hid (gotB r1.s = jx) := by rw [← hr1]; exact hjx
  have HT : Hid (gotB r2.s = jt) := by rw [← hr2]; exact hjt
  have HC : Hid (gotB r3.s = jc) := by rw [← hr3]; exact hjc
  have HX : Hid (textV r4.s 65536 = jd) := by rw [← hr4]; exact hjd
  have HD : Hid (r5.done = d) := by rw [← hr5]; exact hd
  rw [hs]
  have HTK := Lib.hid (Tk.first w (pre s ++ [.slice A s.es.length c]) b)
  obtain ⟨n, hn⟩ : ∃ n, s.es.length = n := ⟨_, rfl⟩
  have HN := Lib.hid hn
  have hre := hr
  unfold staV
  obtain ⟨tm, vt, ⟨ix, st, cf, x⟩, es⟩ := s
  simp only at *
  rw [hn] at HTK hre ⊢
  have HRE := Lib.hid hre
  clear hk h4 hs hr1 hr2 hr3 hr4 hr5 hjx hjt hjc hjd hd hsy hr hre hn
  go_enter Tryz.func66, Tryz.ntmps66
  go_wp2_with fail
  refine (tk_num HTK.out hb HK HR1).mono ?_
  rintro e w2 ⟨rfl, hT2⟩
  go_wp2_with fail
  refine (tk_num hT2 hz1 HI HR2).mono ?_
  rintro e w3 ⟨rfl, hT3⟩
  have c0 := hT3.at_ 2 rfl
  have f0 := hT3.free 2
  have hlt3 := hT3.lt
  have hT4 := hT3.set 2 (.int .u64 (jx : Int))
  go_wp2_with fail
  refine (tk_num hT4 hz2 HT HR3).mono ?_
  rintro e w4 ⟨rfl, hT5⟩
  have c1 := hT5.at_ 3 rfl
  have f1 := hT5.free 3
  have hlt5 := hT5.lt
  have hT6 := hT5.set 3 (.int .u64 (jt : Int))
  clear hT3 hT4 c0 f0 hT2
  go_wp2_with fail
  refine (tk_num hT6 hz3 HC HR4).mono ?_
  rintro e w6 ⟨rfl, hT7⟩
  have c2 := hT7.at_ 4 rfl
  have f2 := hT7.free 4
  have hlt7 := hT7.lt
  have hT8 := hT7.set 4 (.int .u64 (jc : Int))
  clear hT5 hT6 c1 f1
  go_wp2_with fail
  refine (tk_text 65536 hT8 hz4 (by decide) HX HR5).mono ?_
  rintro e w8 ⟨rfl, hT9⟩
  have c3 := hT9.at_ 5 rfl
  have f3 := hT9.free 5
  have c4 := hT9.at_ 6 rfl
  have f4 := hT9.free 6
  have hlt9 := hT9.lt
  have hT6 := (hT9.set 5 (.string jd)).set 6 (.slice none 0 0)
  clear hT7 hT8 c2 f2
  go_wp2_with fail
  generalize (w8.setCell ⟨w.heap.size, 5, none⟩ (.string jd)).setCell ⟨w.heap.size, 6, none⟩ (.slice none 0 0) = w5 at hT6 ⊢
  have q0 : w5.cell? ⟨w.heap.size + 1 + 1, 0, none⟩ = some (.string r5.s) := by rw [cell_at hT6.rd]; rfl
  have q1 : w5.cell? ⟨w.heap.size + 1 + 1, 1, none⟩ = some (.bool r5.bad) := by rw [cell_at hT6.rd]; rfl
  have b0 := hT6.at_ 0 rfl
  have b1 := hT6.at_ 1 rfl
  have b2 := hT6.at_ 2 rfl
  have b3 := hT6.at_ 3 rfl
  have b4 := hT6.at_ 4 rfl
  have b5 := hT6.at_ 5 rfl
  have b6 := hT6.at_ 6 rfl
  have z0 : w5.cell? ⟨w.heap.size + 1, 0, none⟩ = some (.int .u64 0) := by rw [cell_at hT6.res]; rfl
  have z1 : w5.cell? ⟨w.heap.size + 1, 1, none⟩ = some (.int .i64 0) := by rw [cell_at hT6.res]; rfl
  have z2 : w5.cell? ⟨w.heap.size + 1, 2, none⟩ = some (.int .u64 0) := by rw [cell_at hT6.res]; rfl
  have z3 : w5.cell? ⟨w.heap.size + 1, 3, none⟩ = some (.int .u64 0) := by rw [cell_at hT6.res]; rfl
  have z4 : w5.cell? ⟨w.heap.size + 1, 4, none⟩ = some (.int .u64 0) := by rw [cell_at hT6.res]; rfl
  have z5 : w5.cell? ⟨w.heap.size + 1, 5, none⟩ = some (.string ⟨#[]⟩) := by rw [cell_at hT6.res]; rfl
  have z6 : w5.cell? ⟨w.heap.size + 1, 6, none⟩ = some (.slice none 0 0) := by rw [cell_at hT6.res]; rfl
  have fz := fun i => free_at hT6.res i
  have hlt6 := hT6.lt
  have HT6 := Lib.hid hT6
  obtain ⟨bad, hbad⟩ : ∃ bad, r5.bad = bad := ⟨_, rfl⟩
  rw [hbad] at q1
  have hdd : Hid ((decide (r5.s.size = 0) && !bad) = d) := by rw [← hbad]; exact HD.out
  obtain ⟨W6, hW6, hc6, hb6⟩ := HT6.out.ends
  have HW6 := Lib.hid hW6
  have HC6 := Lib.hid hc6
  have HB6 := Lib.hid hb6
  clear hW6 hc6 hb6 hbad hT6 hT9 c3 f3 c4 f4
  cases bad
  · go_region
    have hde : r5.s.toList.isEmpty = d := by rw [empty_size]; simpa using hdd.out
    rw [HW6.out, hde]
    go_wp2
    refine bodyPost_ret (results_ct (p := 4) (u := 5) (ty := 53) rfl _ _ (w.heap.size + 1) 53 _ (0, 0) _ rfl HC6.out Tryz.underlying53 rfl (by kernel_rfl)) rfl ?_
    obtain rfl := HN.out
    exact ⟨⟨tm, vt, ⟨jx, jt, jc, jd⟩, []⟩, none, 0, rfl, fun _ => rfl, RE.nil _ _ _, HB6.out.drew, Kin.none_ _ _ _ _ _⟩
  · go_region
    have hde : d = false := by simpa using hdd.out.symm
    rw [HW6.out, hde]
    go_wp2
    refine bodyPost_ret (results_ct (p := 4) (u := 5) (ty := 53) rfl _ _ (w.heap.size + 1) 53 _ (0, 0) _ rfl HC6.out Tryz.underlying53 rfl (by kernel_rfl)) rfl ?_
    obtain rfl := HN.out
    exact ⟨⟨tm, vt, ⟨jx, jt, jc, jd⟩, []⟩, none, 0, rfl, fun _ => rfl, RE.nil _ _ _, HB6.out.drew, Kin.none_ _ _ _ _ _⟩
set_option maxRecDepth 100000 in
set_option maxHeartbeats 4000000 in
theorem rtake_none (h1 : kind b ≠ 1) (h2 : kind b ≠ 2) (h3 : kind b ≠ 3) (h4 : kind b ≠ 4) : Calls Tryz.prog 66 #[staV s A s.es.length c, .string b] w (RTook w A s.es (say s b)) := by
  obtain ⟨k, hk⟩ : ∃ k, kind b = k := ⟨_, rfl⟩
  have hs : (say s b).2 = false := by unfold say; rw [if_neg h1, if_neg h2, if_neg h3, if_neg h4]
  obtain ⟨⟨s', d⟩, hsd⟩ : ∃ q, say s b = q := ⟨_, rfl⟩
  rw [hsd] at hs ⊢
  obtain rfl : d = false := hs
  rw [hk] at h1 h2 h3 h4
  have n1 : ((k : Int) == 1) = false := by simp; omega
  have n2 : ((k : Int) == 2) = false := by simp; omega
  have n3 : ((k : Int) == 3) = false := by simp; omega
  have n4 : ((k : Int) == 4) = false := by simp; omega
  have HK : Hid (gotB (rd0 b).s = k) := hk
  have HTK := Lib.hid (Tk.first w (pre s ++ [.slice A s.es.length c]) b)
  obtain ⟨n, hn⟩ : ∃ n, s.es.length = n := ⟨_, rfl⟩
  have HN := Lib.hid hn
  have hre := hr
  unfold staV
  obtain ⟨tm, vt, ⟨ix, st, cf, x⟩, es⟩ := s
  simp only at *
  rw [hn] at HTK hre ⊢
  have HRE := Lib.hid hre
  clear hk h1 h2 h3 h4 hsd hr hre hn
  go_enter Tryz.func66, Tryz.ntmps66
  go_wp2_with fail
  refine (tk_num HTK.out hb HK rfl).mono ?_
  rintro e w5 ⟨rfl, hT6⟩
  have b0 := hT6.at_ 0 rfl
  have b1 := hT6.at_ 1 rfl
  have b2 := hT6.at_ 2 rfl
  have b3 := hT6.at_ 3 rfl
  have b4 := hT6.at_ 4 rfl
  have b5 := hT6.at_ 5 rfl
  have b6 := hT6.at_ 6 rfl
  have z0 : w5.cell? ⟨w.heap.size + 1, 0, none⟩ = some (.int .u64 0) := by rw [cell_at hT6.res]; rfl
  have z1 : w5.cell? ⟨w.heap.size + 1, 1, none⟩ = some (.int .i64 0) := by rw [cell_at hT6.res]; rfl
  have z2 : w5.cell? ⟨w.heap.size + 1, 2, none⟩ = some (.int .u64 0) := by rw [cell_at hT6.res]; rfl
  have z3 : w5.cell? ⟨w.heap.size + 1, 3, none⟩ = some (.int .u64 0) := by rw [cell_at hT6.res]; rfl
  have z4 : w5.cell? ⟨w.heap.size + 1, 4, none⟩ = some (.int .u64 0) := by rw [cell_at hT6.res]; rfl
  have z5 : w5.cell? ⟨w.heap.size + 1, 5, none⟩ = some (.string ⟨#[]⟩) := by rw [cell_at hT6.res]; rfl
  have z6 : w5.cell? ⟨w.heap.size + 1, 6, none⟩ = some (.slice none 0 0) := by rw [cell_at hT6.res]; rfl
  have fz := fun i => free_at hT6.res i
  have hlt6 := hT6.lt
  have HT6 := Lib.hid hT6
  obtain ⟨W6, hW6, hc6, hb6⟩ := HT6.out.ends
  have HW6 := Lib.hid hW6
  have HC6 := Lib.hid hc6
  have HB6 := Lib.hid hb6
  clear hW6 hc6 hb6 hT6
  go_wp2_with fail
  rw [HW6.out]
  refine bodyPost_ret (results_ct (p := 4) (u := 5) (ty := 53) rfl _ _ (w.heap.size + 1) 53 _ (0, 0) _ rfl HC6.out Tryz.underlying53 rfl (by kernel_rfl)) rfl ?_
  obtain rfl := HN.out
  exact ⟨⟨tm, vt, ⟨ix, st, cf, x⟩, es⟩, A, c, rfl, (fun h => by cases h), (Kit.Reads.below HRE.out HB6.out).more HB6.out.size, HB6.out, Kin.refl _ _ _ _⟩
set_option maxRecDepth 100000 in
set_option maxHeartbeats 4000000 in
theorem rtake_ent (h2 : kind b = 2) (hroom : (s.es.length + 1) * 40 ≤ 140737488355328) : Calls Tryz.prog 66 #[staV s A s.es.length c, .string b] w (RTook w A s.es (say s b)) := by
  obtain ⟨k, hk⟩ : ∃ k, kind b = k := ⟨_, rfl⟩
  have hs : say s b = (sayEnt s b, (((rd3 b).up 2).text 65536).done) := by unfold say; rw [if_neg (by rw [h2]; decide), if_pos h2]
  rw [hk] at h2
  have n1 : ((k : Int) == 1) = false := by simp; omega
  have n2 : ((k : Int) == 2) = true := by simp; omega
  have HK : Hid (gotB (rd0 b).s = k) := hk
  obtain ⟨r1, hr1⟩ : ∃ r1, rd1 b = r1 := ⟨_, rfl⟩
  obtain ⟨r2, hr2⟩ : ∃ r2, rd2 b = r2 := ⟨_, rfl⟩
  obtain ⟨r3, hr3⟩ : ∃ r3, rd3 b = r3 := ⟨_, rfl⟩
  obtain ⟨r4, hr4⟩ : ∃ r4, (rd3 b).up 2 = r4 := ⟨_, rfl⟩
  obtain ⟨r5, hr5⟩ : ∃ r5, ((rd3 b).up 2).text 65536 = r5 := ⟨_, rfl⟩
  obtain ⟨jt, hjt⟩ : ∃ jt, gotB (rd1 b).s = jt := ⟨_, rfl⟩
  obtain ⟨jx, hjx⟩ : ∃ jx, gotB (rd2 b).s = jx := ⟨_, rfl⟩
  obtain ⟨u, hu⟩ : ∃ u, upV (rd3 b).s 2 = u := ⟨_, rfl⟩
  obtain ⟨jd, hjd⟩ : ∃ jd, textV ((rd3 b).up 2).s 65536 = jd := ⟨_, rfl⟩
  obtain ⟨d, hd⟩ : ∃ d, (((rd3 b).up 2).text 65536).done = d := ⟨_, rfl⟩
  have hz1 : r1.s.size ≤ 281474976710656 := by rw [← hr1]; exact Nat.le_trans (rd1_size b) hb
  have hz2 : r2.s.size ≤ 281474976710656 := by rw [← hr2]; exact Nat.le_trans (rd2_size b) hb
  have hz3 : r3.s.size ≤ 281474976710656 := by rw [← hr3]; exact Nat.le_trans (rd3_size b) hb
  have hz4 : r4.s.size ≤ 281474976710656 := by rw [← hr4]; exact Nat.le_trans (Nat.le_trans (upR_size _ _) (rd3_size b)) hb
  have hsy : sayEnt s b = { s with es := s.es ++ [⟨jt, jx, (u : Int), jd⟩] } := by unfold sayEnt entOf; rw [hjt, hjx, hu, hjd]
  rw [hd, hsy] at hs
  have HR1 : Hid ((rd0 b).num = r1) := hr1
  have HR2 : Hid (r1.num = r2) := by rw [← hr1]; exact hr2
  have HR3 : Hid (r2.num = r3) := by rw [← hr2]; exact hr3
  have HR4 : Hid (r3.up 2 = r4) := by rw [← hr3]; exact hr4
  have HR5 : Hid (r4.text 65536 = r5) := by rw [← hr4]; exact hr5
  have HI : Hid (gotB r1.s = jt) := by rw [← hr1]; exact hjt
  have HT : Hid (gotB r2.s = jx) := by rw [← hr2]; exact hjx
  have HU : Hid (upV r3.s 2 = u) := by rw [← hr3]; exact hu
  have HX : Hid (textV r4.s 65536 = jd) := by rw [← hr4]; exact hjd
  have HD : Hid (r5.done = d) := by rw [← hr5]; exact hd
  rw [hs]
  have HTK := Lib.hid (Tk.first w (pre s ++ [.slice A s.es.length c]) b)
  obtain ⟨n, hn⟩ : ∃ n, s.es.length = n := ⟨_, rfl⟩
  have HN := Lib.hid hn
  have hre := hr
  unfold staV
  obtain ⟨tm, vt, ⟨ix, st, cf, x⟩, es⟩ := s
  simp only at *
  rw [hn] at HTK hre hroom ⊢
  have HRE := Lib.hid hre
  clear hk h2 hs hr1 hr2 hr3 hr4 hr5 hjx hjt hu hjd hd hsy hr hre hn
  go_enter Tryz.func66, Tryz.ntmps66
  go_wp2_with fail
  refine (tk_num HTK.out hb HK HR1).mono ?_
  rintro e w2 ⟨rfl, hT2⟩
  go_wp2_with fail
  refine (tk_num hT2 hz1 HI HR2).mono ?_
  rintro e w3 ⟨rfl, hT3⟩
  have l3 : Below w3.heap.size w3 (w3.alloc (.cells #[.int .u64 (jt : Int), .int .u64 0, .int .i64 0, .string ⟨#[]⟩] 83)) := (Below.refl _ _).alloc (Nat.le_refl _) _
  have hn3 := heap_alloc_new w3 (.cells #[.int .u64 (jt : Int), .int .u64 0, .int .i64 0, .string ⟨#[]⟩] 83)
  have hT3' := hT3.below l3
  have hy3 := hT3.lt
  have hT3x := Lib.hid hT3'
  clear hT2 hT3 hT3' l3
  go_wp2_with fail
  refine (tk_num' hT3x.out hz2 HT HR3).mono ?_
  rintro e w4 ⟨rfl, hT4, ho4⟩
  have hE4 := (ho4.block _ (lt_at hn3) (by show ¬ (w3.heap.size = w.heap.size + 2); omega)).trans hn3
  have c0 : w4.cell? ⟨w3.heap.size, 1, none⟩ = some (.int .u64 0) := by rw [cell_at hE4]; rfl
  have f0 := free_at hE4 1
  have hlt4 := lt_at hE4
  have hT4' := hT4.beside hy3 1 (.int .u64 (jx : Int))
  have hE4' : (w4.setCell ⟨w3.heap.size, 1, none⟩ (.int .u64 (jx : Int))).heap[w3.heap.size]? = some (.cells #[.int .u64 (jt : Int), .int .u64 (jx : Int), .int .i64 0, .string ⟨#[]⟩] 83 (0, 0)) := by rw [set_at hE4]; rfl
  go_wp2_with fail
  refine (tk_up' 2 hT4' hz3 (by decide) HU HR4).mono ?_
  rintro e w6 ⟨rfl, hT6, ho6⟩
  have hE6 := (ho6.block _ (lt_at hE4') (by show ¬ (w3.heap.size = w.heap.size + 2); omega)).trans hE4'
  have c1 : w6.cell? ⟨w3.heap.size, 2, none⟩ = some (.int .i64 0) := by rw [cell_at hE6]; rfl
  have f1 := free_at hE6 2
  have hlt6 := lt_at hE6
  have hT6' := hT6.beside hy3 2 (.int .i64 (u : Int))
  have hE6' : (w6.setCell ⟨w3.heap.size, 2, none⟩ (.int .i64 (u : Int))).heap[w3.heap.size]? = some (.cells #[.int .u64 (jt : Int), .int .u64 (jx : Int), .int .i64 (u : Int), .string ⟨#[]⟩] 83 (0, 0)) := by rw [set_at hE6]; rfl
  clear hT4 hT4' hE4 hE4' ho4 c0 f0 hT3x hn3
  go_wp2_with fail
  refine (tk_text' 65536 hT6' hz4 (by decide) HX HR5).mono ?_
  rintro e w8 ⟨rfl, hT8, ho8⟩
  have hE8 := (ho8.block _ (lt_at hE6') (by show ¬ (w3.heap.size = w.heap.size + 2); omega)).trans hE6'
  have c2 : w8.cell? ⟨w3.heap.size, 3, none⟩ = some (.string ⟨#[]⟩) := by rw [cell_at hE8]; rfl
  have f2 := free_at hE8 3
  have hlt8 := lt_at hE8
  have hT8' := hT8.beside hy3 3 (.string jd)
  have hE8' : (w8.setCell ⟨w3.heap.size, 3, none⟩ (.string jd)).heap[w3.heap.size]? = some (.cells #[.int .u64 (jt : Int), .int .u64 (jx : Int), .int .i64 (u : Int), .string jd] 83 (0, 0)) := by rw [set_at hE8]; rfl
  clear hT6 hT6' hE6 hE6' ho6 c1 f1
  go_wp2_with fail
  clear hT8 hE8 ho8 c2 f2
  generalize w8.setCell ⟨w3.heap.size, 3, none⟩ (.string jd) = wA at hT8' hE8' ⊢
  have a6 := hT8'.at_ 6 rfl
  have e0 : wA.cell? ⟨w3.heap.size, 0, none⟩ = some (.int .u64 (jt : Int)) := by rw [cell_at hE8']; rfl
  have e1 : wA.cell? ⟨w3.heap.size, 1, none⟩ = some (.int .u64 (jx : Int)) := by rw [cell_at hE8']; rfl
  have e2 : wA.cell? ⟨w3.heap.size, 2, none⟩ = some (.int .i64 (u : Int)) := by rw [cell_at hE8']; rfl
  have e3 : wA.cell? ⟨w3.heap.size, 3, none⟩ = some (.string jd) := by rw [cell_at hE8']; rfl
  have hltA := hT8'.lt
  have hltE := lt_at hE8'
  have HTA := Lib.hid hT8'
  have HEA := Lib.hid hE8'
  have HRA : Hid (RE wA wA.heap.size A n es) := (Kit.Reads.below HRE.out hT8'.bel).more hT8'.bel.size
  clear hT8' hE8'
  have hltB : w.heap.size < wA.heap.size := by omega
  have HLB : Hid (∀ o, wA.heap.size ≤ (wA.alloc o).drew.heap.size) := fun o => ((Below.refl wA.heap.size wA).alloc (Nat.le_refl _) o).drew.size
  have HRB : Hid (∀ o, RE (wA.alloc o).drew wA.heap.size A n es) := fun o => Kit.Reads.below HRA.out ((Below.refl wA.heap.size wA).alloc (Nat.le_refl _) o).drew
  have hroom0 : n * 40 ≤ 140737488355328 := by omega
  go_wp2_with fail
  go_region_law (first
    | (refine step_new (A := A) (m := n) (c := c) _ rfl _ _ rfl wA.heap.size rfl rfl (Reads.drew HRA.out) (ecells_one _) hroom0 (Nat.le_refl _) ?_
       intro A1 c1 w9 hown9 hb9 hat9
       have g0 := (hb9.cell (p := ⟨w3.heap.size, 0, none⟩) hltE).trans e0
       have g1 := (hb9.cell (p := ⟨w3.heap.size, 1, none⟩) hltE).trans e1
       have g2 := (hb9.cell (p := ⟨w3.heap.size, 2, none⟩) hltE).trans e2
       have g3 := (hb9.cell (p := ⟨w3.heap.size, 3, none⟩) hltE).trans e3
       have hltE9 := Nat.lt_of_lt_of_le hltE hb9.size
       have HNW : Hid (RE (w9.alloc (.cells #[.int .u64 (jt : Int), .int .u64 (jx : Int), .int .i64 (u : Int), .string jd] 83)) (w9.heap.size + 1) (some ⟨w9.heap.size, 0, none⟩) 1 [⟨jt, jx, (u : Int), jd⟩]) := Take.ent_new w9 ⟨jt, jx, (u : Int), jd⟩ 83
       have HOW : Hid (∀ o, (w9.alloc o).ownsRow wA.heap.size 83 4 (.slice A1 n c1) n (ecells es)) := fun o => (Only.of_below (S := fun _ => False) ((Below.refl w9.heap.size w9).alloc (Nat.le_refl _) o)).own hown9 (fun _ _ e => e)
       have HB9 : Hid (Below wA.heap.size wA w9) := (Below.refl wA.heap.size wA).drew.trans hb9
       have HA9 : Hid (∀ q, (Value.slice A1 n c1).ownBlock = some q → wA.heap.size ≤ q) := hat9
       clear hown9 hb9 hat9)
    | (refine step_new (A := A) (m := n) (c := c) _ rfl _ _ rfl wA.heap.size rfl rfl (HRB.out _) (ecells_one _) hroom0 (HLB.out _) ?_
       intro A1 c1 w9 hown9 hb9 hat9
       have HNB : Hid (RE w9 (wA.heap.size + 1) (some ⟨wA.heap.size, 0, none⟩) 1 [⟨jt, jx, (u : Int), jd⟩]) := Kit.Reads.below (Reads.drew (Take.ent_new wA ⟨jt, jx, (u : Int), jd⟩ 83)) (hb9.mono (by show _ ≤ (wA.alloc _).heap.size; simp))
       have HOB := Lib.hid hown9
       have HB9 : Hid (Below wA.heap.size wA w9) := ((Below.refl wA.heap.size wA).alloc (Nat.le_refl _) _).drew.trans (hb9.mono (HLB.out _))
       have HA9 : Hid (∀ q, (Value.slice A1 n c1).ownBlock = some q → wA.heap.size ≤ q) := fun q hq => Nat.le_trans (HLB.out _) (hat9 q hq)
       clear hown9 hb9 hat9)
    | (refine step_app (v := .slice A1 n c1) _ rfl _ _ rfl wA.heap.size rfl (HOW.out _) rfl HNW.out (ecells_one _) hroom (Nat.le_trans HB9.out.size ((Below.refl _ w9).alloc (Nat.le_refl _) _).size) ?_
       intro A2 c2 w10 hown10 hg10 hat10
       have hb10 : Below wA.heap.size wA w10 := ((HB9.out.alloc HB9.out.size _).grown hg10 (Nat.le_trans HB9.out.size ((Below.refl _ w9).alloc (Nat.le_refl _) _).size) HA9.out)
       have hT10 := HTA.out.below hb10
       have b6 := hT10.at_ 6 rfl
       have f6 := hT10.free 6
       have hlt10 := hT10.lt
       have HT10 := Lib.hid (hT10.set 6 (.slice A2 (n + 1) c2))
       have HO10 := Lib.hid hown10
       clear hT10 hown10 hg10 hat10 hb10)
    | (refine step_app (v := .slice A1 n c1) _ rfl _ _ rfl wA.heap.size rfl HOB.out rfl HNB.out (ecells_one _) hroom HB9.out.size ?_
       intro A2 c2 w10 hown10 hg10 hat10
       have hb10 : Below wA.heap.size wA w10 := HB9.out.grown hg10 HB9.out.size HA9.out
       have hT10 := HTA.out.below hb10
       have b6 := hT10.at_ 6 rfl
       have f6 := hT10.free 6
       have hlt10 := hT10.lt
       have HT10 := Lib.hid (hT10.set 6 (.slice A2 (n + 1) c2))
       have HO10 := Lib.hid hown10
       clear hT10 hown10 hg10 hat10 hb10))
  all_goals
    have HS : Hid (w10.setCell ⟨w.heap.size, 6, none⟩ (.slice A2 (n + 1) c2) = w10.setCell ⟨w.heap.size, 6, none⟩ (.slice A2 (n + 1) c2)) := rfl
    have ho10 : Only (fun q => q = w.heap.size) w10 (w10.setCell ⟨w.heap.size, 6, none⟩ (.slice A2 (n + 1) c2)) := (Only.refl (fun q => q = w.heap.size) w10).setCell (a := ⟨w.heap.size, 6, none⟩) (.inr rfl) _
    have hT6 := HT10.out
    clear HT10
    go_wp2_with fail
    generalize w10.setCell ⟨w.heap.size, 6, none⟩ (.slice A2 (n + 1) c2) = w5 at hT6 ho10 ⊢
    have HT6 := Lib.hid hT6
    have HOO := Lib.hid ho10
    have q0 : w5.cell? ⟨w.heap.size + 1 + 1, 0, none⟩ = some (.string r5.s) := by rw [cell_at hT6.rd]; rfl
    have q1 : w5.cell? ⟨w.heap.size + 1 + 1, 1, none⟩ = some (.bool r5.bad) := by rw [cell_at hT6.rd]; rfl
    have d0 := hT6.at_ 0 rfl
    have d1 := hT6.at_ 1 rfl
    have d2 := hT6.at_ 2 rfl
    have d3 := hT6.at_ 3 rfl
    have d4 := hT6.at_ 4 rfl
    have d5 := hT6.at_ 5 rfl
    have d6 := hT6.at_ 6 rfl
    have z0 : w5.cell? ⟨w.heap.size + 1, 0, none⟩ = some (.int .u64 0) := by rw [cell_at HT6.out.res]; rfl
    have z1 : w5.cell? ⟨w.heap.size + 1, 1, none⟩ = some (.int .i64 0) := by rw [cell_at HT6.out.res]; rfl
    have z2 : w5.cell? ⟨w.heap.size + 1, 2, none⟩ = some (.int .u64 0) := by rw [cell_at HT6.out.res]; rfl
    have z3 : w5.cell? ⟨w.heap.size + 1, 3, none⟩ = some (.int .u64 0) := by rw [cell_at HT6.out.res]; rfl
    have z4 : w5.cell? ⟨w.heap.size + 1, 4, none⟩ = some (.int .u64 0) := by rw [cell_at HT6.out.res]; rfl
    have z5 : w5.cell? ⟨w.heap.size + 1, 5, none⟩ = some (.string ⟨#[]⟩) := by rw [cell_at HT6.out.res]; rfl
    have z6 : w5.cell? ⟨w.heap.size + 1, 6, none⟩ = some (.slice none 0 0) := by rw [cell_at HT6.out.res]; rfl
    have fz := fun i => free_at hT6.res i
    have hlt6 := hT6.lt
    obtain ⟨bad, hbad⟩ : ∃ bad, r5.bad = bad := ⟨_, rfl⟩
    rw [hbad] at q1
    have hdd : Hid ((decide (r5.s.size = 0) && !bad) = d) := by rw [← hbad]; exact HD.out
    obtain ⟨W6, hW6, hc6, hb6, ho6⟩ := HT6.out.ends'
    have HO6 := Lib.hid (((ho10.mono (S' := fun q => q = w.heap.size ∨ q = w.heap.size + 1) fun q _ h => .inl h).trans (ho6.mono fun q _ h => .inr h)).own HO10.out fun g hg e => by have := (HO10.out.lt g hg).1; omega)
    have HW6 := Lib.hid hW6
    have HC6 := Lib.hid hc6
    have HB6 := Lib.hid hb6
    clear hW6 hc6 hb6 hbad hT6 ho10 ho6 HS
    cases bad
    · go_region
      have hde : r5.s.toList.isEmpty = d := by rw [empty_size]; simpa using hdd.out
      rw [HW6.out, hde]
      go_wp2
      refine bodyPost_ret (results_ct (p := 4) (u := 5) (ty := 53) rfl _ _ (w.heap.size + 1) 53 _ (0, 0) _ rfl HC6.out Tryz.underlying53 rfl (by kernel_rfl)) rfl ?_
      obtain rfl := HN.out
      refine ⟨⟨tm, vt, ⟨ix, st, cf, x⟩, es ++ [⟨jt, jx, (u : Int), jd⟩]⟩, A2, c2, ?_, fun _ => rfl, ?_, HB6.out.drew, Kin.own HO6.out (Nat.le_of_lt hltB) (Nat.le_refl _)⟩
      · unfold staV; simp only [List.length_append, List.length_cons, List.length_nil]; rfl
      · have hown : W6.ownsRow wA.heap.size 83 4 (.slice A2 (es.length + 1) c2) (es.length + 1) (ecells (es ++ [⟨jt, jx, (u : Int), jd⟩])) := by rw [ecells_append]; exact HO6.out
        obtain ⟨A3, c3, e3', _, _, hr3⟩ := own_form hown
        cases e3'
        have hfin := Reads.drew hr3
        show RE _ _ A2 (es ++ [(⟨jt, jx, (u : Int), jd⟩ : Ent)]).length (es ++ [(⟨jt, jx, (u : Int), jd⟩ : Ent)])
        rw [show (es ++ [(⟨jt, jx, (u : Int), jd⟩ : Ent)]).length = es.length + 1 by simp]
        exact hfin
    · go_region
      have hde : d = false := by simpa using hdd.out.symm
      rw [HW6.out, hde]
      go_wp2
      refine bodyPost_ret (results_ct (p := 4) (u := 5) (ty := 53) rfl _ _ (w.heap.size + 1) 53 _ (0, 0) _ rfl HC6.out Tryz.underlying53 rfl (by kernel_rfl)) rfl ?_
      obtain rfl := HN.out
      refine ⟨⟨tm, vt, ⟨ix, st, cf, x⟩, es ++ [⟨jt, jx, (u : Int), jd⟩]⟩, A2, c2, ?_, fun _ => rfl, ?_, HB6.out.drew, Kin.own HO6.out (Nat.le_of_lt hltB) (Nat.le_refl _)⟩
      · unfold staV; simp only [List.length_append, List.length_cons, List.length_nil]; rfl
      · have hown : W6.ownsRow wA.heap.size 83 4 (.slice A2 (es.length + 1) c2) (es.length + 1) (ecells (es ++ [⟨jt, jx, (u : Int), jd⟩])) := by rw [ecells_append]; exact HO6.out
        obtain ⟨A3, c3, e3', _, _, hr3⟩ := own_form hown
        cases e3'
        have hfin := Reads.drew hr3
        show RE _ _ A2 (es ++ [(⟨jt, jx, (u : Int), jd⟩ : Ent)]).length (es ++ [(⟨jt, jx, (u : Int), jd⟩ : Ent)])
        rw [show (es ++ [(⟨jt, jx, (u : Int), jd⟩ : Ent)]).length = es.length + 1 by simp]
        exact hfin
end
end Go.Proofs.YtamncdpeklbhlaaGreatDoor.RTake
set_option linter.unusedVariables false
set_option linter.unusedSimpArgs false
namespace Go.Proofs.YtamncdpeklbhlaaGreatDoor.RTakeB
open Go.RowKit Go.Proofs.YtamncdpeklbhlaaGreatDoor.Kit Go.Proofs.YtamncdpeklbhlaaGreatDoor.Blocks Go.Proofs.YtamncdpeklbhlaaGreatDoor.Rlog Go.Proofs.YtamncdpeklbhlaaGreatDoor.Sto Go.Proofs.YtamncdpeklbhlaaGreatDoor.Sav Go.Proofs.YtamncdpeklbhlaaGreatDoor.Ents Go.Proofs.YtamncdpeklbhlaaGreatDoor.Hold Go.Proofs.YtamncdpeklbhlaaGreatDoor.RTake
open Go.Proofs.YtamncdpeklbhlaaGreatDoor.RlgWalkC
open Go.Proofs.YtamncdpeklbhlaaGreatDoor.App (wpList_app)
open Go.Proofs.YtamncdpeklbhlaaGreatDoor.PckWalkC (gotB restB frontB gotB_lt)

theorem more_row {w wr w1 : World} {B : Nat} {o : Obj} {v : Value} {A' : Option Addr} {c' n : Nat} {l : List Ent} {e : Ent} (hown : wr.ownsRow B 83 4 v n (ecells l)) (hb : Below B w wr) (hB : B ≤ wr.heap.size)
    (h1 : w1.ownsRow B 83 4 (.slice A' (n + 1) c') (n + 1) (ecells l ++ ecells [e])) (hg : (wr.alloc o).grownBy w1 v.ownBlock) :
    w1.ownsRow B 83 4 (.slice A' (n + 1) c') (n + 1) (ecells (l ++ [e])) ∧ Below B w w1 := by
  rw [ecells_append]
  exact ⟨h1, (hb.alloc hB o).grown hg (by simp; omega) (fun k hk => (hown.lt k hk).1)⟩
/-- The entries that a cut leaves, under way. -/
def Left (w : World) (es : List Ent) (v : Value) (W : World) (q : List Ent) : Prop := ∃ k A c, v = .slice A k c ∧ k ≤ es.length ∧ q = es.take k ∧ W.ownsRow w.heap.size 83 4 (.slice A k c) k (ecells (es.take k)) ∧ Below w.heap.size w W

section
variable {w : World} {s : Sta} {b : ByteArray} {A : Option Addr} {c : Nat} (hr : RE w w.heap.size A s.es.length s.es) (hb : b.size ≤ 281474976710656)
include hr hb
set_option maxRecDepth 100000 in
set_option maxHeartbeats 4000000 in
theorem rtake_cut (h3 : kind b = 3) (hroom : (s.es.length + 1) * 40 ≤ 140737488355328) : Calls Tryz.prog 66 #[staV s A s.es.length c, .string b] w (RTook w A s.es (say s b)) := by
  obtain ⟨k, hk⟩ : ∃ k, kind b = k := ⟨_, rfl⟩
  have hs : say s b = (sayCut s (gotB (rd1 b).s), (rd2 b).done) := by unfold say; rw [if_neg (by rw [h3]; decide), if_neg (by rw [h3]; decide), if_pos h3]
  rw [hk] at h3
  have n1 : ((k : Int) == 1) = false := by simp; omega
  have n2 : ((k : Int) == 2) = false := by simp; omega
  have n3 : ((k : Int) == 3) = true := by simp; omega
  have HK : Hid (gotB (rd0 b).s = k) := hk
  obtain ⟨r1, hr1⟩ : ∃ r1, rd1 b = r1 := ⟨_, rfl⟩
  obtain ⟨r2, hr2⟩ : ∃ r2, rd2 b = r2 := ⟨_, rfl⟩
  obtain ⟨jt, hjt⟩ : ∃ jt, gotB (rd1 b).s = jt := ⟨_, rfl⟩
  obtain ⟨d, hd⟩ : ∃ d, (rd2 b).done = d := ⟨_, rfl⟩
  have hz1 : r1.s.size ≤ 281474976710656 := by rw [← hr1]; exact Nat.le_trans (rd1_size b) hb
  rw [hjt, hd] at hs
  have HR1 : Hid ((rd0 b).num = r1) := hr1
  have HR2 : Hid (r1.num = r2) := by rw [← hr1]; exact hr2
  have HT : Hid (gotB r1.s = jt) := by rw [← hr1]; exact hjt
  have HD : Hid (r2.done = d) := by rw [← hr2]; exact hd
  rw [hs]
  have HTK := Lib.hid (Tk.first w (pre s ++ [.slice A s.es.length c]) b)
  obtain ⟨n, hn⟩ : ∃ n, s.es.length = n := ⟨_, rfl⟩
  have HN := Lib.hid hn
  have hre := hr
  unfold staV
  obtain ⟨tm, vt, ⟨ix, st, cf, x⟩, es⟩ := s
  simp only at *
  rw [hn] at HTK hre hroom ⊢
  have HRE := Lib.hid hre
  clear hk h3 hs hr1 hr2 hjt hd hr hre hn
  go_enter Tryz.func66, Tryz.ntmps66
  go_wp2_with fail
  refine (tk_num HTK.out hb HK HR1).mono ?_
  rintro e w2 ⟨rfl, hT2⟩
  go_wp2_with fail
  refine (tk_num hT2 hz1 HT HR2).mono ?_
  rintro e w3 ⟨rfl, hT3⟩
  have HT3 := Lib.hid hT3
  have HRE3 : Hid (RE w3 w3.heap.size A n es) := (Kit.Reads.below HRE.out hT3.bel).more hT3.bel.size
  have hlt3 := hT3.lt
  have a6 := hT3.at_ 6 rfl
  clear hT3 hT2
  go_upto_block 1 with fail
  go_cut [10] from 55 to 79 (fun v wx => Left w3 es v wx (es.takeWhile (below jt)))
  case first =>
    go_wp2_with fail
    go_loopw [10, 11] (fun v x wr => ∃ k A' c', v = .slice A' k c' ∧ k ≤ n ∧ x = .int .i64 (k : Int) ∧ Hid (∀ j e, j < k → es[j]? = some e → below jt e = true) ∧ wr.ownsRow w3.heap.size 83 4 (.slice A' k c') k (ecells (es.take k)) ∧ Below w3.heap.size w3 wr) (fun _ x _ => n - (intOf x).toNat)
    case atStart => exact ⟨0, none, 0, rfl, by omega, rfl, Lib.hid (fun j e hj => absurd hj (by omega)), by simpa [ecells] using World.ownsRow_nil _ _ _ _, Below.refl _ _⟩
    case round =>
      obtain ⟨k, A0, c0, rfl, hk, rfl, HA, hown, hbel⟩ := hrel
      have a6r := (hbel.cell (p := ⟨w.heap.size, 6, none⟩) (by show w.heap.size < _; omega)).trans a6
      have hlr : w.heap.size < wr.heap.size := by have := hbel.size; omega
      have HO := Lib.hid hown
      have hsz := hbel.size
      by_cases hkL : k < n
      · obtain ⟨b', o, e, rfl, hbl, he, hfour⟩ := RE.at_ HRE3.out hkL
        have hfr := Four.below hfour hbel hbl
        have d0 := hfr.c0
        have d1 := hfr.c1
        have d2 := hfr.c2
        have d3 := hfr.c3
        by_cases hi : e.idx < jt
        · have HA' : Hid (∀ j e, j < k + 1 → es[j]? = some e → below jt e = true) := by
            intro j e' hj he'
            by_cases hjk : j = k
            · subst hjk
              rw [he] at he'
              cases he'
              exact decide_eq_true hi
            · exact HA.out j e' (by omega) he'
          have hnext := take_snoc es k e he
          have hm40 : (k + 1) * 40 ≤ 140737488355328 := by omega
          obtain ⟨tm', ix', kd, dd⟩ := e
          simp only at d0 d1 d2 d3 hi
          have hnews : RE (wr.alloc (.cells #[.int .u64 (tm' : Int), .int .u64 (ix' : Int), .int .i64 kd, .string dd] 83)) (wr.heap.size + 1) (some ⟨wr.heap.size, 0, none⟩) 1 [⟨tm', ix', kd, dd⟩] := Take.ent_new wr ⟨tm', ix', kd, dd⟩ 83
          have hownA : ∀ o, (wr.alloc o).ownsRow w3.heap.size 83 4 (.slice A0 k c0) k (ecells (es.take k)) := fun o => ((Only.refl (fun _ => False) wr).alloc o).own hown (by simp)
          have hba : ∀ o, w3.heap.size ≤ (wr.alloc o).heap.size := fun o => by simp; omega
          have HNX := Lib.hid hnext
          clear he hfour hfr hown hnext HA
          go_wp2_with (first
            | (at_builtin
               refine wpList_app (v := .slice A0 k c0) _ rfl _ _ rfl w3.heap.size rfl (hownA _) rfl hnews (ecells_one _) hm40 (hba _) ?_
               intro A' c' w1 hown1 hg1 hat1
               obtain ⟨ho1, hb1⟩ := more_row HO.out hbel hsz hown1 hg1
               clear hown1 hg1 hat1))
          go_roundw
          case rel => exact ⟨k + 1, A', c', rfl, by omega, by go_num, HA', by rw [HNX.out]; exact ho1, hb1⟩
          case measure => simp [intOf]; omega
        · have HW : Hid (es.takeWhile (below jt) = es.take k) := Cut.while_split _ es k (by have := HN.out; omega) HA.out fun e' he' => by
            rw [he] at he'
            cases he'
            exact decide_eq_false hi
          obtain ⟨tm', ix', kd, dd⟩ := e
          simp only at d0 d1 d2 d3 hi
          clear he hfour hfr hown HA
          go_wp2_with fail
          go_meet
          exact ⟨k, A0, c0, rfl, by have := HN.out; omega, HW.out, HO.out, hbel⟩
      · obtain rfl : k = n := by omega
        have HW : Hid (es.takeWhile (below jt) = es.take k) := Cut.while_split _ es k (by have := HN.out; omega) HA.out fun e' he' => by
          have := (List.getElem?_eq_some_iff.1 he').1
          have := HN.out
          omega
        clear hown HA
        go_wp2_with fail
        go_meet
        exact ⟨k, A0, c0, rfl, by have := HN.out; omega, HW.out, HO.out, hbel⟩
  case rest =>
    obtain ⟨k, A', c', rfl, hkn, HQ, hown, hbel⟩ := hcut
    have hTc := HT3.out.below hbel
    have HQ := Lib.hid HQ
    have HO := Lib.hid hown
    have hT6 := hTc.set 6 (.slice A' k c')
    have b6 := hTc.at_ 6 rfl
    have f6 := hTc.free 6
    have hlt9 := hTc.lt
    have ho6 : Only (fun q => q = w.heap.size) wc (wc.setCell ⟨w.heap.size, 6, none⟩ (.slice A' k c')) := (Only.refl (fun q => q = w.heap.size) wc).setCell (a := ⟨w.heap.size, 6, none⟩) (.inr rfl) _
    have hOo : Hid ((wc.setCell ⟨w.heap.size, 6, none⟩ (.slice A' k c')).ownsRow w3.heap.size 83 4 (.slice A' k c') k (ecells (es.take k))) := ho6.own hown fun g hg e => by have := (hown.lt g hg).1; omega
    clear hTc hown
    go_wp2_with fail
    generalize wc.setCell ⟨w.heap.size, 6, none⟩ (.slice A' k c') = w5 at hT6 hOo ⊢
    have q0 : w5.cell? ⟨w.heap.size + 1 + 1, 0, none⟩ = some (.string r2.s) := by rw [cell_at hT6.rd]; rfl
    have q1 : w5.cell? ⟨w.heap.size + 1 + 1, 1, none⟩ = some (.bool r2.bad) := by rw [cell_at hT6.rd]; rfl
    have b0 := hT6.at_ 0 rfl
    have b1 := hT6.at_ 1 rfl
    have b2 := hT6.at_ 2 rfl
    have b3 := hT6.at_ 3 rfl
    have b4 := hT6.at_ 4 rfl
    have b5 := hT6.at_ 5 rfl
    have b6 := hT6.at_ 6 rfl
    have z0 : w5.cell? ⟨w.heap.size + 1, 0, none⟩ = some (.int .u64 0) := by rw [cell_at hT6.res]; rfl
    have z1 : w5.cell? ⟨w.heap.size + 1, 1, none⟩ = some (.int .i64 0) := by rw [cell_at hT6.res]; rfl
    have z2 : w5.cell? ⟨w.heap.size + 1, 2, none⟩ = some (.int .u64 0) := by rw [cell_at hT6.res]; rfl
    have z3 : w5.cell? ⟨w.heap.size + 1, 3, none⟩ = some (.int .u64 0) := by rw [cell_at hT6.res]; rfl
    have z4 : w5.cell? ⟨w.heap.size + 1, 4, none⟩ = some (.int .u64 0) := by rw [cell_at hT6.res]; rfl
    have z5 : w5.cell? ⟨w.heap.size + 1, 5, none⟩ = some (.string ⟨#[]⟩) := by rw [cell_at hT6.res]; rfl
    have z6 : w5.cell? ⟨w.heap.size + 1, 6, none⟩ = some (.slice none 0 0) := by rw [cell_at hT6.res]; rfl
    have fz := fun i => free_at hT6.res i
    have hlt6 := hT6.lt
    have HT6 := Lib.hid hT6
    obtain ⟨bad, hbad⟩ : ∃ bad, r2.bad = bad := ⟨_, rfl⟩
    rw [hbad] at q1
    have hdd : Hid ((decide (r2.s.size = 0) && !bad) = d) := by rw [← hbad]; exact HD.out
    obtain ⟨W6, hW6, hc6, hb6, ho6'⟩ := HT6.out.ends'
    have HO6 := Lib.hid (ho6'.own hOo.out fun g hg e => by have := (hOo.out.lt g hg).1; omega)
    have HW6 := Lib.hid hW6
    have HC6 := Lib.hid hc6
    have HB6 := Lib.hid hb6
    have hres : (es.take k).length = k := by rw [List.length_take, HN.out]; have := HN.out; omega
    have HLK := Lib.hid hres
    clear hW6 hc6 hb6 hbad hT6 ho6 ho6' hOo hres
    cases bad
    · go_region
      have hde : r2.s.toList.isEmpty = d := by rw [empty_size]; simpa using hdd.out
      rw [HW6.out, hde]
      go_wp2
      refine bodyPost_ret (results_ct (p := 4) (u := 5) (ty := 53) rfl _ _ (w.heap.size + 1) 53 _ (0, 0) _ rfl HC6.out Tryz.underlying53 rfl (by kernel_rfl)) rfl ?_
      obtain rfl := HN.out
      refine ⟨⟨tm, vt, ⟨ix, st, cf, x⟩, es.take k⟩, A', c', ?_, fun _ => by unfold sayCut; rw [← HQ.out], ?_, HB6.out.drew, Kin.own HO6.out (by omega) (Nat.le_refl _)⟩
      · unfold staV; simp only [HLK.out]; rfl
      · obtain ⟨A3, c3, e3', _, _, hr3⟩ := own_form HO6.out
        cases e3'
        have hfin := Reads.drew hr3
        show RE _ _ A' (es.take k).length (es.take k)
        rw [HLK.out]
        exact hfin
    · go_region
      have hde : d = false := by simpa using hdd.out.symm
      rw [HW6.out, hde]
      go_wp2
      refine bodyPost_ret (results_ct (p := 4) (u := 5) (ty := 53) rfl _ _ (w.heap.size + 1) 53 _ (0, 0) _ rfl HC6.out Tryz.underlying53 rfl (by kernel_rfl)) rfl ?_
      obtain rfl := HN.out
      refine ⟨⟨tm, vt, ⟨ix, st, cf, x⟩, es.take k⟩, A', c', ?_, fun e => (by cases e), ?_, HB6.out.drew, Kin.own HO6.out (by omega) (Nat.le_refl _)⟩
      · unfold staV; simp only [HLK.out]; rfl
      · obtain ⟨A3, c3, e3', _, _, hr3⟩ := own_form HO6.out
        cases e3'
        have hfin := Reads.drew hr3
        show RE _ _ A' (es.take k).length (es.take k)
        rw [HLK.out]
        exact hfin
/-- Any record. -/
theorem rtake_any (hroom : (s.es.length + 1) * 40 ≤ 140737488355328) : Calls Tryz.prog 66 #[staV s A s.es.length c, .string b] w (RTook w A s.es (say s b)) := by
  by_cases h1 : kind b = 1
  · exact rtake_hard hr hb h1
  by_cases h2 : kind b = 2
  · exact rtake_ent hr hb h2 hroom
  by_cases h3 : kind b = 3
  · exact rtake_cut hr hb h3 hroom
  by_cases h4 : kind b = 4
  · exact rtake_snap hr hb h4
  exact rtake_none hr hb h1 h2 h3 h4
end
end Go.Proofs.YtamncdpeklbhlaaGreatDoor.RTakeB
set_option linter.unusedVariables false
set_option linter.unusedSimpArgs false
namespace Go.Proofs.YtamncdpeklbhlaaGreatDoor.RLog
open Go.RowKit Go.Proofs.YtamncdpeklbhlaaGreatDoor.Kit Go.Proofs.YtamncdpeklbhlaaGreatDoor.Blocks Go.Proofs.YtamncdpeklbhlaaGreatDoor.SumB Go.Proofs.YtamncdpeklbhlaaGreatDoor.Wal Go.Proofs.YtamncdpeklbhlaaGreatDoor.FrA Go.Proofs.YtamncdpeklbhlaaGreatDoor.FrC Go.Proofs.YtamncdpeklbhlaaGreatDoor.ScA Go.Proofs.YtamncdpeklbhlaaGreatDoor.ScB Go.Proofs.YtamncdpeklbhlaaGreatDoor.Frm Go.Proofs.YtamncdpeklbhlaaGreatDoor.Model Go.Proofs.YtamncdpeklbhlaaGreatDoor.Disk Go.Proofs.YtamncdpeklbhlaaGreatDoor.Ref Go.Proofs.YtamncdpeklbhlaaGreatDoor.RefB Go.Proofs.YtamncdpeklbhlaaGreatDoor.RefC Go.Proofs.YtamncdpeklbhlaaGreatDoor.RefD Go.Proofs.YtamncdpeklbhlaaGreatDoor.RefE Go.Proofs.YtamncdpeklbhlaaGreatDoor.RefG Go.Proofs.YtamncdpeklbhlaaGreatDoor.Log
open Go.Proofs.YtamncdpeklbhlaaGreatDoor.DskWalkC (str Got)
open Go.Proofs.YtamncdpeklbhlaaGreatDoor.Model.M
theorem DoneR.lit {w w' : World} {q : Nat} {m' : M} {r : Int × M} {e : Ending} (h : DoneR w q r e w') {f : Int} (hf : Hid (r.1 = f)) (hm : Hid (r.2 = m')) : e = .returned (.int .i64 f) ∧ RefAt w' q m' ∧ Only (fun k => k = q) w w' := by
  obtain ⟨h1, h2, h3⟩ := h
  rw [hf.out] at h1
  rw [hm.out] at h2
  exact ⟨h1, h2, h3⟩
/-- Block b is the document's log: a disk, a file's number. -/
def RLogAt (w : World) (b q : Nat) (n : Int) : Prop := w.heap[b]? = some (.cells #[.pointer (some ⟨q, 0, none⟩), .int .i64 n] 142 (0, 0))
section
variable {w w' : World} {b q : Nat} {n : Int} {m : M}
theorem RLogAt.disk (h : RLogAt w b q n) : w.cell? ⟨b, 0, none⟩ = some (.pointer (some ⟨q, 0, none⟩)) := by rw [cell_at h]; rfl
theorem RLogAt.file (h : RLogAt w b q n) : w.cell? ⟨b, 1, none⟩ = some (.int .i64 n) := by rw [cell_at h]; rfl
theorem RLogAt.below (h : RLogAt w b q n) (k : Below w.heap.size w w') : RLogAt w' b q n := (k.block b (lt_at h)).trans h
theorem RLogAt.only (h : RLogAt w b q n) (k : Only (fun y => y = q) w w') (hb : b ≠ q) : RLogAt w' b q n := k.heap h hb
/-- What the document's Open leaves. -/
def ROpened (w : World) (q : Nat) (n : Int) (r : (Int × List (List UInt8)) × M) (e : Ending) (w' : World) : Prop :=
  (r.1.1 ≠ 0 ∧ e = .returned (.tuple #[.pointer none, .slice none 0 0, .int .i64 r.1.1]) ∧ RefAt w' q r.2 ∧ Only (fun y => y = q) w w') ∨
  (r.1.1 = 0 ∧ ∃ b A c, e = .returned (.tuple #[.pointer (some ⟨b, 0, none⟩), .slice A r.1.2.length c, .int .i64 0]) ∧ RLogAt w' b q n ∧ RS w' A r.1.2.length r.1.2 ∧ RefAt w' q r.2 ∧ Only (fun y => y = q) w w' ∧ w.heap.size ≤ b)
theorem rbeside {v : Value} {r : List (List UInt8)} (hown : w'.ownsRow w.heap.size 9 1 v r.length (strs r)) (hq : q < w.heap.size) : ∀ A c, v = .slice A r.length c → ∀ w'', Only (fun y => y = q) w' w'' → RS w'' A r.length r := by
  rintro A c rfl w'' k
  exact Reads.of_own (Only.own k hown fun g hg e => by have := (hown.lt g hg).1; omega)

set_option maxRecDepth 100000 in
set_option maxHeartbeats 4000000 in
theorem ropen_old (n : Int) (h : RefAt w q m) (g : Fine m) (hn : 0 ≤ n ∧ n < 16) (hoff : m.off = false) (hhas : m.has n = true) :
    Calls Tryz.prog 33 #[.pointer (some ⟨q, 0, none⟩), .int .i64 n] w (ROpened w q n (wopen m n)) := by
  have hr := rread_any n h g
  have e1 : m.read n = (m.all n.toNat, 0) := by simp [M.read, hoff, hhas]
  rw [e1] at hr
  obtain ⟨W, hW⟩ : ∃ W, wopen m n = W := ⟨_, rfl⟩
  rw [hW]
  obtain ⟨S, hS⟩ : ∃ S, str (m.all n.toNat) = S := ⟨_, rfl⟩
  have hSl : S.data.toList = m.all n.toNat := by rw [← hS]; rfl
  have hSs : S.size ≤ 1000000000 := by
    have := all_le g n.toNat
    rw [← size_list, hSl]
    omega
  have HW : Hid (behind m n S.data.toList = W) := by
    rw [← hW, hSl, wopen_old hn hoff hhas]
    rfl
  obtain ⟨⟨rl, k⟩, hsc⟩ : ∃ q, scan S.data.toList = q := ⟨_, rfl⟩
  have HSc := Lib.hid hsc
  have HR := Lib.hid hr
  have HS := Lib.hid hS
  have h1 := hn.1
  have h2 : ¬ 15 < n := by omega
  have h0 : Only (fun y => y = q) w w := Only.refl _ w
  clear hr e1 hS hSl hW hsc
  go_enter Tryz.func33, Tryz.ntmps33
  go_wp2_with fail
  refine HR.out.mono ?_
  intro e w1 hg
  obtain ⟨rfl, hb1⟩ := Got.lit hg HS rfl
  have hH := RefAt.below h hb1
  have hK : Only (fun y => y = q) w w1 := h0.thenBelow hb1
  clear hg HR
  go_wp2_with fail
  refine (rscan_any S _ hSs).mono ?_
  rintro e w2 ⟨v, rfl, hown, hb2⟩
  rw [HSc.out] at hown
  have hread := rbeside (q := q) hown hH.lt
  obtain ⟨A, c, rfl, _, _, _⟩ := own_form hown
  have hH2 : RefAt w2 q m := RefAt.below hH hb2
  have hK2 : Only (fun y => y = q) w w2 := hK.thenBelow hb2
  have HRD : Hid (∀ w'', Only (fun y => y = q) w2 w'' → RS w'' A rl.length rl) := hread A c rfl
  clear hread hown
  rw [HSc.out]
  simp only []
  by_cases hks : k < S.size
  · have hki : (k : Int) < (S.size : Int) := by omega
    have hx : (S.extract 0 k).data.toList = S.data.toList.take k := by rw [extract_list]; simp
    have hd := rreplace_any n (S.extract 0 k) hH2 g (by simp; omega)
    obtain ⟨r2, hr2⟩ : ∃ r2, (m.replace n (S.extract 0 k).data.toList).1 = r2 := ⟨_, rfl⟩
    obtain ⟨m2, hm2⟩ : ∃ m2, (m.replace n (S.extract 0 k).data.toList).2 = m2 := ⟨_, rfl⟩
    have HW2 : Hid ((if r2 = 0 then ((0, rl), m2) else ((r2, []), m2)) = W) := by
      have := HW.out
      unfold behind at this
      rw [HSc.out, if_pos (show k < S.data.toList.length from hks), ← hx, hr2, hm2] at this
      exact this
    have HR2 := Lib.hid hr2
    have HM2 := Lib.hid hm2
    have HD := Lib.hid hd
    clear hd hr2 hm2 HW
    go_wp2_with fail
    refine HD.out.mono ?_
    intro e w3 hd
    obtain ⟨rfl, h3, k3⟩ := DoneR.lit hd HR2 HM2
    have hR3 := HRD.out w3 k3
    have hK3 : Only (fun y => y = q) w w3 := hK2.trans k3
    clear hd k3 HD
    by_cases hr : r2 = 0
    · subst hr
      have hW := HW2.out
      rw [if_pos rfl] at hW
      clear HW2
      subst hW
      go_wp2
      go_ret3
      have hbn : Below w3.heap.size w3 (w3.alloc (.cells #[.pointer (some ⟨q, 0, none⟩), .int .i64 n] 142)) := (Below.refl _ _).alloc (Nat.le_refl _) _
      exact .inr ⟨rfl, _, A, c, rfl, heap_alloc_new w3 _, (hR3.below hbn).more hbn.size, RefAt.below h3 hbn, hK3.thenBelow hbn, hK3.size⟩
    · have hri : (r2 != 0) = true := bne_iff_ne.2 hr
      have hW := HW2.out
      rw [if_neg hr] at hW
      clear HW2
      subst hW
      go_wp2
      go_ret3
      exact .inl ⟨hr, rfl, h3, hK3⟩
  · have hki : ¬ (k : Int) < (S.size : Int) := by omega
    have hd := rsync_any n hH2 g
    obtain ⟨r2, hr2⟩ : ∃ r2, (m.sync n).1 = r2 := ⟨_, rfl⟩
    obtain ⟨m2, hm2⟩ : ∃ m2, (m.sync n).2 = m2 := ⟨_, rfl⟩
    have HW2 : Hid ((if r2 = 0 then ((0, rl), m2) else ((r2, []), m2)) = W) := by
      have := HW.out
      unfold behind at this
      rw [HSc.out, if_neg (show ¬ k < S.data.toList.length from hks), hr2, hm2] at this
      exact this
    have HR2 := Lib.hid hr2
    have HM2 := Lib.hid hm2
    have HD := Lib.hid hd
    clear hd hr2 hm2 HW
    go_wp2_with fail
    refine HD.out.mono ?_
    intro e w3 hd
    obtain ⟨rfl, h3, k3⟩ := DoneR.lit hd HR2 HM2
    have hR3 := HRD.out w3 k3
    have hK3 : Only (fun y => y = q) w w3 := hK2.trans k3
    clear hd k3 HD
    by_cases hr : r2 = 0
    · subst hr
      have hW := HW2.out
      rw [if_pos rfl] at hW
      clear HW2
      subst hW
      go_wp2
      go_ret3
      have hbn : Below w3.heap.size w3 (w3.alloc (.cells #[.pointer (some ⟨q, 0, none⟩), .int .i64 n] 142)) := (Below.refl _ _).alloc (Nat.le_refl _) _
      exact .inr ⟨rfl, _, A, c, rfl, heap_alloc_new w3 _, (hR3.below hbn).more hbn.size, RefAt.below h3 hbn, hK3.thenBelow hbn, hK3.size⟩
    · have hri : (r2 != 0) = true := bne_iff_ne.2 hr
      have hW := HW2.out
      rw [if_neg hr] at hW
      clear HW2
      subst hW
      go_wp2
      go_ret3
      exact .inl ⟨hr, rfl, h3, hK3⟩

set_option maxRecDepth 100000 in
set_option maxHeartbeats 4000000 in
theorem ropen_new (n : Int) (h : RefAt w q m) (g : Fine m) (hn : 0 ≤ n ∧ n < 16) (hoff : m.off = false) (hhas : m.has n = false) :
    Calls Tryz.prog 33 #[.pointer (some ⟨q, 0, none⟩), .int .i64 n] w (ROpened w q n (wopen m n)) := by
  have hr := rread_any n h g
  have e1 : m.read n = ([], 12) := by simp [M.read, hoff, hhas]
  rw [e1] at hr
  obtain ⟨W, hW⟩ : ∃ W, wopen m n = W := ⟨_, rfl⟩
  rw [hW]
  obtain ⟨S, hS⟩ : ∃ S, str [] = S := ⟨_, rfl⟩
  obtain ⟨r1, hr1⟩ : ∃ r1, (m.replace n []).1 = r1 := ⟨_, rfl⟩
  obtain ⟨m1, hm1⟩ : ∃ m1, (m.replace n []).2 = m1 := ⟨_, rfl⟩
  have g1 : Fine m1 := by rw [← hm1]; exact g.replace n []
  have hSl : S.data.toList = [] := by rw [← hS]; rfl
  have hSs : S.size ≤ 1000000000 := by rw [← size_list, hSl]; simp
  have HW0 : Hid ((if r1 = 0 then behind m1 n S.data.toList else ((r1, []), m1)) = W) := by
    rw [← hW, hSl, wopen_new hn hoff hhas, hr1, hm1]
    rfl
  obtain ⟨⟨rl, k⟩, hsc⟩ : ∃ q, scan S.data.toList = q := ⟨_, rfl⟩
  have HSc := Lib.hid hsc
  have HR := Lib.hid hr
  have HS := Lib.hid hS
  have HR1 := Lib.hid hr1
  have HM1 := Lib.hid hm1
  have h1 := hn.1
  have h2 : ¬ 15 < n := by omega
  have h0 : Only (fun y => y = q) w w := Only.refl _ w
  have hrep := fun W' (hb : Below w.heap.size w W') => rreplace_any n ⟨#[]⟩ (RefAt.below h hb) g (by decide)
  have HREP := Lib.hid hrep
  clear hr e1 hS hSl hW hsc hr1 hm1 hrep
  go_enter Tryz.func33, Tryz.ntmps33
  go_wp2_with fail
  refine HR.out.mono ?_
  intro e w0 hg
  obtain ⟨rfl, hb1⟩ := Got.lit hg HS rfl
  clear hg HR
  go_wp2_with fail
  refine (HREP.out w0 hb1).mono ?_
  intro e w1 hd
  obtain ⟨rfl, hH, k1⟩ := DoneR.lit hd HR1 HM1
  have hK : Only (fun y => y = q) w w1 := (h0.thenBelow hb1).trans k1
  clear hd k1 HREP
  by_cases hr : r1 = 0
  · subst hr
    have HW : Hid (behind m1 n S.data.toList = W) := by
      have := HW0.out
      rwa [if_pos rfl] at this
    clear HW0
    go_wp2_with fail
    refine (rscan_any S _ hSs).mono ?_
    rintro e w2 ⟨v, rfl, hown, hb2⟩
    rw [HSc.out] at hown
    have hread := rbeside (q := q) hown hH.lt
    obtain ⟨A, c, rfl, _, _, _⟩ := own_form hown
    have hH2 : RefAt w2 q m1 := RefAt.below hH hb2
    have hK2 : Only (fun y => y = q) w w2 := hK.thenBelow hb2
    have HRD : Hid (∀ w'', Only (fun y => y = q) w2 w'' → RS w'' A rl.length rl) := hread A c rfl
    clear hread hown
    rw [HSc.out]
    simp only []
    by_cases hks : k < S.size
    · have hki : (k : Int) < (S.size : Int) := by omega
      have hx : (S.extract 0 k).data.toList = S.data.toList.take k := by rw [extract_list]; simp
      have hd := rreplace_any n (S.extract 0 k) hH2 g1 (by simp; omega)
      obtain ⟨r2, hr2⟩ : ∃ r2, (m1.replace n (S.extract 0 k).data.toList).1 = r2 := ⟨_, rfl⟩
      obtain ⟨m2, hm2⟩ : ∃ m2, (m1.replace n (S.extract 0 k).data.toList).2 = m2 := ⟨_, rfl⟩
      have HW2 : Hid ((if r2 = 0 then ((0, rl), m2) else ((r2, []), m2)) = W) := by
        have := HW.out
        unfold behind at this
        rw [HSc.out, if_pos (show k < S.data.toList.length from hks), ← hx, hr2, hm2] at this
        exact this
      have HR2 := Lib.hid hr2
      have HM2 := Lib.hid hm2
      have HD := Lib.hid hd
      clear hd hr2 hm2 HW
      go_wp2_with fail
      refine HD.out.mono ?_
      intro e w3 hd
      obtain ⟨rfl, h3, k3⟩ := DoneR.lit hd HR2 HM2
      have hR3 := HRD.out w3 k3
      have hK3 : Only (fun y => y = q) w w3 := hK2.trans k3
      clear hd k3 HD
      by_cases hr : r2 = 0
      · subst hr
        have hW := HW2.out
        rw [if_pos rfl] at hW
        clear HW2
        subst hW
        go_wp2
        go_ret3
        have hbn : Below w3.heap.size w3 (w3.alloc (.cells #[.pointer (some ⟨q, 0, none⟩), .int .i64 n] 142)) := (Below.refl _ _).alloc (Nat.le_refl _) _
        exact .inr ⟨rfl, _, A, c, rfl, heap_alloc_new w3 _, (hR3.below hbn).more hbn.size, RefAt.below h3 hbn, hK3.thenBelow hbn, hK3.size⟩
      · have hri : (r2 != 0) = true := bne_iff_ne.2 hr
        have hW := HW2.out
        rw [if_neg hr] at hW
        clear HW2
        subst hW
        go_wp2
        go_ret3
        exact .inl ⟨hr, rfl, h3, hK3⟩
    · have hki : ¬ (k : Int) < (S.size : Int) := by omega
      have hd := rsync_any n hH2 g1
      obtain ⟨r2, hr2⟩ : ∃ r2, (m1.sync n).1 = r2 := ⟨_, rfl⟩
      obtain ⟨m2, hm2⟩ : ∃ m2, (m1.sync n).2 = m2 := ⟨_, rfl⟩
      have HW2 : Hid ((if r2 = 0 then ((0, rl), m2) else ((r2, []), m2)) = W) := by
        have := HW.out
        unfold behind at this
        rw [HSc.out, if_neg (show ¬ k < S.data.toList.length from hks), hr2, hm2] at this
        exact this
      have HR2 := Lib.hid hr2
      have HM2 := Lib.hid hm2
      have HD := Lib.hid hd
      clear hd hr2 hm2 HW
      go_wp2_with fail
      refine HD.out.mono ?_
      intro e w3 hd
      obtain ⟨rfl, h3, k3⟩ := DoneR.lit hd HR2 HM2
      have hR3 := HRD.out w3 k3
      have hK3 : Only (fun y => y = q) w w3 := hK2.trans k3
      clear hd k3 HD
      by_cases hr : r2 = 0
      · subst hr
        have hW := HW2.out
        rw [if_pos rfl] at hW
        clear HW2
        subst hW
        go_wp2
        go_ret3
        have hbn : Below w3.heap.size w3 (w3.alloc (.cells #[.pointer (some ⟨q, 0, none⟩), .int .i64 n] 142)) := (Below.refl _ _).alloc (Nat.le_refl _) _
        exact .inr ⟨rfl, _, A, c, rfl, heap_alloc_new w3 _, (hR3.below hbn).more hbn.size, RefAt.below h3 hbn, hK3.thenBelow hbn, hK3.size⟩
      · have hri : (r2 != 0) = true := bne_iff_ne.2 hr
        have hW := HW2.out
        rw [if_neg hr] at hW
        clear HW2
        subst hW
        go_wp2
        go_ret3
        exact .inl ⟨hr, rfl, h3, hK3⟩
  · have hri : (r1 != 0) = true := bne_iff_ne.2 hr
    have hW := HW0.out
    rw [if_neg hr] at hW
    clear HW0
    subst hW
    go_wp2
    go_ret3
    exact .inl ⟨hr, rfl, hH, hK⟩

set_option maxRecDepth 100000 in
set_option maxHeartbeats 2000000 in
theorem ropen_off (n : Int) (h : RefAt w q m) (g : Fine m) (hn : 0 ≤ n ∧ n < 16) (hoff : m.off = true) :
    Calls Tryz.prog 33 #[.pointer (some ⟨q, 0, none⟩), .int .i64 n] w (ROpened w q n (wopen m n)) := by
  have hr := rread_any n h g
  have e1 : m.read n = ([], 10) := by simp [M.read, hoff]
  rw [e1] at hr
  rw [wopen_off hn hoff]
  have HR := Lib.hid hr
  have h1 := hn.1
  have h2 : ¬ 15 < n := by omega
  clear hr e1
  go_enter Tryz.func33, Tryz.ntmps33
  go_wp2_with fail
  refine HR.out.mono ?_
  rintro e w1 ⟨rfl, hb1⟩
  go_wp2
  go_ret3
  exact .inl ⟨show (10 : Int) ≠ 0 by decide, rfl, RefAt.below h hb1, Only.of_below hb1⟩
theorem ropen_any (n : Int) (h : RefAt w q m) (g : Fine m) (hn : 0 ≤ n ∧ n < 16) :
    Calls Tryz.prog 33 #[.pointer (some ⟨q, 0, none⟩), .int .i64 n] w (ROpened w q n (wopen m n)) := by
  cases hoff : m.off with
  | true => exact ropen_off n h g hn hoff
  | false =>
    cases hhas : m.has n with
    | true => exact ropen_old n h g hn hoff hhas
    | false => exact ropen_new n h g hn hoff hhas

/-- A document's log and its disk. -/
structure RS2 (w : World) (b q : Nat) (n : Int) (m : M) (W : World) : Prop where
  log : RLogAt W b q n
  disk : RefAt W q m
  kept : Only (fun y => y = q) w W
theorem RS2.drew {W : World} (h : RS2 w b q n m W) : RS2 w b q n m W.drew := ⟨h.log, h.disk, Only.drew h.kept⟩
theorem RS2.next {W W' : World} (h : RS2 w b q n m W) (k : Below W.heap.size W W') : RS2 w b q n m W' := ⟨h.log.below k, RefAt.below h.disk k, h.kept.thenBelow k⟩
theorem rs_append {W : World} {m' : M} {r : Int} (s : ByteArray) (h : RS2 w b q n m W) (g : Fine m) (hb : b ≠ q) (hs : s.size ≤ 281474976710656) (hr : Hid ((m.append n s.data.toList).1 = r)) (hm : Hid ((m.append n s.data.toList).2 = m')) :
    Calls Tryz.prog 93 #[.pointer (some ⟨q, 0, none⟩), .int .i64 n, .string s] W fun e W' => e = .returned (.int .i64 r) ∧ RS2 w b q n m' W' := by
  refine (rappend_any n s h.disk g hs).mono ?_
  intro e W' hd
  obtain ⟨rfl, h1, k1⟩ := DoneR.lit hd hr hm
  exact ⟨rfl, h.log.only k1 hb, h1, h.kept.trans k1⟩
theorem rs_replace {W : World} {m' : M} {r : Int} (s : ByteArray) (h : RS2 w b q n m W) (g : Fine m) (hb : b ≠ q) (hs : s.size ≤ 281474976710656) (hr : Hid ((m.replace n s.data.toList).1 = r)) (hm : Hid ((m.replace n s.data.toList).2 = m')) :
    Calls Tryz.prog 23 #[.pointer (some ⟨q, 0, none⟩), .int .i64 n, .string s] W fun e W' => e = .returned (.int .i64 r) ∧ RS2 w b q n m' W' := by
  refine (rreplace_any n s h.disk g hs).mono ?_
  intro e W' hd
  obtain ⟨rfl, h1, k1⟩ := DoneR.lit hd hr hm
  exact ⟨rfl, h.log.only k1 hb, h1, h.kept.trans k1⟩
theorem rs_sync {W : World} {m' : M} {r : Int} (h : RS2 w b q n m W) (g : Fine m) (hb : b ≠ q) (hr : Hid ((m.sync n).1 = r)) (hm : Hid ((m.sync n).2 = m')) :
    Calls Tryz.prog 79 #[.pointer (some ⟨q, 0, none⟩), .int .i64 n] W fun e W' => e = .returned (.int .i64 r) ∧ RS2 w b q n m' W' := by
  refine (rsync_any n h.disk g).mono ?_
  intro e W' hd
  obtain ⟨rfl, h1, k1⟩ := DoneR.lit hd hr hm
  exact ⟨rfl, h.log.only k1 hb, h1, h.kept.trans k1⟩
/-- What the document's Append and Anew leave. -/
def RWrote (w : World) (b q : Nat) (n : Int) (r : Int × M) (e : Ending) (w' : World) : Prop := e = .returned (.int .i64 r.1) ∧ RS2 w b q n r.2 w'

set_option maxRecDepth 100000 in
set_option maxHeartbeats 4000000 in
theorem rappend_log (A : Option Addr) (k c : Nat) (l : List (List UInt8)) (hlog : RLogAt w b q n) (h : RefAt w q m) (g : Fine m) (hb : b ≠ q) (hl : RS w A k l) (hk : k ≤ 1000000) :
    Calls Tryz.prog 52 #[.pointer (some ⟨b, 0, none⟩), .slice A k c] w (RWrote w b q n (wappend m n l)) := by
  have hf := rframes_any A k c l w hl hk
  have hS0 : RS2 w b q n m w := ⟨hlog, h, Only.refl _ _⟩
  have hll := texts_len hl
  by_cases hr : Recs l
  · rw [framed_ok hr, decide_eq_true hr] at hf
    obtain ⟨S, hS⟩ : ∃ S, str (frames l) = S := ⟨_, rfl⟩
    have hSl : S.data.toList = frames l := by rw [← hS]; rfl
    have hSs : S.size ≤ 281474976710656 := by
      have := framed_le l hr
      rw [← size_list, hSl]
      omega
    obtain ⟨r1, hr1⟩ : ∃ r1, (m.append n S.data.toList).1 = r1 := ⟨_, rfl⟩
    obtain ⟨m1, hm1⟩ : ∃ m1, (m.append n S.data.toList).2 = m1 := ⟨_, rfl⟩
    have g1 : Fine m1 := by rw [← hm1]; exact g.append n _
    have hw : wappend m n l = if r1 = 0 then m1.sync n else (r1, m1) := by
      unfold wappend
      rw [if_pos hr, ← hSl, ← hr1, ← hm1]
    rw [hw]
    rw [show str (frames l, (0 : Int)).1 = S from hS] at hf
    have HF := Lib.hid hf
    have HR1 := Lib.hid hr1
    have HM1 := Lib.hid hm1
    clear hf hS hSl hr1 hm1 hw hr hll
    by_cases hz : r1 = 0
    · subst hz
      rw [if_pos rfl]
      obtain ⟨r2, hr2⟩ : ∃ r2, (m1.sync n).1 = r2 := ⟨_, rfl⟩
      obtain ⟨m2, hm2⟩ : ∃ m2, (m1.sync n).2 = m2 := ⟨_, rfl⟩
      have e : m1.sync n = (r2, m2) := by rw [← hr2, ← hm2]
      rw [e]
      have HR2 := Lib.hid hr2
      have HM2 := Lib.hid hm2
      clear hr2 hm2 e
      go_enter Tryz.func52, Tryz.ntmps52
      go_wp2_with fail
      refine HF.out.mono ?_
      rintro e w1 ⟨rfl, hb1⟩
      have hS1 := (hS0.next hb1).drew
      go_wp2_with fail
      go_region_held3 (fun w' => w'.cell? ⟨b, 0, none⟩ = some (.pointer (some ⟨q, 0, none⟩)) ∧ w'.cell? ⟨b, 1, none⟩ = some (.int .i64 n))
        (first | exact ⟨hS2.log.disk, hS2.log.file⟩ | exact ⟨hS1.log.disk, hS1.log.file⟩)
        ((go_at_call 93
          refine (rs_append S hS1 g hb hSs HR1 HM1).mono ?_
          rintro e w2 ⟨rfl, hS2⟩))
      all_goals
        have hS3 := hS2.drew
        go_wp2_with fail
        go_region_held3 (fun w' => w'.cell? ⟨b, 0, none⟩ = some (.pointer (some ⟨q, 0, none⟩)) ∧ w'.cell? ⟨b, 1, none⟩ = some (.int .i64 n))
          (first | exact ⟨hS4.log.disk, hS4.log.file⟩ | exact ⟨hS3.log.disk, hS3.log.file⟩)
          ((go_at_call 79
            refine (rs_sync hS3 g1 hb HR2 HM2).mono ?_
            rintro e w4 ⟨rfl, hS4⟩))
      all_goals go_wp2
      all_goals go_ret
      all_goals exact ⟨rfl, hS4⟩
    · rw [if_neg hz]
      have hzi : (r1 != 0) = true := bne_iff_ne.2 hz
      go_enter Tryz.func52, Tryz.ntmps52
      go_wp2_with fail
      refine HF.out.mono ?_
      rintro e w1 ⟨rfl, hb1⟩
      have hS1 := (hS0.next hb1).drew
      go_wp2_with fail
      go_region_held3 (fun w' => w'.cell? ⟨b, 0, none⟩ = some (.pointer (some ⟨q, 0, none⟩)) ∧ w'.cell? ⟨b, 1, none⟩ = some (.int .i64 n))
        (first | exact ⟨hS2.log.disk, hS2.log.file⟩ | exact ⟨hS1.log.disk, hS1.log.file⟩)
        ((go_at_call 93
          refine (rs_append S hS1 g hb hSs HR1 HM1).mono ?_
          rintro e w2 ⟨rfl, hS2⟩))
      all_goals go_wp2
      all_goals go_ret
      all_goals exact ⟨rfl, hS2⟩
  · rw [framed_long hr, decide_eq_false hr] at hf
    have hw : wappend m n l = (3, m) := if_neg hr
    rw [hw]
    have HF := Lib.hid hf
    clear hf hw hr
    go_enter Tryz.func52, Tryz.ntmps52
    go_wp2_with fail
    refine HF.out.mono ?_
    rintro e w1 ⟨rfl, hb1⟩
    have hS1 := hS0.next hb1
    go_wp2
    go_ret
    exact ⟨rfl, hS1⟩

set_option maxRecDepth 100000 in
set_option maxHeartbeats 4000000 in
theorem ranew_log (A : Option Addr) (k c : Nat) (l : List (List UInt8)) (hlog : RLogAt w b q n) (h : RefAt w q m) (g : Fine m) (hb : b ≠ q) (hl : RS w A k l) (hk : k ≤ 1000000) :
    Calls Tryz.prog 45 #[.pointer (some ⟨b, 0, none⟩), .slice A k c] w (RWrote w b q n (wanew m n l)) := by
  have hf := rframes_any A k c l w hl hk
  have hS0 : RS2 w b q n m w := ⟨hlog, h, Only.refl _ _⟩
  have hll := texts_len hl
  by_cases hr : Recs l
  · rw [framed_ok hr, decide_eq_true hr] at hf
    obtain ⟨S, hS⟩ : ∃ S, str (frames l) = S := ⟨_, rfl⟩
    have hSl : S.data.toList = frames l := by rw [← hS]; rfl
    have hSs : S.size ≤ 281474976710656 := by
      have := framed_le l hr
      rw [← size_list, hSl]
      omega
    obtain ⟨r1, hr1⟩ : ∃ r1, (m.replace n S.data.toList).1 = r1 := ⟨_, rfl⟩
    obtain ⟨m1, hm1⟩ : ∃ m1, (m.replace n S.data.toList).2 = m1 := ⟨_, rfl⟩
    have hw : wanew m n l = (r1, m1) := by
      unfold wanew
      rw [if_pos hr, ← hSl, ← hr1, ← hm1]
    rw [hw]
    rw [show str (frames l, (0 : Int)).1 = S from hS] at hf
    have HF := Lib.hid hf
    have HR1 := Lib.hid hr1
    have HM1 := Lib.hid hm1
    clear hf hS hSl hr1 hm1 hw hr hll
    go_enter Tryz.func45, Tryz.ntmps45
    go_wp2_with fail
    refine HF.out.mono ?_
    rintro e w1 ⟨rfl, hb1⟩
    have hS1 := (hS0.next hb1).drew
    go_wp2_with fail
    go_region_held3 (fun w' => w'.cell? ⟨b, 0, none⟩ = some (.pointer (some ⟨q, 0, none⟩)) ∧ w'.cell? ⟨b, 1, none⟩ = some (.int .i64 n))
      (first | exact ⟨hS2.log.disk, hS2.log.file⟩ | exact ⟨hS1.log.disk, hS1.log.file⟩)
      ((go_at_call 23
        refine (rs_replace S hS1 g hb hSs HR1 HM1).mono ?_
        rintro e w2 ⟨rfl, hS2⟩))
    all_goals go_wp2
    all_goals go_ret
    all_goals exact ⟨rfl, hS2⟩
  · rw [framed_long hr, decide_eq_false hr] at hf
    have hw : wanew m n l = (3, m) := if_neg hr
    rw [hw]
    have HF := Lib.hid hf
    clear hf hw hr
    go_enter Tryz.func45, Tryz.ntmps45
    go_wp2_with fail
    refine HF.out.mono ?_
    rintro e w1 ⟨rfl, hb1⟩
    have hS1 := hS0.next hb1
    go_wp2
    go_ret
    exact ⟨rfl, hS1⟩
end
end Go.Proofs.YtamncdpeklbhlaaGreatDoor.RLog
set_option linter.unusedVariables false
set_option linter.unusedSimpArgs false
namespace Go.Proofs.YtamncdpeklbhlaaGreatDoor.RSame
open Go.RowKit Go.Proofs.YtamncdpeklbhlaaGreatDoor.Kit Go.Proofs.YtamncdpeklbhlaaGreatDoor.Blocks Go.Proofs.YtamncdpeklbhlaaGreatDoor.Rlog Go.Proofs.YtamncdpeklbhlaaGreatDoor.Sto Go.Proofs.YtamncdpeklbhlaaGreatDoor.Sav Go.Proofs.YtamncdpeklbhlaaGreatDoor.Ents Go.Proofs.YtamncdpeklbhlaaGreatDoor.Hold Go.Proofs.YtamncdpeklbhlaaGreatDoor.RlgWalkB Go.Proofs.YtamncdpeklbhlaaGreatDoor.RlgWalkC

theorem neq_ents (a b c a' b' c' : Int) (d d' : ByteArray) : ∃ q : Bool, (∀ w, (binOp .neq 83 (.agg #[.int .u64 a, .int .u64 b, .int .i64 c, .string d]) (.agg #[.int .u64 a', .int .u64 b', .int .i64 c', .string d'])).run Tryz.prog w = .ok (.bool q) w) ∧ ((a = a' ∧ b = b' ∧ c = c' ∧ d = d') → q = false) := by
  by_cases h1 : a = a'
  · by_cases h2 : b = b'
    · by_cases h3 : c = c'
      · by_cases h4 : d.toList = d'.toList
        · exact ⟨false, fun w => by simp [binOp, Op.equal, Op.maxDepth, go_sem, h1, h2, h3, h4], fun _ => rfl⟩
        · exact ⟨true, fun w => by simp [binOp, Op.equal, Op.maxDepth, go_sem, h1, h2, h3, h4], fun h => absurd (by rw [h.2.2.2]) h4⟩
      · exact ⟨true, fun w => by simp [binOp, Op.equal, Op.maxDepth, go_sem, h1, h2, h3], fun h => absurd h.2.2.1 h3⟩
    · exact ⟨true, fun w => by simp [binOp, Op.equal, Op.maxDepth, go_sem, h1, h2], fun h => absurd h.2.1 h2⟩
  · exact ⟨true, fun w => by simp [binOp, Op.equal, Op.maxDepth, go_sem, h1], fun h => absurd h.1 h1⟩
theorem eql_snaps (a b c a' b' c' : Int) (d d' : ByteArray) : ∃ q : Bool, (∀ w, (binOp .eql 42 (.agg #[.int .u64 a, .int .u64 b, .int .u64 c, .string d]) (.agg #[.int .u64 a', .int .u64 b', .int .u64 c', .string d'])).run Tryz.prog w = .ok (.bool q) w) ∧ ((a = a' ∧ b = b' ∧ c = c' ∧ d = d') → q = true) := by
  by_cases h1 : a = a'
  · by_cases h2 : b = b'
    · by_cases h3 : c = c'
      · by_cases h4 : d.toList = d'.toList
        · exact ⟨true, fun w => by simp [binOp, Op.equal, Op.maxDepth, go_sem, h1, h2, h3, h4], fun _ => rfl⟩
        · exact ⟨false, fun w => by simp [binOp, Op.equal, Op.maxDepth, go_sem, h1, h2, h3, h4], fun h => absurd (by rw [h.2.2.2]) h4⟩
      · exact ⟨false, fun w => by simp [binOp, Op.equal, Op.maxDepth, go_sem, h1, h2, h3], fun h => absurd h.2.2.1 h3⟩
    · exact ⟨false, fun w => by simp [binOp, Op.equal, Op.maxDepth, go_sem, h1, h2], fun h => absurd h.2.1 h2⟩
  · exact ⟨false, fun w => by simp [binOp, Op.equal, Op.maxDepth, go_sem, h1], fun h => absurd h.1 h1⟩
theorem eql_hards (a b a' b' : Int) : ∃ q : Bool, (∀ w, (binOp .eql 40 (.agg #[.int .u64 a, .int .i64 b]) (.agg #[.int .u64 a', .int .i64 b'])).run Tryz.prog w = .ok (.bool q) w) ∧ ((a = a' ∧ b = b') → q = true) := by
  by_cases h1 : a = a'
  · by_cases h2 : b = b'
    · exact ⟨true, fun w => by simp [binOp, Op.equal, Op.maxDepth, go_sem, h1, h2], fun _ => rfl⟩
    · exact ⟨false, fun w => by simp [binOp, Op.equal, Op.maxDepth, go_sem, h1, h2], fun h => absurd h.2 h2⟩
  · exact ⟨false, fun w => by simp [binOp, Op.equal, Op.maxDepth, go_sem, h1], fun h => absurd h.1 h1⟩

/-- What a test of two answers: it says yes of the same. -/
def Says (P : Prop) (w : World) (e : Ending) (w' : World) : Prop := ∃ q : Bool, e = .returned (.bool q) ∧ (P → q = true) ∧ Below w.heap.size w w'
set_option maxRecDepth 100000 in
set_option maxHeartbeats 1000000 in
theorem same_ents {w : World} {A C : Option Addr} {n m ca cc : Nat} {l r : List Ent} (ha : RE w w.heap.size A n l) (hc : RE w w.heap.size C m r) (h63 : n ≤ 9223372036854775807) (h64 : m ≤ 9223372036854775807) :
    Calls Tryz.prog 80 #[.slice A n ca, .slice C m cc] w (Says (l = r) w) := by
  have hn := RE.len ha
  have hm := RE.len hc
  by_cases hnm : n = m
  · subst hnm
    have HNN : (n != n) = false := by simp
    have HNI : ((n : Int) != (n : Int)) = false := by simp
    clear hn hm
    go_enter Tryz.func80, Tryz.ntmps80
    go_wp2_with fail
    go_loopw [5] (fun x wr => ∃ k : Nat, k ≤ n ∧ x = .int .i64 (k : Int) ∧ Below w.heap.size w wr) (fun x _ => n - (intOf x).toNat)
    case atStart => exact ⟨0, by omega, rfl, Below.refl _ _⟩
    case round =>
      obtain ⟨k, hk, rfl, hbel⟩ := hrel
      by_cases hkn : k < n
      · obtain ⟨b, o, e, rfl, hbl, he, hfour⟩ := RE.at_ ha hkn
        obtain ⟨b', o', e', rfl, hbl', he', hfour'⟩ := RE.at_ hc hkn
        have hfr := Four.below hfour hbel hbl
        have hfr' := Four.below hfour' hbel hbl'
        have c0 := hfr.c0
        have c1 := hfr.c1
        have c2 := hfr.c2
        have c3 := hfr.c3
        have d0 := hfr'.c0
        have d1 := hfr'.c1
        have d2 := hfr'.c2
        have d3 := hfr'.c3
        obtain ⟨q, hneq, hq⟩ := neq_ents (e.term : Int) (e.idx : Int) e.kind (e'.term : Int) (e'.idx : Int) e'.kind e.data e'.data
        have HQ : Hid (l = r → q = false) := fun h => by
          subst h
          rw [he] at he'
          cases he'
          exact hq ⟨rfl, rfl, rfl, rfl⟩
        obtain ⟨tm, ix, kd, d⟩ := e
        obtain ⟨tm', ix', kd', d'⟩ := e'
        simp only at c0 c1 c2 c3 d0 d1 d2 d3 hneq
        clear hfr hfr' hfour hfour' he he' ha hc hq
        go_wp2_with fail
        go_quiet (fail)
        have hbq := below_drewN hbel nq
        cases q with
        | false =>
          go_wp2
          go_roundw
          case rel => exact ⟨k + 1, by omega, by go_num, hbq⟩
          case measure => simp [intOf]; omega
        | true =>
          go_wp2
          go_ret
          exact ⟨false, rfl, (fun h => by have := HQ.out h; cases this), hbq⟩
      · obtain rfl : k = n := by omega
        go_wp2
        go_ret
        exact ⟨true, rfl, fun _ => rfl, hbel⟩
  · have hne : (n != m) = true := bne_iff_ne.2 hnm
    have hni : ((n : Int) != (m : Int)) = true := bne_iff_ne.2 (by omega)
    have HNE : Hid (l = r → False) := fun h => hnm (by rw [← hn, ← hm, h])
    clear hn hm ha hc
    go_enter Tryz.func80, Tryz.ntmps80
    go_wp2
    go_ret
    exact ⟨false, rfl, fun h => (HNE.out h).elim, Below.refl _ _⟩

set_option maxRecDepth 100000 in
set_option maxHeartbeats 2000000 in
theorem rsame_any {w : World} {A C : Option Addr} {n m ca cc : Nat} (a b : Sta) (ha : RE w w.heap.size A n a.es) (hc : RE w w.heap.size C m b.es) (h63 : n ≤ 9223372036854775807) (h64 : m ≤ 9223372036854775807) :
    Calls Tryz.prog 35 #[staV a A n ca, staV b C m cc] w (Says (a = b) w) := by
  obtain ⟨q1, hq1, hp1⟩ := eql_hards (a.term : Int) a.vote (b.term : Int) b.vote
  obtain ⟨q2, hq2, hp2⟩ := eql_snaps (a.snap.idx : Int) (a.snap.term : Int) (a.snap.cfg : Int) (b.snap.idx : Int) (b.snap.term : Int) (b.snap.cfg : Int) a.snap.data b.snap.data
  have HP : Hid (a = b → (q1 = true ∧ q2 = true) ∧ a.es = b.es) := fun h => by
    subst h
    exact ⟨⟨hp1 ⟨rfl, rfl⟩, hp2 ⟨rfl, rfl, rfl, rfl⟩⟩, rfl⟩
  revert HP
  generalize (a = b) = P
  intro HP
  have hb1 : Below w.heap.size w ((w.alloc (.cells #[.int .u64 (a.term : Int), .int .i64 a.vote, .int .u64 (a.snap.idx : Int), .int .u64 (a.snap.term : Int), .int .u64 (a.snap.cfg : Int), .string a.snap.data, .slice A n ca] 53)).alloc (.cells #[.int .u64 (b.term : Int), .int .i64 b.vote, .int .u64 (b.snap.idx : Int), .int .u64 (b.snap.term : Int), .int .u64 (b.snap.cfg : Int), .string b.snap.data, .slice C m cc] 53)) := ((Below.refl _ _).alloc (Nat.le_refl _) _).alloc (by simp) _
  obtain ⟨w0, hw0⟩ : ∃ w0, (w.alloc (.cells #[.int .u64 (a.term : Int), .int .i64 a.vote, .int .u64 (a.snap.idx : Int), .int .u64 (a.snap.term : Int), .int .u64 (a.snap.cfg : Int), .string a.snap.data, .slice A n ca] 53)).alloc (.cells #[.int .u64 (b.term : Int), .int .i64 b.vote, .int .u64 (b.snap.idx : Int), .int .u64 (b.snap.term : Int), .int .u64 (b.snap.cfg : Int), .string b.snap.data, .slice C m cc] 53) = w0 := ⟨_, rfl⟩
  rw [hw0] at hb1
  have hse := same_ents (ca := ca) (cc := cc) ((Kit.Reads.below ha hb1).more hb1.size) ((Kit.Reads.below hc hb1).more hb1.size) h63 h64
  have HSE := Lib.hid hse
  have HW0 := Lib.hid hw0
  unfold staV
  obtain ⟨tm, vt, ⟨ix, st, cf, d⟩, es⟩ := a
  obtain ⟨tm', vt', ⟨ix', st', cf', d'⟩, es'⟩ := b
  simp only at *
  clear hse hw0 ha hc hp1 hp2
  cases q1 with
  | false =>
    go_enter Tryz.func35, Tryz.ntmps35
    go_wp2_with fail
    rw [HW0.out]
    go_ret
    exact ⟨false, rfl, (fun h => by have := (HP.out h).1.1; cases this), hb1⟩
  | true =>
    cases q2 with
    | false =>
      go_enter Tryz.func35, Tryz.ntmps35
      go_wp2_with fail
      rw [HW0.out]
      go_ret
      exact ⟨false, rfl, (fun h => by have := (HP.out h).1.2; cases this), hb1⟩
    | true =>
      go_enter Tryz.func35, Tryz.ntmps35
      go_wp2_with fail
      rw [HW0.out]
      refine HSE.out.mono ?_
      rintro e w1 ⟨q, rfl, hq, hb2⟩
      go_wp2
      go_ret
      exact ⟨q, rfl, (fun h => hq (HP.out h).2), hb1.trans (hb2.mono hb1.size)⟩
set_option maxRecDepth 100000 in
set_option maxHeartbeats 2000000 in
theorem same_any {w : World} {A C : Option Addr} {n m ca cc : Nat} (a b : Sta) (ha : RE w w.heap.size A n a.es) (hc : RE w w.heap.size C m b.es) (h63 : n ≤ 9223372036854775807) (h64 : m ≤ 9223372036854775807) :
    Calls Tryz.prog 13 #[staV a A n ca, staV b C m cc] w (Says (a = b) w) := by
  have hb1 : Below w.heap.size w ((w.alloc (.cells #[.int .u64 (a.term : Int), .int .i64 a.vote, .int .u64 (a.snap.idx : Int), .int .u64 (a.snap.term : Int), .int .u64 (a.snap.cfg : Int), .string a.snap.data, .slice A n ca] 45)).alloc (.cells #[.int .u64 (b.term : Int), .int .i64 b.vote, .int .u64 (b.snap.idx : Int), .int .u64 (b.snap.term : Int), .int .u64 (b.snap.cfg : Int), .string b.snap.data, .slice C m cc] 53)) := ((Below.refl _ _).alloc (Nat.le_refl _) _).alloc (by simp) _
  obtain ⟨w0, hw0⟩ : ∃ w0, (w.alloc (.cells #[.int .u64 (a.term : Int), .int .i64 a.vote, .int .u64 (a.snap.idx : Int), .int .u64 (a.snap.term : Int), .int .u64 (a.snap.cfg : Int), .string a.snap.data, .slice A n ca] 45)).alloc (.cells #[.int .u64 (b.term : Int), .int .i64 b.vote, .int .u64 (b.snap.idx : Int), .int .u64 (b.snap.term : Int), .int .u64 (b.snap.cfg : Int), .string b.snap.data, .slice C m cc] 53) = w0 := ⟨_, rfl⟩
  rw [hw0] at hb1
  have hse := rsame_any (ca := ca) (cc := cc) a b ((Kit.Reads.below ha hb1).more hb1.size) ((Kit.Reads.below hc hb1).more hb1.size) h63 h64
  have HSE := Lib.hid hse
  have HW0 := Lib.hid hw0
  unfold staV at HSE ⊢
  clear hse hw0 ha hc
  go_enter Tryz.func13, Tryz.ntmps13
  go_wp2_with fail
  rw [HW0.out]
  refine HSE.out.mono ?_
  rintro e w1 ⟨q, rfl, hq, hb2⟩
  go_wp2
  go_ret
  exact ⟨q, rfl, hq, hb1.trans (hb2.mono hb1.size)⟩
end Go.Proofs.YtamncdpeklbhlaaGreatDoor.RSame
