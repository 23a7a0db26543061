/- What the small calls of a disk leave, walked: isFile, Off, step, Fuel, put. -/
import Derived.Test.YtamncdpeklbhlaaGreatDoorRows
import Derived.Test.YtamncdpeklbhlaaGreatDoorDisk
import Derived.Deep.RegionLaw
import Derived.Deep.QuietTactic
import Derived.BigQuiet
import Derived.BigRegion
import Derived.WalkKit
import Derived.WalkSpells
import Derived.IntWalk
import Derived.WalkLawsBesides
import Derived.LoopTactic
import Derived.Outline
namespace Go.Proofs.YtamncdpeklbhlaaGreatDoor.DskWalkA
open Go.RowKit Go.Proofs.YtamncdpeklbhlaaGreatDoor.Kit Go.Proofs.YtamncdpeklbhlaaGreatDoor.Blocks Go.Proofs.YtamncdpeklbhlaaGreatDoor.Keys Go.Proofs.YtamncdpeklbhlaaGreatDoor.Model Go.Proofs.YtamncdpeklbhlaaGreatDoor.Disk

theorem only_set (w : World) (p i : Nat) (u : Value) : Only (fun q => q = p) w (w.setCell ⟨p, i, none⟩ u) := (Only.refl (fun q => q = p) w).setCell (a := ⟨p, i, none⟩) (.inr rfl) u
/-- The disk m'; its own block alone is written. -/
def Turned (w : World) (p N : Nat) (m' : M) (A : Nat → Option Addr) (c : Nat → Nat) (mb : Option Nat) (e : Option Nat) (w' : World) : Prop := ∃ x', DV w' p N m' A c mb x' e ∧ Only (fun q => q = p) w w'

set_option maxRecDepth 100000 in
theorem file_yes (n : Int) (w : World) (h : 0 ≤ n ∧ n < 16) : Calls Tryz.prog 57 #[.int .i64 n] w fun e w' => e = .returned (.bool true) ∧ w = w' := by
  obtain ⟨h0, h1⟩ := h
  go_enter Tryz.func57, Tryz.ntmps57
  go_wp2
  go_ret
  exact ⟨rfl, rfl⟩
set_option maxRecDepth 100000 in
theorem file_no (n : Int) (w : World) (h : ¬ (0 ≤ n ∧ n < 16)) : Calls Tryz.prog 57 #[.int .i64 n] w fun e w' => e = .returned (.bool false) ∧ w = w' := by
  by_cases h0 : 0 ≤ n
  · have h1 : ¬ n < 16 := fun h1 => h ⟨h0, h1⟩
    clear h
    go_enter Tryz.func57, Tryz.ntmps57
    go_wp2
    go_ret
    exact ⟨rfl, rfl⟩
  · clear h
    go_enter Tryz.func57, Tryz.ntmps57
    go_wp2
    go_ret
    exact ⟨rfl, rfl⟩

set_option maxRecDepth 100000 in
theorem off_nil (w : World) : Calls Tryz.prog 58 #[.pointer none] w fun e w' => e = .returned (.bool true) ∧ w = w' := by
  go_enter Tryz.func58, Tryz.ntmps58
  go_wp2
  go_ret
  exact ⟨rfl, rfl⟩

section
variable {w : World} {p N : Nat} {m : M} {A : Nat → Option Addr} {c : Nat → Nat} {mb : Option Nat} {x : Int} {e : Option Nat}
set_option maxRecDepth 100000 in
theorem off_any (h : DV w p N m A c mb x e) : Calls Tryz.prog 58 #[.pointer (some ⟨p, 0, none⟩)] w fun e w' => e = .returned (.bool m.off) ∧ w = w' := by
  have hc := h.c2
  go_enter Tryz.func58, Tryz.ntmps58
  go_wp2
  go_ret
  exact ⟨rfl, rfl⟩
theorem off_hid (b : Bool) (h : DV w p N m A c mb x e) (hb : Hid (m.off = b)) : Calls Tryz.prog 58 #[.pointer (some ⟨p, 0, none⟩)] w fun e w' => e = .returned (.bool b) ∧ w = w' := by
  have := off_any h
  rwa [hb.out] at this

set_option maxRecDepth 100000 in
/-- A step without fuel. -/
theorem step_dry (h : DV w p N m A c mb x e) (hf : m.fuel = 0) : Calls Tryz.prog 60 #[.pointer (some ⟨p, 0, none⟩)] w fun r w' => r = .returned (.bool false) ∧ Turned w p N m.dead A c mb e w' := by
  have hc := h.c1
  have hfr := free_at h.cell 2
  have hlt := h.lt
  obtain rfl : x = 0 := by have := h.fuel; omega
  have hc2 := h.c2
  have hset := set_at h.cell (i := 2) (.bool true)
  have H := Lib.hid hset
  clear hset
  go_enter Tryz.func60, Tryz.ntmps60
  go_wp2
  go_ret
  refine ⟨rfl, 0, ?_, only_set w p _ _⟩
  exact h.turned H.out (only_set w p _ _) hf h.lo h.hi rfl rfl rfl
set_option maxRecDepth 100000 in
/-- A step with fuel. -/
theorem step_wet (h : DV w p N m A c mb x e) (hf : m.fuel ≠ 0) : Calls Tryz.prog 60 #[.pointer (some ⟨p, 0, none⟩)] w fun r w' => r = .returned (.bool true) ∧ Turned w p N m.burnt A c mb e w' := by
  have hc := h.c1
  have hfr := free_at h.cell 1
  have hlt := h.lt
  have hx0 : ¬ x = 0 := by have := h.fuel; omega
  have hxb : (x == 0) = false := by simpa using hx0
  have hlo := h.lo
  have hhi := h.hi
  have hfu := h.fuel
  have hset := set_at h.cell (i := 1) (.int .i64 (x - 1))
  have H := Lib.hid hset
  have HF := Lib.hid hfu
  clear hset hfu hf
  by_cases hp : 0 < x
  · go_enter Tryz.func60, Tryz.ntmps60
    go_wp2
    go_ret
    refine ⟨rfl, x - 1, ?_, only_set w p _ _⟩
    have hfu := HF.out
    refine h.turned H.out (only_set w p _ _) ?_ (by omega) (by omega) rfl rfl rfl
    simp only [M.burnt]
    rw [if_pos (by omega)]
    omega
  · go_enter Tryz.func60, Tryz.ntmps60
    go_wp2
    go_ret
    refine ⟨rfl, x, ?_, Only.refl _ w⟩
    have hfu := HF.out
    refine h.turned h.cell (Only.refl _ w) ?_ hlo hhi rfl rfl rfl
    simp only [M.burnt]
    rw [if_neg (by omega)]
    omega
set_option maxRecDepth 100000 in
theorem fuel_any (n : Int) (h : DV w p N m A c mb x e) (h0 : -9223372036854775808 ≤ n) (h1 : n ≤ 9223372036854775807) : Calls Tryz.prog 10 #[.pointer (some ⟨p, 0, none⟩), .int .i64 n] w fun r w' => r = .returned (.tuple #[]) ∧ DV w' p N (m.fuelled n) A c mb n e ∧ Only (fun q => q = p) w w' := by
  have hc := h.c1
  have hfr := free_at h.cell 1
  have hlt := h.lt
  have hset := set_at h.cell (i := 1) (.int .i64 n)
  have H := Lib.hid hset
  clear hset
  go_enter Tryz.func10, Tryz.ntmps10
  go_wp2
  go_end0
  refine ⟨rfl, ?_, only_set w p _ _⟩
  exact h.turned H.out (only_set w p _ _) rfl h0 h1 rfl rfl rfl
end
set_option maxRecDepth 100000 in
theorem fuel_nil (n : Int) (w : World) : Calls Tryz.prog 10 #[.pointer none, .int .i64 n] w fun r w' => r = .returned (.tuple #[]) ∧ w = w' := by
  go_enter Tryz.func10, Tryz.ntmps10
  go_wp2
  go_end0
  exact ⟨rfl, rfl⟩
end Go.Proofs.YtamncdpeklbhlaaGreatDoor.DskWalkA
