/- What the program's New leaves, walked. -/
import Derived.Test.YtdbmpfongfiagaaRlgWalkC
import Derived.Test.YtdbmpfongfiagaaApp
import Derived.BigRegion
set_option linter.unusedVariables false
namespace Go.Proofs.Ytdbmpfongfiagaa.RlgWalkD
open Go.RowKit Go.Proofs.Ytdbmpfongfiagaa.Kit Go.Proofs.Ytdbmpfongfiagaa.Blocks Go.Proofs.Ytdbmpfongfiagaa.Rlog Go.Proofs.Ytdbmpfongfiagaa.Ents Go.Proofs.Ytdbmpfongfiagaa.LogAt Go.Proofs.Ytdbmpfongfiagaa.App Go.Proofs.Ytdbmpfongfiagaa.RlgWalkA Go.Proofs.Ytdbmpfongfiagaa.RlgWalkB Go.Proofs.Ytdbmpfongfiagaa.RlgWalkC
open Go.Proofs.Ytdbmpfongfiagaa.Quorum (sound)

/-- What a snapshot by value is. -/
def snapV (s : Snap) : Value := .agg #[.int .u64 (s.idx : Int), .int .u64 (s.term : Int), .int .u64 (s.cfg : Int), .string s.data]
/-- A refusal of New. -/
def NoLog (w : World) (e : Ending) (w' : World) : Prop := e = .returned (.tuple #[.pointer none, .int .i64 1]) ∧ Below w.heap.size w w'
/-- A new log. -/
def NewLog (T : TypeId) (w : World) (g : G) (e : Ending) (w' : World) : Prop :=
  ∃ p v, e = .returned (.tuple #[.pointer (some ⟨p, 0, none⟩), .int .i64 0]) ∧ LogAt T w.heap.size w' p v g ∧ Below w.heap.size w w'

/-- A block is laid for a new log, its entries' row lying already. -/
theorem new_log {T : TypeId} {w w2 w3 : World} {n c' : Nat} {A' : Option Addr} {l : List Ent} {ix tm cf : Nat} {d : ByteArray} (hB : Below w.heap.size w w2) (hb : Below w2.drew.heap.size w2.drew w3)
    (hown : w3.ownsRow w.heap.size 57 4 (.slice A' n c') n (ecells l)) (HN : Hid (l.length = n)) :
    LogAt T w.heap.size (w3.alloc (.cells #[.int .u64 (ix : Int), .int .u64 (tm : Int), .int .u64 (cf : Int), .string d, .slice A' n c'] T)) w3.heap.size (.slice A' n c') ⟨⟨ix, tm, cf, d⟩, l⟩ ∧
      Below w.heap.size w (w3.alloc (.cells #[.int .u64 (ix : Int), .int .u64 (tm : Int), .int .u64 (cf : Int), .string d, .slice A' n c'] T)) := by
  have hB3 : Below w.heap.size w w3 := hB.drew.trans (hb.mono hB.size)
  have hn := HN.out
  subst hn
  refine ⟨⟨hB3.size, heap_alloc_new w3 _, (Only.refl (fun _ => False) w3 |>.alloc _).own hown (by simp), fun e => ?_⟩, hB3.alloc hB3.size _⟩
  have := (hown.lt _ e).2
  omega

section
variable {s : Snap} (hs : SnapB s) (A : Option Addr) (n c : Nat) (l : List Ent) (w : World) (hr : RE w w.heap.size A n l) (hb : ∀ e ∈ l, EntB e)
include hs hr hb

omit hr hb in
set_option maxRecDepth 100000 in
theorem new_mad (h : sound s.cfg = false) : Calls Try.prog 6 #[snapV s, .slice A n c] w (NoLog w) := by
  have hcf := hs.cfg
  obtain ⟨ix, tm, cf, d⟩ := s
  simp only at *
  have HS := Lib.hid h
  clear h hs
  have hba : Below w.heap.size w (w.alloc (.cells #[.int .u64 (ix : Int), .int .u64 (tm : Int), .int .u64 (cf : Int), .string d] 26)) := (Below.refl _ _).alloc (Nat.le_refl _) _
  unfold snapV
  go_enter Try.func6, Try.ntmps6
  go_wp2_with fail
  refine (sound_hid hcf HS _).mono ?_
  rintro e w1 ⟨rfl, rfl⟩
  go_wp2
  go_ret2
  exact ⟨rfl, hba⟩
set_option maxRecDepth 100000 in
theorem new_loose (h63 : n ≤ 9223372036854775807) (h : sound s.cfg = true) (h2 : chained l s.idx s.term = false) : Calls Try.prog 6 #[snapV s, .slice A n c] w (NoLog w) := by
  have hcf := hs.cfg
  obtain ⟨ix, tm, cf, d⟩ := s
  simp only at *
  have HS := Lib.hid h
  clear h hs
  have hba : Below w.heap.size w (w.alloc (.cells #[.int .u64 (ix : Int), .int .u64 (tm : Int), .int .u64 (cf : Int), .string d] 26)) := (Below.refl _ _).alloc (Nat.le_refl _) _
  have hch := chained_any A n c l ix tm _ ((Kit.Reads.below hr hba).more hba.size) hb h63
  rw [h2] at hch
  have HCh := Lib.hid hch
  clear hch h2
  unfold snapV
  go_enter Try.func6, Try.ntmps6
  go_wp2_with fail
  refine (sound_hid hcf HS _).mono ?_
  rintro e w1 ⟨rfl, rfl⟩
  go_wp2_with fail
  refine HCh.out.mono ?_
  rintro e w2 ⟨rfl, hb2⟩
  go_wp2
  go_ret2
  exact ⟨rfl, hba.trans (hb2.mono hba.size)⟩
set_option maxRecDepth 100000 in
set_option maxHeartbeats 1000000 in

theorem new_made (h63 : n * 40 ≤ 140737488355328) (h : sound s.cfg = true) (h2 : chained l s.idx s.term = true) : Calls Try.prog 6 #[snapV s, .slice A n c] w (NewLog 61 w ⟨s, l⟩) := by
  have hn := RE.len hr
  have HN := Lib.hid hn
  have hcf := hs.cfg
  obtain ⟨ix, tm, cf, d⟩ := s
  simp only at *
  have HS := Lib.hid h
  clear h hs hn
  have hba : Below w.heap.size w (w.alloc (.cells #[.int .u64 (ix : Int), .int .u64 (tm : Int), .int .u64 (cf : Int), .string d] 26)) := (Below.refl _ _).alloc (Nat.le_refl _) _
  have hcb := heap_alloc_new w (.cells #[.int .u64 (ix : Int), .int .u64 (tm : Int), .int .u64 (cf : Int), .string d] 26)
  have hpl : w.heap.size < (w.alloc (.cells #[.int .u64 (ix : Int), .int .u64 (tm : Int), .int .u64 (cf : Int), .string d] 26)).heap.size := by simp
  have hra := (Kit.Reads.below hr hba).more hba.size
  have hch := chained_any A n c l ix tm _ hra hb (by omega)
  rw [h2] at hch
  have HCh := Lib.hid hch
  have HCB := Lib.hid hcb
  clear hch h2 hcb
  unfold snapV
  go_enter Try.func6, Try.ntmps6
  go_wp2_with fail
  refine (sound_hid hcf HS _).mono ?_
  rintro e w1 ⟨rfl, rfl⟩
  go_wp2_with fail
  refine HCh.out.mono ?_
  rintro e w2 ⟨rfl, hb2⟩
  have hB2 := hba.trans (hb2.mono hba.size)
  have hc2 := (hb2.block _ hpl).trans HCB.out
  have c0 : w2.cell? ⟨w.heap.size, 0, none⟩ = some (.int .u64 (ix : Int)) := by rw [cell_at hc2]; rfl
  have c1 : w2.cell? ⟨w.heap.size, 1, none⟩ = some (.int .u64 (tm : Int)) := by rw [cell_at hc2]; rfl
  have c2 : w2.cell? ⟨w.heap.size, 2, none⟩ = some (.int .u64 (cf : Int)) := by rw [cell_at hc2]; rfl
  have c3 : w2.cell? ⟨w.heap.size, 3, none⟩ = some (.string d) := by rw [cell_at hc2]; rfl
  have hlt2 := lt_at hc2
  have hr2 : RE w2 w.heap.size A n l := Kit.Reads.below hr hB2
  go_wp2_with fail
  go_region_law (first
    | (refine step_new _ rfl _ _ rfl w.heap.size rfl rfl (Reads.drew hr2) (ecells_one l) h63 hB2.size ?_
       intro A' c' w3 hown3 hb3 hat3
       have d0 : w3.cell? ⟨w.heap.size, 0, none⟩ = some (.int .u64 (ix : Int)) := (hb3.cell (p := ⟨w.heap.size, 0, none⟩) hlt2).trans c0
       have d1 : w3.cell? ⟨w.heap.size, 1, none⟩ = some (.int .u64 (tm : Int)) := (hb3.cell (p := ⟨w.heap.size, 1, none⟩) hlt2).trans c1
       have d2 : w3.cell? ⟨w.heap.size, 2, none⟩ = some (.int .u64 (cf : Int)) := (hb3.cell (p := ⟨w.heap.size, 2, none⟩) hlt2).trans c2
       have d3 : w3.cell? ⟨w.heap.size, 3, none⟩ = some (.string d) := (hb3.cell (p := ⟨w.heap.size, 3, none⟩) hlt2).trans c3))
  all_goals
    have HL := Lib.hid (new_log (T := 61) (ix := ix) (tm := tm) (cf := cf) (d := d) hB2 hb3 hown3 HN)
    clear hown3 hat3 hb3 hB2
    go_wp2
    go_ret2
    exact ⟨_, _, rfl, HL.out.1, HL.out.2⟩
end
end Go.Proofs.Ytdbmpfongfiagaa.RlgWalkD
