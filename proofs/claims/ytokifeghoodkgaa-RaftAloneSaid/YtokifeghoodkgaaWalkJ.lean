/- What the program's New leaves, walked. -/
import Derived.Test.YtokifeghoodkgaaWalkI
set_option linter.unusedVariables false
namespace Go.Proofs.Ytokifeghoodkgaa.WalkJ
open Go.RowKit Go.Proofs.Ytokifeghoodkgaa.Kit Go.Proofs.Ytokifeghoodkgaa.Blocks Go.Proofs.Ytokifeghoodkgaa.Rlog Go.Proofs.Ytokifeghoodkgaa.Ents Go.Proofs.Ytokifeghoodkgaa.LogAt Go.Proofs.Ytokifeghoodkgaa.Nod Go.Proofs.Ytokifeghoodkgaa.NodAt Go.Proofs.Ytokifeghoodkgaa.AppL Go.Proofs.Ytokifeghoodkgaa.WalkA Go.Proofs.Ytokifeghoodkgaa.WalkB
open Go.Proofs.Ytokifeghoodkgaa.Told (unums)
open Go.Proofs.Ytokifeghoodkgaa.Quorum (mem size need sound maj node has turn change)

def voteOk (v : Int) : Bool := decide (v = -1) || node v
def lastOk (t : Nat) (g : G) : Bool := decide ((last g).2 ≤ t) && decide ((last g).1 ≤ 9223372036854775808)
def newNd (i t : Nat) (v : Int) (g : G) : Nd := ⟨i, t, v, g, 0, -1, g.snap.idx, 0, zeros, zeros, [], false, [], false⟩
theorem newNd_b {i t N : Nat} {v : Int} {g : G} (hi : i < 7) (ht : t < 18446744073709551616) (hv : voteOk v = true) (hl : lastOk t g = true) (f : Fine g) (hN : g.es.length ≤ N) : NdB N (newNd i t v g) := by
  unfold voteOk at hv
  unfold lastOk at hl
  simp only [Bool.or_eq_true, Bool.and_eq_true, decide_eq_true_eq] at hv hl
  have hli := f.last_idx
  have hv2 : -1 ≤ v ∧ v < 7 := by
    rcases hv with rfl | h
    · decide
    · have := node_lt h; omega
  exact ⟨hi, ht, hv2.1, hv2.2, f, hN, Nat.zero_le _, Nat.zero_le _, by show (last g).1 ≤ _; omega, by show g.snap.idx < _; omega, by show 0 < 128; decide, Nat.zero_le _, by show (-1 : Int) ≤ -1; decide, by show (-1 : Int) < 7; decide, rfl, by show ∀ x ∈ zeros, _; decide, rfl, zeros_b, List.Pairwise.nil, fun _ => ⟨rfl, rfl⟩⟩
/-- No node. -/
def NoNode (w : World) (e : Ending) (w' : World) : Prop := e = .returned (.tuple #[.pointer none, .int .i64 1]) ∧ Below w.heap.size w w'
section
variable {B q : Nat} {v : Value} {g : G} {w : World}
theorem hbox (t : Nat) (vt : Int) (w : World) : Below w.heap.size w (w.alloc (.cells #[.int .u64 (t : Int), .int .i64 vt] 35)) := (Below.refl _ _).alloc (Nat.le_refl _) _
theorem new_id (i : Int) (t : Nat) (vt : Int) (Q : Option Addr) (hi : node i = false) (w : World) : Calls Try.prog 7 #[.int .i64 i, .agg #[.int .u64 (t : Int), .int .i64 vt], .pointer Q] w (NoNode w) := by
  have hn := fun W => node_hid (Lib.hid hi) W
  have HN := Lib.hid hn
  have HB := Lib.hid (hbox t vt w)
  clear hn hi
  go_enter Try.func7, Try.ntmps7
  go_wp2_with fail
  with_reducible refine (HN.out _).mono ?_
  rintro e w1 ⟨rfl, rfl⟩
  go_wp2
  go_ret2
  exact ⟨rfl, HB.out⟩
theorem new_none (i : Int) (t : Nat) (vt : Int) (w : World) : Calls Try.prog 7 #[.int .i64 i, .agg #[.int .u64 (t : Int), .int .i64 vt], .pointer none] w (NoNode w) := by
  cases hi : node i with
  | false => exact new_id i t vt none hi w
  | true =>
    have hn := fun W => node_hid (Lib.hid hi) W
    have HN := Lib.hid hn
    have HB := Lib.hid (hbox t vt w)
    clear hn hi
    go_enter Try.func7, Try.ntmps7
    go_wp2_with fail
    with_reducible refine (HN.out _).mono ?_
    rintro e w1 ⟨rfl, rfl⟩
    go_wp2
    go_ret2
    exact ⟨rfl, HB.out⟩
theorem new_vote (i : Int) (t : Nat) (vt : Int) (hi : node i = true) (hv : voteOk vt = false) (w : World) : Calls Try.prog 7 #[.int .i64 i, .agg #[.int .u64 (t : Int), .int .i64 vt], .pointer (some ⟨q, 0, none⟩)] w (NoNode w) := by
  have hn := fun W => node_hid (Lib.hid hi) W
  have HN := Lib.hid hn
  have HB := Lib.hid (hbox t vt w)
  unfold voteOk at hv
  simp only [Bool.or_eq_false_iff, decide_eq_false_iff_not] at hv
  have hne : (vt != -1) = true := by simpa using hv.1
  have hm := fun W => node_hid (Lib.hid hv.2) W
  have HM := Lib.hid hm
  clear hn hi hv hm
  go_enter Try.func7, Try.ntmps7
  go_wp2_with fail
  with_reducible refine (HN.out _).mono ?_
  rintro e w1 ⟨rfl, rfl⟩
  go_wp2_with fail
  with_reducible refine (HM.out _).mono ?_
  rintro e w1 ⟨rfl, rfl⟩
  go_wp2
  go_ret2
  exact ⟨rfl, HB.out⟩
theorem new_lastA (h : LogAt 63 B w q v g) (f : Fine g) (i : Int) (t : Nat) (vt : Int) (hi : node i = true) (hv : vt = -1) (hl : lastOk t g = false) : Calls Try.prog 7 #[.int .i64 i, .agg #[.int .u64 (t : Int), .int .i64 vt], .pointer (some ⟨q, 0, none⟩)] w (NoNode w) := by
  have c0 := (LogAt.below h (hbox t vt w)).c0
  have hlog := LogAt.below h (hbox t vt w)
  have hcb := heap_alloc_new w (.cells #[.int .u64 (t : Int), .int .i64 vt] 35)
  have hn := fun W => node_hid (Lib.hid hi) W
  have HN := Lib.hid hn
  have hlast := RlgWalkE.last_any hlog f
  obtain ⟨LI, hLI⟩ : ∃ LI, (last g).1 = LI := ⟨_, rfl⟩
  obtain ⟨LT, hLT⟩ : ∃ LT, (last g).2 = LT := ⟨_, rfl⟩
  rw [hLI, hLT] at hlast
  have hne : (vt != -1) = false := by rw [hv]; rfl
  clear hv
  have HB := Lib.hid (hbox t vt w)
  have hx : t < LT ∨ ¬ t < LT ∧ 9223372036854775808 < LI := by
    unfold lastOk at hl
    rw [hLI, hLT] at hl
    simp only [Bool.and_eq_false_iff, decide_eq_false_iff_not] at hl
    omega
  have HX := Lib.hid hx
  have HLast := Lib.hid hlast
  obtain ⟨w0, hw0⟩ : ∃ w0, w.alloc (.cells #[.int .u64 (t : Int), .int .i64 vt] 35) = w0 := ⟨_, rfl⟩
  rw [hw0] at HB HLast hcb
  have x0 : w0.cell? ⟨w.heap.size, 0, none⟩ = some (.int .u64 (t : Int)) := by rw [cell_at hcb]; rfl
  have x1 : w0.cell? ⟨w.heap.size, 1, none⟩ = some (.int .i64 vt) := by rw [cell_at hcb]; rfl
  have hlt := lt_at hcb
  have HW0 := Lib.hid hw0
  clear hn hlog hlast hLI hLT hx hw0 hcb c0 h f hl
  go_enter Try.func7, Try.ntmps7
  go_wp2_with fail
  rw [HW0.out]
  with_reducible refine (HN.out _).mono ?_
  rintro e w1 ⟨rfl, rfl⟩
  go_wp2_with fail
  with_reducible refine HLast.out.mono ?_
  rintro e w1 ⟨rfl, hb1⟩
  have y0 := (hb1.cell (p := ⟨w.heap.size, 0, none⟩) hlt).trans x0
  have HB1 := Lib.hid (HB.out.trans (hb1.mono HB.out.size))
  clear hb1
  rcases HX.out with hx | ⟨hx, hx2⟩
  · go_wp2
    go_ret2
    exact ⟨rfl, HB1.out⟩
  · have hx3 : decide ((9223372036854775808 : Int) < (LI : Int)) = true := by simp; omega
    go_wp2
    go_ret2
    exact ⟨rfl, HB1.out⟩
theorem new_lastB (h : LogAt 63 B w q v g) (f : Fine g) (i : Int) (t : Nat) (vt : Int) (hi : node i = true) (hv : vt ≠ -1 ∧ node vt = true) (hl : lastOk t g = false) : Calls Try.prog 7 #[.int .i64 i, .agg #[.int .u64 (t : Int), .int .i64 vt], .pointer (some ⟨q, 0, none⟩)] w (NoNode w) := by
  have c0 := (LogAt.below h (hbox t vt w)).c0
  have hlog := LogAt.below h (hbox t vt w)
  have hcb := heap_alloc_new w (.cells #[.int .u64 (t : Int), .int .i64 vt] 35)
  have hn := fun W => node_hid (Lib.hid hi) W
  have HN := Lib.hid hn
  have hlast := RlgWalkE.last_any hlog f
  obtain ⟨LI, hLI⟩ : ∃ LI, (last g).1 = LI := ⟨_, rfl⟩
  obtain ⟨LT, hLT⟩ : ∃ LT, (last g).2 = LT := ⟨_, rfl⟩
  rw [hLI, hLT] at hlast
  have hne : (vt != -1) = true := by simpa using hv.1
  have hm := fun W => node_hid (Lib.hid hv.2) W
  have HM := Lib.hid hm
  clear hm hv
  have HB := Lib.hid (hbox t vt w)
  have hx : t < LT ∨ ¬ t < LT ∧ 9223372036854775808 < LI := by
    unfold lastOk at hl
    rw [hLI, hLT] at hl
    simp only [Bool.and_eq_false_iff, decide_eq_false_iff_not] at hl
    omega
  have HX := Lib.hid hx
  have HLast := Lib.hid hlast
  obtain ⟨w0, hw0⟩ : ∃ w0, w.alloc (.cells #[.int .u64 (t : Int), .int .i64 vt] 35) = w0 := ⟨_, rfl⟩
  rw [hw0] at HB HLast hcb
  have x0 : w0.cell? ⟨w.heap.size, 0, none⟩ = some (.int .u64 (t : Int)) := by rw [cell_at hcb]; rfl
  have x1 : w0.cell? ⟨w.heap.size, 1, none⟩ = some (.int .i64 vt) := by rw [cell_at hcb]; rfl
  have hlt := lt_at hcb
  have HW0 := Lib.hid hw0
  clear hn hlog hlast hLI hLT hx hw0 hcb c0 h f hl
  go_enter Try.func7, Try.ntmps7
  go_wp2_with fail
  rw [HW0.out]
  with_reducible refine (HN.out _).mono ?_
  rintro e w1 ⟨rfl, rfl⟩
  go_wp2_with fail
  with_reducible refine (HM.out _).mono ?_
  rintro e w1 ⟨rfl, rfl⟩
  go_wp2_with fail
  with_reducible refine HLast.out.mono ?_
  rintro e w1 ⟨rfl, hb1⟩
  have y0 := (hb1.cell (p := ⟨w.heap.size, 0, none⟩) hlt).trans x0
  have HB1 := Lib.hid (HB.out.trans (hb1.mono HB.out.size))
  clear hb1
  rcases HX.out with hx | ⟨hx, hx2⟩
  · go_wp2
    go_ret2
    exact ⟨rfl, HB1.out⟩
  · have hx3 : decide ((9223372036854775808 : Int) < (LI : Int)) = true := by simp; omega
    go_wp2
    go_ret2
    exact ⟨rfl, HB1.out⟩
theorem node_new (h : LogAt 63 B w q v g) (I t : Nat) (vt : Int) {six : Nat} (hs : g.snap.idx = six) : PAt B (w.alloc (.cells #[.slice none 0 0, .slice none 0 0, .bool false, .bool false, .int .i64 (I : Int), .int .u64 (t : Int), .int .i64 vt, .pointer (some ⟨q, 0, none⟩), .int .i64 0, .int .i64 (-1), .int .u64 (six : Int), .int .u64 0, .int .u64 0, .int .u64 0, .int .u64 0, .int .u64 0, .int .u64 0, .int .u64 0, .int .u64 0, .int .u64 0, .int .u64 0, .int .u64 0, .int .u64 0, .int .u64 0, .int .u64 0, .int .u64 0] 70)) w.heap.size ⟨q, v, .slice none 0 0, .slice none 0 0, [], fun _ => False⟩ (newNd I t vt g) := by
  subst hs
  have hb : Below w.heap.size w (w.alloc (.cells #[.slice none 0 0, .slice none 0 0, .bool false, .bool false, .int .i64 (I : Int), .int .u64 (t : Int), .int .i64 vt, .pointer (some ⟨q, 0, none⟩), .int .i64 0, .int .i64 (-1), .int .u64 (g.snap.idx : Int), .int .u64 0, .int .u64 0, .int .u64 0, .int .u64 0, .int .u64 0, .int .u64 0, .int .u64 0, .int .u64 0, .int .u64 0, .int .u64 0, .int .u64 0, .int .u64 0, .int .u64 0, .int .u64 0, .int .u64 0] 70)) := (Below.refl _ _).alloc (Nat.le_refl _) _
  refine ⟨h.base, heap_alloc_new w _, h.below hb, World.ownsRow_nil _ _ _ _, World.ownsRow_nil _ _ _ _, rfl, by simp, fun k hk => hk.elim, fun e => ?_, by simp [Value.ownBlock], by simp [Value.ownBlock], fun k _ => by simp [Value.ownBlock], fun k _ => by simp [Value.ownBlock], fun k hk => by simp [Value.ownBlock] at hk⟩
  have := (h.foot_lt e).2
  omega
theorem field0 (w : World) (a b c : Int) (d : ByteArray) : (Instr.field 30 (.agg #[.int .u64 a, .int .u64 b, .int .u64 c, .string d]) 0).run Try.prog w = .ok (.int .u64 a) w := by kernel_rfl
/-- A new node, of a log. -/
def NewNode (B : Nat) (w : World) (q : Nat) (v : Value) (g : G) (i : Int) (t : Nat) (vt : Int) (e : Ending) (w' : World) : Prop :=
  ∃ p, e = .returned (.tuple #[.pointer (some ⟨p, 0, none⟩), .int .i64 0]) ∧ w.heap.size ≤ p ∧ PAt B w' p ⟨q, v, .slice none 0 0, .slice none 0 0, [], fun _ => False⟩ (newNd i.toNat t vt g) ∧ Below w.heap.size w w'
set_option maxRecDepth 100000 in
set_option maxHeartbeats 2000000 in
theorem new_okA (h : LogAt 63 B w q v g) (f : Fine g) (i : Int) (t : Nat) (vt : Int) (hi : node i = true) (hv : vt = -1) (hl : lastOk t g = true) : Calls Try.prog 7 #[.int .i64 i, .agg #[.int .u64 (t : Int), .int .i64 vt], .pointer (some ⟨q, 0, none⟩)] w (NewNode B w q v g i t vt) := by
  have c0 := (LogAt.below h (hbox t vt w)).c0
  have hlog := LogAt.below h (hbox t vt w)
  have hcb := heap_alloc_new w (.cells #[.int .u64 (t : Int), .int .i64 vt] 35)
  have hn := fun W => node_hid (Lib.hid hi) W
  have HN := Lib.hid hn
  have hlast := RlgWalkE.last_any hlog f
  have hfst := fun W (hb : Below w.heap.size w W) => RlgWalkE.first_any (LogAt.below h hb)
  obtain ⟨LI, hLI⟩ : ∃ LI, (last g).1 = LI := ⟨_, rfl⟩
  obtain ⟨LT, hLT⟩ : ∃ LT, (last g).2 = LT := ⟨_, rfl⟩
  rw [hLI, hLT] at hlast
  obtain ⟨I, rfl⟩ : ∃ I : Nat, i = (I : Int) := ⟨i.toNat, by have := node_lt hi; omega⟩
  obtain ⟨⟨six, stm, scf, sd⟩, hS⟩ : ∃ S, g.snap = S := ⟨_, rfl⟩
  unfold RlgWalkD.snapV at hfst
  simp only [hS] at hfst
  have hne : (vt != -1) = false := by rw [hv]; rfl
  clear hv
  have HB := Lib.hid (hbox t vt w)
  have hx : ¬ t < LT ∧ ¬ 9223372036854775808 < LI := by
    unfold lastOk at hl
    rw [hLI, hLT] at hl
    simp only [Bool.and_eq_true, decide_eq_true_eq] at hl
    omega
  obtain ⟨hx, hx2⟩ := hx
  have hx3 : decide ((9223372036854775808 : Int) < (LI : Int)) = false := by simp; omega
  have hf0 := fun W => field0 W (six : Int) (stm : Int) (scf : Int) sd
  have HLast := Lib.hid hlast
  have HFst := Lib.hid hfst
  have H := Lib.hid h
  have HS := Lib.hid hS
  obtain ⟨w0, hw0⟩ : ∃ w0, w.alloc (.cells #[.int .u64 (t : Int), .int .i64 vt] 35) = w0 := ⟨_, rfl⟩
  rw [hw0] at HB HLast hcb
  have x0 : w0.cell? ⟨w.heap.size, 0, none⟩ = some (.int .u64 (t : Int)) := by rw [cell_at hcb]; rfl
  have x1 : w0.cell? ⟨w.heap.size, 1, none⟩ = some (.int .i64 vt) := by rw [cell_at hcb]; rfl
  have hlt := lt_at hcb
  have HW0 := Lib.hid hw0
  clear hn hlog hlast hfst hLI hLT hw0 hcb c0 h f hl hS
  go_enter Try.func7, Try.ntmps7
  go_wp2_with fail
  rw [HW0.out]
  with_reducible refine (HN.out _).mono ?_
  rintro e w1 ⟨rfl, rfl⟩
  go_wp2_with fail
  with_reducible refine HLast.out.mono ?_
  rintro e w1 ⟨rfl, hb1⟩
  have y0 := (hb1.cell (p := ⟨w.heap.size, 0, none⟩) hlt).trans x0
  have y1 := (hb1.cell (p := ⟨w.heap.size, 1, none⟩) hlt).trans x1
  have HB1 := Lib.hid (HB.out.trans (hb1.mono HB.out.size))
  have hl1 : w.heap.size < w1.heap.size := Nat.lt_of_lt_of_le hlt hb1.size
  clear hb1
  go_wp2_with fail
  go_region_held3 (fun W => W.cell? ⟨w.heap.size, 0, none⟩ = some (.int .u64 (t : Int)) ∧ W.cell? ⟨w.heap.size, 1, none⟩ = some (.int .i64 vt))
    (first
      | exact ⟨y0, y1⟩
      | (with_reducible exact HKA.out)
      | (with_reducible exact HKB.out _))
    (first
      | (go_at_call 20
         with_reducible refine (HFst.out _ HB1.out.drew).mono ?_
         rintro e wA ⟨rfl, hBa⟩
         have HKA := Lib.hid (And.intro ((hBa.cell (p := ⟨w.heap.size, 0, none⟩) hl1).trans y0) ((hBa.cell (p := ⟨w.heap.size, 1, none⟩) hl1).trans y1))
         have HBA : Hid (Below w.heap.size w wA) := HB1.out.drew.trans (hBa.mono HB1.out.size)
         have HKB := Lib.hid (fun o => And.intro ((((Below.refl _ wA).alloc (Nat.le_refl _) o).cell (p := ⟨w.heap.size, 0, none⟩) (Nat.lt_of_lt_of_le hl1 hBa.size)).trans HKA.out.1) ((((Below.refl _ wA).alloc (Nat.le_refl _) o).cell (p := ⟨w.heap.size, 1, none⟩) (Nat.lt_of_lt_of_le hl1 hBa.size)).trans HKA.out.2))
         clear hBa))
  all_goals go_wp2
  all_goals go_ret2
  all_goals exact ⟨wA.heap.size, rfl, HBA.out.size, node_new (H.out.below HBA.out) I t vt (by rw [HS.out]), HBA.out.alloc HBA.out.size _⟩
set_option maxRecDepth 100000 in
set_option maxHeartbeats 2000000 in
theorem new_okB (h : LogAt 63 B w q v g) (f : Fine g) (i : Int) (t : Nat) (vt : Int) (hi : node i = true) (hv : vt ≠ -1 ∧ node vt = true) (hl : lastOk t g = true) : Calls Try.prog 7 #[.int .i64 i, .agg #[.int .u64 (t : Int), .int .i64 vt], .pointer (some ⟨q, 0, none⟩)] w (NewNode B w q v g i t vt) := by
  have c0 := (LogAt.below h (hbox t vt w)).c0
  have hlog := LogAt.below h (hbox t vt w)
  have hcb := heap_alloc_new w (.cells #[.int .u64 (t : Int), .int .i64 vt] 35)
  have hn := fun W => node_hid (Lib.hid hi) W
  have HN := Lib.hid hn
  have hlast := RlgWalkE.last_any hlog f
  have hfst := fun W (hb : Below w.heap.size w W) => RlgWalkE.first_any (LogAt.below h hb)
  obtain ⟨LI, hLI⟩ : ∃ LI, (last g).1 = LI := ⟨_, rfl⟩
  obtain ⟨LT, hLT⟩ : ∃ LT, (last g).2 = LT := ⟨_, rfl⟩
  rw [hLI, hLT] at hlast
  obtain ⟨I, rfl⟩ : ∃ I : Nat, i = (I : Int) := ⟨i.toNat, by have := node_lt hi; omega⟩
  obtain ⟨⟨six, stm, scf, sd⟩, hS⟩ : ∃ S, g.snap = S := ⟨_, rfl⟩
  unfold RlgWalkD.snapV at hfst
  simp only [hS] at hfst
  have hne : (vt != -1) = true := by simpa using hv.1
  have hm := fun W => node_hid (Lib.hid hv.2) W
  have HM := Lib.hid hm
  clear hm hv
  have HB := Lib.hid (hbox t vt w)
  have hx : ¬ t < LT ∧ ¬ 9223372036854775808 < LI := by
    unfold lastOk at hl
    rw [hLI, hLT] at hl
    simp only [Bool.and_eq_true, decide_eq_true_eq] at hl
    omega
  obtain ⟨hx, hx2⟩ := hx
  have hx3 : decide ((9223372036854775808 : Int) < (LI : Int)) = false := by simp; omega
  have hf0 := fun W => field0 W (six : Int) (stm : Int) (scf : Int) sd
  have HLast := Lib.hid hlast
  have HFst := Lib.hid hfst
  have H := Lib.hid h
  have HS := Lib.hid hS
  obtain ⟨w0, hw0⟩ : ∃ w0, w.alloc (.cells #[.int .u64 (t : Int), .int .i64 vt] 35) = w0 := ⟨_, rfl⟩
  rw [hw0] at HB HLast hcb
  have x0 : w0.cell? ⟨w.heap.size, 0, none⟩ = some (.int .u64 (t : Int)) := by rw [cell_at hcb]; rfl
  have x1 : w0.cell? ⟨w.heap.size, 1, none⟩ = some (.int .i64 vt) := by rw [cell_at hcb]; rfl
  have hlt := lt_at hcb
  have HW0 := Lib.hid hw0
  clear hn hlog hlast hfst hLI hLT hw0 hcb c0 h f hl hS
  go_enter Try.func7, Try.ntmps7
  go_wp2_with fail
  rw [HW0.out]
  with_reducible refine (HN.out _).mono ?_
  rintro e w1 ⟨rfl, rfl⟩
  go_wp2_with fail
  with_reducible refine (HM.out _).mono ?_
  rintro e w1 ⟨rfl, rfl⟩
  go_wp2_with fail
  with_reducible refine HLast.out.mono ?_
  rintro e w1 ⟨rfl, hb1⟩
  have y0 := (hb1.cell (p := ⟨w.heap.size, 0, none⟩) hlt).trans x0
  have y1 := (hb1.cell (p := ⟨w.heap.size, 1, none⟩) hlt).trans x1
  have HB1 := Lib.hid (HB.out.trans (hb1.mono HB.out.size))
  have hl1 : w.heap.size < w1.heap.size := Nat.lt_of_lt_of_le hlt hb1.size
  clear hb1
  go_wp2_with fail
  go_region_held3 (fun W => W.cell? ⟨w.heap.size, 0, none⟩ = some (.int .u64 (t : Int)) ∧ W.cell? ⟨w.heap.size, 1, none⟩ = some (.int .i64 vt))
    (first
      | exact ⟨y0, y1⟩
      | (with_reducible exact HKA.out)
      | (with_reducible exact HKB.out _))
    (first
      | (go_at_call 20
         with_reducible refine (HFst.out _ HB1.out.drew).mono ?_
         rintro e wA ⟨rfl, hBa⟩
         have HKA := Lib.hid (And.intro ((hBa.cell (p := ⟨w.heap.size, 0, none⟩) hl1).trans y0) ((hBa.cell (p := ⟨w.heap.size, 1, none⟩) hl1).trans y1))
         have HBA : Hid (Below w.heap.size w wA) := HB1.out.drew.trans (hBa.mono HB1.out.size)
         have HKB := Lib.hid (fun o => And.intro ((((Below.refl _ wA).alloc (Nat.le_refl _) o).cell (p := ⟨w.heap.size, 0, none⟩) (Nat.lt_of_lt_of_le hl1 hBa.size)).trans HKA.out.1) ((((Below.refl _ wA).alloc (Nat.le_refl _) o).cell (p := ⟨w.heap.size, 1, none⟩) (Nat.lt_of_lt_of_le hl1 hBa.size)).trans HKA.out.2))
         clear hBa))
  all_goals go_wp2
  all_goals go_ret2
  all_goals exact ⟨wA.heap.size, rfl, HBA.out.size, node_new (H.out.below HBA.out) I t vt (by rw [HS.out]), HBA.out.alloc HBA.out.size _⟩
theorem new_any (h : LogAt 63 B w q v g) (f : Fine g) (i : Int) (t : Nat) (vt : Int) : Calls Try.prog 7 #[.int .i64 i, .agg #[.int .u64 (t : Int), .int .i64 vt], .pointer (some ⟨q, 0, none⟩)] w fun e w' =>
    if (node i && (voteOk vt && lastOk t g)) = true then NewNode B w q v g i t vt e w' else NoNode w e w' := by
  cases hi : node i with
  | false => simpa using new_id i t vt _ hi w
  | true =>
    cases hv : voteOk vt with
    | false => simpa using new_vote i t vt hi hv w
    | true =>
      have hv2 : vt = -1 ∨ (vt ≠ -1 ∧ node vt = true) := by
        unfold voteOk at hv
        simp only [Bool.or_eq_true, decide_eq_true_eq] at hv
        by_cases e : vt = -1
        · exact .inl e
        · exact .inr ⟨e, hv.resolve_left e⟩
      cases hl : lastOk t g with
      | false =>
        rcases hv2 with e | e
        · simpa using new_lastA h f i t vt hi e hl
        · simpa using new_lastB h f i t vt hi e hl
      | true =>
        rcases hv2 with e | e
        · simpa using new_okA h f i t vt hi e hl
        · simpa using new_okB h f i t vt hi e hl
end
end Go.Proofs.Ytokifeghoodkgaa.WalkJ
