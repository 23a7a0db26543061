/- What the program's mayLie and the document's May answer, walked. -/
import Derived.Test.YtokifeghoodkgaaGreatRlgWalkA
set_option linter.unusedVariables false
namespace Go.Proofs.YtokifeghoodkgaaGreat.RlgWalkB
open Go.RowKit Go.Proofs.YtokifeghoodkgaaGreat.Kit Go.Proofs.YtokifeghoodkgaaGreat.Rlog Go.Proofs.YtokifeghoodkgaaGreat.Ents Go.Proofs.YtokifeghoodkgaaGreat.LogAt Go.Proofs.YtokifeghoodkgaaGreat.RlgWalkA
open Go.Proofs.YtokifeghoodkgaaGreat.Num (num got front rest)
open Go.Proofs.YtokifeghoodkgaaGreat.PckWalkH (str str_back)
open Go.Proofs.YtokifeghoodkgaaGreat.Quorum (sound)

theorem u64_sub {a b : Nat} (h : b ≤ a) (ha : a < 18446744073709551616) : IntKind.u64.wrap ((a : Int) - (b : Int)) = ((a - b : Nat) : Int) := by
  rw [show (a : Int) - (b : Int) = ((a - b : Nat) : Int) by omega]
  exact IntWalk.u64_in _ (by omega)
theorem u64_pred {a : Nat} (h : a ≠ 0) (ha : a < 18446744073709551616) : IntKind.u64.wrap ((a : Int) - 1) = ((a - 1 : Nat) : Int) := u64_sub (b := 1) (by omega) ha
theorem says_no {d : ByteArray} (h : sound (setOf d) = false) : says d = false := by simp [says, h]
theorem says_str {d : ByteArray} (h : sound (setOf d) = true) : says d = decide (d.data.toList = num (setOf d)) := by simp [says, h]
/-- What an entry by value is. -/
def entV (e : Ent) : Value := .agg #[.int .u64 (e.term : Int), .int .u64 (e.idx : Int), .int .i64 e.kind, .string e.data]
/-- What a test answers. -/
def TellsB (w : World) (b : Bool) (e : Ending) (w' : World) : Prop := e = .returned (.bool b) ∧ Below w.heap.size w w'

/-- Sound, in whatever order a region carries it out. -/
abbrev QuietS (c : Nat) (b : Bool) (w : World) (k : Nat) : Prop :=
  Calls Tryz.prog 25 #[.int .u64 (c : Int)] (w.drewN k) fun e w'' => e = .returned (.bool b) ∧ ∃ m, w'' = w.drewN m
theorem quietS {c : Nat} {b : Bool} (hc : c < 18446744073709551616) (h : Hid (sound c = b)) (w : World) (k : Nat) : QuietS c b w k :=
  Calls.quiet_of_same ((sound_hid hc h (w.drewN k)).mono fun e w' ⟨he, hw⟩ => ⟨he, hw.symm⟩)
theorem below_drewN {B : Nat} {w w' : World} (h : Below B w w') (k : Nat) : Below B w (w'.drewN k) := ⟨h.os, h.tape, h.output, h.size, h.block⟩

section
variable {e : Ent} (he : EntB e) {i t : Nat} (hi : i < 18446744073709551616) (w : World)
include he
set_option maxRecDepth 100000 in
theorem lie_zero (h : e.idx = 0) : Calls Tryz.prog 64 #[entV e, .int .u64 (i : Int), .int .u64 (t : Int)] w (TellsB w false) := by
  obtain ⟨tm, ix, kd, d⟩ := e
  obtain rfl : ix = 0 := h
  unfold entV
  go_enter Tryz.func64, Tryz.ntmps64
  go_wp2
  go_ret
  exact ⟨rfl, (Below.refl _ _).alloc (Nat.le_refl _) _⟩
set_option maxRecDepth 100000 in
theorem lie_far (h : e.idx ≠ 0) (h1 : e.idx ≠ i + 1) : Calls Tryz.prog 64 #[entV e, .int .u64 (i : Int), .int .u64 (t : Int)] w (TellsB w false) := by
  have hb := he.idx
  have hw := u64_pred h hb
  have hne : (((e.idx - 1 : Nat) : Int) != (i : Int)) = true := by simp; omega
  have h0 : ((e.idx : Int) == 0) = false := by simp; omega
  obtain ⟨tm, ix, kd, d⟩ := e
  simp only at *
  obtain ⟨N, hN⟩ : ∃ N, ix - 1 = N := ⟨_, rfl⟩
  rw [hN] at hw hne
  clear h h1 hN he
  unfold entV
  go_enter Tryz.func64, Tryz.ntmps64
  go_wp2
  go_ret
  exact ⟨rfl, (Below.refl _ _).alloc (Nat.le_refl _) _⟩
set_option maxRecDepth 100000 in
theorem lie_low (h1 : e.idx = i + 1) (h2 : e.term < t) : Calls Tryz.prog 64 #[entV e, .int .u64 (i : Int), .int .u64 (t : Int)] w (TellsB w false) := by
  have hb := he.idx
  have hw := u64_pred (show e.idx ≠ 0 by omega) hb
  rw [show e.idx - 1 = i by omega] at hw
  have h0 : ((e.idx : Int) == 0) = false := by simp; omega
  obtain ⟨tm, ix, kd, d⟩ := e
  simp only at *
  clear h1 he
  unfold entV
  go_enter Tryz.func64, Tryz.ntmps64
  go_wp2
  go_ret
  exact ⟨rfl, (Below.refl _ _).alloc (Nat.le_refl _) _⟩
set_option maxRecDepth 100000 in
theorem lie_long (h1 : e.idx = i + 1) (h2 : ¬ e.term < t) (h3 : 32768 < e.data.size) : Calls Tryz.prog 64 #[entV e, .int .u64 (i : Int), .int .u64 (t : Int)] w (TellsB w false) := by
  have hb := he.idx
  have hw := u64_pred (show e.idx ≠ 0 by omega) hb
  rw [show e.idx - 1 = i by omega] at hw
  have h0 : ((e.idx : Int) == 0) = false := by simp; omega
  have h3' : (32768 : Int) < (e.data.size : Int) := by omega
  obtain ⟨tm, ix, kd, d⟩ := e
  simp only at *
  clear h1 he
  unfold entV
  go_enter Tryz.func64, Tryz.ntmps64
  go_wp2
  go_ret
  exact ⟨rfl, (Below.refl _ _).alloc (Nat.le_refl _) _⟩
set_option maxRecDepth 100000 in
theorem lie_plain (h1 : e.idx = i + 1) (h2 : ¬ e.term < t) (h3 : e.data.size ≤ 32768) (h4 : e.kind = 0 ∨ e.kind = 1) : Calls Tryz.prog 64 #[entV e, .int .u64 (i : Int), .int .u64 (t : Int)] w (TellsB w true) := by
  have hb := he.idx
  have hw := u64_pred (show e.idx ≠ 0 by omega) hb
  rw [show e.idx - 1 = i by omega] at hw
  have h0 : ((e.idx : Int) == 0) = false := by simp; omega
  have h3' : ¬ (32768 : Int) < (e.data.size : Int) := by omega
  obtain ⟨tm, ix, kd, d⟩ := e
  simp only at *
  clear h1 he
  rcases h4 with rfl | rfl
  · unfold entV
    go_enter Tryz.func64, Tryz.ntmps64
    go_wp2
    go_ret
    exact ⟨rfl, (Below.refl _ _).alloc (Nat.le_refl _) _⟩
  · unfold entV
    go_enter Tryz.func64, Tryz.ntmps64
    go_wp2
    go_ret
    exact ⟨rfl, (Below.refl _ _).alloc (Nat.le_refl _) _⟩
set_option maxRecDepth 100000 in
theorem lie_none (h1 : e.idx = i + 1) (h2 : ¬ e.term < t) (h3 : e.data.size ≤ 32768) (h4 : ¬ e.kind = 0) (h5 : ¬ e.kind = 1) (h6 : ¬ e.kind = 2) : Calls Tryz.prog 64 #[entV e, .int .u64 (i : Int), .int .u64 (t : Int)] w (TellsB w false) := by
  have hb := he.idx
  have hw := u64_pred (show e.idx ≠ 0 by omega) hb
  rw [show e.idx - 1 = i by omega] at hw
  have h0 : ((e.idx : Int) == 0) = false := by simp; omega
  have h3' : ¬ (32768 : Int) < (e.data.size : Int) := by omega
  have k0 : (e.kind == 0) = false := by simpa using h4
  have k1 : (e.kind == 1) = false := by simpa using h5
  have k2 : (e.kind == 2) = false := by simpa using h6
  obtain ⟨tm, ix, kd, d⟩ := e
  simp only at *
  clear h1 he h4 h5 h6
  unfold entV
  go_enter Tryz.func64, Tryz.ntmps64
  go_wp2
  go_ret
  exact ⟨rfl, (Below.refl _ _).alloc (Nat.le_refl _) _⟩
set_option maxRecDepth 100000 in
theorem lie_mad (h1 : e.idx = i + 1) (h2 : ¬ e.term < t) (h3 : e.data.size ≤ 32768) (h4 : e.kind = 2) (h5 : sound (setOf e.data) = false) : Calls Tryz.prog 64 #[entV e, .int .u64 (i : Int), .int .u64 (t : Int)] w (TellsB w false) := by
  have hb := he.idx
  have hw := u64_pred (show e.idx ≠ 0 by omega) hb
  rw [show e.idx - 1 = i by omega] at hw
  have h0 : ((e.idx : Int) == 0) = false := by simp; omega
  have h3' : ¬ (32768 : Int) < (e.data.size : Int) := by omega
  have hsz : e.data.size ≤ 9223372036854775807 := by omega
  obtain ⟨tm, ix, kd, d⟩ := e
  simp only at *
  subst h4
  have hlt := setOf_lt d
  have HS := Lib.hid h5
  have hset := set_any d
  obtain ⟨c, hc⟩ : ∃ c, setOf d = c := ⟨_, rfl⟩
  rw [hc] at hlt HS hset
  have HSet := Lib.hid hset
  clear h1 he h5 hc hset
  have hba : Below w.heap.size w (w.alloc (.cells #[.int .u64 (tm : Int), .int .u64 (ix : Int), .int .i64 2, .string d] 81)) := (Below.refl _ _).alloc (Nat.le_refl _) _
  have hd3 : (w.alloc (.cells #[.int .u64 (tm : Int), .int .u64 (ix : Int), .int .i64 2, .string d] 81)).cell? ⟨w.heap.size, 3, none⟩ = some (.string d) := by rw [Blocks.cell_at (heap_alloc_new w _)]; rfl
  unfold entV
  go_enter Tryz.func64, Tryz.ntmps64
  go_wp2_with fail
  refine (HSet.out _ hsz).mono ?_
  rintro e w1 ⟨rfl, hb1⟩
  have hd3' := (hb1.cell (p := ⟨w.heap.size, 3, none⟩) (by simp)).trans hd3
  go_wp2_with fail
  have C0 : Hid (∀ k, QuietS c false w1 k) := fun k => quietS hlt HS w1 k
  go_quiet ((go_at_call 25; (with_reducible exact C0.out _)))
  all_goals go_wp2
  all_goals go_ret
  all_goals exact ⟨rfl, below_drewN (hba.trans (hb1.mono hba.size)) _⟩
set_option maxRecDepth 100000 in
theorem lie_set (h1 : e.idx = i + 1) (h2 : ¬ e.term < t) (h3 : e.data.size ≤ 32768) (h4 : e.kind = 2) (h5 : sound (setOf e.data) = true) : Calls Tryz.prog 64 #[entV e, .int .u64 (i : Int), .int .u64 (t : Int)] w (TellsB w (says e.data)) := by
  have hb := he.idx
  have hw := u64_pred (show e.idx ≠ 0 by omega) hb
  rw [show e.idx - 1 = i by omega] at hw
  have h0 : ((e.idx : Int) == 0) = false := by simp; omega
  have h3' : ¬ (32768 : Int) < (e.data.size : Int) := by omega
  have hsz : e.data.size ≤ 9223372036854775807 := by omega
  obtain ⟨tm, ix, kd, d⟩ := e
  simp only at *
  subst h4
  have hlt := setOf_lt d
  have hsay := says_str h5
  have HS := Lib.hid h5
  have hset := set_any d
  obtain ⟨c, hc⟩ : ∃ c, setOf d = c := ⟨_, rfl⟩
  rw [hc] at hlt HS hset hsay
  obtain ⟨b, hbb⟩ : ∃ b, says d = b := ⟨_, rfl⟩
  obtain ⟨s, hs⟩ : ∃ s, str (num c) = s := ⟨_, rfl⟩
  have hcmp : (d.toList == s.toList) = b := by
    rw [← hbb, hsay, ← hs, Lib.toList_data, Lib.toList_data, PckWalkH.str_list, Bool.eq_iff_iff]
    simp
  have hcf := config_any c
  rw [hs] at hcf
  rw [hbb]
  have HSet := Lib.hid hset
  have HCf := Lib.hid hcf
  clear h1 he h5 hc hset hcf hsay hs hbb
  have hba : Below w.heap.size w (w.alloc (.cells #[.int .u64 (tm : Int), .int .u64 (ix : Int), .int .i64 2, .string d] 81)) := (Below.refl _ _).alloc (Nat.le_refl _) _
  have hd3 : (w.alloc (.cells #[.int .u64 (tm : Int), .int .u64 (ix : Int), .int .i64 2, .string d] 81)).cell? ⟨w.heap.size, 3, none⟩ = some (.string d) := by rw [Blocks.cell_at (heap_alloc_new w _)]; rfl
  unfold entV
  go_enter Tryz.func64, Tryz.ntmps64
  go_wp2_with fail
  refine (HSet.out _ hsz).mono ?_
  rintro e w1 ⟨rfl, hb1⟩
  have hd3' := (hb1.cell (p := ⟨w.heap.size, 3, none⟩) (by simp)).trans hd3
  have hs1 := hb1.size
  simp at hs1
  go_wp2_with fail
  go_region_held3 (fun w' => w'.cell? ⟨w.heap.size, 3, none⟩ = some (.string d))
    (first
      | exact hd3'
      | exact (hbC.cell (p := ⟨w.heap.size, 3, none⟩) (by simp; omega)).trans hd3')
    (first
      | (go_at_call 25
         refine (sound_hid hlt HS _).mono ?_
         rintro e wA ⟨rfl, rfl⟩)
      | (go_at_call 60
         refine (HCf.out _ hlt).mono ?_
         rintro e wC ⟨rfl, hbC⟩))
  all_goals go_wp2
  all_goals go_ret
  all_goals exact ⟨rfl, ((hba.trans (hb1.mono hba.size)).drew).trans (hbC.mono (by simp; omega))⟩

/-- Whether an entry may lie behind an index of a term. -/
theorem lie_any : Calls Tryz.prog 64 #[entV e, .int .u64 (i : Int), .int .u64 (t : Int)] w (TellsB w (may e i t)) := by
  have ht : ∀ b : Bool, may e i t = b → Calls Tryz.prog 64 #[entV e, .int .u64 (i : Int), .int .u64 (t : Int)] w (TellsB w b) → Calls Tryz.prog 64 #[entV e, .int .u64 (i : Int), .int .u64 (t : Int)] w (TellsB w (may e i t)) := fun b hb h => by rw [hb]; exact h
  by_cases h1 : e.idx = i + 1
  · by_cases h2 : e.term < t
    · exact ht false (by unfold may; rw [decide_eq_false (by omega)]; rfl) (lie_low he w h1 h2)
    · by_cases h3 : e.data.size ≤ 32768
      · have hm : may e i t = sortOk e := by unfold may; rw [decide_eq_true ⟨h1, by omega, h3⟩]; rfl
        by_cases k0 : e.kind = 0
        · exact ht true (by rw [hm]; simp [sortOk, k0]) (lie_plain he w h1 h2 h3 (.inl k0))
        · by_cases k1 : e.kind = 1
          · exact ht true (by rw [hm]; simp [sortOk, k1]) (lie_plain he w h1 h2 h3 (.inr k1))
          · by_cases k2 : e.kind = 2
            · have hk : sortOk e = says e.data := by simp [sortOk, k2]
              cases hs : sound (setOf e.data) with
              | false => exact ht false (by rw [hm, hk, says_no hs]) (lie_mad he w h1 h2 h3 k2 hs)
              | true => exact ht (says e.data) (by rw [hm, hk]) (lie_set he w h1 h2 h3 k2 hs)
            · exact ht false (by rw [hm]; simp [sortOk, k0, k1, k2]) (lie_none he w h1 h2 h3 k0 k1 k2)
      · exact ht false (by unfold may; rw [decide_eq_false (by omega)]; rfl) (lie_long he w h1 h2 (by omega))
  · have hm : may e i t = false := by unfold may; rw [decide_eq_false (by omega)]; rfl
    by_cases h0 : e.idx = 0
    · exact ht false hm (lie_zero he w h0)
    · exact ht false hm (lie_far he w h0 h1)

/-! ### The document's -/
set_option maxRecDepth 100000 in
theorem may_mad {q : Nat} (h4 : e.kind = 2) (h5 : says e.data = false) : Calls Tryz.prog 31 #[entV e, .int .u64 (q : Int), .int .u64 (t : Int)] w (TellsB w false) := by
  have hsz := he.size
  obtain ⟨tm, ix, kd, d⟩ := e
  simp only at *
  subst h4
  have hba : Below w.heap.size w (w.alloc (.cells #[.int .u64 (tm : Int), .int .u64 (ix : Int), .int .i64 2, .string d] 81)) := (Below.refl _ _).alloc (Nat.le_refl _) _
  have hsaid := said_any d
  rw [h5] at hsaid
  have HSd := Lib.hid hsaid
  clear hsaid h5 he
  unfold entV
  go_enter Tryz.func31, Tryz.ntmps31
  go_wp2_with fail
  refine (HSd.out _ hsz).mono ?_
  rintro e w1 ⟨rfl, hb1⟩
  go_wp2
  go_ret
  exact ⟨rfl, hba.trans (hb1.mono hba.size)⟩
set_option maxRecDepth 100000 in
/-- Its last test, at any index. -/
theorem may_test {q : Nat} (hq : q < 18446744073709551616) (b : Bool) (hk : e.kind = 2 → says e.data = true) (hb : b = (decide (0 < q) && (decide (e.idx = q) && (decide (t ≤ e.term) && (decide (0 ≤ e.kind) && (decide (e.kind ≤ 2) && decide (e.data.size ≤ 32768))))))) :
    Calls Tryz.prog 31 #[entV e, .int .u64 (q : Int), .int .u64 (t : Int)] w (TellsB w b) := by
  have hsz := he.size
  obtain ⟨tm, ix, kd, d⟩ := e
  simp only at *
  have hba : Below w.heap.size w (w.alloc (.cells #[.int .u64 (tm : Int), .int .u64 (ix : Int), .int .i64 kd, .string d] 81)) := (Below.refl _ _).alloc (Nat.le_refl _) _
  have hcell := heap_alloc_new w (.cells #[.int .u64 (tm : Int), .int .u64 (ix : Int), .int .i64 kd, .string d] 81)
  have HB := Lib.hid hb
  clear hb he
  by_cases hix : ix = q
  · subst hix
    by_cases h2 : kd = 2
    · subst h2
      have hs := hk rfl
      have hsaid := said_any d
      rw [hs] at hsaid
      have HSd := Lib.hid hsaid
      have hpl : w.heap.size < (w.alloc (.cells #[.int .u64 (tm : Int), .int .u64 (ix : Int), .int .i64 2, .string d] 81)).heap.size := by simp
      have HC := Lib.hid hcell
      clear hsaid hs hk hcell
      unfold entV
      go_enter Tryz.func31, Tryz.ntmps31
      go_wp2_with fail
      refine (HSd.out _ hsz).mono ?_
      rintro e w1 ⟨rfl, hb1⟩
      have hcell1 := (hb1.block _ hpl).trans HC.out
      have c0 : w1.cell? ⟨w.heap.size, 0, none⟩ = some (.int .u64 (tm : Int)) := by rw [Blocks.cell_at hcell1]; rfl
      have c1 : w1.cell? ⟨w.heap.size, 1, none⟩ = some (.int .u64 (ix : Int)) := by rw [Blocks.cell_at hcell1]; rfl
      have c2 : w1.cell? ⟨w.heap.size, 2, none⟩ = some (.int .i64 2) := by rw [Blocks.cell_at hcell1]; rfl
      have c3 : w1.cell? ⟨w.heap.size, 3, none⟩ = some (.string d) := by rw [Blocks.cell_at hcell1]; rfl
      have HBA := Lib.hid (hba.trans (hb1.mono hba.size))
      clear hcell1 hb1
      go_wp2
      all_goals go_ret
      all_goals refine ⟨QuoWalkA.ret_b ?_, HBA.out⟩
      all_goals rw [HB.out]
      all_goals simp [*] <;> omega
    · have k2 : (kd == 2) = false := by simpa using h2
      have HBA := Lib.hid hba
      clear h2 hk hcell
      unfold entV
      go_enter Tryz.func31, Tryz.ntmps31
      go_wp2
      all_goals go_ret
      all_goals refine ⟨QuoWalkA.ret_b ?_, HBA.out⟩
      all_goals rw [HB.out]
      all_goals simp [*] <;> omega
  · obtain rfl : b = false := by rw [HB.out]; simp [hix]
    have hne : ((ix : Int) == (q : Int)) = false := by simp; omega
    by_cases h2 : kd = 2
    · subst h2
      have hs := hk rfl
      have hsaid := said_any d
      rw [hs] at hsaid
      have HSd := Lib.hid hsaid
      have hpl : w.heap.size < (w.alloc (.cells #[.int .u64 (tm : Int), .int .u64 (ix : Int), .int .i64 2, .string d] 81)).heap.size := by simp
      have HC := Lib.hid hcell
      clear hsaid hs hk hcell
      unfold entV
      go_enter Tryz.func31, Tryz.ntmps31
      go_wp2_with fail
      refine (HSd.out _ hsz).mono ?_
      rintro e w1 ⟨rfl, hb1⟩
      have hcell1 := (hb1.block _ hpl).trans HC.out
      have c1 : w1.cell? ⟨w.heap.size, 1, none⟩ = some (.int .u64 (ix : Int)) := by rw [Blocks.cell_at hcell1]; rfl
      have HBA := Lib.hid (hba.trans (hb1.mono hba.size))
      clear hcell1 hb1
      go_wp2
      all_goals go_ret
      all_goals exact ⟨rfl, HBA.out⟩
    · have k2 : (kd == 2) = false := by simpa using h2
      have HBA := Lib.hid hba
      clear h2 hk hcell
      unfold entV
      go_enter Tryz.func31, Tryz.ntmps31
      go_wp2
      all_goals go_ret
      all_goals exact ⟨rfl, HBA.out⟩
omit he in
theorem wrap_succ (hi : i < 18446744073709551616) : IntKind.u64.wrap ((i : Int) + 1) = (((i + 1) % 18446744073709551616 : Nat) : Int) := by
  simp [IntKind.wrap, IntKind.bits, IntKind.signed]
/-- Whether an entry may lie at an index, the one behind i (which wraps), behind a term. -/
theorem rmay_any {q : Nat} (hi : i < 18446744073709551616) (hq : q = (i + 1) % 18446744073709551616) : Calls Tryz.prog 31 #[entV e, .int .u64 (q : Int), .int .u64 (t : Int)] w (TellsB w (may e i t)) := by
  have hb := he.idx
  by_cases hk : e.kind = 2 → says e.data = true
  · refine may_test he w (by omega) _ hk ?_
    unfold may
    rw [Bool.eq_iff_iff]
    simp only [Bool.and_eq_true, decide_eq_true_eq, sortOk, Bool.or_eq_true]
    by_cases h2 : e.kind = 2
    · have := hk h2
      simp only [h2, this]
      constructor
      · rintro ⟨⟨h1, h3, h4⟩, _⟩; omega
      · rintro ⟨h1, h3, h4, _, _, h5⟩; refine ⟨by omega, ?_⟩; simp
    · constructor
      · rintro ⟨⟨h1, h3, h4⟩, h5⟩
        have : e.kind = 0 ∨ e.kind = 1 := by
          rcases h5 with h | h | h
          · exact .inl h
          · exact .inr h
          · exact absurd h.1 h2
        omega
      · rintro ⟨h1, h3, h4, h5, h6, h7⟩
        refine ⟨by omega, ?_⟩
        have : e.kind = 0 ∨ e.kind = 1 := by omega
        exact this.imp id .inl
  · have h2 : e.kind = 2 := by
      rcases Classical.em (e.kind = 2) with h | h
      · exact h
      · exact absurd (fun h' => absurd h' h) hk
    have hs : says e.data = false := by
      rw [Bool.eq_false_iff]
      exact fun h => hk fun _ => h
    have hm : may e i t = false := by simp [may, sortOk, h2, hs]
    rw [hm]
    exact may_mad he w h2 hs
end
end Go.Proofs.YtokifeghoodkgaaGreat.RlgWalkB
