/- What the program's mayLie and the document's May answer, walked. -/
import Derived.Test.YtdbmpfongfiagaaRlgWalkA
set_option linter.unusedVariables false
namespace Go.Proofs.Ytdbmpfongfiagaa.RlgWalkB
open Go.RowKit Go.Proofs.Ytdbmpfongfiagaa.Kit Go.Proofs.Ytdbmpfongfiagaa.Rlog Go.Proofs.Ytdbmpfongfiagaa.Ents Go.Proofs.Ytdbmpfongfiagaa.LogAt Go.Proofs.Ytdbmpfongfiagaa.RlgWalkA
open Go.Proofs.Ytdbmpfongfiagaa.Num (num got front rest)
open Go.Proofs.Ytdbmpfongfiagaa.PckWalkH (str str_back)
open Go.Proofs.Ytdbmpfongfiagaa.Quorum (sound)

theorem u64_sub {a b : Nat} (h : b ≤ a) (ha : a < 18446744073709551616) : IntKind.u64.wrap ((a : Int) - (b : Int)) = ((a - b : Nat) : Int) := by
  rw [show (a : Int) - (b : Int) = ((a - b : Nat) : Int) by omega]
  exact IntWalk.u64_in _ (by omega)
theorem u64_pred {a : Nat} (h : a ≠ 0) (ha : a < 18446744073709551616) : IntKind.u64.wrap ((a : Int) - 1) = ((a - 1 : Nat) : Int) := u64_sub (b := 1) (by omega) ha
theorem says_no {d : ByteArray} (h : sound (setOf d) = false) : says d = false := by simp [says, h]
theorem says_str {d : ByteArray} (h : sound (setOf d) = true) : says d = decide (d.data.toList = num (setOf d)) := by simp [says, h]
/-- What an entry by value is. -/
def entV (e : Ent) : Value := .agg #[.int .u64 (e.term : Int), .int .u64 (e.idx : Int), .int .i64 e.kind, .string e.data]
/-- What a test answers. -/
def TellsB (w : World) (b : Bool) (e : Ending) (w' : World) : Prop := e = .returned (.bool b) ∧ Below w.heap.size w w'

/-- Sound, in whatever order a region carries it out. -/
abbrev QuietS (c : Nat) (b : Bool) (w : World) (k : Nat) : Prop :=
  Calls Try.prog 15 #[.int .u64 (c : Int)] (w.drewN k) fun e w'' => e = .returned (.bool b) ∧ ∃ m, w'' = w.drewN m
theorem quietS {c : Nat} {b : Bool} (hc : c < 18446744073709551616) (h : Hid (sound c = b)) (w : World) (k : Nat) : QuietS c b w k :=
  Calls.quiet_of_same ((sound_hid hc h (w.drewN k)).mono fun e w' ⟨he, hw⟩ => ⟨he, hw.symm⟩)
theorem below_drewN {B : Nat} {w w' : World} (h : Below B w w') (k : Nat) : Below B w (w'.drewN k) := ⟨h.os, h.tape, h.output, h.size, h.block⟩

section
variable {e : Ent} (he : EntB e) {i t : Nat} (hi : i < 18446744073709551616) (w : World)
include he
set_option maxRecDepth 100000 in
theorem lie_zero (h : e.idx = 0) : Calls Try.prog 33 #[entV e, .int .u64 (i : Int), .int .u64 (t : Int)] w (TellsB w false) := by
  obtain ⟨tm, ix, kd, d⟩ := e
  obtain rfl : ix = 0 := h
  unfold entV
  go_enter Try.func33, Try.ntmps33
  go_wp2
  go_ret
  exact ⟨rfl, (Below.refl _ _).alloc (Nat.le_refl _) _⟩
set_option maxRecDepth 100000 in
theorem lie_far (h : e.idx ≠ 0) (h1 : e.idx ≠ i + 1) : Calls Try.prog 33 #[entV e, .int .u64 (i : Int), .int .u64 (t : Int)] w (TellsB w false) := by
  have hb := he.idx
  have hw := u64_pred h hb
  have hne : (((e.idx - 1 : Nat) : Int) != (i : Int)) = true := by simp; omega
  have h0 : ((e.idx : Int) == 0) = false := by simp; omega
  obtain ⟨tm, ix, kd, d⟩ := e
  simp only at *
  obtain ⟨N, hN⟩ : ∃ N, ix - 1 = N := ⟨_, rfl⟩
  rw [hN] at hw hne
  clear h h1 hN he
  unfold entV
  go_enter Try.func33, Try.ntmps33
  go_wp2
  go_ret
  exact ⟨rfl, (Below.refl _ _).alloc (Nat.le_refl _) _⟩
set_option maxRecDepth 100000 in
theorem lie_low (h1 : e.idx = i + 1) (h2 : e.term < t) : Calls Try.prog 33 #[entV e, .int .u64 (i : Int), .int .u64 (t : Int)] w (TellsB w false) := by
  have hb := he.idx
  have hw := u64_pred (show e.idx ≠ 0 by omega) hb
  rw [show e.idx - 1 = i by omega] at hw
  have h0 : ((e.idx : Int) == 0) = false := by simp; omega
  obtain ⟨tm, ix, kd, d⟩ := e
  simp only at *
  clear h1 he
  unfold entV
  go_enter Try.func33, Try.ntmps33
  go_wp2
  go_ret
  exact ⟨rfl, (Below.refl _ _).alloc (Nat.le_refl _) _⟩
set_option maxRecDepth 100000 in
theorem lie_long (h1 : e.idx = i + 1) (h2 : ¬ e.term < t) (h3 : 32768 < e.data.size) : Calls Try.prog 33 #[entV e, .int .u64 (i : Int), .int .u64 (t : Int)] w (TellsB w false) := by
  have hb := he.idx
  have hw := u64_pred (show e.idx ≠ 0 by omega) hb
  rw [show e.idx - 1 = i by omega] at hw
  have h0 : ((e.idx : Int) == 0) = false := by simp; omega
  have h3' : (32768 : Int) < (e.data.size : Int) := by omega
  obtain ⟨tm, ix, kd, d⟩ := e
  simp only at *
  clear h1 he
  unfold entV
  go_enter Try.func33, Try.ntmps33
  go_wp2
  go_ret
  exact ⟨rfl, (Below.refl _ _).alloc (Nat.le_refl _) _⟩
set_option maxRecDepth 100000 in
theorem lie_plain (h1 : e.idx = i + 1) (h2 : ¬ e.term < t) (h3 : e.data.size ≤ 32768) (h4 : e.kind = 0 ∨ e.kind = 1) : Calls Try.prog 33 #[entV e, .int .u64 (i : Int), .int .u64 (t : Int)] w (TellsB w true) := by
  have hb := he.idx
  have hw := u64_pred (show e.idx ≠ 0 by omega) hb
  rw [show e.idx - 1 = i by omega] at hw
  have h0 : ((e.idx : Int) == 0) = false := by simp; omega
  have h3' : ¬ (32768 : Int) < (e.data.size : Int) := by omega
  obtain ⟨tm, ix, kd, d⟩ := e
  simp only at *
  clear h1 he
  rcases h4 with rfl | rfl
  · unfold entV
    go_enter Try.func33, Try.ntmps33
    go_wp2
    go_ret
    exact ⟨rfl, (Below.refl _ _).alloc (Nat.le_refl _) _⟩
  · unfold entV
    go_enter Try.func33, Try.ntmps33
    go_wp2
    go_ret
    exact ⟨rfl, (Below.refl _ _).alloc (Nat.le_refl _) _⟩
set_option maxRecDepth 100000 in
theorem lie_none (h1 : e.idx = i + 1) (h2 : ¬ e.term < t) (h3 : e.data.size ≤ 32768) (h4 : ¬ e.kind = 0) (h5 : ¬ e.kind = 1) (h6 : ¬ e.kind = 2) : Calls Try.prog 33 #[entV e, .int .u64 (i : Int), .int .u64 (t : Int)] w (TellsB w false) := by
  have hb := he.idx
  have hw := u64_pred (show e.idx ≠ 0 by omega) hb
  rw [show e.idx - 1 = i by omega] at hw
  have h0 : ((e.idx : Int) == 0) = false := by simp; omega
  have h3' : ¬ (32768 : Int) < (e.data.size : Int) := by omega
  have k0 : (e.kind == 0) = false := by simpa using h4
  have k1 : (e.kind == 1) = false := by simpa using h5
  have k2 : (e.kind == 2) = false := by simpa using h6
  obtain ⟨tm, ix, kd, d⟩ := e
  simp only at *
  clear h1 he h4 h5 h6
  unfold entV
  go_enter Try.func33, Try.ntmps33
  go_wp2
  go_ret
  exact ⟨rfl, (Below.refl _ _).alloc (Nat.le_refl _) _⟩
set_option maxRecDepth 100000 in
theorem lie_mad (h1 : e.idx = i + 1) (h2 : ¬ e.term < t) (h3 : e.data.size ≤ 32768) (h4 : e.kind = 2) (h5 : sound (setOf e.data) = false) : Calls Try.prog 33 #[entV e, .int .u64 (i : Int), .int .u64 (t : Int)] w (TellsB w false) := by
  have hb := he.idx
  have hw := u64_pred (show e.idx ≠ 0 by omega) hb
  rw [show e.idx - 1 = i by omega] at hw
  have h0 : ((e.idx : Int) == 0) = false := by simp; omega
  have h3' : ¬ (32768 : Int) < (e.data.size : Int) := by omega
  have hsz : e.data.size ≤ 9223372036854775807 := by omega
  obtain ⟨tm, ix, kd, d⟩ := e
  simp only at *
  subst h4
  have hlt := setOf_lt d
  have HS := Lib.hid h5
  have hset := set_any d
  obtain ⟨c, hc⟩ : ∃ c, setOf d = c := ⟨_, rfl⟩
  rw [hc] at hlt HS hset
  have HSet := Lib.hid hset
  clear h1 he h5 hc hset
  have hba : Below w.heap.size w (w.alloc (.cells #[.int .u64 (tm : Int), .int .u64 (ix : Int), .int .i64 2, .string d] 57)) := (Below.refl _ _).alloc (Nat.le_refl _) _
  have hd3 : (w.alloc (.cells #[.int .u64 (tm : Int), .int .u64 (ix : Int), .int .i64 2, .string d] 57)).cell? ⟨w.heap.size, 3, none⟩ = some (.string d) := by rw [Blocks.cell_at (heap_alloc_new w _)]; rfl
  unfold entV
  go_enter Try.func33, Try.ntmps33
  go_wp2_with fail
  refine (HSet.out _ hsz).mono ?_
  rintro e w1 ⟨rfl, hb1⟩
  have hd3' := (hb1.cell (p := ⟨w.heap.size, 3, none⟩) (by simp)).trans hd3
  go_wp2_with fail
  have C0 : Hid (∀ k, QuietS c false w1 k) := fun k => quietS hlt HS w1 k
  go_quiet ((go_at_call 15; (with_reducible exact C0.out _)))
  all_goals go_wp2
  all_goals go_ret
  all_goals exact ⟨rfl, below_drewN (hba.trans (hb1.mono hba.size)) _⟩
set_option maxRecDepth 100000 in
theorem lie_set (h1 : e.idx = i + 1) (h2 : ¬ e.term < t) (h3 : e.data.size ≤ 32768) (h4 : e.kind = 2) (h5 : sound (setOf e.data) = true) : Calls Try.prog 33 #[entV e, .int .u64 (i : Int), .int .u64 (t : Int)] w (TellsB w (says e.data)) := by
  have hb := he.idx
  have hw := u64_pred (show e.idx ≠ 0 by omega) hb
  rw [show e.idx - 1 = i by omega] at hw
  have h0 : ((e.idx : Int) == 0) = false := by simp; omega
  have h3' : ¬ (32768 : Int) < (e.data.size : Int) := by omega
  have hsz : e.data.size ≤ 9223372036854775807 := by omega
  obtain ⟨tm, ix, kd, d⟩ := e
  simp only at *
  subst h4
  have hlt := setOf_lt d
  have hsay := says_str h5
  have HS := Lib.hid h5
  have hset := set_any d
  obtain ⟨c, hc⟩ : ∃ c, setOf d = c := ⟨_, rfl⟩
  rw [hc] at hlt HS hset hsay
  obtain ⟨b, hbb⟩ : ∃ b, says d = b := ⟨_, rfl⟩
  obtain ⟨s, hs⟩ : ∃ s, str (num c) = s := ⟨_, rfl⟩
  have hcmp : (d.toList == s.toList) = b := by
    rw [← hbb, hsay, ← hs, Lib.toList_data, Lib.toList_data, PckWalkH.str_list, Bool.eq_iff_iff]
    simp
  have hcf := config_any c
  rw [hs] at hcf
  rw [hbb]
  have HSet := Lib.hid hset
  have HCf := Lib.hid hcf
  clear h1 he h5 hc hset hcf hsay hs hbb
  have hba : Below w.heap.size w (w.alloc (.cells #[.int .u64 (tm : Int), .int .u64 (ix : Int), .int .i64 2, .string d] 57)) := (Below.refl _ _).alloc (Nat.le_refl _) _
  have hd3 : (w.alloc (.cells #[.int .u64 (tm : Int), .int .u64 (ix : Int), .int .i64 2, .string d] 57)).cell? ⟨w.heap.size, 3, none⟩ = some (.string d) := by rw [Blocks.cell_at (heap_alloc_new w _)]; rfl
  unfold entV
  go_enter Try.func33, Try.ntmps33
  go_wp2_with fail
  refine (HSet.out _ hsz).mono ?_
  rintro e w1 ⟨rfl, hb1⟩
  have hd3' := (hb1.cell (p := ⟨w.heap.size, 3, none⟩) (by simp)).trans hd3
  have hs1 := hb1.size
  simp at hs1
  go_wp2_with fail
  go_region_held3 (fun w' => w'.cell? ⟨w.heap.size, 3, none⟩ = some (.string d))
    (first
      | exact hd3'
      | exact (hbC.cell (p := ⟨w.heap.size, 3, none⟩) (by simp; omega)).trans hd3')
    (first
      | (go_at_call 15
         refine (sound_hid hlt HS _).mono ?_
         rintro e wA ⟨rfl, rfl⟩)
      | (go_at_call 48
         refine (HCf.out _ hlt).mono ?_
         rintro e wC ⟨rfl, hbC⟩))
  all_goals go_wp2
  all_goals go_ret
  all_goals exact ⟨rfl, ((hba.trans (hb1.mono hba.size)).drew).trans (hbC.mono (by simp; omega))⟩

/-- Whether an entry may lie behind an index of a term. -/
theorem lie_any : Calls Try.prog 33 #[entV e, .int .u64 (i : Int), .int .u64 (t : Int)] w (TellsB w (may e i t)) := by
  have ht : ∀ b : Bool, may e i t = b → Calls Try.prog 33 #[entV e, .int .u64 (i : Int), .int .u64 (t : Int)] w (TellsB w b) → Calls Try.prog 33 #[entV e, .int .u64 (i : Int), .int .u64 (t : Int)] w (TellsB w (may e i t)) := fun b hb h => by rw [hb]; exact h
  by_cases h1 : e.idx = i + 1
  · by_cases h2 : e.term < t
    · exact ht false (by unfold may; rw [decide_eq_false (by omega)]; rfl) (lie_low he w h1 h2)
    · by_cases h3 : e.data.size ≤ 32768
      · have hm : may e i t = sortOk e := by unfold may; rw [decide_eq_true ⟨h1, by omega, h3⟩]; rfl
        by_cases k0 : e.kind = 0
        · exact ht true (by rw [hm]; simp [sortOk, k0]) (lie_plain he w h1 h2 h3 (.inl k0))
        · by_cases k1 : e.kind = 1
          · exact ht true (by rw [hm]; simp [sortOk, k1]) (lie_plain he w h1 h2 h3 (.inr k1))
          · by_cases k2 : e.kind = 2
            · have hk : sortOk e = says e.data := by simp [sortOk, k2]
              cases hs : sound (setOf e.data) with
              | false => exact ht false (by rw [hm, hk, says_no hs]) (lie_mad he w h1 h2 h3 k2 hs)
              | true => exact ht (says e.data) (by rw [hm, hk]) (lie_set he w h1 h2 h3 k2 hs)
            · exact ht false (by rw [hm]; simp [sortOk, k0, k1, k2]) (lie_none he w h1 h2 h3 k0 k1 k2)
      · exact ht false (by unfold may; rw [decide_eq_false (by omega)]; rfl) (lie_long he w h1 h2 (by omega))
  · have hm : may e i t = false := by unfold may; rw [decide_eq_false (by omega)]; rfl
    by_cases h0 : e.idx = 0
    · exact ht false hm (lie_zero he w h0)
    · exact ht false hm (lie_far he w h0 h1)

/-! ### The document's -/
omit he in
theorem wrap_succ (hi : i < 18446744073709551616) : IntKind.u64.wrap ((i : Int) + 1) = (((i + 1) % 18446744073709551616 : Nat) : Int) := by
  simp [IntKind.wrap, IntKind.bits, IntKind.signed]
end
end Go.Proofs.Ytdbmpfongfiagaa.RlgWalkB
