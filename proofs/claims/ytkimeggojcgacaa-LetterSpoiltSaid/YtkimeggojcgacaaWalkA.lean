/- Whether a letter may be, by the program, walked. No statement is proved here. -/
import Derived.Test.YtkimeggojcgacaaWr
set_option linter.unusedVariables false
set_option linter.unusedSimpArgs false
namespace Go.Proofs.Ytkimeggojcgacaa.WalkA
open Go.RowKit Go.Proofs.Ytkimeggojcgacaa.Kit Go.Proofs.Ytkimeggojcgacaa.Ltr Go.Proofs.Ytkimeggojcgacaa.Lmt Go.Proofs.Ytkimeggojcgacaa.Wr
open Go.Proofs.Ytkimeggojcgacaa.State (cell_at free_at lt_at)

theorem place_any (i : Int) (w : World) : Calls Try.prog 22 #[.int .i64 i] w fun e w' => e = .returned (.bool (decide (0 ≤ i ∧ i ≤ 255))) ∧ w = w' := by
  by_cases h0 : 0 ≤ i
  · by_cases h1 : i ≤ 255
    · have hd : decide (0 ≤ i ∧ i ≤ 255) = true := by simp [h0, h1]
      rw [hd]
      go_enter Try.func22, Try.ntmps22
      go_wp2
      go_ret
      exact ⟨rfl, rfl⟩
    · have hd : decide (0 ≤ i ∧ i ≤ 255) = false := by simp [h1]
      rw [hd]
      go_enter Try.func22, Try.ntmps22
      go_wp2
      go_ret
      exact ⟨rfl, rfl⟩
  · have hd : decide (0 ≤ i ∧ i ≤ 255) = false := by simp [h0]
    rw [hd]
    go_enter Try.func22, Try.ntmps22
    go_wp2
    go_ret
    exact ⟨rfl, rfl⟩

/-- What a letter may carry. -/
def Carry (k : Int) (l : List Ent) : Prop := l.length ≤ 8 ∧ (k ≠ 3 → l.length = 0) ∧ ∀ e ∈ l, EMay e
theorem emay_first {l : List Ent} {k : Nat} {e : Ent} (he : l[k]? = some e) (h : ∀ i, i < k → ∀ x, l[i]? = some x → EMay x) (hm : EMay e) : ∀ i, i < k + 1 → ∀ x, l[i]? = some x → EMay x := by
  intro i hi x hx
  rcases Nat.lt_succ_iff_lt_or_eq.1 hi with h1 | rfl
  · exact h i h1 x hx
  · rw [he] at hx; cases hx; exact hm
set_option maxRecDepth 100000 in
set_option maxHeartbeats 1000000 in
theorem carry_any (k : Int) {w : World} {A : Option Addr} {n c : Nat} {l : List Ent} (hr : RE w w.heap.size A n l) (h63 : n ≤ 9223372036854775807) (b : Bool) (hb : b = true ↔ Carry k l) :
    Calls Try.prog 23 #[.int .i64 k, .slice A n c] w fun e w' => e = .returned (.bool b) ∧ Below w.heap.size w w' := by
  have hl := RE.len hr
  by_cases h8 : n ≤ 8
  · by_cases h3 : k ≠ 3 ∧ 0 < n
    · obtain ⟨h3, hn⟩ := h3
      obtain rfl : b = false := by
        cases b
        · rfl
        · have := (hb.1 rfl).2.1 h3; omega
      have hk3 : (k != 3) = true := by simpa using h3
      have h8' : (n : Int) ≤ 8 := by omega
      have h0' : 0 < (n : Int) := by omega
      clear hb hl h3
      go_enter Try.func23, Try.ntmps23
      go_wp2
      go_ret
      exact ⟨rfl, Below.refl _ _⟩
    · have hB : Hid (b = true ↔ Carry k l) := hb
      have hkn : Hid (k ≠ 3 → l.length = 0) := fun h => by
        by_cases hn : 0 < n
        · exact absurd ⟨h, hn⟩ h3
        · omega
      have h8' : (n : Int) ≤ 8 := by omega
      have hguard : ((decide (0 < (n : Int))) && (k != 3)) = false := by
        rw [Bool.and_eq_false_iff]
        by_cases hn : 0 < n
        · right
          simp only [bne_eq_false_iff_eq]
          by_cases e : k = 3
          · exact e
          · exact absurd ⟨e, hn⟩ h3
        · left; simp; omega
      have hs : (0 < (n : Int) ∧ (k != 3) = false) ∨ ¬ (0 < (n : Int)) := by
        by_cases hn : 0 < n
        · left
          refine ⟨by omega, ?_⟩
          simp only [bne_eq_false_iff_eq]
          by_cases e : k = 3
          · exact e
          · exact absurd ⟨e, hn⟩ h3
        · right; omega
      have HL := Lib.hid hl
      clear hb hguard h3 hl
      rcases hs with ⟨h0', hk3⟩ | h0'
      · go_enter Try.func23, Try.ntmps23
        go_wp2
        go_loopw [21] (fun x wr => ∃ j : Nat, j ≤ n ∧ x = .int .i64 (j : Int) ∧ Below w.heap.size w wr ∧ Hid (∀ i, i < j → ∀ x, l[i]? = some x → EMay x)) (fun x _ => n - (intOf x).toNat)
        case atStart => exact ⟨0, by omega, rfl, Below.refl _ _, fun i hi => absurd hi (by omega)⟩
        case round =>
          obtain ⟨j, hj, rfl, hbel, hall⟩ := hrel
          by_cases hjn : j < n
          · obtain ⟨bk, o, e, rfl, hbl, he, hfour⟩ := RE.at_ hr hjn
            have hfr := Four.below hfour hbel hbl
            have c0 := hfr.c0
            have c1 := hfr.c1
            have c2 := hfr.c2
            have c3 := hfr.c3
            obtain ⟨tm, ix, kd, d⟩ := e
            simp only at c0 c1 c2 c3
            have HE := Lib.hid he
            clear hfr hfour he
            have hbo : ∀ o, Below w.heap.size w (wr.alloc o) := fun o => hbel.alloc hbel.size _
            by_cases hm : EMay ⟨tm, ix, kd, d⟩
            · obtain ⟨m0, m1, m2⟩ := hm
              simp only at m0 m1 m2
              have m2' : (d.size : Int) ≤ 65536 := by omega
              have HM : Hid (EMay ⟨tm, ix, kd, d⟩) := ⟨m0, m1, m2⟩
              go_wp2
              go_roundw
              case rel => exact ⟨j + 1, by omega, by go_num, hbo _, emay_first HE.out hall.out HM.out⟩
              case measure => simp [intOf]; omega
            · obtain rfl : b = false := by
                cases b
                · rfl
                · exact absurd ((hB.out.1 rfl).2.2 _ (List.mem_of_getElem? HE.out)) hm
              have hor : kd < 0 ∨ (0 ≤ kd ∧ 2 < kd) ∨ (0 ≤ kd ∧ kd ≤ 2 ∧ 65536 < (d.size : Int)) := by
                unfold EMay at hm
                simp only at hm
                omega
              clear hm
              rcases hor with m0 | ⟨m0, m1⟩ | ⟨m0, m1, m2⟩
              all_goals go_wp2
              all_goals go_ret
              all_goals exact ⟨rfl, hbo _⟩
          · obtain rfl : j = n := by omega
            go_wp2
            go_ret
            have hbt : b = true := hB.out.2 ⟨by rw [HL.out]; exact h8, hkn.out, fun e he => by
              obtain ⟨i, hi, rfl⟩ := List.mem_iff_getElem.1 he
              exact hall.out i (by rw [← HL.out]; exact hi) _ (List.getElem?_eq_getElem hi)⟩
            subst hbt
            exact ⟨rfl, hbel⟩
      · obtain rfl : n = 0 := by omega
        obtain rfl : b = true := hB.out.2 ⟨by rw [HL.out]; exact h8, hkn.out, fun e he => by
          obtain ⟨i, hi, rfl⟩ := List.mem_iff_getElem.1 he
          rw [HL.out] at hi
          exact absurd hi (by omega)⟩
        clear h0' h8'
        go_enter Try.func23, Try.ntmps23
        go_wp2
        go_loopw [21] (fun x wr => x = .int .i64 0 ∧ Below w.heap.size w wr) (fun x _ => 0)
        case atStart => exact ⟨rfl, Below.refl _ _⟩
        case round =>
          obtain ⟨rfl, hbel⟩ := hrel
          go_wp2
          go_ret
          exact ⟨rfl, hbel⟩
  · obtain rfl : b = false := by
      cases b
      · rfl
      · have := (hb.1 rfl).1; omega
    have h8' : 8 < (n : Int) := by omega
    clear hb hl
    go_enter Try.func23, Try.ntmps23
    go_wp2
    go_ret
    exact ⟨rfl, Below.refl _ _⟩

set_option maxRecDepth 100000 in
set_option maxHeartbeats 2000000 in
theorem may_any {w : World} {x : Lt} (h : LAt w x) (b : Bool) (hb : b = true ↔ May x.h x.es) :
    Calls Try.prog 11 #[ltV x] w fun e w' => e = .returned (.bool b) ∧ Below w.heap.size w w' := by
  have hten := ten_new w x
  have hbo : Below w.heap.size w (w.alloc (.cells (ltCs x).toArray 25)) := (Below.refl _ _).alloc (Nat.le_refl _) _
  have hre : RE (w.alloc (.cells (ltCs x).toArray 25)) (w.alloc (.cells (ltCs x).toArray 25)).heap.size x.A x.n x.es := (h.below hbo).re
  have hlt : w.heap.size < (w.alloc (.cells (ltCs x).toArray 25)).heap.size := by simp
  have h63 := h.few
  obtain ⟨⟨k, f, t, tm, ix, pv, cm, ok, d⟩, A, n, c, es⟩ := x
  simp only at hre h63
  obtain ⟨w1, hw1⟩ : ∃ w1, w.alloc (.cells (ltCs ⟨⟨k, f, t, tm, ix, pv, cm, ok, d⟩, A, n, c, es⟩).toArray 25) = w1 := ⟨_, rfl⟩
  rw [hw1] at hten hbo hre hlt
  have HW1 : Hid (w.alloc (.cells #[.int .i64 k, .int .i64 f, .int .i64 t, .int .u64 tm, .int .u64 ix, .int .u64 pv, .int .u64 cm, .bool ok, .slice A n c, .string d] 25) = w1) := hw1
  have c0 := hten.c0
  have c1 := hten.c1
  have c2 := hten.c2
  have c8 := hten.c8
  have c9 := hten.c9
  rw [Nat.zero_add] at c1 c2 c8 c9
  simp only at c0 c1 c2 c8 c9
  have hB : Hid (b = true ↔ May ⟨k, f, t, tm, ix, pv, cm, ok, d⟩ es) := hb
  unfold ltV
  simp only
  clear hb hten hw1 h
  by_cases h1 : 1 ≤ k ∧ k ≤ 9 ∧ d.size ≤ 65536
  · obtain ⟨k0, k1, hd⟩ := h1
    have hd' : (d.size : Int) ≤ 65536 := by omega
    obtain ⟨bf, hbf⟩ : ∃ bf, decide (0 ≤ f ∧ f ≤ 255) = bf := ⟨_, rfl⟩
    obtain ⟨bt, hbt⟩ : ∃ bt, decide (0 ≤ t ∧ t ≤ 255) = bt := ⟨_, rfl⟩
    have hpf := place_any f w1
    have hpt := place_any t w1
    rw [hbf] at hpf
    rw [hbt] at hpt
    obtain ⟨bc, hbc⟩ : ∃ bc : Bool, bc = true ↔ Carry k es := by
      by_cases hc : Carry k es
      · exact ⟨true, by simp [hc]⟩
      · exact ⟨false, by simp [hc]⟩
    have hcr := carry_any k (c := c) hre h63 bc hbc
    have HBF := Lib.hid hbf
    have HBT := Lib.hid hbt
    have HBC := Lib.hid hbc
    have hall : Hid (b = (bf && (bt && bc))) := by
      show b = _
      rw [Bool.eq_iff_iff, hB.out]
      simp only [Bool.and_eq_true, hbc, ← hbf, ← hbt, decide_eq_true_eq]
      constructor
      · rintro ⟨l, m1, m2⟩
        exact ⟨⟨l.f0, l.f1⟩, ⟨l.t0, l.t1⟩, l.n, m2, l.e⟩
      · rintro ⟨⟨f0, f1⟩, ⟨t0, t1⟩, n8, m2, he⟩
        exact ⟨⟨by show 0 ≤ k; omega, k1, f0, f1, t0, t1, n8, hd, he⟩, k0, m2⟩
    clear hbf hbt hbc
    rcases bf with _ | _
    · obtain rfl : b = false := hall.out
      go_enter Try.func11, Try.ntmps11
      go_wp2_with fail
      rw [HW1.out]
      go_wp2_with fail
      refine hpf.mono ?_
      rintro e w2 ⟨rfl, rfl⟩
      go_wp2
      go_ret
      exact ⟨rfl, hbo⟩
    · rcases bt with _ | _
      · obtain rfl : b = false := hall.out
        go_enter Try.func11, Try.ntmps11
        go_wp2_with fail
        rw [HW1.out]
        go_wp2_with fail
        refine hpf.mono ?_
        rintro e w2 ⟨rfl, rfl⟩
        go_wp2_with fail
        refine hpt.mono ?_
        rintro e w2 ⟨rfl, rfl⟩
        go_wp2
        go_ret
        exact ⟨rfl, hbo⟩
      · obtain rfl : b = bc := hall.out
        go_enter Try.func11, Try.ntmps11
        go_wp2_with fail
        rw [HW1.out]
        go_wp2_with fail
        refine hpf.mono ?_
        rintro e w2 ⟨rfl, rfl⟩
        go_wp2_with fail
        refine hpt.mono ?_
        rintro e w2 ⟨rfl, rfl⟩
        go_wp2_with fail
        refine hcr.mono ?_
        rintro e w2 ⟨rfl, hb2⟩
        go_wp2
        go_ret
        exact ⟨rfl, hbo.trans (hb2.mono hbo.size)⟩
  · obtain rfl : b = false := by
      cases b
      · rfl
      · obtain ⟨l, m1, _⟩ := hB.out.1 rfl
        exact absurd ⟨m1, l.k1, l.d⟩ h1
    have hor : k < 1 ∨ (1 ≤ k ∧ 9 < k) ∨ (1 ≤ k ∧ k ≤ 9 ∧ 65536 < (d.size : Int)) := by omega
    clear h1
    rcases hor with m0 | ⟨m0, m1⟩ | ⟨m0, m1, m2⟩
    all_goals go_enter Try.func11, Try.ntmps11
    all_goals go_wp2_with fail
    all_goals rw [HW1.out]
    all_goals go_wp2
    all_goals go_ret
    all_goals exact ⟨rfl, hbo⟩
end Go.Proofs.Ytkimeggojcgacaa.WalkA
