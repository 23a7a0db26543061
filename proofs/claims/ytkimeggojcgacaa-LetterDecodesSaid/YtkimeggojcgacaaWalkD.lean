/- Whether a letter may be, by the document, walked. No statement is proved here. -/
import Derived.Test.YtkimeggojcgacaaWalkA
set_option linter.unusedVariables false
set_option linter.unusedSimpArgs false
namespace Go.Proofs.Ytkimeggojcgacaa.WalkD
open Go.RowKit Go.Proofs.Ytkimeggojcgacaa.Kit Go.Proofs.Ytkimeggojcgacaa.Ltr Go.Proofs.Ytkimeggojcgacaa.Lmt Go.Proofs.Ytkimeggojcgacaa.Wr Go.Proofs.Ytkimeggojcgacaa.WalkA
open Go.Proofs.Ytkimeggojcgacaa.State (cell_at free_at lt_at)

/-- The eight tests that come first. -/
def Eight (h : Hd) (n : Nat) : Prop := 1 ≤ h.k ∧ h.k ≤ 9 ∧ 0 ≤ h.f ∧ h.f ≤ 255 ∧ 0 ≤ h.t ∧ h.t ≤ 255 ∧ (n : Int) ≤ 8 ∧ (h.d.size : Int) ≤ 65536
section
variable {w : World} {k f t tm ix pv cm : Int} {ok : Bool} {d : ByteArray} {A : Option Addr} {n c : Nat} {es : List Ent}
set_option maxRecDepth 100000 in
set_option maxHeartbeats 4000000 in
theorem rmay_e1 (g0 : (k != 3) = true) (g1 : 0 < (n : Int)) (h : LAt w ⟨⟨k, f, t, tm, ix, pv, cm, ok, d⟩, A, n, c, es⟩) (m : ¬ Eight ⟨k, f, t, tm, ix, pv, cm, ok, d⟩ n) :
    Calls Try.prog 19 #[ltV ⟨⟨k, f, t, tm, ix, pv, cm, ok, d⟩, A, n, c, es⟩] w fun e w' => e = .returned (.bool false) ∧ Below w.heap.size w w' := by
  have hten := ten_new w ⟨⟨k, f, t, tm, ix, pv, cm, ok, d⟩, A, n, c, es⟩
  have hbo : Below w.heap.size w (w.alloc (.cells (ltCs ⟨⟨k, f, t, tm, ix, pv, cm, ok, d⟩, A, n, c, es⟩).toArray 25)) := (Below.refl _ _).alloc (Nat.le_refl _) _
  have hlt : w.heap.size < (w.alloc (.cells (ltCs ⟨⟨k, f, t, tm, ix, pv, cm, ok, d⟩, A, n, c, es⟩).toArray 25)).heap.size := by simp
  obtain ⟨w1, hw1⟩ : ∃ w1, w.alloc (.cells (ltCs ⟨⟨k, f, t, tm, ix, pv, cm, ok, d⟩, A, n, c, es⟩).toArray 25) = w1 := ⟨_, rfl⟩
  rw [hw1] at hten hbo hlt
  have HW1 : Hid (w.alloc (.cells #[.int .i64 k, .int .i64 f, .int .i64 t, .int .u64 tm, .int .u64 ix, .int .u64 pv, .int .u64 cm, .bool ok, .slice A n c, .string d] 25) = w1) := hw1
  have c0 := hten.c0
  have c1 := hten.c1
  have c2 := hten.c2
  have c8 := hten.c8
  have c9 := hten.c9
  rw [Nat.zero_add] at c1 c2 c8 c9
  simp only at c0 c1 c2 c8 c9
  unfold Eight at m
  simp only at m
  unfold ltV
  simp only
  have hor : ¬ 1 ≤ k ∨ (1 ≤ k ∧ ¬ k ≤ 9) ∨ (1 ≤ k ∧ k ≤ 9 ∧ ¬ 0 ≤ f) ∨ (1 ≤ k ∧ k ≤ 9 ∧ 0 ≤ f ∧ ¬ f ≤ 255) ∨ (1 ≤ k ∧ k ≤ 9 ∧ 0 ≤ f ∧ f ≤ 255 ∧ ¬ 0 ≤ t) ∨ (1 ≤ k ∧ k ≤ 9 ∧ 0 ≤ f ∧ f ≤ 255 ∧ 0 ≤ t ∧ ¬ t ≤ 255) ∨ (1 ≤ k ∧ k ≤ 9 ∧ 0 ≤ f ∧ f ≤ 255 ∧ 0 ≤ t ∧ t ≤ 255 ∧ ¬ (n : Int) ≤ 8) ∨ (1 ≤ k ∧ k ≤ 9 ∧ 0 ≤ f ∧ f ≤ 255 ∧ 0 ≤ t ∧ t ≤ 255 ∧ (n : Int) ≤ 8 ∧ ¬ (d.size : Int) ≤ 65536) := by omega
  clear m hten hw1 h
  rcases hor with m | ⟨m0, m⟩ | ⟨m0, m1, m⟩ | ⟨m0, m1, m2, m⟩ | ⟨m0, m1, m2, m3, m⟩ | ⟨m0, m1, m2, m3, m4, m⟩ | ⟨m0, m1, m2, m3, m4, m5, m⟩ | ⟨m0, m1, m2, m3, m4, m5, m6, m⟩
  all_goals go_enter Try.func19, Try.ntmps19
  all_goals go_wp2_with fail
  all_goals rw [HW1.out]
  all_goals go_wp2
  all_goals go_ret
  all_goals exact ⟨rfl, hbo⟩
set_option maxRecDepth 100000 in
set_option maxHeartbeats 4000000 in
theorem rmay_e2 (g0 : (k != 3) = false) (h : LAt w ⟨⟨k, f, t, tm, ix, pv, cm, ok, d⟩, A, n, c, es⟩) (m : ¬ Eight ⟨k, f, t, tm, ix, pv, cm, ok, d⟩ n) :
    Calls Try.prog 19 #[ltV ⟨⟨k, f, t, tm, ix, pv, cm, ok, d⟩, A, n, c, es⟩] w fun e w' => e = .returned (.bool false) ∧ Below w.heap.size w w' := by
  have hten := ten_new w ⟨⟨k, f, t, tm, ix, pv, cm, ok, d⟩, A, n, c, es⟩
  have hbo : Below w.heap.size w (w.alloc (.cells (ltCs ⟨⟨k, f, t, tm, ix, pv, cm, ok, d⟩, A, n, c, es⟩).toArray 25)) := (Below.refl _ _).alloc (Nat.le_refl _) _
  have hlt : w.heap.size < (w.alloc (.cells (ltCs ⟨⟨k, f, t, tm, ix, pv, cm, ok, d⟩, A, n, c, es⟩).toArray 25)).heap.size := by simp
  obtain ⟨w1, hw1⟩ : ∃ w1, w.alloc (.cells (ltCs ⟨⟨k, f, t, tm, ix, pv, cm, ok, d⟩, A, n, c, es⟩).toArray 25) = w1 := ⟨_, rfl⟩
  rw [hw1] at hten hbo hlt
  have HW1 : Hid (w.alloc (.cells #[.int .i64 k, .int .i64 f, .int .i64 t, .int .u64 tm, .int .u64 ix, .int .u64 pv, .int .u64 cm, .bool ok, .slice A n c, .string d] 25) = w1) := hw1
  have c0 := hten.c0
  have c1 := hten.c1
  have c2 := hten.c2
  have c8 := hten.c8
  have c9 := hten.c9
  rw [Nat.zero_add] at c1 c2 c8 c9
  simp only at c0 c1 c2 c8 c9
  unfold Eight at m
  simp only at m
  unfold ltV
  simp only
  have hor : ¬ 1 ≤ k ∨ (1 ≤ k ∧ ¬ k ≤ 9) ∨ (1 ≤ k ∧ k ≤ 9 ∧ ¬ 0 ≤ f) ∨ (1 ≤ k ∧ k ≤ 9 ∧ 0 ≤ f ∧ ¬ f ≤ 255) ∨ (1 ≤ k ∧ k ≤ 9 ∧ 0 ≤ f ∧ f ≤ 255 ∧ ¬ 0 ≤ t) ∨ (1 ≤ k ∧ k ≤ 9 ∧ 0 ≤ f ∧ f ≤ 255 ∧ 0 ≤ t ∧ ¬ t ≤ 255) ∨ (1 ≤ k ∧ k ≤ 9 ∧ 0 ≤ f ∧ f ≤ 255 ∧ 0 ≤ t ∧ t ≤ 255 ∧ ¬ (n : Int) ≤ 8) ∨ (1 ≤ k ∧ k ≤ 9 ∧ 0 ≤ f ∧ f ≤ 255 ∧ 0 ≤ t ∧ t ≤ 255 ∧ (n : Int) ≤ 8 ∧ ¬ (d.size : Int) ≤ 65536) := by omega
  clear m hten hw1 h
  rcases hor with m | ⟨m0, m⟩ | ⟨m0, m1, m⟩ | ⟨m0, m1, m2, m⟩ | ⟨m0, m1, m2, m3, m⟩ | ⟨m0, m1, m2, m3, m4, m⟩ | ⟨m0, m1, m2, m3, m4, m5, m⟩ | ⟨m0, m1, m2, m3, m4, m5, m6, m⟩
  all_goals go_enter Try.func19, Try.ntmps19
  all_goals go_wp2_with fail
  all_goals rw [HW1.out]
  all_goals go_wp2
  all_goals
    go_loopw [3, 4] (fun y x wr => y = .bool false ∧ x = .int .i64 0 ∧ wr = w1) (fun _ _ _ => 0)
    case atStart => exact ⟨rfl, rfl, rfl⟩
    case round =>
      obtain ⟨rfl, rfl, rfl⟩ := hrel
      go_wp2
      all_goals go_ret
      all_goals exact ⟨rfl, hbo⟩
set_option maxRecDepth 100000 in
set_option maxHeartbeats 4000000 in
theorem rmay_e3 (g0 : (k != 3) = true) (h : LAt w ⟨⟨k, f, t, tm, ix, pv, cm, ok, d⟩, A, 0, c, es⟩) (m : ¬ Eight ⟨k, f, t, tm, ix, pv, cm, ok, d⟩ 0) :
    Calls Try.prog 19 #[ltV ⟨⟨k, f, t, tm, ix, pv, cm, ok, d⟩, A, 0, c, es⟩] w fun e w' => e = .returned (.bool false) ∧ Below w.heap.size w w' := by
  have hten := ten_new w ⟨⟨k, f, t, tm, ix, pv, cm, ok, d⟩, A, 0, c, es⟩
  have hbo : Below w.heap.size w (w.alloc (.cells (ltCs ⟨⟨k, f, t, tm, ix, pv, cm, ok, d⟩, A, 0, c, es⟩).toArray 25)) := (Below.refl _ _).alloc (Nat.le_refl _) _
  have hlt : w.heap.size < (w.alloc (.cells (ltCs ⟨⟨k, f, t, tm, ix, pv, cm, ok, d⟩, A, 0, c, es⟩).toArray 25)).heap.size := by simp
  obtain ⟨w1, hw1⟩ : ∃ w1, w.alloc (.cells (ltCs ⟨⟨k, f, t, tm, ix, pv, cm, ok, d⟩, A, 0, c, es⟩).toArray 25) = w1 := ⟨_, rfl⟩
  rw [hw1] at hten hbo hlt
  have HW1 : Hid (w.alloc (.cells #[.int .i64 k, .int .i64 f, .int .i64 t, .int .u64 tm, .int .u64 ix, .int .u64 pv, .int .u64 cm, .bool ok, .slice A 0 c, .string d] 25) = w1) := hw1
  have c0 := hten.c0
  have c1 := hten.c1
  have c2 := hten.c2
  have c8 := hten.c8
  have c9 := hten.c9
  rw [Nat.zero_add] at c1 c2 c8 c9
  simp only at c0 c1 c2 c8 c9
  unfold Eight at m
  simp only at m
  unfold ltV
  simp only
  have hor : ¬ 1 ≤ k ∨ (1 ≤ k ∧ ¬ k ≤ 9) ∨ (1 ≤ k ∧ k ≤ 9 ∧ ¬ 0 ≤ f) ∨ (1 ≤ k ∧ k ≤ 9 ∧ 0 ≤ f ∧ ¬ f ≤ 255) ∨ (1 ≤ k ∧ k ≤ 9 ∧ 0 ≤ f ∧ f ≤ 255 ∧ ¬ 0 ≤ t) ∨ (1 ≤ k ∧ k ≤ 9 ∧ 0 ≤ f ∧ f ≤ 255 ∧ 0 ≤ t ∧ ¬ t ≤ 255) ∨ (1 ≤ k ∧ k ≤ 9 ∧ 0 ≤ f ∧ f ≤ 255 ∧ 0 ≤ t ∧ t ≤ 255 ∧ ¬ (d.size : Int) ≤ 65536) := by omega
  clear m hten hw1 h
  rcases hor with m | ⟨m0, m⟩ | ⟨m0, m1, m⟩ | ⟨m0, m1, m2, m⟩ | ⟨m0, m1, m2, m3, m⟩ | ⟨m0, m1, m2, m3, m4, m⟩ | ⟨m0, m1, m2, m3, m4, m5, m⟩
  all_goals go_enter Try.func19, Try.ntmps19
  all_goals go_wp2_with fail
  all_goals rw [HW1.out]
  all_goals go_wp2
  all_goals
    go_loopw [3, 4] (fun y x wr => y = .bool false ∧ x = .int .i64 0 ∧ wr = w1) (fun _ _ _ => 0)
    case atStart => exact ⟨rfl, rfl, rfl⟩
    case round =>
      obtain ⟨rfl, rfl, rfl⟩ := hrel
      go_wp2
      all_goals go_ret
      all_goals exact ⟨rfl, hbo⟩
/-- Where one of them fails. -/
theorem rmay_eight (h : LAt w ⟨⟨k, f, t, tm, ix, pv, cm, ok, d⟩, A, n, c, es⟩) (m : ¬ Eight ⟨k, f, t, tm, ix, pv, cm, ok, d⟩ n) :
    Calls Try.prog 19 #[ltV ⟨⟨k, f, t, tm, ix, pv, cm, ok, d⟩, A, n, c, es⟩] w fun e w' => e = .returned (.bool false) ∧ Below w.heap.size w w' := by
  by_cases hk3 : k = 3
  · exact rmay_e2 (by simp [hk3]) h m
  · by_cases hn : 0 < (n : Int)
    · exact rmay_e1 (by simpa using hk3) hn h m
    · obtain rfl : n = 0 := by omega
      exact rmay_e3 (by simpa using hk3) h m
set_option maxRecDepth 100000 in
set_option maxHeartbeats 4000000 in
theorem rmay_r1 (g0 : (k != 3) = true) (g1 : 0 < (n : Int)) (h : LAt w ⟨⟨k, f, t, tm, ix, pv, cm, ok, d⟩, A, n, c, es⟩) (m : Eight ⟨k, f, t, tm, ix, pv, cm, ok, d⟩ n) (b : Bool) (hb : b = true ↔ ((k ≠ 3 → n = 0) ∧ ∀ e ∈ es, EMay e)) :
    Calls Try.prog 19 #[ltV ⟨⟨k, f, t, tm, ix, pv, cm, ok, d⟩, A, n, c, es⟩] w fun e w' => e = .returned (.bool b) ∧ Below w.heap.size w w' := by
  have hten := ten_new w ⟨⟨k, f, t, tm, ix, pv, cm, ok, d⟩, A, n, c, es⟩
  have hbo : Below w.heap.size w (w.alloc (.cells (ltCs ⟨⟨k, f, t, tm, ix, pv, cm, ok, d⟩, A, n, c, es⟩).toArray 25)) := (Below.refl _ _).alloc (Nat.le_refl _) _
  have hlt : w.heap.size < (w.alloc (.cells (ltCs ⟨⟨k, f, t, tm, ix, pv, cm, ok, d⟩, A, n, c, es⟩).toArray 25)).heap.size := by simp
  have hr : RE (w.alloc (.cells (ltCs ⟨⟨k, f, t, tm, ix, pv, cm, ok, d⟩, A, n, c, es⟩).toArray 25)) (w.alloc (.cells (ltCs ⟨⟨k, f, t, tm, ix, pv, cm, ok, d⟩, A, n, c, es⟩).toArray 25)).heap.size A n es := (h.below hbo).re
  have hlen : es.length = n := h.len
  obtain ⟨w1, hw1⟩ : ∃ w1, w.alloc (.cells (ltCs ⟨⟨k, f, t, tm, ix, pv, cm, ok, d⟩, A, n, c, es⟩).toArray 25) = w1 := ⟨_, rfl⟩
  rw [hw1] at hten hbo hlt hr
  have HW1 : Hid (w.alloc (.cells #[.int .i64 k, .int .i64 f, .int .i64 t, .int .u64 tm, .int .u64 ix, .int .u64 pv, .int .u64 cm, .bool ok, .slice A n c, .string d] 25) = w1) := hw1
  have c0 := hten.c0
  have c1 := hten.c1
  have c2 := hten.c2
  have c8 := hten.c8
  have c9 := hten.c9
  rw [Nat.zero_add] at c1 c2 c8 c9
  simp only at c0 c1 c2 c8 c9
  have HB := Lib.hid hb
  have HL := Lib.hid hlen
  unfold ltV
  simp only
  obtain ⟨m0, m1, m2, m3, m4, m5, m6, m7⟩ := m
  simp only at m0 m1 m2 m3 m4 m5 m6 m7
  clear hten hw1 h hb hlen
  obtain rfl : b = false := by
    cases b
    · rfl
    · have := (HB.out.1 rfl).1 (by simpa using g0); omega
  go_enter Try.func19, Try.ntmps19
  go_wp2_with fail
  rw [HW1.out]
  go_wp2
  go_ret
  exact ⟨rfl, hbo⟩
set_option maxRecDepth 100000 in
set_option maxHeartbeats 4000000 in
theorem rmay_r2 (g0 : (k != 3) = false) (h : LAt w ⟨⟨k, f, t, tm, ix, pv, cm, ok, d⟩, A, n, c, es⟩) (m : Eight ⟨k, f, t, tm, ix, pv, cm, ok, d⟩ n) (b : Bool) (hb : b = true ↔ ((k ≠ 3 → n = 0) ∧ ∀ e ∈ es, EMay e)) :
    Calls Try.prog 19 #[ltV ⟨⟨k, f, t, tm, ix, pv, cm, ok, d⟩, A, n, c, es⟩] w fun e w' => e = .returned (.bool b) ∧ Below w.heap.size w w' := by
  have hten := ten_new w ⟨⟨k, f, t, tm, ix, pv, cm, ok, d⟩, A, n, c, es⟩
  have hbo : Below w.heap.size w (w.alloc (.cells (ltCs ⟨⟨k, f, t, tm, ix, pv, cm, ok, d⟩, A, n, c, es⟩).toArray 25)) := (Below.refl _ _).alloc (Nat.le_refl _) _
  have hlt : w.heap.size < (w.alloc (.cells (ltCs ⟨⟨k, f, t, tm, ix, pv, cm, ok, d⟩, A, n, c, es⟩).toArray 25)).heap.size := by simp
  have hr : RE (w.alloc (.cells (ltCs ⟨⟨k, f, t, tm, ix, pv, cm, ok, d⟩, A, n, c, es⟩).toArray 25)) (w.alloc (.cells (ltCs ⟨⟨k, f, t, tm, ix, pv, cm, ok, d⟩, A, n, c, es⟩).toArray 25)).heap.size A n es := (h.below hbo).re
  have hlen : es.length = n := h.len
  obtain ⟨w1, hw1⟩ : ∃ w1, w.alloc (.cells (ltCs ⟨⟨k, f, t, tm, ix, pv, cm, ok, d⟩, A, n, c, es⟩).toArray 25) = w1 := ⟨_, rfl⟩
  rw [hw1] at hten hbo hlt hr
  have HW1 : Hid (w.alloc (.cells #[.int .i64 k, .int .i64 f, .int .i64 t, .int .u64 tm, .int .u64 ix, .int .u64 pv, .int .u64 cm, .bool ok, .slice A n c, .string d] 25) = w1) := hw1
  have c0 := hten.c0
  have c1 := hten.c1
  have c2 := hten.c2
  have c8 := hten.c8
  have c9 := hten.c9
  rw [Nat.zero_add] at c1 c2 c8 c9
  simp only at c0 c1 c2 c8 c9
  have HB := Lib.hid hb
  have HL := Lib.hid hlen
  unfold ltV
  simp only
  obtain ⟨m0, m1, m2, m3, m4, m5, m6, m7⟩ := m
  simp only at m0 m1 m2 m3 m4 m5 m6 m7
  have HK : Hid (k ≠ 3 → n = 0) := fun h => absurd (by simpa using g0) h
  clear hten hw1 h hb hlen
  go_enter Try.func19, Try.ntmps19
  go_wp2_with fail
  rw [HW1.out]
  go_wp2
  go_loopw [3, 4] (fun y x wr => ∃ (j : Nat) (u : Bool), j ≤ n ∧ x = .int .i64 (j : Int) ∧ y = .bool u ∧ Below w1.heap.size w1 wr ∧ Hid (u = true → ∀ i, i < j → ∀ x, es[i]? = some x → EMay x) ∧ Hid (u = false → b = false)) (fun _ x _ => n - (intOf x).toNat)
  case atStart => exact ⟨0, true, by omega, rfl, rfl, Below.refl _ _, fun _ i hi => absurd hi (by omega), fun h => by cases h⟩
  case round =>
    obtain ⟨j, u, hj, rfl, rfl, hbel, hall, hno⟩ := hrel
    have d8 := (hbel.cell (p := ⟨w.heap.size, 8, none⟩) hlt).trans c8
    have hltr := Nat.lt_of_lt_of_le hlt hbel.size
    have HBW : Hid (Below w.heap.size w wr) := hbo.trans (hbel.mono hbo.size)
    cases u
    · have hbf : b = false := hno.out rfl
      subst hbf
      go_wp2
      all_goals go_ret
      all_goals exact ⟨rfl, HBW.out⟩
    · by_cases hjn : j < n
      · have HJ := Lib.hid hjn
        obtain ⟨bk, o, e, rfl, hbl, he, hfour⟩ := RE.at_ hr hjn
        have hfr := Four.below hfour hbel hbl
        have y0 := hfr.c0
        have y1 := hfr.c1
        have y2 := hfr.c2
        have y3 := hfr.c3
        obtain ⟨tm', ix', kd, dt⟩ := e
        simp only at y0 y1 y2 y3
        have HE := Lib.hid he
        clear hfr hfour he
        have HBO : Hid (∀ o, Below w1.heap.size w1 (wr.alloc o)) := fun o => hbel.alloc hbel.size _
        by_cases hm : EMay ⟨tm', ix', kd, dt⟩
        · have HM := Lib.hid hm
          obtain ⟨p0, p1, p2⟩ := hm
          simp only at p0 p1 p2
          have p2' : (dt.size : Int) ≤ 65536 := by omega
          have hx := emay_first HE.out (hall.out rfl) HM.out
          have HX := Lib.hid hx
          clear hx hall hno
          go_wp2
          go_roundw
          case rel => exact ⟨j + 1, true, HJ.out, by go_num, rfl, HBO.out _, fun _ => HX.out, fun h => by cases h⟩
          case measure => have := HJ.out; simp [intOf]; omega
        · have hbf : b = false := by
            cases b
            · rfl
            · exact absurd ((HB.out.1 rfl).2 _ (List.mem_of_getElem? HE.out)) hm
          subst hbf
          have hor : ¬ 0 ≤ kd ∨ (0 ≤ kd ∧ ¬ kd ≤ 2) ∨ (0 ≤ kd ∧ kd ≤ 2 ∧ ¬ (dt.size : Int) ≤ 65536) := by
            unfold EMay at hm
            simp only at hm
            omega
          clear hm hall hno
          rcases hor with p0 | ⟨p0, p1⟩ | ⟨p0, p1, p2⟩
          go_wp2
          all_goals
            go_roundw
            case rel => exact ⟨j + 1, false, HJ.out, by go_num, rfl, HBO.out _, (fun h => by cases h), fun _ => by first | rfl | trivial⟩
            case measure => have := HJ.out; simp [intOf]; omega
      · obtain rfl : j = n := by omega
        have hbt : b = true := HB.out.2 ⟨HK.out, fun e he => by
          obtain ⟨i, hi, rfl⟩ := List.mem_iff_getElem.1 he
          exact hall.out rfl i (by rw [← HL.out]; exact hi) _ (List.getElem?_eq_getElem hi)⟩
        subst hbt
        go_wp2
        go_ret
        exact ⟨rfl, HBW.out⟩
set_option maxRecDepth 100000 in
set_option maxHeartbeats 4000000 in
theorem rmay_r3 (g0 : (k != 3) = true) (h : LAt w ⟨⟨k, f, t, tm, ix, pv, cm, ok, d⟩, A, 0, c, es⟩) (m : Eight ⟨k, f, t, tm, ix, pv, cm, ok, d⟩ 0) (b : Bool) (hb : b = true ↔ ((k ≠ 3 → (0 : Nat) = 0) ∧ ∀ e ∈ es, EMay e)) :
    Calls Try.prog 19 #[ltV ⟨⟨k, f, t, tm, ix, pv, cm, ok, d⟩, A, 0, c, es⟩] w fun e w' => e = .returned (.bool b) ∧ Below w.heap.size w w' := by
  have hten := ten_new w ⟨⟨k, f, t, tm, ix, pv, cm, ok, d⟩, A, 0, c, es⟩
  have hbo : Below w.heap.size w (w.alloc (.cells (ltCs ⟨⟨k, f, t, tm, ix, pv, cm, ok, d⟩, A, 0, c, es⟩).toArray 25)) := (Below.refl _ _).alloc (Nat.le_refl _) _
  have hlt : w.heap.size < (w.alloc (.cells (ltCs ⟨⟨k, f, t, tm, ix, pv, cm, ok, d⟩, A, 0, c, es⟩).toArray 25)).heap.size := by simp
  have hr : RE (w.alloc (.cells (ltCs ⟨⟨k, f, t, tm, ix, pv, cm, ok, d⟩, A, 0, c, es⟩).toArray 25)) (w.alloc (.cells (ltCs ⟨⟨k, f, t, tm, ix, pv, cm, ok, d⟩, A, 0, c, es⟩).toArray 25)).heap.size A 0 es := (h.below hbo).re
  have hlen : es.length = 0 := h.len
  obtain ⟨w1, hw1⟩ : ∃ w1, w.alloc (.cells (ltCs ⟨⟨k, f, t, tm, ix, pv, cm, ok, d⟩, A, 0, c, es⟩).toArray 25) = w1 := ⟨_, rfl⟩
  rw [hw1] at hten hbo hlt hr
  have HW1 : Hid (w.alloc (.cells #[.int .i64 k, .int .i64 f, .int .i64 t, .int .u64 tm, .int .u64 ix, .int .u64 pv, .int .u64 cm, .bool ok, .slice A 0 c, .string d] 25) = w1) := hw1
  have c0 := hten.c0
  have c1 := hten.c1
  have c2 := hten.c2
  have c8 := hten.c8
  have c9 := hten.c9
  rw [Nat.zero_add] at c1 c2 c8 c9
  simp only at c0 c1 c2 c8 c9
  have HB := Lib.hid hb
  have HL := Lib.hid hlen
  unfold ltV
  simp only
  obtain ⟨m0, m1, m2, m3, m4, m5, m6, m7⟩ := m
  simp only at m0 m1 m2 m3 m4 m5 m6 m7
  obtain rfl : b = true := HB.out.2 ⟨fun _ => rfl, fun e he => by have := List.length_pos_of_mem he; omega⟩
  clear hten hw1 h hb hlen
  go_enter Try.func19, Try.ntmps19
  go_wp2_with fail
  rw [HW1.out]
  go_wp2
  go_loopw [3, 4] (fun y x wr => y = .bool true ∧ x = .int .i64 0 ∧ wr = w1) (fun _ _ _ => 0)
  case atStart => exact ⟨rfl, rfl, rfl⟩
  case round =>
    obtain ⟨rfl, rfl, rfl⟩ := hrel
    go_wp2
    go_ret
    exact ⟨rfl, hbo⟩
/-- Where all of them hold. -/
theorem rmay_rest (h : LAt w ⟨⟨k, f, t, tm, ix, pv, cm, ok, d⟩, A, n, c, es⟩) (m : Eight ⟨k, f, t, tm, ix, pv, cm, ok, d⟩ n) (b : Bool) (hb : b = true ↔ ((k ≠ 3 → n = 0) ∧ ∀ e ∈ es, EMay e)) :
    Calls Try.prog 19 #[ltV ⟨⟨k, f, t, tm, ix, pv, cm, ok, d⟩, A, n, c, es⟩] w fun e w' => e = .returned (.bool b) ∧ Below w.heap.size w w' := by
  by_cases hk3 : k = 3
  · exact rmay_r2 (by simp [hk3]) h m b hb
  · by_cases hn : 0 < (n : Int)
    · exact rmay_r1 (by simpa using hk3) hn h m b hb
    · obtain rfl : n = 0 := by omega
      exact rmay_r3 (by simpa using hk3) h m b hb
end
/-- What the document's May answers. -/
theorem rmay_any {w : World} {x : Lt} (h : LAt w x) (b : Bool) (hb : b = true ↔ May x.h x.es) :
    Calls Try.prog 19 #[ltV x] w fun e w' => e = .returned (.bool b) ∧ Below w.heap.size w w' := by
  have hl := h.len
  obtain ⟨⟨k, f, t, tm, ix, pv, cm, ok, d⟩, A, n, c, es⟩ := x
  simp only at hl
  by_cases m : Eight ⟨k, f, t, tm, ix, pv, cm, ok, d⟩ n
  · refine rmay_rest h m b (hb.trans ?_)
    obtain ⟨m0, m1, m2, m3, m4, m5, m6, m7⟩ := m
    simp only at m0 m1 m2 m3 m4 m5 m6 m7
    constructor
    · rintro ⟨l, _, h3⟩
      exact ⟨fun h => by rw [← hl]; exact h3 h, l.e⟩
    · rintro ⟨h3, he⟩
      exact ⟨⟨by show 0 ≤ k; omega, m1, m2, m3, m4, m5, by show es.length ≤ 8; omega, by show d.size ≤ 65536; omega, he⟩, m0, fun h => by rw [hl]; exact h3 h⟩
  · obtain rfl : b = false := by
      cases b
      · rfl
      · obtain ⟨l, m0, _⟩ := hb.1 rfl
        obtain ⟨_, m1, m2, m3, m4, m5, m6, m7, _⟩ := l
        simp only at m0 m1 m2 m3 m4 m5 m6 m7
        exact absurd ⟨m0, m1, m2, m3, m4, m5, by show (n : Int) ≤ 8; omega, by show (d.size : Int) ≤ 65536; omega⟩ m
    exact rmay_eight h m
end Go.Proofs.Ytkimeggojcgacaa.WalkD
