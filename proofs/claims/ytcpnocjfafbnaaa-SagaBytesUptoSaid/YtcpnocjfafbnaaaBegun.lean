/- What each statement of layer 14 asks first, walked. No statement is proved here. -/
import Derived.Test.YtcpnocjfafbnaaaNewS
set_option linter.unusedVariables false
set_option linter.unusedSimpArgs false
namespace Go.Proofs.Ytcpnocjfafbnaaa.Begun
open Go.RowKit Go.Proofs.Ytcpnocjfafbnaaa.Kit Go.Proofs.Ytcpnocjfafbnaaa.Stq Go.Proofs.Ytcpnocjfafbnaaa.Pln Go.Proofs.Ytcpnocjfafbnaaa.Sag Go.Proofs.Ytcpnocjfafbnaaa.SagAt Go.Proofs.Ytcpnocjfafbnaaa.WalkB Go.Proofs.Ytcpnocjfafbnaaa.WalkC Go.Proofs.Ytcpnocjfafbnaaa.NewS
open Go.Proofs.Ytcpnocjfafbnaaa.State (Only cell_at free_at lt_at)

def la : Sp := ⟨0, ⟨#[97]⟩, 1⟩
def lb : Sp := ⟨0, ⟨#[98]⟩, 1⟩
theorem two_sp (w : World) (a b : Sp) (t : TypeId) : RS (w.alloc (.cells (spCs a ++ spCs b).toArray t)) (w.heap.size + 1) (some ⟨w.heap.size, 0, none⟩) 2 [a, b] := by
  refine ⟨by rw [scells_length]; rfl, fun _ => ⟨_, rfl, Nat.lt_succ_self _, fun j x hj => ?_⟩⟩
  rw [scells_cons, scells_one_sp] at hj
  rw [Addr.add_lit, Nat.zero_add, cell_of_row _ _ j _ t (0, 0) (heap_alloc_new w _)]
  simpa using hj
theorem ab_chk : chk [la, lb] = 0 := by decide
def s0 : Sg := ⟨[la, lb], 1, 0, 0⟩
def s1 : Sg := ⟨[la, lb], 1, 1, 0⟩
def s2 : Sg := ⟨[la, lb], 2, 0, 0⟩
def s3 : Sg := ⟨[la, lb], 4, 0, 0⟩
theorem t1 : takes s0 0 false 0 true = true := by decide
theorem o1 : outc s0 0 false 0 true = s1 := by unfold outc; rw [t1]; rfl
theorem t2 : takes s1 1 false 0 false = true := by decide
theorem o2 : outc s1 1 false 0 false = s2 := by unfold outc; rw [t2]; rfl
theorem t3 : takes s2 0 true 0 true = true := by decide
theorem o3 : outc s2 0 true 0 true = s3 := by unfold outc; rw [t3]; rfl
/-- What the three outcomes leave, in plain words. -/
def Left (w : World) (st cu : Int) (e : Ending) (w' : World) : Prop := ∃ A c, e = .returned (.tuple #[.agg #[.slice A 2 c, .int .i64 st, .int .i64 cu, .int .i64 0], .bool true]) ∧ At w' A [la, lb] ∧ Fresh w.heap.size A 2 ∧ Below w.heap.size w w'
theorem c1 {w : World} {A : Option Addr} (c : Nat) (h : At w A [la, lb]) : Calls Try.prog 10 #[.agg #[.slice A 2 c, .int .i64 1, .int .i64 0, .int .i64 0], .int .i64 0, .bool false, .int .i64 0, .bool true] w (Left w 1 1) := outcome_any (s := s0) c h 0 false 0 true (Lib.hid o1) (Lib.hid t1)
theorem c2 {w : World} {A : Option Addr} (c : Nat) (h : At w A [la, lb]) : Calls Try.prog 10 #[.agg #[.slice A 2 c, .int .i64 1, .int .i64 1, .int .i64 0], .int .i64 1, .bool false, .int .i64 0, .bool false] w (Left w 2 0) := outcome_any (s := s1) c h 1 false 0 false (Lib.hid o2) (Lib.hid t2)
theorem c3 {w : World} {A : Option Addr} (c : Nat) (h : At w A [la, lb]) : Calls Try.prog 10 #[.agg #[.slice A 2 c, .int .i64 2, .int .i64 0, .int .i64 0], .int .i64 0, .bool true, .int .i64 0, .bool true] w (Left w 4 0) := outcome_any (s := s2) c h 0 true 0 true (Lib.hid o3) (Lib.hid t3)
set_option maxRecDepth 100000 in
set_option maxHeartbeats 4000000 in
theorem begun_true (w : World) : Calls Try.prog 9 #[] w fun e w' => e = .returned (.bool true) ∧ Below w.heap.size w w' := by
  have hrs : RS (w.alloc (.cells (spCs la ++ spCs lb).toArray 42)) (w.heap.size + 1) (some ⟨w.heap.size, 0, none⟩) 2 [la, lb] := two_sp w la lb 42
  have hb1 : Below w.heap.size w (w.alloc (.cells (spCs la ++ spCs lb).toArray 42)) := (Below.refl _ _).alloc (Nat.le_refl _) _
  obtain ⟨w1, hw1⟩ : ∃ w1, w.alloc (.cells (spCs la ++ spCs lb).toArray 42) = w1 := ⟨_, rfl⟩
  have hs1 : w.heap.size + 1 = w1.heap.size := by rw [← hw1]; simp
  rw [hw1, hs1] at hrs
  rw [hw1] at hb1
  have HW1 : Hid (w.alloc (.cells #[.int .i64 0, .string ⟨#[97]⟩, .int .i64 1, .int .i64 0, .string ⟨#[98]⟩, .int .i64 1] 42) = w1) := hw1
  have ha1 : At w1 (some ⟨w.heap.size, 0, none⟩) [la, lb] := ⟨hrs, by decide, fun e he => by
    simp only [List.mem_cons, List.not_mem_nil, or_false] at he
    rcases he with rfl | rfl <;> decide⟩
  have HC := Lib.hid ab_chk
  have hnew := fun c => new_yes c ha1 HC
  simp only [List.length_cons, List.length_nil] at hnew
  have HN := Lib.hid hnew
  have HB1 := Lib.hid hb1
  clear hw1 hs1 hrs hnew hb1 ha1
  go_enter Try.func9, Try.ntmps9
  go_wp2_with fail
  rw [HW1.out]
  with_reducible refine (HN.out _).mono ?_
  rintro e w2 ⟨A2, k2, rfl, ha2, hf2, hb2⟩
  have h2 : SB w1 (w2.alloc (.cells #[.slice A2 2 k2, .int .i64 1, .int .i64 0, .int .i64 0] 24)) w2.heap.size A2 k2 s0 := sb_new (s := s0) hb2 ha2
  obtain ⟨w3, hw3⟩ : ∃ w3, w2.alloc (.cells #[.slice A2 2 k2, .int .i64 1, .int .i64 0, .int .i64 0] 24) = w3 := ⟨_, rfl⟩
  rw [hw3] at h2
  have HW3 := Lib.hid hw3
  obtain ⟨p, hp⟩ : ∃ p, w2.heap.size = p := ⟨_, rfl⟩
  rw [hp] at h2
  have HH2 := Lib.hid h2
  have HP := Lib.hid hp
  clear hw3 ha2 hf2 hb2 hp h2
  go_wp2_with fail
  rw [HW3.out, HP.out]
  with_reducible refine (c1 _ HH2.out.at_).mono ?_
  rintro e w4 ⟨A4, k4, rfl, ha4, hf4, hb4⟩
  obtain ⟨w5, hw5, h5⟩ := HH2.out.put (s' := s1) (c' := k4) hb4 ha4 hf4
  have HW5 : Hid ((((w4.setCell ⟨p, 0, none⟩ (.slice A4 2 k4)).setCell ⟨p, 1, none⟩ (.int .i64 1)).setCell ⟨p, 2, none⟩ (.int .i64 1)).setCell ⟨p, 3, none⟩ (.int .i64 0) = w5) := hw5
  have hx := HH2.out.box.below hb4
  have z0 := hx.c0
  have z1 := hx.c1
  have z2 := hx.c2
  have z3 := hx.c3
  have f0 := hx.free 0
  have f1 := hx.free 1
  have f2 := hx.free 2
  have f3 := hx.free 3
  have ltx := hx.lt
  have HH5 := Lib.hid h5
  clear hw5 h5 hx ha4 hf4 hb4
  go_wp2_with fail
  rw [HW5.out]
  clear z0 z1 z2 z3 f0 f1 f2 f3 ltx
  with_reducible refine (c2 _ HH5.out.at_).mono ?_
  rintro e w6 ⟨A6, k6, rfl, ha6, hf6, hb6⟩
  obtain ⟨w7, hw7, h7⟩ := HH5.out.put (s' := s2) (c' := k6) hb6 ha6 hf6
  have HW7 : Hid ((((w6.setCell ⟨p, 0, none⟩ (.slice A6 2 k6)).setCell ⟨p, 1, none⟩ (.int .i64 2)).setCell ⟨p, 2, none⟩ (.int .i64 0)).setCell ⟨p, 3, none⟩ (.int .i64 0) = w7) := hw7
  have hx := HH5.out.box.below hb6
  have z0 := hx.c0
  have z1 := hx.c1
  have z2 := hx.c2
  have z3 := hx.c3
  have f0 := hx.free 0
  have f1 := hx.free 1
  have f2 := hx.free 2
  have f3 := hx.free 3
  have ltx := hx.lt
  have HH7 := Lib.hid h7
  clear hw7 h7 hx ha6 hf6 hb6
  go_wp2_with fail
  rw [HW7.out]
  clear z0 z1 z2 z3 f0 f1 f2 f3 ltx
  with_reducible refine (c3 _ HH7.out.at_).mono ?_
  rintro e w8 ⟨A8, k8, rfl, ha8, hf8, hb8⟩
  have h8 := HH7.out.below hb8
  have q1 : w8.cell? ⟨p, 1, none⟩ = some (.int .i64 2) := h8.box.c1
  have q2 : w8.cell? ⟨p, 2, none⟩ = some (.int .i64 0) := h8.box.c2
  have qlt := h8.box.lt
  have HH8 := Lib.hid h8
  have hne : p ≠ w8.heap.size := by omega
  clear h8 ha8 hf8 hb8
  go_wp2
  go_ret
  exact ⟨rfl, HB1.out.trans ((HH8.out.bel.mono HB1.out.size).trans (bo1 _ _ |>.mono (by have := HH8.out.bel.size; have := HB1.out.size; omega)))⟩
end Go.Proofs.Ytcpnocjfafbnaaa.Begun
