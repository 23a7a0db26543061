/- What the document's Send, Place and Take leave, walked. No statement is proved here. -/
import Derived.Test.YtfcdaelbbcfgjaaRAll
set_option linter.unusedVariables false
namespace Go.Proofs.Ytfcdaelbbcfgjaa.RNet
open Go.RowKit Go.Proofs.Ytfcdaelbbcfgjaa.Kit Go.Proofs.Ytfcdaelbbcfgjaa.Blocks Go.Proofs.Ytfcdaelbbcfgjaa.Ltr Go.Proofs.Ytfcdaelbbcfgjaa.NAt Go.Proofs.Ytfcdaelbbcfgjaa.App Go.Proofs.Ytfcdaelbbcfgjaa.WalkA Go.Proofs.Ytfcdaelbbcfgjaa.WalkC Go.Proofs.Ytfcdaelbbcfgjaa.WalkG

section
variable {B : Nat} {E E0 : Nat → Prop} {w : World} {p : Nat} {v : Value} {L : List Lt} {lost : Nat} {x : Lt}
set_option maxRecDepth 100000 in
set_option maxHeartbeats 4000000 in
theorem rsend_full (h : NAt B 30 E w p v L lost) (hfull : 256 ≤ L.length) (hlost : lost < 4611686018427387904) :
    Calls Try.prog 12 #[.pointer (some ⟨p, 0, none⟩), ltV x] w fun e w' => e = .returned (.bool false) ∧ LeftN B 30 E E w p v L (lost + 1) w' := by
  obtain ⟨⟨k, f, t, tm, ix, pv, cm, ok, d⟩, A1, n1, c1, es⟩ := x
  unfold ltV
  have c0 := h.c0
  have c1' := h.c1
  have f1' := h.free 1
  have hp' := h.plt
  obtain ⟨A, c, hv, hnc, hcm, _⟩ := h.form
  obtain ⟨n, hn⟩ : ∃ n, L.length = n := ⟨_, rfl⟩
  rw [hn] at hv hfull
  rw [hv] at c0
  have hw : IntKind.i64.wrap ((lost : Int) + 1) = ((lost + 1 : Nat) : Int) := by rw [show (lost : Int) + 1 = ((lost + 1 : Nat) : Int) by omega]; exact IntWalk.i64_in _ ⟨by omega, by omega⟩
  have hl := h.losing (lost + 1)
  obtain ⟨N, hN⟩ : ∃ N, lost + 1 = N := ⟨_, rfl⟩
  rw [hN] at hw hl ⊢
  have hfI : (256 : Int) ≤ (n : Int) := by omega
  have HL := Lib.hid hl
  have H := Lib.hid h
  have HE2 : Hid (∀ o, LeftN B 30 E E w p v L N ((w.setCell ⟨p, 1, none⟩ (.int .i64 (N : Int))).alloc o)) := fun o => LeftN.thenBelow hl ((Below.refl _ _).alloc (Nat.le_refl _) _)
  have HE3 : Hid (∀ o, LeftN B 30 E E w p v L N ((w.alloc o).setCell ⟨p, 1, none⟩ (.int .i64 (N : Int)))) := fun o =>
    LeftN.afterBelow ((Below.refl _ _).alloc (Nat.le_refl _) o) ((h.below ((Below.refl _ _).alloc (Nat.le_refl _) o)).losing N)
  clear hl h hN hv hn
  simp only at *
  go_enter Try.func12, Try.ntmps12
  go_wp2
  go_ret
  first
    | exact ⟨rfl, HE2.out _⟩
    | exact ⟨rfl, HE3.out _⟩
set_option maxRecDepth 100000 in
set_option maxHeartbeats 4000000 in
theorem rsend_room (h : NAt B 30 E w p v L lost) (hroom : L.length < 256) (hx : Fit w E x) :
    Calls Try.prog 12 #[.pointer (some ⟨p, 0, none⟩), ltV x] w fun e w' => e = .returned (.bool true) ∧ LeftN B 30 E E w p v (L ++ [x]) lost w' := by
  obtain ⟨⟨k, f, t, tm, ix, pv, cm, ok, d⟩, A1, n1, c1, es⟩ := x
  unfold ltV
  simp only
  obtain ⟨w0, hw0⟩ : ∃ w0, w.alloc (.cells #[.int .i64 k, .int .i64 f, .int .i64 t, .int .u64 tm, .int .u64 ix, .int .u64 pv, .int .u64 cm, .bool ok, .slice A1 n1 c1, .string d] 34) = w0 := ⟨_, rfl⟩
  have hb0 : Below w.heap.size w (w.alloc (.cells #[.int .i64 k, .int .i64 f, .int .i64 t, .int .u64 tm, .int .u64 ix, .int .u64 pv, .int .u64 cm, .bool ok, .slice A1 n1 c1, .string d] 34)) := (Below.refl _ _).alloc (Nat.le_refl _) _
  have hnew := heap_alloc_new w (.cells #[.int .i64 k, .int .i64 f, .int .i64 t, .int .u64 tm, .int .u64 ix, .int .u64 pv, .int .u64 cm, .bool ok, .slice A1 n1 c1, .string d] 34)
  rw [hw0] at hb0 hnew
  have h0 := h.below hb0
  have hx0 := hx.below hb0
  have cw := h.c0
  have hpw := h.plt
  have c0 := h0.c0
  have hp0 := h0.plt
  obtain ⟨d0, d1, d2, d3, d4, d5, d6, d7, d8, d9, hltb⟩ := ten_at hnew
  obtain ⟨A, c, hv, hnc, hcm, _⟩ := h.form
  obtain ⟨n, hn⟩ : ∃ n, L.length = n := ⟨_, rfl⟩
  rw [hn] at hv hroom hnc
  rw [hv] at c0 cw
  have hfI : ¬ (256 : Int) ≤ (n : Int) := by omega
  have HO : Hid (∀ o, (w0.alloc o).drew.ownsRow B 34 10 (.slice A n c) n (lcells L)) := fun o => by
    have := (h0.below (((Below.refl _ _).alloc (Nat.le_refl _) o).drew)).own
    rwa [hv, hn] at this
  have HNW : Hid (RL (w0.alloc (.cells #[.int .i64 k, .int .i64 f, .int .i64 t, .int .u64 tm, .int .u64 ix, .int .u64 pv, .int .u64 cm, .bool ok, .slice A1 n1 c1, .string d] 34)).drew (w0.heap.size + 1) (some ⟨w0.heap.size, 0, none⟩) 1 [⟨⟨k, f, t, tm, ix, pv, cm, ok, d⟩, A1, n1, c1, es⟩]) := Reads.drew (lt_new w0 ⟨⟨k, f, t, tm, ix, pv, cm, ok, d⟩, A1, n1, c1, es⟩ 34)
  have HBS : Hid (∀ o, B ≤ (w0.alloc o).drew.heap.size) := fun o => by have := h0.base; simp; omega
  have HFIN := Lib.hid (fun o => NAt.sent (W := (w0.alloc o).drew) (x := ⟨⟨k, f, t, tm, ix, pv, cm, ok, d⟩, A1, n1, c1, es⟩) (E' := E) h0 hn (Below.refl _ _) (((Below.refl _ _).alloc (Nat.le_refl _) o).drew) (fun g hg => hg) (fun g hg => .inl hg) hx0)
  have HV := Lib.hid hv
  have HB0 := Lib.hid hb0
  have HW0 := Lib.hid hw0
  clear h h0 hb0 hw0 hv hn hx hx0 hnew
  go_enter Try.func12, Try.ntmps12
  go_wp2_with fail
  rw [HW0.out]
  go_region_law (first
    | (refine step_appL (v := .slice A n c) (xs := lcells L) _ rfl _ _ rfl B rfl (HO.out _) rfl HNW.out (lcells_one _) (by omega) (HBS.out _) ?_
       intro A' c' w3 hown3 hg3 hat3
       obtain ⟨q1, q2, q3, q4⟩ := HFIN.out _ A' c' w3 hown3 (by rw [HV.out]; exact hg3) (by rw [HV.out]; exact hat3)
       rw [HV.out] at q1
       have Q4 := Lib.hid q4
       clear q4 hown3 hg3 hat3))
  all_goals go_wp2
  all_goals go_ret
  all_goals exact ⟨rfl, LeftN.afterBelow HB0.out Q4.out⟩
theorem rmod (i : Int) {n : Nat} (h : 0 < n) (hf : n ≤ 256) : IntKind.i64.wrap (i.tmod (n : Int) + (n : Int)) = i.tmod (n : Int) + (n : Int) ∧ (i.tmod (n : Int) + (n : Int)).tmod (n : Int) = (plc i n : Int) := by
  have a1 := Int.tmod_lt_of_pos i (show (0 : Int) < (n : Int) by omega)
  have a2 := Int.lt_tmod_of_pos i (show (0 : Int) < (n : Int) by omega)
  refine ⟨IntWalk.i64_in _ ⟨by omega, by omega⟩, ?_⟩
  have hl := plc_lt i h
  rw [Int.tmod_eq_emod_of_nonneg (by omega)]
  rcases tmod_cases i n h with ⟨h0, h1⟩ | ⟨h0, h1⟩
  · rw [h1]; exact Int.emod_eq_of_lt (by omega) (by omega)
  · rw [h1, Int.add_emod_right]; exact Int.emod_eq_of_lt (by omega) (by omega)
theorem rplace_none (h : NAt B 30 E w p v [] lost) (i : Int) :
    Calls Try.prog 17 #[.pointer (some ⟨p, 0, none⟩), .int .i64 i] w fun e w' => e = .returned (.int .i64 (-1)) ∧ Below w.heap.size w w' := by
  obtain ⟨A, c, rfl, hnc, hcm, _⟩ := h.form
  have c0 := h.c0
  have hp := h.plt
  clear h
  simp only [List.length_nil] at *
  go_enter Try.func17, Try.ntmps17
  go_wp2
  go_ret
  exact ⟨rfl, Below.refl _ _⟩
theorem rplace_any (h : NAt B 30 E w p v L lost) (hn : 0 < L.length) (hfew : L.length ≤ 256) (i : Int) :
    Calls Try.prog 17 #[.pointer (some ⟨p, 0, none⟩), .int .i64 i] w fun e w' => e = .returned (.int .i64 (plc i L.length : Int)) ∧ Below w.heap.size w w' := by
  obtain ⟨A, c, rfl, hnc, hcm, _⟩ := h.form
  have c0 := h.c0
  have hp := h.plt
  obtain ⟨n, hl⟩ : ∃ n, L.length = n := ⟨_, rfl⟩
  rw [hl] at c0 hnc hn hfew ⊢
  clear h hl
  have hn0 : ((n : Int) == 0) = false := by simp; omega
  have hn1 : ¬ (n : Int) = 0 := by omega
  obtain ⟨hw, hk⟩ := rmod i hn hfew
  have HK := Lib.hid hk
  clear hk
  go_enter Try.func17, Try.ntmps17
  go_wp2
  go_ret
  exact ⟨by rw [← HK.out]; rfl, Below.refl _ _⟩
end
end Go.Proofs.Ytfcdaelbbcfgjaa.RNet
