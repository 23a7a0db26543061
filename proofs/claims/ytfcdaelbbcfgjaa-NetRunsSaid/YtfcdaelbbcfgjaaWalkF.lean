/- What Lose, Double and All leave, walked. No statement is proved here. -/
import Derived.Test.YtfcdaelbbcfgjaaWalkE
set_option linter.unusedVariables false
namespace Go.Proofs.Ytfcdaelbbcfgjaa.WalkF
open Go.RowKit Go.Proofs.Ytfcdaelbbcfgjaa.Kit Go.Proofs.Ytfcdaelbbcfgjaa.Blocks Go.Proofs.Ytfcdaelbbcfgjaa.Ltr Go.Proofs.Ytfcdaelbbcfgjaa.NAt Go.Proofs.Ytfcdaelbbcfgjaa.App Go.Proofs.Ytfcdaelbbcfgjaa.WalkA Go.Proofs.Ytfcdaelbbcfgjaa.WalkB Go.Proofs.Ytfcdaelbbcfgjaa.WalkC Go.Proofs.Ytfcdaelbbcfgjaa.WalkD Go.Proofs.Ytfcdaelbbcfgjaa.WalkE

theorem lose_nil (i : Int) (w : World) : Calls Try.prog 16 #[.pointer none, .int .i64 i] w fun e w' => e = .returned (.bool false) ∧ Below w.heap.size w w' := by
  go_enter Try.func16, Try.ntmps16
  go_wp2_with fail
  with_reducible refine (take_nil i w).mono ?_
  rintro e w1 ⟨rfl, hb⟩
  unfold ltV
  go_wp2
  go_ret
  exact ⟨rfl, hb.alloc hb.size _⟩
section
variable {B : Nat} {E : Nat → Prop} {w : World} {p : Nat} {v : Value} {L : List Lt} {lost : Nat}
theorem lose_none (h : NAt B 54 E w p v [] lost) (i : Int) : Calls Try.prog 16 #[.pointer (some ⟨p, 0, none⟩), .int .i64 i] w fun e w' => e = .returned (.bool false) ∧ Below w.heap.size w w' := by
  have HT := Lib.hid (take_none h i)
  clear h
  go_enter Try.func16, Try.ntmps16
  go_wp2_with fail
  with_reducible refine HT.out.mono ?_
  rintro e w1 ⟨rfl, hb⟩
  unfold ltV
  go_wp2
  go_ret
  exact ⟨rfl, hb.alloc hb.size _⟩
set_option maxRecDepth 100000 in
set_option maxHeartbeats 4000000 in
theorem lose_any (h : NAt B 54 E w p v L lost) (hn : 0 < L.length) (hfew : L.length ≤ 256) (hlost : lost < 4611686018427387904) (i : Int) :
    Calls Try.prog 16 #[.pointer (some ⟨p, 0, none⟩), .int .i64 i] w fun e w' => e = .returned (.bool true) ∧ LeftN B 54 E E w p v (L.eraseIdx (plc i L.length)) (lost + 1) w' := by
  have ht := take_any h hn hfew i
  obtain ⟨k, hk⟩ : ∃ k, plc i L.length = k := ⟨_, rfl⟩
  rw [hk] at ht ⊢
  have HT := Lib.hid ht
  have hw : IntKind.i64.wrap ((lost : Int) + 1) = ((lost + 1 : Nat) : Int) := by rw [show (lost : Int) + 1 = ((lost + 1 : Nat) : Int) by omega]; exact IntWalk.i64_in _ ⟨by omega, by omega⟩
  obtain ⟨N, hN⟩ : ∃ N, lost + 1 = N := ⟨_, rfl⟩
  rw [hN] at hw ⊢
  clear h ht hk hN
  go_enter Try.func16, Try.ntmps16
  go_wp2_with fail
  with_reducible refine HT.out.mono ?_
  rintro e w1 ⟨x, hx, rfl, v1, h1, o1, f1, e1, e2⟩
  obtain ⟨⟨k, f, t, tm, ix, pv, cm, ok, d⟩, A2, n2, c2, es⟩ := x
  have c1 := h1.c1
  have hp := h1.plt
  have fr := h1.free 1
  have hl := h1.losing N
  have HL := Lib.hid hl
  have HO1 := Lib.hid o1
  have HF1 := Lib.hid f1
  have HE1 := Lib.hid e1
  have HE2 := Lib.hid e2
  clear hl o1 f1 e1 e2 h1 hx
  unfold ltV
  simp only
  go_wp2
  go_ret
  exact ⟨rfl, LeftN.then HO1.out HF1.out HE1.out HE2.out (LeftN.thenBelow HL.out ((Below.refl _ _).alloc (Nat.le_refl _) _))⟩
theorem double_none (h : NAt B 54 E w p v [] lost) (i : Int) : Calls Try.prog 18 #[.pointer (some ⟨p, 0, none⟩), .int .i64 i] w fun e w' => e = .returned (.bool false) ∧ Below w.heap.size w w' := by
  have HT := Lib.hid (place_none h i)
  clear h
  go_enter Try.func18, Try.ntmps18
  go_wp2_with fail
  with_reducible refine HT.out.mono ?_
  rintro e w1 ⟨rfl, hb⟩
  go_wp2
  go_ret
  exact ⟨rfl, hb⟩
set_option maxRecDepth 100000 in
set_option maxHeartbeats 4000000 in
theorem double_full (h : NAt B 54 E w p v L lost) (hfull : L.length = 256) (hlost : lost < 4611686018427387904) (i : Int) :
    Calls Try.prog 18 #[.pointer (some ⟨p, 0, none⟩), .int .i64 i] w fun e w' => e = .returned (.bool false) ∧ LeftN B 54 E E w p v L (lost + 1) w' := by
  have ht := place_any h (by omega) (by omega) i
  have hkl := plc_lt i (n := L.length) (by omega)
  obtain ⟨k, hk⟩ : ∃ k, plc i L.length = k := ⟨_, rfl⟩
  rw [hk] at ht hkl
  have HT := Lib.hid ht
  have H := Lib.hid h
  obtain ⟨n, hn⟩ : ∃ n, L.length = n := ⟨_, rfl⟩
  have HN := Lib.hid hn
  rw [hn] at hkl hfull
  clear ht hk h hn
  go_enter Try.func18, Try.ntmps18
  go_wp2_with fail
  with_reducible refine HT.out.mono ?_
  rintro e w1 ⟨rfl, hb1⟩
  have h1 := H.out.below hb1
  have c0 := h1.c0
  have hp := h1.plt
  obtain ⟨A, c, hv, hnc, hcm, hr⟩ := h1.form
  rw [HN.out] at hv hnc hr
  rw [hv] at c0
  obtain ⟨b, o, x, rfl, hbl, hx, hten⟩ := RL.at_ hr hkl
  have hs := send_full (x := x) h1 (by rw [HN.out, hfull]; exact Nat.le_refl _) hlost
  obtain ⟨d0, d1, d2, d3, d4, d5, d6, d7, d8, d9⟩ := hten
  obtain ⟨⟨kk, f, t, tm, ix, pv, cm, ok, d⟩, A2, n2, c2, es⟩ := x
  unfold ltV at hs
  simp only at d0 d1 d2 d3 d4 d5 d6 d7 d8 d9 hs
  have hkI : (k : Int) < (n : Int) := by omega
  have hk0 : (0 : Int) ≤ (k : Int) := by omega
  have HS := Lib.hid hs
  have HB := Lib.hid hb1
  clear hs h1 hv hr hb1 hx
  go_wp2_with fail
  with_reducible refine HS.out.mono ?_
  rintro e w2 ⟨rfl, hl⟩
  have HL := Lib.hid hl
  clear hl
  go_wp2
  go_ret
  exact ⟨rfl, LeftN.afterBelow HB.out HL.out⟩
/-- A letter is sent once more. -/
def Doubled (B : Nat) (E : Nat → Prop) (w : World) (p : Nat) (v : Value) (L : List Lt) (lost : Nat) (k : Nat) (e : Ending) (w' : World) : Prop :=
  e = .returned (.bool true) ∧ ∃ x E' A c, L[k]? = some x ∧ LeftN B 54 E E' w p v (L ++ [⟨x.h, A, x.n, c, x.es⟩]) lost w'
set_option maxRecDepth 100000 in
set_option maxHeartbeats 4000000 in
theorem double_any (h : NAt B 54 E w p v L lost) (hn : 0 < L.length) (hroom : L.length < 256) (i : Int) :
    Calls Try.prog 18 #[.pointer (some ⟨p, 0, none⟩), .int .i64 i] w (Doubled B E w p v L lost (plc i L.length)) := by
  have ht := place_any h (by omega) (by omega) i
  have hkl := plc_lt i (n := L.length) (by omega)
  obtain ⟨k, hk⟩ : ∃ k, plc i L.length = k := ⟨_, rfl⟩
  rw [hk] at ht hkl ⊢
  have HT := Lib.hid ht
  have H := Lib.hid h
  obtain ⟨n, hn⟩ : ∃ n, L.length = n := ⟨_, rfl⟩
  have HN := Lib.hid hn
  rw [hn] at hkl hroom
  clear ht hk h hn
  go_enter Try.func18, Try.ntmps18
  go_wp2_with fail
  with_reducible refine HT.out.mono ?_
  rintro e w1 ⟨rfl, hb1⟩
  have h1 := H.out.below hb1
  have c0 := h1.c0
  have hp := h1.plt
  obtain ⟨A, c, hv, hnc, hcm, hr⟩ := h1.form
  rw [HN.out] at hv hnc hr
  rw [hv] at c0
  obtain ⟨b, o, x, rfl, hbl, hx, hten⟩ := RL.at_ hr hkl
  have hs := send_room h1 (by rw [HN.out]; exact hroom) (h1.fit x (List.mem_of_getElem? hx))
  obtain ⟨d0, d1, d2, d3, d4, d5, d6, d7, d8, d9⟩ := hten
  have HX := Lib.hid hx
  unfold Sent at hs
  obtain ⟨⟨kk, f, t, tm, ix, pv, cm, ok, d⟩, A2, n2, c2, es⟩ := x
  unfold ltV at hs
  simp only at d0 d1 d2 d3 d4 d5 d6 d7 d8 d9 hs
  have hkI : (k : Int) < (n : Int) := by omega
  have hk0 : (0 : Int) ≤ (k : Int) := by omega
  have HS := Lib.hid hs
  have HB := Lib.hid hb1
  clear hs h1 hv hr hb1 hx
  go_wp2_with fail
  with_reducible refine HS.out.mono ?_
  rintro e w2 ⟨rfl, hl⟩
  have HL := Lib.hid hl
  clear hl
  go_wp2
  go_ret
  obtain ⟨E', A', c', hl⟩ := HL.out
  exact ⟨rfl, _, E', A', c', HX.out, LeftN.afterBelow HB.out hl⟩
end
end Go.Proofs.Ytfcdaelbbcfgjaa.WalkF
