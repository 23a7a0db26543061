/- What each statement of layer 9 asks first, walked: two timers. -/
import Derived.Test.YtecejikolgkihaaSol
set_option linter.unusedVariables false
namespace Go.Proofs.Ytecejikolgkihaa.Begun
open Go.RowKit Go.Proofs.Ytecejikolgkihaa.Kit Go.Proofs.Ytecejikolgkihaa.Blocks Go.Proofs.Ytecejikolgkihaa.Whl Go.Proofs.Ytecejikolgkihaa.WalkG Go.Proofs.Ytecejikolgkihaa.WalkI Go.Proofs.Ytecejikolgkihaa.Sol

/-- A tick whose answer is one number. -/
theorem tick_one {B : Nat} {w : World} {p now : Nat} {D D' : List Tm} {z : Int} (h : Ws B w p now D) (hn : now < 4611686018427387904) (h1 : dueD now D = [z]) (h2 : left now D = D') : Calls Try.prog 16 #[.pointer (some ⟨p, 0, none⟩)] w fun e w' =>
    (∃ b o c, e = .returned (.slice (some ⟨b, o, none⟩) 1 c) ∧ w'.cell? ⟨b, o, none⟩ = some (.int .i64 z) ∧ b < w'.heap.size) ∧ Ws B w' p (now + 1) D' ∧ Below B w w' := by
  refine (tick_S h hn).mono ?_
  rintro e w' ⟨⟨A, c, rfl, hr⟩, hw, hb⟩
  rw [h2] at hw
  rw [h1] at hr ⊢
  obtain ⟨b, o, z', rfl, hlt, hz, hc⟩ := Reads.int (k := 0) hr (by simp)
  cases hz
  exact ⟨⟨b, o, c, rfl, hc, hlt⟩, hw, hb⟩
theorem tick_none {B : Nat} {w : World} {p now : Nat} {D D' : List Tm} (h : Ws B w p now D) (hn : now < 4611686018427387904) (h1 : dueD now D = []) (h2 : left now D = D') : Calls Try.prog 16 #[.pointer (some ⟨p, 0, none⟩)] w fun e w' =>
    (∃ A c, e = .returned (.slice A 0 c)) ∧ Ws B w' p (now + 1) D' ∧ Below B w w' := by
  refine (tick_S h hn).mono ?_
  rintro e w' ⟨⟨A, c, rfl, hr⟩, hw, hb⟩
  rw [h2] at hw
  rw [h1]
  exact ⟨⟨A, c, rfl⟩, hw, hb⟩
theorem set_lit {B : Nat} {w : World} {p now : Nat} {D D' : List Tm} {id dl c : Int} (h : Ws B w p now D) (hn : now < 4611686018427387904) (h1 : setc now D id dl = c) (h2 : setd now D id dl = D') : Calls Try.prog 11 #[.pointer (some ⟨p, 0, none⟩), .int .i64 id, .int .i64 dl] w fun e w' =>
    e = .returned (.int .i64 c) ∧ Ws B w' p now D' ∧ Below B w w' := by
  subst h1 h2
  exact set_S h hn id dl
set_option maxRecDepth 100000 in
set_option maxHeartbeats 2000000 in
theorem begun_true (w : World) : Calls Try.prog 9 #[] w fun e w' => e = .returned (.bool true) ∧ Below w.heap.size w w' := by
  go_enter Try.func9, Try.ntmps9
  go_wp2_with fail
  with_reducible refine (new_S (B := w.heap.size) _ (Nat.le_refl _)).mono ?_
  rintro e w1 ⟨p, rfl, h1, hb1⟩
  go_wp2_with fail
  with_reducible refine (set_lit (D' := [(1, 2)]) (c := 0) h1 (by decide) (by decide) (by decide)).mono ?_
  rintro e w2 ⟨rfl, h2, hb2⟩
  go_wp2_with fail
  with_reducible refine (set_lit (D' := [(1, 2), (2, 1)]) (c := 0) h2 (by decide) (by decide) (by decide)).mono ?_
  rintro e w3 ⟨rfl, h3, hb3⟩
  go_wp2_with fail
  obtain ⟨x, vs, rfl, h3⟩ := h3
  with_reducible refine (tick_D h3 (by decide)).mono ?_
  rintro e w4 ⟨v, vs4, rfl, hown, h4, ho4, hf4, hoff⟩
  obtain ⟨A, c, rfl, _, _, hr⟩ := own_form hown
  have e1 : dueD 0 [(1, 2), (2, 1)] = [2] := by decide
  rw [e1] at hr hoff
  obtain ⟨b, o, z', rfl, hlt, hz, hc⟩ := Reads.int (k := 0) hr (by simp)
  cases hz
  rw [e1]
  have hb4 : Below w.heap.size w3 w4 := ho4.below h3.at_.base fun q hq => (h3.at_.foot_lt hq).1
  have h4' : Wl w.heap.size w4 x vs4 1 [(1, 2)] := h4
  go_wp2_with fail
  with_reducible refine (tick_D h4' (by decide)).mono ?_
  rintro e w5 ⟨v5, vs5, rfl, hown5, h5, ho5, hf5, hoff5⟩
  obtain ⟨A5, c5, rfl, _, _, hr5⟩ := own_form hown5
  have e5 : dueD 1 [(1, 2)] = [1] := by decide
  rw [e5] at hr5
  obtain ⟨b5, o5, z5, rfl, hlt5, hz5, hc5⟩ := Reads.int (k := 0) hr5 (by simp)
  cases hz5
  rw [e5]
  have hb5 : Below w.heap.size w4 w5 := ho5.below h4'.at_.base fun q hq => (h4'.at_.foot_lt hq).1
  have hc' : w5.cell? ⟨b, o + 0, none⟩ = some (.int .i64 2) := (ho5.cell (p := ⟨b, o + 0, none⟩) hlt (hoff b rfl)).trans hc
  have hlt' : b < w5.heap.size := Nat.lt_of_lt_of_le hlt ho5.size
  have h5' : Ws w.heap.size w5 x.p 2 [] := ⟨x, vs5, rfl, h5⟩
  have HB4 := Lib.hid hb4
  have HB5 := Lib.hid hb5
  clear hown hr hown5 hr5 hc hoff hoff5 hf4 hf5 ho4 ho5 h4 h4' h5 h3 e1 e5 hb4 hb5
  simp only [Nat.add_zero, List.length_singleton] at hc' hc5 ⊢
  go_wp2_with fail
  with_reducible refine (len_S h5').mono ?_
  rintro e w6 ⟨rfl, h6, hb6⟩
  have HB6 := Lib.hid hb6
  clear h6 hb6
  go_wp2
  go_ret
  exact ⟨rfl, ((((hb1.trans hb2).trans hb3).trans HB4.out).trans HB5.out).trans HB6.out⟩
end Go.Proofs.Ytecejikolgkihaa.Begun
