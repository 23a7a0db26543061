/- A wheel alone in memory from a block on: what each call leaves, in few words. -/
import Derived.Test.YtecejikolgkihaaWalkI
set_option linter.unusedVariables false
namespace Go.Proofs.Ytecejikolgkihaa.Sol
open Go.RowKit Go.Proofs.Ytecejikolgkihaa.Kit Go.Proofs.Ytecejikolgkihaa.Blocks Go.Proofs.Ytecejikolgkihaa.Whl Go.Proofs.Ytecejikolgkihaa.Tms Go.Proofs.Ytecejikolgkihaa.WAt Go.Proofs.Ytecejikolgkihaa.WalkB Go.Proofs.Ytecejikolgkihaa.WalkE Go.Proofs.Ytecejikolgkihaa.WalkF Go.Proofs.Ytecejikolgkihaa.WalkG Go.Proofs.Ytecejikolgkihaa.WalkH Go.Proofs.Ytecejikolgkihaa.WalkI

/-- The wheel at block p, whose blocks lie from B on. -/
def Ws (B : Nat) (w : World) (p now : Nat) (D : List Tm) : Prop := ∃ x vs, x.p = p ∧ Wl B w x vs now D
section
variable {B : Nat} {w w' : World} {p now now' : Nat} {D D' : List Tm}
theorem Ws.base (h : Ws B w p now D) : B ≤ w.heap.size := by obtain ⟨x, vs, _, h⟩ := h; exact h.at_.base
theorem Ws.ok (h : Ws B w p now D) : Ok now D := by obtain ⟨x, vs, _, h⟩ := h; exact h.ok
theorem Ws.below (h : Ws B w p now D) (k : Below w.heap.size w w') : Ws B w' p now D := by obtain ⟨x, vs, e, h⟩ := h; exact ⟨x, vs, e, h.below k⟩
theorem left_ws {x : Fx} {vs : Nat → Value} (h : Wl B w x vs now D) (k : LeftD B w x vs now' D' w') : Ws B w' x.p now' D' ∧ Below B w w' := by
  obtain ⟨hl, hok⟩ := k
  have hb := left_below h.at_ hl
  obtain ⟨vs', h', _, _⟩ := hl
  exact ⟨⟨x, vs', rfl, h', hok⟩, hb⟩
theorem new_S (w : World) (hB : B ≤ w.heap.size) : Calls Try.prog 10 #[] w fun e w' => ∃ p, e = .returned (.pointer (some ⟨p, 0, none⟩)) ∧ Ws B w' p 0 [] ∧ Below B w w' := by
  refine (new_any w).mono ?_
  rintro e w' ⟨x, vs, rfl, h, hb⟩
  exact ⟨x.p, rfl, ⟨x, vs, rfl, h.lower hB, Ok.nil 0⟩, hb.mono hB⟩
theorem set_S (h : Ws B w p now D) (hn : now < 4611686018427387904) (id dl : Int) : Calls Try.prog 11 #[.pointer (some ⟨p, 0, none⟩), .int .i64 id, .int .i64 dl] w fun e w' =>
    e = .returned (.int .i64 (setc now D id dl)) ∧ Ws B w' p now (setd now D id dl) ∧ Below B w w' := by
  obtain ⟨x, vs, rfl, h⟩ := h
  refine (set_D h hn id dl).mono ?_
  rintro e w' ⟨rfl, hl⟩
  exact ⟨rfl, left_ws h hl⟩
theorem stop_S (h : Ws B w p now D) (id : Int) : Calls Try.prog 13 #[.pointer (some ⟨p, 0, none⟩), .int .i64 id] w fun e w' =>
    e = .returned (.bool (isIn D id)) ∧ Ws B w' p now (del D id) ∧ Below B w w' := by
  obtain ⟨x, vs, rfl, h⟩ := h
  refine (stop_D h id).mono ?_
  rintro e w' ⟨rfl, hl⟩
  exact ⟨rfl, left_ws h hl⟩
theorem tick_S (h : Ws B w p now D) (hn : now < 4611686018427387904) : Calls Try.prog 16 #[.pointer (some ⟨p, 0, none⟩)] w fun e w' =>
    (∃ A c, e = .returned (.slice A (dueD now D).length c) ∧ Reads w' w'.heap.size 1 A (dueD now D).length (ivals (dueD now D))) ∧ Ws B w' p (now + 1) (left now D) ∧ Below B w w' := by
  obtain ⟨x, vs, rfl, h⟩ := h
  refine (tick_D h hn).mono ?_
  intro e w' ht
  obtain ⟨v, rfl, hown, hl⟩ := ht.left
  obtain ⟨A, c, rfl, _, _, hr⟩ := own_form hown
  exact ⟨⟨A, c, rfl, hr⟩, left_ws h hl⟩
theorem len_S (h : Ws B w p now D) : Calls Try.prog 19 #[.pointer (some ⟨p, 0, none⟩)] w fun e w' => e = .returned (.int .i64 (D.length : Int)) ∧ Ws B w' p now D ∧ Below B w w' := by
  obtain ⟨x, vs, rfl, h⟩ := h
  refine (len_D h).mono ?_
  rintro e w' ⟨rfl, hb⟩
  exact ⟨rfl, ⟨x, vs, rfl, h.below hb⟩, hb.mono h.at_.base⟩
theorem due_S (h : Ws B w p now D) (hn : now < 4611686018427387904) : Calls Try.prog 20 #[.pointer (some ⟨p, 0, none⟩)] w fun e w' => e = .returned (.int .u64 (next now D : Int)) ∧ Ws B w' p now D ∧ Below B w w' := by
  obtain ⟨x, vs, rfl, h⟩ := h
  refine (due_D h hn).mono ?_
  rintro e w' ⟨rfl, hb⟩
  exact ⟨rfl, ⟨x, vs, rfl, h.below hb⟩, hb.mono h.at_.base⟩
end
theorem i64_wf {z : Int} (h : (Lit.int .i64 z).wf = true) : -9223372036854775808 ≤ z ∧ z ≤ 9223372036854775807 := by
  simpa [Lit.wf, IntKind.min, IntKind.max, IntKind.signed, IntKind.bits] using h
theorem Reads.int {w : World} {B n k : Nat} {A : Option Addr} {l : List Int} (h : Reads w B 1 A n (ivals l)) (hk : k < n) : ∃ b o z, A = some ⟨b, o, none⟩ ∧ b < B ∧ l[k]? = some z ∧ w.cell? ⟨b, o + k, none⟩ = some (.int .i64 z) := by
  obtain ⟨ad, u, rfl, hb, hx, hc⟩ := h.at_ hk
  have hs := h.spot (by omega)
  simp only [ivals, List.getElem?_map, Option.map_eq_some_iff] at hx
  obtain ⟨z, hz, rfl⟩ := hx
  refine ⟨ad.block, ad.off, z, by rw [← hs], hb, hz, ?_⟩
  rw [hs, Addr.add_lit] at hc
  exact hc
end Go.Proofs.Ytecejikolgkihaa.Sol
