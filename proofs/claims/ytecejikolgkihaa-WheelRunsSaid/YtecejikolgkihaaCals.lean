/- Calls of a wheel, that came in. No statement is proved here. -/
import Derived.Test.YtecejikolgkihaaBegun
set_option linter.unusedVariables false
namespace Go.Proofs.Ytecejikolgkihaa.Cals
open Go.RowKit Go.Proofs.Ytecejikolgkihaa.Kit

structure Cal where
  kind : Int
  id : Int
  n : Int
structure CalB (c : Cal) : Prop where
  k0 : -9223372036854775808 ≤ c.kind
  k1 : c.kind ≤ 9223372036854775807
  i0 : -9223372036854775808 ≤ c.id
  i1 : c.id ≤ 9223372036854775807
  n0 : -9223372036854775808 ≤ c.n
  n1 : c.n ≤ 9223372036854775807
/-- The call lies at these three cells. -/
structure Three (w : World) (b o : Nat) (c : Cal) : Prop where
  c0 : w.cell? ⟨b, o, none⟩ = some (.int .i64 c.kind)
  c1 : w.cell? ⟨b, o + 1, none⟩ = some (.int .i64 c.id)
  c2 : w.cell? ⟨b, o + 2, none⟩ = some (.int .i64 c.n)
/-- The slice with address a and n elements holds these calls. -/
def Holds (w : World) (a : Option Addr) (n : Nat) (L : List Cal) : Prop :=
  L.length = n ∧ ∀ k (hk : k < L.length), ∃ b o, a = some ⟨b, o, none⟩ ∧ b < w.heap.size ∧ Three w b (o + k * 3) L[k] ∧ CalB L[k]
theorem Holds.at_ {w w' : World} {a : Option Addr} {n : Nat} {L : List Cal} (h : Holds w a n L) (hb : Below w.heap.size w w') {k : Nat} (hk : k < n) :
    ∃ (c : Cal) (b o : Nat), L[k]? = some c ∧ a = some ⟨b, o, none⟩ ∧ b < w.heap.size ∧ Three w' b (o + k * 3) c ∧ CalB c := by
  have hl := h.1
  obtain ⟨b, o, rfl, hlt, ⟨c0, c1, c2⟩, hr⟩ := h.2 k (by omega)
  have hc : ∀ j, w'.cell? ⟨b, j, none⟩ = w.cell? ⟨b, j, none⟩ := fun j => hb.cell (p := ⟨b, j, none⟩) hlt
  exact ⟨L[k], b, o, List.getElem?_eq_getElem (by omega), rfl, hlt, ⟨(hc _).trans c0, (hc _).trans c1, (hc _).trans c2⟩, hr⟩
open Go.Proofs.Ytecejikolgkihaa.Whl Go.Proofs.Ytecejikolgkihaa.WAt Go.Proofs.Ytecejikolgkihaa.WalkI Go.Proofs.Ytecejikolgkihaa.Sol in
/-- Len turns nothing that lay. -/
theorem len_F {B : Nat} {w : World} {p now : Nat} {D : List Tm} (h : Ws B w p now D) : Calls Try.prog 19 #[.pointer (some ⟨p, 0, none⟩)] w fun e w' => e = .returned (.int .i64 (D.length : Int)) ∧ Ws B w' p now D ∧ Below w.heap.size w w' := by
  obtain ⟨x, vs, rfl, h⟩ := h
  refine (len_D h).mono ?_
  rintro e w' ⟨rfl, hb⟩
  exact ⟨rfl, ⟨x, vs, rfl, h.below hb⟩, hb⟩
end Go.Proofs.Ytecejikolgkihaa.Cals
