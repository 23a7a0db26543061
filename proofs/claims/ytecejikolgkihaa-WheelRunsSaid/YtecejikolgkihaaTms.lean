/- Timers in memory: a slice of structs of two cells. No statement is proved here. -/
import Derived.Test.YtecejikolgkihaaRows
import Derived.Test.YtecejikolgkihaaWhl
import Derived.WalkKit
set_option linter.unusedVariables false
namespace Go.Proofs.Ytecejikolgkihaa.Tms
open Go.RowKit Go.Proofs.Ytecejikolgkihaa.Kit Go.Proofs.Ytecejikolgkihaa.Blocks Go.Proofs.Ytecejikolgkihaa.Whl

def tmCs (t : Tm) : List Value := [.int .i64 t.1, .int .u64 (t.2 : Int)]
def tcells (l : List Tm) : List Value := l.flatMap tmCs
theorem tcells_nil : tcells [] = [] := rfl
theorem tcells_cons (e : Tm) (l : List Tm) : tcells (e :: l) = tmCs e ++ tcells l := rfl
theorem tcells_append (l r : List Tm) : tcells (l ++ r) = tcells l ++ tcells r := by simp [tcells]
theorem tcells_one_tm (e : Tm) : tcells [e] = tmCs e := by simp [tcells]
theorem tcells_length (l : List Tm) : (tcells l).length = l.length * 2 := by
  induction l with
  | nil => rfl
  | cons e l ih => rw [tcells_cons, List.length_append, ih]; simp [tmCs]; omega
theorem tcells_take (l : List Tm) (k : Nat) : tcells (l.take k) = (tcells l).take (k * 2) := by
  induction l generalizing k with
  | nil => simp [tcells]
  | cons e l ih =>
    cases k with
    | zero => simp [tcells]
    | succ k =>
      rw [List.take_succ_cons, tcells_cons, tcells_cons, ih, List.take_append, List.take_of_length_le (l := tmCs e) (by show 2 ≤ _; omega)]
      show _ = _ ++ List.take ((k + 1) * 2 - 2) _
      rw [show (k + 1) * 2 - 2 = k * 2 by omega]
theorem tcells_drop (l : List Tm) (k : Nat) : tcells (l.drop k) = (tcells l).drop (k * 2) := by
  induction l generalizing k with
  | nil => simp [tcells]
  | cons e l ih =>
    cases k with
    | zero => simp
    | succ k =>
      rw [List.drop_succ_cons, tcells_cons, ih, List.drop_append, List.drop_of_length_le (l := tmCs e) (by show 2 ≤ _; omega), List.nil_append]
      show _ = List.drop ((k + 1) * 2 - 2) _
      rw [show (k + 1) * 2 - 2 = k * 2 by omega]
theorem tcells_get (l : List Tm) (k j : Nat) (e : Tm) (h : l[k]? = some e) (hj : j < 2) : (tcells l)[k * 2 + j]? = (tmCs e)[j]? := by
  obtain ⟨hk, rfl⟩ := List.getElem?_eq_some_iff.1 h
  have h1 : (tcells (l.drop k))[j]? = (tcells l)[k * 2 + j]? := by rw [tcells_drop, List.getElem?_drop]
  rw [← h1, List.drop_eq_getElem_cons hk, tcells_cons, List.getElem?_append_left (by show j < 2; exact hj)]
theorem tmCs_one (e : Tm) : ∀ u ∈ tmCs e, u.oneCell' = true := by
  intro u hu
  simp only [tmCs, List.mem_cons, List.not_mem_nil, or_false] at hu
  rcases hu with rfl | rfl <;> rfl
theorem tcells_one (l : List Tm) : ∀ u ∈ tcells l, u.oneCell' = true := by
  intro u hu
  obtain ⟨e, _, he⟩ := List.mem_flatMap.1 hu
  exact tmCs_one e u he

/-- The slice with address A and n elements holds these timers. -/
abbrev RT (w : World) (B : Nat) (A : Option Addr) (n : Nat) (l : List Tm) : Prop := Reads w B 2 A n (tcells l)
/-- A timer lies at these two cells. -/
structure Two (w : World) (b o : Nat) (e : Tm) : Prop where
  c0 : w.cell? ⟨b, o, none⟩ = some (.int .i64 e.1)
  c1 : w.cell? ⟨b, o + 1, none⟩ = some (.int .u64 (e.2 : Int))
section
variable {w w' : World} {B n : Nat} {A : Option Addr} {l : List Tm}
theorem RT.len (h : RT w B A n l) : l.length = n := by have := h.1; rw [tcells_length] at this; omega
theorem RT.spot {ad : Addr} (h : RT w B (some ad) n l) (hn : 0 < n) : ad = ⟨ad.block, ad.off, none⟩ := by
  obtain ⟨ad', e, _, hc⟩ := h.2 hn
  cases e
  have hl := RT.len h
  have h0 := hc 0 _ (by rw [tcells_get l 0 0 l[0] (List.getElem?_eq_getElem (by omega)) (by omega)]; rfl)
  rw [add_zero] at h0
  have hs := World.cell?_spot h0
  obtain ⟨b, o, s⟩ := ad
  have : s = none := hs
  subst this
  rfl
theorem RT.at_ (h : RT w B A n l) {k : Nat} (hk : k < n) : ∃ b o e, A = some ⟨b, o, none⟩ ∧ b < B ∧ l[k]? = some e ∧ Two w b (o + k * 2) e := by
  obtain ⟨ad, rfl, hb, hc⟩ := h.2 (by omega)
  have hsp := RT.spot h (by omega)
  have hl := RT.len h
  have he : l[k]? = some l[k] := List.getElem?_eq_getElem (by omega)
  have hj : ∀ j u, j < 2 → (tmCs l[k])[j]? = some u → w.cell? ⟨ad.block, ad.off + (k * 2 + j), none⟩ = some u := fun j u hj hu => by
    have := hc (k * 2 + j) u (by rw [tcells_get l k j _ he hj, hu])
    rw [hsp, Addr.add_lit] at this
    exact this
  refine ⟨ad.block, ad.off, l[k], by rw [← hsp], hb, he, ?_, ?_⟩
  · exact hj 0 _ (by omega) rfl
  · exact hj 1 _ (by omega) rfl
theorem RT.nil (w : World) (B : Nat) (A : Option Addr) : RT w B A 0 [] := ⟨rfl, fun h => absurd h (by omega)⟩
end
theorem sz2 (w : World) : (Go.sizeOf 52).run Try.prog w = .ok 2 w := by kernel_rfl
theorem infoT : (Try.prog.info? 52).map (fun i => (i.zero, i.size, i.bytes)) = some (some (.agg #[.int .i64 0, .int .u64 0]), 2, 16) := by kernel_rfl
theorem infoL : (Try.prog.info? 46).map (fun i => (i.zero, i.size, i.bytes)) = some (some (.slice none 0 0), 1, 24) := by kernel_rfl
theorem infoR : (Try.prog.info? 49).map (fun i => (i.zero, i.size, i.bytes)) = some (some (.slice none 0 0), 1, 24) := by kernel_rfl
theorem infoI : (Try.prog.info? 3).map (fun i => (i.zero, i.size, i.bytes)) = some (some (.int .i64 0), 1, 8) := by kernel_rfl
theorem infoU : (Try.prog.info? 27).map (fun i => (i.zero, i.size, i.bytes)) = some (some (.int .u64 0), 1, 8) := by kernel_rfl
end Go.Proofs.Ytecejikolgkihaa.Tms
