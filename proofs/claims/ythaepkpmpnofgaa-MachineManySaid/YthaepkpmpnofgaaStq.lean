/- Steps of a saga's definition in memory: slices of structs. No statement is proved here. -/
import Derived.Test.YthaepkpmpnofgaaRows
import Derived.Test.YthaepkpmpnofgaaOnly
import Derived.WalkKit
set_option linter.unusedVariables false
namespace Go.Proofs.Ythaepkpmpnofgaa.Stq
open Go.RowKit Go.Proofs.Ythaepkpmpnofgaa.Kit Go.Proofs.Ythaepkpmpnofgaa.Blocks

/-- A step. -/
structure Sp where
  pt : Int
  nm : ByteArray
  bg : Int
def spCs (e : Sp) : List Value := [.int .i64 e.pt, .string e.nm, .int .i64 e.bg]
def scells (l : List Sp) : List Value := l.flatMap spCs
theorem scells_nil : scells [] = [] := rfl
theorem scells_cons (e : Sp) (l : List Sp) : scells (e :: l) = spCs e ++ scells l := rfl
theorem scells_append (l r : List Sp) : scells (l ++ r) = scells l ++ scells r := by simp [scells]
theorem scells_one_sp (e : Sp) : scells [e] = spCs e := by simp [scells]
theorem scells_length (l : List Sp) : (scells l).length = l.length * 3 := by
  induction l with
  | nil => rfl
  | cons e l ih => rw [scells_cons, List.length_append, ih]; simp [spCs]; omega
theorem scells_take (l : List Sp) (k : Nat) : scells (l.take k) = (scells l).take (k * 3) := by
  induction l generalizing k with
  | nil => simp [scells]
  | cons e l ih =>
    cases k with
    | zero => simp [scells]
    | succ k =>
      rw [List.take_succ_cons, scells_cons, scells_cons, ih, List.take_append, List.take_of_length_le (l := spCs e) (by show 3 ≤ _; omega)]
      show _ = _ ++ List.take ((k + 1) * 3 - 3) _
      rw [show (k + 1) * 3 - 3 = k * 3 by omega]
theorem scells_drop (l : List Sp) (k : Nat) : scells (l.drop k) = (scells l).drop (k * 3) := by
  induction l generalizing k with
  | nil => simp [scells]
  | cons e l ih =>
    cases k with
    | zero => simp
    | succ k =>
      rw [List.drop_succ_cons, scells_cons, ih, List.drop_append, List.drop_of_length_le (l := spCs e) (by show 3 ≤ _; omega), List.nil_append]
      show _ = List.drop ((k + 1) * 3 - 3) _
      rw [show (k + 1) * 3 - 3 = k * 3 by omega]
theorem scells_get (l : List Sp) (k j : Nat) (e : Sp) (h : l[k]? = some e) (hj : j < 3) : (scells l)[k * 3 + j]? = (spCs e)[j]? := by
  obtain ⟨hk, rfl⟩ := List.getElem?_eq_some_iff.1 h
  have h1 : (scells (l.drop k))[j]? = (scells l)[k * 3 + j]? := by rw [scells_drop, List.getElem?_drop]
  rw [← h1, List.drop_eq_getElem_cons hk, scells_cons, List.getElem?_append_left (by show j < 3; exact hj)]
theorem spCs_one (e : Sp) : ∀ u ∈ spCs e, u.oneCell' = true := by
  intro u hu
  simp only [spCs, List.mem_cons, List.not_mem_nil, or_false] at hu
  rcases hu with rfl | rfl | rfl <;> rfl
theorem scells_one (l : List Sp) : ∀ u ∈ scells l, u.oneCell' = true := by
  intro u hu
  obtain ⟨e, _, he⟩ := List.mem_flatMap.1 hu
  exact spCs_one e u he

/-- The slice with address A and n elements holds these steps. -/
abbrev RS (w : World) (B : Nat) (A : Option Addr) (n : Nat) (l : List Sp) : Prop := Reads w B 3 A n (scells l)
/-- A step lies at these three cells. -/
structure Three (w : World) (b o : Nat) (e : Sp) : Prop where
  c0 : w.cell? ⟨b, o, none⟩ = some (.int .i64 e.pt)
  c1 : w.cell? ⟨b, o + 1, none⟩ = some (.string e.nm)
  c2 : w.cell? ⟨b, o + 2, none⟩ = some (.int .i64 e.bg)

section
variable {w w' : World} {B n : Nat} {A : Option Addr} {l : List Sp}
theorem RS.len (h : RS w B A n l) : l.length = n := by have := h.1; rw [scells_length] at this; omega
theorem RS.spot {ad : Addr} (h : RS w B (some ad) n l) (hn : 0 < n) : ad = ⟨ad.block, ad.off, none⟩ := by
  obtain ⟨ad', e, _, hc⟩ := h.2 hn
  cases e
  have hl := RS.len h
  have h0 := hc 0 _ (by rw [scells_get l 0 0 l[0] (List.getElem?_eq_getElem (by omega)) (by omega)]; rfl)
  rw [add_zero] at h0
  have hs := World.cell?_spot h0
  obtain ⟨b, o, s⟩ := ad
  have : s = none := hs
  subst this
  rfl
theorem RS.at_ (h : RS w B A n l) {k : Nat} (hk : k < n) : ∃ b o e, A = some ⟨b, o, none⟩ ∧ b < B ∧ l[k]? = some e ∧ Three w b (o + k * 3) e := by
  obtain ⟨ad, rfl, hb, hc⟩ := h.2 (by omega)
  have hsp := RS.spot h (by omega)
  have hl := RS.len h
  have he : l[k]? = some l[k] := List.getElem?_eq_getElem (by omega)
  have hj : ∀ j u, j < 3 → (spCs l[k])[j]? = some u → w.cell? ⟨ad.block, ad.off + (k * 3 + j), none⟩ = some u := fun j u hj hu => by
    have := hc (k * 3 + j) u (by rw [scells_get l k j _ he hj, hu])
    rw [hsp, Addr.add_lit] at this
    exact this
  refine ⟨ad.block, ad.off, l[k], by rw [← hsp], hb, he, ?_, ?_, ?_⟩
  · exact hj 0 _ (by omega) rfl
  · exact hj 1 _ (by omega) rfl
  · exact hj 2 _ (by omega) rfl
theorem RS.nil (w : World) (B : Nat) (A : Option Addr) : RS w B A 0 [] := ⟨rfl, fun h => absurd h (by omega)⟩
end

theorem Three.below {w w' : World} {b o B : Nat} {e : Sp} (h : Three w b o e) (k : Below B w w') (hb : b < B) : Three w' b o e :=
  ⟨(k.cell (p := ⟨b, o, none⟩) hb).trans h.c0, (k.cell (p := ⟨b, o + 1, none⟩) hb).trans h.c1, (k.cell (p := ⟨b, o + 2, none⟩) hb).trans h.c2⟩
/-- One new step. -/
theorem sp_new (w : World) (e : Sp) (t : TypeId) : RS (w.alloc (.cells (spCs e).toArray t)) (w.heap.size + 1) (some ⟨w.heap.size, 0, none⟩) 1 [e] := by
  refine ⟨by rw [scells_length]; rfl, fun _ => ⟨_, rfl, Nat.lt_succ_self _, fun j x hj => ?_⟩⟩
  rw [scells_one_sp] at hj
  rw [Addr.add_lit, Nat.zero_add, cell_of_row _ _ j _ t (0, 0) (heap_alloc_new w _)]
  simpa using hj
theorem sz3 (w : World) : (Go.sizeOf 44).run Try.prog w = .ok 3 w := by kernel_rfl
theorem infoS : (Try.prog.info? 44).map (fun i => (i.zero, i.size, i.bytes)) = some (some (.agg #[.int .i64 0, .string .empty, .int .i64 0]), 3, 32) := by kernel_rfl
end Go.Proofs.Ythaepkpmpnofgaa.Stq
