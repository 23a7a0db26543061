/- Entries and letters in memory: slices of structs. No statement is proved here. -/
import Derived.Test.YtkimeggojcgacaaRows
import Derived.Test.YtkimeggojcgacaaOnly
import Derived.WalkKit
set_option linter.unusedVariables false
namespace Go.Proofs.Ytkimeggojcgacaa.Ltr
open Go.RowKit Go.Proofs.Ytkimeggojcgacaa.Kit Go.Proofs.Ytkimeggojcgacaa.Blocks

/-- An entry. -/
structure Ent where
  term : Int
  idx : Int
  kind : Int
  data : ByteArray
def entCs (e : Ent) : List Value := [.int .u64 e.term, .int .u64 e.idx, .int .i64 e.kind, .string e.data]
def ecells (l : List Ent) : List Value := l.flatMap entCs
theorem ecells_nil : ecells [] = [] := rfl
theorem ecells_cons (e : Ent) (l : List Ent) : ecells (e :: l) = entCs e ++ ecells l := rfl
theorem ecells_append (l r : List Ent) : ecells (l ++ r) = ecells l ++ ecells r := by simp [ecells]
theorem ecells_one_ent (e : Ent) : ecells [e] = entCs e := by simp [ecells]
theorem ecells_length (l : List Ent) : (ecells l).length = l.length * 4 := by
  induction l with
  | nil => rfl
  | cons e l ih => rw [ecells_cons, List.length_append, ih]; simp [entCs]; omega
theorem ecells_take (l : List Ent) (k : Nat) : ecells (l.take k) = (ecells l).take (k * 4) := by
  induction l generalizing k with
  | nil => simp [ecells]
  | cons e l ih =>
    cases k with
    | zero => simp [ecells]
    | succ k =>
      rw [List.take_succ_cons, ecells_cons, ecells_cons, ih, List.take_append, List.take_of_length_le (l := entCs e) (by show 4 ≤ _; omega)]
      show _ = _ ++ List.take ((k + 1) * 4 - 4) _
      rw [show (k + 1) * 4 - 4 = k * 4 by omega]
theorem ecells_drop (l : List Ent) (k : Nat) : ecells (l.drop k) = (ecells l).drop (k * 4) := by
  induction l generalizing k with
  | nil => simp [ecells]
  | cons e l ih =>
    cases k with
    | zero => simp
    | succ k =>
      rw [List.drop_succ_cons, ecells_cons, ih, List.drop_append, List.drop_of_length_le (l := entCs e) (by show 4 ≤ _; omega), List.nil_append]
      show _ = List.drop ((k + 1) * 4 - 4) _
      rw [show (k + 1) * 4 - 4 = k * 4 by omega]
theorem ecells_get (l : List Ent) (k j : Nat) (e : Ent) (h : l[k]? = some e) (hj : j < 4) : (ecells l)[k * 4 + j]? = (entCs e)[j]? := by
  obtain ⟨hk, rfl⟩ := List.getElem?_eq_some_iff.1 h
  have h1 : (ecells (l.drop k))[j]? = (ecells l)[k * 4 + j]? := by rw [ecells_drop, List.getElem?_drop]
  rw [← h1, List.drop_eq_getElem_cons hk, ecells_cons, List.getElem?_append_left (by show j < 4; exact hj)]
theorem entCs_one (e : Ent) : ∀ u ∈ entCs e, u.oneCell' = true := by
  intro u hu
  simp only [entCs, List.mem_cons, List.not_mem_nil, or_false] at hu
  rcases hu with rfl | rfl | rfl | rfl <;> rfl
theorem ecells_one (l : List Ent) : ∀ u ∈ ecells l, u.oneCell' = true := by
  intro u hu
  obtain ⟨e, _, he⟩ := List.mem_flatMap.1 hu
  exact entCs_one e u he

/-- The slice with address A and n elements holds these entries. -/
abbrev RE (w : World) (B : Nat) (A : Option Addr) (n : Nat) (l : List Ent) : Prop := Reads w B 4 A n (ecells l)
/-- An entry lies at these four cells. -/
structure Four (w : World) (b o : Nat) (e : Ent) : Prop where
  c0 : w.cell? ⟨b, o, none⟩ = some (.int .u64 e.term)
  c1 : w.cell? ⟨b, o + 1, none⟩ = some (.int .u64 e.idx)
  c2 : w.cell? ⟨b, o + 2, none⟩ = some (.int .i64 e.kind)
  c3 : w.cell? ⟨b, o + 3, none⟩ = some (.string e.data)

section
variable {w w' : World} {B n : Nat} {A : Option Addr} {l : List Ent}
theorem RE.len (h : RE w B A n l) : l.length = n := by have := h.1; rw [ecells_length] at this; omega
theorem RE.spot {ad : Addr} (h : RE w B (some ad) n l) (hn : 0 < n) : ad = ⟨ad.block, ad.off, none⟩ := by
  obtain ⟨ad', e, _, hc⟩ := h.2 hn
  cases e
  have hl := RE.len h
  have h0 := hc 0 _ (by rw [ecells_get l 0 0 l[0] (List.getElem?_eq_getElem (by omega)) (by omega)]; rfl)
  rw [add_zero] at h0
  have hs := World.cell?_spot h0
  obtain ⟨b, o, s⟩ := ad
  have : s = none := hs
  subst this
  rfl
theorem RE.at_ (h : RE w B A n l) {k : Nat} (hk : k < n) : ∃ b o e, A = some ⟨b, o, none⟩ ∧ b < B ∧ l[k]? = some e ∧ Four w b (o + k * 4) e := by
  obtain ⟨ad, rfl, hb, hc⟩ := h.2 (by omega)
  have hsp := RE.spot h (by omega)
  have hl := RE.len h
  have he : l[k]? = some l[k] := List.getElem?_eq_getElem (by omega)
  have hj : ∀ j u, j < 4 → (entCs l[k])[j]? = some u → w.cell? ⟨ad.block, ad.off + (k * 4 + j), none⟩ = some u := fun j u hj hu => by
    have := hc (k * 4 + j) u (by rw [ecells_get l k j _ he hj, hu])
    rw [hsp, Addr.add_lit] at this
    exact this
  refine ⟨ad.block, ad.off, l[k], by rw [← hsp], hb, he, ?_, ?_, ?_, ?_⟩
  · exact hj 0 _ (by omega) rfl
  · exact hj 1 _ (by omega) rfl
  · exact hj 2 _ (by omega) rfl
  · exact hj 3 _ (by omega) rfl
theorem RE.nil (w : World) (B : Nat) (A : Option Addr) : RE w B A 0 [] := ⟨rfl, fun h => absurd h (by omega)⟩
end

/-! ### Letters -/
/-- What a letter says, its entries aside. -/
structure Hd where
  k : Int
  f : Int
  t : Int
  tm : Int
  ix : Int
  pv : Int
  cm : Int
  ok : Bool
  d : ByteArray
/-- A letter: what it says, where its entries lie, its entries. -/
structure Lt where
  h : Hd
  A : Option Addr
  n : Nat
  c : Nat
  es : List Ent
def Lt.said (x : Lt) : Hd × List Ent := (x.h, x.es)
def zeroH : Hd := ⟨0, 0, 0, 0, 0, 0, 0, false, ⟨#[]⟩⟩
def zeroL : Lt := ⟨zeroH, none, 0, 0, []⟩
def ltCs (x : Lt) : List Value := [.int .i64 x.h.k, .int .i64 x.h.f, .int .i64 x.h.t, .int .u64 x.h.tm, .int .u64 x.h.ix, .int .u64 x.h.pv, .int .u64 x.h.cm, .bool x.h.ok, .slice x.A x.n x.c, .string x.h.d]
def ltV (x : Lt) : Value := .agg #[.int .i64 x.h.k, .int .i64 x.h.f, .int .i64 x.h.t, .int .u64 x.h.tm, .int .u64 x.h.ix, .int .u64 x.h.pv, .int .u64 x.h.cm, .bool x.h.ok, .slice x.A x.n x.c, .string x.h.d]
def lcells (l : List Lt) : List Value := l.flatMap ltCs
theorem lcells_nil : lcells [] = [] := rfl
theorem lcells_cons (e : Lt) (l : List Lt) : lcells (e :: l) = ltCs e ++ lcells l := rfl
theorem lcells_append (l r : List Lt) : lcells (l ++ r) = lcells l ++ lcells r := by simp [lcells]
theorem lcells_one_lt (e : Lt) : lcells [e] = ltCs e := by simp [lcells]
theorem lcells_length (l : List Lt) : (lcells l).length = l.length * 10 := by
  induction l with
  | nil => rfl
  | cons e l ih => rw [lcells_cons, List.length_append, ih]; simp [ltCs]; omega
theorem lcells_take (l : List Lt) (k : Nat) : lcells (l.take k) = (lcells l).take (k * 10) := by
  induction l generalizing k with
  | nil => simp [lcells]
  | cons e l ih =>
    cases k with
    | zero => simp [lcells]
    | succ k =>
      rw [List.take_succ_cons, lcells_cons, lcells_cons, ih, List.take_append, List.take_of_length_le (l := ltCs e) (by show 10 ≤ _; omega)]
      show _ = _ ++ List.take ((k + 1) * 10 - 10) _
      rw [show (k + 1) * 10 - 10 = k * 10 by omega]
theorem lcells_drop (l : List Lt) (k : Nat) : lcells (l.drop k) = (lcells l).drop (k * 10) := by
  induction l generalizing k with
  | nil => simp [lcells]
  | cons e l ih =>
    cases k with
    | zero => simp
    | succ k =>
      rw [List.drop_succ_cons, lcells_cons, ih, List.drop_append, List.drop_of_length_le (l := ltCs e) (by show 10 ≤ _; omega), List.nil_append]
      show _ = List.drop ((k + 1) * 10 - 10) _
      rw [show (k + 1) * 10 - 10 = k * 10 by omega]
theorem lcells_get (l : List Lt) (k j : Nat) (e : Lt) (h : l[k]? = some e) (hj : j < 10) : (lcells l)[k * 10 + j]? = (ltCs e)[j]? := by
  obtain ⟨hk, rfl⟩ := List.getElem?_eq_some_iff.1 h
  have h1 : (lcells (l.drop k))[j]? = (lcells l)[k * 10 + j]? := by rw [lcells_drop, List.getElem?_drop]
  rw [← h1, List.drop_eq_getElem_cons hk, lcells_cons, List.getElem?_append_left (by show j < 10; exact hj)]
theorem ltCs_one (e : Lt) : ∀ u ∈ ltCs e, u.oneCell' = true := by
  intro u hu
  simp only [ltCs, List.mem_cons, List.not_mem_nil, or_false] at hu
  rcases hu with rfl | rfl | rfl | rfl | rfl | rfl | rfl | rfl | rfl | rfl <;> rfl
theorem lcells_one (l : List Lt) : ∀ u ∈ lcells l, u.oneCell' = true := by
  intro u hu
  obtain ⟨e, _, he⟩ := List.mem_flatMap.1 hu
  exact ltCs_one e u he
/-- The slice with address A and n elements holds these letters' cells. -/
abbrev RL (w : World) (B : Nat) (A : Option Addr) (n : Nat) (l : List Lt) : Prop := Reads w B 10 A n (lcells l)
/-- A letter lies at these ten cells. -/
structure Ten (w : World) (b o : Nat) (x : Lt) : Prop where
  c0 : w.cell? ⟨b, o, none⟩ = some (.int .i64 x.h.k)
  c1 : w.cell? ⟨b, o + 1, none⟩ = some (.int .i64 x.h.f)
  c2 : w.cell? ⟨b, o + 2, none⟩ = some (.int .i64 x.h.t)
  c3 : w.cell? ⟨b, o + 3, none⟩ = some (.int .u64 x.h.tm)
  c4 : w.cell? ⟨b, o + 4, none⟩ = some (.int .u64 x.h.ix)
  c5 : w.cell? ⟨b, o + 5, none⟩ = some (.int .u64 x.h.pv)
  c6 : w.cell? ⟨b, o + 6, none⟩ = some (.int .u64 x.h.cm)
  c7 : w.cell? ⟨b, o + 7, none⟩ = some (.bool x.h.ok)
  c8 : w.cell? ⟨b, o + 8, none⟩ = some (.slice x.A x.n x.c)
  c9 : w.cell? ⟨b, o + 9, none⟩ = some (.string x.h.d)
theorem Ten.same {w w' : World} {b o : Nat} {x : Lt} (h : Ten w b o x) (k : ∀ i, w'.cell? ⟨b, i, none⟩ = w.cell? ⟨b, i, none⟩) : Ten w' b o x :=
  ⟨(k _).trans h.c0, (k _).trans h.c1, (k _).trans h.c2, (k _).trans h.c3, (k _).trans h.c4, (k _).trans h.c5, (k _).trans h.c6, (k _).trans h.c7, (k _).trans h.c8, (k _).trans h.c9⟩
section
variable {w w' : World} {B n : Nat} {A : Option Addr} {l : List Lt}
theorem RL.len (h : RL w B A n l) : l.length = n := by have := h.1; rw [lcells_length] at this; omega
theorem RL.spot {ad : Addr} (h : RL w B (some ad) n l) (hn : 0 < n) : ad = ⟨ad.block, ad.off, none⟩ := by
  obtain ⟨ad', e, _, hc⟩ := h.2 hn
  cases e
  have hl := RL.len h
  have h0 := hc 0 _ (by rw [lcells_get l 0 0 l[0] (List.getElem?_eq_getElem (by omega)) (by omega)]; rfl)
  rw [add_zero] at h0
  have hs := World.cell?_spot h0
  obtain ⟨b, o, s⟩ := ad
  have : s = none := hs
  subst this
  rfl
theorem RL.at_ (h : RL w B A n l) {k : Nat} (hk : k < n) : ∃ b o e, A = some ⟨b, o, none⟩ ∧ b < B ∧ l[k]? = some e ∧ Ten w b (o + k * 10) e := by
  obtain ⟨ad, rfl, hb, hc⟩ := h.2 (by omega)
  have hsp := RL.spot h (by omega)
  have hl := RL.len h
  have he : l[k]? = some l[k] := List.getElem?_eq_getElem (by omega)
  have hj : ∀ j u, j < 10 → (ltCs l[k])[j]? = some u → w.cell? ⟨ad.block, ad.off + (k * 10 + j), none⟩ = some u := fun j u hj hu => by
    have := hc (k * 10 + j) u (by rw [lcells_get l k j _ he hj, hu])
    rw [hsp, Addr.add_lit] at this
    exact this
  refine ⟨ad.block, ad.off, l[k], by rw [← hsp], hb, he, ?_, ?_, ?_, ?_, ?_, ?_, ?_, ?_, ?_, ?_⟩
  · exact hj 0 _ (by omega) rfl
  · exact hj 1 _ (by omega) rfl
  · exact hj 2 _ (by omega) rfl
  · exact hj 3 _ (by omega) rfl
  · exact hj 4 _ (by omega) rfl
  · exact hj 5 _ (by omega) rfl
  · exact hj 6 _ (by omega) rfl
  · exact hj 7 _ (by omega) rfl
  · exact hj 8 _ (by omega) rfl
  · exact hj 9 _ (by omega) rfl
theorem RL.nil (w : World) (B : Nat) (A : Option Addr) : RL w B A 0 [] := ⟨rfl, fun h => absurd h (by omega)⟩
end
/-- One new letter. -/
theorem lt_new (w : World) (e : Lt) (t : TypeId) : RL (w.alloc (.cells (ltCs e).toArray t)) (w.heap.size + 1) (some ⟨w.heap.size, 0, none⟩) 1 [e] := by
  refine ⟨by rw [lcells_length]; rfl, fun _ => ⟨_, rfl, Nat.lt_succ_self _, fun j x hj => ?_⟩⟩
  rw [lcells_one_lt] at hj
  rw [Addr.add_lit, Nat.zero_add, cell_of_row _ _ j _ t (0, 0) (heap_alloc_new w _)]
  simpa using hj
theorem sz4 (w : World) : (Go.sizeOf 47).run Try.prog w = .ok 4 w := by kernel_rfl
theorem sz10 (w : World) : (Go.sizeOf 25).run Try.prog w = .ok 10 w := by kernel_rfl
theorem infoE : (Try.prog.info? 47).map (fun i => (i.zero, i.size, i.bytes)) = some (some (.agg #[.int .u64 0, .int .u64 0, .int .i64 0, .string .empty]), 4, 40) := by kernel_rfl
theorem infoL : (Try.prog.info? 25).map (fun i => (i.zero, i.size, i.bytes)) = some (some (.agg #[.int .i64 0, .int .i64 0, .int .i64 0, .int .u64 0, .int .u64 0, .int .u64 0, .int .u64 0, .bool false, .slice none 0 0, .string .empty]), 10, 104) := by kernel_rfl
end Go.Proofs.Ytkimeggojcgacaa.Ltr
