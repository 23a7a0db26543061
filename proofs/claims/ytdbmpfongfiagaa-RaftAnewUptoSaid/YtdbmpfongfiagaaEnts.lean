/- Entries and a log in memory. No statement is proved here. -/
import Derived.Test.YtdbmpfongfiagaaRows
import Derived.Test.YtdbmpfongfiagaaOnly
import Derived.Test.YtdbmpfongfiagaaRlog
import Derived.WalkKit
namespace Go.Proofs.Ytdbmpfongfiagaa.Ents
open Go.RowKit Go.Proofs.Ytdbmpfongfiagaa.Kit Go.Proofs.Ytdbmpfongfiagaa.Blocks Go.Proofs.Ytdbmpfongfiagaa.Rlog

def entCs (e : Ent) : List Value := [.int .u64 (e.term : Int), .int .u64 (e.idx : Int), .int .i64 e.kind, .string e.data]
def ecells (l : List Ent) : List Value := l.flatMap entCs
theorem ecells_nil : ecells [] = [] := rfl
theorem ecells_cons (e : Ent) (l : List Ent) : ecells (e :: l) = entCs e ++ ecells l := rfl
theorem ecells_append (l r : List Ent) : ecells (l ++ r) = ecells l ++ ecells r := by simp [ecells]
theorem ecells_one_ent (e : Ent) : ecells [e] = entCs e := by simp [ecells]
theorem ecells_length (l : List Ent) : (ecells l).length = l.length * 4 := by
  induction l with
  | nil => rfl
  | cons e l ih => rw [ecells_cons, List.length_append, ih]; simp [entCs]; omega
theorem ecells_take (l : List Ent) (k : Nat) : ecells (l.take k) = (ecells l).take (k * 4) := by
  induction l generalizing k with
  | nil => simp [ecells]
  | cons e l ih =>
    cases k with
    | zero => simp [ecells]
    | succ k =>
      rw [List.take_succ_cons, ecells_cons, ecells_cons, ih, List.take_append, List.take_of_length_le (l := entCs e) (by show 4 ≤ _; omega)]
      show _ = _ ++ List.take ((k + 1) * 4 - 4) _
      rw [show (k + 1) * 4 - 4 = k * 4 by omega]
theorem ecells_drop (l : List Ent) (k : Nat) : ecells (l.drop k) = (ecells l).drop (k * 4) := by
  induction l generalizing k with
  | nil => simp [ecells]
  | cons e l ih =>
    cases k with
    | zero => simp
    | succ k =>
      rw [List.drop_succ_cons, ecells_cons, ih, List.drop_append, List.drop_of_length_le (l := entCs e) (by show 4 ≤ _; omega), List.nil_append]
      show _ = List.drop ((k + 1) * 4 - 4) _
      rw [show (k + 1) * 4 - 4 = k * 4 by omega]
theorem ecells_get (l : List Ent) (k j : Nat) (e : Ent) (h : l[k]? = some e) (hj : j < 4) : (ecells l)[k * 4 + j]? = (entCs e)[j]? := by
  obtain ⟨hk, rfl⟩ := List.getElem?_eq_some_iff.1 h
  have h1 : (ecells (l.drop k))[j]? = (ecells l)[k * 4 + j]? := by rw [ecells_drop, List.getElem?_drop]
  rw [← h1, List.drop_eq_getElem_cons hk, ecells_cons, List.getElem?_append_left (by show j < 4; exact hj)]
theorem entCs_one (e : Ent) : ∀ u ∈ entCs e, u.oneCell' = true := by
  intro u hu
  simp only [entCs, List.mem_cons, List.not_mem_nil, or_false] at hu
  rcases hu with rfl | rfl | rfl | rfl <;> rfl
theorem ecells_one (l : List Ent) : ∀ u ∈ ecells l, u.oneCell' = true := by
  intro u hu
  obtain ⟨e, _, he⟩ := List.mem_flatMap.1 hu
  exact entCs_one e u he

/-- The slice with address A and n elements holds these entries. -/
abbrev RE (w : World) (B : Nat) (A : Option Addr) (n : Nat) (l : List Ent) : Prop := Reads w B 4 A n (ecells l)
/-- An entry lies at these four cells. -/
structure Four (w : World) (b o : Nat) (e : Ent) : Prop where
  c0 : w.cell? ⟨b, o, none⟩ = some (.int .u64 (e.term : Int))
  c1 : w.cell? ⟨b, o + 1, none⟩ = some (.int .u64 (e.idx : Int))
  c2 : w.cell? ⟨b, o + 2, none⟩ = some (.int .i64 e.kind)
  c3 : w.cell? ⟨b, o + 3, none⟩ = some (.string e.data)
/-- s[k:..]: where it points. -/
def cut4 (A : Option Addr) (c k : Nat) : Option Addr := if c = k then A else A.map (·.add (k * 4))

section
variable {w w' : World} {B n : Nat} {A : Option Addr} {l : List Ent}
theorem RE.len (h : RE w B A n l) : l.length = n := by have := h.1; rw [ecells_length] at this; omega
theorem RE.spot {ad : Addr} (h : RE w B (some ad) n l) (hn : 0 < n) : ad = ⟨ad.block, ad.off, none⟩ := by
  obtain ⟨ad', e, _, hc⟩ := h.2 hn
  cases e
  have hl := RE.len h
  have h0 := hc 0 _ (by rw [ecells_get l 0 0 l[0] (List.getElem?_eq_getElem (by omega)) (by omega)]; rfl)
  rw [add_zero] at h0
  have hs := World.cell?_spot h0
  obtain ⟨b, o, s⟩ := ad
  have : s = none := hs
  subst this
  rfl
theorem RE.at_ (h : RE w B A n l) {k : Nat} (hk : k < n) : ∃ b o e, A = some ⟨b, o, none⟩ ∧ b < B ∧ l[k]? = some e ∧ Four w b (o + k * 4) e := by
  obtain ⟨ad, rfl, hb, hc⟩ := h.2 (by omega)
  have hsp := RE.spot h (by omega)
  have hl := RE.len h
  have he : l[k]? = some l[k] := List.getElem?_eq_getElem (by omega)
  have hj : ∀ j u, j < 4 → (entCs l[k])[j]? = some u → w.cell? ⟨ad.block, ad.off + (k * 4 + j), none⟩ = some u := fun j u hj hu => by
    have := hc (k * 4 + j) u (by rw [ecells_get l k j _ he hj, hu])
    rw [hsp, Addr.add_lit] at this
    exact this
  refine ⟨ad.block, ad.off, l[k], by rw [← hsp], hb, he, ?_, ?_, ?_, ?_⟩
  · exact hj 0 _ (by omega) rfl
  · exact hj 1 _ (by omega) rfl
  · exact hj 2 _ (by omega) rfl
  · exact hj 3 _ (by omega) rfl
theorem cut4_zero (A : Option Addr) (c : Nat) : cut4 A c 0 = A := by
  unfold cut4
  split
  · rfl
  · cases A <;> simp [add_zero]
theorem RE.part (h : RE w B A n l) {k m cap : Nat} (hk : k ≤ m) (hm : m ≤ n) (hc : n ≤ cap) : RE w B (cut4 A cap k) (m - k) ((l.take m).drop k) := by
  have hl := RE.len h
  refine ⟨by rw [ecells_length]; simp only [List.length_drop, List.length_take]; omega, fun hn => ?_⟩
  obtain ⟨ad, rfl, hb, hcell⟩ := h.2 (by omega)
  unfold cut4
  rw [if_neg (by omega)]
  refine ⟨ad.add (k * 4), rfl, by rw [block_of_add]; exact hb, fun j u hu => ?_⟩
  rw [add_of_add]
  refine hcell _ u ?_
  rw [ecells_drop, ecells_take, List.getElem?_drop, List.getElem?_take] at hu
  split at hu
  · exact hu
  · cases hu
theorem RE.from_ (h : RE w B A n l) {k cap : Nat} (hk : k ≤ n) (hc : n ≤ cap) : RE w B (cut4 A cap k) (n - k) (l.drop k) := by
  have := RE.part h (k := k) (m := n) hk (Nat.le_refl _) hc
  rwa [List.take_of_length_le (by have := RE.len h; omega)] at this
theorem RE.first (h : RE w B A n l) {m : Nat} (hm : m ≤ n) : RE w B A m (l.take m) := by
  have := RE.part h (k := 0) (m := m) (cap := n) (Nat.zero_le _) hm (Nat.le_refl _)
  simpa [cut4_zero] using this
theorem RE.nil (w : World) (B : Nat) (A : Option Addr) : RE w B A 0 [] := ⟨rfl, fun h => absurd h (by omega)⟩
/-- A shorter slice of what is owned. -/
theorem own_take {base c k : Nat} {e : TypeId} (h : w.ownsRow base e 4 (.slice A n c) n (ecells l)) (hk : k ≤ n) : w.ownsRow base e 4 (.slice A k c) k (ecells (l.take k)) := by
  refine ⟨by rw [ecells_take, List.length_take, h.1]; omega, ?_⟩
  rcases h.2 with ⟨hv, hn⟩ | ⟨g, cap, cur, hv, hb, hg, h1, h2, h3, h4⟩
  · cases hv
    exact .inl ⟨by rw [show k = 0 by omega], by omega⟩
  · injection hv with hA _ hc
    subst hA hc
    refine .inr ⟨g, c, cur, rfl, hb, hg, by omega, h2, h3, ?_⟩
    rw [ecells_take, ← h4, List.take_take]
    congr 1
    omega
end

section
variable {P : Program}
theorem run_from4 (t e : TypeId) (ht : P.underlying t = some (.slice e)) (hz : ∀ w, (Go.sizeOf e).run P w = .ok 4 w) (A : Option Addr) (n c k : Nat) (hk : k ≤ n) (w : World) :
    (Instr.slice t (.slice A n c) (some (.int .i64 (k : Int))) none none).run P w = .ok (.slice (cut4 A c k) (n - k) (c - k)) w := by
  have ht' : P.underlying t = some (.slice (P.elem t)) := by simp [Program.elem, ht]
  have he : P.elem t = e := by simp [Program.elem, ht]
  rw [run_slice_l w t _ _ _ ht' .i64 _ (by omega) (by omega), he, hz]
  simp [Result.andThen, sliced, cut4]
theorem run_part4 (t e : TypeId) (ht : P.underlying t = some (.slice e)) (hz : ∀ w, (Go.sizeOf e).run P w = .ok 4 w) (A : Option Addr) (n c j k : Nat) (hj : j ≤ k) (hk : k ≤ c) (w : World) :
    (Instr.slice t (.slice A n c) (some (.int .i64 (j : Int))) (some (.int .i64 (k : Int))) none).run P w = .ok (.slice (cut4 A c j) (k - j) (c - j)) w := by
  have ht' : P.underlying t = some (.slice (P.elem t)) := by simp [Program.elem, ht]
  have he : P.elem t = e := by simp [Program.elem, ht]
  rw [run_slice_lh w t _ _ _ ht' .i64 .i64 _ _ (by omega) (by omega) (by omega), he, hz]
  simp [Result.andThen, sliced, cut4]
end
theorem sz4 (w : World) : (Go.sizeOf 57).run Try.prog w = .ok 4 w := by kernel_rfl
theorem infoE : (Try.prog.info? 57).map (fun i => (i.zero, i.size, i.bytes)) = some (some (.agg #[.int .u64 0, .int .u64 0, .int .i64 0, .string .empty]), 4, 40) := by kernel_rfl
end Go.Proofs.Ytdbmpfongfiagaa.Ents
