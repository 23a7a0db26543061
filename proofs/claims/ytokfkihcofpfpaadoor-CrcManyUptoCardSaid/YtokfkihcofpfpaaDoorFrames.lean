/- How an argument that is a slice of slices of bytes is opened, and what the second form's bulk gives of its lengths. -/
import Derived.Test.YtokfkihcofpfpaaDoorFrame
import Derived.Deep.Matrix
namespace Go.Proofs.YtokfkihcofpfpaaDoor.Frames
open Go.ChangeShapes Go.WideShapes Go.ChangeAt Go.RowKit Go.Deep Go.Proofs.YtokfkihcofpfpaaDoor.Kit Go.Proofs.YtokfkihcofpfpaaDoor.Frame

/-- The slice with address a and n elements holds slices that read as the texts of L. -/
def Texts (w : World) (a : Option Addr) (n : Nat) (L : List (List UInt8)) : Prop :=
  L.length = n ∧ ∀ k (hk : k < L.length), ∃ b o A m c, a = some ⟨b, o, none⟩ ∧ b < w.heap.size ∧ w.cell? ⟨b, o + k, none⟩ = some (.slice A m c) ∧ RB w A m L[k] ∧ m ≤ c ∧ c ≤ 9223372036854775807
/-- A slice of slices of bytes that came in: its texts, its bounds, how many bytes its datum holds at least. -/
structure Cames {H : Type} (w : World) (a : Option Addr) (len cap : Nat) (d : DataW H) (L : List (List UInt8)) : Prop where
  reads : Texts w a len L
  fits : len ≤ cap
  max : cap ≤ 9223372036854775807
  most : (L.map List.length).sum + len ≤ Rows.uptoBulk d

theorem row_bulk {H : Type} (A : Option Addr) (n : Nat) (zs : List Int) (hn : n ≤ zs.length) (h0 : A = none → n = 0) : n + 1 ≤ Rows.uptoBulk (intRow (H := H) .u8 A n zs) := by
  cases A with
  | none => rw [h0 rfl]; simp [intRow, Rows.uptoBulk]
  | some a =>
    have h1 := length_le (H := H) (lits .u8 (zs.take n))
    have h2 : (lits (H := H) .u8 (zs.take n)).length = n := by simp [lits, List.length_take, hn]
    simp only [intRow, Rows.uptoBulk]
    omega
theorem rows_bulk {H : Type} (D : Nat → DataW H) (T : Nat → List UInt8) : ∀ (l : List Nat), (∀ r ∈ l, (T r).length + 1 ≤ Rows.uptoBulk (D r)) → ((l.map T).map List.length).sum + l.length ≤ Rows.uptoBulkAll (l.map D)
  | [], _ => by simp [Rows.uptoBulkAll]
  | r :: l, h => by
    have h1 := h r (by simp)
    have h2 := rows_bulk D T l fun x hx => h x (by simp [hx])
    simp only [List.map_cons, List.sum_cons, List.length_cons, Rows.uptoBulkAll]
    omega

theorem open_bytess {H : Type} {enc : TypeId × Value → H} {P : Program} {w : World} {t e q : TypeId} {fuel len cap : Nat} {a0 : Option Addr} {x : DataW H × List MemPlace}
    (ht : P.underlying t = some (.slice e)) (he : P.underlying e = some (.slice q)) (hq : P.underlying q = some (.int .u8)) (ce : P.cellsOf e = 1) (cq : P.cellsOf q = 1)
    (h : DataW.trod enc P w 0 (fun _ => true) true fuel t (Value.slice a0 len cap).cells.toList = some x) : ∃ L, Cames w a0 len cap x.1 L := by
  rcases open_int_rows ht he hq ce cq h with ⟨hcs, hx⟩ | ⟨a, len', cap', A, N, C, Z, hcs, _, hl, hm, hx, hrow⟩
  · simp [Value.cells] at hcs
    obtain ⟨rfl, rfl, rfl⟩ := hcs
    subst hx
    exact ⟨[], ⟨rfl, fun k hk => absurd hk (by simp)⟩, by omega, by omega, by simp [Rows.uptoBulk]⟩
  · simp [Value.cells] at hcs
    obtain ⟨rfl, rfl, rfl⟩ := hcs
    subst hx
    unfold maxLen at hm
    let T : Nat → List UInt8 := fun r => ((Z r).take (N r)).map fun n => UInt8.ofNat n.toNat
    have hT : ∀ r, r < cap → (T r).length = N r := fun r hr => by
      obtain ⟨_, h1, _, h3, _⟩ := hrow r hr
      simp [T]
      omega
    have hspot : 0 < len → a = ⟨a.block, a.off, none⟩ := fun hn => by
      obtain ⟨hc, _⟩ := hrow 0 (by omega)
      obtain ⟨b, o, s⟩ := a
      have hs : s = none := by simpa [Addr.add] using World.cell?_spot hc
      subst hs
      rfl
    refine ⟨(List.range len).map T, ⟨by simp, fun k hk => ?_⟩, hl, by omega, ?_⟩
    · have hkl : k < len := by simpa using hk
      obtain ⟨hc, h1, h2, h3, h4, h5, h6⟩ := hrow k (by omega)
      have hs := hspot (by omega)
      rw [hs] at hc
      have hc' : w.cell? ⟨a.block, a.off + k, none⟩ = some (.slice (A k) (N k) (C k)) := by
        rw [← hc]
        congr 1
        unfold Addr.add
        split
        · rename_i h0; subst h0; rfl
        · rfl
      unfold maxLen at h2
      refine ⟨a.block, a.off, A k, N k, C k, by rw [← hs], World.block_lt_of_cell? _ (⟨a.block, a.off + k, none⟩ : Addr) hc', hc', ?_, h1, by omega⟩
      have e : ((List.range len).map T)[k]'hk = T k := by simp
      rw [e]
      cases hA : A k with
      | none =>
        have hC := h5 hA
        have hN : N k = 0 := by omega
        have hT0 : T k = [] := List.eq_nil_of_length_eq_zero (by rw [hT k (by omega), hN])
        rw [hN, hT0]
        exact Reads.none_
      | some b =>
        obtain ⟨_, hcell⟩ := h6 b hA
        exact rb_of_ints h1 h3 (fun i hi => hcell i (by omega)) h4
    · have hb := rows_bulk (fun r => intRow (H := H) .u8 (A r) (N r) (Z r)) T (List.range len) (fun r hr => by
        have hr' : r < cap := by have := List.mem_range.1 hr; omega
        obtain ⟨_, h1, _, h3, _, h5, _⟩ := hrow r hr'
        rw [hT r hr']
        exact row_bulk (A r) (N r) (Z r) (by omega) (fun hA => by have := h5 hA; omega))
      rw [List.length_range] at hb
      simp only [Rows.uptoBulk]
      omega
theorem Cames.bulk {H : Type} {w : World} {a : Option Addr} {len cap : Nat} {d : DataW H} {L : List (List UInt8)} (h : Cames w a len cap d L) {ds : List (DataW H)} (hk : Rows.uptoSmall H ds = true) (hd : d ∈ ds) : (L.map List.length).sum + len ≤ 1048576 := by
  have hall : Rows.uptoBulkAll ds ≤ 1048576 := of_decide_eq_true hk
  have hp := part_le hd
  have := h.most
  omega
/-- One text, in a later world. -/
theorem Texts.at_ {w w' : World} {B : Nat} {a : Option Addr} {n : Nat} {L : List (List UInt8)} (h : Texts w a n L) (hb : Below w.heap.size w w') (hB : B = w.heap.size) (k : Nat) (hk : k < L.length) :
    ∃ b o A m c, a = some ⟨b, o, none⟩ ∧ w'.cell? ⟨b, o + k, none⟩ = some (.slice A m c) ∧ Reads w' B 1 A m (vals L[k]) ∧ m ≤ c ∧ c ≤ 9223372036854775807 := by
  obtain ⟨b, o, A, m, c, rfl, hlt, hc, hr, h1, h2⟩ := h.2 k hk
  subst hB
  exact ⟨b, o, A, m, c, rfl, (hb.cell (p := ⟨b, o + k, none⟩) hlt).trans hc, hr.below hb, h1, h2⟩
end Go.Proofs.YtokfkihcofpfpaaDoor.Frames
