/- What a disk of layer 4 is in memory. No statement is proved here. -/
import Derived.Test.YtamncdpeklbhlaaGreatDoorProg
import Derived.Test.YtamncdpeklbhlaaGreatDoorMaps
import Derived.Test.YtamncdpeklbhlaaGreatDoorModel
import Derived.WalkKit
namespace Go.Proofs.YtamncdpeklbhlaaGreatDoor.Disk
open Go.RowKit Go.Proofs.YtamncdpeklbhlaaGreatDoor.Kit Go.Proofs.YtamncdpeklbhlaaGreatDoor.Blocks Go.Proofs.YtamncdpeklbhlaaGreatDoor.Keys Go.Proofs.YtamncdpeklbhlaaGreatDoor.Model

/-- The slice of file i. -/
def sv (m : M) (A : Nat → Option Addr) (c : Nat → Nat) (i : Nat) : Value := .slice (A i) (m.all i).length (c i)
/-- The entry of file i. -/
def fv (m : M) (A : Nat → Option Addr) (c : Nat → Nat) (i : Nat) : Value := .agg #[sv m A c i, .int .i64 ((m.firm i).length : Int)]
def ent (m : M) (A : Nat → Option Addr) (c : Nat → Nat) (n : Int) : Option Value := if m.has n then some (fv m A c n.toNat) else none

/-- Block p is a disk: m; the files' slices have addresses A and capacities c; its map is mb; the fuel's field holds x. Of file e (if there is one) nothing is said. -/
structure DV (w : World) (p N : Nat) (m : M) (A : Nat → Option Addr) (c : Nat → Nat) (mb : Option Nat) (x : Int) (e : Option Nat) : Prop where
  cell : w.heap[p]? = some (.cells #[.int .i64 (m.room : Int), .int .i64 x, .bool m.off, .map mb] 86 (0, 0))
  fuel : m.fuel = max x (-1)
  lo : -9223372036854775808 ≤ x
  hi : x ≤ 9223372036854775807
  map : MapV Tryz.prog 3 w mb N (ent m A c)
  mapp : ∀ b, mb = some b → p < b
  own : ∀ i, e ≠ some i → Row w (p + 1) 5 (sv m A c i) (m.all i).length (vals (m.all i))
  nil : ∀ i, m.there i = false → A i = none ∧ c i = 0
  apart : ∀ i j a b, i ≠ j → A i = some a → A j = some b → a.block ≠ b.block
  rows : ∀ i a, A i = some a → p < a.block ∧ a.block < w.heap.size

/-- The blocks of a disk. -/
def Foot (p : Nat) (mb : Option Nat) (A : Nat → Option Addr) (k : Nat) : Prop := k = p ∨ mb = some k ∨ ∃ i a, A i = some a ∧ a.block = k

theorem own_block (m : M) (A : Nat → Option Addr) (c : Nat → Nat) (i g : Nat) (h : (sv m A c i).ownBlock = some g) : ∃ a, A i = some a ∧ a.block = g := by
  unfold sv at h
  cases hA : A i with
  | none => rw [hA] at h; cases h
  | some a => rw [hA] at h; exact ⟨a, rfl, by simpa [Value.ownBlock] using h⟩
theorem zero_file (w : World) : (zeroValue 113).run Tryz.prog w = .ok (.agg #[.slice none 0 0, .int .i64 0]) w := by kernel_rfl

section
variable {w w' : World} {p N : Nat} {m : M} {A : Nat → Option Addr} {c : Nat → Nat} {mb : Option Nat} {x : Int} {e : Option Nat}
theorem DV.lt (h : DV w p N m A c mb x e) : p < w.heap.size := lt_at h.cell
theorem DV.foot_lt (h : DV w p N m A c mb x e) {k : Nat} (hk : Foot p mb A k) : k < w.heap.size := by
  rcases hk with rfl | rfl | ⟨i, a, hi, rfl⟩
  · exact h.lt
  · exact h.map.lt
  · exact (h.rows i a hi).2
theorem DV.foot_ge (h : DV w p N m A c mb x e) {k : Nat} (hk : Foot p mb A k) : p ≤ k := by
  rcases hk with rfl | hb | ⟨i, a, hi, rfl⟩
  · exact Nat.le_refl _
  · have := h.mapp k hb; omega
  · have := (h.rows i a hi).1; omega
theorem DV.c0 (h : DV w p N m A c mb x e) : w.cell? ⟨p, 0, none⟩ = some (.int .i64 (m.room : Int)) := by rw [cell_at h.cell]; rfl
theorem DV.c1 (h : DV w p N m A c mb x e) : w.cell? ⟨p, 1, none⟩ = some (.int .i64 x) := by rw [cell_at h.cell]; rfl
theorem DV.c2 (h : DV w p N m A c mb x e) : w.cell? ⟨p, 2, none⟩ = some (.bool m.off) := by rw [cell_at h.cell]; rfl
theorem DV.c3 (h : DV w p N m A c mb x e) : w.cell? ⟨p, 3, none⟩ = some (.map mb) := by rw [cell_at h.cell]; rfl
theorem DV.more (h : DV w p N m A c mb x e) {N' : Nat} (hn : N ≤ N') : DV w p N' m A c mb x e := { h with map := h.map.more hn }
theorem DV.but (h : DV w p N m A c mb x none) (i : Nat) : DV w p N m A c mb x (some i) := { h with own := fun j _ => h.own j (by simp) }
/-- A disk stays where its blocks do. -/
theorem DV.keep (h : DV w p N m A c mb x e) {S : Nat → Prop} (k : Only S w w') (hs : ∀ q, Foot p mb A q → ¬ S q) : DV w' p N m A c mb x e where
  cell := k.heap h.cell (hs p (.inl rfl))
  fuel := h.fuel
  lo := h.lo
  hi := h.hi
  map := h.map.keep fun b hb => k.block b (h.foot_lt (.inr (.inl hb))) (hs b (.inr (.inl hb)))
  mapp := h.mapp
  own := fun i hi => k.row (h.own i hi) fun g hg => by
    obtain ⟨a, ha, rfl⟩ := own_block m A c i g hg
    exact hs _ (.inr (.inr ⟨i, a, ha, rfl⟩))
  nil := h.nil
  apart := h.apart
  rows := fun i a ha => by have := h.rows i a ha; have := k.size; omega
theorem DV.below (h : DV w p N m A c mb x e) (k : Below w.heap.size w w') : DV w' p N m A c mb x e :=
  h.keep (S := fun _ => False) (Only.of_below k) (by simp)
theorem DV.drew (h : DV w p N m A c mb x e) : DV w.drew p N m A c mb x e := h.keep ((Only.refl (fun _ => False) w).drew) (by simp)
theorem DV.drewN (h : DV w p N m A c mb x e) (n : Nat) : DV (w.drewN n) p N m A c mb x e := h.keep ((Only.refl (fun _ => False) w).drewN n) (by simp)

theorem foot_row (h : DV w p N m A c mb x e) {i : Nat} {a : Addr} (ha : A i = some a) (b : Nat) (hb : mb = some b) (hi : e ≠ some i) : a.block ≠ b := by
  intro he
  have hm := h.map
  rw [hb] at hm
  obtain ⟨D, ⟨es, clock, hes, _⟩, _⟩ := hm
  obtain ⟨cur, fz, hg⟩ := (h.own i hi).is_cells (k := a.block) (by simp [sv, ha, Value.ownBlock])
  rw [he, hes] at hg
  cases hg

/-- m[n], n a file's number, whether it is there or not. -/
theorem look_in (h : DV w p N m A c mb x e) (g : Fine m) {n : Int} (hn : 0 ≤ n ∧ n < 16) : (ent m A c n).getD (.agg #[.slice none 0 0, .int .i64 0]) = fv m A c n.toNat := by
  unfold ent
  cases hh : m.has n with
  | true => rfl
  | false =>
    have ht : m.there n.toNat = false := by
      unfold M.has at hh
      rw [show decide (0 ≤ n ∧ n < 16) = true from decide_eq_true hn, Bool.true_and] at hh
      exact hh
    obtain ⟨h1, h2⟩ := g.gone _ ht
    obtain ⟨h3, h4⟩ := h.nil _ ht
    simp [fv, sv, M.all, h1, h2, h3, h4]
theorem ent_some (n : Int) : (ent m A c n).isSome = m.has n := by unfold ent; split <;> simp_all
theorem ent_yes {n : Int} (h : m.has n = true) : ent m A c n = some (fv m A c n.toNat) := by unfold ent; rw [if_pos h]
theorem ent_no {n : Int} (h : m.has n = false) : ent m A c n = none := by unfold ent; rw [h]; rfl

/-- Only the fuel's field and whether it is off are set. -/
theorem DV.turned (h : DV w p N m A c mb x e) {m' : M} {x' : Int} (hc : w'.heap[p]? = some (.cells #[.int .i64 (m'.room : Int), .int .i64 x', .bool m'.off, .map mb] 86 (0, 0))) (k : Only (fun q => q = p) w w')
    (hf : m'.fuel = max x' (-1)) (lo : -9223372036854775808 ≤ x') (hi : x' ≤ 9223372036854775807) (h1 : m'.firm = m.firm) (h2 : m'.soft = m.soft) (h3 : m'.there = m.there) : DV w' p N m' A c mb x' e := by
  have ha : m'.all = m.all := funext fun i => by simp [M.all, h1, h2]
  have hsv : sv m' A c = sv m A c := funext fun i => by simp [sv, ha]
  have hent : ent m' A c = ent m A c := funext fun n => by simp [ent, fv, M.has, hsv, h1, h3]
  refine ⟨hc, hf, lo, hi, ?_, h.mapp, ?_, ?_, h.apart, fun i a ha => by have := h.rows i a ha; have := k.size; omega⟩
  · rw [hent]
    exact h.map.keep fun b hb => k.block b (h.foot_lt (.inr (.inl hb))) (by have := h.mapp b hb; omega)
  · intro i hi
    rw [hsv, ha]
    exact k.row (h.own i hi) fun g hg => by
      obtain ⟨a, ha, rfl⟩ := own_block m A c i g hg
      have := (h.rows i a ha).1
      omega
  · rw [h3]; exact h.nil

def upd {α : Type} (f : Nat → α) (i : Nat) (y : α) : Nat → α := fun j => if j = i then y else f j

/-- An entry is laid anew. -/
theorem DV.put (h : DV w p N m A c mb x e) {i : Nat} (hi : i < 16) (he : ∀ j, e = some j → j = i) {a b : List UInt8} {A1 : Option Addr} {c1 : Nat} {mb' : Nat} {N' : Nat}
    (hown : Row w (p + 1) 5 (.slice A1 (a ++ b).length c1) (a ++ b).length (vals (a ++ b)))
    (hap : ∀ y, A1 = some y → ∀ j z, j ≠ i → A j = some z → y.block ≠ z.block)
    (hb : mb = some mb' ∨ (mb = none ∧ w.heap.size ≤ mb'))
    (hc : w'.heap[p]? = some (.cells #[.int .i64 (m.room : Int), .int .i64 x, .bool m.off, .map (some mb')] 86 (0, 0)))
    (hm : MapAt Tryz.prog 3 w' mb' N' (fun j => if j = (i : Int) then some (.agg #[.slice A1 (a ++ b).length c1, .int .i64 (a.length : Int)]) else ent m A c j))
    (k : Only (fun q => q = p ∨ mb = some q) w w') :
    DV w' p N' (m.set i a b true) (upd A i A1) (upd c i c1) (some mb') x none ∧ Only (Foot p mb A) w w' ∧ ∀ q, Foot p (some mb') (upd A i A1) q → Foot p mb A q ∨ w.heap.size ≤ q ∨ ∃ y, A1 = some y ∧ y.block = q := by
  have hsz := k.size
  have hall : ∀ j, (m.set i a b true).all j = if j = i then a ++ b else m.all j := fun j => by simp only [M.all, M.set]; split <;> rfl
  have hrow : ∀ y, A1 = some y → p < y.block ∧ y.block < w.heap.size := fun y hy => by
    have := hown.lt y.block (by rw [hy]; rfl)
    omega
  refine ⟨⟨hc, h.fuel, h.lo, h.hi, ?_, ?_, ?_, ?_, ?_, ?_⟩, k.mono fun q _ hq => hq.elim .inl (fun h => .inr (.inl h)), ?_⟩
  · refine MapAt.same hm fun j => ?_
    unfold ent
    by_cases hj : j = (i : Int)
    · subst hj
      have h1 : (m.set i a b true).has (i : Int) = true := by simp [M.has, M.set]; omega
      rw [if_pos h1, if_pos rfl]
      simp [fv, sv, upd, M.set, M.all]
    · rw [if_neg hj]
      have h1 : (m.set i a b true).has j = m.has j := by
        unfold M.has
        by_cases hr : 0 ≤ j ∧ j < 16
        · simp only [M.set]
          rw [if_neg (by omega)]
        · simp [hr]
      rw [h1]
      cases hh : m.has j with
      | false => rfl
      | true =>
        have hjn := (has_in hh).1
        have hne : j.toNat ≠ i := by omega
        have hf : (m.set i a b true).firm j.toNat = m.firm j.toNat := by simp [M.set, hne]
        simp [fv, sv, upd, hall, hf, hne]
  · intro g hg
    cases hg
    rcases hb with hb | ⟨_, hb⟩
    · exact h.mapp _ hb
    · have := h.lt; omega
  · intro j _
    by_cases hj : j = i
    · subst hj
      simp only [sv, upd, hall, if_true]
      refine k.row hown fun g hg => ?_
      have h1 : ∃ y, A1 = some y ∧ y.block = g := by
        cases hA : A1 with
        | none => rw [hA] at hg; cases hg
        | some y => rw [hA] at hg; exact ⟨y, rfl, by simpa [Value.ownBlock] using hg⟩
      obtain ⟨y, hy, rfl⟩ := h1
      rintro (e1 | e1)
      · have := (hrow y hy).1; omega
      · have hmm := h.map
        rw [e1] at hmm
        obtain ⟨D, ⟨es, clock, hes, _⟩, _⟩ := hmm
        obtain ⟨cur, fz, hgg⟩ := hown.is_cells (k := y.block) (by rw [hy]; rfl)
        rw [hes] at hgg
        cases hgg
    · have hje : e ≠ some j := fun e1 => hj (he j e1)
      have h1 : sv (m.set i a b true) (upd A i A1) (upd c i c1) j = sv m A c j := by simp [sv, upd, hall, hj]
      rw [h1, hall, if_neg hj]
      refine k.row (h.own j hje) fun g hg => ?_
      obtain ⟨y, hy, rfl⟩ := own_block m A c j g hg
      rintro (e1 | e1)
      · have := (h.rows j y hy).1; omega
      · exact foot_row h hy _ e1 hje rfl
  · intro j hj
    simp only [M.set] at hj
    by_cases hji : j = i
    · rw [if_pos hji] at hj; cases hj
    · rw [if_neg hji] at hj
      simp only [upd]
      rw [if_neg hji, if_neg hji]
      exact h.nil j hj
  · intro j1 j2 y z hne hy hz
    simp only [upd] at hy hz
    by_cases h1 : j1 = i
    · rw [if_pos h1] at hy
      rw [if_neg (by omega)] at hz
      exact hap y hy j2 z (by omega) hz
    · rw [if_neg h1] at hy
      by_cases h2 : j2 = i
      · rw [if_pos h2] at hz
        exact fun e1 => hap z hz j1 y h1 hy e1.symm
      · rw [if_neg h2] at hz
        exact h.apart j1 j2 y z hne hy hz
  · intro j y hy
    simp only [upd] at hy
    by_cases h1 : j = i
    · rw [if_pos h1] at hy
      have := hrow y hy
      omega
    · rw [if_neg h1] at hy
      have := h.rows j y hy
      omega
  · rintro q (rfl | hq | ⟨j, y, hy, rfl⟩)
    · exact .inl (.inl rfl)
    · cases hq
      rcases hb with hb | ⟨_, hb⟩
      · exact .inl (.inr (.inl hb))
      · exact .inr (.inl hb)
    · simp only [upd] at hy
      by_cases h1 : j = i
      · rw [if_pos h1] at hy
        exact .inr (.inr ⟨y, hy, rfl⟩)
      · rw [if_neg h1] at hy
        exact .inl (.inr (.inr ⟨j, y, hy, rfl⟩))

/-- An entry is struck. -/
theorem DV.drop (h : DV w p N m A c mb x none) {i : Nat}
    (hm : MapV Tryz.prog 3 w' mb N (fun j => if j = (i : Int) then none else ent m A c j)) (k : Only (fun q => mb = some q) w w') :
    DV w' p N (m.set i [] [] false) (upd A i none) (upd c i 0) mb x none ∧ Only (Foot p mb A) w w' ∧ ∀ q, Foot p mb (upd A i none) q → Foot p mb A q := by
  have hsz := k.size
  have hall : ∀ j, (m.set i [] [] false).all j = if j = i then [] else m.all j := fun j => by simp only [M.all, M.set]; split <;> rfl
  refine ⟨⟨?_, h.fuel, h.lo, h.hi, ?_, h.mapp, ?_, ?_, ?_, ?_⟩, k.mono fun q _ hq => .inr (.inl hq), ?_⟩
  · exact k.heap h.cell fun e1 => by have := h.mapp _ e1; omega
  · refine hm.same fun j => ?_
    unfold ent
    by_cases hj : j = (i : Int)
    · subst hj
      have h1 : (m.set i [] [] false).has (i : Int) = false := by simp [M.has, M.set]
      rw [h1, if_pos rfl]
      rfl
    · rw [if_neg hj]
      have h1 : (m.set i [] [] false).has j = m.has j := by
        unfold M.has
        by_cases hr : 0 ≤ j ∧ j < 16
        · simp only [M.set]
          rw [if_neg (by omega)]
        · simp [hr]
      rw [h1]
      cases hh : m.has j with
      | false => rfl
      | true =>
        have hjn := (has_in hh).1
        have hne : j.toNat ≠ i := by omega
        have hf : (m.set i [] [] false).firm j.toNat = m.firm j.toNat := by simp [M.set, hne]
        simp [fv, sv, upd, hall, hf, hne]
  · intro j _
    by_cases hj : j = i
    · subst hj
      simp only [sv, upd, hall, if_true]
      exact ⟨rfl, .inl ⟨rfl, rfl⟩⟩
    · have h1 : sv (m.set i [] [] false) (upd A i none) (upd c i 0) j = sv m A c j := by simp [sv, upd, hall, hj]
      rw [h1, hall, if_neg hj]
      refine k.row (h.own j (by simp)) fun g hg => ?_
      obtain ⟨y, hy, rfl⟩ := own_block m A c j g hg
      intro e1
      exact foot_row h hy _ e1 (by simp) rfl
  · intro j hj
    simp only [M.set] at hj
    by_cases hji : j = i
    · simp [upd, hji]
    · rw [if_neg hji] at hj
      simp only [upd]
      rw [if_neg hji, if_neg hji]
      exact h.nil j hj
  · intro j1 j2 y z hne hy hz
    simp only [upd] at hy hz
    split at hy
    · cases hy
    · split at hz
      · cases hz
      · exact h.apart j1 j2 y z hne hy hz
  · intro j y hy
    simp only [upd] at hy
    split at hy
    · cases hy
    · have := h.rows j y hy
      omega
  · rintro q (rfl | hq | ⟨j, y, hy, rfl⟩)
    · exact .inl rfl
    · exact .inr (.inl hq)
    · simp only [upd] at hy
      split at hy
      · cases hy
      · exact .inr (.inr ⟨j, y, hy, rfl⟩)
end
/-- What a call on a disk leaves: the disk m'; only its blocks are written, and what is a block of it now was one or is new. -/
def After (w : World) (p N : Nat) (m' : M) (A : Nat → Option Addr) (mb : Option Nat) (w' : World) : Prop :=
  ∃ A' c' mb' x', DV w' p N m' A' c' mb' x' none ∧ Only (Foot p mb A) w w' ∧ ∀ q, Foot p mb' A' q → Foot p mb A q ∨ w.heap.size ≤ q
end Go.Proofs.YtamncdpeklbhlaaGreatDoor.Disk
