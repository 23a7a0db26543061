/- A wheel in memory; what a call on one leaves. No statement is proved here. -/
import Derived.Test.YtecejikolgkihaaTms
set_option linter.unusedVariables false
namespace Go.Proofs.Ytecejikolgkihaa.WAt
open Go.RowKit Go.Proofs.Ytecejikolgkihaa.Kit Go.Proofs.Ytecejikolgkihaa.Blocks Go.Proofs.Ytecejikolgkihaa.Whl Go.Proofs.Ytecejikolgkihaa.Tms

/-- The blocks that stay: the struct, the rings' row (with its capacity), the three rings. -/
structure Fx where
  p : Nat
  R : Nat
  c : Nat
  a : Nat
  b : Nat
  d : Nat
/-- One of these blocks. -/
def Fix (x : Fx) (g : Nat) : Prop := g = x.p ∨ g = x.R ∨ g = x.a ∨ g = x.b ∨ g = x.d
/-- The cells of a ring. -/
def row (vs : Nat → Value) (o n : Nat) : Array Value := Array.ofFn fun i : Fin n => vs (o + i.1)
/-- One list's slice is another. -/
def upd (vs : Nat → Value) (k : Nat) (v : Value) (j : Nat) : Value := if j = k then v else vs j
/-- Where a list's slice lies. -/
def spot (x : Fx) (k : Nat) : Addr := if k < 64 then ⟨x.a, k, none⟩ else if k < 192 then ⟨x.b, k - 64, none⟩ else if k < 448 then ⟨x.d, k - 192, none⟩ else ⟨x.p, 2, none⟩

theorem row_get (vs : Nat → Value) (o n i : Nat) (h : i < n) : (row vs o n)[i]? = some (vs (o + i)) := by simp [row, h]
theorem row_upd_in (vs : Nat → Value) (o n k : Nat) (v : Value) (h : o ≤ k) : row (upd vs k v) o n = (row vs o n).setIfInBounds (k - o) v := by
  unfold row
  apply Array.ext
  · simp
  · intro i h1 h2
    simp only [Array.size_ofFn] at h1
    rw [Array.getElem_setIfInBounds (by simpa using h1)]
    simp only [upd, Array.getElem_ofFn]
    by_cases e : o + i = k
    · rw [if_pos e, if_pos (by omega)]
    · rw [if_neg e, if_neg (by omega)]
theorem row_upd_out (vs : Nat → Value) (o n k : Nat) (v : Value) (h : k < o ∨ o + n ≤ k) : row (upd vs k v) o n = row vs o n := by
  unfold row upd
  congr 1
  funext i
  rw [if_neg (by have := i.2; omega)]

structure WAt (B : Nat) (w : World) (x : Fx) (vs : Nat → Value) (now : Nat) (f : Nat → List Tm) : Prop where
  head : w.heap[x.p]? = some (.cells #[.int .u64 (now : Int), .slice (some ⟨x.R, 0, none⟩) 3 x.c, vs 448] 48 (0, 0))
  rings : ∃ cs, w.heap[x.R]? = some (.cells cs 49 (0, 0)) ∧ cs[0]? = some (.slice (some ⟨x.a, 0, none⟩) 64 64) ∧ cs[1]? = some (.slice (some ⟨x.b, 0, none⟩) 128 128) ∧ cs[2]? = some (.slice (some ⟨x.d, 0, none⟩) 256 256)
  ra : w.heap[x.a]? = some (.cells (row vs 0 64) 46 (0, 0))
  rb : w.heap[x.b]? = some (.cells (row vs 64 128) 46 (0, 0))
  rd : w.heap[x.d]? = some (.cells (row vs 192 256) 46 (0, 0))
  own : ∀ k, k < 449 → w.ownsRow B 52 2 (vs k) (f k).length (tcells (f k))
  sep : ∀ j k g, j < 449 → k < 449 → (vs j).ownBlock = some g → (vs k).ownBlock = some g → j = k
  off : ∀ k g, k < 449 → (vs k).ownBlock = some g → ¬ Fix x g
  apart : (x.p ≠ x.R ∧ x.p ≠ x.a ∧ x.p ≠ x.b ∧ x.p ≠ x.d) ∧ (x.R ≠ x.a ∧ x.R ≠ x.b ∧ x.R ≠ x.d) ∧ (x.a ≠ x.b ∧ x.a ≠ x.d ∧ x.b ≠ x.d)
  low : ∀ g, Fix x g → B ≤ g

/-- The blocks of a wheel. -/
def Foot (x : Fx) (vs : Nat → Value) (g : Nat) : Prop := Fix x g ∨ ∃ k, k < 449 ∧ (vs k).ownBlock = some g
/-- What a call that changes a wheel leaves. -/
def LeftW (B : Nat) (w : World) (x : Fx) (vs : Nat → Value) (now' : Nat) (f' : Nat → List Tm) (w' : World) : Prop :=
  ∃ vs', WAt B w' x vs' now' f' ∧ Only (Foot x vs) w w' ∧ ∀ g, Foot x vs' g → Foot x vs g ∨ w.heap.size ≤ g

section
variable {B : Nat} {w w' w1 : World} {x : Fx} {vs : Nat → Value} {now now' now'' : Nat} {f f' f'' : Nat → List Tm}
theorem WAt.fix_lt (h : WAt B w x vs now f) {g : Nat} (hg : Fix x g) : g < w.heap.size := by
  rcases hg with rfl | rfl | rfl | rfl | rfl
  · exact lt_at h.head
  · obtain ⟨cs, h1, _⟩ := h.rings; exact lt_at h1
  · exact lt_at h.ra
  · exact lt_at h.rb
  · exact lt_at h.rd
theorem WAt.foot_lt (h : WAt B w x vs now f) {g : Nat} (hg : Foot x vs g) : B ≤ g ∧ g < w.heap.size := by
  rcases hg with hg | ⟨k, hk, hg⟩
  · exact ⟨h.low g hg, h.fix_lt hg⟩
  · exact (h.own k hk).lt g hg
theorem WAt.plt (h : WAt B w x vs now f) : x.p < w.heap.size := lt_at h.head
theorem WAt.base (h : WAt B w x vs now f) : B ≤ w.heap.size := by have := h.plt; have := h.low x.p (.inl rfl); omega
theorem WAt.c0 (h : WAt B w x vs now f) : w.cell? ⟨x.p, 0, none⟩ = some (.int .u64 (now : Int)) := by rw [cell_at h.head]; rfl
theorem WAt.c1 (h : WAt B w x vs now f) : w.cell? ⟨x.p, 1, none⟩ = some (.slice (some ⟨x.R, 0, none⟩) 3 x.c) := by rw [cell_at h.head]; rfl
theorem WAt.r0 (h : WAt B w x vs now f) : w.cell? ⟨x.R, 0, none⟩ = some (.slice (some ⟨x.a, 0, none⟩) 64 64) := by obtain ⟨cs, h1, h2, _⟩ := h.rings; rw [cell_at h1, h2]
theorem WAt.r1 (h : WAt B w x vs now f) : w.cell? ⟨x.R, 1, none⟩ = some (.slice (some ⟨x.b, 0, none⟩) 128 128) := by obtain ⟨cs, h1, _, h2, _⟩ := h.rings; rw [cell_at h1, h2]
theorem WAt.r2 (h : WAt B w x vs now f) : w.cell? ⟨x.R, 2, none⟩ = some (.slice (some ⟨x.d, 0, none⟩) 256 256) := by obtain ⟨cs, h1, _, _, h2⟩ := h.rings; rw [cell_at h1, h2]
/-- A list's slice. -/
theorem WAt.cell (h : WAt B w x vs now f) {k : Nat} (hk : k < 449) : w.cell? (spot x k) = some (vs k) := by
  unfold spot
  split
  · rw [cell_at h.ra, row_get _ _ _ _ (by omega), Nat.zero_add]
  · split
    · rw [cell_at h.rb, row_get _ _ _ _ (by omega), show 64 + (k - 64) = k by omega]
    · split
      · rw [cell_at h.rd, row_get _ _ _ _ (by omega), show 192 + (k - 192) = k by omega]
      · rw [cell_at h.head, show k = 448 by omega]; rfl
theorem WAt.free (h : WAt B w x vs now f) (k : Nat) : w.frozen? (spot x k) = false := by
  unfold spot
  split
  · exact free_at h.ra _
  · split
    · exact free_at h.rb _
    · split
      · exact free_at h.rd _
      · exact free_at h.head _
theorem spot_fix (x : Fx) (k : Nat) : Fix x (spot x k).block := by
  unfold spot Fix
  split
  · exact .inr (.inr (.inl rfl))
  · split
    · exact .inr (.inr (.inr (.inl rfl)))
    · split
      · exact .inr (.inr (.inr (.inr rfl)))
      · exact .inl rfl
theorem WAt.keep (h : WAt B w x vs now f) {S : Nat → Prop} (k : Only S w w') (hs : ∀ q, Foot x vs q → ¬ S q) : WAt B w' x vs now f := by
  obtain ⟨cs, h1, h2⟩ := h.rings
  exact ⟨k.heap h.head (hs _ (.inl (.inl rfl))), ⟨cs, k.heap h1 (hs _ (.inl (.inr (.inl rfl)))), h2⟩, k.heap h.ra (hs _ (.inl (.inr (.inr (.inl rfl))))), k.heap h.rb (hs _ (.inl (.inr (.inr (.inr (.inl rfl)))))),
    k.heap h.rd (hs _ (.inl (.inr (.inr (.inr (.inr rfl)))))), fun j hj => k.own (h.own j hj) fun g hg => hs g (.inr ⟨j, hj, hg⟩), h.sep, h.off, h.apart, h.low⟩
theorem WAt.below (h : WAt B w x vs now f) (k : Below w.heap.size w w') : WAt B w' x vs now f := h.keep (S := fun _ => False) (Only.of_below k) (by simp)
theorem WAt.drew (h : WAt B w x vs now f) : WAt B w.drew x vs now f := h.below ((Below.refl _ _).drew)
theorem WAt.lower (h : WAt B w x vs now f) {B' : Nat} (hb : B' ≤ B) : WAt B' w x vs now f :=
  ⟨h.head, h.rings, h.ra, h.rb, h.rd, fun k hk => own_base (h.own k hk) hb, h.sep, h.off, h.apart, fun g hg => Nat.le_trans hb (h.low g hg)⟩
/-- A list's slice, in its form. -/
theorem WAt.form (h : WAt B w x vs now f) {k : Nat} (hk : k < 449) : ∃ A c, vs k = .slice A (f k).length c ∧ (f k).length ≤ c ∧ c ≤ 9223372036854775807 ∧ RT w w.heap.size A (f k).length (f k) := by
  obtain ⟨A, c, hv, h1, h2, h3⟩ := own_form (h.own k hk)
  unfold maxLen at h2
  exact ⟨A, c, hv, h1, by omega, h3⟩
theorem upd_self (vs : Nat → Value) (k : Nat) (v : Value) : upd vs k v k = v := if_pos rfl
theorem upd_ne (vs : Nat → Value) {k j : Nat} (v : Value) (h : j ≠ k) : upd vs k v j = vs j := if_neg h
/-- Another list is laid in a place. -/
theorem WAt.rowed (h : WAt B w x vs now f) {k n : Nat} (hk : k < 449) {v : Value} {xs : List Value} {l : List Tm} (o : Only (fun q => (vs k).ownBlock = some q) w w1) (hown : w1.ownsRow B 52 2 v n xs) (hn : n = l.length) (hx : xs = tcells l)
    (hat : ∀ q, v.ownBlock = some q → (vs k).ownBlock = some q ∨ w.heap.size ≤ q) :
    w1.cell? (spot x k) = some (vs k) ∧ w1.frozen? (spot x k) = false ∧ WAt B (w1.setCell (spot x k) v) x (upd vs k v) now (put f k l) ∧ Only (Foot x vs) w (w1.setCell (spot x k) v) ∧
      ∀ g, Foot x (upd vs k v) g → Foot x vs g ∨ w.heap.size ≤ g := by
  subst hn hx
  have hF : ∀ {g}, Fix x g → ¬ (vs k).ownBlock = some g := fun hg e => h.off k _ hk e hg
  obtain ⟨cs, hr, hcs⟩ := h.rings
  have head1 := o.heap h.head (hF (.inl rfl))
  have rings1 := o.heap hr (hF (.inr (.inl rfl)))
  have ra1 := o.heap h.ra (hF (.inr (.inr (.inl rfl))))
  have rb1 := o.heap h.rb (hF (.inr (.inr (.inr (.inl rfl)))))
  have rd1 := o.heap h.rd (hF (.inr (.inr (.inr (.inr rfl)))))
  obtain ⟨⟨n1, n2, n3, n4⟩, ⟨n5, n6, n7⟩, n8, n9, n10⟩ := h.apart
  have hset : Only (fun q => q = (spot x k).block) w1 (w1.setCell (spot x k) v) := (Only.refl (fun q => q = (spot x k).block) w1).setCell (a := spot x k) (.inr rfl) v
  have hother : ∀ j, j < 449 → j ≠ k → (w1.setCell (spot x k) v).ownsRow B 52 2 (vs j) (f j).length (tcells (f j)) := fun j hj hne =>
    hset.own (o.own (h.own j hj) fun g hg e => hne (h.sep j k g hj hk hg e)) fun g hg e => h.off j g hj hg (e ▸ spot_fix x k)
  have hnew : ∀ g, v.ownBlock = some g → ¬ Fix x g := fun g hg hf => by
    rcases hat g hg with e | e
    · exact h.off k g hk e hf
    · have := h.fix_lt hf; omega
  have hsame : (w1.setCell (spot x k) v).ownsRow B 52 2 v l.length (tcells l) := hset.own hown fun g hg e => hnew g hg (e ▸ spot_fix x k)
  refine ⟨?_, ?_, ⟨?_, ⟨cs, hset.heap rings1 ?_, hcs⟩, ?_, ?_, ?_, ?_, ?_, ?_, h.apart, h.low⟩, ?_, ?_⟩
  · unfold spot
    split
    · rw [cell_at ra1, row_get _ _ _ _ (by omega), Nat.zero_add]
    · split
      · rw [cell_at rb1, row_get _ _ _ _ (by omega), show 64 + (k - 64) = k by omega]
      · split
        · rw [cell_at rd1, row_get _ _ _ _ (by omega), show 192 + (k - 192) = k by omega]
        · rw [cell_at head1, show k = 448 by omega]; rfl
  · unfold spot
    split
    · exact free_at ra1 _
    · split
      · exact free_at rb1 _
      · split
        · exact free_at rd1 _
        · exact free_at head1 _
  · by_cases e : k = 448
    · subst e
      rw [upd_self]
      show (w1.setCell ⟨x.p, 2, none⟩ v).heap[x.p]? = _
      rw [set_at head1]
      rfl
    · rw [upd_ne _ _ (fun e' => e e'.symm)]
      refine hset.heap head1 ?_
      unfold spot
      split
      · exact n2
      · split
        · exact n3
        · rw [if_pos (by omega)]; exact n4
  · unfold spot
    split
    · exact n5
    · split
      · exact n6
      · split
        · exact n7
        · exact fun e => n1 e.symm
  · by_cases e : k < 64
    · rw [row_upd_in _ _ _ _ _ (Nat.zero_le _), Nat.sub_zero]
      unfold spot
      rw [if_pos e]
      exact set_at ra1 _
    · rw [row_upd_out _ _ _ _ _ (.inr (by omega))]
      refine hset.heap ra1 ?_
      unfold spot
      rw [if_neg e]
      split
      · exact n8
      · split
        · exact n9
        · exact fun e => n2 e.symm
  · by_cases e : 64 ≤ k ∧ k < 192
    · rw [row_upd_in _ _ _ _ _ e.1]
      unfold spot
      rw [if_neg (by omega), if_pos e.2]
      exact set_at rb1 _
    · rw [row_upd_out _ _ _ _ _ (by omega)]
      refine hset.heap rb1 ?_
      unfold spot
      split
      · exact fun e => n8 e.symm
      · rw [if_neg (by omega)]
        split
        · exact n10
        · exact fun e => n3 e.symm
  · by_cases e : 192 ≤ k ∧ k < 448
    · rw [row_upd_in _ _ _ _ _ e.1]
      unfold spot
      rw [if_neg (by omega), if_neg (by omega), if_pos e.2]
      exact set_at rd1 _
    · rw [row_upd_out _ _ _ _ _ (by omega)]
      refine hset.heap rd1 ?_
      unfold spot
      split
      · exact fun e => n9 e.symm
      · split
        · exact fun e => n10 e.symm
        · rw [if_neg (by omega)]
          exact fun e => n4 e.symm
  · intro j hj
    by_cases e : j = k
    · subst e; rw [upd_self, put_same]; exact hsame
    · rw [upd_ne _ _ e, put_other _ _ e]; exact hother j hj e
  · intro i j g hi hj h1 h2
    by_cases e1 : i = k <;> by_cases e2 : j = k
    · omega
    · subst e1
      rw [upd_self] at h1
      rw [upd_ne _ _ e2] at h2
      rcases hat g h1 with e | e
      · exact h.sep i j g hi hj e h2
      · have := (h.foot_lt (.inr ⟨j, hj, h2⟩)).2; omega
    · subst e2
      rw [upd_ne _ _ e1] at h1
      rw [upd_self] at h2
      rcases hat g h2 with e | e
      · exact h.sep i j g hi hj h1 e
      · have := (h.foot_lt (.inr ⟨i, hi, h1⟩)).2; omega
    · rw [upd_ne _ _ e1] at h1
      rw [upd_ne _ _ e2] at h2
      exact h.sep i j g hi hj h1 h2
  · intro j g hj h1
    by_cases e : j = k
    · subst e; rw [upd_self] at h1; exact hnew g h1
    · rw [upd_ne _ _ e] at h1; exact h.off j g hj h1
  · exact (o.mono fun q _ hq => .inr ⟨k, hk, hq⟩).trans (hset.mono fun q _ hq => .inl (hq ▸ spot_fix x k))
  · intro g hg
    rcases hg with hg | ⟨j, hj, hg⟩
    · exact .inl (.inl hg)
    · by_cases e : j = k
      · subst e
        rw [upd_self] at hg
        rcases hat g hg with e | e
        · exact .inl (.inr ⟨j, hj, e⟩)
        · exact .inr e
      · rw [upd_ne _ _ e] at hg
        exact .inl (.inr ⟨j, hj, hg⟩)
/-- The time is another. -/
theorem WAt.timed (h : WAt B w x vs now f) (t : Nat) : WAt B (w.setCell ⟨x.p, 0, none⟩ (.int .u64 (t : Int))) x vs t f ∧ Only (fun q => q = x.p) w (w.setCell ⟨x.p, 0, none⟩ (.int .u64 (t : Int))) ∧ w.frozen? ⟨x.p, 0, none⟩ = false := by
  have hset : Only (fun q => q = x.p) w (w.setCell ⟨x.p, 0, none⟩ (.int .u64 (t : Int))) := (Only.refl (fun q => q = x.p) w).setCell (a := ⟨x.p, 0, none⟩) (.inr rfl) _
  obtain ⟨cs, hr, hcs⟩ := h.rings
  obtain ⟨⟨n1, n2, n3, n4⟩, _⟩ := h.apart
  refine ⟨⟨?_, ⟨cs, hset.heap hr fun e => n1 e.symm, hcs⟩, hset.heap h.ra fun e => n2 e.symm, hset.heap h.rb fun e => n3 e.symm, hset.heap h.rd fun e => n4 e.symm, fun k hk => hset.own (h.own k hk) fun g hg e => h.off k g hk hg (.inl e), h.sep, h.off, h.apart, h.low⟩, hset, free_at h.head 0⟩
  rw [set_at h.head]
  rfl
theorem LeftW.refl (h : WAt B w x vs now f) : LeftW B w x vs now f w := ⟨vs, h, Only.refl _ w, fun _ hg => .inl hg⟩
theorem LeftW.of_below (h : WAt B w x vs now f) (k : Below w.heap.size w w') : LeftW B w x vs now f w' := ⟨vs, h.below k, Only.of_below k, fun _ hg => .inl hg⟩
/-- A call behind a call. -/
theorem LeftW.then {vs' : Nat → Value} (k1 : Only (Foot x vs) w w1) (hf : ∀ g, Foot x vs' g → Foot x vs g ∨ w.heap.size ≤ g) (k2 : LeftW B w1 x vs' now'' f'' w') : LeftW B w x vs now'' f'' w' := by
  obtain ⟨vs2, h2, o2, f2⟩ := k2
  refine ⟨vs2, h2, k1.trans' o2 hf, fun q hq => ?_⟩
  rcases f2 q hq with h | h
  · exact hf q h
  · exact .inr (Nat.le_trans k1.size h)
theorem LeftW.afterBelow (k1 : Below w.heap.size w w1) (k2 : LeftW B w1 x vs now'' f'' w') : LeftW B w x vs now'' f'' w' :=
  LeftW.then (Only.of_below k1) (fun _ h => .inl h) k2
theorem LeftW.thenBelow (k1 : LeftW B w x vs now' f' w1) (k2 : Below w1.heap.size w1 w') : LeftW B w x vs now' f' w' := by
  obtain ⟨v1, h1, o1, f1⟩ := k1
  exact ⟨v1, h1.below k2, o1.thenBelow k2, f1⟩
/-- A block of the call's own is written behind that. -/
theorem LeftW.boxed {w2 w3 w4 : World} (h : WAt B w x vs now f) (hb : Below w.heap.size w w2) (k : LeftW B w2 x vs now' f' w3) {r : Nat} (hr0 : w.heap.size ≤ r) (hr1 : r < w2.heap.size) (o : Only (fun q => q = r) w3 w4) : LeftW B w x vs now' f' w4 := by
  obtain ⟨vs', h', o', f'⟩ := k
  have hv : ∀ q, Foot x vs' q → q ≠ r := fun q hq e => by
    rcases f' q hq with h1 | h1
    · have := (h.foot_lt h1).2; omega
    · omega
  refine ⟨vs', h'.keep o hv, ?_, fun q hq => ?_⟩
  · exact ((Only.of_below hb).trans o').trans' o fun q hq => .inr (by omega)
  · exact (f' q hq).imp id fun h1 => Nat.le_trans hb.size h1
theorem left_below (h : WAt B w x vs now f) (k : LeftW B w x vs now' f' w') : Below B w w' := by
  obtain ⟨vs', h', o', f'⟩ := k
  exact o'.below h.base fun q hq => (h.foot_lt hq).1
end
end Go.Proofs.Ytecejikolgkihaa.WAt
