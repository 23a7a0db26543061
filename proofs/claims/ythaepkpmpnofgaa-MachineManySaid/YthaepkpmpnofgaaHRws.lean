/- Sessions in memory: slices of structs; a table in memory; what a call on one leaves. No statement is proved here. -/
import Derived.Test.YthaepkpmpnofgaaHSes
import Derived.Test.YthaepkpmpnofgaaOnly
import Derived.WalkKit
set_option linter.unusedVariables false
namespace Go.Proofs.Ythaepkpmpnofgaa.Rws
open Go.RowKit Go.Proofs.Ythaepkpmpnofgaa.Kit Go.Proofs.Ythaepkpmpnofgaa.Blocks Go.Proofs.Ythaepkpmpnofgaa.Ses

def ryCs (y : Ry) : List Value := [.int .i64 y.err, .int .u64 (y.num : Int), .int .u64 (y.ext : Int)]
def ryV (y : Ry) : Value := .agg #[.int .i64 y.err, .int .u64 (y.num : Int), .int .u64 (y.ext : Int)]
def rwCs (r : Rw) : List Value := [.int .u64 (r.id : Int), .int .u64 (r.used : Int), .int .u64 (r.seq : Int), .int .i64 r.y.err, .int .u64 (r.y.num : Int), .int .u64 (r.y.ext : Int)]
def rwV (r : Rw) : Value := .agg #[.int .u64 (r.id : Int), .int .u64 (r.used : Int), .int .u64 (r.seq : Int), .int .i64 r.y.err, .int .u64 (r.y.num : Int), .int .u64 (r.y.ext : Int)]
def rcells (l : List Rw) : List Value := l.flatMap rwCs
theorem rcells_nil : rcells [] = [] := rfl
theorem rcells_cons (e : Rw) (l : List Rw) : rcells (e :: l) = rwCs e ++ rcells l := rfl
theorem rcells_append (l r : List Rw) : rcells (l ++ r) = rcells l ++ rcells r := by simp [rcells]
theorem rcells_one_rw (e : Rw) : rcells [e] = rwCs e := by simp [rcells]
theorem rcells_length (l : List Rw) : (rcells l).length = l.length * 6 := by
  induction l with
  | nil => rfl
  | cons e l ih => rw [rcells_cons, List.length_append, ih]; simp [rwCs]; omega
theorem rcells_take (l : List Rw) (k : Nat) : rcells (l.take k) = (rcells l).take (k * 6) := by
  induction l generalizing k with
  | nil => simp [rcells]
  | cons e l ih =>
    cases k with
    | zero => simp [rcells]
    | succ k =>
      rw [List.take_succ_cons, rcells_cons, rcells_cons, ih, List.take_append, List.take_of_length_le (l := rwCs e) (by show 6 ≤ _; omega)]
      show _ = _ ++ List.take ((k + 1) * 6 - 6) _
      rw [show (k + 1) * 6 - 6 = k * 6 by omega]
theorem rcells_drop (l : List Rw) (k : Nat) : rcells (l.drop k) = (rcells l).drop (k * 6) := by
  induction l generalizing k with
  | nil => simp [rcells]
  | cons e l ih =>
    cases k with
    | zero => simp
    | succ k =>
      rw [List.drop_succ_cons, rcells_cons, ih, List.drop_append, List.drop_of_length_le (l := rwCs e) (by show 6 ≤ _; omega), List.nil_append]
      show _ = List.drop ((k + 1) * 6 - 6) _
      rw [show (k + 1) * 6 - 6 = k * 6 by omega]
theorem rcells_get (l : List Rw) (k j : Nat) (e : Rw) (h : l[k]? = some e) (hj : j < 6) : (rcells l)[k * 6 + j]? = (rwCs e)[j]? := by
  obtain ⟨hk, rfl⟩ := List.getElem?_eq_some_iff.1 h
  have h1 : (rcells (l.drop k))[j]? = (rcells l)[k * 6 + j]? := by rw [rcells_drop, List.getElem?_drop]
  rw [← h1, List.drop_eq_getElem_cons hk, rcells_cons, List.getElem?_append_left (by show j < 6; exact hj)]
theorem rwCs_one (e : Rw) : ∀ u ∈ rwCs e, u.oneCell' = true := by
  intro u hu
  simp only [rwCs, List.mem_cons, List.not_mem_nil, or_false] at hu
  rcases hu with rfl | rfl | rfl | rfl | rfl | rfl <;> rfl
theorem rcells_one (l : List Rw) : ∀ u ∈ rcells l, u.oneCell' = true := by
  intro u hu
  obtain ⟨e, _, he⟩ := List.mem_flatMap.1 hu
  exact rwCs_one e u he

/-- The slice with address A and n elements holds these rows. -/
abbrev RR (w : World) (B : Nat) (A : Option Addr) (n : Nat) (l : List Rw) : Prop := Reads w B 6 A n (rcells l)
/-- A row lies at these six cells. -/
structure Six (w : World) (b o : Nat) (r : Rw) : Prop where
  c0 : w.cell? ⟨b, o, none⟩ = some (.int .u64 (r.id : Int))
  c1 : w.cell? ⟨b, o + 1, none⟩ = some (.int .u64 (r.used : Int))
  c2 : w.cell? ⟨b, o + 2, none⟩ = some (.int .u64 (r.seq : Int))
  c3 : w.cell? ⟨b, o + 3, none⟩ = some (.int .i64 r.y.err)
  c4 : w.cell? ⟨b, o + 4, none⟩ = some (.int .u64 (r.y.num : Int))
  c5 : w.cell? ⟨b, o + 5, none⟩ = some (.int .u64 (r.y.ext : Int))
theorem Six.same {w w' : World} {b o : Nat} {r : Rw} (h : Six w b o r) (k : ∀ i, w'.cell? ⟨b, i, none⟩ = w.cell? ⟨b, i, none⟩) : Six w' b o r :=
  ⟨(k _).trans h.c0, (k _).trans h.c1, (k _).trans h.c2, (k _).trans h.c3, (k _).trans h.c4, (k _).trans h.c5⟩
theorem Six.below {w w' : World} {b o B : Nat} {r : Rw} (h : Six w b o r) (k : Below B w w') (hb : b < B) : Six w' b o r := h.same fun i => k.cell (p := ⟨b, i, none⟩) hb
section
variable {w w' : World} {B n : Nat} {A : Option Addr} {l : List Rw}
theorem RR.len (h : RR w B A n l) : l.length = n := by have := h.1; rw [rcells_length] at this; omega
theorem RR.spot {ad : Addr} (h : RR w B (some ad) n l) (hn : 0 < n) : ad = ⟨ad.block, ad.off, none⟩ := by
  obtain ⟨ad', e, _, hc⟩ := h.2 hn
  cases e
  have hl := RR.len h
  have h0 := hc 0 _ (by rw [rcells_get l 0 0 l[0] (List.getElem?_eq_getElem (by omega)) (by omega)]; rfl)
  rw [add_zero] at h0
  have hs := World.cell?_spot h0
  obtain ⟨b, o, s⟩ := ad
  have : s = none := hs
  subst this
  rfl
theorem RR.at_ (h : RR w B A n l) {k : Nat} (hk : k < n) : ∃ b o e, A = some ⟨b, o, none⟩ ∧ b < B ∧ l[k]? = some e ∧ Six w b (o + k * 6) e := by
  obtain ⟨ad, rfl, hb, hc⟩ := h.2 (by omega)
  have hsp := RR.spot h (by omega)
  have hl := RR.len h
  have he : l[k]? = some l[k] := List.getElem?_eq_getElem (by omega)
  have hj : ∀ j u, j < 6 → (rwCs l[k])[j]? = some u → w.cell? ⟨ad.block, ad.off + (k * 6 + j), none⟩ = some u := fun j u hj hu => by
    have := hc (k * 6 + j) u (by rw [rcells_get l k j _ he hj, hu])
    rw [hsp, Addr.add_lit] at this
    exact this
  refine ⟨ad.block, ad.off, l[k], by rw [← hsp], hb, he, ?_, ?_, ?_, ?_, ?_, ?_⟩
  · exact hj 0 _ (by omega) rfl
  · exact hj 1 _ (by omega) rfl
  · exact hj 2 _ (by omega) rfl
  · exact hj 3 _ (by omega) rfl
  · exact hj 4 _ (by omega) rfl
  · exact hj 5 _ (by omega) rfl
theorem RR.nil (w : World) (B : Nat) (A : Option Addr) : RR w B A 0 [] := ⟨rfl, fun h => absurd h (by omega)⟩
end
/-- One new row. -/
theorem rw_new (w : World) (e : Rw) (t : TypeId) : RR (w.alloc (.cells (rwCs e).toArray t)) (w.heap.size + 1) (some ⟨w.heap.size, 0, none⟩) 1 [e] := by
  refine ⟨by rw [rcells_length]; rfl, fun _ => ⟨_, rfl, Nat.lt_succ_self _, fun j x hj => ?_⟩⟩
  rw [rcells_one_rw] at hj
  rw [Addr.add_lit, Nat.zero_add, cell_of_row _ _ j _ t (0, 0) (heap_alloc_new w _)]
  simpa using hj
def zR : Value := .agg #[.int .u64 0, .int .u64 0, .int .u64 0, .int .i64 0, .int .u64 0, .int .u64 0]
theorem sz6 (w : World) : (Go.sizeOf 85).run Try.prog w = .ok 6 w := by kernel_rfl
theorem infoP : (Try.prog.info? 85).map (fun i => (i.zero, i.size, i.bytes)) = some (some zR, 6, 48) := by kernel_rfl

/-- The block that a table lies in the front of: its type, and what stands behind the table's three cells. -/
structure Shape where
  ty : TypeId
  tl : List Value
/-- A table (T: the block that it lies in; E: its rows' type) lies at p; v: its rows' slice. -/
structure TAt (B : Nat) (T : Shape) (E : TypeId) (w : World) (p : Nat) (v : Value) (m : Tb) : Prop where
  low : B ≤ p
  cell : w.heap[p]? = some (.cells (Value.int .u64 (m.now : Int) :: .int .u64 (m.next : Int) :: v :: T.tl).toArray T.ty (0, 0))
  own : w.ownsRow B E 6 v m.rows.length (rcells m.rows)
  np : v.ownBlock ≠ some p
/-- The blocks of a table. -/
def Mine (p : Nat) (v : Value) (g : Nat) : Prop := g = p ∨ v.ownBlock = some g
/-- What a call that changes a table leaves. -/
def LeftT (B : Nat) (T : Shape) (E : TypeId) (w : World) (p : Nat) (v : Value) (m' : Tb) (w' : World) : Prop :=
  ∃ v', TAt B T E w' p v' m' ∧ Only (Mine p v) w w' ∧ ∀ g, v'.ownBlock = some g → v.ownBlock = some g ∨ w.heap.size ≤ g

section
variable {B : Nat} {T : Shape} {E : TypeId} {w w' w1 : World} {p : Nat} {v : Value} {m m' m'' : Tb}
theorem TAt.plt (h : TAt B T E w p v m) : p < w.heap.size := lt_at h.cell
theorem TAt.base (h : TAt B T E w p v m) : B ≤ w.heap.size := by have := h.plt; have := h.low; omega
theorem TAt.mine_lt (h : TAt B T E w p v m) {g : Nat} (hg : Mine p v g) : B ≤ g ∧ g < w.heap.size := by
  rcases hg with rfl | hg
  · exact ⟨h.low, h.plt⟩
  · exact h.own.lt g hg
theorem TAt.c0 (h : TAt B T E w p v m) : w.cell? ⟨p, 0, none⟩ = some (.int .u64 (m.now : Int)) := by rw [cell_at h.cell]; simp
theorem TAt.c1 (h : TAt B T E w p v m) : w.cell? ⟨p, 1, none⟩ = some (.int .u64 (m.next : Int)) := by rw [cell_at h.cell]; simp
theorem TAt.c2 (h : TAt B T E w p v m) : w.cell? ⟨p, 2, none⟩ = some v := by rw [cell_at h.cell]; simp
theorem TAt.free (h : TAt B T E w p v m) (i : Nat) : w.frozen? ⟨p, i, none⟩ = false := free_at h.cell i
theorem TAt.keep (h : TAt B T E w p v m) {S : Nat → Prop} (k : Only S w w') (h1 : ∀ g, Mine p v g → ¬ S g) : TAt B T E w' p v m :=
  ⟨h.low, k.heap h.cell (h1 p (.inl rfl)), k.own h.own fun g hg => h1 g (.inr hg), h.np⟩
theorem TAt.below (h : TAt B T E w p v m) (k : Below w.heap.size w w') : TAt B T E w' p v m := h.keep (S := fun _ => False) (Only.of_below k) (by simp)
/-- The rows' slice, in its form. -/
theorem TAt.form (h : TAt B T E w p v m) : ∃ A c, v = .slice A m.rows.length c ∧ m.rows.length ≤ c ∧ c ≤ 9223372036854775807 ∧ RR w w.heap.size A m.rows.length m.rows := by
  obtain ⟨A, c, hv, h1, h2, h3⟩ := own_form h.own
  unfold maxLen at h2
  exact ⟨A, c, hv, h1, by omega, h3⟩
/-- A row of the table, where it lies. -/
theorem TAt.row (h : TAt B T E w p v m) {i : Nat} {r : Rw} (hi : m.rows[i]? = some r) : ∃ g c, v = .slice (some ⟨g, 0, none⟩) m.rows.length c ∧ m.rows.length ≤ c ∧ c ≤ 9223372036854775807 ∧ B ≤ g ∧ g < w.heap.size ∧ g ≠ p ∧ Six w g (i * 6) r ∧ (∀ j, w.frozen? ⟨g, j, none⟩ = false) := by
  obtain ⟨A, c, hv, h1, h2, h3⟩ := h.form
  have hil : i < m.rows.length := (List.getElem?_eq_some_iff.1 hi).1
  rcases h.own.2 with ⟨e, h0⟩ | ⟨g, cap, cur, e, hb, hg, h4, h5, h6, h7⟩
  · omega
  · subst e
    injection hv with e1 e2 e3
    subst e1 e3
    obtain ⟨b, o, x, e4, h8, h9, h10⟩ := RR.at_ h3 hil
    cases e4
    rw [hi] at h9
    cases h9
    rw [Nat.zero_add] at h10
    exact ⟨g, _, rfl, h1, h2, hb, lt_at hg, fun e => h.np (by rw [← e]; rfl), h10, fun j => free_at hg j⟩
/-- Another row of sessions is laid: w1, where only the row changed (and what is new); then the field is written. -/
theorem TAt.rowed (h : TAt B T E w p v m) {n : Nat} {v' : Value} {xs : List Value} {L : List Rw}
    (o : Only (fun q => v.ownBlock = some q) w w1) (hown : w1.ownsRow B E 6 v' n xs) (hn : n = L.length) (hx : xs = rcells L)
    (hat : ∀ q, v'.ownBlock = some q → v.ownBlock = some q ∨ w.heap.size ≤ q) :
    w1.cell? ⟨p, 2, none⟩ = some v ∧ w1.frozen? ⟨p, 2, none⟩ = false ∧ p < w1.heap.size ∧ LeftT B T E w p v ⟨m.now, m.next, L⟩ (w1.setCell ⟨p, 2, none⟩ v') := by
  subst hn hx
  have hc := o.heap h.cell h.np
  have hset : Only (fun q => q = p) w1 (w1.setCell ⟨p, 2, none⟩ v') := (Only.refl (fun q => q = p) w1).setCell (a := ⟨p, 2, none⟩) (.inr rfl) v'
  have hplt := h.plt
  have hnp : v'.ownBlock ≠ some p := fun e => by
    rcases hat p e with e1 | e1
    · exact h.np e1
    · omega
  refine ⟨by rw [cell_at hc]; simp, free_at hc 2, lt_at hc, v', ⟨h.low, by rw [set_at hc, List.setIfInBounds_toArray]; rfl, hset.own hown fun g hg e => hnp (e ▸ hg), hnp⟩, ?_, hat⟩
  exact (o.mono fun q _ hq => .inr hq).trans (hset.mono fun q _ hq => .inl hq)
/-- The time is another. -/
theorem TAt.timed (h : TAt B T E w p v m) (t : Nat) : TAt B T E (w.setCell ⟨p, 0, none⟩ (.int .u64 (t : Int))) p v ⟨t, m.next, m.rows⟩ ∧ Only (fun q => q = p) w (w.setCell ⟨p, 0, none⟩ (.int .u64 (t : Int))) := by
  have hset : Only (fun q => q = p) w (w.setCell ⟨p, 0, none⟩ (.int .u64 (t : Int))) := (Only.refl (fun q => q = p) w).setCell (a := ⟨p, 0, none⟩) (.inr rfl) _
  exact ⟨⟨h.low, by rw [set_at h.cell, List.setIfInBounds_toArray]; rfl, hset.own h.own fun g hg e => h.np (e ▸ hg), h.np⟩, hset⟩
/-- The next number is another. -/
theorem TAt.nexted (h : TAt B T E w p v m) (t : Nat) : TAt B T E (w.setCell ⟨p, 1, none⟩ (.int .u64 (t : Int))) p v ⟨m.now, t, m.rows⟩ ∧ Only (fun q => q = p) w (w.setCell ⟨p, 1, none⟩ (.int .u64 (t : Int))) := by
  have hset : Only (fun q => q = p) w (w.setCell ⟨p, 1, none⟩ (.int .u64 (t : Int))) := (Only.refl (fun q => q = p) w).setCell (a := ⟨p, 1, none⟩) (.inr rfl) _
  exact ⟨⟨h.low, by rw [set_at h.cell, List.setIfInBounds_toArray]; rfl, hset.own h.own fun g hg e => h.np (e ▸ hg), h.np⟩, hset⟩
/-- A cell of the rows' block is written: the rows are others. -/
theorem TAt.put (h : TAt B T E w p v m) {j : Nat} {u : Value} {L : List Rw} (hL : L.length = m.rows.length) (hj : j < m.rows.length * 6) (hx : (rcells m.rows).set j u = rcells L) {g : Nat} (hg : v.ownBlock = some g) :
    TAt B T E (w.setCell ⟨g, j, none⟩ u) p v ⟨m.now, m.next, L⟩ ∧ Only (fun q => q = g) w (w.setCell ⟨g, j, none⟩ u) := by
  have hset : Only (fun q => q = g) w (w.setCell ⟨g, j, none⟩ u) := (Only.refl (fun q => q = g) w).setCell (a := ⟨g, j, none⟩) (.inr rfl) _
  have hgp : g ≠ p := fun e => h.np (e ▸ hg)
  refine ⟨⟨h.low, hset.heap h.cell fun e => hgp e.symm, ?_, h.np⟩, hset⟩
  show World.ownsRow _ B E 6 v L.length (rcells L)
  refine ⟨by rw [rcells_length], ?_⟩
  rcases h.own.2 with ⟨e, h0⟩ | ⟨g', cap, cur, e, hb, hg', h4, h5, h6, h7⟩
  · omega
  · subst e
    have : g' = g := by simpa [Value.ownBlock] using hg
    subst this
    refine .inr ⟨g', cap, cur.setIfInBounds j u, by rw [hL], hb, set_at hg' u, by omega, h5, by simpa using h6, ?_⟩
    rw [Array.toList_setIfInBounds, ← hx, ← h7, hL, List.take_set]
theorem LeftT.refl (h : TAt B T E w p v m) : LeftT B T E w p v m w := ⟨v, h, Only.refl _ w, fun g hg => .inl hg⟩
theorem LeftT.of_below (h : TAt B T E w p v m) (k : Below w.heap.size w w') : LeftT B T E w p v m w' := ⟨v, h.below k, Only.of_below k, fun g hg => .inl hg⟩
/-- A call behind a call. -/
theorem LeftT.then {v1 : Value} (k1 : Only (Mine p v) w w1) (hf : ∀ g, v1.ownBlock = some g → v.ownBlock = some g ∨ w.heap.size ≤ g)
    (k2 : LeftT B T E w1 p v1 m'' w') : LeftT B T E w p v m'' w' := by
  obtain ⟨v2, h2, o2, f2⟩ := k2
  refine ⟨v2, h2, k1.trans' o2 fun q hq => ?_, fun q hq => ?_⟩
  · rcases hq with hq | hq
    · exact .inl (.inl hq)
    · rcases hf q hq with e | e
      · exact .inl (.inr e)
      · exact .inr e
  · rcases f2 q hq with h | h
    · exact hf q h
    · exact .inr (Nat.le_trans k1.size h)
theorem LeftT.afterBelow (k1 : Below w.heap.size w w1) (k2 : LeftT B T E w1 p v m' w') : LeftT B T E w p v m' w' :=
  LeftT.then (Only.of_below k1) (fun _ h => .inl h) k2
theorem LeftT.thenBelow (k1 : LeftT B T E w p v m' w1) (k2 : Below w1.heap.size w1 w') : LeftT B T E w p v m' w' := by
  obtain ⟨v1, h1, o1, f1⟩ := k1
  exact ⟨v1, h1.below k2, o1.thenBelow k2, f1⟩
/-- A block of the call's own is written behind that. -/
theorem LeftT.boxed {w2 w3 w4 : World} (h : TAt B T E w p v m) (hb : Below w.heap.size w w2) (k : LeftT B T E w2 p v m' w3) {r : Nat} (hr0 : w.heap.size ≤ r) (hr1 : r < w2.heap.size) (o : Only (fun q => q = r) w3 w4) : LeftT B T E w p v m' w4 := by
  obtain ⟨v', h', o', f'⟩ := k
  have hv : ∀ q, Mine p v' q → q ≠ r := fun q hq e => by
    rcases hq with hq | hq
    · have := h.plt; omega
    · rcases f' q hq with h1 | h1
      · have := (h.own.lt q h1).2; omega
      · omega
  refine ⟨v', h'.keep o hv, ?_, fun q hq => (f' q hq).imp id fun h1 => Nat.le_trans hb.size h1⟩
  exact ((Only.of_below hb).trans o').trans' o fun q hq => .inr (by omega)
theorem left_below (h : TAt B T E w p v m) (k : LeftT B T E w p v m' w') : Below B w w' := by
  obtain ⟨v', h', o', f'⟩ := k
  exact o'.below h.base fun q hq => (h.mine_lt hq).1
end
/-- Cells of a row are set one by one. -/
theorem rcells_set {l : List Rw} {i : Nat} {r r' : Rw} (h : l[i]? = some r) : rcells (l.set i r') = (rcells l).take (i * 6) ++ rwCs r' ++ (rcells l).drop (i * 6 + 6) := by
  have hi : i < l.length := (List.getElem?_eq_some_iff.1 h).1
  rw [List.set_eq_take_append_cons_drop, if_pos hi, rcells_append, rcells_cons, rcells_take, rcells_drop, ← List.append_assoc]
  congr 2
  omega
theorem rcells_at {l : List Rw} {i : Nat} {r : Rw} (h : l[i]? = some r) : rcells l = (rcells l).take (i * 6) ++ rwCs r ++ (rcells l).drop (i * 6 + 6) := by
  have := rcells_set (r' := r) h
  rwa [show l.set i r = l from by obtain ⟨hi, rfl⟩ := List.getElem?_eq_some_iff.1 h; exact List.set_getElem_self hi] at this
end Go.Proofs.Ythaepkpmpnofgaa.Rws
