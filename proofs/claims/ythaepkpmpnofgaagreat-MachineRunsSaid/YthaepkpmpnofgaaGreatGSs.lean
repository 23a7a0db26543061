/- A table read from bytes: plain mathematics; a table and a reader beside each other. No statement is proved here. -/
import Derived.Test.YthaepkpmpnofgaaGreatGN
import Derived.Test.YthaepkpmpnofgaaGreatOnly
import Derived.WalkKit
import Derived.BigQuiet
import Derived.Test.YthaepkpmpnofgaaGreatHWtr
set_option linter.unusedVariables false
namespace Go.Proofs.YthaepkpmpnofgaaGreat.Rws
open Go.RowKit Go.Proofs.YthaepkpmpnofgaaGreat.Kit Go.Proofs.YthaepkpmpnofgaaGreat.Blocks Go.Proofs.YthaepkpmpnofgaaGreat.Ses

def ryCs (y : Ry) : List Value := [.int .i64 y.err, .int .u64 (y.num : Int), .int .u64 (y.ext : Int)]
def ryV (y : Ry) : Value := .agg #[.int .i64 y.err, .int .u64 (y.num : Int), .int .u64 (y.ext : Int)]
def rwCs (r : Rw) : List Value := [.int .u64 (r.id : Int), .int .u64 (r.used : Int), .int .u64 (r.seq : Int), .int .i64 r.y.err, .int .u64 (r.y.num : Int), .int .u64 (r.y.ext : Int)]
def rwV (r : Rw) : Value := .agg #[.int .u64 (r.id : Int), .int .u64 (r.used : Int), .int .u64 (r.seq : Int), .int .i64 r.y.err, .int .u64 (r.y.num : Int), .int .u64 (r.y.ext : Int)]
def rcells (l : List Rw) : List Value := l.flatMap rwCs
theorem rcells_nil : rcells [] = [] := rfl
theorem rcells_cons (e : Rw) (l : List Rw) : rcells (e :: l) = rwCs e ++ rcells l := rfl
theorem rcells_append (l r : List Rw) : rcells (l ++ r) = rcells l ++ rcells r := by simp [rcells]
theorem rcells_one_rw (e : Rw) : rcells [e] = rwCs e := by simp [rcells]
theorem rcells_length (l : List Rw) : (rcells l).length = l.length * 6 := by
  induction l with
  | nil => rfl
  | cons e l ih => rw [rcells_cons, List.length_append, ih]; simp [rwCs]; omega
theorem rcells_take (l : List Rw) (k : Nat) : rcells (l.take k) = (rcells l).take (k * 6) := by
  induction l generalizing k with
  | nil => simp [rcells]
  | cons e l ih =>
    cases k with
    | zero => simp [rcells]
    | succ k =>
      rw [List.take_succ_cons, rcells_cons, rcells_cons, ih, List.take_append, List.take_of_length_le (l := rwCs e) (by show 6 ≤ _; omega)]
      show _ = _ ++ List.take ((k + 1) * 6 - 6) _
      rw [show (k + 1) * 6 - 6 = k * 6 by omega]
theorem rcells_drop (l : List Rw) (k : Nat) : rcells (l.drop k) = (rcells l).drop (k * 6) := by
  induction l generalizing k with
  | nil => simp [rcells]
  | cons e l ih =>
    cases k with
    | zero => simp
    | succ k =>
      rw [List.drop_succ_cons, rcells_cons, ih, List.drop_append, List.drop_of_length_le (l := rwCs e) (by show 6 ≤ _; omega), List.nil_append]
      show _ = List.drop ((k + 1) * 6 - 6) _
      rw [show (k + 1) * 6 - 6 = k * 6 by omega]
theorem rcells_get (l : List Rw) (k j : Nat) (e : Rw) (h : l[k]? = some e) (hj : j < 6) : (rcells l)[k * 6 + j]? = (rwCs e)[j]? := by
  obtain ⟨hk, rfl⟩ := List.getElem?_eq_some_iff.1 h
  have h1 : (rcells (l.drop k))[j]? = (rcells l)[k * 6 + j]? := by rw [rcells_drop, List.getElem?_drop]
  rw [← h1, List.drop_eq_getElem_cons hk, rcells_cons, List.getElem?_append_left (by show j < 6; exact hj)]
theorem rwCs_one (e : Rw) : ∀ u ∈ rwCs e, u.oneCell' = true := by
  intro u hu
  simp only [rwCs, List.mem_cons, List.not_mem_nil, or_false] at hu
  rcases hu with rfl | rfl | rfl | rfl | rfl | rfl <;> rfl
theorem rcells_one (l : List Rw) : ∀ u ∈ rcells l, u.oneCell' = true := by
  intro u hu
  obtain ⟨e, _, he⟩ := List.mem_flatMap.1 hu
  exact rwCs_one e u he

/-- The slice with address A and n elements holds these rows. -/
abbrev RR (w : World) (B : Nat) (A : Option Addr) (n : Nat) (l : List Rw) : Prop := Reads w B 6 A n (rcells l)
/-- A row lies at these six cells. -/
structure Six (w : World) (b o : Nat) (r : Rw) : Prop where
  c0 : w.cell? ⟨b, o, none⟩ = some (.int .u64 (r.id : Int))
  c1 : w.cell? ⟨b, o + 1, none⟩ = some (.int .u64 (r.used : Int))
  c2 : w.cell? ⟨b, o + 2, none⟩ = some (.int .u64 (r.seq : Int))
  c3 : w.cell? ⟨b, o + 3, none⟩ = some (.int .i64 r.y.err)
  c4 : w.cell? ⟨b, o + 4, none⟩ = some (.int .u64 (r.y.num : Int))
  c5 : w.cell? ⟨b, o + 5, none⟩ = some (.int .u64 (r.y.ext : Int))
theorem Six.same {w w' : World} {b o : Nat} {r : Rw} (h : Six w b o r) (k : ∀ i, w'.cell? ⟨b, i, none⟩ = w.cell? ⟨b, i, none⟩) : Six w' b o r :=
  ⟨(k _).trans h.c0, (k _).trans h.c1, (k _).trans h.c2, (k _).trans h.c3, (k _).trans h.c4, (k _).trans h.c5⟩
theorem Six.below {w w' : World} {b o B : Nat} {r : Rw} (h : Six w b o r) (k : Below B w w') (hb : b < B) : Six w' b o r := h.same fun i => k.cell (p := ⟨b, i, none⟩) hb
section
variable {w w' : World} {B n : Nat} {A : Option Addr} {l : List Rw}
theorem RR.len (h : RR w B A n l) : l.length = n := by have := h.1; rw [rcells_length] at this; omega
theorem RR.spot {ad : Addr} (h : RR w B (some ad) n l) (hn : 0 < n) : ad = ⟨ad.block, ad.off, none⟩ := by
  obtain ⟨ad', e, _, hc⟩ := h.2 hn
  cases e
  have hl := RR.len h
  have h0 := hc 0 _ (by rw [rcells_get l 0 0 l[0] (List.getElem?_eq_getElem (by omega)) (by omega)]; rfl)
  rw [add_zero] at h0
  have hs := World.cell?_spot h0
  obtain ⟨b, o, s⟩ := ad
  have : s = none := hs
  subst this
  rfl
theorem RR.at_ (h : RR w B A n l) {k : Nat} (hk : k < n) : ∃ b o e, A = some ⟨b, o, none⟩ ∧ b < B ∧ l[k]? = some e ∧ Six w b (o + k * 6) e := by
  obtain ⟨ad, rfl, hb, hc⟩ := h.2 (by omega)
  have hsp := RR.spot h (by omega)
  have hl := RR.len h
  have he : l[k]? = some l[k] := List.getElem?_eq_getElem (by omega)
  have hj : ∀ j u, j < 6 → (rwCs l[k])[j]? = some u → w.cell? ⟨ad.block, ad.off + (k * 6 + j), none⟩ = some u := fun j u hj hu => by
    have := hc (k * 6 + j) u (by rw [rcells_get l k j _ he hj, hu])
    rw [hsp, Addr.add_lit] at this
    exact this
  refine ⟨ad.block, ad.off, l[k], by rw [← hsp], hb, he, ?_, ?_, ?_, ?_, ?_, ?_⟩
  · exact hj 0 _ (by omega) rfl
  · exact hj 1 _ (by omega) rfl
  · exact hj 2 _ (by omega) rfl
  · exact hj 3 _ (by omega) rfl
  · exact hj 4 _ (by omega) rfl
  · exact hj 5 _ (by omega) rfl
theorem RR.nil (w : World) (B : Nat) (A : Option Addr) : RR w B A 0 [] := ⟨rfl, fun h => absurd h (by omega)⟩
end
/-- One new row. -/
theorem rw_new (w : World) (e : Rw) (t : TypeId) : RR (w.alloc (.cells (rwCs e).toArray t)) (w.heap.size + 1) (some ⟨w.heap.size, 0, none⟩) 1 [e] := by
  refine ⟨by rw [rcells_length]; rfl, fun _ => ⟨_, rfl, Nat.lt_succ_self _, fun j x hj => ?_⟩⟩
  rw [rcells_one_rw] at hj
  rw [Addr.add_lit, Nat.zero_add, cell_of_row _ _ j _ t (0, 0) (heap_alloc_new w _)]
  simpa using hj
def zR : Value := .agg #[.int .u64 0, .int .u64 0, .int .u64 0, .int .i64 0, .int .u64 0, .int .u64 0]
theorem sz6 (w : World) : (Go.sizeOf 63).run Tryz.prog w = .ok 6 w := by kernel_rfl
theorem sz6d (w : World) : (Go.sizeOf 125).run Tryz.prog w = .ok 6 w := by kernel_rfl
theorem infoP : (Tryz.prog.info? 63).map (fun i => (i.zero, i.size, i.bytes)) = some (some zR, 6, 48) := by kernel_rfl
theorem infoD : (Tryz.prog.info? 125).map (fun i => (i.zero, i.size, i.bytes)) = some (some zR, 6, 48) := by kernel_rfl

/-- The block that a table lies in the front of: its type, and what stands behind the table's three cells. -/
structure Shape where
  ty : TypeId
  tl : List Value
/-- A table (T: the block that it lies in; E: its rows' type) lies at p; v: its rows' slice. -/
structure TAt (B : Nat) (T : Shape) (E : TypeId) (w : World) (p : Nat) (v : Value) (m : Tb) : Prop where
  low : B ≤ p
  cell : w.heap[p]? = some (.cells (Value.int .u64 (m.now : Int) :: .int .u64 (m.next : Int) :: v :: T.tl).toArray T.ty (0, 0))
  own : w.ownsRow B E 6 v m.rows.length (rcells m.rows)
  np : v.ownBlock ≠ some p
/-- The blocks of a table. -/
def Mine (p : Nat) (v : Value) (g : Nat) : Prop := g = p ∨ v.ownBlock = some g
/-- What a call that changes a table leaves. -/
def LeftT (B : Nat) (T : Shape) (E : TypeId) (w : World) (p : Nat) (v : Value) (m' : Tb) (w' : World) : Prop :=
  ∃ v', TAt B T E w' p v' m' ∧ Only (Mine p v) w w' ∧ ∀ g, v'.ownBlock = some g → v.ownBlock = some g ∨ w.heap.size ≤ g

section
variable {B : Nat} {T : Shape} {E : TypeId} {w w' w1 : World} {p : Nat} {v : Value} {m m' m'' : Tb}
theorem TAt.plt (h : TAt B T E w p v m) : p < w.heap.size := lt_at h.cell
theorem TAt.base (h : TAt B T E w p v m) : B ≤ w.heap.size := by have := h.plt; have := h.low; omega
theorem TAt.mine_lt (h : TAt B T E w p v m) {g : Nat} (hg : Mine p v g) : B ≤ g ∧ g < w.heap.size := by
  rcases hg with rfl | hg
  · exact ⟨h.low, h.plt⟩
  · exact h.own.lt g hg
theorem TAt.c0 (h : TAt B T E w p v m) : w.cell? ⟨p, 0, none⟩ = some (.int .u64 (m.now : Int)) := by rw [cell_at h.cell]; simp
theorem TAt.c1 (h : TAt B T E w p v m) : w.cell? ⟨p, 1, none⟩ = some (.int .u64 (m.next : Int)) := by rw [cell_at h.cell]; simp
theorem TAt.c2 (h : TAt B T E w p v m) : w.cell? ⟨p, 2, none⟩ = some v := by rw [cell_at h.cell]; simp
theorem TAt.free (h : TAt B T E w p v m) (i : Nat) : w.frozen? ⟨p, i, none⟩ = false := free_at h.cell i
theorem TAt.keep (h : TAt B T E w p v m) {S : Nat → Prop} (k : Only S w w') (h1 : ∀ g, Mine p v g → ¬ S g) : TAt B T E w' p v m :=
  ⟨h.low, k.heap h.cell (h1 p (.inl rfl)), k.own h.own fun g hg => h1 g (.inr hg), h.np⟩
theorem TAt.below (h : TAt B T E w p v m) (k : Below w.heap.size w w') : TAt B T E w' p v m := h.keep (S := fun _ => False) (Only.of_below k) (by simp)
/-- The rows' slice, in its form. -/
theorem TAt.form (h : TAt B T E w p v m) : ∃ A c, v = .slice A m.rows.length c ∧ m.rows.length ≤ c ∧ c ≤ 9223372036854775807 ∧ RR w w.heap.size A m.rows.length m.rows := by
  obtain ⟨A, c, hv, h1, h2, h3⟩ := own_form h.own
  unfold maxLen at h2
  exact ⟨A, c, hv, h1, by omega, h3⟩
/-- A row of the table, where it lies. -/
theorem TAt.row (h : TAt B T E w p v m) {i : Nat} {r : Rw} (hi : m.rows[i]? = some r) : ∃ g c, v = .slice (some ⟨g, 0, none⟩) m.rows.length c ∧ m.rows.length ≤ c ∧ c ≤ 9223372036854775807 ∧ B ≤ g ∧ g < w.heap.size ∧ g ≠ p ∧ Six w g (i * 6) r ∧ (∀ j, w.frozen? ⟨g, j, none⟩ = false) := by
  obtain ⟨A, c, hv, h1, h2, h3⟩ := h.form
  have hil : i < m.rows.length := (List.getElem?_eq_some_iff.1 hi).1
  rcases h.own.2 with ⟨e, h0⟩ | ⟨g, cap, cur, e, hb, hg, h4, h5, h6, h7⟩
  · omega
  · subst e
    injection hv with e1 e2 e3
    subst e1 e3
    obtain ⟨b, o, x, e4, h8, h9, h10⟩ := RR.at_ h3 hil
    cases e4
    rw [hi] at h9
    cases h9
    rw [Nat.zero_add] at h10
    exact ⟨g, _, rfl, h1, h2, hb, lt_at hg, fun e => h.np (by rw [← e]; rfl), h10, fun j => free_at hg j⟩
/-- Another row of sessions is laid: w1, where only the row changed (and what is new); then the field is written. -/
theorem TAt.rowed (h : TAt B T E w p v m) {n : Nat} {v' : Value} {xs : List Value} {L : List Rw}
    (o : Only (fun q => v.ownBlock = some q) w w1) (hown : w1.ownsRow B E 6 v' n xs) (hn : n = L.length) (hx : xs = rcells L)
    (hat : ∀ q, v'.ownBlock = some q → v.ownBlock = some q ∨ w.heap.size ≤ q) :
    w1.cell? ⟨p, 2, none⟩ = some v ∧ w1.frozen? ⟨p, 2, none⟩ = false ∧ p < w1.heap.size ∧ LeftT B T E w p v ⟨m.now, m.next, L⟩ (w1.setCell ⟨p, 2, none⟩ v') := by
  subst hn hx
  have hc := o.heap h.cell h.np
  have hset : Only (fun q => q = p) w1 (w1.setCell ⟨p, 2, none⟩ v') := (Only.refl (fun q => q = p) w1).setCell (a := ⟨p, 2, none⟩) (.inr rfl) v'
  have hplt := h.plt
  have hnp : v'.ownBlock ≠ some p := fun e => by
    rcases hat p e with e1 | e1
    · exact h.np e1
    · omega
  refine ⟨by rw [cell_at hc]; simp, free_at hc 2, lt_at hc, v', ⟨h.low, by rw [set_at hc, List.setIfInBounds_toArray]; rfl, hset.own hown fun g hg e => hnp (e ▸ hg), hnp⟩, ?_, hat⟩
  exact (o.mono fun q _ hq => .inr hq).trans (hset.mono fun q _ hq => .inl hq)
/-- The time is another. -/
theorem TAt.timed (h : TAt B T E w p v m) (t : Nat) : TAt B T E (w.setCell ⟨p, 0, none⟩ (.int .u64 (t : Int))) p v ⟨t, m.next, m.rows⟩ ∧ Only (fun q => q = p) w (w.setCell ⟨p, 0, none⟩ (.int .u64 (t : Int))) := by
  have hset : Only (fun q => q = p) w (w.setCell ⟨p, 0, none⟩ (.int .u64 (t : Int))) := (Only.refl (fun q => q = p) w).setCell (a := ⟨p, 0, none⟩) (.inr rfl) _
  exact ⟨⟨h.low, by rw [set_at h.cell, List.setIfInBounds_toArray]; rfl, hset.own h.own fun g hg e => h.np (e ▸ hg), h.np⟩, hset⟩
/-- The next number is another. -/
theorem TAt.nexted (h : TAt B T E w p v m) (t : Nat) : TAt B T E (w.setCell ⟨p, 1, none⟩ (.int .u64 (t : Int))) p v ⟨m.now, t, m.rows⟩ ∧ Only (fun q => q = p) w (w.setCell ⟨p, 1, none⟩ (.int .u64 (t : Int))) := by
  have hset : Only (fun q => q = p) w (w.setCell ⟨p, 1, none⟩ (.int .u64 (t : Int))) := (Only.refl (fun q => q = p) w).setCell (a := ⟨p, 1, none⟩) (.inr rfl) _
  exact ⟨⟨h.low, by rw [set_at h.cell, List.setIfInBounds_toArray]; rfl, hset.own h.own fun g hg e => h.np (e ▸ hg), h.np⟩, hset⟩
/-- A cell of the rows' block is written: the rows are others. -/
theorem TAt.put (h : TAt B T E w p v m) {j : Nat} {u : Value} {L : List Rw} (hL : L.length = m.rows.length) (hj : j < m.rows.length * 6) (hx : (rcells m.rows).set j u = rcells L) {g : Nat} (hg : v.ownBlock = some g) :
    TAt B T E (w.setCell ⟨g, j, none⟩ u) p v ⟨m.now, m.next, L⟩ ∧ Only (fun q => q = g) w (w.setCell ⟨g, j, none⟩ u) := by
  have hset : Only (fun q => q = g) w (w.setCell ⟨g, j, none⟩ u) := (Only.refl (fun q => q = g) w).setCell (a := ⟨g, j, none⟩) (.inr rfl) _
  have hgp : g ≠ p := fun e => h.np (e ▸ hg)
  refine ⟨⟨h.low, hset.heap h.cell fun e => hgp e.symm, ?_, h.np⟩, hset⟩
  show World.ownsRow _ B E 6 v L.length (rcells L)
  refine ⟨by rw [rcells_length], ?_⟩
  rcases h.own.2 with ⟨e, h0⟩ | ⟨g', cap, cur, e, hb, hg', h4, h5, h6, h7⟩
  · omega
  · subst e
    have : g' = g := by simpa [Value.ownBlock] using hg
    subst this
    refine .inr ⟨g', cap, cur.setIfInBounds j u, by rw [hL], hb, set_at hg' u, by omega, h5, by simpa using h6, ?_⟩
    rw [Array.toList_setIfInBounds, ← hx, ← h7, hL, List.take_set]
theorem LeftT.refl (h : TAt B T E w p v m) : LeftT B T E w p v m w := ⟨v, h, Only.refl _ w, fun g hg => .inl hg⟩
theorem LeftT.of_below (h : TAt B T E w p v m) (k : Below w.heap.size w w') : LeftT B T E w p v m w' := ⟨v, h.below k, Only.of_below k, fun g hg => .inl hg⟩
/-- A call behind a call. -/
theorem LeftT.then {v1 : Value} (k1 : Only (Mine p v) w w1) (hf : ∀ g, v1.ownBlock = some g → v.ownBlock = some g ∨ w.heap.size ≤ g)
    (k2 : LeftT B T E w1 p v1 m'' w') : LeftT B T E w p v m'' w' := by
  obtain ⟨v2, h2, o2, f2⟩ := k2
  refine ⟨v2, h2, k1.trans' o2 fun q hq => ?_, fun q hq => ?_⟩
  · rcases hq with hq | hq
    · exact .inl (.inl hq)
    · rcases hf q hq with e | e
      · exact .inl (.inr e)
      · exact .inr e
  · rcases f2 q hq with h | h
    · exact hf q h
    · exact .inr (Nat.le_trans k1.size h)
theorem LeftT.afterBelow (k1 : Below w.heap.size w w1) (k2 : LeftT B T E w1 p v m' w') : LeftT B T E w p v m' w' :=
  LeftT.then (Only.of_below k1) (fun _ h => .inl h) k2
theorem LeftT.thenBelow (k1 : LeftT B T E w p v m' w1) (k2 : Below w1.heap.size w1 w') : LeftT B T E w p v m' w' := by
  obtain ⟨v1, h1, o1, f1⟩ := k1
  exact ⟨v1, h1.below k2, o1.thenBelow k2, f1⟩
/-- A block of the call's own is written behind that. -/
theorem LeftT.boxed {w2 w3 w4 : World} (h : TAt B T E w p v m) (hb : Below w.heap.size w w2) (k : LeftT B T E w2 p v m' w3) {r : Nat} (hr0 : w.heap.size ≤ r) (hr1 : r < w2.heap.size) (o : Only (fun q => q = r) w3 w4) : LeftT B T E w p v m' w4 := by
  obtain ⟨v', h', o', f'⟩ := k
  have hv : ∀ q, Mine p v' q → q ≠ r := fun q hq e => by
    rcases hq with hq | hq
    · have := h.plt; omega
    · rcases f' q hq with h1 | h1
      · have := (h.own.lt q h1).2; omega
      · omega
  refine ⟨v', h'.keep o hv, ?_, fun q hq => (f' q hq).imp id fun h1 => Nat.le_trans hb.size h1⟩
  exact ((Only.of_below hb).trans o').trans' o fun q hq => .inr (by omega)
theorem left_below (h : TAt B T E w p v m) (k : LeftT B T E w p v m' w') : Below B w w' := by
  obtain ⟨v', h', o', f'⟩ := k
  exact o'.below h.base fun q hq => (h.mine_lt hq).1
end
/-- Cells of a row are set one by one. -/
theorem rcells_set {l : List Rw} {i : Nat} {r r' : Rw} (h : l[i]? = some r) : rcells (l.set i r') = (rcells l).take (i * 6) ++ rwCs r' ++ (rcells l).drop (i * 6 + 6) := by
  have hi : i < l.length := (List.getElem?_eq_some_iff.1 h).1
  rw [List.set_eq_take_append_cons_drop, if_pos hi, rcells_append, rcells_cons, rcells_take, rcells_drop, ← List.append_assoc]
  congr 2
  omega
theorem rcells_at {l : List Rw} {i : Nat} {r : Rw} (h : l[i]? = some r) : rcells l = (rcells l).take (i * 6) ++ rwCs r ++ (rcells l).drop (i * 6 + 6) := by
  have := rcells_set (r' := r) h
  rwa [show l.set i r = l from by obtain ⟨hi, rfl⟩ := List.getElem?_eq_some_iff.1 h; exact List.set_getElem_self hi] at this
end Go.Proofs.YthaepkpmpnofgaaGreat.Rws
set_option linter.unusedVariables false
set_option linter.unusedSimpArgs false
namespace Go.Proofs.YthaepkpmpnofgaaGreat.SsnWalkA
open Go.RowKit Go.Proofs.YthaepkpmpnofgaaGreat.Kit Go.Proofs.YthaepkpmpnofgaaGreat.Blocks Go.Proofs.YthaepkpmpnofgaaGreat.Ses Go.Proofs.YthaepkpmpnofgaaGreat.Rws

abbrev PT (T : Shape) (B : Nat) (w : World) (p : Nat) (v : Value) (m : Tb) : Prop := TAt B T 63 w p v m
abbrev DT (T : Shape) (B : Nat) (w : World) (p : Nat) (v : Value) (m : Tb) : Prop := TAt B T 125 w p v m
abbrev PLeft (T : Shape) (B : Nat) (w : World) (p : Nat) (v : Value) (m : Tb) (w' : World) : Prop := LeftT B T 63 w p v m w'
abbrev DLeft (T : Shape) (B : Nat) (w : World) (p : Nat) (v : Value) (m : Tb) (w' : World) : Prop := LeftT B T 125 w p v m w'

set_option maxRecDepth 100000 in
theorem new_any (w : World) : Calls Tryz.prog 23 #[] w fun e w' => ∃ p v, e = .returned (.pointer (some ⟨p, 0, none⟩)) ∧ PT ⟨118, []⟩ w.heap.size w' p v tb0 ∧ Below w.heap.size w w' := by
  have hh : (w.alloc (.cells #[.int .u64 0, .int .u64 1, .slice none 0 0] 118)).heap[w.heap.size]? = some (.cells #[.int .u64 0, .int .u64 1, .slice none 0 0] 118 (0, 0)) := heap_alloc_new w _
  have hb : Below w.heap.size w (w.alloc (.cells #[.int .u64 0, .int .u64 1, .slice none 0 0] 118)) := (Below.refl _ _).alloc (Nat.le_refl _) _
  go_enter Tryz.func23, Tryz.ntmps23
  go_wp2
  go_ret
  exact ⟨_, .slice none 0 0, rfl, ⟨Nat.le_refl _, hh, World.ownsRow_nil _ _ _ _, by simp [Value.ownBlock]⟩, hb⟩
section
variable {T : Shape} {B : Nat} {w : World} {p : Nat} {v : Value} {m : Tb}
set_option maxRecDepth 100000 in
theorem next_any {g o : Nat} {r : Rw} {s : Nat} {b : Bool} (h : Six w g o r) (hg : g < w.heap.size) (hs : U s) (hb : Hid (isNext r s = b)) :
    Calls Tryz.prog 106 #[.pointer (some ⟨g, o, none⟩), .int .u64 (s : Int)] w fun e w' => e = .returned (.bool b) ∧ w' = w := by
  have c2 := h.c2
  clear h
  rcases Nat.eq_zero_or_pos s with h0 | h0
  · subst h0
    obtain rfl : b = false := by rw [← hb.out]; simp [isNext]
    clear hb
    go_enter Tryz.func106, Tryz.ntmps106
    go_wp2
    go_ret
    exact ⟨rfl, rfl⟩
  · have hne : ¬ (s : Int) = 0 := by omega
    have hw : IntKind.u64.wrap ((s : Int) - 1) = ((s - 1 : Nat) : Int) := by rw [show (s : Int) - 1 = ((s - 1 : Nat) : Int) by omega]; exact IntWalk.u64_in _ ⟨by omega, by omega⟩
    have hd : (((s - 1 : Nat) : Int) == (r.seq : Int)) = b := by
      rw [← hb.out]; unfold isNext; rw [decide_eq_true (show s ≠ 0 by omega), Bool.true_and]
      by_cases e : s - 1 = r.seq
      · rw [decide_eq_true e, e]; simp
      · rw [decide_eq_false e]; simp; omega
    have hsn : ((s : Int) != 0) = true := by simp; omega
    obtain ⟨k, hk⟩ : ∃ k, s - 1 = k := ⟨_, rfl⟩
    rw [hk] at hw hd
    clear hb
    go_enter Tryz.func106, Tryz.ntmps106
    go_wp2
    go_ret
    exact ⟨by simp [hsn], rfl⟩
end
/-- The first k rows have another number. -/
def Past (l : List Rw) (id k : Nat) : Prop := ∀ j < k, ∀ x, l[j]? = some x → x.id ≠ id
section
variable {T : Shape} {B : Nat} {w : World} {p : Nat} {v : Value} {m : Tb}
set_option maxRecDepth 100000 in
theorem find_no (h : PT T B w p v m) (id : Nat) (hn : seek m.rows id = none) :
    Calls Tryz.prog 105 #[.pointer (some ⟨p, 0, none⟩), .int .u64 (id : Int)] w fun e w' => e = .returned (.pointer none) ∧ w' = w := by
  have c2 := h.c2
  have hp := h.plt
  obtain ⟨A, c, rfl, hnc, hcm, hr⟩ := h.form
  obtain ⟨n, hl⟩ : ∃ n, m.rows.length = n := ⟨_, rfl⟩
  rw [hl] at hr hnc c2
  have HN := Lib.hid (seek_none hn)
  have HR := Lib.hid hr
  clear h hr hn hl
  go_enter Tryz.func105, Tryz.ntmps105
  go_wp2
  go_loopw [13] (fun i wr => ∃ k : Nat, k ≤ n ∧ i = .int .i64 (k : Int) ∧ wr = w) (fun i _ => n - (intOf i).toNat)
  case atStart => exact ⟨0, by omega, rfl, rfl⟩
  case round =>
    obtain ⟨k, hk, rfl, rfl⟩ := hrel
    by_cases hk' : k < n
    · obtain ⟨b', o', t, rfl, hb', he, y⟩ := RR.at_ HR.out hk'
      have y0 := y.c0
      have hne : ¬ (t.id : Int) = (id : Int) := by have := HN.out t (List.mem_of_getElem? he); omega
      clear y
      go_wp2
      go_roundw
      case rel => exact ⟨k + 1, by omega, by simp, by trivial⟩
      case measure => simp [intOf]; omega
    · obtain rfl : k = n := by omega
      go_wp2
      go_ret
      exact ⟨rfl, rfl⟩
set_option maxRecDepth 100000 in
theorem find_yes (h : PT T B w p v m) (id : Nat) {i : Nat} (hn : seek m.rows id = some i) {g c : Nat} (hv : v = .slice (some ⟨g, 0, none⟩) m.rows.length c) :
    Calls Tryz.prog 105 #[.pointer (some ⟨p, 0, none⟩), .int .u64 (id : Int)] w fun e w' => e = .returned (.pointer (some ⟨g, i * 6, none⟩)) ∧ w' = w := by
  have c2 := h.c2
  have hp := h.plt
  obtain ⟨A, c', hv', hnc, hcm, hr⟩ := h.form
  rw [hv] at hv' c2
  injection hv' with e1 e2 e3
  subst e1 e3
  obtain ⟨n, hl⟩ : ∃ n, m.rows.length = n := ⟨_, rfl⟩
  obtain ⟨r, h1, h2, h3, h4⟩ := seek_some hn
  rw [hl] at hr hnc c2 h3
  have HN := Lib.hid h4
  have HI := Lib.hid h1
  have HR := Lib.hid hr
  clear h hr hn hl h1 h4
  go_enter Tryz.func105, Tryz.ntmps105
  go_wp2
  go_loopw [13] (fun q wr => ∃ k : Nat, k ≤ i ∧ q = .int .i64 (k : Int) ∧ wr = w) (fun q _ => n - (intOf q).toNat)
  case atStart => exact ⟨0, by omega, rfl, rfl⟩
  case round =>
    obtain ⟨k, hk, rfl, rfl⟩ := hrel
    obtain ⟨b', o', t, hA, hb', he, y⟩ := RR.at_ HR.out (show k < n by omega)
    cases hA
    rw [Nat.zero_add] at y
    have y0 := y.c0
    clear y
    by_cases hk' : k < i
    · have hne : ¬ (t.id : Int) = (id : Int) := by have := HN.out k hk' t he; omega
      go_wp2
      go_roundw
      case rel => exact ⟨k + 1, by omega, by simp, by trivial⟩
      case measure => simp [intOf]; omega
    · obtain rfl : k = i := by omega
      obtain rfl : t = r := by have := HI.out; rw [he] at this; cases this; rfl
      have heq : (t.id : Int) = (id : Int) := by omega
      go_wp2
      go_ret
      simp
set_option maxRecDepth 100000 in
theorem find_none (id : Nat) (w : World) : Calls Tryz.prog 105 #[.pointer none, .int .u64 (id : Int)] w fun e w' => e = .returned (.pointer none) ∧ w' = w := by
  go_enter Tryz.func105, Tryz.ntmps105
  go_wp2
  go_ret
  exact ⟨rfl, rfl⟩
end
end Go.Proofs.YthaepkpmpnofgaaGreat.SsnWalkA
set_option linter.unusedVariables false
set_option linter.unusedSimpArgs false
namespace Go.Proofs.YthaepkpmpnofgaaGreat.Boxs
open Go.RowKit Go.Proofs.YthaepkpmpnofgaaGreat.Kit Go.Proofs.YthaepkpmpnofgaaGreat.Blocks Go.Proofs.YthaepkpmpnofgaaGreat.Ses Go.Proofs.YthaepkpmpnofgaaGreat.Rws Go.Proofs.YthaepkpmpnofgaaGreat.SsnWalkA

/-- A block of a reply's three cells. -/
structure Box3 (w : World) (r : Nat) (a b c : Value) : Prop where
  blk : w.heap[r]? = some (.cells #[a, b, c] 32 (0, 0))
section
variable {w w' : World} {r : Nat} {a b c : Value}
theorem Box3.lt (h : Box3 w r a b c) : r < w.heap.size := lt_at h.blk
theorem Box3.c0 (h : Box3 w r a b c) : w.cell? ⟨r, 0, none⟩ = some a := by rw [cell_at h.blk]; rfl
theorem Box3.c1 (h : Box3 w r a b c) : w.cell? ⟨r, 1, none⟩ = some b := by rw [cell_at h.blk]; rfl
theorem Box3.c2 (h : Box3 w r a b c) : w.cell? ⟨r, 2, none⟩ = some c := by rw [cell_at h.blk]; rfl
theorem Box3.free (h : Box3 w r a b c) (i : Nat) : w.frozen? ⟨r, i, none⟩ = false := free_at h.blk i
theorem Box3.keep (h : Box3 w r a b c) {S : Nat → Prop} (k : Only S w w') (hr : ¬ S r) : Box3 w' r a b c := ⟨(k.block r h.lt hr).trans h.blk⟩
theorem Box3.below (h : Box3 w r a b c) (k : Below w.heap.size w w') : Box3 w' r a b c := ⟨(k.block r h.lt).trans h.blk⟩
theorem Box3.new (w : World) (a b c : Value) : Box3 (w.alloc (.cells #[a, b, c] 32)) w.heap.size a b c := ⟨heap_alloc_new w _⟩
theorem Box3.set (h : Box3 w r a b c) (a' b' c' : Value) : Box3 (((w.setCell ⟨r, 0, none⟩ a').setCell ⟨r, 1, none⟩ b').setCell ⟨r, 2, none⟩ c') r a' b' c' ∧
    Only (fun q => q = r) w (((w.setCell ⟨r, 0, none⟩ a').setCell ⟨r, 1, none⟩ b').setCell ⟨r, 2, none⟩ c') := by
  refine ⟨⟨?_⟩, (((Only.refl (fun q => q = r) w).setCell (a := ⟨r, 0, none⟩) (.inr rfl) _).setCell (a := ⟨r, 1, none⟩) (.inr rfl) _).setCell (a := ⟨r, 2, none⟩) (.inr rfl) _⟩
  rw [set_at (set_at (set_at h.blk _) _) _]
  rfl
end
section
variable {fn : Func} {p u : Tmp} {w : World} {g : Nat} {a b c : Value}
theorem res2 (h : fn.results = #[.cell p 32, .tmp u]) (tmps : Array Value) (hp : tmps.getD p undef = .pointer (some ⟨g, 0, none⟩)) (hx : Box3 w g a b c) : (results fn tmps).run Tryz.prog w = .ok (.tuple #[.agg #[a, b, c], tmps.getD u undef]) w := by
  have hp' : tmps[p]?.getD undef = .pointer (some ⟨g, 0, none⟩) := by simpa using hp
  have hl := run_loadVar_row (P := Tryz.prog) w g 32 32 #[a, b, c] (0, 0) _ hx.blk Tryz.underlying32 rfl (by kernel_rfl)
  simp [results, h, hp', asAddr, Result.andThen, hl]
end
/-- Its last use is written into a row. -/
theorem put_used {m : Tb} {i : Nat} {r : Rw} (h : m.rows[i]? = some r) : (rcells m.rows).set (i * 6 + 1) (.int .u64 (m.now : Int)) = rcells (m.rows.set i (usedRow m r)) := by
  have hi : i < m.rows.length := (List.getElem?_eq_some_iff.1 h).1
  have hl : ((rcells m.rows).take (i * 6)).length = i * 6 := by rw [List.length_take, rcells_length]; omega
  rw [rcells_set h]
  conv => lhs; rw [rcells_at h]
  rw [List.append_assoc, List.append_assoc, List.set_append_right _ _ (by omega), hl, show i * 6 + 1 - i * 6 = 1 by omega]
  rfl
theorem put_seq {l : List Rw} {i : Nat} {r : Rw} (h : l[i]? = some r) (s : Nat) : (rcells l).set (i * 6 + 2) (.int .u64 (s : Int)) = rcells (l.set i (endRow r s r.y)) := by
  have hi : i < l.length := (List.getElem?_eq_some_iff.1 h).1
  have hl : ((rcells l).take (i * 6)).length = i * 6 := by rw [List.length_take, rcells_length]; omega
  rw [rcells_set h]
  conv => lhs; rw [rcells_at h]
  rw [List.append_assoc, List.append_assoc, List.set_append_right _ _ (by omega), hl, show i * 6 + 2 - i * 6 = 2 by omega]
  rfl
theorem put_ry {l : List Rw} {i : Nat} {r : Rw} (h : l[i]? = some r) (y : Ry) : (((rcells l).set (i * 6 + 3) (.int .i64 y.err)).set (i * 6 + 4) (.int .u64 (y.num : Int))).set (i * 6 + 5) (.int .u64 (y.ext : Int)) = rcells (l.set i (endRow r r.seq y)) := by
  have hi : i < l.length := (List.getElem?_eq_some_iff.1 h).1
  have hl : ((rcells l).take (i * 6)).length = i * 6 := by rw [List.length_take, rcells_length]; omega
  rw [rcells_set h]
  conv => lhs; rw [rcells_at h]
  rw [List.append_assoc, List.append_assoc, List.set_append_right _ _ (by omega), hl, show i * 6 + 3 - i * 6 = 3 by omega]
  rw [List.set_append_right _ _ (by omega), hl, show i * 6 + 4 - i * 6 = 4 by omega]
  rw [List.set_append_right _ _ (by omega), hl, show i * 6 + 5 - i * 6 = 5 by omega]
  rfl
section
variable {B : Nat} {T : Shape} {E : TypeId} {w : World} {p : Nat} {v : Value} {m : Tb} {i : Nat} {r : Rw} {g : Nat}
/-- A session is used now. -/
theorem TAt.used (h : TAt B T E w p v m) (hi : m.rows[i]? = some r) (hg : v.ownBlock = some g) :
    TAt B T E (w.setCell ⟨g, i * 6 + 1, none⟩ (.int .u64 (m.now : Int))) p v ⟨m.now, m.next, m.rows.set i (usedRow m r)⟩ ∧ Only (fun q => q = g) w (w.setCell ⟨g, i * 6 + 1, none⟩ (.int .u64 (m.now : Int))) := by
  have hil : i < m.rows.length := (List.getElem?_eq_some_iff.1 hi).1
  exact h.put (by simp) (by omega) (put_used hi) hg
theorem TAt.seqd (h : TAt B T E w p v m) (hi : m.rows[i]? = some r) (hg : v.ownBlock = some g) (s : Nat) :
    TAt B T E (w.setCell ⟨g, i * 6 + 2, none⟩ (.int .u64 (s : Int))) p v ⟨m.now, m.next, m.rows.set i (endRow r s r.y)⟩ ∧ Only (fun q => q = g) w (w.setCell ⟨g, i * 6 + 2, none⟩ (.int .u64 (s : Int))) := by
  have hil : i < m.rows.length := (List.getElem?_eq_some_iff.1 hi).1
  exact h.put (by simp) (by omega) (put_seq hi s) hg
/-- A cell of the rows' block is written, whatever the cells are then. -/
structure Raw (B : Nat) (T : Shape) (E : TypeId) (w : World) (p : Nat) (v : Value) (m : Tb) (xs : List Value) : Prop where
  low : B ≤ p
  cell : w.heap[p]? = some (.cells (Value.int .u64 (m.now : Int) :: .int .u64 (m.next : Int) :: v :: T.tl).toArray T.ty (0, 0))
  own : w.ownsRow B E 6 v m.rows.length xs
  np : v.ownBlock ≠ some p
theorem Raw.put {xs : List Value} {u : Value} (h : Raw B T E w p v m xs) {j : Nat} (hj : j < m.rows.length * 6) (hg : v.ownBlock = some g) :
    Raw B T E (w.setCell ⟨g, j, none⟩ u) p v m (xs.set j u) ∧ Only (fun q => q = g) w (w.setCell ⟨g, j, none⟩ u) := by
  have hset : Only (fun q => q = g) w (w.setCell ⟨g, j, none⟩ u) := (Only.refl (fun q => q = g) w).setCell (a := ⟨g, j, none⟩) (.inr rfl) _
  have hgp : g ≠ p := fun e => h.np (e ▸ hg)
  refine ⟨⟨h.low, hset.heap h.cell fun e => hgp e.symm, ?_, h.np⟩, hset⟩
  refine ⟨by rw [List.length_set]; exact h.own.1, ?_⟩
  rcases h.own.2 with ⟨e, h0⟩ | ⟨g', cap, cur, e, hb, hg', h4, h5, h6, h7⟩
  · omega
  · subst e
    have : g' = g := by simpa [Value.ownBlock] using hg
    subst this
    refine .inr ⟨g', cap, cur.setIfInBounds j u, rfl, hb, set_at hg' u, h4, h5, by simpa using h6, ?_⟩
    rw [Array.toList_setIfInBounds, ← h7, List.take_set]
theorem TAt.replied (h : TAt B T E w p v m) (hi : m.rows[i]? = some r) (hg : v.ownBlock = some g) (y : Ry) :
    TAt B T E (((w.setCell ⟨g, i * 6 + 3, none⟩ (.int .i64 y.err)).setCell ⟨g, i * 6 + 4, none⟩ (.int .u64 (y.num : Int))).setCell ⟨g, i * 6 + 5, none⟩ (.int .u64 (y.ext : Int))) p v ⟨m.now, m.next, m.rows.set i (endRow r r.seq y)⟩ ∧
      Only (fun q => q = g) w (((w.setCell ⟨g, i * 6 + 3, none⟩ (.int .i64 y.err)).setCell ⟨g, i * 6 + 4, none⟩ (.int .u64 (y.num : Int))).setCell ⟨g, i * 6 + 5, none⟩ (.int .u64 (y.ext : Int))) := by
  have hil : i < m.rows.length := (List.getElem?_eq_some_iff.1 hi).1
  have h0 : Raw B T E w p v m (rcells m.rows) := ⟨h.low, h.cell, h.own, h.np⟩
  obtain ⟨h1, o1⟩ := h0.put (j := i * 6 + 3) (u := .int .i64 y.err) (by omega) hg
  obtain ⟨h2, o2⟩ := h1.put (j := i * 6 + 4) (u := .int .u64 (y.num : Int)) (by omega) hg
  obtain ⟨h3, o3⟩ := h2.put (j := i * 6 + 5) (u := .int .u64 (y.ext : Int)) (by omega) hg
  refine ⟨⟨h3.low, h3.cell, ?_, h3.np⟩, (o1.trans o2).trans o3⟩
  have := h3.own
  rw [put_ry hi] at this
  simpa using this
end
end Go.Proofs.YthaepkpmpnofgaaGreat.Boxs
set_option linter.unusedVariables false
set_option linter.unusedSimpArgs false
namespace Go.Proofs.YthaepkpmpnofgaaGreat.SesB
open Go.RowKit Go.Proofs.YthaepkpmpnofgaaGreat.Kit Go.Proofs.YthaepkpmpnofgaaGreat.Rdr Go.Proofs.YthaepkpmpnofgaaGreat.Ses Go.Proofs.YthaepkpmpnofgaaGreat.Rws
open Go.Proofs.YthaepkpmpnofgaaGreat.Num (num)
open Go.Proofs.YthaepkpmpnofgaaGreat.State (WV Wrote Step cell_at free_at lt_at)

def u64 (z : Int) : Nat := (z % 18446744073709551616).toNat
theorem u64_lt (z : Int) : u64 z < 18446744073709551616 := by unfold u64; omega
theorem u64_wrap (z : Int) : IntKind.u64.wrap z = (u64 z : Int) := by rw [IntKind.wrap_u64]; unfold u64; omega
theorem u64_nat {n : Nat} (h : n < 18446744073709551616) : u64 (n : Int) = n := by unfold u64; omega
theorem wrap_u (n : Nat) (h : n < 18446744073709551616) : IntKind.u64.wrap (n : Int) = (n : Int) := by rw [IntKind.wrap_u64]; omega
def rwB (r : Rw) : List UInt8 := num r.id ++ (num r.used ++ (num r.seq ++ (num (u64 r.y.err) ++ (num r.y.num ++ num r.y.ext))))
def rwsB (l : List Rw) : List UInt8 := l.flatMap rwB
def tbB (m : Tb) : List UInt8 := num m.now ++ (num m.next ++ (num m.rows.length ++ rwsB m.rows))
theorem rwsB_take {l : List Rw} {j : Nat} {r : Rw} (h : l[j]? = some r) : rwsB (l.take (j + 1)) = rwsB (l.take j) ++ rwB r := by
  obtain ⟨hj, rfl⟩ := List.getElem?_eq_some_iff.1 h
  unfold rwsB
  rw [List.take_succ_eq_append_getElem hj, List.flatMap_append, List.flatMap_singleton]
/-- A row's numbers are each one of 64 bits. -/
structure Fine (r : Rw) : Prop where
  id : U r.id
  used : U r.used
  seq : U r.seq
  num : U r.y.num
  ext : U r.y.ext
theorem rwB_le {r : Rw} (h : Fine r) : (rwB r).length ≤ 54 := by
  unfold rwB
  simp only [List.length_append]
  have h1 := num9 h.id
  have h2 := num9 h.used
  have h3 := num9 h.seq
  have h4 := num9 (u64_lt r.y.err)
  have h5 := num9 h.num
  have h6 := num9 h.ext
  omega
theorem rwsB_le : ∀ {l : List Rw}, (∀ r ∈ l, Fine r) → (rwsB l).length ≤ l.length * 54
  | [], _ => by simp [rwsB]
  | r :: l, h => by
    have h1 := rwB_le (h r (by simp))
    have h2 := rwsB_le (l := l) fun x hx => h x (by simp [hx])
    show (rwB r ++ rwsB l).length ≤ (l.length + 1) * 54
    rw [List.length_append]
    omega
theorem sane_fine {m : Tb} (h : Sane m) : ∀ r ∈ m.rows, Fine r := fun r hr => by
  obtain ⟨f1, f2, f3, f4⟩ := h.fits r hr
  have hn := h.now
  have hx := h.next
  have hi := (grows_mem h.grows r hr).2
  exact ⟨by show r.id < _; omega, by show r.used < _; omega, f3, f4.2.2.1, f4.2.2.2⟩

/-! ### A writer beside a world -/
/-- Since w0 nothing but the writer's own was written; a block g that it has not. -/
structure Wrb (w0 W : World) (q : Nat) (u0 : Option Nat) (l : List UInt8) (g : Nat) (ob : Obj) : Prop where
  ex : ∃ u, WV W q u l ∧ Step q u0 u.ownBlock w0 W ∧ u.ownBlock ≠ some g
  ne : g ≠ q
  at_ : W.heap[g]? = some ob
structure Wrq (w0 W : World) (q : Nat) (u0 : Option Nat) (l : List UInt8) : Prop where
  ex : ∃ u, WV W q u l ∧ Step q u0 u.ownBlock w0 W
section
variable {w0 W W' : World} {q g : Nat} {u0 : Option Nat} {l : List UInt8} {ob : Obj}
theorem Wrq.new {w : World} {u : Value} (h : WV w q u l) : Wrq w w q u.ownBlock l := ⟨⟨u, h, Step.refl _ _ _⟩⟩
theorem Wrq.only (h : Wrq w0 W q u0 l) : State.Only (fun k => k = q ∨ u0 = some k) w0 W := by
  obtain ⟨u, _, h2⟩ := h.ex
  exact h2.only
theorem Wrq.heap (h : Wrq w0 W q u0 l) {k : Nat} {o : Obj} (hk : w0.heap[k]? = some o) (h1 : k ≠ q) (h2 : u0 ≠ some k) : W.heap[k]? = some o :=
  (h.only.block k (lt_at hk) fun e => e.elim h1 h2).trans hk
theorem Wrq.cell (h : Wrq w0 W q u0 l) {a : Addr} {v : Value} (hc : w0.cell? a = some v) (ha : a.block < w0.heap.size) (h1 : a.block ≠ q) (h2 : u0 ≠ some a.block) : W.cell? a = some v :=
  (World.cell?_of_block (h.only.block a.block ha fun e => e.elim h1 h2)).trans hc
theorem Wrb.wrq (h : Wrb w0 W q u0 l g ob) : Wrq w0 W q u0 l := by
  obtain ⟨u, h1, h2, _⟩ := h.ex
  exact ⟨⟨u, h1, h2⟩⟩
theorem Wrq.drew (h : Wrq w0 W q u0 l) : Wrq w0 W.drew q u0 l := by
  obtain ⟨u, h1, h2⟩ := h.ex
  exact ⟨⟨u, h1.below ((Below.refl _ _).drew), h2.only.drew, h2.next⟩⟩
theorem Wrb.drew (h : Wrb w0 W q u0 l g ob) : Wrb w0 W.drew q u0 l g ob := by
  obtain ⟨u, h1, h2, h3⟩ := h.ex
  exact ⟨⟨u, h1.below ((Below.refl _ _).drew), ⟨h2.only.drew, h2.next⟩, h3⟩, h.ne, h.at_⟩
theorem Wrq.alloc (h : Wrq w0 W q u0 l) (o : Obj) : Wrb w0 (W.alloc o) q u0 l W.heap.size o := by
  obtain ⟨u, h1, h2⟩ := h.ex
  have hb : Below W.heap.size W (W.alloc o) := (Below.refl _ _).alloc (Nat.le_refl _) o
  refine ⟨⟨u, h1.below hb, h2.trans ⟨State.Only.of_below hb, .inl rfl⟩, fun e => ?_⟩, fun e => ?_, heap_alloc_new W o⟩
  · have := (h1.row _ e).2; omega
  · have := h1.lt; omega
theorem Wrb.cell (h : Wrb w0 W q u0 l g ob) {cs : Array Value} {t : TypeId} (e : ob = .cells cs t (0, 0)) (i : Nat) : W.cell? ⟨g, i, none⟩ = cs[i]? := by
  subst e
  exact cell_at h.at_ i
theorem wrq_num {l' : List UInt8} (x : Nat) (h : Wrq w0 W q u0 l) (hx : x < 18446744073709551616) (hl : l.length ≤ 140737488355000) (he : Hid (l ++ num x = l')) :
    Calls Tryz.prog 49 #[.pointer (some ⟨q, 0, none⟩), .int .u64 (x : Int)] W fun e W' => e = .returned (.pointer (some ⟨q, 0, none⟩)) ∧ Wrq w0 W' q u0 l' := by
  obtain ⟨u, hu, hs⟩ := h.ex
  refine (PckWalkA.num_any q u l x W hu hx hl).mono ?_
  intro e W' k
  rw [he.out] at k
  obtain ⟨rfl, v', h1, h2⟩ := k
  exact ⟨rfl, ⟨v', h1, hs.trans h2⟩⟩
theorem wrb_num {l' : List UInt8} (x : Nat) (h : Wrb w0 W q u0 l g ob) (hx : x < 18446744073709551616) (hl : l.length ≤ 140737488355000) (he : Hid (l ++ num x = l')) :
    Calls Tryz.prog 49 #[.pointer (some ⟨q, 0, none⟩), .int .u64 (x : Int)] W fun e W' => e = .returned (.pointer (some ⟨q, 0, none⟩)) ∧ Wrb w0 W' q u0 l' g ob := by
  obtain ⟨u, hu, hs, hn⟩ := h.ex
  refine (PckWalkA.num_any q u l x W hu hx hl).mono ?_
  intro e W' k
  rw [he.out] at k
  obtain ⟨rfl, v', h1, h2⟩ := k
  have hg := lt_at h.at_
  refine ⟨rfl, ⟨v', h1, hs.trans h2, fun e => ?_⟩, h.ne, ?_⟩
  · rcases h2.next with e1 | ⟨k, e1, hk⟩
    · exact hn (e1 ▸ e)
    · rw [e1] at e; cases e; omega
  · exact (h2.only.block g hg fun e => e.elim h.ne hn).trans h.at_
end
end Go.Proofs.YthaepkpmpnofgaaGreat.SesB
set_option linter.unusedVariables false
set_option linter.unusedSimpArgs false
namespace Go.Proofs.YthaepkpmpnofgaaGreat.RdT
open Go.RowKit Go.Proofs.YthaepkpmpnofgaaGreat.Kit Go.Proofs.YthaepkpmpnofgaaGreat.Rdr Go.Proofs.YthaepkpmpnofgaaGreat.Ses Go.Proofs.YthaepkpmpnofgaaGreat.Rws Go.Proofs.YthaepkpmpnofgaaGreat.SesB Go.Proofs.YthaepkpmpnofgaaGreat.Wtr Go.Proofs.YthaepkpmpnofgaaGreat.SsnWalkA
open Go.Proofs.YthaepkpmpnofgaaGreat.Num (num)
open Go.Proofs.YthaepkpmpnofgaaGreat.PckWalkC (gotB gotB_lt)
open Go.Proofs.YthaepkpmpnofgaaGreat.PckWalkE (upV)
open Go.Proofs.YthaepkpmpnofgaaGreat.PckWalkH (str)

/-! ### Reading -/
def rRow (r : Rd) : Rw := ⟨gotB r.s, gotB r.num.s, gotB r.num.num.s, ⟨(upV r.num.num.num.s 52 : Nat), gotB (r.num.num.num.up 52).s, gotB (r.num.num.num.up 52).num.s⟩⟩
def rRowR (r : Rd) : Rd := (r.num.num.num.up 52).num.num
def rAt : Nat → Rd → Rd
  | 0, r => r
  | k + 1, r => rRowR (rAt k r)
def rRows : Nat → Rd → List Rw
  | 0, _ => []
  | k + 1, r => rRows k r ++ [rRow (rAt k r)]
theorem rRows_length : ∀ (k : Nat) (r : Rd), (rRows k r).length = k
  | 0, _ => rfl
  | k + 1, r => by simp [rRows, rRows_length k r]
def rN (r : Rd) : Nat := upV r.num.num.s 16
def r3 (r : Rd) : Rd := r.num.num.up 16
def rTb (r : Rd) : Tb := ⟨gotB r.s, gotB r.num.s, rRows (rN r) (r3 r)⟩
def rEnd (r : Rd) : Rd := rAt (rN r) (r3 r)
theorem rRowR_le (r : Rd) : (rRowR r).s.size ≤ r.s.size := by
  unfold rRowR
  have h1 := Rd.num_le r
  have h2 := Rd.num_le r.num
  have h3 := Rd.num_le r.num.num
  have h4 := Rd.up_le r.num.num.num 52
  have h5 := Rd.num_le (r.num.num.num.up 52)
  have h6 := Rd.num_le (r.num.num.num.up 52).num
  omega
theorem rAt_le : ∀ (k : Nat) (r : Rd), (rAt k r).s.size ≤ r.s.size
  | 0, _ => Nat.le_refl _
  | k + 1, r => Nat.le_trans (rRowR_le _) (rAt_le k r)
theorem rN_le (r : Rd) : rN r ≤ 16 := by
  have := upV_nat r.num.num.s (k := 16) (by decide)
  unfold rN
  omega
theorem rRow_fine (r : Rd) : Fine (rRow r) := ⟨gotB_lt _, gotB_lt _, gotB_lt _, gotB_lt _, gotB_lt _⟩
theorem rRows_fine : ∀ (k : Nat) (r : Rd), ∀ x ∈ rRows k r, Fine x
  | 0, _, x, h => by simp [rRows] at h
  | k + 1, r, x, h => by
    rcases List.mem_append.1 h with h | h
    · exact rRows_fine k r x h
    · simp at h; subst h; exact rRow_fine _
theorem rRow_err (r : Rd) : 0 ≤ (rRow r).y.err ∧ (rRow r).y.err ≤ 52 := by
  have := upV_nat r.num.num.num.s (k := 52) (by decide)
  exact ⟨by show (0 : Int) ≤ (upV r.num.num.num.s 52 : Nat); omega, this⟩
theorem rRows_err : ∀ (k : Nat) (r : Rd), ∀ x ∈ rRows k r, 0 ≤ x.y.err ∧ x.y.err ≤ 52
  | 0, _, x, h => by simp [rRows] at h
  | k + 1, r, x, h => by
    rcases List.mem_append.1 h with h | h
    · exact rRows_err k r x h
    · simp at h; subst h; exact rRow_err _

/-! ### Soundness -/
def okRow (now next a : Nat) (r : Rw) : Bool := decide (a < r.id) && decide (r.id < next) && decide (r.used ≤ now) && decide (now - r.used ≤ 1000)
def sndL (now next : Nat) : Nat → List Rw → Bool
  | _, [] => true
  | a, r :: l => okRow now next a r && sndL now next r.id l
def snd (m : Tb) : Bool := decide (m.next ≠ 0) && sndL m.now m.next 0 m.rows
theorem okRow_iff {now next a : Nat} {r : Rw} : okRow now next a r = true ↔ a < r.id ∧ r.id < next ∧ r.used ≤ now ∧ now - r.used ≤ 1000 := by
  unfold okRow
  simp only [Bool.and_eq_true, decide_eq_true_eq, and_assoc]
theorem snd_iff {now next : Nat} : ∀ {a : Nat} {l : List Rw}, sndL now next a l = true ↔ Grows next a l ∧ ∀ r ∈ l, r.used ≤ now ∧ now - r.used ≤ 1000
  | a, [] => by simp [sndL, Grows]
  | a, r :: l => by
    unfold sndL Grows
    rw [Bool.and_eq_true, okRow_iff, snd_iff]
    simp only [List.mem_cons, forall_eq_or_imp]
    constructor
    · rintro ⟨⟨h1, h2, h3, h4⟩, h5, h6⟩; exact ⟨⟨h1, h2, h5⟩, ⟨h3, h4⟩, h6⟩
    · rintro ⟨⟨h1, h2, h5⟩, ⟨h3, h4⟩, h6⟩; exact ⟨⟨h1, h2, h3, h4⟩, h5, h6⟩
/-- What was read and found sound is a table. -/
theorem read_sane (r : Rd) (h : snd (rTb r) = true) : Sane (rTb r) := by
  unfold snd at h
  rw [Bool.and_eq_true, decide_eq_true_eq] at h
  obtain ⟨h0, h1⟩ := h
  obtain ⟨h2, h3⟩ := snd_iff.1 h1
  refine ⟨gotB_lt _, gotB_lt _, Nat.pos_of_ne_zero h0, ?_, h2, fun x hx => ?_⟩
  · show (rRows _ _).length ≤ 16
    rw [rRows_length]
    exact rN_le r
  · have hf := rRows_fine _ _ x hx
    have he := rRows_err _ _ x hx
    exact ⟨(h3 x hx).1, (h3 x hx).2, hf.seq, by omega, by omega, hf.num, hf.ext⟩
theorem sane_snd {m : Tb} (h : Sane m) : snd m = true := by
  unfold snd
  rw [Bool.and_eq_true, decide_eq_true_eq]
  exact ⟨by have := h.pos; omega, snd_iff.2 ⟨h.grows, fun r hr => ⟨(h.fits r hr).1, (h.fits r hr).2.1⟩⟩⟩

/-! ### A table beside a reader -/
structure Tk (TR : TypeId) (TT : Shape) (E : TypeId) (w0 W0 W : World) (q p : Nat) (v : Value) (m : Tb) (r : Rd) : Prop where
  rd : Rds TR w0 W q r
  tb : TAt W0.heap.size TT E W p v m
  only : State.Only (· = q) W0 W
  lq : q < W0.heap.size
section
variable {TR : TypeId} {TT : Shape} {E : TypeId} {w0 W0 W W' : World} {q p : Nat} {v : Value} {m m' : Tb} {r r' : Rd}
theorem only_b {S : Nat → Prop} (h : State.Only S W W') : Blocks.Only S W W' := ⟨h.os, h.tape, h.output, h.size, h.block⟩
theorem only_s {S : Nat → Prop} (h : Blocks.Only S W W') : State.Only S W W' := ⟨h.os, h.tape, h.output, h.size, h.block⟩
/-- A call on the reader. -/
theorem Tk.ran (d : Tk TR TT E w0 W0 W q p v m r) (hr : Rds TR w0 W' q r') (ho : State.Only (· = q) W W') : Tk TR TT E w0 W0 W' q p v m r' := by
  have lq := d.lq
  exact ⟨hr, d.tb.keep (only_b ho) fun g hg e => by have := (d.tb.mine_lt hg).1; omega, d.only.trans ho, lq⟩
/-- The table is changed. -/
theorem Tk.left (d : Tk TR TT E w0 W0 W q p v m r) (k : LeftT W0.heap.size TT E W p v m' W') : ∃ v', Tk TR TT E w0 W0 W' q p v' m' r := by
  have lq := d.lq
  have hmine := fun g => d.tb.mine_lt (g := g)
  obtain ⟨v', ht, o, f⟩ := k
  have hsz := d.only.size
  refine ⟨v', ⟨⟨d.rd.at_.keep (only_s o) fun e => by have := (hmine q e).1; omega, d.rd.low, d.rd.bel.trans (o.below d.rd.bel.size fun g hg => ?_)⟩, ht, ?_, lq⟩⟩
  · have := (hmine g hg).1
    have := d.rd.low
    omega
  · exact ⟨o.os.trans d.only.os, o.tape.trans d.only.tape, o.output.trans d.only.output, Nat.le_trans hsz o.size, fun k hk hn => (o.block k (by omega) fun e => by have := (hmine k e).1; omega).trans (d.only.block k hk hn)⟩
theorem Tk.below (d : Tk TR TT E w0 W0 W q p v m r) (k : Below W.heap.size W W') : Tk TR TT E w0 W0 W' q p v m r :=
  ⟨d.rd.below k, d.tb.below k, d.only.trans (State.Only.of_below k), d.lq⟩
end
abbrev Tp (w0 W0 W : World) (q p : Nat) (v : Value) (m : Tb) (r : Rd) : Prop := Tk 131 ⟨118, []⟩ 63 w0 W0 W q p v m r
abbrev Tm (w0 W0 W : World) (q p : Nat) (v : Value) (m : Tb) (r : Rd) : Prop := Tk 95 ⟨56, []⟩ 125 w0 W0 W q p v m r
end Go.Proofs.YthaepkpmpnofgaaGreat.RdT
