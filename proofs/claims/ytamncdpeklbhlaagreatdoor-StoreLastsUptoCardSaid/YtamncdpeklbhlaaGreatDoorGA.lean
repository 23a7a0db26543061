/- What the document's New leaves, walked. -/
import Derived.Test.YtamncdpeklbhlaaGreatDoorRows
import Derived.Test.YtamncdpeklbhlaaGreatDoorOnly
import Derived.Test.YtamncdpeklbhlaaGreatDoorRlog
import Derived.WalkKit
import Derived.Deep.RegionLaw
import Derived.Test.YtamncdpeklbhlaaGreatDoorKit
import Derived.Test.YtamncdpeklbhlaaGreatDoorQuorum
import Derived.Laws.BitsAll
import Derived.Deep.QuietTactic
import Derived.BigQuiet
import Derived.BigRegion
import Derived.WalkSpells
import Derived.IntWalk
import Derived.LoopTactic
import Derived.Outline
import Derived.Test.YtamncdpeklbhlaaGreatDoorPckWalkH
import Derived.Deep.RegionHeld3
import Derived.Lib.SliceRun
namespace Go.Proofs.YtamncdpeklbhlaaGreatDoor.Ents
open Go.RowKit Go.Proofs.YtamncdpeklbhlaaGreatDoor.Kit Go.Proofs.YtamncdpeklbhlaaGreatDoor.Blocks Go.Proofs.YtamncdpeklbhlaaGreatDoor.Rlog

def entCs (e : Ent) : List Value := [.int .u64 (e.term : Int), .int .u64 (e.idx : Int), .int .i64 e.kind, .string e.data]
def ecells (l : List Ent) : List Value := l.flatMap entCs
theorem ecells_nil : ecells [] = [] := rfl
theorem ecells_cons (e : Ent) (l : List Ent) : ecells (e :: l) = entCs e ++ ecells l := rfl
theorem ecells_append (l r : List Ent) : ecells (l ++ r) = ecells l ++ ecells r := by simp [ecells]
theorem ecells_one_ent (e : Ent) : ecells [e] = entCs e := by simp [ecells]
theorem ecells_length (l : List Ent) : (ecells l).length = l.length * 4 := by
  induction l with
  | nil => rfl
  | cons e l ih => rw [ecells_cons, List.length_append, ih]; simp [entCs]; omega
theorem ecells_take (l : List Ent) (k : Nat) : ecells (l.take k) = (ecells l).take (k * 4) := by
  induction l generalizing k with
  | nil => simp [ecells]
  | cons e l ih =>
    cases k with
    | zero => simp [ecells]
    | succ k =>
      rw [List.take_succ_cons, ecells_cons, ecells_cons, ih, List.take_append, List.take_of_length_le (l := entCs e) (by show 4 ≤ _; omega)]
      show _ = _ ++ List.take ((k + 1) * 4 - 4) _
      rw [show (k + 1) * 4 - 4 = k * 4 by omega]
theorem ecells_drop (l : List Ent) (k : Nat) : ecells (l.drop k) = (ecells l).drop (k * 4) := by
  induction l generalizing k with
  | nil => simp [ecells]
  | cons e l ih =>
    cases k with
    | zero => simp
    | succ k =>
      rw [List.drop_succ_cons, ecells_cons, ih, List.drop_append, List.drop_of_length_le (l := entCs e) (by show 4 ≤ _; omega), List.nil_append]
      show _ = List.drop ((k + 1) * 4 - 4) _
      rw [show (k + 1) * 4 - 4 = k * 4 by omega]
theorem ecells_get (l : List Ent) (k j : Nat) (e : Ent) (h : l[k]? = some e) (hj : j < 4) : (ecells l)[k * 4 + j]? = (entCs e)[j]? := by
  obtain ⟨hk, rfl⟩ := List.getElem?_eq_some_iff.1 h
  have h1 : (ecells (l.drop k))[j]? = (ecells l)[k * 4 + j]? := by rw [ecells_drop, List.getElem?_drop]
  rw [← h1, List.drop_eq_getElem_cons hk, ecells_cons, List.getElem?_append_left (by show j < 4; exact hj)]
theorem entCs_one (e : Ent) : ∀ u ∈ entCs e, u.oneCell' = true := by
  intro u hu
  simp only [entCs, List.mem_cons, List.not_mem_nil, or_false] at hu
  rcases hu with rfl | rfl | rfl | rfl <;> rfl
theorem ecells_one (l : List Ent) : ∀ u ∈ ecells l, u.oneCell' = true := by
  intro u hu
  obtain ⟨e, _, he⟩ := List.mem_flatMap.1 hu
  exact entCs_one e u he

/-- The slice with address A and n elements holds these entries. -/
abbrev RE (w : World) (B : Nat) (A : Option Addr) (n : Nat) (l : List Ent) : Prop := Reads w B 4 A n (ecells l)
/-- An entry lies at these four cells. -/
structure Four (w : World) (b o : Nat) (e : Ent) : Prop where
  c0 : w.cell? ⟨b, o, none⟩ = some (.int .u64 (e.term : Int))
  c1 : w.cell? ⟨b, o + 1, none⟩ = some (.int .u64 (e.idx : Int))
  c2 : w.cell? ⟨b, o + 2, none⟩ = some (.int .i64 e.kind)
  c3 : w.cell? ⟨b, o + 3, none⟩ = some (.string e.data)
/-- s[k:..]: where it points. -/
def cut4 (A : Option Addr) (c k : Nat) : Option Addr := if c = k then A else A.map (·.add (k * 4))

section
variable {w w' : World} {B n : Nat} {A : Option Addr} {l : List Ent}
theorem RE.len (h : RE w B A n l) : l.length = n := by have := h.1; rw [ecells_length] at this; omega
theorem RE.spot {ad : Addr} (h : RE w B (some ad) n l) (hn : 0 < n) : ad = ⟨ad.block, ad.off, none⟩ := by
  obtain ⟨ad', e, _, hc⟩ := h.2 hn
  cases e
  have hl := RE.len h
  have h0 := hc 0 _ (by rw [ecells_get l 0 0 l[0] (List.getElem?_eq_getElem (by omega)) (by omega)]; rfl)
  rw [add_zero] at h0
  have hs := World.cell?_spot h0
  obtain ⟨b, o, s⟩ := ad
  have : s = none := hs
  subst this
  rfl
theorem RE.at_ (h : RE w B A n l) {k : Nat} (hk : k < n) : ∃ b o e, A = some ⟨b, o, none⟩ ∧ b < B ∧ l[k]? = some e ∧ Four w b (o + k * 4) e := by
  obtain ⟨ad, rfl, hb, hc⟩ := h.2 (by omega)
  have hsp := RE.spot h (by omega)
  have hl := RE.len h
  have he : l[k]? = some l[k] := List.getElem?_eq_getElem (by omega)
  have hj : ∀ j u, j < 4 → (entCs l[k])[j]? = some u → w.cell? ⟨ad.block, ad.off + (k * 4 + j), none⟩ = some u := fun j u hj hu => by
    have := hc (k * 4 + j) u (by rw [ecells_get l k j _ he hj, hu])
    rw [hsp, Addr.add_lit] at this
    exact this
  refine ⟨ad.block, ad.off, l[k], by rw [← hsp], hb, he, ?_, ?_, ?_, ?_⟩
  · exact hj 0 _ (by omega) rfl
  · exact hj 1 _ (by omega) rfl
  · exact hj 2 _ (by omega) rfl
  · exact hj 3 _ (by omega) rfl
theorem cut4_zero (A : Option Addr) (c : Nat) : cut4 A c 0 = A := by
  unfold cut4
  split
  · rfl
  · cases A <;> simp [add_zero]
theorem RE.part (h : RE w B A n l) {k m cap : Nat} (hk : k ≤ m) (hm : m ≤ n) (hc : n ≤ cap) : RE w B (cut4 A cap k) (m - k) ((l.take m).drop k) := by
  have hl := RE.len h
  refine ⟨by rw [ecells_length]; simp only [List.length_drop, List.length_take]; omega, fun hn => ?_⟩
  obtain ⟨ad, rfl, hb, hcell⟩ := h.2 (by omega)
  unfold cut4
  rw [if_neg (by omega)]
  refine ⟨ad.add (k * 4), rfl, by rw [block_of_add]; exact hb, fun j u hu => ?_⟩
  rw [add_of_add]
  refine hcell _ u ?_
  rw [ecells_drop, ecells_take, List.getElem?_drop, List.getElem?_take] at hu
  split at hu
  · exact hu
  · cases hu
theorem RE.from_ (h : RE w B A n l) {k cap : Nat} (hk : k ≤ n) (hc : n ≤ cap) : RE w B (cut4 A cap k) (n - k) (l.drop k) := by
  have := RE.part h (k := k) (m := n) hk (Nat.le_refl _) hc
  rwa [List.take_of_length_le (by have := RE.len h; omega)] at this
theorem RE.first (h : RE w B A n l) {m : Nat} (hm : m ≤ n) : RE w B A m (l.take m) := by
  have := RE.part h (k := 0) (m := m) (cap := n) (Nat.zero_le _) hm (Nat.le_refl _)
  simpa [cut4_zero] using this
theorem RE.nil (w : World) (B : Nat) (A : Option Addr) : RE w B A 0 [] := ⟨rfl, fun h => absurd h (by omega)⟩
/-- A shorter slice of what is owned. -/
theorem own_take {base c k : Nat} {e : TypeId} (h : w.ownsRow base e 4 (.slice A n c) n (ecells l)) (hk : k ≤ n) : w.ownsRow base e 4 (.slice A k c) k (ecells (l.take k)) := by
  refine ⟨by rw [ecells_take, List.length_take, h.1]; omega, ?_⟩
  rcases h.2 with ⟨hv, hn⟩ | ⟨g, cap, cur, hv, hb, hg, h1, h2, h3, h4⟩
  · cases hv
    exact .inl ⟨by rw [show k = 0 by omega], by omega⟩
  · injection hv with hA _ hc
    subst hA hc
    refine .inr ⟨g, c, cur, rfl, hb, hg, by omega, h2, h3, ?_⟩
    rw [ecells_take, ← h4, List.take_take]
    congr 1
    omega
end

section
variable {P : Program}
theorem run_from4 (t e : TypeId) (ht : P.underlying t = some (.slice e)) (hz : ∀ w, (Go.sizeOf e).run P w = .ok 4 w) (A : Option Addr) (n c k : Nat) (hk : k ≤ n) (w : World) :
    (Instr.slice t (.slice A n c) (some (.int .i64 (k : Int))) none none).run P w = .ok (.slice (cut4 A c k) (n - k) (c - k)) w := by
  have ht' : P.underlying t = some (.slice (P.elem t)) := by simp [Program.elem, ht]
  have he : P.elem t = e := by simp [Program.elem, ht]
  rw [run_slice_l w t _ _ _ ht' .i64 _ (by omega) (by omega), he, hz]
  simp [Result.andThen, sliced, cut4]
theorem run_part4 (t e : TypeId) (ht : P.underlying t = some (.slice e)) (hz : ∀ w, (Go.sizeOf e).run P w = .ok 4 w) (A : Option Addr) (n c j k : Nat) (hj : j ≤ k) (hk : k ≤ c) (w : World) :
    (Instr.slice t (.slice A n c) (some (.int .i64 (j : Int))) (some (.int .i64 (k : Int))) none).run P w = .ok (.slice (cut4 A c j) (k - j) (c - j)) w := by
  have ht' : P.underlying t = some (.slice (P.elem t)) := by simp [Program.elem, ht]
  have he : P.elem t = e := by simp [Program.elem, ht]
  rw [run_slice_lh w t _ _ _ ht' .i64 .i64 _ _ (by omega) (by omega) (by omega), he, hz]
  simp [Result.andThen, sliced, cut4]
end
theorem sz4 (w : World) : (Go.sizeOf 83).run Tryz.prog w = .ok 4 w := by kernel_rfl
theorem infoE : (Tryz.prog.info? 83).map (fun i => (i.zero, i.size, i.bytes)) = some (some (.agg #[.int .u64 0, .int .u64 0, .int .i64 0, .string .empty]), 4, 40) := by kernel_rfl
end Go.Proofs.YtamncdpeklbhlaaGreatDoor.Ents
namespace Go.Proofs.YtamncdpeklbhlaaGreatDoor.LogAt
open Go.RowKit Go.Proofs.YtamncdpeklbhlaaGreatDoor.Kit Go.Proofs.YtamncdpeklbhlaaGreatDoor.Blocks Go.Proofs.YtamncdpeklbhlaaGreatDoor.Rlog Go.Proofs.YtamncdpeklbhlaaGreatDoor.Ents

/-- Block p, of type T, is a log: g; its entries' slice is v; both lie from block B on. -/
structure LogAt (T : TypeId) (B : Nat) (w : World) (p : Nat) (v : Value) (g : G) : Prop where
  low : B ≤ p
  cell : w.heap[p]? = some (.cells #[.int .u64 (g.snap.idx : Int), .int .u64 (g.snap.term : Int), .int .u64 (g.snap.cfg : Int), .string g.snap.data, v] T (0, 0))
  own : w.ownsRow B 83 4 v g.es.length (ecells g.es)
  ne : v.ownBlock ≠ some p
/-- The blocks of a log. -/
def Foot (p : Nat) (v : Value) (k : Nat) : Prop := k = p ∨ v.ownBlock = some k
/-- What a call that changes a log leaves. -/
def LeftL (T : TypeId) (B : Nat) (w : World) (p : Nat) (v : Value) (g' : G) (w' : World) : Prop :=
  ∃ v', LogAt T B w' p v' g' ∧ Only (Foot p v) w w' ∧ ∀ k, v'.ownBlock = some k → v.ownBlock = some k ∨ w.heap.size ≤ k

section
variable {T : TypeId} {B : Nat} {w w' w1 : World} {p : Nat} {v v1 : Value} {g g' g'' : G}
theorem LogAt.lt (h : LogAt T B w p v g) : p < w.heap.size := lt_at h.cell
theorem LogAt.base (h : LogAt T B w p v g) : B ≤ w.heap.size := by have := h.lt; have := h.low; omega
theorem LogAt.c0 (h : LogAt T B w p v g) : w.cell? ⟨p, 0, none⟩ = some (.int .u64 (g.snap.idx : Int)) := by rw [cell_at h.cell]; rfl
theorem LogAt.c1 (h : LogAt T B w p v g) : w.cell? ⟨p, 1, none⟩ = some (.int .u64 (g.snap.term : Int)) := by rw [cell_at h.cell]; rfl
theorem LogAt.c2 (h : LogAt T B w p v g) : w.cell? ⟨p, 2, none⟩ = some (.int .u64 (g.snap.cfg : Int)) := by rw [cell_at h.cell]; rfl
theorem LogAt.c3 (h : LogAt T B w p v g) : w.cell? ⟨p, 3, none⟩ = some (.string g.snap.data) := by rw [cell_at h.cell]; rfl
theorem LogAt.c4 (h : LogAt T B w p v g) : w.cell? ⟨p, 4, none⟩ = some v := by rw [cell_at h.cell]; rfl
theorem LogAt.row_lt (h : LogAt T B w p v g) {k : Nat} (hk : v.ownBlock = some k) : B ≤ k ∧ k < w.heap.size := h.own.lt k hk
theorem LogAt.foot_lt (h : LogAt T B w p v g) {k : Nat} (hk : Foot p v k) : B ≤ k ∧ k < w.heap.size := by
  rcases hk with rfl | hk
  · exact ⟨h.low, h.lt⟩
  · exact h.row_lt hk
/-- Its slice. -/
theorem LogAt.form (h : LogAt T B w p v g) : ∃ A c, v = .slice A g.es.length c ∧ g.es.length ≤ c ∧ c ≤ 9223372036854775807 ∧ RE w w.heap.size A g.es.length g.es := by
  obtain ⟨A, c, hv, h1, h2, h3⟩ := own_form h.own
  unfold maxLen at h2
  exact ⟨A, c, hv, h1, by omega, h3⟩
/-- A log stays where its blocks do. -/
theorem LogAt.keep (h : LogAt T B w p v g) {S : Nat → Prop} (k : Only S w w') (hs : ∀ q, Foot p v q → ¬ S q) : LogAt T B w' p v g :=
  ⟨h.low, k.heap h.cell (hs p (.inl rfl)), k.own h.own fun q hq => hs q (.inr hq), h.ne⟩
theorem LogAt.below (h : LogAt T B w p v g) (k : Below w.heap.size w w') : LogAt T B w' p v g := h.keep (S := fun _ => False) (Only.of_below k) (by simp)
theorem LogAt.drew (h : LogAt T B w p v g) : LogAt T B w.drew p v g := h.below ((Below.refl _ _).drew)
theorem LogAt.lower (h : LogAt T B w p v g) {B' : Nat} (hb : B' ≤ B) : LogAt T B' w p v g := ⟨Nat.le_trans hb h.low, h.cell, own_base h.own hb, h.ne⟩
/-- Other entries are laid behind a log's snapshot. -/
theorem LogAt.rowed (h : LogAt T B w p v g) {n : Nat} {xs : List Value} {es : List Ent} (k : Only (fun q => v.ownBlock = some q) w w1) (hown : w1.ownsRow B 83 4 v1 n xs) (hn : n = es.length) (hx : xs = ecells es)
    (hat : ∀ q, v1.ownBlock = some q → v.ownBlock = some q ∨ w.heap.size ≤ q) :
    w1.cell? ⟨p, 4, none⟩ = some v ∧ w1.frozen? ⟨p, 4, none⟩ = false ∧ LeftL T B w p v { g with es := es } (w1.setCell ⟨p, 4, none⟩ v1) := by
  subst hn hx
  have hc := k.heap h.cell h.ne
  have hne : v1.ownBlock ≠ some p := fun e => by
    rcases hat p e with e1 | e1
    · exact h.ne e1
    · have := h.lt; omega
  have hset : Only (fun q => q = p) w1 (w1.setCell ⟨p, 4, none⟩ v1) := (Only.refl (fun q => q = p) w1).setCell (a := ⟨p, 4, none⟩) (.inr rfl) v1
  refine ⟨by rw [cell_at hc]; rfl, free_at hc 4, v1, ⟨h.low, by rw [set_at hc]; rfl, hset.own hown fun q hq e => hne (e ▸ hq), hne⟩, ?_, hat⟩
  exact (k.mono fun q _ hq => .inr hq).trans (hset.mono fun q _ hq => .inl hq)
/-- Another snapshot is laid upto of a log's entries. -/
theorem LogAt.snapped (h : LogAt T B w p v g) (s : Snap) :
    LeftL T B w p v { g with snap := s } ((((w.setCell ⟨p, 0, none⟩ (.int .u64 (s.idx : Int))).setCell ⟨p, 1, none⟩ (.int .u64 (s.term : Int))).setCell ⟨p, 2, none⟩ (.int .u64 (s.cfg : Int))).setCell ⟨p, 3, none⟩ (.string s.data)) := by
  have hk : Only (fun q => q = p) w ((((w.setCell ⟨p, 0, none⟩ (.int .u64 (s.idx : Int))).setCell ⟨p, 1, none⟩ (.int .u64 (s.term : Int))).setCell ⟨p, 2, none⟩ (.int .u64 (s.cfg : Int))).setCell ⟨p, 3, none⟩ (.string s.data)) :=
    ((((Only.refl (fun q => q = p) w).setCell (a := ⟨p, 0, none⟩) (.inr rfl) _).setCell (a := ⟨p, 1, none⟩) (.inr rfl) _).setCell (a := ⟨p, 2, none⟩) (.inr rfl) _).setCell (a := ⟨p, 3, none⟩) (.inr rfl) _
  refine ⟨v, ⟨h.low, ?_, hk.own h.own fun q hq e => h.ne (e ▸ hq), h.ne⟩, hk.mono fun q _ hq => .inl hq, fun q hq => .inl hq⟩
  rw [set_at (set_at (set_at (set_at h.cell _) _) _) _]
  rfl
theorem LeftL.refl (h : LogAt T B w p v g) : LeftL T B w p v g w := ⟨v, h, Only.refl _ w, fun _ hk => .inl hk⟩
theorem LeftL.of_below (h : LogAt T B w p v g) (k : Below w.heap.size w w') : LeftL T B w p v g w' := ⟨v, h.below k, Only.of_below k, fun _ hk => .inl hk⟩
/-- A call behind a call. -/
theorem LeftL.then {v' : Value} (k1 : Only (Foot p v) w w1) (hf : ∀ k, v'.ownBlock = some k → v.ownBlock = some k ∨ w.heap.size ≤ k) (k2 : LeftL T B w1 p v' g'' w') : LeftL T B w p v g'' w' := by
  obtain ⟨v2, h2, o2, f2⟩ := k2
  refine ⟨v2, h2, k1.trans' o2 fun q hq => ?_, fun q hq => ?_⟩
  · rcases hq with rfl | hq
    · exact .inl (.inl rfl)
    · exact (hf q hq).imp .inr id
  · rcases f2 q hq with h | h
    · exact hf q h
    · exact .inr (Nat.le_trans k1.size h)
theorem LeftL.afterBelow (k1 : Below w.heap.size w w1) (k2 : LeftL T B w1 p v g'' w') : LeftL T B w p v g'' w' :=
  LeftL.then (Only.of_below k1) (fun _ h => .inl h) k2
theorem LeftL.thenBelow (k1 : LeftL T B w p v g w1) (k2 : Below w1.heap.size w1 w') : LeftL T B w p v g w' := by
  obtain ⟨v1, h1, o1, f1⟩ := k1
  exact ⟨v1, h1.below k2, o1.thenBelow k2, f1⟩
/-- A block of the call's own is written behind that. -/
theorem LeftL.boxed {w2 w3 w4 : World} (h : LogAt T B w p v g) (hb : Below w.heap.size w w2) (k : LeftL T B w2 p v g' w3) {r : Nat} (hr0 : w.heap.size ≤ r) (hr1 : r < w2.heap.size) (o : Only (fun q => q = r) w3 w4) : LeftL T B w p v g' w4 := by
  obtain ⟨v', h', o', f'⟩ := k
  have hv : ∀ q, v'.ownBlock = some q → q ≠ r := fun q hq e => by
    rcases f' q hq with h1 | h1
    · have := (h.row_lt h1).2; omega
    · omega
  refine ⟨v', h'.keep o fun q hq e => ?_, ?_, fun q hq => ?_⟩
  · rcases hq with rfl | hq
    · have := h.lt; omega
    · exact hv q hq e
  · exact ((Only.of_below hb).trans o').trans' o fun q hq => .inr (by omega)
  · exact (f' q hq).imp id fun h1 => Nat.le_trans hb.size h1
end
/-- A slice's block is none of these. -/
def Off (S : Nat → Prop) (A : Option Addr) (n : Nat) : Prop := 0 < n → ∀ ad, A = some ad → ¬ S ad.block
theorem Off.cut {S : Nat → Prop} {A : Option Addr} {n : Nat} (h : Off S A n) (c k : Nat) : Off S (cut4 A c k) (n - k) := by
  intro hn ad e
  unfold cut4 at e
  split at e
  · exact h (by omega) ad e
  · cases A with
    | none => cases e
    | some a =>
      simp only [Option.map_some, Option.some.injEq] at e
      rw [← e, block_of_add]
      exact h (by omega) a rfl
theorem Off.reads {S : Nat → Prop} {w w' : World} {A : Option Addr} {D size n : Nat} {xs : List Value} (h : Off S A n) (k : Only S w w') (hr : Reads w D size A n xs) (hB : D ≤ w.heap.size) : Reads w' D size A n xs :=
  ⟨hr.1, fun hn => by
    obtain ⟨ad, e, hb, hc⟩ := hr.2 hn
    exact ⟨ad, e, hb, fun j u hu => (k.cell (by rw [block_of_add]; omega) (by rw [block_of_add]; exact h hn ad e)).trans (hc j u hu)⟩⟩
theorem Off.zero (S : Nat → Prop) (A : Option Addr) : Off S A 0 := fun h => absurd h (by omega)
theorem Off.more {A : Option Addr} {n a b : Nat} (h : Off (fun k => k < a) A n) (hb : b ≤ a) : Off (fun k => k < b) A n := fun hn ad e hl => h hn ad e (by omega)
/-- A row of the call's own is none that was there. -/
theorem off_own {w : World} {base n c : Nat} {e : TypeId} {A : Option Addr} {xs : List Value} (h : w.ownsRow base e 4 (.slice A n c) n xs) : Off (fun k => k < base) A n := by
  intro hn ad ha hl
  rcases h.2 with ⟨_, h0⟩ | ⟨g, cap, cur, hv, hb, _⟩
  · omega
  · injection hv with hA _ _
    rw [hA] at ha
    cases ha
    simp only at hl
    omega
theorem off_low {T : TypeId} {B p n : Nat} {v : Value} {g : G} {w : World} {A : Option Addr} {xs : List Value} (h : LogAt T B w p v g) (hr : Reads w B 4 A n xs) : Off (Foot p v) A n := by
  intro hn ad e hf
  obtain ⟨ad', e', hb, _⟩ := hr.2 hn
  rw [e] at e'
  cases e'
  have := (h.foot_lt hf).1
  omega
end Go.Proofs.YtamncdpeklbhlaaGreatDoor.LogAt
set_option linter.unusedVariables false
namespace Go.Proofs.YtamncdpeklbhlaaGreatDoor.App
open Go.RowKit Go.Proofs.YtamncdpeklbhlaaGreatDoor.Kit Go.Proofs.YtamncdpeklbhlaaGreatDoor.Blocks Go.Proofs.YtamncdpeklbhlaaGreatDoor.Rlog Go.Proofs.YtamncdpeklbhlaaGreatDoor.Ents Go.Proofs.YtamncdpeklbhlaaGreatDoor.LogAt

section
variable {B n m c : Nat} {A : Option Addr} {v : Value} {xs news : List Value}
theorem run_app (w : World) (base : Nat) (hown : w.ownsRow base 83 4 v n xs) (hr : Reads w B 4 A m news) (h1 : ∀ u ∈ news, u.oneCell' = true) (hb : (n + m) * 40 ≤ 140737488355328) (hbase : base ≤ w.heap.size) (ty : TypeId) :
    ∃ A' c' w', (Builtin.append_ #[43, 43] ty #[v, .slice A m c]).run Tryz.prog w = .ok (.slice A' (n + m) c') w' ∧ w'.ownsRow base 83 4 (.slice A' (n + m) c') (n + m) (xs ++ news) ∧ w.grownBy w' v.ownBlock ∧
      ((Value.slice A' (n + m) c').ownBlock = v.ownBlock ∨ (Value.slice A' (n + m) c').ownBlock = some w.heap.size) := by
  obtain ⟨i0, hi0, hz0, hz1, hz2⟩ := info_parts infoE
  obtain ⟨v', w', hrun, h2, h3, h4⟩ := run_append_any (P := Tryz.prog) w base 43 ty 83 i0 _ 4 40 Tryz.underlying43 hi0 hz0 hz1 hz2 rfl (by decide) v n xs hown B A m c news hr h1 (by unfold maxLen; omega) hb hbase
  obtain ⟨A', c', rfl, _, _, _⟩ := own_form h2
  exact ⟨A', c', w', hrun, h2, h3, h4⟩
theorem wp_app {o : Oper} {a : Act} {K : Act → World → Prop} {Q : Exit → Act → World → Prop} (w : World) (s x : Operand) 
    (ho : o.op = .call { callee := .builtin .append, args := #[s, x], argTypes := #[43, 43] })
    (base : Nat) (hs : a.eval s = v) (hown : w.ownsRow base 83 4 v n xs) (hx : a.eval x = .slice A m c) (hr : Reads w B 4 A m news) (h1 : ∀ u ∈ news, u.oneCell' = true) (hb : (n + m) * 40 ≤ 140737488355328) (hbase : base ≤ w.heap.size)
    (h : ∀ A' c' w', w'.ownsRow base 83 4 (.slice A' (n + m) c') (n + m) (xs ++ news) → w.grownBy w' v.ownBlock →
      ((Value.slice A' (n + m) c').ownBlock = v.ownBlock ∨ (Value.slice A' (n + m) c').ownBlock = some w.heap.size) → K (a.put o.dst (.slice A' (n + m) c')) w') : o.wp Tryz.prog a w K Q := by
  obtain ⟨A', c', w', hrun, h2, h3, h4⟩ := run_app (c := c) w base hown hr h1 hb hbase o.type
  unfold Oper.wp execOp
  simp only [ho, resolve, invoke, builtin, Sem.run_bind, Sem.run_pure, Result.andThen_ok, List.map_toArray, List.map_cons, List.map_nil, hs, hx, hrun]
  exact h A' c' w' h2 h3 h4
theorem wpList_app {ops : Array Oper} {rest : List Oper} {o : Oper} {a : Act} {Q : Exit → Act → World → Prop} (w : World) (hgd : o.guard = none) (s x : Operand) 
    (ho : o.op = .call { callee := .builtin .append, args := #[s, x], argTypes := #[43, 43] })
    (base : Nat) (hs : a.eval s = v) (hown : w.ownsRow base 83 4 v n xs) (hx : a.eval x = .slice A m c) (hr : Reads w B 4 A m news) (h1 : ∀ u ∈ news, u.oneCell' = true) (hb : (n + m) * 40 ≤ 140737488355328) (hbase : base ≤ w.heap.size)
    (h : ∀ A' c' w', w'.ownsRow base 83 4 (.slice A' (n + m) c') (n + m) (xs ++ news) → w.grownBy w' v.ownBlock →
      ((Value.slice A' (n + m) c').ownBlock = v.ownBlock ∨ (Value.slice A' (n + m) c').ownBlock = some w.heap.size) → wpList Tryz.prog ops Q rest (a.put o.dst (.slice A' (n + m) c')) w') : wpList Tryz.prog ops Q (o :: rest) a w :=
  wpList_plain hgd fun _ hK => wp_app w s x ho base hs hown hx hr h1 hb hbase fun A' c' w' h2 h3 h4 => hK _ _ (h A' c' w' h2 h3 h4)
theorem step_app {ops : Array Oper} {o : Oper} {a : Act} {K : Act → World → Prop} {Q : Exit → Act → World → Prop} {E : Prop} (w : World) (hgd : o.guard = none) (s x : Operand) 
    (ho : o.op = .call { callee := .builtin .append, args := #[s, x], argTypes := #[43, 43] })
    (base : Nat) (hs : a.eval s = v) (hown : w.ownsRow base 83 4 v n xs) (hx : a.eval x = .slice A m c) (hr : Reads w B 4 A m news) (h1 : ∀ u ∈ news, u.oneCell' = true) (hb : (n + m) * 40 ≤ 140737488355328) (hbase : base ≤ w.heap.size)
    (h : ∀ A' c' w', w'.ownsRow base 83 4 (.slice A' (n + m) c') (n + m) (xs ++ news) → w.grownBy w' v.ownBlock →
      ((Value.slice A' (n + m) c').ownBlock = v.ownBlock ∨ (Value.slice A' (n + m) c').ownBlock = some w.heap.size) → K (a.put o.dst (.slice A' (n + m) c')) w') :
    if Region.wanted o (yielded ops a.tmps) = true then Oper.wp Tryz.prog o a w K Q else E := by
  have hw : Region.wanted o (yielded ops a.tmps) = true := by simp [Region.wanted, hgd]
  rw [if_pos hw]
  exact wp_app w s x ho base hs hown hx hr h1 hb hbase h
/-- Appended onto nothing: a new row. -/
theorem wp_new {o : Oper} {a : Act} {K : Act → World → Prop} {Q : Exit → Act → World → Prop} (w : World) (s x : Operand)
    (ho : o.op = .call { callee := .builtin .append, args := #[s, x], argTypes := #[43, 43] })
    (base : Nat) (hs : a.eval s = .slice none 0 0) (hx : a.eval x = .slice A m c) (hr : Reads w B 4 A m news) (h1 : ∀ u ∈ news, u.oneCell' = true) (hb : m * 40 ≤ 140737488355328) (hbase : base ≤ w.heap.size)
    (h : ∀ A' c' w', w'.ownsRow base 83 4 (.slice A' m c') m news → Below w.heap.size w w' → (∀ q, (Value.slice A' m c').ownBlock = some q → w.heap.size ≤ q) → K (a.put o.dst (.slice A' m c')) w') : o.wp Tryz.prog a w K Q := by
  refine wp_app (v := .slice none 0 0) (n := 0) (xs := []) w s x ho base hs (World.ownsRow_nil _ _ _ _) hx hr h1 (by omega) hbase fun A' c' w' h2 h3 h4 => ?_
  have h := h A' c' w'
  rw [Nat.zero_add] at h2 h4 ⊢
  refine h h2 ((Below.refl _ w).grown h3 (Nat.le_refl _) (by simp [Value.ownBlock])) fun q hq => ?_
  rcases h4 with e | e
  · rw [hq] at e; cases e
  · rw [hq] at e; cases e; exact Nat.le_refl _
theorem wpList_new {ops : Array Oper} {rest : List Oper} {o : Oper} {a : Act} {Q : Exit → Act → World → Prop} (w : World) (hgd : o.guard = none) (s x : Operand)
    (ho : o.op = .call { callee := .builtin .append, args := #[s, x], argTypes := #[43, 43] })
    (base : Nat) (hs : a.eval s = .slice none 0 0) (hx : a.eval x = .slice A m c) (hr : Reads w B 4 A m news) (h1 : ∀ u ∈ news, u.oneCell' = true) (hb : m * 40 ≤ 140737488355328) (hbase : base ≤ w.heap.size)
    (h : ∀ A' c' w', w'.ownsRow base 83 4 (.slice A' m c') m news → Below w.heap.size w w' → (∀ q, (Value.slice A' m c').ownBlock = some q → w.heap.size ≤ q) → wpList Tryz.prog ops Q rest (a.put o.dst (.slice A' m c')) w') : wpList Tryz.prog ops Q (o :: rest) a w :=
  wpList_plain hgd fun _ hK => wp_new w s x ho base hs hx hr h1 hb hbase fun A' c' w' h2 h3 h4 => hK _ _ (h A' c' w' h2 h3 h4)
theorem step_new {ops : Array Oper} {o : Oper} {a : Act} {K : Act → World → Prop} {Q : Exit → Act → World → Prop} {E : Prop} (w : World) (hgd : o.guard = none) (s x : Operand)
    (ho : o.op = .call { callee := .builtin .append, args := #[s, x], argTypes := #[43, 43] })
    (base : Nat) (hs : a.eval s = .slice none 0 0) (hx : a.eval x = .slice A m c) (hr : Reads w B 4 A m news) (h1 : ∀ u ∈ news, u.oneCell' = true) (hb : m * 40 ≤ 140737488355328) (hbase : base ≤ w.heap.size)
    (h : ∀ A' c' w', w'.ownsRow base 83 4 (.slice A' m c') m news → Below w.heap.size w w' → (∀ q, (Value.slice A' m c').ownBlock = some q → w.heap.size ≤ q) → K (a.put o.dst (.slice A' m c')) w') :
    if Region.wanted o (yielded ops a.tmps) = true then Oper.wp Tryz.prog o a w K Q else E := by
  have hw : Region.wanted o (yielded ops a.tmps) = true := by simp [Region.wanted, hgd]
  rw [if_pos hw]
  exact wp_new w s x ho base hs hx hr h1 hb hbase h
end
end Go.Proofs.YtamncdpeklbhlaaGreatDoor.App
namespace Go.Proofs.YtamncdpeklbhlaaGreatDoor.QuoWalkA
open Go.RowKit Go.Proofs.YtamncdpeklbhlaaGreatDoor.Kit Go.Proofs.YtamncdpeklbhlaaGreatDoor.Quorum

theorem ret_b {a b : Bool} (h : a = b) : Ending.returned (.bool a) = .returned (.bool b) := by rw [h]
theorem ret_i {a b : Int} (h : a = b) : Ending.returned (.int .i64 a) = .returned (.int .i64 b) := by rw [h]
theorem ret_u {a b : Int} (h : a = b) : Ending.returned (.int .u64 a) = .returned (.int .u64 b) := by rw [h]


theorem wrap_u64 (x : Nat) (h : x < 2 ^ 64) : IntKind.u64.wrap (x : Int) = (x : Int) := IntWalk.u64_in _ (by omega)
theorem pow_lt (i : Nat) (hi : i < 7) : 2 ^ i < 128 := Nat.pow_lt_pow_right (by decide) hi

theorem over (c d : Nat) (hc : c < 2 ^ 64) (hd : c &&& (18446744073709551615 - 127) = d) : d = 0 ↔ c < 128 := by
  have h1 : d / 2 ^ 7 = c / 2 ^ 7 := by
    rw [← hd, Nat.and_div_two_pow]
    have := Nat.and_two_pow_sub_one_eq_mod (c / 2 ^ 7) 57
    rw [Nat.mod_eq_of_lt (by omega)] at this
    exact this
  have h2 : d % 2 ^ 7 = 0 := by
    rw [← hd, Nat.and_mod_two_pow]
    exact Nat.and_zero _
  omega
set_option maxRecDepth 100000 in
theorem sound_any (c : Nat) (hc : c < 2 ^ 64) (w : World) : Calls Tryz.prog 28 #[.int .u64 (c : Int)] w fun e w' => e = .returned (.bool (sound c)) ∧ w = w' := by
  by_cases h0 : c = 0
  · subst h0
    go_enter Tryz.func28, Tryz.ntmps28
    go_wp2
    go_ret
    exact ⟨rfl, rfl⟩
  · obtain ⟨d, hd⟩ : ∃ d, c &&& (18446744073709551615 - 127) = d := ⟨_, rfl⟩
    have hb : bits .andNot .u64 (c : Int) 127 = (d : Int) := by
      have := u64_andNot_nat c 127 hc (by decide)
      rw [hd] at this
      exact this
    have ho := over c d hc hd
    have hn : ((c : Int) != 0) = true := by simp; omega
    clear hd
    by_cases h1 : d = 0
    · have HS : Hid (sound c = true) := Lib.hid (by simp [sound, ho.1 h1]; omega)
      have hb0 : bits .andNot .u64 (c : Int) 127 = 0 := by rw [hb, h1]; rfl
      clear ho hb
      go_enter Tryz.func28, Tryz.ntmps28
      go_wp2
      go_ret
      exact ⟨ret_b HS.out.symm, rfl⟩
    · have HS : Hid (sound c = false) := Lib.hid (by simp only [sound, decide_eq_false_iff_not]; intro e; exact h1 (ho.2 e.2))
      have hd0 : ((d : Int) == 0) = false := by simp; omega
      clear ho
      go_enter Tryz.func28, Tryz.ntmps28
      go_wp2
      go_ret
      exact ⟨ret_b HS.out.symm, rfl⟩
set_option maxRecDepth 100000 in
theorem rsound_any (c : Nat) (hc : c < 2 ^ 64) (w : World) : Calls Tryz.prog 32 #[.int .u64 (c : Int)] w fun e w' => e = .returned (.bool (sound c)) ∧ w = w' := by
  by_cases h0 : 0 < c
  · by_cases h1 : c < 128
    · have HS : Hid (sound c = true) := Lib.hid (by simp [sound, h0, h1])
      have h1' : decide ((c : Int) < 128) = true := decide_eq_true (by omega)
      go_enter Tryz.func32, Tryz.ntmps32
      go_wp2
      go_ret
      exact ⟨ret_b HS.out.symm, rfl⟩
    · have HS : Hid (sound c = false) := Lib.hid (by simp [sound, h1])
      have h1' : decide ((c : Int) < 128) = false := decide_eq_false (by omega)
      go_enter Tryz.func32, Tryz.ntmps32
      go_wp2
      go_ret
      exact ⟨ret_b HS.out.symm, rfl⟩
  · have HS : Hid (sound c = false) := Lib.hid (by simp [sound, h0])
    go_enter Tryz.func32, Tryz.ntmps32
    go_wp2
    go_ret
    exact ⟨ret_b HS.out.symm, rfl⟩

/-- The library's own count, step by step. -/
def s1 (x : Nat) : Nat := x / 2 &&& 6148914691236517205
def s2 (x : Nat) : Nat := x &&& 6148914691236517205
def s3 (y : Nat) : Nat := y / 4 &&& 3689348814741910323
def s4 (y : Nat) : Nat := y &&& 3689348814741910323
theorem steps : ∀ x, x < 128 → s1 x + s2 x < 256 ∧ s3 (s1 x + s2 x) + s4 (s1 x + s2 x) < 256 ∧
    (let z := s3 (s1 x + s2 x) + s4 (s1 x + s2 x); (z / 16 + z) &&& 1085102592571150095 = size x) := by decide +kernel
end Go.Proofs.YtamncdpeklbhlaaGreatDoor.QuoWalkA
namespace Go.Proofs.YtamncdpeklbhlaaGreatDoor.RlgWalkA
open Go.RowKit Go.Proofs.YtamncdpeklbhlaaGreatDoor.Kit Go.Proofs.YtamncdpeklbhlaaGreatDoor.Rlog Go.Proofs.YtamncdpeklbhlaaGreatDoor.Ents Go.Proofs.YtamncdpeklbhlaaGreatDoor.LogAt
open Go.Proofs.YtamncdpeklbhlaaGreatDoor.Num (num got front rest)
open Go.Proofs.YtamncdpeklbhlaaGreatDoor.State (WV RV)
open Go.Proofs.YtamncdpeklbhlaaGreatDoor.PckWalkC (gotB restB frontB)
open Go.Proofs.YtamncdpeklbhlaaGreatDoor.PckWalkD (badB)
open Go.Proofs.YtamncdpeklbhlaaGreatDoor.PckWalkH (str str_back)
open Go.Proofs.YtamncdpeklbhlaaGreatDoor.Quorum (sound)

theorem sound_hid {c : Nat} {b : Bool} (hc : c < 18446744073709551616) (h : Hid (sound c = b)) (w : World) : Calls Tryz.prog 28 #[.int .u64 (c : Int)] w fun e w' => e = .returned (.bool b) ∧ w = w' := by
  have := QuoWalkA.sound_any c hc w
  rwa [h.out] at this
theorem rsound_hid {c : Nat} {b : Bool} (hc : c < 18446744073709551616) (h : Hid (sound c = b)) (w : World) : Calls Tryz.prog 32 #[.int .u64 (c : Int)] w fun e w' => e = .returned (.bool b) ∧ w = w' := by
  have := QuoWalkA.rsound_any c hc w
  rwa [h.out] at this
theorem setOf_lt (d : ByteArray) : setOf d < 18446744073709551616 := Num.got_lt _

set_option maxRecDepth 100000 in
/-- The set that data says. -/
theorem set_any (d : ByteArray) (w : World) (hd : d.size ≤ 9223372036854775807) : Calls Tryz.prog 126 #[.string d] w fun e w' => e = .returned (.int .u64 (setOf d : Int)) ∧ Below w.heap.size w w' := by
  go_enter Tryz.func126, Tryz.ntmps126
  go_wp2_with fail
  refine (PckWalkD.from_any d _).mono ?_
  rintro e w1 ⟨rfl, hR, hb⟩
  go_wp2_with fail
  refine (PckWalkD.num_any _ _ _ _ hR hd).mono ?_
  rintro e w2 ⟨rfl, _, ho⟩
  go_wp2
  go_ret
  exact ⟨rfl, hb.trans (ho.below hb.size fun k hk => by rw [hk]; exact Nat.le_refl _)⟩
set_option maxRecDepth 100000 in
/-- The bytes of a number. -/
theorem config_any (c : Nat) (w : World) (hc : c < 18446744073709551616) : Calls Tryz.prog 127 #[.int .u64 (c : Int)] w fun e w' => e = .returned (.string (str (num c))) ∧ Below w.heap.size w w' := by
  have hwv : WV (w.alloc (.cells #[.slice none 0 0] 174)) w.heap.size (.slice none 0 0) [] := ⟨heap_alloc_new w _, World.ownsRow_nil _ _ _ _⟩
  have hba : Below w.heap.size w (w.alloc (.cells #[.slice none 0 0] 174)) := (Below.refl _ _).alloc (Nat.le_refl _) _
  go_enter Tryz.func127, Tryz.ntmps127
  go_wp2_with fail
  refine (PckWalkA.num_any _ _ _ c _ hwv hc (by simp)).mono ?_
  rintro e w1 ⟨rfl, v1, hwv1, hst⟩
  have hb1 := hba.trans (hst.below hba.size (Nat.le_refl _) (by rintro k hk; cases hk))
  go_wp2_with fail
  refine (PckWalkB.bytes_any _ _ _ _ hwv1).mono ?_
  rintro e w2 ⟨rfl, rfl⟩
  go_wp2
  go_ret
  exact ⟨rfl, hb1⟩

set_option maxRecDepth 100000 in
/-- Whether data says a set, the document's way. -/
theorem said_bad (d : ByteArray) (w : World) (hd : d.size ≤ 9223372036854775807) (hs : says d = false) (hb : badB d false = true) : Calls Tryz.prog 123 #[.string d] w fun e w' => e = .returned (.tuple #[.int .u64 (setOf d : Int), .bool (says d)]) ∧ Below w.heap.size w w' := by
  have hr : RV 160 (w.alloc (.cells #[.string d, .bool false] 160)) w.heap.size d false := heap_alloc_new w _
  have hba : Below w.heap.size w (w.alloc (.cells #[.string d, .bool false] 160)) := (Below.refl _ _).alloc (Nat.le_refl _) _
  rw [hs]
  have HB := Lib.hid hb
  clear hs hb
  go_enter Tryz.func123, Tryz.ntmps123
  go_wp2_with fail
  refine (PckWalkF.num_any _ d false _ hr hd).mono ?_
  rintro e w1 ⟨rfl, hr1, ho⟩
  rw [HB.out] at hr1
  have hf := hr1.flag
  have hlt := hr1.lt
  go_wp2
  go_ret2
  exact ⟨rfl, hba.trans (ho.below hba.size fun k hk => by rw [hk]; exact Nat.le_refl _)⟩
set_option maxRecDepth 100000 in
theorem said_more (d : ByteArray) (w : World) (hd : d.size ≤ 9223372036854775807) (hs : says d = false) (hb : badB d false = false) (hm : restB d ≠ ByteArray.empty) : Calls Tryz.prog 123 #[.string d] w fun e w' => e = .returned (.tuple #[.int .u64 (setOf d : Int), .bool (says d)]) ∧ Below w.heap.size w w' := by
  have hr : RV 160 (w.alloc (.cells #[.string d, .bool false] 160)) w.heap.size d false := heap_alloc_new w _
  have hba : Below w.heap.size w (w.alloc (.cells #[.string d, .bool false] 160)) := (Below.refl _ _).alloc (Nat.le_refl _) _
  rw [hs]
  have HB := Lib.hid hb
  obtain ⟨r, hre⟩ : ∃ r, restB d = r := ⟨_, rfl⟩
  rw [hre] at hm
  have HR := Lib.hid hre
  have hne : ¬ r.toList = [] := fun e => hm (by rw [Lib.toList_data] at e; exact ByteArray.ext (Array.toList_inj.1 (e.trans rfl)))
  clear hs hb hre
  go_enter Tryz.func123, Tryz.ntmps123
  go_wp2_with fail
  refine (PckWalkF.num_any _ d false _ hr hd).mono ?_
  rintro e w1 ⟨rfl, hr1, ho⟩
  rw [HB.out, HR.out] at hr1
  have hf := hr1.flag
  have hl := hr1.left
  have hlt := hr1.lt
  go_wp2
  go_ret2
  exact ⟨rfl, hba.trans (ho.below hba.size fun k hk => by rw [hk]; exact Nat.le_refl _)⟩
set_option maxRecDepth 100000 in
theorem said_all (d : ByteArray) (w : World) (hd : d.size ≤ 9223372036854775807) (hb : badB d false = false) (hm : restB d = ByteArray.empty) (hs : says d = sound (setOf d)) : Calls Tryz.prog 123 #[.string d] w fun e w' => e = .returned (.tuple #[.int .u64 (setOf d : Int), .bool (says d)]) ∧ Below w.heap.size w w' := by
  have hr : RV 160 (w.alloc (.cells #[.string d, .bool false] 160)) w.heap.size d false := heap_alloc_new w _
  have hba : Below w.heap.size w (w.alloc (.cells #[.string d, .bool false] 160)) := (Below.refl _ _).alloc (Nat.le_refl _) _
  rw [hs]
  have hlt := setOf_lt d
  have HB := Lib.hid hb
  have HR := Lib.hid hm
  have he : (ByteArray.empty.toList == []) = true := by rw [Lib.toList_data]; decide
  have he2 : ByteArray.empty.toList = [] := by rw [Lib.toList_data]; decide
  obtain ⟨b, hsb⟩ : ∃ b, sound (setOf d) = b := ⟨_, rfl⟩
  rw [hsb]
  have HS := Lib.hid hsb
  clear hs hb hm hsb
  go_enter Tryz.func123, Tryz.ntmps123
  go_wp2_with fail
  refine (PckWalkF.num_any _ d false _ hr hd).mono ?_
  rintro e w1 ⟨rfl, hr1, ho⟩
  rw [HB.out, HR.out] at hr1
  have hf := hr1.flag
  have hl := hr1.left
  have hlt1 := hr1.lt
  go_wp2_with fail
  refine (rsound_hid hlt HS _).mono ?_
  rintro e w2 ⟨rfl, rfl⟩
  go_wp2
  go_ret2
  exact ⟨rfl, hba.trans (ho.below hba.size fun k hk => by rw [hk]; exact Nat.le_refl _)⟩
theorem said_any (d : ByteArray) (w : World) (hd : d.size ≤ 9223372036854775807) : Calls Tryz.prog 123 #[.string d] w fun e w' => e = .returned (.tuple #[.int .u64 (setOf d : Int), .bool (says d)]) ∧ Below w.heap.size w w' := by
  have hi := says_iff (d := d)
  by_cases hf : frontB d = 0
  · refine said_bad d w hd ?_ (by simp [badB, hf])
    rw [Bool.eq_false_iff]
    intro h
    exact (hi.1 h).1.1 hf
  · have hb : badB d false = false := by simp [badB, hf]
    have hre : restB d = ByteArray.empty ↔ rest d.data.toList = [] := by
      unfold restB Num.rest
      have hf' : front d.data.toList ≠ 0 := hf
      rw [if_neg hf, if_neg hf']
      have hl : (d.extract (frontB d) d.size).data.toList = d.data.toList.drop (front d.data.toList) := by
        have := Lib.extract_eq d (frontB d) d.size
        rw [this]
        simp only [Lib.size_eq]
        show ((d.data.toList.drop (front d.data.toList)).take _) = _
        rw [List.take_of_length_le (by rw [List.length_drop]; exact Nat.le_refl _)]
      rw [← hl]
      constructor
      · intro h; rw [h]; rfl
      · intro h; exact ByteArray.ext (Array.toList_inj.1 h)
    by_cases hm : restB d = ByteArray.empty
    · refine said_all d w hd hb hm ?_
      rw [Bool.eq_iff_iff, hi]
      exact ⟨fun h => h.2, fun h => ⟨⟨hf, hre.1 hm⟩, h⟩⟩
    · refine said_more d w hd ?_ hb hm
      rw [Bool.eq_false_iff]
      intro h
      exact hm (hre.2 (hi.1 h).1.2)
end Go.Proofs.YtamncdpeklbhlaaGreatDoor.RlgWalkA
set_option linter.unusedVariables false
namespace Go.Proofs.YtamncdpeklbhlaaGreatDoor.RlgWalkB
open Go.RowKit Go.Proofs.YtamncdpeklbhlaaGreatDoor.Kit Go.Proofs.YtamncdpeklbhlaaGreatDoor.Rlog Go.Proofs.YtamncdpeklbhlaaGreatDoor.Ents Go.Proofs.YtamncdpeklbhlaaGreatDoor.LogAt Go.Proofs.YtamncdpeklbhlaaGreatDoor.RlgWalkA
open Go.Proofs.YtamncdpeklbhlaaGreatDoor.Num (num got front rest)
open Go.Proofs.YtamncdpeklbhlaaGreatDoor.PckWalkH (str str_back)
open Go.Proofs.YtamncdpeklbhlaaGreatDoor.Quorum (sound)

theorem u64_sub {a b : Nat} (h : b ≤ a) (ha : a < 18446744073709551616) : IntKind.u64.wrap ((a : Int) - (b : Int)) = ((a - b : Nat) : Int) := by
  rw [show (a : Int) - (b : Int) = ((a - b : Nat) : Int) by omega]
  exact IntWalk.u64_in _ (by omega)
theorem u64_pred {a : Nat} (h : a ≠ 0) (ha : a < 18446744073709551616) : IntKind.u64.wrap ((a : Int) - 1) = ((a - 1 : Nat) : Int) := u64_sub (b := 1) (by omega) ha
theorem says_no {d : ByteArray} (h : sound (setOf d) = false) : says d = false := by simp [says, h]
theorem says_str {d : ByteArray} (h : sound (setOf d) = true) : says d = decide (d.data.toList = num (setOf d)) := by simp [says, h]
/-- What an entry by value is. -/
def entV (e : Ent) : Value := .agg #[.int .u64 (e.term : Int), .int .u64 (e.idx : Int), .int .i64 e.kind, .string e.data]
/-- What a test answers. -/
def TellsB (w : World) (b : Bool) (e : Ending) (w' : World) : Prop := e = .returned (.bool b) ∧ Below w.heap.size w w'

/-- Sound, in whatever order a region carries it out. -/
abbrev QuietS (c : Nat) (b : Bool) (w : World) (k : Nat) : Prop :=
  Calls Tryz.prog 28 #[.int .u64 (c : Int)] (w.drewN k) fun e w'' => e = .returned (.bool b) ∧ ∃ m, w'' = w.drewN m
theorem quietS {c : Nat} {b : Bool} (hc : c < 18446744073709551616) (h : Hid (sound c = b)) (w : World) (k : Nat) : QuietS c b w k :=
  Calls.quiet_of_same ((sound_hid hc h (w.drewN k)).mono fun e w' ⟨he, hw⟩ => ⟨he, hw.symm⟩)
theorem below_drewN {B : Nat} {w w' : World} (h : Below B w w') (k : Nat) : Below B w (w'.drewN k) := ⟨h.os, h.tape, h.output, h.size, h.block⟩

section
variable {e : Ent} (he : EntB e) {i t : Nat} (hi : i < 18446744073709551616) (w : World)
include he
set_option maxRecDepth 100000 in
theorem lie_zero (h : e.idx = 0) : Calls Tryz.prog 119 #[entV e, .int .u64 (i : Int), .int .u64 (t : Int)] w (TellsB w false) := by
  obtain ⟨tm, ix, kd, d⟩ := e
  obtain rfl : ix = 0 := h
  unfold entV
  go_enter Tryz.func119, Tryz.ntmps119
  go_wp2
  go_ret
  exact ⟨rfl, (Below.refl _ _).alloc (Nat.le_refl _) _⟩
set_option maxRecDepth 100000 in
theorem lie_far (h : e.idx ≠ 0) (h1 : e.idx ≠ i + 1) : Calls Tryz.prog 119 #[entV e, .int .u64 (i : Int), .int .u64 (t : Int)] w (TellsB w false) := by
  have hb := he.idx
  have hw := u64_pred h hb
  have hne : (((e.idx - 1 : Nat) : Int) != (i : Int)) = true := by simp; omega
  have h0 : ((e.idx : Int) == 0) = false := by simp; omega
  obtain ⟨tm, ix, kd, d⟩ := e
  simp only at *
  obtain ⟨N, hN⟩ : ∃ N, ix - 1 = N := ⟨_, rfl⟩
  rw [hN] at hw hne
  clear h h1 hN he
  unfold entV
  go_enter Tryz.func119, Tryz.ntmps119
  go_wp2
  go_ret
  exact ⟨rfl, (Below.refl _ _).alloc (Nat.le_refl _) _⟩
set_option maxRecDepth 100000 in
theorem lie_low (h1 : e.idx = i + 1) (h2 : e.term < t) : Calls Tryz.prog 119 #[entV e, .int .u64 (i : Int), .int .u64 (t : Int)] w (TellsB w false) := by
  have hb := he.idx
  have hw := u64_pred (show e.idx ≠ 0 by omega) hb
  rw [show e.idx - 1 = i by omega] at hw
  have h0 : ((e.idx : Int) == 0) = false := by simp; omega
  obtain ⟨tm, ix, kd, d⟩ := e
  simp only at *
  clear h1 he
  unfold entV
  go_enter Tryz.func119, Tryz.ntmps119
  go_wp2
  go_ret
  exact ⟨rfl, (Below.refl _ _).alloc (Nat.le_refl _) _⟩
set_option maxRecDepth 100000 in
theorem lie_long (h1 : e.idx = i + 1) (h2 : ¬ e.term < t) (h3 : 32768 < e.data.size) : Calls Tryz.prog 119 #[entV e, .int .u64 (i : Int), .int .u64 (t : Int)] w (TellsB w false) := by
  have hb := he.idx
  have hw := u64_pred (show e.idx ≠ 0 by omega) hb
  rw [show e.idx - 1 = i by omega] at hw
  have h0 : ((e.idx : Int) == 0) = false := by simp; omega
  have h3' : (32768 : Int) < (e.data.size : Int) := by omega
  obtain ⟨tm, ix, kd, d⟩ := e
  simp only at *
  clear h1 he
  unfold entV
  go_enter Tryz.func119, Tryz.ntmps119
  go_wp2
  go_ret
  exact ⟨rfl, (Below.refl _ _).alloc (Nat.le_refl _) _⟩
set_option maxRecDepth 100000 in
theorem lie_plain (h1 : e.idx = i + 1) (h2 : ¬ e.term < t) (h3 : e.data.size ≤ 32768) (h4 : e.kind = 0 ∨ e.kind = 1) : Calls Tryz.prog 119 #[entV e, .int .u64 (i : Int), .int .u64 (t : Int)] w (TellsB w true) := by
  have hb := he.idx
  have hw := u64_pred (show e.idx ≠ 0 by omega) hb
  rw [show e.idx - 1 = i by omega] at hw
  have h0 : ((e.idx : Int) == 0) = false := by simp; omega
  have h3' : ¬ (32768 : Int) < (e.data.size : Int) := by omega
  obtain ⟨tm, ix, kd, d⟩ := e
  simp only at *
  clear h1 he
  rcases h4 with rfl | rfl
  · unfold entV
    go_enter Tryz.func119, Tryz.ntmps119
    go_wp2
    go_ret
    exact ⟨rfl, (Below.refl _ _).alloc (Nat.le_refl _) _⟩
  · unfold entV
    go_enter Tryz.func119, Tryz.ntmps119
    go_wp2
    go_ret
    exact ⟨rfl, (Below.refl _ _).alloc (Nat.le_refl _) _⟩
set_option maxRecDepth 100000 in
theorem lie_none (h1 : e.idx = i + 1) (h2 : ¬ e.term < t) (h3 : e.data.size ≤ 32768) (h4 : ¬ e.kind = 0) (h5 : ¬ e.kind = 1) (h6 : ¬ e.kind = 2) : Calls Tryz.prog 119 #[entV e, .int .u64 (i : Int), .int .u64 (t : Int)] w (TellsB w false) := by
  have hb := he.idx
  have hw := u64_pred (show e.idx ≠ 0 by omega) hb
  rw [show e.idx - 1 = i by omega] at hw
  have h0 : ((e.idx : Int) == 0) = false := by simp; omega
  have h3' : ¬ (32768 : Int) < (e.data.size : Int) := by omega
  have k0 : (e.kind == 0) = false := by simpa using h4
  have k1 : (e.kind == 1) = false := by simpa using h5
  have k2 : (e.kind == 2) = false := by simpa using h6
  obtain ⟨tm, ix, kd, d⟩ := e
  simp only at *
  clear h1 he h4 h5 h6
  unfold entV
  go_enter Tryz.func119, Tryz.ntmps119
  go_wp2
  go_ret
  exact ⟨rfl, (Below.refl _ _).alloc (Nat.le_refl _) _⟩
set_option maxRecDepth 100000 in
theorem lie_mad (h1 : e.idx = i + 1) (h2 : ¬ e.term < t) (h3 : e.data.size ≤ 32768) (h4 : e.kind = 2) (h5 : sound (setOf e.data) = false) : Calls Tryz.prog 119 #[entV e, .int .u64 (i : Int), .int .u64 (t : Int)] w (TellsB w false) := by
  have hb := he.idx
  have hw := u64_pred (show e.idx ≠ 0 by omega) hb
  rw [show e.idx - 1 = i by omega] at hw
  have h0 : ((e.idx : Int) == 0) = false := by simp; omega
  have h3' : ¬ (32768 : Int) < (e.data.size : Int) := by omega
  have hsz : e.data.size ≤ 9223372036854775807 := by omega
  obtain ⟨tm, ix, kd, d⟩ := e
  simp only at *
  subst h4
  have hlt := setOf_lt d
  have HS := Lib.hid h5
  have hset := set_any d
  obtain ⟨c, hc⟩ : ∃ c, setOf d = c := ⟨_, rfl⟩
  rw [hc] at hlt HS hset
  have HSet := Lib.hid hset
  clear h1 he h5 hc hset
  have hba : Below w.heap.size w (w.alloc (.cells #[.int .u64 (tm : Int), .int .u64 (ix : Int), .int .i64 2, .string d] 83)) := (Below.refl _ _).alloc (Nat.le_refl _) _
  have hd3 : (w.alloc (.cells #[.int .u64 (tm : Int), .int .u64 (ix : Int), .int .i64 2, .string d] 83)).cell? ⟨w.heap.size, 3, none⟩ = some (.string d) := by rw [Blocks.cell_at (heap_alloc_new w _)]; rfl
  unfold entV
  go_enter Tryz.func119, Tryz.ntmps119
  go_wp2_with fail
  refine (HSet.out _ hsz).mono ?_
  rintro e w1 ⟨rfl, hb1⟩
  have hd3' := (hb1.cell (p := ⟨w.heap.size, 3, none⟩) (by simp)).trans hd3
  go_wp2_with fail
  have C0 : Hid (∀ k, QuietS c false w1 k) := fun k => quietS hlt HS w1 k
  go_quiet ((go_at_call 28; (with_reducible exact C0.out _)))
  all_goals go_wp2
  all_goals go_ret
  all_goals exact ⟨rfl, below_drewN (hba.trans (hb1.mono hba.size)) _⟩
set_option maxRecDepth 100000 in
theorem lie_set (h1 : e.idx = i + 1) (h2 : ¬ e.term < t) (h3 : e.data.size ≤ 32768) (h4 : e.kind = 2) (h5 : sound (setOf e.data) = true) : Calls Tryz.prog 119 #[entV e, .int .u64 (i : Int), .int .u64 (t : Int)] w (TellsB w (says e.data)) := by
  have hb := he.idx
  have hw := u64_pred (show e.idx ≠ 0 by omega) hb
  rw [show e.idx - 1 = i by omega] at hw
  have h0 : ((e.idx : Int) == 0) = false := by simp; omega
  have h3' : ¬ (32768 : Int) < (e.data.size : Int) := by omega
  have hsz : e.data.size ≤ 9223372036854775807 := by omega
  obtain ⟨tm, ix, kd, d⟩ := e
  simp only at *
  subst h4
  have hlt := setOf_lt d
  have hsay := says_str h5
  have HS := Lib.hid h5
  have hset := set_any d
  obtain ⟨c, hc⟩ : ∃ c, setOf d = c := ⟨_, rfl⟩
  rw [hc] at hlt HS hset hsay
  obtain ⟨b, hbb⟩ : ∃ b, says d = b := ⟨_, rfl⟩
  obtain ⟨s, hs⟩ : ∃ s, str (num c) = s := ⟨_, rfl⟩
  have hcmp : (d.toList == s.toList) = b := by
    rw [← hbb, hsay, ← hs, Lib.toList_data, Lib.toList_data, PckWalkH.str_list, Bool.eq_iff_iff]
    simp
  have hcf := config_any c
  rw [hs] at hcf
  rw [hbb]
  have HSet := Lib.hid hset
  have HCf := Lib.hid hcf
  clear h1 he h5 hc hset hcf hsay hs hbb
  have hba : Below w.heap.size w (w.alloc (.cells #[.int .u64 (tm : Int), .int .u64 (ix : Int), .int .i64 2, .string d] 83)) := (Below.refl _ _).alloc (Nat.le_refl _) _
  have hd3 : (w.alloc (.cells #[.int .u64 (tm : Int), .int .u64 (ix : Int), .int .i64 2, .string d] 83)).cell? ⟨w.heap.size, 3, none⟩ = some (.string d) := by rw [Blocks.cell_at (heap_alloc_new w _)]; rfl
  unfold entV
  go_enter Tryz.func119, Tryz.ntmps119
  go_wp2_with fail
  refine (HSet.out _ hsz).mono ?_
  rintro e w1 ⟨rfl, hb1⟩
  have hd3' := (hb1.cell (p := ⟨w.heap.size, 3, none⟩) (by simp)).trans hd3
  have hs1 := hb1.size
  simp at hs1
  go_wp2_with fail
  go_region_held3 (fun w' => w'.cell? ⟨w.heap.size, 3, none⟩ = some (.string d))
    (first
      | exact hd3'
      | exact (hbC.cell (p := ⟨w.heap.size, 3, none⟩) (by simp; omega)).trans hd3')
    (first
      | (go_at_call 28
         refine (sound_hid hlt HS _).mono ?_
         rintro e wA ⟨rfl, rfl⟩)
      | (go_at_call 127
         refine (HCf.out _ hlt).mono ?_
         rintro e wC ⟨rfl, hbC⟩))
  all_goals go_wp2
  all_goals go_ret
  all_goals exact ⟨rfl, ((hba.trans (hb1.mono hba.size)).drew).trans (hbC.mono (by simp; omega))⟩

/-- Whether an entry may lie behind an index of a term. -/
theorem lie_any : Calls Tryz.prog 119 #[entV e, .int .u64 (i : Int), .int .u64 (t : Int)] w (TellsB w (may e i t)) := by
  have ht : ∀ b : Bool, may e i t = b → Calls Tryz.prog 119 #[entV e, .int .u64 (i : Int), .int .u64 (t : Int)] w (TellsB w b) → Calls Tryz.prog 119 #[entV e, .int .u64 (i : Int), .int .u64 (t : Int)] w (TellsB w (may e i t)) := fun b hb h => by rw [hb]; exact h
  by_cases h1 : e.idx = i + 1
  · by_cases h2 : e.term < t
    · exact ht false (by unfold may; rw [decide_eq_false (by omega)]; rfl) (lie_low he w h1 h2)
    · by_cases h3 : e.data.size ≤ 32768
      · have hm : may e i t = sortOk e := by unfold may; rw [decide_eq_true ⟨h1, by omega, h3⟩]; rfl
        by_cases k0 : e.kind = 0
        · exact ht true (by rw [hm]; simp [sortOk, k0]) (lie_plain he w h1 h2 h3 (.inl k0))
        · by_cases k1 : e.kind = 1
          · exact ht true (by rw [hm]; simp [sortOk, k1]) (lie_plain he w h1 h2 h3 (.inr k1))
          · by_cases k2 : e.kind = 2
            · have hk : sortOk e = says e.data := by simp [sortOk, k2]
              cases hs : sound (setOf e.data) with
              | false => exact ht false (by rw [hm, hk, says_no hs]) (lie_mad he w h1 h2 h3 k2 hs)
              | true => exact ht (says e.data) (by rw [hm, hk]) (lie_set he w h1 h2 h3 k2 hs)
            · exact ht false (by rw [hm]; simp [sortOk, k0, k1, k2]) (lie_none he w h1 h2 h3 k0 k1 k2)
      · exact ht false (by unfold may; rw [decide_eq_false (by omega)]; rfl) (lie_long he w h1 h2 (by omega))
  · have hm : may e i t = false := by unfold may; rw [decide_eq_false (by omega)]; rfl
    by_cases h0 : e.idx = 0
    · exact ht false hm (lie_zero he w h0)
    · exact ht false hm (lie_far he w h0 h1)

/-! ### The document's -/
set_option maxRecDepth 100000 in
theorem may_mad {q : Nat} (h4 : e.kind = 2) (h5 : says e.data = false) : Calls Tryz.prog 113 #[entV e, .int .u64 (q : Int), .int .u64 (t : Int)] w (TellsB w false) := by
  have hsz := he.size
  obtain ⟨tm, ix, kd, d⟩ := e
  simp only at *
  subst h4
  have hba : Below w.heap.size w (w.alloc (.cells #[.int .u64 (tm : Int), .int .u64 (ix : Int), .int .i64 2, .string d] 83)) := (Below.refl _ _).alloc (Nat.le_refl _) _
  have hsaid := said_any d
  rw [h5] at hsaid
  have HSd := Lib.hid hsaid
  clear hsaid h5 he
  unfold entV
  go_enter Tryz.func113, Tryz.ntmps113
  go_wp2_with fail
  refine (HSd.out _ hsz).mono ?_
  rintro e w1 ⟨rfl, hb1⟩
  go_wp2
  go_ret
  exact ⟨rfl, hba.trans (hb1.mono hba.size)⟩
set_option maxRecDepth 100000 in
/-- Its last test, at any index. -/
theorem may_test {q : Nat} (hq : q < 18446744073709551616) (b : Bool) (hk : e.kind = 2 → says e.data = true) (hb : b = (decide (0 < q) && (decide (e.idx = q) && (decide (t ≤ e.term) && (decide (0 ≤ e.kind) && (decide (e.kind ≤ 2) && decide (e.data.size ≤ 32768))))))) :
    Calls Tryz.prog 113 #[entV e, .int .u64 (q : Int), .int .u64 (t : Int)] w (TellsB w b) := by
  have hsz := he.size
  obtain ⟨tm, ix, kd, d⟩ := e
  simp only at *
  have hba : Below w.heap.size w (w.alloc (.cells #[.int .u64 (tm : Int), .int .u64 (ix : Int), .int .i64 kd, .string d] 83)) := (Below.refl _ _).alloc (Nat.le_refl _) _
  have hcell := heap_alloc_new w (.cells #[.int .u64 (tm : Int), .int .u64 (ix : Int), .int .i64 kd, .string d] 83)
  have HB := Lib.hid hb
  clear hb he
  by_cases hix : ix = q
  · subst hix
    by_cases h2 : kd = 2
    · subst h2
      have hs := hk rfl
      have hsaid := said_any d
      rw [hs] at hsaid
      have HSd := Lib.hid hsaid
      have hpl : w.heap.size < (w.alloc (.cells #[.int .u64 (tm : Int), .int .u64 (ix : Int), .int .i64 2, .string d] 83)).heap.size := by simp
      have HC := Lib.hid hcell
      clear hsaid hs hk hcell
      unfold entV
      go_enter Tryz.func113, Tryz.ntmps113
      go_wp2_with fail
      refine (HSd.out _ hsz).mono ?_
      rintro e w1 ⟨rfl, hb1⟩
      have hcell1 := (hb1.block _ hpl).trans HC.out
      have c0 : w1.cell? ⟨w.heap.size, 0, none⟩ = some (.int .u64 (tm : Int)) := by rw [Blocks.cell_at hcell1]; rfl
      have c1 : w1.cell? ⟨w.heap.size, 1, none⟩ = some (.int .u64 (ix : Int)) := by rw [Blocks.cell_at hcell1]; rfl
      have c2 : w1.cell? ⟨w.heap.size, 2, none⟩ = some (.int .i64 2) := by rw [Blocks.cell_at hcell1]; rfl
      have c3 : w1.cell? ⟨w.heap.size, 3, none⟩ = some (.string d) := by rw [Blocks.cell_at hcell1]; rfl
      have HBA := Lib.hid (hba.trans (hb1.mono hba.size))
      clear hcell1 hb1
      go_wp2
      all_goals go_ret
      all_goals refine ⟨QuoWalkA.ret_b ?_, HBA.out⟩
      all_goals rw [HB.out]
      all_goals simp [*] <;> omega
    · have k2 : (kd == 2) = false := by simpa using h2
      have HBA := Lib.hid hba
      clear h2 hk hcell
      unfold entV
      go_enter Tryz.func113, Tryz.ntmps113
      go_wp2
      all_goals go_ret
      all_goals refine ⟨QuoWalkA.ret_b ?_, HBA.out⟩
      all_goals rw [HB.out]
      all_goals simp [*] <;> omega
  · obtain rfl : b = false := by rw [HB.out]; simp [hix]
    have hne : ((ix : Int) == (q : Int)) = false := by simp; omega
    by_cases h2 : kd = 2
    · subst h2
      have hs := hk rfl
      have hsaid := said_any d
      rw [hs] at hsaid
      have HSd := Lib.hid hsaid
      have hpl : w.heap.size < (w.alloc (.cells #[.int .u64 (tm : Int), .int .u64 (ix : Int), .int .i64 2, .string d] 83)).heap.size := by simp
      have HC := Lib.hid hcell
      clear hsaid hs hk hcell
      unfold entV
      go_enter Tryz.func113, Tryz.ntmps113
      go_wp2_with fail
      refine (HSd.out _ hsz).mono ?_
      rintro e w1 ⟨rfl, hb1⟩
      have hcell1 := (hb1.block _ hpl).trans HC.out
      have c1 : w1.cell? ⟨w.heap.size, 1, none⟩ = some (.int .u64 (ix : Int)) := by rw [Blocks.cell_at hcell1]; rfl
      have HBA := Lib.hid (hba.trans (hb1.mono hba.size))
      clear hcell1 hb1
      go_wp2
      all_goals go_ret
      all_goals exact ⟨rfl, HBA.out⟩
    · have k2 : (kd == 2) = false := by simpa using h2
      have HBA := Lib.hid hba
      clear h2 hk hcell
      unfold entV
      go_enter Tryz.func113, Tryz.ntmps113
      go_wp2
      all_goals go_ret
      all_goals exact ⟨rfl, HBA.out⟩
omit he in
theorem wrap_succ (hi : i < 18446744073709551616) : IntKind.u64.wrap ((i : Int) + 1) = (((i + 1) % 18446744073709551616 : Nat) : Int) := by
  simp [IntKind.wrap, IntKind.bits, IntKind.signed]
/-- Whether an entry may lie at an index, the one behind i (which wraps), behind a term. -/
theorem rmay_any {q : Nat} (hi : i < 18446744073709551616) (hq : q = (i + 1) % 18446744073709551616) : Calls Tryz.prog 113 #[entV e, .int .u64 (q : Int), .int .u64 (t : Int)] w (TellsB w (may e i t)) := by
  have hb := he.idx
  by_cases hk : e.kind = 2 → says e.data = true
  · refine may_test he w (by omega) _ hk ?_
    unfold may
    rw [Bool.eq_iff_iff]
    simp only [Bool.and_eq_true, decide_eq_true_eq, sortOk, Bool.or_eq_true]
    by_cases h2 : e.kind = 2
    · have := hk h2
      simp only [h2, this]
      constructor
      · rintro ⟨⟨h1, h3, h4⟩, _⟩; omega
      · rintro ⟨h1, h3, h4, _, _, h5⟩; refine ⟨by omega, ?_⟩; simp
    · constructor
      · rintro ⟨⟨h1, h3, h4⟩, h5⟩
        have : e.kind = 0 ∨ e.kind = 1 := by
          rcases h5 with h | h | h
          · exact .inl h
          · exact .inr h
          · exact absurd h.1 h2
        omega
      · rintro ⟨h1, h3, h4, h5, h6, h7⟩
        refine ⟨by omega, ?_⟩
        have : e.kind = 0 ∨ e.kind = 1 := by omega
        exact this.imp id .inl
  · have h2 : e.kind = 2 := by
      rcases Classical.em (e.kind = 2) with h | h
      · exact h
      · exact absurd (fun h' => absurd h' h) hk
    have hs : says e.data = false := by
      rw [Bool.eq_false_iff]
      exact fun h => hk fun _ => h
    have hm : may e i t = false := by simp [may, sortOk, h2, hs]
    rw [hm]
    exact may_mad he w h2 hs
end
end Go.Proofs.YtamncdpeklbhlaaGreatDoor.RlgWalkB
set_option linter.unusedVariables false
namespace Go.Proofs.YtamncdpeklbhlaaGreatDoor.RlgWalkC
open Go.RowKit Go.Proofs.YtamncdpeklbhlaaGreatDoor.Kit Go.Proofs.YtamncdpeklbhlaaGreatDoor.Blocks Go.Proofs.YtamncdpeklbhlaaGreatDoor.Rlog Go.Proofs.YtamncdpeklbhlaaGreatDoor.Ents Go.Proofs.YtamncdpeklbhlaaGreatDoor.LogAt Go.Proofs.YtamncdpeklbhlaaGreatDoor.RlgWalkA Go.Proofs.YtamncdpeklbhlaaGreatDoor.RlgWalkB

theorem Four.below {w w' : World} {b o : Nat} {e : Ent} {B : Nat} (h : Four w b o e) (k : Below B w w') (hb : b < B) : Four w' b o e :=
  ⟨(k.cell (p := ⟨b, o, none⟩) hb).trans h.c0, (k.cell (p := ⟨b, o + 1, none⟩) hb).trans h.c1, (k.cell (p := ⟨b, o + 2, none⟩) hb).trans h.c2, (k.cell (p := ⟨b, o + 3, none⟩) hb).trans h.c3⟩
theorem chained_next {l : List Ent} {i t k : Nat} {e : Ent} (he : l[k]? = some e) (hf : chained (l.take k) i t = true) {I T : Nat} (hl : lasts (l.take k) i t = (I, T)) :
    chained (l.take (k + 1)) i t = may e I T ∧ lasts (l.take (k + 1)) i t = (e.idx, e.term) := by
  rw [take_snoc l k e he, follow_snoc, hf, hl, lasts_snoc]
  exact ⟨by simp, rfl⟩
theorem chained_not {l : List Ent} {i t k : Nat} (h : chained (l.take k) i t = false) : chained l i t = false := by
  rw [Bool.eq_false_iff] at h ⊢
  exact fun e => h (follow_take e k)

set_option maxRecDepth 100000 in
set_option maxHeartbeats 1000000 in
theorem chained_any (A : Option Addr) (n c : Nat) (l : List Ent) (i t : Nat) (w : World) (hr : RE w w.heap.size A n l) (hb : ∀ e ∈ l, EntB e) (h63 : n ≤ 9223372036854775807) :
    Calls Tryz.prog 107 #[.slice A n c, .int .u64 (i : Int), .int .u64 (t : Int)] w (TellsB w (chained l i t)) := by
  have hn := RE.len hr
  have HN := Lib.hid hn
  clear hn
  go_enter Tryz.func107, Tryz.ntmps107
  go_wp2
  go_loopw [1, 2, 11] (fun a b x wr => ∃ k I T : Nat, k ≤ n ∧ a = .int .u64 (I : Int) ∧ b = .int .u64 (T : Int) ∧ x = .int .i64 (k : Int) ∧ Hid (lasts (l.take k) i t = (I, T)) ∧ Hid (chained (l.take k) i t = true) ∧ Below w.heap.size w wr) (fun _ _ x _ => n - (intOf x).toNat)
  case atStart => exact ⟨0, i, t, by omega, rfl, rfl, rfl, Lib.hid rfl, Lib.hid rfl, Below.refl _ _⟩
  case round =>
    obtain ⟨k, I, T, hk, rfl, rfl, rfl, HL, HF, hbel⟩ := hrel
    by_cases hkn : k < n
    · obtain ⟨b, o, e, rfl, hbl, hek, hfour⟩ := RE.at_ hr hkn
      have hfr := Four.below hfour hbel hbl
      have c0 := hfr.c0
      have c1 := hfr.c1
      have c2 := hfr.c2
      have c3 := hfr.c3
      have hsz := hbel.size
      have he := hb e (List.mem_of_getElem? hek)
      obtain ⟨f1, f2⟩ := chained_next hek HF.out HL.out
      have hlie := fun w => lie_any (i := I) (t := T) he w
      obtain ⟨tm, ix, kd, d⟩ := e
      unfold entV at hlie
      simp only at c0 c1 c2 c3 hlie f2
      obtain ⟨r, hr1⟩ : ∃ r, may ⟨tm, ix, kd, d⟩ I T = r := ⟨_, rfl⟩
      rw [hr1] at hlie f1
      have HLie := Lib.hid hlie
      have H1 := Lib.hid f1
      have H2 := Lib.hid f2
      clear hlie f1 f2 hr1 hek hfr hfour
      have hcb : (wr.alloc (.cells #[.int .u64 (tm : Int), .int .u64 (ix : Int), .int .i64 kd, .string d] 83)).heap[wr.heap.size]? = some (.cells #[.int .u64 (tm : Int), .int .u64 (ix : Int), .int .i64 kd, .string d] 83 (0, 0)) := heap_alloc_new wr _
      have HCB := Lib.hid hcb
      clear hcb
      cases r with
      | false =>
        go_wp2_with fail
        refine (HLie.out _).mono ?_
        rintro e' w1 ⟨rfl, hb1⟩
        have hfl : chained l i t = false := chained_not H1.out
        have HFL := Lib.hid hfl
        clear hfl
        go_wp2
        go_ret
        exact ⟨by rw [HFL.out]; rfl, (hbel.alloc hsz _).trans (hb1.mono (by simp; omega))⟩
      | true =>
        go_wp2_with fail
        refine (HLie.out _).mono ?_
        rintro e' w1 ⟨rfl, hb1⟩
        have hc1 := (hb1.block wr.heap.size (by simp)).trans HCB.out
        have d0 : w1.cell? ⟨wr.heap.size, 0, none⟩ = some (.int .u64 (tm : Int)) := by rw [cell_at hc1]; rfl
        have d1 : w1.cell? ⟨wr.heap.size, 1, none⟩ = some (.int .u64 (ix : Int)) := by rw [cell_at hc1]; rfl
        have hB1 : Below w.heap.size w w1 := (hbel.alloc hsz _).trans (hb1.mono (by simp; omega))
        clear hb1 hc1 c0 c1 c2 c3
        go_wp2_with fail
        go_quiet (fail)
        all_goals go_wp2
        all_goals
          go_roundw
          case rel => exact ⟨k + 1, ix, tm, by omega, rfl, rfl, by go_num, H2, H1, below_drewN hB1 _⟩
          case measure => simp [intOf]; omega
    · obtain rfl : k = n := by omega
      have hfl : chained l i t = true := by
        have := HF.out
        rwa [List.take_of_length_le (by rw [HN.out]; exact Nat.le_refl _)] at this
      have HFL := Lib.hid hfl
      clear hfl
      go_wp2
      go_ret
      exact ⟨by rw [HFL.out]; rfl, hbel⟩
end Go.Proofs.YtamncdpeklbhlaaGreatDoor.RlgWalkC
set_option linter.unusedVariables false
namespace Go.Proofs.YtamncdpeklbhlaaGreatDoor.RlgWalkD
open Go.RowKit Go.Proofs.YtamncdpeklbhlaaGreatDoor.Kit Go.Proofs.YtamncdpeklbhlaaGreatDoor.Blocks Go.Proofs.YtamncdpeklbhlaaGreatDoor.Rlog Go.Proofs.YtamncdpeklbhlaaGreatDoor.Ents Go.Proofs.YtamncdpeklbhlaaGreatDoor.LogAt Go.Proofs.YtamncdpeklbhlaaGreatDoor.App Go.Proofs.YtamncdpeklbhlaaGreatDoor.RlgWalkA Go.Proofs.YtamncdpeklbhlaaGreatDoor.RlgWalkB Go.Proofs.YtamncdpeklbhlaaGreatDoor.RlgWalkC
open Go.Proofs.YtamncdpeklbhlaaGreatDoor.Quorum (sound)

/-- What a snapshot by value is. -/
def snapV (s : Snap) : Value := .agg #[.int .u64 (s.idx : Int), .int .u64 (s.term : Int), .int .u64 (s.cfg : Int), .string s.data]
/-- A refusal of New. -/
def NoLog (w : World) (e : Ending) (w' : World) : Prop := e = .returned (.tuple #[.pointer none, .int .i64 1]) ∧ Below w.heap.size w w'
/-- A new log. -/
def NewLog (T : TypeId) (w : World) (g : G) (e : Ending) (w' : World) : Prop :=
  ∃ p v, e = .returned (.tuple #[.pointer (some ⟨p, 0, none⟩), .int .i64 0]) ∧ LogAt T w.heap.size w' p v g ∧ Below w.heap.size w w'

/-- A block is laid for a new log, its entries' row lying already. -/
theorem new_log {T : TypeId} {w w2 w3 : World} {n c' : Nat} {A' : Option Addr} {l : List Ent} {ix tm cf : Nat} {d : ByteArray} (hB : Below w.heap.size w w2) (hb : Below w2.drew.heap.size w2.drew w3)
    (hown : w3.ownsRow w.heap.size 83 4 (.slice A' n c') n (ecells l)) (HN : Hid (l.length = n)) :
    LogAt T w.heap.size (w3.alloc (.cells #[.int .u64 (ix : Int), .int .u64 (tm : Int), .int .u64 (cf : Int), .string d, .slice A' n c'] T)) w3.heap.size (.slice A' n c') ⟨⟨ix, tm, cf, d⟩, l⟩ ∧
      Below w.heap.size w (w3.alloc (.cells #[.int .u64 (ix : Int), .int .u64 (tm : Int), .int .u64 (cf : Int), .string d, .slice A' n c'] T)) := by
  have hB3 : Below w.heap.size w w3 := hB.drew.trans (hb.mono hB.size)
  have hn := HN.out
  subst hn
  refine ⟨⟨hB3.size, heap_alloc_new w3 _, (Only.refl (fun _ => False) w3 |>.alloc _).own hown (by simp), fun e => ?_⟩, hB3.alloc hB3.size _⟩
  have := (hown.lt _ e).2
  omega

section
variable {s : Snap} (hs : SnapB s) (A : Option Addr) (n c : Nat) (l : List Ent) (w : World) (hr : RE w w.heap.size A n l) (hb : ∀ e ∈ l, EntB e)
include hs hr hb

omit hr hb in
set_option maxRecDepth 100000 in
theorem new_mad (h : sound s.cfg = false) : Calls Tryz.prog 77 #[snapV s, .slice A n c] w (NoLog w) := by
  have hcf := hs.cfg
  obtain ⟨ix, tm, cf, d⟩ := s
  simp only at *
  have HS := Lib.hid h
  clear h hs
  have hba : Below w.heap.size w (w.alloc (.cells #[.int .u64 (ix : Int), .int .u64 (tm : Int), .int .u64 (cf : Int), .string d] 42)) := (Below.refl _ _).alloc (Nat.le_refl _) _
  unfold snapV
  go_enter Tryz.func77, Tryz.ntmps77
  go_wp2_with fail
  refine (sound_hid hcf HS _).mono ?_
  rintro e w1 ⟨rfl, rfl⟩
  go_wp2
  go_ret2
  exact ⟨rfl, hba⟩
set_option maxRecDepth 100000 in
theorem new_loose (h63 : n ≤ 9223372036854775807) (h : sound s.cfg = true) (h2 : chained l s.idx s.term = false) : Calls Tryz.prog 77 #[snapV s, .slice A n c] w (NoLog w) := by
  have hcf := hs.cfg
  obtain ⟨ix, tm, cf, d⟩ := s
  simp only at *
  have HS := Lib.hid h
  clear h hs
  have hba : Below w.heap.size w (w.alloc (.cells #[.int .u64 (ix : Int), .int .u64 (tm : Int), .int .u64 (cf : Int), .string d] 42)) := (Below.refl _ _).alloc (Nat.le_refl _) _
  have hch := chained_any A n c l ix tm _ ((Kit.Reads.below hr hba).more hba.size) hb h63
  rw [h2] at hch
  have HCh := Lib.hid hch
  clear hch h2
  unfold snapV
  go_enter Tryz.func77, Tryz.ntmps77
  go_wp2_with fail
  refine (sound_hid hcf HS _).mono ?_
  rintro e w1 ⟨rfl, rfl⟩
  go_wp2_with fail
  refine HCh.out.mono ?_
  rintro e w2 ⟨rfl, hb2⟩
  go_wp2
  go_ret2
  exact ⟨rfl, hba.trans (hb2.mono hba.size)⟩
set_option maxRecDepth 100000 in
set_option maxHeartbeats 1000000 in

theorem new_made (h63 : n * 40 ≤ 140737488355328) (h : sound s.cfg = true) (h2 : chained l s.idx s.term = true) : Calls Tryz.prog 77 #[snapV s, .slice A n c] w (NewLog 171 w ⟨s, l⟩) := by
  have hn := RE.len hr
  have HN := Lib.hid hn
  have hcf := hs.cfg
  obtain ⟨ix, tm, cf, d⟩ := s
  simp only at *
  have HS := Lib.hid h
  clear h hs hn
  have hba : Below w.heap.size w (w.alloc (.cells #[.int .u64 (ix : Int), .int .u64 (tm : Int), .int .u64 (cf : Int), .string d] 42)) := (Below.refl _ _).alloc (Nat.le_refl _) _
  have hcb := heap_alloc_new w (.cells #[.int .u64 (ix : Int), .int .u64 (tm : Int), .int .u64 (cf : Int), .string d] 42)
  have hpl : w.heap.size < (w.alloc (.cells #[.int .u64 (ix : Int), .int .u64 (tm : Int), .int .u64 (cf : Int), .string d] 42)).heap.size := by simp
  have hra := (Kit.Reads.below hr hba).more hba.size
  have hch := chained_any A n c l ix tm _ hra hb (by omega)
  rw [h2] at hch
  have HCh := Lib.hid hch
  have HCB := Lib.hid hcb
  clear hch h2 hcb
  unfold snapV
  go_enter Tryz.func77, Tryz.ntmps77
  go_wp2_with fail
  refine (sound_hid hcf HS _).mono ?_
  rintro e w1 ⟨rfl, rfl⟩
  go_wp2_with fail
  refine HCh.out.mono ?_
  rintro e w2 ⟨rfl, hb2⟩
  have hB2 := hba.trans (hb2.mono hba.size)
  have hc2 := (hb2.block _ hpl).trans HCB.out
  have c0 : w2.cell? ⟨w.heap.size, 0, none⟩ = some (.int .u64 (ix : Int)) := by rw [cell_at hc2]; rfl
  have c1 : w2.cell? ⟨w.heap.size, 1, none⟩ = some (.int .u64 (tm : Int)) := by rw [cell_at hc2]; rfl
  have c2 : w2.cell? ⟨w.heap.size, 2, none⟩ = some (.int .u64 (cf : Int)) := by rw [cell_at hc2]; rfl
  have c3 : w2.cell? ⟨w.heap.size, 3, none⟩ = some (.string d) := by rw [cell_at hc2]; rfl
  have hlt2 := lt_at hc2
  have hr2 : RE w2 w.heap.size A n l := Kit.Reads.below hr hB2
  go_wp2_with fail
  go_region_law (first
    | (refine step_new _ rfl _ _ rfl w.heap.size rfl rfl (Reads.drew hr2) (ecells_one l) h63 hB2.size ?_
       intro A' c' w3 hown3 hb3 hat3
       have d0 : w3.cell? ⟨w.heap.size, 0, none⟩ = some (.int .u64 (ix : Int)) := (hb3.cell (p := ⟨w.heap.size, 0, none⟩) hlt2).trans c0
       have d1 : w3.cell? ⟨w.heap.size, 1, none⟩ = some (.int .u64 (tm : Int)) := (hb3.cell (p := ⟨w.heap.size, 1, none⟩) hlt2).trans c1
       have d2 : w3.cell? ⟨w.heap.size, 2, none⟩ = some (.int .u64 (cf : Int)) := (hb3.cell (p := ⟨w.heap.size, 2, none⟩) hlt2).trans c2
       have d3 : w3.cell? ⟨w.heap.size, 3, none⟩ = some (.string d) := (hb3.cell (p := ⟨w.heap.size, 3, none⟩) hlt2).trans c3))
  all_goals
    have HL := Lib.hid (new_log (T := 171) (ix := ix) (tm := tm) (cf := cf) (d := d) hB2 hb3 hown3 HN)
    clear hown3 hat3 hb3 hB2
    go_wp2
    go_ret2
    exact ⟨_, _, rfl, HL.out.1, HL.out.2⟩
end
end Go.Proofs.YtamncdpeklbhlaaGreatDoor.RlgWalkD
set_option linter.unusedVariables false
namespace Go.Proofs.YtamncdpeklbhlaaGreatDoor.RlgWalkE
open Go.RowKit Go.Proofs.YtamncdpeklbhlaaGreatDoor.Kit Go.Proofs.YtamncdpeklbhlaaGreatDoor.Blocks Go.Proofs.YtamncdpeklbhlaaGreatDoor.Rlog Go.Proofs.YtamncdpeklbhlaaGreatDoor.Ents Go.Proofs.YtamncdpeklbhlaaGreatDoor.LogAt Go.Proofs.YtamncdpeklbhlaaGreatDoor.RlgWalkA Go.Proofs.YtamncdpeklbhlaaGreatDoor.RlgWalkB Go.Proofs.YtamncdpeklbhlaaGreatDoor.RlgWalkC Go.Proofs.YtamncdpeklbhlaaGreatDoor.RlgWalkD

abbrev LP (B : Nat) (w : World) (p : Nat) (v : Value) (g : G) : Prop := LogAt 171 B w p v g
section
variable {B p : Nat} {v : Value} {g : G} {w : World} (h : LP B w p v g) 
include h
end
end Go.Proofs.YtamncdpeklbhlaaGreatDoor.RlgWalkE
set_option linter.unusedVariables false
namespace Go.Proofs.YtamncdpeklbhlaaGreatDoor.RlgWalkF
open Go.RowKit Go.Proofs.YtamncdpeklbhlaaGreatDoor.Kit Go.Proofs.YtamncdpeklbhlaaGreatDoor.Blocks Go.Proofs.YtamncdpeklbhlaaGreatDoor.Rlog Go.Proofs.YtamncdpeklbhlaaGreatDoor.Ents Go.Proofs.YtamncdpeklbhlaaGreatDoor.LogAt Go.Proofs.YtamncdpeklbhlaaGreatDoor.App Go.Proofs.YtamncdpeklbhlaaGreatDoor.RlgWalkA Go.Proofs.YtamncdpeklbhlaaGreatDoor.RlgWalkB Go.Proofs.YtamncdpeklbhlaaGreatDoor.RlgWalkC Go.Proofs.YtamncdpeklbhlaaGreatDoor.RlgWalkD Go.Proofs.YtamncdpeklbhlaaGreatDoor.RlgWalkE

/-- A list of entries is handed back. -/
def Gives (w : World) (l : List Ent) (e : Ending) (w' : World) : Prop := ∃ A c, e = .returned (.slice A l.length c) ∧ RE w' w'.heap.size A l.length l ∧ l.length ≤ c ∧ c ≤ 9223372036854775807 ∧ Below w.heap.size w w' ∧ Off (fun k => k < w.heap.size) A l.length

theorem qE : ∀ (w : World) (a : Option Addr) (n c n' c' : Nat), (binOp .eql 43 (.slice a n c) (.slice none n' c')).run Tryz.prog w = .ok (.bool a.isNone) w := fun w a n c n' c' => Lib.run_eql_slice_nil w _ _ a n c n' c' Tryz.underlying43
set_option maxRecDepth 100000 in
theorem clone_nil (c : Nat) (w : World) : Calls Tryz.prog 86 #[.slice none 0 c] w (Gives w []) := by
  have q := qE
  go_enter Tryz.func86, Tryz.ntmps86
  go_wp2
  go_ret
  exact ⟨none, 0, rfl, RE.nil _ _ _, by simp, by omega, Below.refl _ _, Off.zero _ _⟩
set_option maxRecDepth 100000 in
theorem clone_some (ad : Addr) (n c : Nat) (l : List Ent) (w : World) (hr : RE w w.heap.size (some ad) n l) (hb : n * 40 ≤ 140737488355328) : Calls Tryz.prog 86 #[.slice (some ad) n c] w (Gives w l) := by
  have q := qE
  have hn := RE.len hr
  have HN := Lib.hid hn
  have hra : ∀ o, Reads (w.alloc o) w.heap.size 4 (some ad) n (ecells l) := fun o => Reads.alloc hr (Nat.le_refl _) o
  have hown := World.ownsRow_made (e := 83) (size := 4) w #[] 0 (base := w.heap.size) (Nat.le_refl _) (Nat.zero_le _) (by simp)
  have HO := Lib.hid hown
  clear hn hown
  go_enter Tryz.func86, Tryz.ntmps86
  go_wp2_with (first
    | (at_builtin
       refine wpList_app (v := .slice (some ⟨w.heap.size, 0, none⟩) 0 0) _ rfl _ _ rfl w.heap.size rfl HO.out rfl (hra _) (ecells_one l) (by omega) (by simp) ?_
       intro A' c' w1 hown1 hg1 hat1))
  have hb1 : Below w.heap.size w w1 := ((Below.refl _ w).alloc (Nat.le_refl _) _).grown hg1 (by simp) (by intro k hk; simp [Value.ownBlock] at hk; omega)
  rw [Nat.zero_add] at hown1
  obtain ⟨A2, c2, he2, hc1, hc2, hr2⟩ := own_form hown1
  cases he2
  have HR := Lib.hid hr2
  have HFr := Lib.hid (off_own hown1)
  clear hown1 hat1 hr2
  go_wp2
  go_ret
  unfold maxLen at hc2
  have hN := HN.out
  subst hN
  exact ⟨A', c', rfl, by simpa using HR.out, hc1, by omega, hb1, HFr.out⟩
theorem clone_any (A : Option Addr) (n c : Nat) (l : List Ent) (w : World) (hr : RE w w.heap.size A n l) (hb : n * 40 ≤ 140737488355328) : Calls Tryz.prog 86 #[.slice A n c] w (Gives w l) := by
  cases A with
  | some ad => exact clone_some ad n c l w hr hb
  | none =>
    have hn : n = 0 := by
      rcases Nat.eq_zero_or_pos n with h | h
      · exact h
      · obtain ⟨ad, e, _⟩ := hr.2 h; cases e
    have hl := RE.len hr
    subst hn
    rw [List.eq_nil_of_length_eq_zero hl]
    exact clone_nil c w

section
variable {B p : Nat} {v : Value} {g : G} {w : World} (h : LP B w p v g)
include h
end

/-! ### slices.Delete, to the end -/
theorem run_app_none (w : World) (ad : Addr) (k c : Nat) (A : Option Addr) (c2 : Nat) (hk : k ≤ c) (ty : TypeId) :
    (Builtin.append_ #[43, 43] ty #[.slice (some ad) k c, .slice A 0 c2]).run Tryz.prog w = .ok (.slice (some ad) k c) w := by
  obtain ⟨i0, hi0, hz0, hz1, hz2⟩ := info_parts infoE
  cases A with
  | none => simp [Builtin.append_, run_underlying Tryz.underlying43, sizeOf, typeInfo, hi0, Builtin.lenOf, Builtin.firstCells, hk, storeCells]
  | some a => simp [Builtin.append_, run_underlying Tryz.underlying43, sizeOf, typeInfo, hi0, Builtin.lenOf, Builtin.firstCells, hk, storeCells, loadCells, loadCellsFrom]
theorem step_none {ops : Array Oper} {o : Oper} {a : Act} {K : Act → World → Prop} {Q : Exit → Act → World → Prop} {E : Prop} (w : World) (hgd : o.guard = none) (s x : Operand)
    (ho : o.op = .call { callee := .builtin .append, args := #[s, x], argTypes := #[43, 43] })
    (ad : Addr) (k c : Nat) (A : Option Addr) (c2 : Nat) (hs : a.eval s = .slice (some ad) k c) (hx : a.eval x = .slice A 0 c2) (hk : k ≤ c) (h : K (a.put o.dst (.slice (some ad) k c)) w) :
    if Region.wanted o (yielded ops a.tmps) = true then Oper.wp Tryz.prog o a w K Q else E := by
  have hw : Region.wanted o (yielded ops a.tmps) = true := by simp [Region.wanted, hgd]
  rw [if_pos hw]
  have hrun := run_app_none w ad k c A c2 hk o.type
  unfold Oper.wp execOp
  simp only [ho, resolve, invoke, builtin, Sem.run_bind, Sem.run_pure, Result.andThen_ok, List.map_toArray, List.map_cons, List.map_nil, hs, hx, hrun]
  exact h
theorem zeroE (w : World) : (zeroValue 83).run Tryz.prog w = .ok (.agg #[.int .u64 0, .int .u64 0, .int .i64 0, .string .empty]) w := by kernel_rfl
/-- clear(s[k:n]) in a row of the call's own. -/
theorem run_clear4 (w : World) {base g n c k cc : Nat} {l : List Ent} (hown : w.ownsRow base 83 4 (.slice (some ⟨g, 0, none⟩) n c) n (ecells l)) (hk : k < n) :
    ∃ w', (∀ ty, (Builtin.clear_ #[43] ty #[.slice (some ⟨g, k * 4, none⟩) (n - k) cc]).run Tryz.prog w = .ok (.tuple #[]) w') ∧ w'.ownsRow base 83 4 (.slice (some ⟨g, 0, none⟩) k c) k (ecells (l.take k)) ∧ Only (fun q => q = g) w w' := by
  rcases hown.2 with ⟨hv, _⟩ | ⟨g', cap, cur, hv, hb, hg, h1, h2, h3, h4⟩
  · cases hv
  · injection hv with hA _ hc
    cases hA
    subst hc
    have hzv := zeroE
    have hzc : (Value.agg #[.int .u64 0, .int .u64 0, .int .i64 0, .string .empty]).cells = #[.int .u64 0, .int .u64 0, .int .i64 0, .string .empty] := rfl
    obtain ⟨z, hz⟩ : ∃ z, (Value.agg #[.int .u64 0, .int .u64 0, .int .i64 0, .string .empty]) = z := ⟨_, rfl⟩
    rw [hz] at hzc
    simp only [hz] at hzv
    obtain ⟨zs, hzs⟩ : ∃ zs, (Builtin.zeroCells z.cells (n - k)).toList = zs := ⟨_, rfl⟩
    have hzl : zs.length = (n - k) * 4 := by rw [← hzs, hzc]; simp [Builtin.zeroCells]
    have hz1 : ∀ u ∈ zs, u.oneCell' = true := by
      intro u hu
      rw [← hzs, hzc] at hu
      simp only [Builtin.zeroCells, Array.toList_map, List.mem_map] at hu
      obtain ⟨i, _, rfl⟩ := hu
      have : ∀ j, j < 4 → ((#[.int .u64 0, .int .u64 0, .int .i64 0, .string .empty] : Array Value)[j]!).oneCell' = true := by decide
      exact this _ (Nat.mod_lt _ (by decide))
    have hst := run_storeCells_free Tryz.prog g (k * 4) 83 (0, 0) zs 0 cur w hg (by simp) (by rw [hzl, h3]; omega) hz1
    simp only [Nat.add_zero] at hst
    obtain ⟨X, hX⟩ : ∃ X, (cur.toList.take (k * 4) ++ zs ++ cur.toList.drop (k * 4 + zs.length)).toArray = X := ⟨_, rfl⟩
    rw [hX] at hst
    have hXs : X.size = c * 4 := by
      rw [← hX]
      simp only [List.size_toArray, List.length_append, List.length_take, List.length_drop, Array.length_toList]
      omega
    have hXt : X.toList.take (k * 4) = ecells (l.take k) := by
      rw [← hX]
      show (cur.toList.take (k * 4) ++ zs ++ cur.toList.drop (k * 4 + zs.length)).take (k * 4) = _
      rw [List.append_assoc, List.take_append_of_le_length (by rw [List.length_take, Array.length_toList]; omega), List.take_of_length_le (by rw [List.length_take]; omega), ecells_take, ← h4, List.take_take]
      congr 1
      omega
    refine ⟨w.setRow g X, fun ty => ?_, ⟨?_, .inr ⟨g, c, X, rfl, hb, setRow_heap w g cur _ _ _ hg, by omega, h2, hXs, hXt⟩⟩, ⟨rfl, rfl, rfl, by simp, fun q _ hq => setRow_other w g q _ hq⟩⟩
    · obtain ⟨m, hm⟩ : ∃ m, n - k = m + 1 := ⟨n - k - 1, by omega⟩
      rw [hm] at hzs ⊢
      simp [Builtin.clear_, run_underlying Tryz.underlying43, hzv, hzs, hst]
    · rw [← hXt, List.length_take, Array.length_toList, hXs]
      omega
set_option maxRecDepth 100000 in
set_option maxHeartbeats 1000000 in
/-- slices.Delete(s, k, len(s)). -/
theorem delete_any (base g n c k : Nat) (l : List Ent) (w : World) (hown : w.ownsRow base 83 4 (.slice (some ⟨g, 0, none⟩) n c) n (ecells l)) (hk : k < n) :
    Calls Tryz.prog 51 #[.slice (some ⟨g, 0, none⟩) n c, .int .i64 (k : Int), .int .i64 (n : Int)] w fun e w' =>
      e = .returned (.slice (some ⟨g, 0, none⟩) k c) ∧ w'.ownsRow base 83 4 (.slice (some ⟨g, 0, none⟩) k c) k (ecells (l.take k)) ∧ Only (fun q => q = g) w w' := by
  obtain ⟨A', c', he, hnc, hcm, _⟩ := own_form hown
  cases he
  unfold maxLen at hcm
  have hownd : w.drew.ownsRow base 83 4 (.slice (some ⟨g, 0, none⟩) n c) n (ecells l) := hown
  obtain ⟨W1, hcl, hown1, ho1⟩ := run_clear4 w.drew (cc := c - k) hownd hk
  have ht := Tryz.underlying43
  have ht' : Tryz.prog.underlying 43 = some (.slice (Tryz.prog.elem 43)) := by simp [Program.elem, ht]
  have he' : Tryz.prog.elem 43 = 83 := by simp [Program.elem, ht]
  obtain ⟨v0, hs0⟩ : ∃ v0, ∀ w, (Instr.slice 43 (.slice (some ⟨g, 0, none⟩) n c) (some (.int .i64 (k : Int))) (some (.int .i64 (n : Int))) (some (.int .i64 (n : Int)))).run Tryz.prog w = .ok v0 w :=
    ⟨_, fun w => by rw [run_slice_lhm w _ _ _ _ ht' .i64 .i64 .i64 _ _ _ (by omega) (by omega) (by omega) (by omega), he', sz4]; rfl⟩
  have hs1 : ∀ w, (Instr.slice 43 (.slice (some ⟨g, 0, none⟩) n c) none (some (.int .i64 (k : Int))) none).run Tryz.prog w = .ok (.slice (some ⟨g, 0, none⟩) k c) w := fun w => by
    rw [run_slice_h w _ _ _ _ ht' .i64 _ (by omega) (by omega), he', sz4]
    simp [Result.andThen, sliced]
    intro _
    rfl
  have hs2 := run_from4 (P := Tryz.prog) 43 83 ht sz4 (some ⟨g, 0, none⟩) n c n (Nat.le_refl _)
  rw [Nat.sub_self] at hs2
  obtain ⟨A2, hA2⟩ : ∃ A2, cut4 (some ⟨g, 0, none⟩) c n = A2 := ⟨_, rfl⟩
  obtain ⟨c2, hc2⟩ : ∃ c2, c - n = c2 := ⟨_, rfl⟩
  rw [hA2, hc2] at hs2
  have hs3 := run_part4 (P := Tryz.prog) 43 83 ht sz4 (some ⟨g, 0, none⟩) k c k n (by omega) hnc
  have hcut : cut4 (some ⟨g, 0, none⟩) c k = some ⟨g, k * 4, none⟩ := by
    unfold cut4
    rw [if_neg (by omega)]
    simp only [Option.map_some, Addr.add_lit, Nat.zero_add]
  rw [hcut] at hs3
  obtain ⟨d, hd⟩ : ∃ d, n - k = d := ⟨_, rfl⟩
  obtain ⟨c3, hc3⟩ : ∃ c3, c - k = c3 := ⟨_, rfl⟩
  rw [hd, hc3] at hs3 hcl
  have hne : ((k : Int) == (n : Int)) = false := by simp; omega
  have hkc : k ≤ c := by omega
  have HO := Lib.hid hown1
  have HN := Lib.hid ho1
  clear hA2 hc2 hcut hd hc3 hown1 ho1 hownd hown ht he' ht'
  go_enter Tryz.func51, Tryz.ntmps51
  go_wp2_with fail
  go_region_law (first
    | (refine step_none _ rfl _ _ rfl ⟨g, 0, none⟩ k c A2 c2 rfl rfl hkc ?_))
  all_goals go_wp2
  all_goals go_ret
  all_goals exact ⟨rfl, HO.out, (((Only.refl (fun q => q = g) w).drew).trans HN.out)⟩
end Go.Proofs.YtamncdpeklbhlaaGreatDoor.RlgWalkF
set_option linter.unusedVariables false
namespace Go.Proofs.YtamncdpeklbhlaaGreatDoor.RefA
open Go.RowKit Go.Proofs.YtamncdpeklbhlaaGreatDoor.Kit Go.Proofs.YtamncdpeklbhlaaGreatDoor.Blocks Go.Proofs.YtamncdpeklbhlaaGreatDoor.Rlog Go.Proofs.YtamncdpeklbhlaaGreatDoor.Ents Go.Proofs.YtamncdpeklbhlaaGreatDoor.LogAt Go.Proofs.YtamncdpeklbhlaaGreatDoor.App Go.Proofs.YtamncdpeklbhlaaGreatDoor.RlgWalkA Go.Proofs.YtamncdpeklbhlaaGreatDoor.RlgWalkB Go.Proofs.YtamncdpeklbhlaaGreatDoor.RlgWalkC Go.Proofs.YtamncdpeklbhlaaGreatDoor.RlgWalkD
open Go.Proofs.YtamncdpeklbhlaaGreatDoor.Quorum (sound)

section
variable {s : Snap} (hs : SnapB s) (A : Option Addr) (n c : Nat) (l : List Ent) (w : World) (hr : RE w w.heap.size A n l) (hb : ∀ e ∈ l, EntB e)
include hs
set_option maxRecDepth 100000 in
theorem rnew_mad (h : sound s.cfg = false) : Calls Tryz.prog 87 #[snapV s, .slice A n c] w (NoLog w) := by
  have hcf := hs.cfg
  obtain ⟨ix, tm, cf, d⟩ := s
  simp only at *
  have HS := Lib.hid h
  clear h hs
  have hba : Below w.heap.size w (w.alloc (.cells #[.int .u64 (ix : Int), .int .u64 (tm : Int), .int .u64 (cf : Int), .string d] 42)) := (Below.refl _ _).alloc (Nat.le_refl _) _
  unfold snapV
  go_enter Tryz.func87, Tryz.ntmps87
  go_wp2_with fail
  refine (rsound_hid hcf HS _).mono ?_
  rintro e w1 ⟨rfl, rfl⟩
  go_wp2
  go_ret2
  exact ⟨rfl, hba⟩
include hr hb
set_option maxRecDepth 100000 in
set_option maxHeartbeats 2000000 in
theorem rnew_any (h63 : n * 40 ≤ 140737488355328) (h : sound s.cfg = true) : Calls Tryz.prog 87 #[snapV s, .slice A n c] w fun e w' =>
    if chained l s.idx s.term = true then NewLog 185 w ⟨s, l⟩ e w' else NoLog w e w' := by
  have hn := RE.len hr
  have HN := Lib.hid hn
  have hcf := hs.cfg
  have hib := hs.idx
  obtain ⟨ix, tm, cf, d⟩ := s
  simp only at *
  have HS := Lib.hid h
  have hba : Below w.heap.size w (w.alloc (.cells #[.int .u64 (ix : Int), .int .u64 (tm : Int), .int .u64 (cf : Int), .string d] 42)) := (Below.refl _ _).alloc (Nat.le_refl _) _
  have hcb := heap_alloc_new w (.cells #[.int .u64 (ix : Int), .int .u64 (tm : Int), .int .u64 (cf : Int), .string d] 42)
  have hpl : w.heap.size < (w.alloc (.cells #[.int .u64 (ix : Int), .int .u64 (tm : Int), .int .u64 (cf : Int), .string d] 42)).heap.size := by simp
  have HCB := Lib.hid hcb
  have HPl := Lib.hid hpl
  obtain ⟨R, hR⟩ : ∃ R, chained l ix tm = R := ⟨_, rfl⟩
  rw [hR]
  have HR := Lib.hid hR
  clear h hs hn hcb hR hpl
  unfold snapV
  go_enter Tryz.func87, Tryz.ntmps87
  go_wp2_with fail
  refine (rsound_hid hcf HS _).mono ?_
  rintro e w1 ⟨rfl, rfl⟩
  go_wp2_with fail
  go_quiet (fail)
  have hbq := below_drewN hba nq
  have hcq : ((w.alloc (.cells #[.int .u64 (ix : Int), .int .u64 (tm : Int), .int .u64 (cf : Int), .string d] 42)).drewN nq).heap[w.heap.size]? = _ := HCB.out
  generalize (w.alloc (.cells #[.int .u64 (ix : Int), .int .u64 (tm : Int), .int .u64 (cf : Int), .string d] 42)).drewN nq = wq at hbq hcq ⊢
  have HCQ := Lib.hid hcq
  clear hcq hba
  go_wp2_with fail
  go_loopw [6, 7, 8] (fun a b x wr => ∃ k I T : Nat, k ≤ n ∧ a = .int .u64 (I : Int) ∧ b = .int .u64 (T : Int) ∧ x = .int .i64 (k : Int) ∧ I < 18446744073709551616 ∧ Hid (lasts (l.take k) ix tm = (I, T)) ∧ Hid (chained (l.take k) ix tm = true) ∧ Below w.heap.size w wr ∧ wr.heap[w.heap.size]? = some (.cells #[.int .u64 (ix : Int), .int .u64 (tm : Int), .int .u64 (cf : Int), .string d] 42 (0, 0))) (fun _ _ x _ => n - (intOf x).toNat)
  case atStart => exact ⟨0, ix, tm, by omega, rfl, rfl, rfl, hib, Lib.hid rfl, Lib.hid rfl, hbq, HCQ.out⟩
  case round =>
    obtain ⟨k, I, T, hk, rfl, rfl, rfl, hIb, HL, HF, hbel, hcr⟩ := hrel
    have HCR := Lib.hid hcr
    clear hcr
    have hsz := hbel.size
    by_cases hkn : k < n
    · obtain ⟨b, o, e, rfl, hbl, hek, hfour⟩ := RE.at_ hr hkn
      have hfr := Four.below hfour hbel hbl
      have c0 := hfr.c0
      have c1 := hfr.c1
      have c2 := hfr.c2
      have c3 := hfr.c3
      have hep := hb e (List.mem_of_getElem? hek)
      have hidb := hep.idx
      obtain ⟨f1, f2⟩ := chained_next hek HF.out HL.out
      obtain ⟨q, hq⟩ : ∃ q, (I + 1) % 18446744073709551616 = q := ⟨_, rfl⟩
      have hwq : IntKind.u64.wrap ((I : Int) + 1) = (q : Int) := by rw [← hq]; exact wrap_succ hIb
      have hmay := fun w => rmay_any (i := I) (t := T) hep w hIb hq.symm
      obtain ⟨tm', ix', kd, d'⟩ := e
      unfold entV at hmay
      simp only at c0 c1 c2 c3 hmay f2 hidb
      obtain ⟨r, hr1⟩ : ∃ r, may ⟨tm', ix', kd, d'⟩ I T = r := ⟨_, rfl⟩
      rw [hr1] at hmay f1
      have HMay := Lib.hid hmay
      have H1 := Lib.hid f1
      have H2 := Lib.hid f2
      clear hmay f1 f2 hr1 hek hfr hfour hq hep
      cases r with
      | false =>
        go_wp2_with fail
        refine (HMay.out _).mono ?_
        rintro e' w1 ⟨rfl, hb1⟩
        obtain rfl : R = false := by rw [← HR.out]; exact chained_not H1.out
        go_wp2
        go_ret2
        exact ⟨rfl, hbel.trans (hb1.mono hsz)⟩
      | true =>
        go_wp2_with fail
        refine (HMay.out _).mono ?_
        rintro e' w1 ⟨rfl, hb1⟩
        have hB1 := hbel.trans (hb1.mono hsz)
        have d0 := (hb1.cell (p := ⟨b, o + k * 4, none⟩) (by show b < _; omega)).trans c0
        have d1 := (hb1.cell (p := ⟨b, o + k * 4 + 1, none⟩) (by show b < _; omega)).trans c1
        have hcr1 := (hb1.block w.heap.size (lt_at HCR.out)).trans HCR.out
        have HC1 := Lib.hid hcr1
        clear hb1 c0 c1 c2 c3 hcr1
        go_wp2_with fail
        go_quiet (fail)
        all_goals go_wp2
        all_goals
          go_roundw
          case rel => exact ⟨k + 1, ix', tm', by omega, rfl, rfl, by go_num, hidb, H2, H1, below_drewN hB1 _, HC1.out⟩
          case measure => simp [intOf]; omega
    · obtain rfl : k = n := by omega
      obtain rfl : R = true := by
        rw [← HR.out]
        have := HF.out
        rwa [List.take_of_length_le (by rw [HN.out]; exact Nat.le_refl _)] at this
      have c0 : wr.cell? ⟨w.heap.size, 0, none⟩ = some (.int .u64 (ix : Int)) := by rw [cell_at HCR.out]; rfl
      have c1 : wr.cell? ⟨w.heap.size, 1, none⟩ = some (.int .u64 (tm : Int)) := by rw [cell_at HCR.out]; rfl
      have c2 : wr.cell? ⟨w.heap.size, 2, none⟩ = some (.int .u64 (cf : Int)) := by rw [cell_at HCR.out]; rfl
      have c3 : wr.cell? ⟨w.heap.size, 3, none⟩ = some (.string d) := by rw [cell_at HCR.out]; rfl
      have hlt2 := lt_at HCR.out
      have hr2 : RE wr w.heap.size A k l := Kit.Reads.below hr hbel
      go_wp2_with fail
      go_region_law (first
        | (refine step_new _ rfl _ _ rfl w.heap.size rfl rfl (Reads.drew hr2) (ecells_one l) h63 hbel.size ?_
           intro A' c' w3 hown3 hb3 hat3
           have d0 : w3.cell? ⟨w.heap.size, 0, none⟩ = some (.int .u64 (ix : Int)) := (hb3.cell (p := ⟨w.heap.size, 0, none⟩) hlt2).trans c0
           have d1 : w3.cell? ⟨w.heap.size, 1, none⟩ = some (.int .u64 (tm : Int)) := (hb3.cell (p := ⟨w.heap.size, 1, none⟩) hlt2).trans c1
           have d2 : w3.cell? ⟨w.heap.size, 2, none⟩ = some (.int .u64 (cf : Int)) := (hb3.cell (p := ⟨w.heap.size, 2, none⟩) hlt2).trans c2
           have d3 : w3.cell? ⟨w.heap.size, 3, none⟩ = some (.string d) := (hb3.cell (p := ⟨w.heap.size, 3, none⟩) hlt2).trans c3))
      all_goals
        have HL2 := Lib.hid (new_log (T := 185) (ix := ix) (tm := tm) (cf := cf) (d := d) hbel hb3 hown3 HN)
        clear hown3 hat3 hb3 hbel
        go_wp2
        go_ret2
        exact ⟨_, _, rfl, HL2.out.1, HL2.out.2⟩
end
end Go.Proofs.YtamncdpeklbhlaaGreatDoor.RefA
