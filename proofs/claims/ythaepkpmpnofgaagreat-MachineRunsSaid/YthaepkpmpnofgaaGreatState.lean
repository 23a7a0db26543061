/- What a writer and a reader of layer 3 are in memory, and what a call on one of them leaves alone. No statement is proved here. -/
import Derived.Test.YthaepkpmpnofgaaGreatKit
import Derived.Test.YthaepkpmpnofgaaGreatNum
import Derived.Lib.AppendStr
namespace Go.Proofs.YthaepkpmpnofgaaGreat.State
open Go.RowKit Go.Proofs.YthaepkpmpnofgaaGreat.Kit Go.Proofs.YthaepkpmpnofgaaGreat.Num

/-- Blocks outside S are as they were; no block has gone. -/
structure Only (S : Nat → Prop) (w w' : World) : Prop where
  os : w'.os = w.os
  tape : w'.tape = w.tape
  output : w'.output = w.output
  size : w.heap.size ≤ w'.heap.size
  block : ∀ k, k < w.heap.size → ¬ S k → w'.heap[k]? = w.heap[k]?

namespace Only
variable {S S' : Nat → Prop} {w w' w'' : World}
theorem refl (S : Nat → Prop) (w : World) : Only S w w := ⟨rfl, rfl, rfl, Nat.le_refl _, fun _ _ _ => rfl⟩
theorem trans (h : Only S w w') (k : Only S w' w'') : Only S w w'' :=
  ⟨k.os.trans h.os, k.tape.trans h.tape, k.output.trans h.output, Nat.le_trans h.size k.size, fun i hi hs => (k.block i (by have := h.size; omega) hs).trans (h.block i hi hs)⟩
theorem mono (h : Only S w w') (hs : ∀ k, k < w.heap.size → S k → S' k) : Only S' w w' := ⟨h.os, h.tape, h.output, h.size, fun k hk hn => h.block k hk fun e => hn (hs k hk e)⟩
theorem drew (h : Only S w w') : Only S w w'.drew := ⟨h.os, h.tape, h.output, h.size, h.block⟩
theorem drewN (h : Only S w w') (n : Nat) : Only S w (w'.drewN n) := ⟨h.os, h.tape, h.output, h.size, h.block⟩
theorem alloc (h : Only S w w') (o : Obj) : Only S w (w'.alloc o) :=
  h.trans ⟨rfl, rfl, rfl, by simp, fun _ hk _ => Below.heap_alloc _ _ _ hk⟩
theorem setCell (h : Only S w w') {a : Addr} (ha : w.heap.size ≤ a.block ∨ S a.block) (u : Value) : Only S w (w'.setCell a u) := by
  refine ⟨h.os, h.tape, h.output, by have := h.size; simpa [World.setCell] using this, fun k hk hs => ?_⟩
  rw [Below.heap_setCell _ _ _ _ (by rcases ha with ha | ha; · omega
                                     · exact fun e => hs (e ▸ ha))]
  exact h.block k hk hs
theorem grown {row : Option Nat} (h : Only S w w') (hg : w'.grownBy w'' row) (hr : ∀ g, row = some g → w.heap.size ≤ g ∨ S g) : Only S w w'' := by
  refine ⟨hg.os.trans h.os, hg.tape.trans h.tape, hg.output.trans h.output, Nat.le_trans h.size hg.size, fun k hk hs => ?_⟩
  rw [hg.block k (by have := h.size; omega) (fun e => by rcases hr k e.symm with h1 | h1; · omega
                                                         · exact hs h1)]
  exact h.block k hk hs
theorem of_below (h : Below w.heap.size w w') : Only S w w' := ⟨h.os, h.tape, h.output, h.size, fun k hk _ => h.block k hk⟩
theorem thenBelow (h : Only S w w') (k : Below w'.heap.size w' w'') : Only S w w'' := h.trans (of_below k)
theorem below {B : Nat} (h : Only S w w') (hB : B ≤ w.heap.size) (hs : ∀ k, S k → B ≤ k) : Below B w w' :=
  ⟨h.os, h.tape, h.output, h.size, fun k hk => h.block k (by omega) fun e => by have := hs k e; omega⟩
theorem cell (h : Only S w w') {p : Addr} (hp : p.block < w.heap.size) (hs : ¬ S p.block) : w'.cell? p = w.cell? p := World.cell?_of_block (h.block _ hp hs)
end Only

/-- Below a smaller block number, two steps one behind the other. -/
theorem below_only {S : Nat → Prop} {B : Nat} {w w' w'' : World} (h : Below B w w') (k : Only S w' w'') (hB : B ≤ w.heap.size) (hs : ∀ k, S k → B ≤ k) : Below B w w'' :=
  h.trans (k.below (Nat.le_trans hB h.size) hs)

/-- A block of cells, none frozen, reads. -/
theorem cell_at {w : World} {b : Nat} {cs : Array Value} {t : TypeId} {fr : Nat × Nat} (h : w.heap[b]? = some (.cells cs t fr)) (i : Nat) : w.cell? ⟨b, i, none⟩ = cs[i]? := by
  rw [cell_of_row w b i cs t fr h]
theorem free_at {w : World} {b : Nat} {cs : Array Value} {t : TypeId} (h : w.heap[b]? = some (.cells cs t (0, 0))) (i : Nat) : w.frozen? ⟨b, i, none⟩ = false := by simp [World.frozen?, h]
theorem lt_at {w : World} {b : Nat} {o : Obj} (h : w.heap[b]? = some o) : b < w.heap.size := (Array.getElem?_eq_some_iff.1 h).1
theorem set_at {w : World} {b i : Nat} {cs : Array Value} {t : TypeId} (h : w.heap[b]? = some (.cells cs t (0, 0))) (u : Value) : (w.setCell ⟨b, i, none⟩ u).heap[b]? = some (.cells (cs.setIfInBounds i u) t (0, 0)) := by
  simp [World.setCell, Array.getElem?_modify, h]

/-! ### A writer -/
/-- Block p is a writer whose slice is v, and it has laid the bytes l. -/
structure WV (w : World) (p : Nat) (v : Value) (l : List UInt8) : Prop where
  cell : w.heap[p]? = some (.cells #[v] 105 (0, 0))
  own : w.ownsRow (p + 1) 5 1 v l.length (vals l)
/-- A step of a writer: its own block p and its row o alone are written; o' is its row behind it. -/
structure Step (p : Nat) (o o' : Option Nat) (w w' : World) : Prop where
  only : Only (fun k => k = p ∨ o = some k) w w'
  next : o' = o ∨ ∃ g, o' = some g ∧ w.heap.size ≤ g

theorem Step.refl (p : Nat) (o : Option Nat) (w : World) : Step p o o w w := ⟨Only.refl _ _, .inl rfl⟩
theorem Step.trans {p : Nat} {o o1 o2 : Option Nat} {w w1 w2 : World} (h : Step p o o1 w w1) (k : Step p o1 o2 w1 w2) : Step p o o2 w w2 := by
  have hs := h.only.size
  refine ⟨⟨k.only.os.trans h.only.os, k.only.tape.trans h.only.tape, k.only.output.trans h.only.output, Nat.le_trans hs k.only.size, fun i hi hn => ?_⟩, ?_⟩
  · rw [k.only.block i (by omega) ?_]
    · exact h.only.block i hi hn
    · rintro (e | e)
      · exact hn (.inl e)
      · rcases h.next with h1 | ⟨g, h1, h2⟩
        · exact hn (.inr (h1 ▸ e))
        · rw [h1] at e
          cases e
          omega
  · rcases k.next with k1 | ⟨g, k1, k2⟩
    · rcases h.next with h1 | ⟨g, h1, h2⟩
      · exact .inl (k1.trans h1)
      · exact .inr ⟨g, k1.trans h1, h2⟩
    · exact .inr ⟨g, k1, by omega⟩
theorem WV.lt {w : World} {p : Nat} {v : Value} {l : List UInt8} (h : WV w p v l) : p < w.heap.size := lt_at h.cell
theorem WV.row {w : World} {p : Nat} {v : Value} {l : List UInt8} (h : WV w p v l) : ∀ g, v.ownBlock = some g → p < g ∧ g < w.heap.size := fun g hg => by have := h.own.lt g hg; omega
theorem WV.at_ {w : World} {p : Nat} {v : Value} {l : List UInt8} (h : WV w p v l) : w.cell? ⟨p, 0, none⟩ = some v := by rw [cell_at h.cell]; rfl
/-- A writer stays where its blocks do. -/
theorem WV.keep {w w' : World} {p : Nat} {v : Value} {l : List UInt8} (h : WV w p v l) {S : Nat → Prop} (k : Only S w w') (hp : ¬ S p) (hg : ∀ g, v.ownBlock = some g → ¬ S g) : WV w' p v l := by
  refine ⟨(k.block p h.lt hp).trans h.cell, h.own.1, ?_⟩
  rcases h.own.2 with hn | ⟨g, cap, cur, rfl, h1, hgg, hrest⟩
  · exact .inl hn
  · exact .inr ⟨g, cap, cur, rfl, h1, (k.block g (lt_at hgg) (hg g rfl)).trans hgg, hrest⟩
theorem WV.below {w w' : World} {p : Nat} {v : Value} {l : List UInt8} (h : WV w p v l) (k : Below w.heap.size w w') : WV w' p v l :=
  h.keep (S := fun _ => False) (Only.of_below k) (by simp) (by simp)
theorem Step.below {p B : Nat} {o o' : Option Nat} {w w' : World} (h : Step p o o' w w') (hB : B ≤ w.heap.size) (hp : B ≤ p) (ho : ∀ g, o = some g → B ≤ g) : Below B w w' :=
  h.only.below hB (by rintro k (rfl | e); · exact hp
                      · exact ho k e)
/-- What a call that lays bytes leaves. -/
def Wrote (p : Nat) (o : Option Nat) (l' : List UInt8) (w : World) (e : Ending) (w' : World) : Prop :=
  e = .returned (.pointer (some ⟨p, 0, none⟩)) ∧ ∃ v', WV w' p v' l' ∧ Step p o v'.ownBlock w w'
/-- Behind an append onto the row and the store of it: what a writer is then. -/
theorem stored {w wr w1 : World} {p : Nat} {o : Option Nat} {v v1 : Value} {l news : List UInt8} {n : Nat} {xs : List Value} (hwv : WV wr p v l) (hst : Step p o v.ownBlock w wr)
    (hown : w1.ownsRow (p + 1) 5 1 v1 n xs) (hn : n = (l ++ news).length) (hx : xs = vals (l ++ news)) (hg : wr.grownBy w1 v.ownBlock) (hat : v1.ownBlock = v.ownBlock ∨ ∃ g, v1.ownBlock = some g ∧ wr.heap.size ≤ g) :
    WV (w1.setCell ⟨p, 0, none⟩ v1) p v1 (l ++ news) ∧ Step p o v1.ownBlock w (w1.setCell ⟨p, 0, none⟩ v1) := by
  subst hn hx
  have hp : some p ≠ v.ownBlock := fun e => by have := (hwv.row p e.symm).1; omega
  have hcell : w1.heap[p]? = some (.cells #[v] 105 (0, 0)) := (hg.block p hwv.lt hp).trans hwv.cell
  refine ⟨⟨?_, ownsRow_setCell_below hown (show p < p + 1 by omega) v1⟩, hst.trans ⟨?_, hat⟩⟩
  · rw [set_at hcell]; rfl
  · exact ((Only.refl (fun k => k = p ∨ v.ownBlock = some k) wr).grown hg (fun g e => .inr (.inr e))).setCell (.inr (.inl rfl)) v1

/-- Behind an append of one byte onto the row, the byte laid into a block of its own first: the writer's cell, and what the writer is behind the store. -/
theorem one_more {w wr w1 : World} {p g cap : Nat} {o : Option Nat} {v : Value} {l : List UInt8} {c : UInt8} {b : Int} {ob : Obj} {H : Nat} (hwv : WV wr p v l) (hst : Step p o v.ownBlock w wr) (hb : b = (c.toNat : Int))
    (hown : w1.ownsRow (p + 1) 5 1 (.slice (some ⟨g, 0, none⟩) (l.length + 1) cap) (l.length + 1) (vals l ++ [.int .u8 b])) (hg : (wr.alloc ob).grownBy w1 v.ownBlock) (hat : v.ownBlock = some g ∨ g = H) (hH : H = wr.heap.size + 1) :
    w1.cell? ⟨p, 0, none⟩ = some v ∧ w1.frozen? ⟨p, 0, none⟩ = false ∧ WV (w1.setCell ⟨p, 0, none⟩ (.slice (some ⟨g, 0, none⟩) (l.length + 1) cap)) p (.slice (some ⟨g, 0, none⟩) (l.length + 1) cap) (l ++ [c]) ∧
      Step p o (some g) w (w1.setCell ⟨p, 0, none⟩ (.slice (some ⟨g, 0, none⟩) (l.length + 1) cap)) := by
  subst hb hH
  have hal : Below wr.heap.size wr (wr.alloc ob) := (Below.refl _ _).alloc (Nat.le_refl _) ob
  have hwv' := hwv.below hal
  have hp : some p ≠ v.ownBlock := fun e => by have := (hwv.row p e.symm).1; omega
  have hcell : w1.heap[p]? = some (.cells #[v] 105 (0, 0)) := (hg.block p hwv'.lt hp).trans hwv'.cell
  refine ⟨by rw [cell_at hcell]; rfl, free_at hcell 0, ?_⟩
  refine stored (news := [c]) hwv' (hst.trans ⟨Only.of_below hal, .inl rfl⟩) hown (by simp) (by rw [vals_append]; rfl) hg ?_
  rcases hat with e | e
  · exact .inl e.symm
  · exact .inr ⟨g, rfl, by rw [e]; simp⟩
/-- Behind an append of other bytes. -/
theorem some_more {w wr w1 : World} {p n m : Nat} {A : Option Addr} {cap : Nat} {o : Option Nat} {v : Value} {l news : List UInt8} (hwv : WV wr p v l) (hst : Step p o v.ownBlock w wr)
    (hown : w1.ownsRow (p + 1) 5 1 (.slice A m cap) n (vals l ++ vals news)) (hn : n = l.length + news.length) (hg : wr.grownBy w1 v.ownBlock) (hat : (Value.slice A m cap).ownBlock = v.ownBlock ∨ (Value.slice A m cap).ownBlock = some wr.heap.size) :
    w1.cell? ⟨p, 0, none⟩ = some v ∧ w1.frozen? ⟨p, 0, none⟩ = false ∧ WV (w1.setCell ⟨p, 0, none⟩ (.slice A m cap)) p (.slice A m cap) (l ++ news) ∧
      Step p o (Value.slice A m cap).ownBlock w (w1.setCell ⟨p, 0, none⟩ (.slice A m cap)) := by
  have hp : some p ≠ v.ownBlock := fun e => by have := (hwv.row p e.symm).1; omega
  have hcell : w1.heap[p]? = some (.cells #[v] 105 (0, 0)) := (hg.block p hwv.lt hp).trans hwv.cell
  refine ⟨by rw [cell_at hcell]; rfl, free_at hcell 0, ?_⟩
  refine stored hwv hst hown (by simp [hn]) (by rw [vals_append]) hg ?_
  rcases hat with e | e
  · exact .inl e
  · exact .inr ⟨_, e, Nat.le_refl _⟩

/-! ### append(b, s...), s a text: where the new slice lies -/
theorem strCells_vals (s : ByteArray) : Lib.strCells s = vals s.data.toList := rfl
theorem run_append_text {P : Program} (w : World) (base : Nat) (t u ty e : TypeId) (i : TypeInfo) (ht : P.underlying t = some (.slice e)) (hu : P.underlying u = some .string) (hi : P.info? e = some i) (hz : i.zero = some (.int .u8 0))
    (hsize : i.size = 1) (hby : i.bytes = 1) (v : Value) (n : Nat) (xs : List Value) (hown : w.ownsRow base e 1 v n xs) (s : ByteArray)
    (h63 : n + s.size ≤ maxLen) (hbytes : n + s.size ≤ 140737488355328) (hbase : base ≤ w.heap.size) :
    ∃ A c w', (Builtin.append_ #[t, u] ty #[v, .string s]).run P w = .ok (.slice A (n + s.size) c) w' ∧ w'.ownsRow base e 1 (.slice A (n + s.size) c) (n + s.size) (xs ++ vals s.data.toList) ∧ w.grownBy w' v.ownBlock ∧
      ((Value.slice A (n + s.size) c).ownBlock = v.ownBlock ∨ (Value.slice A (n + s.size) c).ownBlock = some w.heap.size) := by
  obtain ⟨v', w', hr, h2, h3, h4⟩ := Lib.run_append_own_string (P := P) w base t u ty e i ht hu hi hz hsize hby v n xs hown s h63 hbytes hbase
  rw [strCells_vals] at h2
  have hsmall : n + s.size ≤ 9223372036854775807 := by simp only [maxLen] at h63; omega
  suffices hv : ∃ A c, v' = .slice A (n + s.size) c ∧ ((Value.slice A (n + s.size) c).ownBlock = v.ownBlock ∨ (Value.slice A (n + s.size) c).ownBlock = some w.heap.size) by
    obtain ⟨A, c, rfl, hb⟩ := hv
    exact ⟨A, c, w', hr, h2, h3, hb⟩
  have hxl : xs.length = n := by simpa using hown.1
  rcases hown.2 with ⟨rfl, rfl⟩ | ⟨g, cap, cur, rfl, hbg, hg, hnc, hcm, hcs, htake⟩
  · by_cases hm : s.size = 0
    · exact ⟨none, 0, by rw [h4.2 ⟨rfl, hm⟩, hm], .inl rfl⟩
    · have hq := run_append_nil_string (P := P) w t u ty e i (.int .u8 0) ht hu hi hz s (by omega) (by omega) (by rw [hby]; omega)
      rw [hq] at hr
      injection hr with hr _
      exact ⟨_, _, by rw [← hr, Nat.zero_add], .inr rfl⟩
  · by_cases hroom : n + s.size ≤ cap
    · have hq := Lib.run_append_room_string (P := P) w t u ty e i ht hu hi hsize g n cap cur hg s hroom (by omega)
      rw [hq] at hr
      injection hr with hr _
      exact ⟨_, _, hr.symm, .inl rfl⟩
    · have hq := Lib.run_append_grow_string (P := P) w t u ty e i (.int .u8 0) ht hu hi hz ⟨g, 0, none⟩ n cap xs (by rw [hsize]; simpa using hxl) (hown.cells (g := g) rfl) s (by omega) (by omega) (by rw [hby]; exact growslice_fits (by omega) (by omega))
      rw [hq] at hr
      injection hr with hr _
      exact ⟨_, _, hr.symm, .inr rfl⟩
theorem wpList_append_text {P : Program} (w : World) {ops : Array Oper} {rest : List Oper} {o : Oper} {a : Act} {Q : Exit → Act → World → Prop} (hgd : o.guard = none) (sl x : Operand) (t u : TypeId)
    (ho : o.op = .call { callee := .builtin .append, args := #[sl, x], argTypes := #[t, u] })
    (base : Nat) (e : TypeId) (i : TypeInfo) (ht : P.underlying t = some (.slice e)) (hu : P.underlying u = some .string) (hi : P.info? e = some i) (hz : i.zero = some (.int .u8 0))
    (hsize : i.size = 1) (hby : i.bytes = 1)
    (v : Value) (n : Nat) (xs : List Value) (hs : a.eval sl = v) (hown : w.ownsRow base e 1 v n xs) (s : ByteArray) (hx : a.eval x = .string s)
    (h63 : n + s.size ≤ maxLen) (hbytes : n + s.size ≤ 140737488355328) (hbase : base ≤ w.heap.size)
    (h : ∀ A c w', w'.ownsRow base e 1 (.slice A (n + s.size) c) (n + s.size) (xs ++ vals s.data.toList) → w.grownBy w' v.ownBlock →
      ((Value.slice A (n + s.size) c).ownBlock = v.ownBlock ∨ (Value.slice A (n + s.size) c).ownBlock = some w.heap.size) → wpList P ops Q rest (a.put o.dst (.slice A (n + s.size) c)) w') : wpList P ops Q (o :: rest) a w := by
  refine wpList_plain hgd fun K hK => ?_
  obtain ⟨A, c, w', hr, h2, h3, h4⟩ := run_append_text (P := P) w base t u o.type e i ht hu hi hz hsize hby v n xs hown s h63 hbytes hbase
  unfold Oper.wp execOp
  simp only [ho, resolve, invoke, builtin, Sem.run_bind, Sem.run_pure, Result.andThen_ok, List.map_toArray, List.map_cons, List.map_nil, hs, hx, hr]
  exact hK _ _ (h A c w' h2 h3 h4)

/-! ### A reader -/
/-- Block q is a reader that has s left; bad: it has failed. -/
def RV (t : TypeId) (w : World) (q : Nat) (s : ByteArray) (bad : Bool) : Prop := w.heap[q]? = some (.cells #[.string s, .bool bad] t (0, 0))
/-- What a call on a reader leaves. -/
def Took (t : TypeId) (q : Nat) (s : ByteArray) (bad : Bool) (r : Value) (w : World) (e : Ending) (w' : World) : Prop :=
  e = .returned r ∧ RV t w' q s bad ∧ Only (· = q) w w'
section
variable {t : TypeId} {w w' : World} {q : Nat} {s : ByteArray} {bad : Bool}
theorem RV.lt (h : RV t w q s bad) : q < w.heap.size := lt_at h
theorem RV.left (h : RV t w q s bad) : w.cell? ⟨q, 0, none⟩ = some (.string s) := by rw [cell_at h]; rfl
theorem RV.flag (h : RV t w q s bad) : w.cell? ⟨q, 1, none⟩ = some (.bool bad) := by rw [cell_at h]; rfl
theorem RV.keep (h : RV t w q s bad) {S : Nat → Prop} (k : Only S w w') (hq : ¬ S q) : RV t w' q s bad := (k.block q h.lt hq).trans h
theorem RV.below (h : RV t w q s bad) (k : Below w.heap.size w w') : RV t w' q s bad := (k.block q h.lt).trans h
theorem RV.set0 (h : RV t w q s bad) (s' : ByteArray) : RV t (w.setCell ⟨q, 0, none⟩ (.string s')) q s' bad := (set_at h _).trans rfl
theorem RV.set1 (h : RV t w q s bad) (b : Bool) : RV t (w.setCell ⟨q, 1, none⟩ (.bool b)) q s b := (set_at h _).trans rfl
end
end Go.Proofs.YthaepkpmpnofgaaGreat.State
