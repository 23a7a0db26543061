/- A node in memory, the program's or the document's; what a call on one leaves. No statement is proved here. -/
import Derived.Test.YtdbmpfongfiagaaLogAt
import Derived.Test.YtdbmpfongfiagaaApp
import Derived.Test.YtdbmpfongfiagaaNod
import Derived.Test.YtdbmpfongfiagaaTold
set_option linter.unusedVariables false
namespace Go.Proofs.Ytdbmpfongfiagaa.NodAt
open Go.RowKit Go.Proofs.Ytdbmpfongfiagaa.Kit Go.Proofs.Ytdbmpfongfiagaa.Blocks Go.Proofs.Ytdbmpfongfiagaa.Rlog Go.Proofs.Ytdbmpfongfiagaa.Ents Go.Proofs.Ytdbmpfongfiagaa.LogAt Go.Proofs.Ytdbmpfongfiagaa.Nod
open Go.Proofs.Ytdbmpfongfiagaa.Told (unums)

/-! ### Letters in memory -/
/-- Where a letter's entries lie. -/
structure Pl where
  A : Option Addr
  n : Nat
  c : Nat
def noPl : Pl := ⟨none, 0, 0⟩
def ltCs (x : Msg) (a : Pl) : List Value := [.int .i64 x.k, .int .i64 x.f, .int .i64 x.t, .int .u64 (x.tm : Int), .int .u64 (x.ix : Int), .int .u64 (x.pv : Int), .int .u64 (x.cm : Int), .bool x.ok, .slice a.A a.n a.c, .string x.d]
def ltV (x : Msg) (a : Pl) : Value := .agg #[.int .i64 x.k, .int .i64 x.f, .int .i64 x.t, .int .u64 (x.tm : Int), .int .u64 (x.ix : Int), .int .u64 (x.pv : Int), .int .u64 (x.cm : Int), .bool x.ok, .slice a.A a.n a.c, .string x.d]
def lcs (Z : List (Msg × Pl)) : List Value := Z.flatMap fun z => ltCs z.1 z.2
theorem lcs_nil : lcs [] = [] := rfl
theorem lcs_cons (z : Msg × Pl) (Z : List (Msg × Pl)) : lcs (z :: Z) = ltCs z.1 z.2 ++ lcs Z := rfl
theorem lcs_append (Z Y : List (Msg × Pl)) : lcs (Z ++ Y) = lcs Z ++ lcs Y := by simp [lcs]
theorem lcs_single (z : Msg × Pl) : lcs [z] = ltCs z.1 z.2 := by simp [lcs]
theorem lcs_length (Z : List (Msg × Pl)) : (lcs Z).length = Z.length * 10 := by
  induction Z with
  | nil => rfl
  | cons z Z ih => rw [lcs_cons, List.length_append, ih]; simp [ltCs]; omega
theorem ltCs_one (x : Msg) (a : Pl) : ∀ u ∈ ltCs x a, u.oneCell' = true := by
  intro u hu
  simp only [ltCs, List.mem_cons, List.not_mem_nil, or_false] at hu
  rcases hu with rfl | rfl | rfl | rfl | rfl | rfl | rfl | rfl | rfl | rfl <;> rfl
theorem lcs_one (Z : List (Msg × Pl)) : ∀ u ∈ lcs Z, u.oneCell' = true := by
  intro u hu
  obtain ⟨e, _, he⟩ := List.mem_flatMap.1 hu
  exact ltCs_one e.1 e.2 u he
/-- The slice with address A and n elements holds these letters' cells. -/
abbrev RL (w : World) (B : Nat) (A : Option Addr) (n : Nat) (Z : List (Msg × Pl)) : Prop := Reads w B 10 A n (lcs Z)
/-- One new letter. -/
theorem lt_new (w : World) (x : Msg) (a : Pl) (t : TypeId) : RL (w.alloc (.cells (ltCs x a).toArray t)) (w.heap.size + 1) (some ⟨w.heap.size, 0, none⟩) 1 [(x, a)] := by
  refine ⟨by rw [lcs_length]; rfl, fun _ => ⟨_, rfl, Nat.lt_succ_self _, fun j u hj => ?_⟩⟩
  rw [lcs_single] at hj
  rw [Addr.add_lit, Nat.zero_add, cell_of_row _ _ j _ t (0, 0) (heap_alloc_new w _)]
  simpa using hj
/-- A letter's entries lie where it says, in no block of S. -/
structure Fit (w : World) (S : Nat → Prop) (x : Msg) (a : Pl) : Prop where
  re : RE w w.heap.size a.A a.n x.es
  fits : a.n ≤ a.c
  max : a.c ≤ 9223372036854775807
  few : a.n * 40 ≤ 140737488355328
  off : Off S a.A a.n

/-! ### A node -/
/-- Where a node lies, its own block aside: its log's block, the log's row, the row of what must last, the row of letters; the letters, each with its place; blocks of others, in which no letter's entries lie. -/
structure Seat where
  q : Nat
  vg : Value
  vk : Value
  vo : Value
  Z : List (Msg × Pl)
  X : Nat → Prop
def Mine (p : Nat) (z : Seat) (k : Nat) : Prop := k = p ∨ Foot z.q z.vg k ∨ z.vk.ownBlock = some k ∨ z.vo.ownBlock = some k
def Far (p : Nat) (z : Seat) (k : Nat) : Prop := Mine p z k ∨ z.X k
/-- Block p, of type T, is a node with these cells, log, entries and letters. -/
structure NodeAt (T TL : TypeId) (B : Nat) (w : World) (p : Nat) (z : Seat) (cs : List Value) (g : G) (kept : List Ent) (out : List Msg) : Prop where
  low : B ≤ p
  cell : w.heap[p]? = some (.cells cs.toArray T (0, 0))
  log : LogAt TL B w z.q z.vg g
  kept : w.ownsRow B 57 4 z.vk kept.length (ecells kept)
  outs : w.ownsRow B 41 10 z.vo z.Z.length (lcs z.Z)
  said : z.Z.map Prod.fst = out
  fit : ∀ x ∈ z.Z, Fit w (Far p z) x.1 x.2
  xlt : ∀ k, z.X k → k < w.heap.size
  d1 : ¬ Foot z.q z.vg p
  d2 : z.vk.ownBlock ≠ some p
  d3 : z.vo.ownBlock ≠ some p
  d4 : ∀ k, Foot z.q z.vg k → z.vk.ownBlock ≠ some k
  d5 : ∀ k, Foot z.q z.vg k → z.vo.ownBlock ≠ some k
  d6 : ∀ k, z.vk.ownBlock = some k → z.vo.ownBlock ≠ some k
/-- What a call on a node may change. -/
structure Grow (p : Nat) (z z' : Seat) (w w' : World) : Prop where
  q : z'.q = z.q
  only : Only (Mine p z) w w'
  new : ∀ k, Mine p z' k → Mine p z k ∨ w.heap.size ≤ k
  X : z'.X = z.X

section
variable {S S' : Nat → Prop} {w w' w1 w2 : World} {x : Msg} {a : Pl}
theorem Fit.keep (h : Fit w S x a) (k : Only S' w w') (ho : Off S' a.A a.n) : Fit w' S x a := by
  refine ⟨?_, h.fits, h.max, h.few, h.off⟩
  have := Off.reads ho k h.re (Nat.le_refl _)
  exact Reads.more this k.size
theorem Fit.own (h : Fit w S x a) (k : Only S w w') : Fit w' S x a := h.keep k h.off
theorem Fit.below (h : Fit w S x a) (k : Below w.heap.size w w') : Fit w' S x a := h.keep (S' := fun _ => False) (Only.of_below k) (fun _ _ _ => id)
theorem Fit.to (h : Fit w S x a) (hs : ∀ k, S' k → S k ∨ w.heap.size ≤ k) : Fit w S' x a := by
  refine ⟨h.re, h.fits, h.max, h.few, fun hn ad e hk => ?_⟩
  rcases hs _ hk with h1 | h1
  · exact h.off hn ad e h1
  · obtain ⟨ad', e', hb, _⟩ := h.re.2 hn
    rw [e] at e'
    cases e'
    omega
theorem Fit.none (w : World) (S : Nat → Prop) {x : Msg} (hx : x.es = []) : Fit w S x noPl := by
  refine ⟨?_, Nat.le_refl _, by show (0 : Nat) ≤ _; omega, by show 0 * 40 ≤ _; omega, Off.zero _ _⟩
  rw [hx]
  exact RE.nil _ _ _
end
section
variable {p : Nat} {z z' z1 z2 : Seat} {w w' w1 w2 : World}
theorem far_of {n : Nat} (h : ∀ k, Mine p z' k → Mine p z k ∨ n ≤ k) (hX : z'.X = z.X) : ∀ k, Far p z' k → Far p z k ∨ n ≤ k := fun k hk => by
  rcases hk with hk | hk
  · exact (h k hk).imp .inl id
  · rw [hX] at hk; exact .inl (.inr hk)
theorem Fit.less {S S' : Nat → Prop} {x : Msg} {a : Pl} (h : Fit w S x a) (hs : ∀ k, S' k → S k) : Fit w S' x a := h.to fun k hk => .inl (hs k hk)
theorem Grow.refl (p : Nat) (z : Seat) (w : World) : Grow p z z w w := ⟨rfl, Only.refl _ _, fun _ h => .inl h, rfl⟩
theorem Grow.trans (h : Grow p z z1 w w1) (k : Grow p z1 z2 w1 w2) : Grow p z z2 w w2 := by
  refine ⟨k.q.trans h.q, h.only.trans' k.only h.new, fun b hb => ?_, k.X.trans h.X⟩
  rcases k.new b hb with h1 | h1
  · exact h.new b h1
  · exact .inr (Nat.le_trans h.only.size h1)
theorem Grow.of_below (z : Seat) (h : Below w.heap.size w w') : Grow p z z w w' := ⟨rfl, Only.of_below h, fun _ h => .inl h, rfl⟩
theorem Grow.thenBelow (h : Grow p z z1 w w1) (k : Below w1.heap.size w1 w2) : Grow p z z1 w w2 := h.trans (Grow.of_below z1 k)
theorem Grow.afterBelow (h : Below w.heap.size w w1) (k : Grow p z z1 w1 w2) : Grow p z z1 w w2 := (Grow.of_below z h).trans k
/-- A block of the call's own is written behind that. -/
theorem Grow.boxed (h : Grow p z z1 w w1) {r : Nat} (hr : w.heap.size ≤ r) (o : Only (fun q => q = r) w1 w2) : Grow p z z1 w w2 :=
  ⟨h.q, h.only.trans' o fun q hq => .inr (by omega), h.new, h.X⟩
theorem Grow.fit {x : Msg} {a : Pl} (h : Grow p z z' w w') (f : Fit w (Mine p z) x a) : Fit w' (Mine p z') x a :=
  (f.to h.new).keep h.only f.off
theorem Grow.size (h : Grow p z z' w w') : w.heap.size ≤ w'.heap.size := h.only.size
theorem Grow.block (h : Grow p z z' w w') {k : Nat} {o : Obj} (hk : w.heap[k]? = some o) (hm : ¬ Mine p z k) : w'.heap[k]? = some o := h.only.heap hk hm
end

section
variable {T TL : TypeId} {B : Nat} {w w' w1 : World} {p : Nat} {z z' : Seat} {cs cs' : List Value} {g g' : G} {kept kept' : List Ent} {out out' : List Msg}
theorem NodeAt.plt (h : NodeAt T TL B w p z cs g kept out) : p < w.heap.size := lt_at h.cell
theorem NodeAt.base (h : NodeAt T TL B w p z cs g kept out) : B ≤ w.heap.size := by have := h.plt; have := h.low; omega
theorem NodeAt.mine_lt (h : NodeAt T TL B w p z cs g kept out) {k : Nat} (hk : Mine p z k) : B ≤ k ∧ k < w.heap.size := by
  rcases hk with rfl | hk | hk | hk
  · exact ⟨h.low, h.plt⟩
  · exact h.log.foot_lt hk
  · exact h.kept.lt k hk
  · exact h.outs.lt k hk
theorem NodeAt.far_lt (h : NodeAt T TL B w p z cs g kept out) {k : Nat} (hk : Far p z k) : k < w.heap.size := by
  rcases hk with hk | hk
  · exact (h.mine_lt hk).2
  · exact h.xlt k hk
theorem NodeAt.at_ (h : NodeAt T TL B w p z cs g kept out) {i : Nat} {u : Value} (hu : cs[i]? = some u) : w.cell? ⟨p, i, none⟩ = some u := by rw [cell_at h.cell]; simpa using hu
theorem NodeAt.free (h : NodeAt T TL B w p z cs g kept out) (i : Nat) : w.frozen? ⟨p, i, none⟩ = false := free_at h.cell i
theorem NodeAt.keep (h : NodeAt T TL B w p z cs g kept out) {S : Nat → Prop} (k : Only S w w') (h1 : ∀ b, Mine p z b → ¬ S b) (h2 : ∀ x ∈ z.Z, Off S x.2.A x.2.n) : NodeAt T TL B w' p z cs g kept out :=
  ⟨h.low, k.heap h.cell (h1 p (.inl rfl)), h.log.keep k fun b hb => h1 b (.inr (.inl hb)), k.own h.kept fun b hb => h1 b (.inr (.inr (.inl hb))), k.own h.outs fun b hb => h1 b (.inr (.inr (.inr hb))),
    h.said, fun x hx => (h.fit x hx).keep k (h2 x hx), fun b hb => Nat.lt_of_lt_of_le (h.xlt b hb) k.size, h.d1, h.d2, h.d3, h.d4, h.d5, h.d6⟩
theorem NodeAt.below (h : NodeAt T TL B w p z cs g kept out) (k : Below w.heap.size w w') : NodeAt T TL B w' p z cs g kept out :=
  h.keep (S := fun _ => False) (Only.of_below k) (by simp) (fun _ _ _ _ _ => id)
theorem NodeAt.drew (h : NodeAt T TL B w p z cs g kept out) : NodeAt T TL B w.drew p z cs g kept out := h.below ((Below.refl _ _).drew)
theorem NodeAt.drewN (h : NodeAt T TL B w p z cs g kept out) (n : Nat) : NodeAt T TL B (w.drewN n) p z cs g kept out := h.keep (S := fun _ => False) ((Only.refl _ _).drewN n) (by simp) (fun _ _ _ _ _ => id)
theorem NodeAt.lower (h : NodeAt T TL B w p z cs g kept out) {B' : Nat} (hb : B' ≤ B) : NodeAt T TL B' w p z cs g kept out :=
  ⟨Nat.le_trans hb h.low, h.cell, h.log.lower hb, own_base h.kept hb, own_base h.outs hb, h.said, h.fit, h.xlt, h.d1, h.d2, h.d3, h.d4, h.d5, h.d6⟩
/-- A cell of the node is writtenN. -/
theorem NodeAt.set (h : NodeAt T TL B w p z cs g kept out) (i : Nat) (u : Value) : NodeAt T TL B (w.setCell ⟨p, i, none⟩ u) p z (cs.set i u) g kept out ∧ Grow p z z w (w.setCell ⟨p, i, none⟩ u) := by
  have ho : Only (fun q => q = p) w (w.setCell ⟨p, i, none⟩ u) := (Only.refl (fun q => q = p) w).setCell (a := ⟨p, i, none⟩) (.inr rfl) _
  refine ⟨⟨h.low, by rw [set_at h.cell]; simp, h.log.keep ho fun b hb e => h.d1 (e ▸ hb), ho.own h.kept fun b hb e => h.d2 (e ▸ hb), ho.own h.outs fun b hb e => h.d3 (e ▸ hb), h.said, fun x hx => ?_, fun b hb => Nat.lt_of_lt_of_le (h.xlt b hb) ho.size, h.d1, h.d2, h.d3, h.d4, h.d5, h.d6⟩,
    rfl, ho.mono fun k _ e => .inl e, fun _ h => .inl h, rfl⟩
  exact (h.fit x hx).keep ho fun hn ad e hb => (h.fit x hx).off hn ad e (.inl (.inl hb))
/-- Its log is changed by a call of the log's. -/
theorem NodeAt.logged (h : NodeAt T TL B w p z cs g kept out) (k : LeftL TL B w z.q z.vg g' w') : ∃ v', NodeAt T TL B w' p { z with vg := v' } cs g' kept out ∧ Grow p z { z with vg := v' } w w' := by
  obtain ⟨v', h', o', f'⟩ := k
  have hfn : ∀ k, Foot z.q v' k → Foot z.q z.vg k ∨ w.heap.size ≤ k := fun k hk => by
    rcases hk with hk | hk
    · exact .inl (.inl hk)
    · exact (f' k hk).imp .inr id
  have hmn : ∀ k, Mine p { z with vg := v' } k → Mine p z k ∨ w.heap.size ≤ k := fun k hk => by
    rcases hk with hk | hk | hk
    · exact .inl (.inl hk)
    · exact (hfn k hk).imp (fun h => .inr (.inl h)) id
    · exact .inl (.inr (.inr hk))
  have hplt := h.plt
  refine ⟨v', ⟨h.low, o'.heap h.cell h.d1, h', o'.own h.kept fun b hb e => h.d4 b e hb, o'.own h.outs fun b hb e => h.d5 b e hb, h.said, fun x hx => ?_, fun b hb => Nat.lt_of_lt_of_le (h.xlt b hb) o'.size, fun e => ?_, h.d2, h.d3, fun k hk e => ?_, fun k hk e => ?_, h.d6⟩,
    rfl, o'.mono fun k _ e => .inr (.inl e), hmn, rfl⟩
  · exact ((h.fit x hx).to (far_of hmn rfl)).keep o' fun hn ad e hb => (h.fit x hx).off hn ad e (.inl (.inr (.inl hb)))
  · rcases hfn p e with h1 | h1
    · exact h.d1 h1
    · omega
  · rcases hfn k hk with h1 | h1
    · exact h.d4 k h1 e
    · have := (h.kept.lt k e).2; omega
  · rcases hfn k hk with h1 | h1
    · exact h.d5 k h1 e
    · have := (h.outs.lt k e).2; omega
/-- Another row of what must last: w1, where only that row changed (and what is new); then the field is writtenN. -/
theorem NodeAt.rekept (h : NodeAt T TL B w p z cs g kept out) {v' : Value} {n : Nat} {xs : List Value} (o : Only (fun q => z.vk.ownBlock = some q) w w1) (hown : w1.ownsRow B 57 4 v' n xs) (hn : n = kept'.length) (hx : xs = ecells kept')
    (hat : ∀ q, v'.ownBlock = some q → z.vk.ownBlock = some q ∨ w.heap.size ≤ q) (i : Nat) :
    w1.heap[p]? = some (.cells cs.toArray T (0, 0)) ∧ NodeAt T TL B (w1.setCell ⟨p, i, none⟩ v') p { z with vk := v' } (cs.set i v') g kept' out ∧ Grow p z { z with vk := v' } w (w1.setCell ⟨p, i, none⟩ v') := by
  subst hn hx
  have hc := o.heap h.cell h.d2
  have hset : Only (fun q => q = p) w1 (w1.setCell ⟨p, i, none⟩ v') := (Only.refl (fun q => q = p) w1).setCell (a := ⟨p, i, none⟩) (.inr rfl) v'
  have hplt := h.plt
  have hnp : v'.ownBlock ≠ some p := fun e => by
    rcases hat p e with e1 | e1
    · exact h.d2 e1
    · omega
  have hoo : Only (fun q => q = p ∨ z.vk.ownBlock = some q) w (w1.setCell ⟨p, i, none⟩ v') := (o.mono fun q _ hq => .inr hq).trans (hset.mono fun q _ hq => .inl hq)
  have hmn : ∀ k, Mine p { z with vk := v' } k → Mine p z k ∨ w.heap.size ≤ k := fun k hk => by
    rcases hk with hk | hk | hk | hk
    · exact .inl (.inl hk)
    · exact .inl (.inr (.inl hk))
    · exact (hat k hk).imp (fun h => .inr (.inr (.inl h))) id
    · exact .inl (.inr (.inr (.inr hk)))
  have hom : Only (Mine p z) w (w1.setCell ⟨p, i, none⟩ v') := hoo.mono fun q _ hq => by
    rcases hq with hq | hq
    · exact .inl hq
    · exact .inr (.inr (.inl hq))
  refine ⟨hc, ⟨h.low, by rw [set_at hc]; simp, h.log.keep hoo fun b hb e => ?_, hset.own hown fun b hb e => hnp (e ▸ hb), hoo.own h.outs fun b hb e => ?_, h.said, fun x hx => ((h.fit x hx).to (far_of hmn rfl)).keep hom fun hn ad e hb => (h.fit x hx).off hn ad e (.inl hb), fun b hb => Nat.lt_of_lt_of_le (h.xlt b hb) hom.size, h.d1, hnp, h.d3, fun k hk e => ?_, h.d5, fun k hk => ?_⟩,
    rfl, hom, hmn, rfl⟩
  · rcases e with rfl | e
    · exact h.d1 hb
    · exact h.d4 b hb e
  · rcases e with rfl | e
    · exact h.d3 hb
    · exact h.d6 b e hb
  · rcases hat k e with h1 | h1
    · exact h.d4 k hk h1
    · have := (h.log.foot_lt hk).2; omega
  · intro e
    rcases hat k hk with h1 | h1
    · exact h.d6 k h1 e
    · have := (h.outs.lt k e).2; omega
/-- Another row of letters: w1, where only that row changed (and what is new); then the field is writtenN. -/
theorem NodeAt.reout (h : NodeAt T TL B w p z cs g kept out) {v' : Value} {n : Nat} {xs : List Value} {Z' : List (Msg × Pl)} (o : Only (fun q => z.vo.ownBlock = some q) w w1) (hown : w1.ownsRow B 41 10 v' n xs) (hn : n = Z'.length) (hx : xs = lcs Z')
    (hat : ∀ q, v'.ownBlock = some q → z.vo.ownBlock = some q ∨ w.heap.size ≤ q) (hs : Z'.map Prod.fst = out') (hf : ∀ x ∈ Z', Fit w (Far p z) x.1 x.2) (i : Nat) :
    w1.heap[p]? = some (.cells cs.toArray T (0, 0)) ∧ NodeAt T TL B (w1.setCell ⟨p, i, none⟩ v') p { z with vo := v', Z := Z' } (cs.set i v') g kept out' ∧ Grow p z { z with vo := v', Z := Z' } w (w1.setCell ⟨p, i, none⟩ v') := by
  subst hn hx
  have hc := o.heap h.cell h.d3
  have hset : Only (fun q => q = p) w1 (w1.setCell ⟨p, i, none⟩ v') := (Only.refl (fun q => q = p) w1).setCell (a := ⟨p, i, none⟩) (.inr rfl) v'
  have hplt := h.plt
  have hnp : v'.ownBlock ≠ some p := fun e => by
    rcases hat p e with e1 | e1
    · exact h.d3 e1
    · omega
  have hoo : Only (fun q => q = p ∨ z.vo.ownBlock = some q) w (w1.setCell ⟨p, i, none⟩ v') := (o.mono fun q _ hq => .inr hq).trans (hset.mono fun q _ hq => .inl hq)
  have hmn : ∀ k, Mine p { z with vo := v', Z := Z' } k → Mine p z k ∨ w.heap.size ≤ k := fun k hk => by
    rcases hk with hk | hk | hk | hk
    · exact .inl (.inl hk)
    · exact .inl (.inr (.inl hk))
    · exact .inl (.inr (.inr (.inl hk)))
    · exact (hat k hk).imp (fun h => .inr (.inr (.inr h))) id
  have hom : Only (Mine p z) w (w1.setCell ⟨p, i, none⟩ v') := hoo.mono fun q _ hq => by
    rcases hq with hq | hq
    · exact .inl hq
    · exact .inr (.inr (.inr hq))
  refine ⟨hc, ⟨h.low, by rw [set_at hc]; simp, h.log.keep hoo fun b hb e => ?_, hoo.own h.kept fun b hb e => ?_, hset.own hown fun b hb e => hnp (e ▸ hb), hs, fun x hx => ((hf x hx).to (far_of hmn rfl)).keep hom fun hn ad e hb => (hf x hx).off hn ad e (.inl hb), fun b hb => Nat.lt_of_lt_of_le (h.xlt b hb) hom.size, h.d1, h.d2, hnp, h.d4, fun k hk e => ?_, fun k hk e => ?_⟩,
    rfl, hom, hmn, rfl⟩
  · rcases e with rfl | e
    · exact h.d1 hb
    · exact h.d5 b hb e
  · rcases e with rfl | e
    · exact h.d2 hb
    · exact h.d6 b hb e
  · rcases hat k e with h1 | h1
    · exact h.d5 k hk h1
    · have := (h.log.foot_lt hk).2; omega
  · rcases hat k e with h1 | h1
    · exact h.d6 k hk h1
    · have := (h.kept.lt k hk).2; omega
end

/-! ### The program's -/
def rcs (z : Seat) (m : Nd) : List Value := [z.vk, z.vo, .bool m.inst, .bool m.reset, .int .i64 (m.id : Int), .int .u64 (m.term : Int), .int .i64 m.vote, .pointer (some ⟨z.q, 0, none⟩), .int .i64 (m.role : Int), .int .i64 m.leader, .int .u64 (m.commit : Int), .int .u64 (m.votes : Int)] ++ (unums m.next ++ unums m.mat)
abbrev TR : TypeId := 68
abbrev TG : TypeId := 61
/-- The program's node lies at p. -/
abbrev PAt (B : Nat) (w : World) (p : Nat) (z : Seat) (m : Nd) : Prop := NodeAt TR TG B w p z (rcs z m) m.g m.kept m.out
/-- What a call on it leaves. -/
def LeftP (B : Nat) (w : World) (p : Nat) (z : Seat) (m' : Nd) (w' : World) : Prop := ∃ z', PAt B w' p z' m' ∧ Grow p z z' w w'
section
variable {B : Nat} {w w' w1 w2 : World} {p : Nat} {z z1 : Seat} {m m' m1 : Nd}
theorem PAt.c0 (h : PAt B w p z m) : w.cell? ⟨p, 0, none⟩ = some z.vk := h.at_ rfl
theorem PAt.c1 (h : PAt B w p z m) : w.cell? ⟨p, 1, none⟩ = some z.vo := h.at_ rfl
theorem PAt.c2 (h : PAt B w p z m) : w.cell? ⟨p, 2, none⟩ = some (.bool m.inst) := h.at_ rfl
theorem PAt.c3 (h : PAt B w p z m) : w.cell? ⟨p, 3, none⟩ = some (.bool m.reset) := h.at_ rfl
theorem PAt.c4 (h : PAt B w p z m) : w.cell? ⟨p, 4, none⟩ = some (.int .i64 (m.id : Int)) := h.at_ rfl
theorem PAt.c5 (h : PAt B w p z m) : w.cell? ⟨p, 5, none⟩ = some (.int .u64 (m.term : Int)) := h.at_ rfl
theorem PAt.c6 (h : PAt B w p z m) : w.cell? ⟨p, 6, none⟩ = some (.int .i64 m.vote) := h.at_ rfl
theorem PAt.c7 (h : PAt B w p z m) : w.cell? ⟨p, 7, none⟩ = some (.pointer (some ⟨z.q, 0, none⟩)) := h.at_ rfl
theorem PAt.c8 (h : PAt B w p z m) : w.cell? ⟨p, 8, none⟩ = some (.int .i64 (m.role : Int)) := h.at_ rfl
theorem PAt.c9 (h : PAt B w p z m) : w.cell? ⟨p, 9, none⟩ = some (.int .i64 m.leader) := h.at_ rfl
theorem PAt.c10 (h : PAt B w p z m) : w.cell? ⟨p, 10, none⟩ = some (.int .u64 (m.commit : Int)) := h.at_ rfl
theorem PAt.c11 (h : PAt B w p z m) : w.cell? ⟨p, 11, none⟩ = some (.int .u64 (m.votes : Int)) := h.at_ rfl
theorem unums_get (l : List Nat) {k : Nat} (hk : k < l.length) : (unums l)[k]? = some (.int .u64 (told l k : Int)) := by
  simp [unums, told, List.getD, List.getElem?_eq_getElem hk]
theorem PAt.nx (h : PAt B w p z m) (hl : m.next.length = 7) {k : Nat} (hk : k < 7) : w.cell? ⟨p, 12 + k, none⟩ = some (.int .u64 (told m.next k : Int)) := by
  refine h.at_ ?_
  unfold rcs
  rw [List.getElem?_append_right (by show 12 ≤ _; omega)]
  show (unums m.next ++ unums m.mat)[12 + k - 12]? = _
  rw [Nat.add_sub_cancel_left, List.getElem?_append_left (by rw [Told.unums_length]; omega), unums_get _ (by omega)]
theorem PAt.mt (h : PAt B w p z m) (hl : m.next.length = 7) (hm : m.mat.length = 7) {k : Nat} (hk : k < 7) : w.cell? ⟨p, 19 + k, none⟩ = some (.int .u64 (told m.mat k : Int)) := by
  refine h.at_ ?_
  unfold rcs
  rw [List.getElem?_append_right (by show 12 ≤ _; omega)]
  show (unums m.next ++ unums m.mat)[19 + k - 12]? = _
  rw [show 19 + k - 12 = 7 + k by omega, List.getElem?_append_right (by rw [Told.unums_length]; omega), Told.unums_length, hl, Nat.add_sub_cancel_left, unums_get _ (by omega)]
theorem PAt.below (h : PAt B w p z m) (k : Below w.heap.size w w') : PAt B w' p z m := NodeAt.below h k
theorem PAt.drew (h : PAt B w p z m) : PAt B w.drew p z m := NodeAt.drew h
theorem PAt.drewN (h : PAt B w p z m) (n : Nat) : PAt B (w.drewN n) p z m := NodeAt.drewN h n
theorem LeftP.refl (h : PAt B w p z m) : LeftP B w p z m w := ⟨z, h, Grow.refl _ _ _⟩
theorem LeftP.of_below (h : PAt B w p z m) (k : Below w.heap.size w w') : LeftP B w p z m w' := ⟨z, h.below k, Grow.of_below z k⟩
theorem LeftP.then (g1 : Grow p z z1 w w1) (k : LeftP B w1 p z1 m' w2) : LeftP B w p z m' w2 := by
  obtain ⟨z2, h2, g2⟩ := k
  exact ⟨z2, h2, g1.trans g2⟩
theorem LeftP.afterBelow (k1 : Below w.heap.size w w1) (k2 : LeftP B w1 p z m' w2) : LeftP B w p z m' w2 := LeftP.then (Grow.of_below z k1) k2
theorem LeftP.thenBelow (k1 : LeftP B w p z m' w1) (k2 : Below w1.heap.size w1 w2) : LeftP B w p z m' w2 := by
  obtain ⟨z1, h1, g1⟩ := k1
  exact ⟨z1, h1.below k2, g1.thenBelow k2⟩
theorem unums_set (l : List Nat) (k x : Nat) : (unums l).set k (.int .u64 (x : Int)) = unums (l.set k x) := by simp [unums, List.map_set]
/-- A cell of the node is writtenN: what it says then. -/
theorem PAt.setTo (h : PAt B w p z m) (i : Nat) (u : Value) (m' : Nd) (e : (rcs z m).set i u = rcs z m') (hg : m'.g = m.g) (hk : m'.kept = m.kept) (ho : m'.out = m.out) :
    PAt B (w.setCell ⟨p, i, none⟩ u) p z m' ∧ Grow p z z w (w.setCell ⟨p, i, none⟩ u) := by
  obtain ⟨h1, h2⟩ := NodeAt.set h i u
  rw [e, ← hg, ← hk, ← ho] at h1
  exact ⟨h1, h2⟩
theorem PAt.setNx (h : PAt B w p z m) (hl : m.next.length = 7) {k : Nat} (hk : k < 7) (x : Nat) :
    PAt B (w.setCell ⟨p, 12 + k, none⟩ (.int .u64 (x : Int))) p z { m with next := m.next.set k x } ∧ Grow p z z w (w.setCell ⟨p, 12 + k, none⟩ (.int .u64 (x : Int))) := by
  refine h.setTo _ _ _ ?_ rfl rfl rfl
  unfold rcs
  rw [List.set_append_right _ _ (by show 12 ≤ _; omega)]
  show _ ++ (unums m.next ++ unums m.mat).set (12 + k - 12) _ = _
  rw [Nat.add_sub_cancel_left, List.set_append_left _ _ (by rw [Told.unums_length]; omega), unums_set]
theorem PAt.setMt (h : PAt B w p z m) (hl : m.next.length = 7) {k : Nat} (hk : k < 7) (x : Nat) :
    PAt B (w.setCell ⟨p, 19 + k, none⟩ (.int .u64 (x : Int))) p z { m with mat := m.mat.set k x } ∧ Grow p z z w (w.setCell ⟨p, 19 + k, none⟩ (.int .u64 (x : Int))) := by
  refine h.setTo _ _ _ ?_ rfl rfl rfl
  unfold rcs
  rw [List.set_append_right _ _ (by show 12 ≤ _; omega)]
  show _ ++ (unums m.next ++ unums m.mat).set (19 + k - 12) _ = _
  rw [show 19 + k - 12 = 7 + k by omega, List.set_append_right _ _ (by rw [Told.unums_length]; omega), Told.unums_length, hl, Nat.add_sub_cancel_left, unums_set]
end
/-! ### A letter in a box -/
structure LBox (W : World) (r : Nat) (x : Msg) (a : Pl) : Prop where
  blk : W.heap[r]? = some (.cells (ltCs x a).toArray 41 (0, 0))
section
variable {w W W' : World} {r : Nat} {x : Msg} {a : Pl}
theorem LBox.new (w : World) (x : Msg) (a : Pl) : LBox (w.alloc (.cells (ltCs x a).toArray 41)) w.heap.size x a := ⟨heap_alloc_new w _⟩
theorem LBox.lt (h : LBox W r x a) : r < W.heap.size := lt_at h.blk
theorem LBox.c0 (h : LBox W r x a) : W.cell? ⟨r, 0, none⟩ = some (.int .i64 x.k) := by rw [cell_at h.blk]; rfl
theorem LBox.c1 (h : LBox W r x a) : W.cell? ⟨r, 1, none⟩ = some (.int .i64 x.f) := by rw [cell_at h.blk]; rfl
theorem LBox.c2 (h : LBox W r x a) : W.cell? ⟨r, 2, none⟩ = some (.int .i64 x.t) := by rw [cell_at h.blk]; rfl
theorem LBox.c3 (h : LBox W r x a) : W.cell? ⟨r, 3, none⟩ = some (.int .u64 (x.tm : Int)) := by rw [cell_at h.blk]; rfl
theorem LBox.c4 (h : LBox W r x a) : W.cell? ⟨r, 4, none⟩ = some (.int .u64 (x.ix : Int)) := by rw [cell_at h.blk]; rfl
theorem LBox.c5 (h : LBox W r x a) : W.cell? ⟨r, 5, none⟩ = some (.int .u64 (x.pv : Int)) := by rw [cell_at h.blk]; rfl
theorem LBox.c6 (h : LBox W r x a) : W.cell? ⟨r, 6, none⟩ = some (.int .u64 (x.cm : Int)) := by rw [cell_at h.blk]; rfl
theorem LBox.c7 (h : LBox W r x a) : W.cell? ⟨r, 7, none⟩ = some (.bool x.ok) := by rw [cell_at h.blk]; rfl
theorem LBox.c8 (h : LBox W r x a) : W.cell? ⟨r, 8, none⟩ = some (.slice a.A a.n a.c) := by rw [cell_at h.blk]; rfl
theorem LBox.c9 (h : LBox W r x a) : W.cell? ⟨r, 9, none⟩ = some (.string x.d) := by rw [cell_at h.blk]; rfl
theorem LBox.free (h : LBox W r x a) (i : Nat) : W.frozen? ⟨r, i, none⟩ = false := free_at h.blk i
theorem LBox.keep (h : LBox W r x a) {S : Nat → Prop} (k : Only S W W') (hs : ¬ S r) : LBox W' r x a := ⟨k.heap h.blk hs⟩
theorem LBox.below (h : LBox W r x a) (k : Below W.heap.size W W') : LBox W' r x a := ⟨(k.block r h.lt).trans h.blk⟩
/-- A letter is signed where it lies. -/
theorem LBox.signed (h : LBox W r x a) (m : Nd) : LBox ((W.setCell ⟨r, 1, none⟩ (.int .i64 (m.id : Int))).setCell ⟨r, 3, none⟩ (.int .u64 (m.term : Int))) r (sign m x) a ∧ Only (fun q => q = r) W ((W.setCell ⟨r, 1, none⟩ (.int .i64 (m.id : Int))).setCell ⟨r, 3, none⟩ (.int .u64 (m.term : Int))) := by
  refine ⟨⟨?_⟩, ((Only.refl (fun q => q = r) W).setCell (a := ⟨r, 1, none⟩) (.inr rfl) _).setCell (a := ⟨r, 3, none⟩) (.inr rfl) _⟩
  rw [set_at (set_at h.blk _) _]
  rfl
/-- Its ten loads. -/
structure Ten (W : World) (r : Nat) (x : Msg) (a : Pl) : Prop where
  c0 : W.cell? ⟨r, 0, none⟩ = some (.int .i64 x.k)
  c1 : W.cell? ⟨r, 1, none⟩ = some (.int .i64 x.f)
  c2 : W.cell? ⟨r, 2, none⟩ = some (.int .i64 x.t)
  c3 : W.cell? ⟨r, 3, none⟩ = some (.int .u64 (x.tm : Int))
  c4 : W.cell? ⟨r, 4, none⟩ = some (.int .u64 (x.ix : Int))
  c5 : W.cell? ⟨r, 5, none⟩ = some (.int .u64 (x.pv : Int))
  c6 : W.cell? ⟨r, 6, none⟩ = some (.int .u64 (x.cm : Int))
  c7 : W.cell? ⟨r, 7, none⟩ = some (.bool x.ok)
  c8 : W.cell? ⟨r, 8, none⟩ = some (.slice a.A a.n a.c)
  c9 : W.cell? ⟨r, 9, none⟩ = some (.string x.d)
theorem LBox.ten (h : LBox W r x a) : Ten W r x a := ⟨h.c0, h.c1, h.c2, h.c3, h.c4, h.c5, h.c6, h.c7, h.c8, h.c9⟩
end
theorem sz10 (w : World) : (Go.sizeOf 41).run Try.prog w = .ok 10 w := by kernel_rfl
theorem infoL : (Try.prog.info? 41).map (fun i => (i.zero, i.size, i.bytes)) = some (some (.agg #[.int .i64 0, .int .i64 0, .int .i64 0, .int .u64 0, .int .u64 0, .int .u64 0, .int .u64 0, .bool false, .slice none 0 0, .string .empty]), 10, 104) := by kernel_rfl
end Go.Proofs.Ytdbmpfongfiagaa.NodAt
