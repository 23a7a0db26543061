/- An append to the letters under way, whichever slice they lie in. No statement is proved here. -/
import Derived.Test.YtokifeghoodkgaaGreatOnly
import Derived.Maps.OwnSet
import Derived.Test.YtokifeghoodkgaaGreatGX
import Derived.Test.YtokifeghoodkgaaGreatAppL
import Derived.Deep.RegionLawGrows
import Derived.ArgAppend
namespace Go.Proofs.YtokifeghoodkgaaGreat.KeysU
open Go.Maps (Keyed int_keyed keyOf_int_mk)
open Go.Proofs.YtokifeghoodkgaaGreat.Blocks

/-- How an element reads: as itself. -/
def asIs (v : Value) : Option (DataW Value × List MemPlace) := some (.held v, [])
/-- Block b is a map of at most n entries; at the number i it holds g i. -/
def MapAt (P : Program) (k : TypeId) (w : World) (b n : Nat) (g : Int → Option Value) : Prop :=
  ∃ D : DataW Value, w.ownsMap P k asIs b n D ∧ ∀ (i : Int) (z : DataW Value), D.atKey (.int .u64 i) z = (match g i with | some v => .held v | none => z)
/-- The same of a map's value: none, or a block. -/
def MapV (P : Program) (k : TypeId) (w : World) (mb : Option Nat) (n : Nat) (g : Int → Option Value) : Prop :=
  match mb with
  | none => ∀ i, g i = none
  | some b => MapAt P k w b n g

theorem wf_int {i : Int} (h0 : 0 ≤ i) (h1 : i ≤ 18446744073709551615) : (Lit.int .u64 i).wf = true := by
  simp [Lit.wf, IntKind.min, IntKind.max, IntKind.signed, IntKind.bits]; omega
theorem key_lit (q : IntKind) (i : Int) : WideAt.IsKeyLit (.int q i) := trivial

section
variable {P : Program} {k e t : TypeId} {w w' : World} {b n : Nat} {g : Int → Option Value}
theorem MapAt.lt (h : MapAt P k w b n g) : b < w.heap.size := by obtain ⟨D, ho, _⟩ := h; exact ho.lt
theorem MapAt.keep (h : MapAt P k w b n g) (hb : w'.heap[b]? = w.heap[b]?) : MapAt P k w' b n g := by
  obtain ⟨D, ⟨es, clock, h1, h2⟩, ha⟩ := h
  exact ⟨D, ⟨es, clock, hb.trans h1, h2⟩, ha⟩
theorem MapAt.drewn (h : MapAt P k w b n g) : MapAt P k w.drew b n g := h.keep rfl
theorem MapAt.more (h : MapAt P k w b n g) {n' : Nat} (hn : n ≤ n') : MapAt P k w b n' g := by
  obtain ⟨D, ho, ha⟩ := h
  exact ⟨D, ho.mono hn, ha⟩
theorem MapAt.same (h : MapAt P k w b n g) {g' : Int → Option Value} (hg : ∀ i, g' i = g i) : MapAt P k w b n g' := by
  rw [show g' = g from funext hg]; exact h
/-- A new map. -/
theorem mapAt_made (w : World) (P : Program) (k : TypeId) : MapAt P k (w.alloc (.map #[] 0)) w.heap.size 0 (fun _ => none) :=
  ⟨.map [], World.ownsMap_made w P k asIs, fun _ _ => rfl⟩
/-- m[i], with or without ok. -/
theorem MapAt.look (h : MapAt P k w b n g) (hk : P.underlying k = some (.int .u64)) (ht : P.underlying t = some (.map k e)) {z : Value} (hz : (zeroValue e).run P w = .ok z w) {i : Int} (h0 : 0 ≤ i) (h1 : i ≤ 18446744073709551615) (c : Bool) :
    (Instr.lookup t (.map (some b)) (.int .u64 i) c).run P w = .ok (if c then .tuple #[(g i).getD z, .bool (g i).isSome] else (g i).getD z) w := by
  obtain ⟨D, ⟨es, clock, hb, F, _, rfl⟩, ha⟩ := h
  rcases Maps.fit_look c (int_keyed hk) ht hz hb F (keyOf_int_mk hk (wf_int h0 h1)) with ⟨hrun, _, hat⟩ | ⟨e0, y, _, _, hrun, hR, hat, _⟩
  · have hg : g i = none := by
      cases hg : g i with
      | none => rfl
      | some v =>
        have e1 := ha i .nil
        rw [hat .nil, hg] at e1
        cases e1
    rw [hrun, hg]
    rfl
  · have hg : g i = some e0.val := by
      have e1 := ha i (.lit (.bool true))
      have e2 := ha i .nil
      rw [hat] at e1 e2
      simp only [asIs, Option.some.injEq] at hR
      subst hR
      cases hg : g i with
      | none => rw [hg] at e2; cases e2
      | some v =>
        rw [hg] at e2
        simp only [DataW.held.injEq] at e2
        rw [← e2]
    rw [hrun, hg]
    rfl
/-- m[i] = v. -/
theorem MapAt.store (h : MapAt P k w b n g) (hk : P.underlying k = some (.int .u64)) (ht : P.underlying t = some (.map k e)) (hn : n < maxLen) {i : Int} (h0 : 0 ≤ i) (h1 : i ≤ 18446744073709551615) (v : Value) :
    ∃ w', (Instr.mapUpdate t (.map (some b)) (.int .u64 i) v).run P w = .ok () w' ∧ MapAt P k w' b (n + 1) (fun j => if j = i then some v else g j) ∧ Only (fun q => q = b) w w' := by
  obtain ⟨D, ho, ha⟩ := h
  have hm := ho.isMap
  obtain ⟨w', hrun, ho', ht'⟩ := ho.store (int_keyed hk) ht hn (keyOf_int_mk hk (wf_int h0 h1)) (show asIs v = some (.held v, []) from rfl)
  refine ⟨w', hrun, ⟨_, ho', fun j z => ?_⟩, ?_⟩
  · by_cases hj : j = i
    · subst hj
      rw [Maps.atKey_put_same hm (key_lit _ _)]; simp
    · rw [Maps.atKey_put_other (by simpa using hj), ha]; simp [hj]
  · have hg := ht'.grown
    exact (Only.refl _ w).grown hg (fun q hq => by cases hq; exact .inr rfl)
/-- delete(m, i). -/
theorem MapAt.drop (h : MapAt P k w b n g) (hk : P.underlying k = some (.int .u64)) (ht : P.underlying t = some (.map k e)) {i : Int} (h0 : 0 ≤ i) (h1 : i ≤ 18446744073709551615) (ty : TypeId) :
    ∃ w', (Builtin.delete_ #[t, k] ty #[.map (some b), .int .u64 i]).run P w = .ok (.tuple #[]) w' ∧ MapAt P k w' b n (fun j => if j = i then none else g j) ∧ Only (fun q => q = b) w w' := by
  obtain ⟨D, ho, ha⟩ := h
  obtain ⟨w', hrun, ho', ht'⟩ := ho.drop (int_keyed hk) ht (keyOf_int_mk hk (wf_int h0 h1)) ty
  refine ⟨w', hrun, ⟨_, ho', fun j z => ?_⟩, ?_⟩
  · by_cases hj : j = i
    · subst hj
      rw [Maps.atKey_del_same]; simp
    · rw [Maps.atKey_del_other (by simpa using hj), ha]; simp [hj]
  · have hg := ht'.grown
    exact (Only.refl _ w).grown hg (fun q hq => by cases hq; exact .inr rfl)

variable {mb : Option Nat}
theorem MapV.keep (h : MapV P k w mb n g) (hb : ∀ b, mb = some b → w'.heap[b]? = w.heap[b]?) : MapV P k w' mb n g := by
  cases mb with
  | none => exact h
  | some b => exact MapAt.keep h (hb b rfl)
theorem MapV.lt (h : MapV P k w (some b) n g) : b < w.heap.size := MapAt.lt h
theorem MapV.more (h : MapV P k w mb n g) {n' : Nat} (hn : n ≤ n') : MapV P k w mb n' g := by
  cases mb with
  | none => exact h
  | some b => exact MapAt.more h hn
theorem MapV.same (h : MapV P k w mb n g) {g' : Int → Option Value} (hg : ∀ i, g' i = g i) : MapV P k w mb n g' := by
  rw [show g' = g from funext hg]; exact h
theorem MapV.look (h : MapV P k w mb n g) (hk : P.underlying k = some (.int .u64)) (ht : P.underlying t = some (.map k e)) {z : Value} (hz : (zeroValue e).run P w = .ok z w) {i : Int} (h0 : 0 ≤ i) (h1 : i ≤ 18446744073709551615) (c : Bool) :
    (Instr.lookup t (.map mb) (.int .u64 i) c).run P w = .ok (if c then .tuple #[(g i).getD z, .bool (g i).isSome] else (g i).getD z) w := by
  cases mb with
  | none =>
    have hg : g i = none := h i
    rw [Maps.look_nil c (int_keyed hk) ht hz (keyOf_int_mk hk (wf_int h0 h1)), hg]
    rfl
  | some b => exact MapAt.look h hk ht hz h0 h1 c
theorem MapV.drop (h : MapV P k w mb n g) (hk : P.underlying k = some (.int .u64)) (ht : P.underlying t = some (.map k e)) {i : Int} (h0 : 0 ≤ i) (h1 : i ≤ 18446744073709551615) (ty : TypeId) :
    ∃ w', (Builtin.delete_ #[t, k] ty #[.map mb, .int .u64 i]).run P w = .ok (.tuple #[]) w' ∧ MapV P k w' mb n (fun j => if j = i then none else g j) ∧ Only (fun q => mb = some q) w w' := by
  cases mb with
  | none => exact ⟨w, Maps.drop_nil (int_keyed hk) ht (keyOf_int_mk hk (wf_int h0 h1)) ty, fun j => by simp only []; split <;> first | rfl | exact h j, Only.refl _ w⟩
  | some b =>
    obtain ⟨w', hrun, h', ho⟩ := MapAt.drop h hk ht h0 h1 ty
    exact ⟨w', hrun, h', ho.mono fun q _ hq => by rw [hq]⟩
end

/-! ### at the operation, for the walk -/
section
variable {P : Program} (w : World) {ops : Array Oper} {rest : List Oper} {o : Oper} {a : Act} {Q : Exit → Act → World → Prop}
theorem wpList_look (hg : o.guard = none) (m x : Operand) (t : TypeId) (c : Bool) (hop : o.op = Op.lookup t m x c)
    (k e : TypeId) (hk : P.underlying k = some (.int .u64)) (ht : P.underlying t = some (.map k e)) (z : Value) (hz : (zeroValue e).run P w = .ok z w) (mb : Option Nat) (n : Nat) (g : Int → Option Value) (i : Int)
    (hm : a.eval m = .map mb) (hx : a.eval x = .int .u64 i) (h : MapV P k w mb n g) (h0 : 0 ≤ i) (h1 : i ≤ 18446744073709551615)
    (hK : wpList P ops Q rest (a.put o.dst (if c then .tuple #[(g i).getD z, .bool (g i).isSome] else (g i).getD z)) w) :
    wpList P ops Q (o :: rest) a w := by
  refine wpList_plain hg fun K' hK' => ?_
  have hrun := MapV.look h hk ht hz h0 h1 c
  unfold Oper.wp
  simp [execOp, hop, hm, hx, hrun, Result.andThen]
  exact hK' _ _ hK
theorem wpList_store (hg : o.guard = none) (m x u : Operand) (t : TypeId) (hop : o.op = Op.mapUpdate t m x u)
    (k e : TypeId) (hk : P.underlying k = some (.int .u64)) (ht : P.underlying t = some (.map k e)) (b n : Nat) (g : Int → Option Value) (i : Int) (v : Value)
    (hm : a.eval m = .map (some b)) (hx : a.eval x = .int .u64 i) (hv : a.eval u = v) (h : MapAt P k w b n g) (hn : n < maxLen) (h0 : 0 ≤ i) (h1 : i ≤ 18446744073709551615)
    (hK : ∀ w', MapAt P k w' b (n + 1) (fun j => if j = i then some v else g j) → Only (fun q => q = b) w w' → wpList P ops Q rest (a.put o.dst undef) w') :
    wpList P ops Q (o :: rest) a w := by
  refine wpList_plain hg fun K' hK' => ?_
  obtain ⟨w', hrun, r1, r2⟩ := h.store hk ht hn h0 h1 v
  unfold Oper.wp
  simp [execOp, hop, hm, hx, hv, hrun, Result.andThen]
  exact hK' _ _ (hK w' r1 r2)
theorem wpList_drop (hg : o.guard = none) (m x : Operand) (t k : TypeId) (hop : o.op = Op.call { callee := Callee.builtin Builtin.delete, args := #[m, x], argTypes := #[t, k] })
    (e : TypeId) (hk : P.underlying k = some (.int .u64)) (ht : P.underlying t = some (.map k e)) (mb : Option Nat) (n : Nat) (g : Int → Option Value) (i : Int)
    (hm : a.eval m = .map mb) (hx : a.eval x = .int .u64 i) (h : MapV P k w mb n g) (h0 : 0 ≤ i) (h1 : i ≤ 18446744073709551615)
    (hK : ∀ w', MapV P k w' mb n (fun j => if j = i then none else g j) → Only (fun q => mb = some q) w w' → wpList P ops Q rest (a.put o.dst (.tuple #[])) w') :
    wpList P ops Q (o :: rest) a w := by
  refine wpList_plain hg fun K' hK' => ?_
  obtain ⟨w', hrun, r1, r2⟩ := h.drop hk ht h0 h1 o.type
  unfold Oper.wp
  simp [execOp, hop, resolve, invoke, builtin, hm, hx, hrun, Result.andThen]
  exact hK' _ _ (hK w' r1 r2)
end
end Go.Proofs.YtokifeghoodkgaaGreat.KeysU
set_option linter.unusedVariables false
namespace Go.Proofs.YtokifeghoodkgaaGreat.Town
open Go.RowKit Go.Proofs.YtokifeghoodkgaaGreat.Kit Go.Proofs.YtokifeghoodkgaaGreat.Blocks Go.Proofs.YtokifeghoodkgaaGreat.Rlog Go.Proofs.YtokifeghoodkgaaGreat.Ents Go.Proofs.YtokifeghoodkgaaGreat.LogAt Go.Proofs.YtokifeghoodkgaaGreat.Nod Go.Proofs.YtokifeghoodkgaaGreat.NodAt Go.Proofs.YtokifeghoodkgaaGreat.WalkI Go.Proofs.YtokifeghoodkgaaGreat.KeysU

def upd {α : Type} (f : Nat → α) (a : Nat) (x : α) (b : Nat) : α := if b = a then x else f b
theorem upd_eq {α : Type} (f : Nat → α) (a : Nat) (x : α) : upd f a x a = x := if_pos rfl
theorem upd_ne {α : Type} (f : Nat → α) {a b : Nat} (x : α) (h : b ≠ a) : upd f a x b = f b := if_neg h
/-- A block of one of the first k nodes. -/
def All (k : Nat) (ps : Nat → Nat) (zs : Nat → Seat) (q : Nat) : Prop := ∃ a, a < k ∧ Mine (ps a) (zs a) q
/-- The first k of seven nodes; their addresses lie in block r. -/
structure Sev (B r k : Nat) (ps : Nat → Nat) (zs : Nat → Seat) (ms : Nat → Nd) (W : World) : Prop where
  nd : ∀ a, a < k → PAt B W (ps a) (zs a) (ms a)
  apart : ∀ a b, a < k → b < k → a ≠ b → ∀ q, Mine (ps a) (zs a) q → ¬ Mine (ps b) (zs b) q
  arr : ∃ cs : Array Value, W.heap[r]? = some (.cells cs 75 (0, 0)) ∧ cs.size = 7 ∧ ∀ a, a < k → cs[a]? = some (.pointer (some ⟨ps a, 0, none⟩))
  off : ∀ a, a < k → ¬ Mine (ps a) (zs a) r
  low : B ≤ r
section
variable {B r k : Nat} {ps : Nat → Nat} {zs : Nat → Seat} {ms : Nat → Nd} {w W W' : World}
theorem Sev.lt (h : Sev B r k ps zs ms W) : r < W.heap.size := by obtain ⟨cs, hc, _⟩ := h.arr; exact lt_at hc
theorem Sev.base (h : Sev B r k ps zs ms W) : B ≤ W.heap.size := by have := h.low; have := h.lt; omega
theorem Sev.cell (h : Sev B r k ps zs ms W) {a : Nat} (ha : a < k) : W.cell? ⟨r, a, none⟩ = some (.pointer (some ⟨ps a, 0, none⟩)) := by
  obtain ⟨cs, hc, _, hv⟩ := h.arr
  rw [cell_at hc, hv a ha]
theorem Sev.all_lt (h : Sev B r k ps zs ms W) {q : Nat} (hq : All k ps zs q) : B ≤ q ∧ q < W.heap.size := by
  obtain ⟨a, ha, hm⟩ := hq
  exact NodeAt.mine_lt (h.nd a ha) hm
theorem Sev.below (h : Sev B r k ps zs ms W) (hb : Below W.heap.size W W') : Sev B r k ps zs ms W' := by
  obtain ⟨cs, hc, hs, hv⟩ := h.arr
  exact ⟨fun a ha => (h.nd a ha).below hb, h.apart, ⟨cs, (hb.block r (lt_at hc)).trans hc, hs, hv⟩, h.off, h.low⟩
theorem Sev.drew (h : Sev B r k ps zs ms W) : Sev B r k ps zs ms W.drew := h.below ((Below.refl _ _).drew)
theorem Sev.free (h : Sev B r k ps zs ms W) (a : Nat) : W.frozen? ⟨r, a, none⟩ = false := by
  obtain ⟨cs, hc, _⟩ := h.arr
  exact free_at hc a
theorem Sev.some_ (h : Sev B r k ps zs ms W) {a : Nat} (ha : a < 7) : ∃ u, W.cell? ⟨r, a, none⟩ = some u := by
  obtain ⟨cs, hc, hs, _⟩ := h.arr
  rw [cell_at hc]
  exact ⟨_, Array.getElem?_eq_getElem (by omega)⟩
theorem Sev.new (hB : B ≤ W.heap.size) (cs : Array Value) (hs : cs.size = 7) (ps : Nat → Nat) (zs : Nat → Seat) (ms : Nat → Nd) : Sev B W.heap.size 0 ps zs ms (W.alloc (.cells cs 75)) :=
  ⟨fun a ha => absurd ha (by omega), fun a b ha => absurd ha (by omega), ⟨cs, heap_alloc_new W _, hs, fun a ha => absurd ha (by omega)⟩, fun a ha => absurd ha (by omega), hB⟩
/-- Blocks that aren't the nodes' change. -/
theorem Sev.keep (h : Sev B r k ps zs ms W) {S : Nat → Prop} (o : Only S W W') (h1 : ∀ q, All k ps zs q → ¬ S q) (h2 : ¬ S r) (h3 : ∀ a, a < k → ∀ x ∈ (zs a).Z, Off S x.2.A x.2.n) : Sev B r k ps zs ms W' := by
  obtain ⟨cs, hc, hs, hv⟩ := h.arr
  exact ⟨fun a ha => NodeAt.keep (h.nd a ha) o (fun b hb => h1 b ⟨a, ha, hb⟩) (h3 a ha), h.apart, ⟨cs, o.heap hc h2, hs, hv⟩, h.off, h.low⟩
/-- One node more. -/
theorem Sev.more (h : Sev B r k ps zs ms W) (hk : k < 7) (hz : ∀ a, a < k → (zs a).Z = []) {w1 : World} {p : Nat} {z : Seat} {m : Nd} (hb : Below W.heap.size W w1) (hp : PAt W.heap.size w1 p z m) (hz2 : z.Z = []) :
    Sev B r (k + 1) (upd ps k p) (upd zs k z) (upd ms k m) (w1.setCell ⟨r, k, none⟩ (.pointer (some ⟨p, 0, none⟩))) := by
  have h1 := h.below hb
  obtain ⟨cs, hc, hs, hv⟩ := h1.arr
  have hset : Only (fun q => q = r) w1 (w1.setCell ⟨r, k, none⟩ (.pointer (some ⟨p, 0, none⟩))) := (Only.refl (fun q => q = r) w1).setCell (a := ⟨r, k, none⟩) (.inr rfl) _
  have hne : ∀ a, a < k → ∀ q, Mine (ps a) (zs a) q → q < W.heap.size := fun a ha q hq => (NodeAt.mine_lt (h.nd a ha) hq).2
  have hpl : ∀ q, Mine p z q → W.heap.size ≤ q := fun q hq => (NodeAt.mine_lt hp hq).1
  refine ⟨fun a ha => ?_, fun a b ha hb' hab q hq hq' => ?_, ⟨_, set_at hc _, by simp [hs], fun a ha => ?_⟩, fun a ha hq => ?_, h.low⟩
  · by_cases hak : a = k
    · subst hak; rw [upd_eq, upd_eq, upd_eq]
      exact (NodeAt.lower hp h.base).keep hset (fun q hq e => by have := hpl q hq; have := h.lt; omega) (fun x hx => by rw [hz2] at hx; cases hx)
    · rw [upd_ne _ _ hak, upd_ne _ _ hak, upd_ne _ _ hak]
      exact NodeAt.keep (h1.nd a (by omega)) hset (fun q hq e => h.off a (by omega) (e ▸ hq)) (fun x hx => by rw [hz a (by omega)] at hx; cases hx)
  · by_cases hak : a = k
    · subst hak
      rw [upd_eq, upd_eq] at hq
      rw [upd_ne _ _ (Ne.symm hab), upd_ne _ _ (Ne.symm hab)] at hq'
      have := hpl q hq
      have := hne b (by omega) q hq'
      omega
    · rw [upd_ne _ _ hak, upd_ne _ _ hak] at hq
      by_cases hbk : b = k
      · subst hbk
        rw [upd_eq, upd_eq] at hq'
        have := hpl q hq'
        have := hne a (by omega) q hq
        omega
      · rw [upd_ne _ _ hbk, upd_ne _ _ hbk] at hq'
        exact h.apart a b (by omega) (by omega) hab q hq hq'
  · by_cases hak : a = k
    · subst hak
      rw [upd_eq]
      simp [hs, hk]
    · rw [upd_ne _ _ hak]
      have := hv a (by omega)
      rw [Array.getElem?_setIfInBounds_ne (by omega)]
      exact this
  · by_cases hak : a = k
    · subst hak
      rw [upd_eq, upd_eq] at hq
      have := hpl r hq
      have := h.lt
      omega
    · rw [upd_ne _ _ hak, upd_ne _ _ hak] at hq
      exact h.off a (by omega) hq
end

/-! ### Letters under way, and the maps -/
/-- What changes: seats, nodes, the slice of letters, the letters, letters in hand, what the maps hold. -/
structure Dat where
  zs : Nat → Seat
  ms : Nat → Nd
  vn : Value
  Z : List (Msg × Pl)
  Y : List (Msg × Pl)
  nl : Nat
  na : Nat
  gl : Int → Option Value
  ga : Int → Option Value
/-- A slice of letters: one's own row, or a full one. -/
def Net (B : Nat) (W : World) (v : Value) (Z : List (Msg × Pl)) : Prop :=
  W.ownsRow B 47 10 v Z.length (lcs Z) ∨ ∃ g, v = .slice (some ⟨g, 0, none⟩) Z.length Z.length ∧ B ≤ g ∧ g < W.heap.size ∧ (∀ j u, (lcs Z)[j]? = some u → W.cell? ⟨g, j, none⟩ = some u) ∧ Z.length ≤ maxLen
def Ours (r bl ba : Nat) (v : Value) (q : Nat) : Prop := q = r ∨ q = bl ∨ q = ba ∨ v.ownBlock = some q
/-- All that the law has. -/
def Law (ps : Nat → Nat) (zs : Nat → Seat) (r bl ba : Nat) (v : Value) (q : Nat) : Prop := All 7 ps zs q ∨ Ours r bl ba v q
structure Town (B r bl ba : Nat) (ps : Nat → Nat) (d : Dat) (W : World) : Prop where
  sev : Sev B r 7 ps d.zs d.ms W
  net : Net B W d.vn d.Z
  lm : MapAt Tryz.prog 22 W bl d.nl d.gl
  am : MapAt Tryz.prog 22 W ba d.na d.ga
  fit : ∀ x, x ∈ d.Z ∨ x ∈ d.Y → Fit W (Law ps d.zs r bl ba d.vn) x.1 x.2
  fits : ∀ a, a < 7 → ∀ x ∈ (d.zs a).Z, Fit W (Law ps d.zs r bl ba d.vn) x.1 x.2
  off : ∀ q, All 7 ps d.zs q → ¬ Ours r bl ba d.vn q
  d1 : d.vn.ownBlock ≠ some r
  d2 : d.vn.ownBlock ≠ some bl
  d3 : d.vn.ownBlock ≠ some ba
  d4 : bl ≠ r
  d5 : ba ≠ r
  d6 : bl ≠ ba
  b1 : B ≤ bl
  b2 : B ≤ ba
section
variable {B r bl ba : Nat} {ps : Nat → Nat} {d : Dat} {v : Value} {Z : List (Msg × Pl)} {w W W' : World}
theorem Net.lt (h : Net B W v Z) {q : Nat} (hq : v.ownBlock = some q) : B ≤ q ∧ q < W.heap.size := by
  rcases h with h | ⟨g, rfl, h1, h2, _⟩
  · exact h.lt q hq
  · cases hq; exact ⟨h1, h2⟩
theorem Net.keep (h : Net B W v Z) {S : Nat → Prop} (o : Only S W W') (hs : ∀ q, v.ownBlock = some q → ¬ S q) : Net B W' v Z := by
  rcases h with h | ⟨g, rfl, h1, h2, h3, h4⟩
  · exact .inl (o.own h hs)
  · refine .inr ⟨g, rfl, h1, Nat.lt_of_lt_of_le h2 o.size, fun j u hj => ?_, h4⟩
    rw [← h3 j u hj]
    exact o.cell h2 (hs g rfl)
theorem Net.form (h : Net B W v Z) : ∃ A c, v = .slice A Z.length c ∧ Z.length ≤ c ∧ c ≤ maxLen ∧ (A = none → Z.length = 0 ∧ c = 0) ∧ (∀ ad, A = some ad → ∃ g, ad = ⟨g, 0, none⟩) ∧ RL W W.heap.size A Z.length Z := by
  rcases h with h | ⟨g, rfl, h1, h2, h3, h4⟩
  · obtain ⟨A, c, e, hc, hm, _⟩ := own_form h
    subst e
    refine ⟨A, c, rfl, hc, hm, fun e => ?_, fun ad e => ?_, Reads.of_own h⟩
    · subst e
      rcases h.2 with ⟨e, _⟩ | ⟨g, cap, cur, e, _⟩
      · injection e with _ e1 e2; exact ⟨e1, e2⟩
      · cases e
    · subst e
      rcases h.2 with ⟨e, _⟩ | ⟨g, cap, cur, e, _⟩
      · cases e
      · injection e with e1 _ _; cases e1; exact ⟨g, rfl⟩
  · refine ⟨_, _, rfl, Nat.le_refl _, h4, fun e => (by cases e), fun ad e => (by cases e; exact ⟨g, rfl⟩), by rw [lcs_length], fun _ => ⟨_, rfl, h2, fun j u hj => ?_⟩⟩
    rw [Addr.add_lit, Nat.zero_add]; exact h3 j u hj
theorem Town.ours_lt (h : Town B r bl ba ps d W) {q : Nat} (hq : Ours r bl ba d.vn q) : B ≤ q ∧ q < W.heap.size := by
  rcases hq with rfl | rfl | rfl | hq
  · exact ⟨h.sev.low, h.sev.lt⟩
  · exact ⟨h.b1, h.lm.lt⟩
  · exact ⟨h.b2, h.am.lt⟩
  · exact h.net.lt hq
theorem Town.law_lt (h : Town B r bl ba ps d W) {q : Nat} (hq : Law ps d.zs r bl ba d.vn q) : B ≤ q ∧ q < W.heap.size := by
  rcases hq with hq | hq
  · exact h.sev.all_lt hq
  · exact h.ours_lt hq
theorem Town.base (h : Town B r bl ba ps d W) : B ≤ W.heap.size := h.sev.base
/-- Blocks that the law hasn't change. -/
theorem Town.keep (h : Town B r bl ba ps d W) {S : Nat → Prop} (o : Only S W W') (hs : ∀ q, Law ps d.zs r bl ba d.vn q → ¬ S q) (h1 : ∀ x, x ∈ d.Z ∨ x ∈ d.Y → Off S x.2.A x.2.n) (h2 : ∀ a, a < 7 → ∀ x ∈ (d.zs a).Z, Off S x.2.A x.2.n) : Town B r bl ba ps d W' :=
  ⟨h.sev.keep o (fun q hq => hs q (.inl hq)) (hs r (.inr (.inl rfl))) h2, h.net.keep o fun q hq => hs q (.inr (.inr (.inr (.inr hq)))), h.lm.keep (o.block bl h.lm.lt (hs bl (.inr (.inr (.inl rfl))))), h.am.keep (o.block ba h.am.lt (hs ba (.inr (.inr (.inr (.inl rfl)))))),
    fun x hx => (h.fit x hx).keep o (h1 x hx), fun a ha x hx => (h.fits a ha x hx).keep o (h2 a ha x hx), h.off, h.d1, h.d2, h.d3, h.d4, h.d5, h.d6, h.b1, h.b2⟩
theorem Town.below (h : Town B r bl ba ps d W) (hb : Below W.heap.size W W') : Town B r bl ba ps d W' := h.keep (S := fun _ => False) (Only.of_below hb) (fun _ _ => id) (fun _ _ _ _ _ => id) (fun _ _ _ _ _ _ _ => id)
/-- Of the node a: the others' blocks, and the law's. -/
def Oth (ps : Nat → Nat) (zs : Nat → Seat) (r bl ba : Nat) (v : Value) (a : Nat) (q : Nat) : Prop := (∃ b, b < 7 ∧ b ≠ a ∧ Mine (ps b) (zs b) q) ∨ Ours r bl ba v q
theorem Town.open_ (h : Town B r bl ba ps d W) {a : Nat} (ha : a < 7) : PAt B W (ps a) { d.zs a with X := Oth ps d.zs r bl ba d.vn a } (d.ms a) := by
  have k := h.sev.nd a ha
  refine ⟨k.low, k.cell, k.log, k.kept, k.outs, k.said, fun x hx => (h.fits a ha x hx).less fun q hq => ?_, fun q hq => ?_, k.d1, k.d2, k.d3, k.d4, k.d5, k.d6⟩
  · rcases hq with hq | hq | hq
    · exact .inl ⟨a, ha, hq⟩
    · obtain ⟨b, hb, _, hm⟩ := hq; exact .inl ⟨b, hb, hm⟩
    · exact .inr hq
  · rcases hq with ⟨b, hb, _, hm⟩ | hq
    · exact (h.sev.all_lt ⟨b, hb, hm⟩).2
    · exact (h.ours_lt hq).2
/-- A call on the node a. -/
theorem Town.left (h : Town B r bl ba ps d W) {a : Nat} (ha : a < 7) {m' : Nd} (c : LeftP B W (ps a) { d.zs a with X := Oth ps d.zs r bl ba d.vn a } m' W') :
    ∃ z1, Town B r bl ba ps { d with zs := upd d.zs a z1, ms := upd d.ms a m' } W' ∧ Below B W W' := by
  obtain ⟨z1, k, g⟩ := c
  have hon : Only (Mine (ps a) (d.zs a)) W W' := g.only
  have hnew : ∀ q, Mine (ps a) z1 q → Mine (ps a) (d.zs a) q ∨ W.heap.size ≤ q := g.new
  have hX : z1.X = Oth ps d.zs r bl ba d.vn a := g.X
  have hall : ∀ q, All 7 ps (upd d.zs a z1) q → All 7 ps d.zs q ∨ W.heap.size ≤ q := fun q hq => by
    obtain ⟨b, hb, hm⟩ := hq
    by_cases e : b = a
    · subst e
      rw [upd_eq] at hm
      exact (hnew q hm).imp (fun h1 => ⟨b, hb, h1⟩) id
    · rw [upd_ne _ _ e] at hm
      exact .inl ⟨b, hb, hm⟩
  have hlaw : ∀ q, Law ps (upd d.zs a z1) r bl ba d.vn q → Law ps d.zs r bl ba d.vn q ∨ W.heap.size ≤ q := fun q hq => by
    rcases hq with hq | hq
    · exact (hall q hq).imp .inl id
    · exact .inl (.inr hq)
  have hmo : ∀ q, Ours r bl ba d.vn q → ¬ Mine (ps a) (d.zs a) q := fun q hq hm => h.off q ⟨a, ha, hm⟩ hq
  have hfz : ∀ x : Msg × Pl, Fit W (Law ps d.zs r bl ba d.vn) x.1 x.2 → Fit W' (Law ps (upd d.zs a z1) r bl ba d.vn) x.1 x.2 := fun x hx => (hx.to hlaw).keep hon fun hn ad e hm => hx.off hn ad e (.inl ⟨a, ha, hm⟩)
  refine ⟨z1, ⟨⟨fun b hb => ?_, fun b c hb hc hbc q hq hq' => ?_, ?_, fun b hb hq => ?_, h.sev.low⟩, h.net.keep hon fun q hq => hmo q (.inr (.inr (.inr hq))), h.lm.keep (hon.block bl h.lm.lt (hmo bl (.inr (.inl rfl)))), h.am.keep (hon.block ba h.am.lt (hmo ba (.inr (.inr (.inl rfl))))),
    fun x hx => hfz x (h.fit x hx), fun b hb x hx => ?_, fun q hq ho => ?_, h.d1, h.d2, h.d3, h.d4, h.d5, h.d6, h.b1, h.b2⟩, hon.below h.base fun q hq => (NodeAt.mine_lt (h.sev.nd a ha) hq).1⟩
  · show PAt B W' (ps b) (upd d.zs a z1 b) (upd d.ms a m' b)
    by_cases e : b = a
    · subst e; rw [upd_eq, upd_eq]; exact k
    · rw [upd_ne _ _ e, upd_ne _ _ e]
      exact NodeAt.keep (h.sev.nd b hb) hon (fun q hq hq' => h.sev.apart b a hb ha e q hq hq') fun x hx hn ad e2 hm => (h.fits b hb x hx).off hn ad e2 (.inl ⟨a, ha, hm⟩)
  · have k1 : Mine (ps b) (upd d.zs a z1 b) q := hq
    have k2 : Mine (ps c) (upd d.zs a z1 c) q := hq'
    clear hq hq'
    by_cases e : b = a
    · subst e
      rw [upd_eq] at k1
      rw [upd_ne _ _ (Ne.symm hbc)] at k2
      rcases hnew q k1 with h1 | h1
      · exact h.sev.apart b c ha hc hbc q h1 k2
      · have := (NodeAt.mine_lt (h.sev.nd c hc) k2).2; omega
    · rw [upd_ne _ _ e] at k1
      by_cases e2 : c = a
      · subst e2
        rw [upd_eq] at k2
        rcases hnew q k2 with h1 | h1
        · exact h.sev.apart b c hb ha hbc q k1 h1
        · have := (NodeAt.mine_lt (h.sev.nd b hb) k1).2; omega
      · rw [upd_ne _ _ e2] at k2
        exact h.sev.apart b c hb hc hbc q k1 k2
  · obtain ⟨cs, hc, hs, hv⟩ := h.sev.arr
    exact ⟨cs, (hon.block r (lt_at hc) (h.sev.off a ha)).trans hc, hs, hv⟩
  · have hq : Mine (ps b) (upd d.zs a z1 b) r := hq
    by_cases e : b = a
    · subst e
      rw [upd_eq] at hq
      rcases hnew r hq with h1 | h1
      · exact h.sev.off b ha h1
      · have := h.sev.lt; omega
    · rw [upd_ne _ _ e] at hq
      exact h.sev.off b hb hq
  · have hx : x ∈ (upd d.zs a z1 b).Z := hx
    by_cases e : b = a
    · subst e
      rw [upd_eq] at hx
      refine (k.fit x hx).less fun q hq => ?_
      rcases hq with ⟨c, hc, hm⟩ | hq
      · have hm : Mine (ps c) (upd d.zs b z1 c) q := hm
        by_cases e2 : c = b
        · subst e2; rw [upd_eq] at hm; exact .inl hm
        · rw [upd_ne _ _ e2] at hm
          right; rw [hX]
          exact .inl ⟨c, hc, e2, hm⟩
      · right; rw [hX]
        exact .inr hq
    · rw [upd_ne _ _ e] at hx
      exact hfz x (h.fits b hb x hx)
  · rcases hall q hq with h1 | h1
    · exact h.off q h1 ho
    · have := (h.ours_lt ho).2; omega
/-- Letters that were taken: their row, and that nothing of the law's is among their blocks. -/
structure Hand (B : Nat) (S : Nat → Prop) (W : World) (v : Value) (Z : List (Msg × Pl)) : Prop where
  row : W.ownsRow B 47 10 v Z.length (lcs Z)
  off : ∀ q, v.ownBlock = some q → ¬ S q
  fit : ∀ x ∈ Z, Fit W S x.1 x.2
theorem Town.took (h : Town B r bl ba ps d W) {a : Nat} (ha : a < 7) (k : PAt B W' (ps a) (bare (d.zs a)) (taken (d.ms a))) (o : Only (fun q => q = ps a) W W') :
    Town B r bl ba ps { d with zs := upd d.zs a (bare (d.zs a)), ms := upd d.ms a (taken (d.ms a)), Y := (d.zs a).Z } W' ∧ Hand B (Law ps (upd d.zs a (bare (d.zs a))) r bl ba d.vn) W' (d.zs a).vo (d.zs a).Z ∧ Below B W W' := by
  have hmp : Mine (ps a) (d.zs a) (ps a) := .inl rfl
  have hall : ∀ q, All 7 ps (upd d.zs a (bare (d.zs a))) q → All 7 ps d.zs q := fun q hq => by
    obtain ⟨b, hb, hm⟩ := hq
    by_cases e : b = a
    · subst e
      rw [upd_eq] at hm
      exact ⟨b, hb, bare_mine hm⟩
    · rw [upd_ne _ _ e] at hm
      exact ⟨b, hb, hm⟩
  have hlaw : ∀ q, Law ps (upd d.zs a (bare (d.zs a))) r bl ba d.vn q → Law ps d.zs r bl ba d.vn q := fun q hq => hq.imp (hall q) id
  have hop : ∀ x : Msg × Pl, Fit W (Law ps d.zs r bl ba d.vn) x.1 x.2 → Off (fun q => q = ps a) x.2.A x.2.n := fun x hx hn ad e hq => hx.off hn ad e (.inl ⟨a, ha, by rw [show ad.block = ps a from hq]; exact hmp⟩)
  have hfz : ∀ x : Msg × Pl, Fit W (Law ps d.zs r bl ba d.vn) x.1 x.2 → Fit W' (Law ps (upd d.zs a (bare (d.zs a))) r bl ba d.vn) x.1 x.2 := fun x hx => (hx.keep o (hop x hx)).less hlaw
  have hno : ∀ q, Ours r bl ba d.vn q → ¬ (q = ps a) := fun q hq e => h.off q ⟨a, ha, by rw [e]; exact hmp⟩ hq
  refine ⟨⟨⟨fun b hb => ?_, fun b c hb hc hbc q hq hq' => ?_, ?_, fun b hb hq => ?_, h.sev.low⟩, h.net.keep o fun q hq => hno q (.inr (.inr (.inr hq))), h.lm.keep (o.block bl h.lm.lt (hno bl (.inr (.inl rfl)))), h.am.keep (o.block ba h.am.lt (hno ba (.inr (.inr (.inl rfl))))),
    fun x hx => hfz x (by rcases hx with hx | hx; exact h.fit x (.inl hx); exact h.fits a ha x hx), fun b hb x hx => ?_, fun q hq => h.off q (hall q hq), h.d1, h.d2, h.d3, h.d4, h.d5, h.d6, h.b1, h.b2⟩, ⟨o.own (h.sev.nd a ha).outs fun q hq e => ?_, fun q hq hl => ?_, fun x hx => hfz x (h.fits a ha x hx)⟩, o.below h.base fun q hq => by subst hq; exact (h.sev.nd a ha).low⟩
  · show PAt B W' (ps b) (upd d.zs a _ b) (upd d.ms a _ b)
    by_cases e : b = a
    · subst e; rw [upd_eq, upd_eq]; exact k
    · rw [upd_ne _ _ e, upd_ne _ _ e]
      exact NodeAt.keep (h.sev.nd b hb) o (fun q hq hq' => h.sev.apart b a hb ha e q hq (by rw [hq']; exact hmp)) fun x hx => hop x (h.fits b hb x hx)
  · have hz : ∀ j, j < 7 → Mine (ps j) (upd d.zs a (bare (d.zs a)) j) q → Mine (ps j) (d.zs j) q := fun j hj hm => by
      by_cases e : j = a
      · subst e; rw [upd_eq] at hm; exact bare_mine hm
      · rw [upd_ne _ _ e] at hm; exact hm
    exact h.sev.apart b c hb hc hbc q (hz b hb hq) (hz c hc hq')
  · obtain ⟨cs, hc, hs, hv⟩ := h.sev.arr
    exact ⟨cs, o.heap hc (hno r (.inl rfl)), hs, hv⟩
  · have hq : Mine (ps b) (upd d.zs a (bare (d.zs a)) b) r := hq
    by_cases e : b = a
    · subst e
      rw [upd_eq] at hq
      exact h.sev.off b hb (bare_mine hq)
    · rw [upd_ne _ _ e] at hq
      exact h.sev.off b hb hq
  · have hx : x ∈ (upd d.zs a (bare (d.zs a)) b).Z := hx
    by_cases e : b = a
    · subst e
      rw [upd_eq] at hx
      cases hx
    · rw [upd_ne _ _ e] at hx
      exact hfz x (h.fits b hb x hx)
  · exact (h.sev.nd a ha).d3 (e ▸ hq)
  · have hmo : Mine (ps a) (d.zs a) q := .inr (.inr (.inr hq))
    rcases hl with ⟨b, hb, hm⟩ | hl
    · by_cases e : b = a
      · subst e
        rw [upd_eq] at hm
        have k := h.sev.nd b hb
        rcases hm with hm | hm | hm | hm
        · exact k.d3 (hm ▸ hq)
        · exact k.d5 q hm hq
        · cases hm
        · cases hm
      · rw [upd_ne _ _ e] at hm
        exact h.sev.apart b a hb ha e q hm hmo
    · exact h.off q ⟨a, ha, hmo⟩ hl
theorem Hand.below {S : Nat → Prop} (h : Hand B S W v Z) (hb : Below W.heap.size W W') : Hand B S W' v Z :=
  ⟨(Only.of_below (S := fun _ => False) hb).own h.row (fun _ _ => id), h.off, fun x hx => (h.fit x hx).below hb⟩
/-- Another slice of letters, w1, where only the elder one's block changed (and what is new). -/
theorem Town.renet (h : Town B r bl ba ps d W) {v' : Value} {Z' : List (Msg × Pl)} (o : Only (fun q => d.vn.ownBlock = some q) W W') (hn : Net B W' v' Z') (hat : ∀ q, v'.ownBlock = some q → d.vn.ownBlock = some q ∨ W.heap.size ≤ q)
    {Y' : List (Msg × Pl)} (hf : ∀ x, x ∈ Z' ∨ x ∈ Y' → Fit W (Law ps d.zs r bl ba d.vn) x.1 x.2) : Town B r bl ba ps { d with vn := v', Z := Z', Y := Y' } W' := by
  have hours : ∀ q, Ours r bl ba v' q → Ours r bl ba d.vn q ∨ W.heap.size ≤ q := fun q hq => by
    rcases hq with hq | hq | hq | hq
    · exact .inl (.inl hq)
    · exact .inl (.inr (.inl hq))
    · exact .inl (.inr (.inr (.inl hq)))
    · exact (hat q hq).imp (fun h => .inr (.inr (.inr h))) id
  have hlaw : ∀ q, Law ps d.zs r bl ba v' q → Law ps d.zs r bl ba d.vn q ∨ W.heap.size ≤ q := fun q hq => by
    rcases hq with hq | hq
    · exact .inl (.inl hq)
    · exact (hours q hq).imp .inr id
  have hop : ∀ x : Msg × Pl, Fit W (Law ps d.zs r bl ba d.vn) x.1 x.2 → Off (fun q => d.vn.ownBlock = some q) x.2.A x.2.n := fun x hx hn ad e hq => hx.off hn ad e (.inr (.inr (.inr (.inr hq))))
  have hfz : ∀ x : Msg × Pl, Fit W (Law ps d.zs r bl ba d.vn) x.1 x.2 → Fit W' (Law ps d.zs r bl ba v') x.1 x.2 := fun x hx => (hx.to hlaw).keep o (hop x hx)
  have hne : ∀ q, v'.ownBlock = some q → q < W.heap.size → d.vn.ownBlock = some q := fun q hq hl => by
    rcases hat q hq with e | e
    · exact e
    · omega
  exact ⟨h.sev.keep o (fun q hq e => h.off q hq (.inr (.inr (.inr e)))) h.d1 fun a ha x hx => hop x (h.fits a ha x hx), hn, h.lm.keep (o.block bl h.lm.lt h.d2), h.am.keep (o.block ba h.am.lt h.d3),
    fun x hx => hfz x (hf x hx), fun a ha x hx => hfz x (h.fits a ha x hx), fun q hq hq' => by
      rcases hours q hq' with e | e
      · exact h.off q hq e
      · have := (h.sev.all_lt hq).2; omega,
    fun e => h.d1 (hne r e h.sev.lt), fun e => h.d2 (hne bl e h.lm.lt), fun e => h.d3 (hne ba e h.am.lt), h.d4, h.d5, h.d6, h.b1, h.b2⟩
/-- A store into one of the maps. -/
theorem Town.relead (h : Town B r bl ba ps d W) {nl' : Nat} {gl' : Int → Option Value} (o : Only (fun q => q = bl) W W') (hm : MapAt Tryz.prog 22 W' bl nl' gl') : Town B r bl ba ps { d with nl := nl', gl := gl' } W' := by
  have hop : ∀ x : Msg × Pl, Fit W (Law ps d.zs r bl ba d.vn) x.1 x.2 → Off (fun q => q = bl) x.2.A x.2.n := fun x hx hn ad e hq => hx.off hn ad e (.inr (.inr (.inl hq)))
  exact ⟨h.sev.keep o (fun q hq e => h.off q hq (.inr (.inl e))) (fun e => h.d4 e.symm) fun a ha x hx => hop x (h.fits a ha x hx), h.net.keep o fun q hq e => h.d2 (e ▸ hq), hm, h.am.keep (o.block ba h.am.lt fun e => h.d6 e.symm),
    fun x hx => (h.fit x hx).keep o (hop x (h.fit x hx)), fun a ha x hx => (h.fits a ha x hx).keep o (hop x (h.fits a ha x hx)), h.off, h.d1, h.d2, h.d3, h.d4, h.d5, h.d6, h.b1, h.b2⟩
theorem Town.reagree (h : Town B r bl ba ps d W) {na' : Nat} {ga' : Int → Option Value} (o : Only (fun q => q = ba) W W') (hm : MapAt Tryz.prog 22 W' ba na' ga') : Town B r bl ba ps { d with na := na', ga := ga' } W' := by
  have hop : ∀ x : Msg × Pl, Fit W (Law ps d.zs r bl ba d.vn) x.1 x.2 → Off (fun q => q = ba) x.2.A x.2.n := fun x hx hn ad e hq => hx.off hn ad e (.inr (.inr (.inr (.inl hq))))
  exact ⟨h.sev.keep o (fun q hq e => h.off q hq (.inr (.inr (.inl e)))) (fun e => h.d5 e.symm) fun a ha x hx => hop x (h.fits a ha x hx), h.net.keep o fun q hq e => h.d3 (e ▸ hq), h.lm.keep (o.block bl h.lm.lt fun e => h.d6 e), hm,
    fun x hx => (h.fit x hx).keep o (hop x (h.fit x hx)), fun a ha x hx => (h.fits a ha x hx).keep o (hop x (h.fits a ha x hx)), h.off, h.d1, h.d2, h.d3, h.d4, h.d5, h.d6, h.b1, h.b2⟩
end
end Go.Proofs.YtokifeghoodkgaaGreat.Town
set_option linter.unusedVariables false
namespace Go.Proofs.YtokifeghoodkgaaGreat.AppG
open Go.RowKit Go.Proofs.YtokifeghoodkgaaGreat.Kit Go.Proofs.YtokifeghoodkgaaGreat.Blocks Go.Proofs.YtokifeghoodkgaaGreat.NodAt

section
variable {ops : Array Oper} {o : Oper} {a : Act} {K : Act → World → Prop} {Q : Exit → Act → World → Prop} {E : Prop}
theorem step_growL (w : World) (hgd : o.guard = none) (s x : Operand) (ho : o.op = Op.call { callee := Callee.builtin Builtin.append, args := #[s, x], argTypes := #[54, 54] })
    (g n cap : Nat) (olds : List Value) (hs : a.eval s = .slice (some ⟨g, 0, none⟩) n cap) (hlo : olds.length = n * 10) (holds : ∀ j u, olds[j]? = some u → w.cell? ⟨g, j, none⟩ = some u)
    (G O m c : Nat) (news : List Value) (hx : a.eval x = .slice (some ⟨G, O, none⟩) m c) (hn : news.length = m * 10) (hc : ∀ j u, news[j]? = some u → w.cell? ⟨G, O + j, none⟩ = some u) (h1c : ∀ u ∈ news, u.oneCell' = true)
    (hfull : cap < n + m) (hb : (n + m) * 104 ≤ 140737488355328)
    (hK : ∀ v' w', w'.ownsRow w.heap.size 47 10 v' (n + m) (olds ++ news) → w.grownBy w' none → K (a.put o.dst v') w') :
    if Region.wanted o (yielded ops a.tmps) = true then Oper.wp Tryz.prog o a w K Q else E := by
  obtain ⟨i0, hi0, hz0, hz1, hz2⟩ := info_parts infoL
  refine step_append_grows hgd s x 54 ho 47 i0 _ 10 104 Tryz.underlying54 hi0 hz0 hz1 hz2 rfl (by decide) (some ⟨g, 0, none⟩) n cap olds hs (fun e => by cases e) hlo (fun b e j u hj => ?_) ⟨G, O, none⟩ m c news hx hn (fun j u hj => ?_) h1c hfull (by unfold maxLen; omega) hb hK
  · cases e
    rw [Addr.add_lit, Nat.zero_add]
    exact holds j u hj
  · rw [Addr.add_lit]
    exact hc j u hj
theorem wpList_growL {rest : List Oper} {Q : Exit → Act → World → Prop} (w : World) (hgd : o.guard = none) (s x : Operand) (ho : o.op = Op.call { callee := Callee.builtin Builtin.append, args := #[s, x], argTypes := #[54, 54] })
    (g n cap : Nat) (olds : List Value) (hs : a.eval s = .slice (some ⟨g, 0, none⟩) n cap) (hlo : olds.length = n * 10) (holds : ∀ j u, olds[j]? = some u → w.cell? ⟨g, j, none⟩ = some u)
    (G O m c : Nat) (news : List Value) (hx : a.eval x = .slice (some ⟨G, O, none⟩) m c) (hn : news.length = m * 10) (hc : ∀ j u, news[j]? = some u → w.cell? ⟨G, O + j, none⟩ = some u) (h1c : ∀ u ∈ news, u.oneCell' = true)
    (hfull : cap < n + m) (hb : (n + m) * 104 ≤ 140737488355328)
    (hK : ∀ v' w', w'.ownsRow w.heap.size 47 10 v' (n + m) (olds ++ news) → w.grownBy w' none → wpList Tryz.prog ops Q rest (a.put o.dst v') w') : wpList Tryz.prog ops Q (o :: rest) a w := by
  obtain ⟨i0, hi0, hz0, hz1, hz2⟩ := info_parts infoL
  refine wpList_append_grows w hgd s x 54 ho 47 i0 _ 10 104 Tryz.underlying54 hi0 hz0 hz1 hz2 rfl (by decide) (some ⟨g, 0, none⟩) n cap olds hs (fun e => by cases e) hlo (fun b e j u hj => ?_) ⟨G, O, none⟩ m c news hx hn (fun j u hj => ?_) h1c hfull (by unfold maxLen; omega) hb hK
  · cases e
    rw [Addr.add_lit, Nat.zero_add]
    exact holds j u hj
  · rw [Addr.add_lit]
    exact hc j u hj
theorem run_noneL (w : World) (ty : TypeId) (g n cap : Nat) (hle : n ≤ cap) (A : Option Addr) (c : Nat) : (Builtin.append_ #[54, 54] ty #[.slice (some ⟨g, 0, none⟩) n cap, .slice A 0 c]).run Tryz.prog w = .ok (.slice (some ⟨g, 0, none⟩) n cap) w := by
  obtain ⟨i0, hi0, hz0, hz1, hz2⟩ := info_parts infoL
  cases A with
  | none => simp [Builtin.append_, run_underlying Tryz.underlying54, sizeOf, typeInfo, hi0, Builtin.lenOf, Builtin.firstCells, hle, storeCells]
  | some ad => simp [Builtin.append_, run_underlying Tryz.underlying54, sizeOf, typeInfo, hi0, Builtin.lenOf, Builtin.firstCells, hle, storeCells, loadCells, loadCellsFrom]
theorem step_noneL (w : World) (hgd : o.guard = none) (s x : Operand) (ho : o.op = .call { callee := .builtin .append, args := #[s, x], argTypes := #[54, 54] })
    (g n cap : Nat) (hs : a.eval s = .slice (some ⟨g, 0, none⟩) n cap) (hle : n ≤ cap) (A : Option Addr) (c : Nat) (hx : a.eval x = .slice A 0 c)
    (hK : K (a.put o.dst (.slice (some ⟨g, 0, none⟩) n cap)) w) : if Region.wanted o (yielded ops a.tmps) = true then Oper.wp Tryz.prog o a w K Q else E := by
  have hw : Region.wanted o (yielded ops a.tmps) = true := by simp [Region.wanted, hgd]
  rw [if_pos hw]
  unfold Oper.wp execOp
  simp only [ho, resolve, invoke, builtin, Sem.run_bind, Sem.run_pure, Result.andThen_ok, List.map_toArray, List.map_cons, List.map_nil, hs, hx, run_noneL w o.type g n cap hle A c]
  exact hK
theorem wpList_noneL {rest : List Oper} {Q : Exit → Act → World → Prop} (w : World) (hgd : o.guard = none) (s x : Operand) (ho : o.op = .call { callee := .builtin .append, args := #[s, x], argTypes := #[54, 54] })
    (g n cap : Nat) (hs : a.eval s = .slice (some ⟨g, 0, none⟩) n cap) (hle : n ≤ cap) (A : Option Addr) (c : Nat) (hx : a.eval x = .slice A 0 c)
    (hK : wpList Tryz.prog ops Q rest (a.put o.dst (.slice (some ⟨g, 0, none⟩) n cap)) w) : wpList Tryz.prog ops Q (o :: rest) a w := by
  refine wpList_plain hgd fun _ hK' => ?_
  unfold Oper.wp execOp
  simp only [ho, resolve, invoke, builtin, Sem.run_bind, Sem.run_pure, Result.andThen_ok, List.map_toArray, List.map_cons, List.map_nil, hs, hx, run_noneL w o.type g n cap hle A c]
  exact hK' _ _ hK
end
end Go.Proofs.YtokifeghoodkgaaGreat.AppG
set_option linter.unusedVariables false
namespace Go.Proofs.YtokifeghoodkgaaGreat.Town
open Go.RowKit Go.Proofs.YtokifeghoodkgaaGreat.Kit Go.Proofs.YtokifeghoodkgaaGreat.Blocks Go.Proofs.YtokifeghoodkgaaGreat.Rlog Go.Proofs.YtokifeghoodkgaaGreat.Nod Go.Proofs.YtokifeghoodkgaaGreat.NodAt Go.Proofs.YtokifeghoodkgaaGreat.AppL Go.Proofs.YtokifeghoodkgaaGreat.AppG

set_option maxRecDepth 100000 in
theorem net_append {B : Nat} {W : World} {v vo : Value} {Z Y : List (Msg × Pl)} (h : Net B W v Z) (k : W.ownsRow B 47 10 vo Y.length (lcs Y)) (hB : B ≤ W.heap.size) (hl : (Z.length + Y.length) * 104 ≤ 140737488355328) (ty : TypeId) :
    ∃ v' W', (Builtin.append_ #[54, 54] ty #[v, vo]).run Tryz.prog W = .ok v' W' ∧ Net B W' v' (Z ++ Y) ∧ Only (fun q => v.ownBlock = some q) W W' ∧ ∀ q, v'.ownBlock = some q → v.ownBlock = some q ∨ W.heap.size ≤ q := by
  obtain ⟨Ao, co, e, hc, hm, hform⟩ := own_form k
  subst e
  have hr : Reads W W.heap.size 10 Ao Y.length (lcs Y) := Reads.of_own k
  rcases h with h | ⟨g, rfl, h1, h2, h3, h4⟩
  · obtain ⟨A', c', w', hrun, ho, hg, hat⟩ := run_appL (c := co) W B h hr (lcs_one _) hl hB ty
    refine ⟨_, w', hrun, .inl ?_, (Only.refl _ W).grown hg (fun q hq => .inr hq), fun q hq => ?_⟩
    · rw [lcs_append, List.length_append]
      exact ho
    · rcases hat with e | e
      · exact .inl (e ▸ hq)
      · rw [hq] at e
        cases e
        exact .inr (Nat.le_refl _)
  · rcases Nat.eq_zero_or_pos Y.length with h0 | h0
    · have hy : Y = [] := List.eq_nil_of_length_eq_zero h0
      subst hy
      refine ⟨_, W, run_noneL W ty g Z.length Z.length (Nat.le_refl _) Ao co, ?_, Only.refl _ W, fun q hq => .inl hq⟩
      rw [List.append_nil]
      exact .inr ⟨g, rfl, h1, h2, h3, h4⟩
    · obtain ⟨i0, hi0, hz0, hz1, hz2⟩ := info_parts infoL
      obtain ⟨ad, rfl, hlt, hcs⟩ := hr.2 h0
      obtain ⟨v', w', hrun, ho, hg⟩ := run_append_arg_grows (P := Tryz.prog) (w := W) 54 ty 47 i0 _ 10 104 Tryz.underlying54 hi0 hz0 hz1 hz2 rfl (by decide) ⟨g, 0, none⟩ Z.length Z.length (lcs Z) (lcs_length Z) (fun j u hj => by rw [Addr.add_lit, Nat.zero_add]; exact h3 j u hj) ad Y.length co (lcs Y) (lcs_length Y) hcs (by omega) (by unfold maxLen; omega) hl
      refine ⟨v', w', hrun, .inl ?_, ?_, fun q hq => .inr (ho.lt q hq).1⟩
      · rw [lcs_append, List.length_append]
        exact own_base ho hB
      · exact (Only.refl _ W).grown hg (fun q hq => by cases hq)
/-- At the operation. -/
theorem wpList_net {ops : Array Oper} {rest : List Oper} {o : Oper} {a : Act} {Q : Exit → Act → World → Prop} (w : World) (hgd : o.guard = none) (s x : Operand) (ho : o.op = .call { callee := .builtin .append, args := #[s, x], argTypes := #[54, 54] })
    (vs vx : Value) (hs : a.eval s = vs) (hx : a.eval x = vx) {B : Nat} {Z Y : List (Msg × Pl)} (h : Net B w vs Z) (k : w.ownsRow B 47 10 vx Y.length (lcs Y)) (hB : B ≤ w.heap.size) (hl : (Z.length + Y.length) * 104 ≤ 140737488355328)
    (hK : ∀ v' w', Net B w' v' (Z ++ Y) → Only (fun q => vs.ownBlock = some q) w w' → (∀ q, v'.ownBlock = some q → vs.ownBlock = some q ∨ w.heap.size ≤ q) → wpList Tryz.prog ops Q rest (a.put o.dst v') w') : wpList Tryz.prog ops Q (o :: rest) a w := by
  refine wpList_plain hgd fun _ hK' => ?_
  obtain ⟨v', w', hrun, h1, h2, h3⟩ := net_append h k hB hl o.type
  unfold Oper.wp execOp
  simp only [ho, resolve, invoke, builtin, Sem.run_bind, Sem.run_pure, Result.andThen_ok, List.map_toArray, List.map_cons, List.map_nil, hs, hx, hrun]
  exact hK' _ _ (hK v' w' h1 h2 h3)
end Go.Proofs.YtokifeghoodkgaaGreat.Town
