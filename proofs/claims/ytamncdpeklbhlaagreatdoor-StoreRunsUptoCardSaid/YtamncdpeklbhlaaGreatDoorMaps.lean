/- A map whose keys are ints, told by what it holds at each number: a look-up, a store, a delete. No statement is proved here. -/
import Derived.Test.YtamncdpeklbhlaaGreatDoorOnly
import Derived.Maps.OwnSet
namespace Go.Proofs.YtamncdpeklbhlaaGreatDoor.Keys
open Go.Maps (Keyed int_keyed keyOf_int_mk)
open Go.Proofs.YtamncdpeklbhlaaGreatDoor.Blocks

/-- How an element reads: as itself. -/
def asIs (v : Value) : Option (DataW Value × List MemPlace) := some (.held v, [])
/-- Block b is a map of at most n entries; at the number i it holds g i. -/
def MapAt (P : Program) (k : TypeId) (w : World) (b n : Nat) (g : Int → Option Value) : Prop :=
  ∃ D : DataW Value, w.ownsMap P k asIs b n D ∧ ∀ (i : Int) (z : DataW Value), D.atKey (.int .i64 i) z = (match g i with | some v => .held v | none => z)
/-- The same of a map's value: none, or a block. -/
def MapV (P : Program) (k : TypeId) (w : World) (mb : Option Nat) (n : Nat) (g : Int → Option Value) : Prop :=
  match mb with
  | none => ∀ i, g i = none
  | some b => MapAt P k w b n g

theorem wf_int {i : Int} (h0 : -9223372036854775808 ≤ i) (h1 : i ≤ 9223372036854775807) : (Lit.int .i64 i).wf = true := by
  simp [Lit.wf, IntKind.min, IntKind.max, IntKind.signed, IntKind.bits]; omega
theorem key_lit (q : IntKind) (i : Int) : WideAt.IsKeyLit (.int q i) := trivial

section
variable {P : Program} {k e t : TypeId} {w w' : World} {b n : Nat} {g : Int → Option Value}
theorem MapAt.lt (h : MapAt P k w b n g) : b < w.heap.size := by obtain ⟨D, ho, _⟩ := h; exact ho.lt
theorem MapAt.keep (h : MapAt P k w b n g) (hb : w'.heap[b]? = w.heap[b]?) : MapAt P k w' b n g := by
  obtain ⟨D, ⟨es, clock, h1, h2⟩, ha⟩ := h
  exact ⟨D, ⟨es, clock, hb.trans h1, h2⟩, ha⟩
theorem MapAt.drewn (h : MapAt P k w b n g) : MapAt P k w.drew b n g := h.keep rfl
theorem MapAt.more (h : MapAt P k w b n g) {n' : Nat} (hn : n ≤ n') : MapAt P k w b n' g := by
  obtain ⟨D, ho, ha⟩ := h
  exact ⟨D, ho.mono hn, ha⟩
theorem MapAt.same (h : MapAt P k w b n g) {g' : Int → Option Value} (hg : ∀ i, g' i = g i) : MapAt P k w b n g' := by
  rw [show g' = g from funext hg]; exact h
/-- A new map. -/
theorem mapAt_made (w : World) (P : Program) (k : TypeId) : MapAt P k (w.alloc (.map #[] 0)) w.heap.size 0 (fun _ => none) :=
  ⟨.map [], World.ownsMap_made w P k asIs, fun _ _ => rfl⟩
/-- m[i], with or without ok. -/
theorem MapAt.look (h : MapAt P k w b n g) (hk : P.underlying k = some (.int .i64)) (ht : P.underlying t = some (.map k e)) {z : Value} (hz : (zeroValue e).run P w = .ok z w) {i : Int} (h0 : -9223372036854775808 ≤ i) (h1 : i ≤ 9223372036854775807) (c : Bool) :
    (Instr.lookup t (.map (some b)) (.int .i64 i) c).run P w = .ok (if c then .tuple #[(g i).getD z, .bool (g i).isSome] else (g i).getD z) w := by
  obtain ⟨D, ⟨es, clock, hb, F, _, rfl⟩, ha⟩ := h
  rcases Maps.fit_look c (int_keyed hk) ht hz hb F (keyOf_int_mk hk (wf_int h0 h1)) with ⟨hrun, _, hat⟩ | ⟨e0, y, _, _, hrun, hR, hat, _⟩
  · have hg : g i = none := by
      cases hg : g i with
      | none => rfl
      | some v =>
        have e1 := ha i .nil
        rw [hat .nil, hg] at e1
        cases e1
    rw [hrun, hg]
    rfl
  · have hg : g i = some e0.val := by
      have e1 := ha i (.lit (.bool true))
      have e2 := ha i .nil
      rw [hat] at e1 e2
      simp only [asIs, Option.some.injEq] at hR
      subst hR
      cases hg : g i with
      | none => rw [hg] at e2; cases e2
      | some v =>
        rw [hg] at e2
        simp only [DataW.held.injEq] at e2
        rw [← e2]
    rw [hrun, hg]
    rfl
/-- m[i] = v. -/
theorem MapAt.store (h : MapAt P k w b n g) (hk : P.underlying k = some (.int .i64)) (ht : P.underlying t = some (.map k e)) (hn : n < maxLen) {i : Int} (h0 : -9223372036854775808 ≤ i) (h1 : i ≤ 9223372036854775807) (v : Value) :
    ∃ w', (Instr.mapUpdate t (.map (some b)) (.int .i64 i) v).run P w = .ok () w' ∧ MapAt P k w' b (n + 1) (fun j => if j = i then some v else g j) ∧ Only (fun q => q = b) w w' := by
  obtain ⟨D, ho, ha⟩ := h
  have hm := ho.isMap
  obtain ⟨w', hrun, ho', ht'⟩ := ho.store (int_keyed hk) ht hn (keyOf_int_mk hk (wf_int h0 h1)) (show asIs v = some (.held v, []) from rfl)
  refine ⟨w', hrun, ⟨_, ho', fun j z => ?_⟩, ?_⟩
  · by_cases hj : j = i
    · subst hj
      rw [Maps.atKey_put_same hm (key_lit _ _)]; simp
    · rw [Maps.atKey_put_other (by simpa using hj), ha]; simp [hj]
  · have hg := ht'.grown
    exact (Only.refl _ w).grown hg (fun q hq => by cases hq; exact .inr rfl)
/-- delete(m, i). -/
theorem MapAt.drop (h : MapAt P k w b n g) (hk : P.underlying k = some (.int .i64)) (ht : P.underlying t = some (.map k e)) {i : Int} (h0 : -9223372036854775808 ≤ i) (h1 : i ≤ 9223372036854775807) (ty : TypeId) :
    ∃ w', (Builtin.delete_ #[t, k] ty #[.map (some b), .int .i64 i]).run P w = .ok (.tuple #[]) w' ∧ MapAt P k w' b n (fun j => if j = i then none else g j) ∧ Only (fun q => q = b) w w' := by
  obtain ⟨D, ho, ha⟩ := h
  obtain ⟨w', hrun, ho', ht'⟩ := ho.drop (int_keyed hk) ht (keyOf_int_mk hk (wf_int h0 h1)) ty
  refine ⟨w', hrun, ⟨_, ho', fun j z => ?_⟩, ?_⟩
  · by_cases hj : j = i
    · subst hj
      rw [Maps.atKey_del_same]; simp
    · rw [Maps.atKey_del_other (by simpa using hj), ha]; simp [hj]
  · have hg := ht'.grown
    exact (Only.refl _ w).grown hg (fun q hq => by cases hq; exact .inr rfl)

variable {mb : Option Nat}
theorem MapV.keep (h : MapV P k w mb n g) (hb : ∀ b, mb = some b → w'.heap[b]? = w.heap[b]?) : MapV P k w' mb n g := by
  cases mb with
  | none => exact h
  | some b => exact MapAt.keep h (hb b rfl)
theorem MapV.lt (h : MapV P k w (some b) n g) : b < w.heap.size := MapAt.lt h
theorem MapV.more (h : MapV P k w mb n g) {n' : Nat} (hn : n ≤ n') : MapV P k w mb n' g := by
  cases mb with
  | none => exact h
  | some b => exact MapAt.more h hn
theorem MapV.same (h : MapV P k w mb n g) {g' : Int → Option Value} (hg : ∀ i, g' i = g i) : MapV P k w mb n g' := by
  rw [show g' = g from funext hg]; exact h
theorem MapV.look (h : MapV P k w mb n g) (hk : P.underlying k = some (.int .i64)) (ht : P.underlying t = some (.map k e)) {z : Value} (hz : (zeroValue e).run P w = .ok z w) {i : Int} (h0 : -9223372036854775808 ≤ i) (h1 : i ≤ 9223372036854775807) (c : Bool) :
    (Instr.lookup t (.map mb) (.int .i64 i) c).run P w = .ok (if c then .tuple #[(g i).getD z, .bool (g i).isSome] else (g i).getD z) w := by
  cases mb with
  | none =>
    have hg : g i = none := h i
    rw [Maps.look_nil c (int_keyed hk) ht hz (keyOf_int_mk hk (wf_int h0 h1)), hg]
    rfl
  | some b => exact MapAt.look h hk ht hz h0 h1 c
theorem MapV.drop (h : MapV P k w mb n g) (hk : P.underlying k = some (.int .i64)) (ht : P.underlying t = some (.map k e)) {i : Int} (h0 : -9223372036854775808 ≤ i) (h1 : i ≤ 9223372036854775807) (ty : TypeId) :
    ∃ w', (Builtin.delete_ #[t, k] ty #[.map mb, .int .i64 i]).run P w = .ok (.tuple #[]) w' ∧ MapV P k w' mb n (fun j => if j = i then none else g j) ∧ Only (fun q => mb = some q) w w' := by
  cases mb with
  | none => exact ⟨w, Maps.drop_nil (int_keyed hk) ht (keyOf_int_mk hk (wf_int h0 h1)) ty, fun j => by simp only []; split <;> first | rfl | exact h j, Only.refl _ w⟩
  | some b =>
    obtain ⟨w', hrun, h', ho⟩ := MapAt.drop h hk ht h0 h1 ty
    exact ⟨w', hrun, h', ho.mono fun q _ hq => by rw [hq]⟩
end

/-! ### at the operation, for the walk -/
section
variable {P : Program} (w : World) {ops : Array Oper} {rest : List Oper} {o : Oper} {a : Act} {Q : Exit → Act → World → Prop}
theorem wpList_look (hg : o.guard = none) (m x : Operand) (t : TypeId) (c : Bool) (hop : o.op = Op.lookup t m x c)
    (k e : TypeId) (hk : P.underlying k = some (.int .i64)) (ht : P.underlying t = some (.map k e)) (z : Value) (hz : (zeroValue e).run P w = .ok z w) (mb : Option Nat) (n : Nat) (g : Int → Option Value) (i : Int)
    (hm : a.eval m = .map mb) (hx : a.eval x = .int .i64 i) (h : MapV P k w mb n g) (h0 : -9223372036854775808 ≤ i) (h1 : i ≤ 9223372036854775807)
    (hK : wpList P ops Q rest (a.put o.dst (if c then .tuple #[(g i).getD z, .bool (g i).isSome] else (g i).getD z)) w) :
    wpList P ops Q (o :: rest) a w := by
  refine wpList_plain hg fun K' hK' => ?_
  have hrun := MapV.look h hk ht hz h0 h1 c
  unfold Oper.wp
  simp [execOp, hop, hm, hx, hrun, Result.andThen]
  exact hK' _ _ hK
theorem wpList_store (hg : o.guard = none) (m x u : Operand) (t : TypeId) (hop : o.op = Op.mapUpdate t m x u)
    (k e : TypeId) (hk : P.underlying k = some (.int .i64)) (ht : P.underlying t = some (.map k e)) (b n : Nat) (g : Int → Option Value) (i : Int) (v : Value)
    (hm : a.eval m = .map (some b)) (hx : a.eval x = .int .i64 i) (hv : a.eval u = v) (h : MapAt P k w b n g) (hn : n < maxLen) (h0 : -9223372036854775808 ≤ i) (h1 : i ≤ 9223372036854775807)
    (hK : ∀ w', MapAt P k w' b (n + 1) (fun j => if j = i then some v else g j) → Only (fun q => q = b) w w' → wpList P ops Q rest (a.put o.dst undef) w') :
    wpList P ops Q (o :: rest) a w := by
  refine wpList_plain hg fun K' hK' => ?_
  obtain ⟨w', hrun, r1, r2⟩ := h.store hk ht hn h0 h1 v
  unfold Oper.wp
  simp [execOp, hop, hm, hx, hv, hrun, Result.andThen]
  exact hK' _ _ (hK w' r1 r2)
theorem wpList_drop (hg : o.guard = none) (m x : Operand) (t k : TypeId) (hop : o.op = Op.call { callee := Callee.builtin Builtin.delete, args := #[m, x], argTypes := #[t, k] })
    (e : TypeId) (hk : P.underlying k = some (.int .i64)) (ht : P.underlying t = some (.map k e)) (mb : Option Nat) (n : Nat) (g : Int → Option Value) (i : Int)
    (hm : a.eval m = .map mb) (hx : a.eval x = .int .i64 i) (h : MapV P k w mb n g) (h0 : -9223372036854775808 ≤ i) (h1 : i ≤ 9223372036854775807)
    (hK : ∀ w', MapV P k w' mb n (fun j => if j = i then none else g j) → Only (fun q => mb = some q) w w' → wpList P ops Q rest (a.put o.dst (.tuple #[])) w') :
    wpList P ops Q (o :: rest) a w := by
  refine wpList_plain hg fun K' hK' => ?_
  obtain ⟨w', hrun, r1, r2⟩ := h.drop hk ht h0 h1 o.type
  unfold Oper.wp
  simp [execOp, hop, resolve, invoke, builtin, hm, hx, hrun, Result.andThen]
  exact hK' _ _ (hK w' r1 r2)
end
end Go.Proofs.YtamncdpeklbhlaaGreatDoor.Keys
