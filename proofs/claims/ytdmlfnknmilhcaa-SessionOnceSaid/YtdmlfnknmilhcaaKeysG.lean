/- A map, told by what it holds at each key: a look-up, a store; keys of two numbers. No statement is proved here. -/
import Derived.Test.YtdmlfnknmilhcaaOnly
import Derived.Maps.OwnSet
import Derived.Test.YtdmlfnknmilhcaaRws
import Derived.DeepKeys5
import Derived.WideKeyPair
import Derived.Deep.RegionLaw
namespace Go.Proofs.Ytdmlfnknmilhcaa.KeysG
open Go.Maps (Keyed int_keyed keyOf_int_mk)
open Go.WideMaps
open Go.Proofs.Ytdmlfnknmilhcaa.Blocks

/-- How an element reads: as itself. -/
def asIs (v : Value) : Option (DataW Value × List MemPlace) := some (.held v, [])
/-- Block b is a map of at most n entries; at the number i it holds g i. -/
def MapAt (P : Program) (k : TypeId) (w : World) (b n : Nat) (g : Lit → Option Value) : Prop :=
  ∃ D : DataW Value, w.ownsMap P k asIs b n D ∧ ∀ (i : Lit), WideAt.IsKeyLit i → ∀ (z : DataW Value), D.atKey i z = (match g i with | some v => .held v | none => z)
theorem wf_int {i : Int} (h0 : 0 ≤ i) (h1 : i ≤ 18446744073709551615) : (Lit.int .u64 i).wf = true := by
  simp [Lit.wf, IntKind.min, IntKind.max, IntKind.signed, IntKind.bits]; omega
/-- One key holds another. -/
def upd (g : Lit → Option Value) (i : Lit) (v : Value) : Lit → Option Value := fun j => if j.sameKey i = true then some v else g j
theorem upd_same (g : Lit → Option Value) {i : Lit} (v : Value) (h : WideAt.IsKeyLit i) : upd g i v i = some v := if_pos (WideAt.sameKey_self h)
theorem upd_other (g : Lit → Option Value) {i j : Lit} (v : Value) (h : j ≠ i) : upd g i v j = g j := if_neg fun e => h (WideAt.sameKey_eq e)
theorem lp_key (a b : Nat) : WideAt.IsKeyLit (.string (keyBytes [.int .u64 (a : Int), .int .u64 (b : Int)])) := trivial
section
variable {P : Program} {k e t : TypeId} {w w' : World} {b n : Nat} {g : Lit → Option Value}
theorem MapAt.lt (h : MapAt P k w b n g) : b < w.heap.size := by obtain ⟨D, ho, _⟩ := h; exact ho.lt
theorem MapAt.keep (h : MapAt P k w b n g) (hb : w'.heap[b]? = w.heap[b]?) : MapAt P k w' b n g := by
  obtain ⟨D, ⟨es, clock, h1, h2⟩, ha⟩ := h
  exact ⟨D, ⟨es, clock, hb.trans h1, h2⟩, ha⟩
theorem MapAt.drewn (h : MapAt P k w b n g) : MapAt P k w.drew b n g := h.keep rfl
theorem MapAt.more (h : MapAt P k w b n g) {n' : Nat} (hn : n ≤ n') : MapAt P k w b n' g := by
  obtain ⟨D, ho, ha⟩ := h
  exact ⟨D, ho.mono hn, ha⟩
theorem MapAt.same (h : MapAt P k w b n g) {g' : Lit → Option Value} (hg : ∀ i, g' i = g i) : MapAt P k w b n g' := by
  rw [show g' = g from funext hg]; exact h
/-- A new map. -/
theorem mapAt_made (w : World) (P : Program) (k : TypeId) : MapAt P k (w.alloc (.map #[] 0)) w.heap.size 0 (fun _ => none) :=
  ⟨.map [], World.ownsMap_made w P k asIs, fun _ _ _ => rfl⟩
/-- m[i], with or without ok. -/
theorem MapAt.look (h : MapAt P k w b n g) (K : Keyed P k) (ht : P.underlying t = some (.map k e)) {z : Value} (hz : (zeroValue e).run P w = .ok z w) {x : Value} {i : Lit} (hx : keyOf P k x = some i) (c : Bool) :
    (Instr.lookup t (.map (some b)) x c).run P w = .ok (if c then .tuple #[(g i).getD z, .bool (g i).isSome] else (g i).getD z) w := by
  obtain ⟨D, ⟨es, clock, hb, F, _, rfl⟩, ha⟩ := h
  rcases Maps.fit_look c K ht hz hb F hx with ⟨hrun, _, hat⟩ | ⟨e0, y, _, _, hrun, hR, hat, _⟩
  · have hg : g i = none := by
      cases hg : g i with
      | none => rfl
      | some v =>
        have e1 := ha i (K.key hx) .nil
        rw [hat .nil, hg] at e1
        cases e1
    rw [hrun, hg]
    rfl
  · have hg : g i = some e0.val := by
      have e1 := ha i (K.key hx) (.lit (.bool true))
      have e2 := ha i (K.key hx) .nil
      rw [hat] at e1 e2
      simp only [asIs, Option.some.injEq] at hR
      subst hR
      cases hg : g i with
      | none => rw [hg] at e2; cases e2
      | some v =>
        rw [hg] at e2
        simp only [DataW.held.injEq] at e2
        rw [← e2]
    rw [hrun, hg]
    rfl
/-- m[i] = v. -/
theorem MapAt.store (h : MapAt P k w b n g) (K : Keyed P k) (ht : P.underlying t = some (.map k e)) (hn : n < maxLen) {x : Value} {i : Lit} (hx : keyOf P k x = some i) (v : Value) :
    ∃ w', (Instr.mapUpdate t (.map (some b)) x v).run P w = .ok () w' ∧ MapAt P k w' b (n + 1) (upd g i v) ∧ Only (fun q => q = b) w w' := by
  obtain ⟨D, ho, ha⟩ := h
  have hm := ho.isMap
  obtain ⟨w', hrun, ho', ht'⟩ := ho.store K ht hn hx (show asIs v = some (.held v, []) from rfl)
  refine ⟨w', hrun, ⟨_, ho', fun j hjk z => ?_⟩, ?_⟩
  · by_cases hj : j = i
    · subst hj
      rw [Maps.atKey_put_same hm (K.key hx), upd_same g v (K.key hx)]
    · rw [Maps.atKey_put_other hj, ha j hjk, upd_other g v hj]
  · have hg := ht'.grown
    exact (Only.refl _ w).grown hg (fun q hq => by cases hq; exact .inr rfl)
end

/-! ### Keys of two numbers -/
def lp (a b : Nat) : Lit := .string (keyBytes [.int .u64 (a : Int), .int .u64 (b : Int)])
def lu (a : Nat) : Lit := .int .u64 (a : Int)
theorem laidOut : laidOutB Try.prog = true := by kernel_rfl
theorem one_law : KeyLaw Try.prog 59 := deep_law_gate laidOut (of_decide_eq_true (by kernel_rfl)) (of_decide_eq_true (by kernel_rfl)) (by kernel_rfl) (by rw [Try.underlying59])
theorem one_keyed : Keyed Try.prog 59 := Keyed.of_law one_law
theorem key_one {a b : Nat} (ha : a < 18446744073709551616) (hb : b < 18446744073709551616) : keyOf Try.prog 59 (.agg #[.int .u64 (a : Int), .int .u64 (b : Int)]) = some (lp a b) := by
  have h0 : 0 < Try.prog.types.size := of_decide_eq_true (by kernel_rfl)
  obtain ⟨m, hm⟩ : ∃ m, Try.prog.types.size = m + 1 := ⟨Try.prog.types.size - 1, by omega⟩
  have hkt : Try.prog.keyType 59 = true := by kernel_rfl
  have hc2 : Try.prog.cellsOf 59 = 2 := by kernel_rfl
  have hc1 : Try.prog.cellsOf 27 = 1 := by kernel_rfl
  have w1 : (Lit.int .u64 (a : Int)).wf = true := wf_int (by omega) (by omega)
  have w2 : (Lit.int .u64 (b : Int)).wf = true := wf_int (by omega) (by omega)
  unfold keyOf
  rw [Try.underlying59]
  simp only
  rw [if_pos (by rw [hkt]; simp [Value.formed, Try.underlying59, hc2]), hm]
  unfold Program.keyLits
  rw [Try.underlying59]
  simp only [Value.cells]
  simp [hc1, hc2, Program.keyLits, Try.underlying27, w1, w2, lp]
theorem lp_inj {a b c d : Nat} (ha : a < 18446744073709551616) (hb : b < 18446744073709551616) (hc : c < 18446744073709551616) (hd : d < 18446744073709551616) (h : lp a b = lp c d) : a = c ∧ b = d := by
  have h1 := key_one ha hb
  have h2 := key_one hc hd
  rw [h] at h1
  have e := one_keyed.inj h1 h2
  simp only [Value.agg.injEq, Array.mk.injEq, List.cons.injEq, Value.int.injEq, true_and, and_true] at e
  omega
theorem num_keyed : Keyed Try.prog 27 := int_keyed Try.underlying27
theorem key_num {a : Nat} (ha : a < 18446744073709551616) : keyOf Try.prog 27 (.int .u64 (a : Int)) = some (lu a) := keyOf_int_mk Try.underlying27 (wf_int (by omega) (by omega))
theorem lu_inj {a c : Nat} (h : lu a = lu c) : a = c := by
  unfold lu at h
  simp only [Lit.int.injEq, true_and] at h
  omega
end Go.Proofs.Ytdmlfnknmilhcaa.KeysG
