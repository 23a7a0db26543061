/- The program's machine in memory: its table, its map of sagas. No statement is proved here. -/
import Derived.Test.YthaepkpmpnofgaaGreatHMatD
import Derived.Test.YthaepkpmpnofgaaGreatGSu
import Derived.Maps.OwnSet
import Derived.Maps.RangeWalk
set_option linter.unusedVariables false
set_option linter.unusedSimpArgs false
namespace Go.Proofs.YthaepkpmpnofgaaGreat.MatP
open Go.RowKit Go.Proofs.YthaepkpmpnofgaaGreat.Kit Go.Proofs.YthaepkpmpnofgaaGreat.Blocks Go.Proofs.YthaepkpmpnofgaaGreat.Ses Go.Proofs.YthaepkpmpnofgaaGreat.Rws Go.Proofs.YthaepkpmpnofgaaGreat.Boxs Go.Proofs.YthaepkpmpnofgaaGreat.Mch Go.Proofs.YthaepkpmpnofgaaGreat.SsnWalkA
open Go.Maps (Keyed int_keyed keyOf_int_mk)
open Go.Proofs.YthaepkpmpnofgaaGreat.MatD (Hs hsCs)
open Go.Proofs.YthaepkpmpnofgaaGreat.Sag (Sg)
open Go.Proofs.YthaepkpmpnofgaaGreat.SagAt (At Box4 sgV)
open Go.Proofs.YthaepkpmpnofgaaGreat.RdT (only_s only_b)

/-! ### The map of sagas -/
def asIs (v : Value) : Option (DataW Value × List MemPlace) := some (.held v, [])
def lu (a : Nat) : Lit := .int .u64 (a : Int)
theorem num_keyed : Keyed Tryz.prog 30 := int_keyed Tryz.underlying30
theorem lu_wf {a : Nat} (h : U a) : (Lit.int .u64 (a : Int)).wf = true := by
  have : a < 18446744073709551616 := h
  simp [Lit.wf, IntKind.min, IntKind.max, IntKind.signed, IntKind.bits]; omega
theorem lu_lt {a : Nat} (h : (Lit.int .u64 (a : Int)).wf = true) : U a := by
  simp [Lit.wf, IntKind.min, IntKind.max, IntKind.signed, IntKind.bits] at h
  show a < 18446744073709551616
  omega
theorem key_num {a : Nat} (ha : U a) : keyOf Tryz.prog 30 (.int .u64 (a : Int)) = some (lu a) := keyOf_int_mk Tryz.underlying30 (lu_wf ha)
theorem lu_inj {a c : Nat} (h : lu a = lu c) : a = c := by
  unfold lu at h
  simp only [Lit.int.injEq, true_and] at h
  omega
theorem lu_ne {a c : Nat} (h : a ≠ c) : lu a ≠ lu c := fun e => h (lu_inj e)
theorem lu_key (a : Nat) : WideAt.IsKeyLit (lu a) := trivial
abbrev hsV (h : Hs) : Value := sgV h.A h.c h.s
abbrev zeroV : Value := .agg #[.slice none 0 0, .int .i64 0, .int .i64 0, .int .i64 0]
def lookS : List (Nat × Hs) → Nat → Option Hs
  | [], _ => none
  | x :: l, id => if x.1 = id then some x.2 else lookS l id
/-- Block q is a map of these sagas. -/
def SM (w : World) (q : Nat) (ks : List (Nat × Hs)) : Prop :=
  ∃ D : DataW Value, w.ownsMap Tryz.prog 30 asIs q ks.length D ∧ Maps.size D = ks.length ∧ ∀ i : Nat, U i → ∀ z, D.atKey (lu i) z = (match lookS ks i with | some e => .held (hsV e) | none => z)
theorem tight {w : World} {q n : Nat} {D : DataW Value} (h : w.ownsMap Tryz.prog 30 asIs q n D) : w.ownsMap Tryz.prog 30 asIs q (Maps.size D) D := by
  obtain ⟨es, clock, hb, F, hs, rfl⟩ := h
  exact ⟨es, clock, hb, F, by simp [Maps.size, length_sorted], rfl⟩
section
variable {w w' : World} {q : Nat} {ks ks' : List (Nat × Hs)}
theorem SM.lt (h : SM w q ks) : q < w.heap.size := by obtain ⟨D, h1, _⟩ := h; exact h1.lt
theorem SM.keep (h : SM w q ks) {S : Nat → Prop} (k : Only S w w') (hq : ¬ S q) : SM w' q ks := by
  have hl := h.lt
  obtain ⟨D, ⟨es, clock, h1, h2⟩, h3⟩ := h
  exact ⟨D, ⟨es, clock, (k.block q hl hq).trans h1, h2⟩, h3⟩
theorem sm_new (w : World) : SM (w.alloc (.map #[] 0)) w.heap.size [] := ⟨.map [], World.ownsMap_made w _ _ _, rfl, fun i _ z => rfl⟩
theorem has_look {D : DataW Value} (hat : ∀ i : Nat, U i → ∀ z, D.atKey (lu i) z = (match lookS ks i with | some e => .held (hsV e) | none => z)) {i : Nat} (hi : U i) : Maps.has D (lu i) = (lookS ks i).isSome := by
  cases hl : lookS ks i with
  | none => exact Maps.has_false_of_atKey fun z => by rw [hat i hi, hl]
  | some e => exact Maps.has_true_of_atKey (y := .held (hsV e)) fun z => by rw [hat i hi, hl]
theorem SM.look (h : SM w q ks) {id : Nat} (hu : U id) : (Instr.lookup 70 (.map (some q)) (.int .u64 (id : Int)) true).run Tryz.prog w = .ok (.tuple #[(match lookS ks id with | some e => hsV e | none => zeroV), .bool (lookS ks id).isSome]) w := by
  obtain ⟨D, h1, h2, hat⟩ := h
  have hz : (zeroValue 49).run Tryz.prog w = .ok zeroV w := Tryz.zeroValue49 w
  obtain ⟨v, ps, hrun, hv⟩ := h1.look_ok num_keyed Tryz.underlying70 hz (zd := .held zeroV) (zp := []) rfl (key_num hu)
  rw [hrun, has_look hat hu]
  have hh := hat id hu (.held zeroV)
  simp only [asIs, Option.some.injEq, Prod.mk.injEq] at hv
  rw [hh] at hv
  cases hl : lookS ks id with
  | none => rw [hl] at hv; simp only [DataW.held.injEq] at hv; rw [hv.1]
  | some e => rw [hl] at hv; simp only [DataW.held.injEq] at hv; rw [hv.1]
theorem SM.len (h : SM w q ks) (ty : TypeId) : (Builtin.len_ #[70] ty #[.map (some q)]).run Tryz.prog w = .ok (.int .i64 (ks.length : Int)) w := by
  obtain ⟨D, h1, h2, _⟩ := h
  rw [h1.len Tryz.underlying70 ty, h2]
theorem SM.store (h : SM w q ks) (h16 : ks.length ≤ 1000) {id : Nat} (hu : U id) (e : Hs) (hl : ks'.length = if (lookS ks id).isSome then ks.length else ks.length + 1) (hk : ∀ i, lookS ks' i = if i = id then some e else lookS ks i) :
    ∃ w', (Instr.mapUpdate 70 (.map (some q)) (.int .u64 (id : Int)) (hsV e)).run Tryz.prog w = .ok () w' ∧ SM w' q ks' ∧ Only (fun g => g = q) w w' := by
  obtain ⟨D, h1, h2, hat⟩ := h
  have hT := h1.tidy num_keyed
  obtain ⟨w', hrun, h3, h4⟩ := h1.store num_keyed Tryz.underlying70 (by unfold maxLen; omega) (key_num hu) (show asIs (hsV e) = some (.held (hsV e), []) from rfl)
  have hsz : Maps.size (D.put (lu id) (.held (hsV e))) = ks'.length := by
    rw [Maps.size_put hT, has_look hat hu, h2, hl]
  refine ⟨w', hrun, ⟨_, by rw [← hsz]; exact tight h3, hsz, fun i hi z => ?_⟩, (Only.refl _ w).grown h4.grown fun g hg => by cases hg; exact .inr rfl⟩
  rw [hk i]
  by_cases hid : i = id
  · subst hid
    rw [Maps.atKey_put_same h1.isMap (lu_key _), if_pos rfl]
  · rw [Maps.atKey_put_other (lu_ne hid), hat i hi, if_neg hid]
end
/-! ### Lists of sagas with where their steps lie -/
def pure1 (ks : List (Nat × Hs)) : List (Nat × Sg) := ks.map fun x => (x.1, x.2.s)
def putK : List (Nat × Hs) → Nat → Hs → List (Nat × Hs)
  | [], id, s => [(id, s)]
  | x :: l, id, s => if x.1 < id then x :: putK l id s else (id, s) :: x :: l
theorem putK_pure (ks : List (Nat × Hs)) (id : Nat) (e : Hs) : pure1 (putK ks id e) = putS (pure1 ks) id e.s := by
  unfold pure1
  induction ks with
  | nil => rfl
  | cons x l ih =>
    rw [putK, List.map_cons, putS]
    split <;> simp [ih]
theorem putK_len (ks : List (Nat × Hs)) (id : Nat) (e : Hs) : (putK ks id e).length = ks.length + 1 := by
  induction ks with
  | nil => rfl
  | cons x l ih => unfold putK; split <;> simp [ih]
theorem putK_mem {ks : List (Nat × Hs)} {id : Nat} {e : Hs} {y : Nat × Hs} (h : y ∈ putK ks id e) : y = (id, e) ∨ y ∈ ks := by
  induction ks with
  | nil => simp [putK] at h; exact .inl h
  | cons x l ih =>
    unfold putK at h
    split at h
    · rcases List.mem_cons.1 h with rfl | h
      · exact .inr List.mem_cons_self
      · exact (ih h).imp (fun h => h) fun h => List.mem_cons_of_mem _ h
    · rcases List.mem_cons.1 h with rfl | h
      · exact .inl rfl
      · exact .inr h
theorem seek_none {ks : List (Nat × Hs)} {id : Nat} (h : seekS (pure1 ks) id = none) : lookS ks id = none := by
  induction ks with
  | nil => rfl
  | cons x l ih =>
    unfold pure1 at h
    rw [List.map_cons, seekS] at h
    split at h
    · cases h
    · rename_i h0
      rw [lookS, if_neg h0]
      exact ih (by simpa [pure1] using h)
theorem seek_at {ks : List (Nat × Hs)} {id j : Nat} (h : seekS (pure1 ks) id = some j) : ∃ e, lookS ks id = some e ∧ ks[j]? = some (id, e) := by
  induction ks generalizing j with
  | nil => cases h
  | cons x l ih =>
    unfold pure1 at h
    rw [List.map_cons, seekS] at h
    split at h
    · rename_i h0
      cases h
      refine ⟨x.2, by rw [lookS, if_pos h0], ?_⟩
      simp only at h0
      simp [← h0]
    · rename_i h0
      obtain ⟨k, hk, rfl⟩ := Option.map_eq_some_iff.1 h
      obtain ⟨e, h1, h2⟩ := ih (j := k) hk
      exact ⟨e, by rw [lookS, if_neg h0]; exact h1, by simpa using h2⟩
theorem look_put {ks : List (Nat × Hs)} {id : Nat} (hn : lookS ks id = none) (e : Hs) (i : Nat) : lookS (putK ks id e) i = if i = id then some e else lookS ks i := by
  induction ks with
  | nil =>
    show (if id = i then some e else none) = (if i = id then some e else none)
    by_cases h : id = i
    · rw [if_pos h, if_pos h.symm]
    · rw [if_neg h, if_neg (Ne.symm h)]
  | cons x l ih =>
    rw [lookS] at hn
    split at hn
    · cases hn
    · rename_i h0
      rw [putK]
      split
      · rw [lookS, lookS, ih hn]
        by_cases h1 : x.1 = i
        · rw [if_pos h1, if_pos h1, if_neg (by omega)]
        · rw [if_neg h1, if_neg h1]
      · rw [lookS]
        by_cases h1 : id = i
        · rw [if_pos h1, if_pos h1.symm]
        · rw [if_neg h1, if_neg (Ne.symm h1)]
theorem look_set {ks : List (Nat × Hs)} {id j : Nat} (h : seekS (pure1 ks) id = some j) (e : Hs) (i : Nat) : lookS (ks.set j (id, e)) i = if i = id then some e else lookS ks i := by
  induction ks generalizing j with
  | nil => cases h
  | cons x l ih =>
    unfold pure1 at h
    rw [List.map_cons, seekS] at h
    split at h
    · rename_i h0
      simp only at h0
      cases h
      rw [List.set_cons_zero, lookS, lookS]
      by_cases h1 : id = i
      · rw [if_pos h1, if_pos h1.symm]
      · rw [if_neg h1, if_neg (Ne.symm h1), if_neg (by omega)]
    · rename_i h0
      simp only at h0
      obtain ⟨k, hk, rfl⟩ := Option.map_eq_some_iff.1 h
      rw [List.set_cons_succ, lookS, lookS, ih (j := k) hk]
      by_cases h1 : x.1 = i
      · rw [if_pos h1, if_pos h1, if_neg (by omega)]
      · rw [if_neg h1, if_neg h1]
theorem set_pure (ks : List (Nat × Hs)) (j id : Nat) (e : Hs) : pure1 (ks.set j (id, e)) = (pure1 ks).set j (id, e.s) := by
  unfold pure1; rw [List.map_set]

/-! ### The machine -/
def Own (p pt q : Nat) (vR : Value) (g : Nat) : Prop := g = p ∨ g = q ∨ Mine pt vR g
abbrev shp : Shape := ⟨118, []⟩
structure MP (B : Nat) (w : World) (p pt q : Nat) (vR : Value) (m : Mc) (ks : List (Nat × Hs)) : Prop where
  lp : B ≤ p
  lq : B ≤ q
  blk : w.heap[p]? = some (.cells #[.pointer (some ⟨pt, 0, none⟩), .map (some q)] 72 (0, 0))
  tb : PT shp B w pt vR m.t
  said : pure1 ks = m.l
  sm : SM w q ks
  npq : p ≠ q
  npt : ¬ Mine pt vR p
  nqt : ¬ Mine pt vR q
  steps : ∀ x ∈ ks, At w x.2.A x.2.s.l ∧ (0 < x.2.s.l.length → ∀ ad, x.2.A = some ad → ¬ Own p pt q vR ad.block)
section
variable {B : Nat} {w w' w1 : World} {p pt q : Nat} {vR : Value} {m m' m'' : Mc} {ks : List (Nat × Hs)}
theorem MP.len (h : MP B w p pt q vR m ks) : ks.length = m.l.length := by have := congrArg List.length h.said; simpa [pure1] using this
theorem MP.c0 (h : MP B w p pt q vR m ks) : w.cell? ⟨p, 0, none⟩ = some (.pointer (some ⟨pt, 0, none⟩)) := by rw [cell_at h.blk]; rfl
theorem MP.c1 (h : MP B w p pt q vR m ks) : w.cell? ⟨p, 1, none⟩ = some (.map (some q)) := by rw [cell_at h.blk]; rfl
theorem MP.plt (h : MP B w p pt q vR m ks) : p < w.heap.size := lt_at h.blk
theorem MP.free (h : MP B w p pt q vR m ks) (i : Nat) : w.frozen? ⟨p, i, none⟩ = false := free_at h.blk i
theorem MP.base (h : MP B w p pt q vR m ks) : B ≤ w.heap.size := h.tb.base
theorem MP.own_lt (h : MP B w p pt q vR m ks) {g : Nat} (hg : Own p pt q vR g) : B ≤ g ∧ g < w.heap.size := by
  rcases hg with rfl | rfl | hg
  · exact ⟨h.lp, h.plt⟩
  · exact ⟨h.lq, h.sm.lt⟩
  · exact h.tb.mine_lt hg
theorem MP.keep (h : MP B w p pt q vR m ks) {S : Nat → Prop} (k : Only S w w') (h1 : ∀ g, Own p pt q vR g → ¬ S g) (h2 : ∀ x ∈ ks, 0 < x.2.s.l.length → ∀ ad, x.2.A = some ad → ¬ S ad.block) : MP B w' p pt q vR m ks :=
  ⟨h.lp, h.lq, k.heap h.blk (h1 p (.inl rfl)), h.tb.keep k fun g hg => h1 g (.inr (.inr hg)), h.said, h.sm.keep k (h1 q (.inr (.inl rfl))), h.npq, h.npt, h.nqt,
    fun x hx => ⟨(h.steps x hx).1.only (only_s k) (h2 x hx), (h.steps x hx).2⟩⟩
theorem MP.below (h : MP B w p pt q vR m ks) (k : Below w.heap.size w w') : MP B w' p pt q vR m ks := h.keep (S := fun _ => False) (Only.of_below k) (by simp) (by simp)
/-- Steps of a saga lie in block r. -/
def St (ks : List (Nat × Hs)) (r : Nat) : Prop := ∃ x ∈ ks, 0 < x.2.s.l.length ∧ ∃ ad, x.2.A = some ad ∧ ad.block = r
theorem MP.st_lt (h : MP B w p pt q vR m ks) {r : Nat} (hs : St ks r) : r < w.heap.size := by
  obtain ⟨x, hx, hn, ad, e, rfl⟩ := hs
  obtain ⟨ad', e1, e2, _⟩ := (h.steps x hx).1.rs.2 hn
  rw [e] at e1
  cases e1
  exact e2
theorem MP.box (h : MP B w p pt q vR m ks) {r : Nat} (h1 : ¬ Own p pt q vR r) (h2 : ¬ St ks r) (o : Only (fun g => g = r) w w') : MP B w' p pt q vR m ks :=
  h.keep o (fun g hg e => h1 (e ▸ hg)) fun x hx hn ad e e2 => h2 ⟨x, hx, hn, ad, e, e2⟩
/-- What a call leaves: another machine; only its blocks changed; what it has now it had, or is new. -/
def LeftP (B : Nat) (w : World) (p pt q : Nat) (vR : Value) (ks : List (Nat × Hs)) (m' : Mc) (w' : World) : Prop :=
  ∃ vR' ks', MP B w' p pt q vR' m' ks' ∧ Only (Own p pt q vR) w w' ∧ (∀ g, Own p pt q vR' g → Own p pt q vR g ∨ w.heap.size ≤ g) ∧ ∀ r, St ks' r → St ks r ∨ w.heap.size ≤ r
theorem LeftP.refl (h : MP B w p pt q vR m ks) : LeftP B w p pt q vR ks m w := ⟨vR, ks, h, Only.refl _ w, fun g hg => .inl hg, fun r hr => .inl hr⟩
theorem LeftP.of_below (h : MP B w p pt q vR m ks) (k : Below w.heap.size w w') : LeftP B w p pt q vR ks m w' := ⟨vR, ks, h.below k, Only.of_below k, fun g hg => .inl hg, fun r hr => .inl hr⟩
theorem LeftP.then {vR1 : Value} {ks1 : List (Nat × Hs)} (k1 : Only (Own p pt q vR) w w1) (hf : ∀ g, Own p pt q vR1 g → Own p pt q vR g ∨ w.heap.size ≤ g) (hs : ∀ r, St ks1 r → St ks r ∨ w.heap.size ≤ r) (k2 : LeftP B w1 p pt q vR1 ks1 m'' w') : LeftP B w p pt q vR ks m'' w' := by
  obtain ⟨a, b, h2, o2, f2, s2⟩ := k2
  refine ⟨a, b, h2, k1.trans' o2 fun g hg => hf g hg, fun g hg => ?_, fun r hr => ?_⟩
  · rcases f2 g hg with h | h
    · exact hf g h
    · exact .inr (Nat.le_trans k1.size h)
  · rcases s2 r hr with h | h
    · exact hs r h
    · exact .inr (Nat.le_trans k1.size h)
theorem LeftP.afterBelow (k1 : Below w.heap.size w w1) (k2 : LeftP B w1 p pt q vR ks m' w') : LeftP B w p pt q vR ks m' w' :=
  LeftP.then (Only.of_below k1) (fun _ h => .inl h) (fun _ h => .inl h) k2
theorem LeftP.thenBelow (k1 : LeftP B w p pt q vR ks m' w1) (k2 : Below w1.heap.size w1 w') : LeftP B w p pt q vR ks m' w' := by
  obtain ⟨a, b, h1, o1, f1, s1⟩ := k1
  exact ⟨a, b, h1.below k2, o1.thenBelow k2, f1, s1⟩
theorem leftP_below (h : MP B w p pt q vR m ks) (k : LeftP B w p pt q vR ks m' w') : Below B w w' := by
  obtain ⟨_, _, h', o', _⟩ := k
  exact o'.below h.base fun g hg => (h.own_lt hg).1
/-- A box of the call's own is written behind that. -/
theorem LeftP.boxed {w2 w3 w4 : World} (h : MP B w p pt q vR m ks) (hb : Below w.heap.size w w2) (k : LeftP B w2 p pt q vR ks m' w3) {r : Nat} (hr0 : w.heap.size ≤ r) (hr1 : r < w2.heap.size) (o : Only (fun g => g = r) w3 w4) : LeftP B w p pt q vR ks m' w4 := by
  obtain ⟨vR', ks', h', o', f', s'⟩ := k
  have hv : ¬ Own p pt q vR' r := fun hg => by
    rcases f' r hg with h1 | h1
    · have := (h.own_lt h1).2; omega
    · omega
  have hs : ¬ St ks' r := fun hr => by
    rcases s' r hr with h1 | h1
    · have := h.st_lt h1; omega
    · omega
  refine ⟨vR', ks', h'.box hv hs o, ((Only.of_below hb).trans o').trans' o fun g hg => .inr (by omega), fun g hg => (f' g hg).imp id fun h1 => Nat.le_trans hb.size h1, fun g hg => (s' g hg).imp id fun h1 => Nat.le_trans hb.size h1⟩
/-- A session's call on the machine's table. -/
theorem MP.sess (h : MP B w p pt q vR m ks) {t' : Tb} (k : PLeft shp B w pt vR t' w') :
    ∃ vR', MP B w' p pt q vR' ⟨t', m.l⟩ ks ∧ Only (Own p pt q vR) w w' ∧ ∀ g, Own p pt q vR' g → Own p pt q vR g ∨ w.heap.size ≤ g := by
  obtain ⟨vR', ht, ho, hfr⟩ := k
  have hO : Only (Own p pt q vR) w w' := ho.mono fun g _ hg => .inr (.inr hg)
  have hM : ∀ g, Mine pt vR' g → Mine pt vR g ∨ w.heap.size ≤ g := fun g hg => by
    rcases hg with rfl | hg
    · exact .inl (.inl rfl)
    · exact (hfr g hg).imp .inr id
  have hp := h.plt
  have hq := h.sm.lt
  refine ⟨vR', ⟨h.lp, h.lq, ho.heap h.blk h.npt, ht, h.said, h.sm.keep ho h.nqt, h.npq, fun e => ?_, fun e => ?_, fun x hx => ?_⟩, hO, fun g hg => ?_⟩
  · rcases hM p e with e1 | e1
    · exact h.npt e1
    · omega
  · rcases hM q e with e1 | e1
    · exact h.nqt e1
    · omega
  · obtain ⟨h1, h2⟩ := h.steps x hx
    refine ⟨h1.only (only_s hO) h2, fun hn ad e ho' => ?_⟩
    obtain ⟨ad', e1, e2, _⟩ := h1.rs.2 hn
    rw [e] at e1
    cases e1
    rcases ho' with rfl | rfl | ho'
    · exact h2 hn ad e (.inl rfl)
    · exact h2 hn ad e (.inr (.inl rfl))
    · rcases hM _ ho' with e3 | e3
      · exact h2 hn ad e (.inr (.inr e3))
      · omega
  · rcases hg with rfl | rfl | hg
    · exact .inl (.inl rfl)
    · exact .inl (.inr (.inl rfl))
    · exact (hM g hg).imp (fun e => .inr (.inr e)) id
/-- The map was written. -/
theorem MP.stored (h : MP B w p pt q vR m ks) {ks' : List (Nat × Hs)} {l' : List (Nat × Sg)} (hs : SM w' q ks') (ho : Only (fun g => g = q) w w') (hl : pure1 ks' = l') {y : Nat × Hs} (hm : ∀ x ∈ ks', x = y ∨ x ∈ ks)
    (hat : At w y.2.A y.2.s.l) (hoff : 0 < y.2.s.l.length → ∀ ad, y.2.A = some ad → ¬ Own p pt q vR ad.block) : MP B w' p pt q vR ⟨m.t, l'⟩ ks' := by
  have hOq : Own p pt q vR q := .inr (.inl rfl)
  refine ⟨h.lp, h.lq, ho.heap h.blk h.npq, h.tb.keep ho fun g hg e => h.nqt (e ▸ hg), hl, hs, h.npq, h.npt, h.nqt, fun x hx => ?_⟩
  have hone : ∀ z : Nat × Hs, At w z.2.A z.2.s.l → (0 < z.2.s.l.length → ∀ ad, z.2.A = some ad → ¬ Own p pt q vR ad.block) → At w' z.2.A z.2.s.l ∧ (0 < z.2.s.l.length → ∀ ad, z.2.A = some ad → ¬ Own p pt q vR ad.block) := fun z h1 h2 =>
    ⟨h1.only (only_s ho) fun hn ad e e2 => h2 hn ad e (by rw [e2]; exact hOq), h2⟩
  rcases hm x hx with rfl | hx
  · exact hone _ hat hoff
  · exact hone x (h.steps x hx).1 (h.steps x hx).2
end
end Go.Proofs.YthaepkpmpnofgaaGreat.MatP
