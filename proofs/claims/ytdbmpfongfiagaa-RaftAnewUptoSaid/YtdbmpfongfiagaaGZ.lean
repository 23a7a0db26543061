/- The statement RaftAnew of tontinelaw12, its second form: for every input the call returns true, and each argument reads afterwards as it read before (where the arguments hold together at most 1048576 values and letters). -/
import Derived.Test.YtdbmpfongfiagaaOpensC
import Derived.Test.YtdbmpfongfiagaaGB
import Derived.Test.YtdbmpfongfiagaaOnly
import Derived.Maps.OwnSet
import Derived.Test.YtdbmpfongfiagaaLightR
import Derived.Carry
import Derived.StillTailTactics
import Derived.Deep.CutRange
import Derived.Deep.CutBlock
import Derived.Test.YtdbmpfongfiagaaFrame
import Derived.Deep.CondSized
set_option linter.unusedVariables false
namespace Go.Proofs.Ytdbmpfongfiagaa.Stp
open Go.RowKit Go.Proofs.Ytdbmpfongfiagaa.Kit Go.Proofs.Ytdbmpfongfiagaa.Blocks Go.Proofs.Ytdbmpfongfiagaa.Rlog Go.Proofs.Ytdbmpfongfiagaa.Ents Go.Proofs.Ytdbmpfongfiagaa.LogAt Go.Proofs.Ytdbmpfongfiagaa.Nod Go.Proofs.Ytdbmpfongfiagaa.NodAt Go.Proofs.Ytdbmpfongfiagaa.WalkB Go.Proofs.Ytdbmpfongfiagaa.WalkI Go.Proofs.Ytdbmpfongfiagaa.WalkJ Go.Proofs.Ytdbmpfongfiagaa.Begun Go.Proofs.Ytdbmpfongfiagaa.Fwd Go.Proofs.Ytdbmpfongfiagaa.OpensC

/-- The node at p, wherever the rest of it lies, off the blocks K. -/
structure At (B : Nat) (w : World) (p N : Nat) (m : Nd) (K : Nat → Prop) : Prop where
  ex : ∃ z, PAt B w p z m ∧ ∀ k, K k → ¬ Mine p z k
  b : NdB N m
  klt : ∀ k, K k → k < w.heap.size
/-- m' is what a call made of m. -/
structure Turn (m m' : Nd) : Prop where
  fwd : Fwd m m'
  led : m.role = 2 → m'.role = 2 → m'.term = m.term → Gs m m'
/-- What a call leaves. -/
structure Went (B : Nat) (w : World) (p N : Nat) (m : Nd) (K : Nat → Prop) (w' : World) : Prop where
  ex : ∃ m', At B w' p N m' K ∧ Turn m m'
  since : Below B w w'
  kept : Only (fun k => ¬ K k) w w'
section
variable {B p N : Nat} {m m' : Nd} {w w' : World} {K K' : Nat → Prop}
theorem At.plt (h : At B w p N m K) : B ≤ p ∧ p < w.heap.size := by obtain ⟨z, hz, _⟩ := h.ex; exact ⟨hz.low, hz.plt⟩
theorem At.base (h : At B w p N m K) : B ≤ w.heap.size := by have := h.plt; omega
theorem At.guard (h : At B w p N m K) (k : Below w.heap.size w w') (hK : ∀ k, K' k → K k ∨ w.heap.size ≤ k) (hlt : ∀ k, K' k → k < w'.heap.size) : At B w' p N m K' := by
  obtain ⟨z, hz, ho⟩ := h.ex
  refine ⟨⟨z, hz.below k, fun b hb hm => ?_⟩, h.b, hlt⟩
  rcases hK b hb with h1 | h1
  · exact ho b h1 hm
  · have := (NodeAt.mine_lt hz hm).2
    omega
theorem At.below (h : At B w p N m K) (k : Below w.heap.size w w') : At B w' p N m K := h.guard k (fun _ h => .inl h) fun b hb => Nat.lt_of_lt_of_le (h.klt b hb) k.size
theorem At.mono (h : At B w p N m K) {N' : Nat} (hN : N ≤ N') : At B w p N' m K := ⟨h.ex, h.b.mono hN, h.klt⟩
theorem At.less (h : At B w p N m K) (hK : ∀ k, K' k → K k) : At B w p N m K' := h.guard (Below.refl _ _) (fun k hk => .inl (hK k hk)) fun k hk => h.klt k (hK k hk)
/-- Another's block is written. -/
theorem At.other (h : At B w p N m K) (he : m.out = []) (o : Only K w w') : At B w' p N m K := by
  obtain ⟨z, hz, ho⟩ := h.ex
  have hZ : z.Z = [] := by
    have := hz.said
    rw [he] at this
    exact List.map_eq_nil_iff.1 this
  exact ⟨⟨z, NodeAt.keep hz o (fun b hb hk => ho b hk hb) (fun x hx => by rw [hZ] at hx; cases hx), ho⟩, h.b, fun k hk => Nat.lt_of_lt_of_le (h.klt k hk) o.size⟩
theorem At.left {z : Seat} (h : PAt B w p z m) (ho : ∀ k, K k → ¬ Mine p z k) (hlt : ∀ k, K k → k < w.heap.size) (l : LeftP B w p z m' w') (hb : NdB N m') : At B w' p N m' K ∧ Below B w w' ∧ Only (fun k => ¬ K k) w w' := by
  obtain ⟨z', h', g⟩ := l
  refine ⟨⟨⟨z', h', fun k hk hm => ?_⟩, hb, fun k hk => Nat.lt_of_lt_of_le (hlt k hk) g.size⟩, below_grow h.base (Below.refl _ _) h g, g.only.mono fun k _ hk hK => ho k hK hk⟩
  rcases g.new k hm with h1 | h1
  · exact ho k hk h1
  · have := hlt k hk
    omega
theorem At.went {z : Seat} (h : PAt B w p z m) (ho : ∀ k, K k → ¬ Mine p z k) (hlt : ∀ k, K k → k < w.heap.size) (l : LeftP B w p z m' w') (hb : NdB N m') (ht : Turn m m') : Went B w p N m K w' := by
  obtain ⟨h1, h2, h3⟩ := At.left h ho hlt l hb
  exact ⟨⟨m', h1, ht⟩, h2, h3⟩
theorem At.still (h : At B w p N m K) : Went B w p N m K w := ⟨⟨m, h, Fwd.refl m, fun _ _ _ => Gs.refl m⟩, Below.refl _ _, Only.refl _ _⟩
theorem Went.mono (h : Went B w p N m K w') {N' : Nat} (hN : N ≤ N') : Went B w p N' m K w' := by
  obtain ⟨m', h1, h2⟩ := h.ex
  exact ⟨⟨m', h1.mono hN, h2⟩, h.since, h.kept⟩
/-- A letter that came in lies off the node. -/
theorem fit_low {B0 : Nat} {x : Msg} {a : Pl} {z : Seat} (h : PAt B w p z m) (hr : RE w B0 a.A a.n x.es) (hB : B0 ≤ B) (h1 : a.n ≤ a.c) (h2 : a.c ≤ 9223372036854775807) (h3 : x.es.length * 40 ≤ 140737488355328) : Fit w (Mine p z) x a := by
  have hl := RE.len hr
  refine ⟨Kit.Reads.more hr (by have := h.base; omega), h1, h2, by omega, fun hn ad e hk => ?_⟩
  obtain ⟨ad', e', hb, _⟩ := hr.2 hn
  rw [e] at e'
  cases e'
  have := (NodeAt.mine_lt h hk).1
  omega
theorem At.timeout (h : At B w p N m K) (hN : N ≤ 700000000) : Calls Try.prog 13 #[.pointer (some ⟨p, 0, none⟩)] w fun e w' => e = .returned (.tuple #[]) ∧ Went B w p (N + 22) m K w' := by
  obtain ⟨z, hz, ho⟩ := h.ex
  refine (WalkH.timeout_any hz h.b hN).mono ?_
  rintro e w' ⟨rfl, hl⟩
  exact ⟨rfl, At.went hz ho h.klt hl (timeout_b h.b (by omega)) ⟨timeout_f m, fun hr _ _ => timeout_gs hr⟩⟩
/-- Receive, by a call that came in. -/
theorem At.receive_to (h : At B w p N m K) (hN : N ≤ 700000000) {B0 : Nat} {c : Cal} (hc : CalB w B0 c) (hB : B0 ≤ B) : Calls Try.prog 8 #[.pointer (some ⟨p, 0, none⟩), ltV c.x c.a] w fun e w' => e = .returned (.tuple #[]) ∧ At B w' p (N + c.x.es.length + 22) (Nod.receive m c.x) K ∧ Below B w w' ∧ Only (fun k => ¬ K k) w w' := by
  obtain ⟨z, hz, ho⟩ := h.ex
  have hs : c.x.es.length + c.data.size + c.x.d.size + dataW c.x.es ≤ 1048576 := hc.small
  refine (WalkO.receive_any hz h.b hN c.x c.a hc.msg (fit_low hz hc.list hB hc.fits hc.max (by omega)) (by omega)).mono ?_
  rintro e w' ⟨rfl, hl⟩
  exact ⟨rfl, At.left hz ho h.klt hl ((receive_b h.b (by omega) hc.msg).mono (by omega))⟩
theorem At.receive (h : At B w p N m K) (hN : N ≤ 700000000) {B0 : Nat} {c : Cal} (hc : CalB w B0 c) (hB : B0 ≤ B) : Calls Try.prog 8 #[.pointer (some ⟨p, 0, none⟩), ltV c.x c.a] w fun e w' => e = .returned (.tuple #[]) ∧ Went B w p (N + c.x.es.length + 22) m K w' := by
  refine (h.receive_to hN hc hB).mono ?_
  rintro e w' ⟨rfl, h', b, o⟩
  exact ⟨rfl, ⟨Nod.receive m c.x, h', receive_f m c.x, fun hr _ ht => receive_gs hr ht⟩, b, o⟩
theorem At.status (h : At B w p N m K) : Calls Try.prog 14 #[.pointer (some ⟨p, 0, none⟩)] w fun e w' => e = .returned (StatusV m) ∧ Below w.heap.size w w' := by
  obtain ⟨z, hz, ho⟩ := h.ex
  exact status_any hz
/-- The log behind a node. -/
theorem At.log (h : At B w p N m K) : ∃ q v, LogAt 61 B w q v m.g ∧ Calls Try.prog 10 #[.pointer (some ⟨p, 0, none⟩)] w fun e w' => e = .returned (.pointer (some ⟨q, 0, none⟩)) ∧ w = w' := by
  obtain ⟨z, hz, ho⟩ := h.ex
  exact ⟨z.q, z.vg, hz.log, WalkD.log_any hz⟩
/-- A new node of a log that was made. -/
theorem new_at {q : Nat} {v : Value} {g : G} (h : LogAt 61 B w q v g) (f : Fine g) (i : Int) {t : Nat} (ht : t < 18446744073709551616) (vt : Int) (hN : g.es.length ≤ N) :
    Calls Try.prog 7 #[.int .i64 i, .agg #[.int .u64 (t : Int), .int .i64 vt], .pointer (some ⟨q, 0, none⟩)] w fun e w' =>
      if (Quorum.node i && (voteOk vt && lastOk t g)) = true then ∃ p, e = .returned (.tuple #[.pointer (some ⟨p, 0, none⟩), .int .i64 0]) ∧ At B w' p N (newNd i.toNat t vt g) (fun _ => False) ∧ i = (i.toNat : Int) ∧ i.toNat < 7 ∧ Below w.heap.size w w' else NoNode w e w' := by
  refine (WalkJ.new_any h f i t vt).mono ?_
  intro e w' hh
  split
  · rename_i hc
    rw [if_pos hc] at hh
    simp only [Bool.and_eq_true] at hc
    have hi := node_lt hc.1
    obtain ⟨p, rfl, _, h4, h5⟩ := hh
    exact ⟨p, rfl, ⟨⟨_, h4, fun _ h => h.elim⟩, newNd_b (by omega) ht hc.2.1 hc.2.2 f hN, fun _ h => h.elim⟩, by omega, by omega, h5⟩
  · rename_i hc
    rwa [if_neg hc] at hh
end
/-- Are these a log? -/
def okL (s : Snap) (l : List Ent) : Bool := Quorum.sound s.cfg && chained l s.idx s.term
theorem newlog_any {s : Snap} (hs : SnapB s) (A : Option Addr) (n c : Nat) (l : List Ent) (w : World) (hr : RE w w.heap.size A n l) (hb : ∀ e ∈ l, EntB e) (h40 : n * 40 ≤ 140737488355328) :
    Calls Try.prog 6 #[RlgWalkD.snapV s, .slice A n c] w fun e w' => if okL s l = true then RlgWalkD.NewLog 61 w ⟨s, l⟩ e w' ∧ Fine ⟨s, l⟩ else RlgWalkD.NoLog w e w' := by
  unfold okL
  cases h1 : Quorum.sound s.cfg with
  | false => simpa using RlgWalkD.new_mad hs A n c w h1
  | true =>
    cases h2 : chained l s.idx s.term with
    | false => simpa using RlgWalkD.new_loose hs A n c l w hr hb (by omega) h1 h2
    | true =>
      refine (RlgWalkD.new_made hs A n c l w hr hb h40 h1 h2).mono fun e w' h => ?_
      rw [if_pos (by rfl)]
      exact ⟨h, fine_new h1 h2 hs hb⟩
end Go.Proofs.Ytdbmpfongfiagaa.Stp
namespace Go.Proofs.Ytdbmpfongfiagaa.KeysU
open Go.Maps (Keyed int_keyed keyOf_int_mk)
open Go.Proofs.Ytdbmpfongfiagaa.Blocks

/-- How an element reads: as itself. -/
def asIs (v : Value) : Option (DataW Value × List MemPlace) := some (.held v, [])
/-- Block b is a map of at most n entries; at the number i it holds g i. -/
def MapAt (P : Program) (k : TypeId) (w : World) (b n : Nat) (g : Int → Option Value) : Prop :=
  ∃ D : DataW Value, w.ownsMap P k asIs b n D ∧ ∀ (i : Int) (z : DataW Value), D.atKey (.int .u64 i) z = (match g i with | some v => .held v | none => z)
/-- The same of a map's value: none, or a block. -/
def MapV (P : Program) (k : TypeId) (w : World) (mb : Option Nat) (n : Nat) (g : Int → Option Value) : Prop :=
  match mb with
  | none => ∀ i, g i = none
  | some b => MapAt P k w b n g

theorem wf_int {i : Int} (h0 : 0 ≤ i) (h1 : i ≤ 18446744073709551615) : (Lit.int .u64 i).wf = true := by
  simp [Lit.wf, IntKind.min, IntKind.max, IntKind.signed, IntKind.bits]; omega
theorem key_lit (q : IntKind) (i : Int) : WideAt.IsKeyLit (.int q i) := trivial

section
variable {P : Program} {k e t : TypeId} {w w' : World} {b n : Nat} {g : Int → Option Value}
theorem MapAt.lt (h : MapAt P k w b n g) : b < w.heap.size := by obtain ⟨D, ho, _⟩ := h; exact ho.lt
theorem MapAt.keep (h : MapAt P k w b n g) (hb : w'.heap[b]? = w.heap[b]?) : MapAt P k w' b n g := by
  obtain ⟨D, ⟨es, clock, h1, h2⟩, ha⟩ := h
  exact ⟨D, ⟨es, clock, hb.trans h1, h2⟩, ha⟩
theorem MapAt.drewn (h : MapAt P k w b n g) : MapAt P k w.drew b n g := h.keep rfl
theorem MapAt.more (h : MapAt P k w b n g) {n' : Nat} (hn : n ≤ n') : MapAt P k w b n' g := by
  obtain ⟨D, ho, ha⟩ := h
  exact ⟨D, ho.mono hn, ha⟩
theorem MapAt.same (h : MapAt P k w b n g) {g' : Int → Option Value} (hg : ∀ i, g' i = g i) : MapAt P k w b n g' := by
  rw [show g' = g from funext hg]; exact h
/-- A new map. -/
theorem mapAt_made (w : World) (P : Program) (k : TypeId) : MapAt P k (w.alloc (.map #[] 0)) w.heap.size 0 (fun _ => none) :=
  ⟨.map [], World.ownsMap_made w P k asIs, fun _ _ => rfl⟩
/-- m[i], with or without ok. -/
theorem MapAt.look (h : MapAt P k w b n g) (hk : P.underlying k = some (.int .u64)) (ht : P.underlying t = some (.map k e)) {z : Value} (hz : (zeroValue e).run P w = .ok z w) {i : Int} (h0 : 0 ≤ i) (h1 : i ≤ 18446744073709551615) (c : Bool) :
    (Instr.lookup t (.map (some b)) (.int .u64 i) c).run P w = .ok (if c then .tuple #[(g i).getD z, .bool (g i).isSome] else (g i).getD z) w := by
  obtain ⟨D, ⟨es, clock, hb, F, _, rfl⟩, ha⟩ := h
  rcases Maps.fit_look c (int_keyed hk) ht hz hb F (keyOf_int_mk hk (wf_int h0 h1)) with ⟨hrun, _, hat⟩ | ⟨e0, y, _, _, hrun, hR, hat, _⟩
  · have hg : g i = none := by
      cases hg : g i with
      | none => rfl
      | some v =>
        have e1 := ha i .nil
        rw [hat .nil, hg] at e1
        cases e1
    rw [hrun, hg]
    rfl
  · have hg : g i = some e0.val := by
      have e1 := ha i (.lit (.bool true))
      have e2 := ha i .nil
      rw [hat] at e1 e2
      simp only [asIs, Option.some.injEq] at hR
      subst hR
      cases hg : g i with
      | none => rw [hg] at e2; cases e2
      | some v =>
        rw [hg] at e2
        simp only [DataW.held.injEq] at e2
        rw [← e2]
    rw [hrun, hg]
    rfl
/-- m[i] = v. -/
theorem MapAt.store (h : MapAt P k w b n g) (hk : P.underlying k = some (.int .u64)) (ht : P.underlying t = some (.map k e)) (hn : n < maxLen) {i : Int} (h0 : 0 ≤ i) (h1 : i ≤ 18446744073709551615) (v : Value) :
    ∃ w', (Instr.mapUpdate t (.map (some b)) (.int .u64 i) v).run P w = .ok () w' ∧ MapAt P k w' b (n + 1) (fun j => if j = i then some v else g j) ∧ Only (fun q => q = b) w w' := by
  obtain ⟨D, ho, ha⟩ := h
  have hm := ho.isMap
  obtain ⟨w', hrun, ho', ht'⟩ := ho.store (int_keyed hk) ht hn (keyOf_int_mk hk (wf_int h0 h1)) (show asIs v = some (.held v, []) from rfl)
  refine ⟨w', hrun, ⟨_, ho', fun j z => ?_⟩, ?_⟩
  · by_cases hj : j = i
    · subst hj
      rw [Maps.atKey_put_same hm (key_lit _ _)]; simp
    · rw [Maps.atKey_put_other (by simpa using hj), ha]; simp [hj]
  · have hg := ht'.grown
    exact (Only.refl _ w).grown hg (fun q hq => by cases hq; exact .inr rfl)
/-- delete(m, i). -/
theorem MapAt.drop (h : MapAt P k w b n g) (hk : P.underlying k = some (.int .u64)) (ht : P.underlying t = some (.map k e)) {i : Int} (h0 : 0 ≤ i) (h1 : i ≤ 18446744073709551615) (ty : TypeId) :
    ∃ w', (Builtin.delete_ #[t, k] ty #[.map (some b), .int .u64 i]).run P w = .ok (.tuple #[]) w' ∧ MapAt P k w' b n (fun j => if j = i then none else g j) ∧ Only (fun q => q = b) w w' := by
  obtain ⟨D, ho, ha⟩ := h
  obtain ⟨w', hrun, ho', ht'⟩ := ho.drop (int_keyed hk) ht (keyOf_int_mk hk (wf_int h0 h1)) ty
  refine ⟨w', hrun, ⟨_, ho', fun j z => ?_⟩, ?_⟩
  · by_cases hj : j = i
    · subst hj
      rw [Maps.atKey_del_same]; simp
    · rw [Maps.atKey_del_other (by simpa using hj), ha]; simp [hj]
  · have hg := ht'.grown
    exact (Only.refl _ w).grown hg (fun q hq => by cases hq; exact .inr rfl)

variable {mb : Option Nat}
theorem MapV.keep (h : MapV P k w mb n g) (hb : ∀ b, mb = some b → w'.heap[b]? = w.heap[b]?) : MapV P k w' mb n g := by
  cases mb with
  | none => exact h
  | some b => exact MapAt.keep h (hb b rfl)
theorem MapV.lt (h : MapV P k w (some b) n g) : b < w.heap.size := MapAt.lt h
theorem MapV.more (h : MapV P k w mb n g) {n' : Nat} (hn : n ≤ n') : MapV P k w mb n' g := by
  cases mb with
  | none => exact h
  | some b => exact MapAt.more h hn
theorem MapV.same (h : MapV P k w mb n g) {g' : Int → Option Value} (hg : ∀ i, g' i = g i) : MapV P k w mb n g' := by
  rw [show g' = g from funext hg]; exact h
theorem MapV.look (h : MapV P k w mb n g) (hk : P.underlying k = some (.int .u64)) (ht : P.underlying t = some (.map k e)) {z : Value} (hz : (zeroValue e).run P w = .ok z w) {i : Int} (h0 : 0 ≤ i) (h1 : i ≤ 18446744073709551615) (c : Bool) :
    (Instr.lookup t (.map mb) (.int .u64 i) c).run P w = .ok (if c then .tuple #[(g i).getD z, .bool (g i).isSome] else (g i).getD z) w := by
  cases mb with
  | none =>
    have hg : g i = none := h i
    rw [Maps.look_nil c (int_keyed hk) ht hz (keyOf_int_mk hk (wf_int h0 h1)), hg]
    rfl
  | some b => exact MapAt.look h hk ht hz h0 h1 c
theorem MapV.drop (h : MapV P k w mb n g) (hk : P.underlying k = some (.int .u64)) (ht : P.underlying t = some (.map k e)) {i : Int} (h0 : 0 ≤ i) (h1 : i ≤ 18446744073709551615) (ty : TypeId) :
    ∃ w', (Builtin.delete_ #[t, k] ty #[.map mb, .int .u64 i]).run P w = .ok (.tuple #[]) w' ∧ MapV P k w' mb n (fun j => if j = i then none else g j) ∧ Only (fun q => mb = some q) w w' := by
  cases mb with
  | none => exact ⟨w, Maps.drop_nil (int_keyed hk) ht (keyOf_int_mk hk (wf_int h0 h1)) ty, fun j => by simp only []; split <;> first | rfl | exact h j, Only.refl _ w⟩
  | some b =>
    obtain ⟨w', hrun, h', ho⟩ := MapAt.drop h hk ht h0 h1 ty
    exact ⟨w', hrun, h', ho.mono fun q _ hq => by rw [hq]⟩
end

/-! ### at the operation, for the walk -/
section
variable {P : Program} (w : World) {ops : Array Oper} {rest : List Oper} {o : Oper} {a : Act} {Q : Exit → Act → World → Prop}
theorem wpList_look (hg : o.guard = none) (m x : Operand) (t : TypeId) (c : Bool) (hop : o.op = Op.lookup t m x c)
    (k e : TypeId) (hk : P.underlying k = some (.int .u64)) (ht : P.underlying t = some (.map k e)) (z : Value) (hz : (zeroValue e).run P w = .ok z w) (mb : Option Nat) (n : Nat) (g : Int → Option Value) (i : Int)
    (hm : a.eval m = .map mb) (hx : a.eval x = .int .u64 i) (h : MapV P k w mb n g) (h0 : 0 ≤ i) (h1 : i ≤ 18446744073709551615)
    (hK : wpList P ops Q rest (a.put o.dst (if c then .tuple #[(g i).getD z, .bool (g i).isSome] else (g i).getD z)) w) :
    wpList P ops Q (o :: rest) a w := by
  refine wpList_plain hg fun K' hK' => ?_
  have hrun := MapV.look h hk ht hz h0 h1 c
  unfold Oper.wp
  simp [execOp, hop, hm, hx, hrun, Result.andThen]
  exact hK' _ _ hK
theorem wpList_store (hg : o.guard = none) (m x u : Operand) (t : TypeId) (hop : o.op = Op.mapUpdate t m x u)
    (k e : TypeId) (hk : P.underlying k = some (.int .u64)) (ht : P.underlying t = some (.map k e)) (b n : Nat) (g : Int → Option Value) (i : Int) (v : Value)
    (hm : a.eval m = .map (some b)) (hx : a.eval x = .int .u64 i) (hv : a.eval u = v) (h : MapAt P k w b n g) (hn : n < maxLen) (h0 : 0 ≤ i) (h1 : i ≤ 18446744073709551615)
    (hK : ∀ w', MapAt P k w' b (n + 1) (fun j => if j = i then some v else g j) → Only (fun q => q = b) w w' → wpList P ops Q rest (a.put o.dst undef) w') :
    wpList P ops Q (o :: rest) a w := by
  refine wpList_plain hg fun K' hK' => ?_
  obtain ⟨w', hrun, r1, r2⟩ := h.store hk ht hn h0 h1 v
  unfold Oper.wp
  simp [execOp, hop, hm, hx, hv, hrun, Result.andThen]
  exact hK' _ _ (hK w' r1 r2)
theorem wpList_drop (hg : o.guard = none) (m x : Operand) (t k : TypeId) (hop : o.op = Op.call { callee := Callee.builtin Builtin.delete, args := #[m, x], argTypes := #[t, k] })
    (e : TypeId) (hk : P.underlying k = some (.int .u64)) (ht : P.underlying t = some (.map k e)) (mb : Option Nat) (n : Nat) (g : Int → Option Value) (i : Int)
    (hm : a.eval m = .map mb) (hx : a.eval x = .int .u64 i) (h : MapV P k w mb n g) (h0 : 0 ≤ i) (h1 : i ≤ 18446744073709551615)
    (hK : ∀ w', MapV P k w' mb n (fun j => if j = i then none else g j) → Only (fun q => mb = some q) w w' → wpList P ops Q rest (a.put o.dst (.tuple #[])) w') :
    wpList P ops Q (o :: rest) a w := by
  refine wpList_plain hg fun K' hK' => ?_
  obtain ⟨w', hrun, r1, r2⟩ := h.drop hk ht h0 h1 o.type
  unfold Oper.wp
  simp [execOp, hop, resolve, invoke, builtin, hm, hx, hrun, Result.andThen]
  exact hK' _ _ (hK w' r1 r2)
end
end Go.Proofs.Ytdbmpfongfiagaa.KeysU
set_option linter.unusedVariables false
namespace Go.Proofs.Ytdbmpfongfiagaa.Stv
open Go.RowKit Go.Proofs.Ytdbmpfongfiagaa.Kit Go.Proofs.Ytdbmpfongfiagaa.Blocks Go.Proofs.Ytdbmpfongfiagaa.Rlog Go.Proofs.Ytdbmpfongfiagaa.Ents Go.Proofs.Ytdbmpfongfiagaa.LogAt Go.Proofs.Ytdbmpfongfiagaa.Nod Go.Proofs.Ytdbmpfongfiagaa.NodAt Go.Proofs.Ytdbmpfongfiagaa.WalkB Go.Proofs.Ytdbmpfongfiagaa.WalkI Go.Proofs.Ytdbmpfongfiagaa.WalkJ Go.Proofs.Ytdbmpfongfiagaa.Begun Go.Proofs.Ytdbmpfongfiagaa.Fwd Go.Proofs.Ytdbmpfongfiagaa.OpensC Go.Proofs.Ytdbmpfongfiagaa.Stp

section
variable {B p N : Nat} {m m' : Nd} {w w' : World} {K K' : Nat → Prop}
/-- What Take answers. -/
structure Took (B : Nat) (w : World) (p N : Nat) (m : Nd) (K : Nat → Prop) (vk : Value) (A : Option Addr) (n c : Nat) (Z : List (Msg × Pl)) (w' : World) : Prop where
  kept : ∃ Ak ck, vk = .slice Ak m.kept.length ck
  at_ : At B w' p N (taken m) K
  said : Z.map Prod.fst = m.out
  reads : RL w' w'.heap.size A n Z
  fits : n ≤ c
  max : c ≤ maxLen
  since : Below B w w'
  only : Only (fun k => ¬ K k) w w'
  form : 0 < n → ∃ g, A = some ⟨g, 0, none⟩ ∧ ¬ K g
theorem at_take (h : At B w p N m K) (hp : ¬ K p) : Calls Try.prog 9 #[.pointer (some ⟨p, 0, none⟩)] w fun e w' =>
    ∃ vk A n c Z, e = .returned (.agg #[.int .u64 (m.term : Int), .int .i64 m.vote, vk, .bool m.inst, .slice A n c, .bool m.reset, .int .u64 (m.commit : Int)]) ∧ Took B w p N m K vk A n c Z w' := by
  obtain ⟨z, hz, ho⟩ := h.ex
  obtain ⟨A, c, hvo, h1, h2, hr⟩ := own_form hz.outs
  obtain ⟨Ak, ck, hvk⟩ := kept_form hz
  refine (take_any hz).mono ?_
  rintro e w' ⟨rfl, hp', hon⟩
  refine ⟨z.vk, A, z.Z.length, c, z.Z, ?_, ⟨Ak, ck, hvk⟩, ⟨⟨_, hp', fun k hk hm => ?_⟩, taken_b h.b, fun k hk => Nat.lt_of_lt_of_le (h.klt k hk) hon.size⟩, hz.said, ?_, h1, h2, below_take h.base (Below.refl _ _) hz hon, hon.mono fun k _ hk hK => hp (hk ▸ hK), fun hn => ?_⟩
  · unfold ReadyV
    rw [hvo]
  · exact ho k hk (bare_mine hm)
  · obtain ⟨A', c', hvo', _, _, hr'⟩ := own_form (hon.own hz.outs fun b hb e => hz.d3 (e ▸ hb))
    rw [hvo] at hvo'
    cases hvo'
    exact hr'
  · rcases hz.outs.2 with ⟨_, h0⟩ | ⟨g, cap, cur, hv, _, _, _, _, _⟩
    · omega
    · rw [hvo] at hv
      cases hv
      exact ⟨g, rfl, fun hk => ho g hk (.inr (.inr (.inr (by rw [hvo]; rfl))))⟩
theorem at_pfree (h : At B w p N m K) : ¬ K p := by
  obtain ⟨z, hz, ho⟩ := h.ex
  exact fun hk => ho p hk (.inl rfl)
end
theorem lcs_at : ∀ (Z : List (Msg × Pl)) (k j : Nat) (y : Msg × Pl), Z[k]? = some y → j < 10 → (lcs Z)[k * 10 + j]? = (ltCs y.1 y.2)[j]? := by
  intro Z
  induction Z with
  | nil => intro k j y h _; simp at h
  | cons z Z ih =>
    intro k j y h hj
    rw [lcs_cons]
    cases k with
    | zero =>
      simp at h
      subst h
      rw [List.getElem?_append_left (by show 0 * 10 + j < 10; omega), Nat.zero_mul, Nat.zero_add]
    | succ k =>
      rw [List.getElem?_append_right (by show 10 ≤ _; omega)]
      show (lcs Z)[(k + 1) * 10 + j - 10]? = _
      rw [show (k + 1) * 10 + j - 10 = k * 10 + j by omega]
      exact ih k j y (by simpa using h) hj
/-- The cells of one of the letters. -/
theorem lt_cells {W : World} {g n : Nat} {Z : List (Msg × Pl)} (h : RL W W.heap.size (some ⟨g, 0, none⟩) n Z) {k : Nat} {y : Msg × Pl} (hn : 0 < n) (hk : Z[k]? = some y) : ∀ j u, (ltCs y.1 y.2)[j]? = some u → W.cell? ⟨g, k * 10 + j, none⟩ = some u := fun j u hj => by
  obtain ⟨ad, e, _, hc⟩ := h.2 hn
  cases e
  have hj10 : j < 10 := (List.getElem?_eq_some_iff.1 hj).1
  have := hc (k * 10 + j) u (by rw [lcs_at Z k j y hk hj10]; exact hj)
  rwa [Addr.add_lit, Nat.zero_add] at this
theorem zero_int (w : World) : (zeroValue 3).run Try.prog w = .ok (.int .i64 0) w := by kernel_rfl
/-- What was voted for, behind a node that is now so. -/
structure Voted (m : Nd) (g : Int → Option Value) : Prop where
  now : ∀ v, g (m.term : Int) = some v → v = .int .i64 m.vote ∧ 0 ≤ m.vote
  all : ∀ t v, g t = some v → t ≤ (m.term : Int)
  has : 0 ≤ m.vote → g (m.term : Int) = some (.int .i64 m.vote)
theorem Voted.begun {m : Nd} (h : 0 ≤ m.vote) : Voted m (fun j => if j = (m.term : Int) then some (.int .i64 m.vote) else none) := by
  refine ⟨fun v hv => ?_, fun t v hv => ?_, fun _ => if_pos rfl⟩
  · rw [if_pos rfl] at hv
    cases hv
    exact ⟨rfl, h⟩
  · by_cases e : t = (m.term : Int)
    · omega
    · simp only [if_neg e] at hv
      cases hv
theorem Voted.none {m : Nd} (h : ¬ 0 ≤ m.vote) : Voted m (fun _ => none) := ⟨fun v hv => (by cases hv), fun t v hv => (by cases hv), fun h' => absurd h' h⟩
/-- What the look-up gives ahead of the store. -/
theorem Voted.old {m m' : Nd} {g : Int → Option Value} (h : Voted m g) (f : Fwd m m') {v : Value} (hv : g (m'.term : Int) = some v) : v = .int .i64 m'.vote ∧ 0 ≤ m'.vote := by
  have h1 := h.all _ _ hv
  have h2 := f.term
  have e : m'.term = m.term := by omega
  rw [e] at hv
  obtain ⟨rfl, h3⟩ := h.now _ hv
  rw [f.vote e h3]
  exact ⟨rfl, h3⟩
theorem Voted.new {m m' : Nd} {g : Int → Option Value} (h : Voted m g) (f : Fwd m m') (hv : 0 ≤ m'.vote) : Voted (taken m') (fun j => if j = (m'.term : Int) then some (.int .i64 m'.vote) else g j) := by
  have h2 := f.term
  refine ⟨fun v hx => ?_, fun t v hx => ?_, fun _ => if_pos rfl⟩
  · have hx' : (if ((m'.term : Nat) : Int) = (m'.term : Int) then some (Value.int .i64 m'.vote) else g m'.term) = some v := hx
    rw [if_pos rfl] at hx'
    cases hx'
    exact ⟨rfl, hv⟩
  · by_cases e : t = (m'.term : Int)
    · show t ≤ (m'.term : Int)
      omega
    · simp only [if_neg e] at hx
      have := h.all _ _ hx
      show t ≤ (m'.term : Int)
      omega
theorem Voted.same {m m' : Nd} {g : Int → Option Value} (h : Voted m g) (f : Fwd m m') (hv : ¬ 0 ≤ m'.vote) : Voted (taken m') g := by
  have h2 := f.term
  refine ⟨fun v hx => h.old f hx, fun t v hx => ?_, fun h' => absurd h' hv⟩
  have := h.all _ _ hx
  show t ≤ (m'.term : Int)
  omega
end Go.Proofs.Ytdbmpfongfiagaa.Stv
set_option linter.unusedVariables false
namespace Go.Proofs.Ytdbmpfongfiagaa.Tal
open Go.RowKit Go.Proofs.Ytdbmpfongfiagaa.Kit Go.Proofs.Ytdbmpfongfiagaa.Blocks Go.Proofs.Ytdbmpfongfiagaa.Rlog Go.Proofs.Ytdbmpfongfiagaa.Ents Go.Proofs.Ytdbmpfongfiagaa.LogAt Go.Proofs.Ytdbmpfongfiagaa.Nod Go.Proofs.Ytdbmpfongfiagaa.NodAt Go.Proofs.Ytdbmpfongfiagaa.WalkB Go.Proofs.Ytdbmpfongfiagaa.WalkI Go.Proofs.Ytdbmpfongfiagaa.WalkJ Go.Proofs.Ytdbmpfongfiagaa.Begun Go.Proofs.Ytdbmpfongfiagaa.Fwd Go.Proofs.Ytdbmpfongfiagaa.OpensC Go.Proofs.Ytdbmpfongfiagaa.LightR Go.Proofs.Ytdbmpfongfiagaa.Stp Go.Proofs.Ytdbmpfongfiagaa.Stv

/-- What stands behind a statement, and the statement that stands first. -/
def behind : Code → Code
  | .seq _ y => y
  | c => c
def ahead1 : Code → Code
  | .seq x _ => x
  | c => c
def whole : Option Code → Code
  | some c => c
  | none => .skip
section
variable {B p N : Nat} {m : Nd} {w : World} {K : Nat → Prop}
/-- A letter without entries. -/
theorem receive_bare (h : At B w p N m K) (hN : N ≤ 700000000) (x : Msg) (hx : MsgB x) (he : x.es = []) : Calls Try.prog 8 #[.pointer (some ⟨p, 0, none⟩), ltV x noPl] w fun e w' => e = .returned (.tuple #[]) ∧ At B w' p (N + 22) (Nod.receive m x) K ∧ Below B w w' := by
  obtain ⟨z, hz, ho⟩ := h.ex
  refine (WalkO.receive_any hz h.b hN x noPl hx (Fit.none _ _ he) (by rw [he]; show 0 ≤ _; omega)).mono ?_
  rintro e w' ⟨rfl, hl⟩
  obtain ⟨h1, h2, _⟩ := At.left hz ho h.klt hl ((receive_b h.b (by omega) hx).mono (N' := N + 22) (by rw [he]; show N + 0 + 15 ≤ N + 22; omega))
  exact ⟨rfl, h1, h2⟩
end
set_option maxRecDepth 100000 in
set_option maxHeartbeats 8000000 in
theorem tail30 {w w10 : World} {Z H B2 p2 a LI LT tk : Nat} {zi vk : Int} {nr : Nd} {u0 u1 u4 u5 u6 u7 u8 u9 u10 u11 u13 u17 u18 u19 u20 u21 u22 u23 u24 u25 u26 u27 u28 u29 u30 u31 u32 u33 u34 u35 u36 u37 u38 u39 u40 u41 u42 u43 u44 u45 u46 u47 u48 u49 u50 u51 u52 u53 u54 u55 u56 u57 u58 u59 u60 u61 u62 u63 u64 u65 u66 u67 u68 u69 u70 u71 u72 u73 u74 u75 u76 u77 u78 u79 u80 u81 u82 u83 u84 u85 u86 u87 u88 u89 u90 u91 u92 u93 u94 u95 u96 u97 u98 u99 u100 u101 u102 u103 u104 u105 u106 u107 u108 u109 u110 u111 u112 u113 u114 u115 u116 u117 u118 u119 u120 u121 u122 u123 u124 u125 u126 u127 u128 u129 u130 u131 u132 u133 u134 u135 u136 u137 u138 u139 u140 u141 u142 u143 u144 u145 u146 u147 u148 u149 : Value} {KK : Act → World → Prop}
    (hKK : ∀ a' W, (behind (behind (behind (behind (behind (behind (behind (behind (behind (behind (behind (behind (behind (behind (behind (behind (behind (behind (whole Try.f3.body))))))))))))))))))).wp Try.prog (bodyPost Try.prog Try.f3 fun e w' => e = .returned (.bool true) ∧ Below w.heap.size w w') a' W → KK a' W)
    (hrc : Calls Try.prog 8 #[.pointer (some ⟨p2, 0, none⟩), .agg #[.int .i64 1, .int .i64 (a : Int), .int .i64 zi, .int .u64 (tk : Int), .int .u64 (LI : Int), .int .u64 (LT : Int), .int .u64 0, .bool false, .slice none 0 0, .string ⟨#[]⟩]] w10 fun e w' => e = .returned (.tuple #[]) ∧ At B2 w' p2 (600 + 22) nr (fun _ => False) ∧ Below B2 w10 w')
    (hag : ∃ x, nr.out = [x] ∧ x.ok = (decide (vk = -1) || decide (vk = (a : Int))) ∧ nr.term = tk)
    (k0 : w10.cell? ⟨Z, 0, none⟩ = some (.int .i64 zi)) (hrx : w10.heap[H]? = some (.cells #[.int .u64 (tk : Int), .int .i64 vk] 24 (0, 0)))
    (hHB : H < B2) (hwB : w.heap.size ≤ B2) (hF : Below w.heap.size w w10) :
    (ahead1 (behind (behind (behind (behind (behind (behind (behind (behind (behind (behind (behind (behind (behind (behind (behind (behind (behind (whole Try.f3.body))))))))))))))))))).wp Try.prog (Exit.then KK (bodyPost Try.prog Try.f3 fun e w' => e = .returned (.bool true) ∧ Below w.heap.size w w')) ⟨#[u0, u1, .int .i64 (a : Int), .pointer (some ⟨Z, 0, none⟩), u4, u5, u6, u7, u8, u9, u10, u11, .pointer (some ⟨H, 0, none⟩), u13, .pointer (some ⟨p2, 0, none⟩), .int .u64 (LI : Int), .int .u64 (LT : Int), u17, u18, u19, u20, u21, u22, u23, u24, u25, u26, u27, u28, u29, u30, u31, u32, u33, u34, u35, u36, u37, u38, u39, u40, u41, u42, u43, u44, u45, u46, u47, u48, u49, u50, u51, u52, u53, u54, u55, u56, u57, u58, u59, u60, u61, u62, u63, u64, u65, u66, u67, u68, u69, u70, u71, u72, u73, u74, u75, u76, u77, u78, u79, u80, u81, u82, u83, u84, u85, u86, u87, u88, u89, u90, u91, u92, u93, u94, u95, u96, u97, u98, u99, u100, u101, u102, u103, u104, u105, u106, u107, u108, u109, u110, u111, u112, u113, u114, u115, u116, u117, u118, u119, u120, u121, u122, u123, u124, u125, u126, u127, u128, u129, u130, u131, u132, u133, u134, u135, u136, u137, u138, u139, u140, u141, u142, u143, u144, u145, u146, u147, u148, u149], []⟩ w10 := by
  have hh0 : w10.cell? ⟨H, 0, none⟩ = some (.int .u64 (tk : Int)) := by rw [cell_at hrx]; rfl
  have HRc := Lib.hid hrc
  have HAg := Lib.hid hag
  have HRX := Lib.hid hrx
  have HNum := Lib.hid (And.intro hHB hwB)
  have HF10 := Lib.hid hF
  clear hrc hag hrx hHB hwB hF
  dsimp only [behind, ahead1, whole, Try.f3] at hKK ⊢
  --<TK
  go_wp2_with fail
  with_reducible refine HRc.out.mono ?_
  rintro e w11 ⟨rfl, h11, hb11⟩
  have HTk := Lib.hid (at_take h11 (fun h => h))
  have hrx := (hb11.block _ HNum.out.1).trans HRX.out
  have HRX2 := Lib.hid hrx
  have HF11 := Lib.hid (HF10.out.trans (hb11.mono HNum.out.2))
  clear h11 hb11 hrx HRc k0 hh0
  --<TL
  go_wp2_with fail
  with_reducible refine HTk.out.mono ?_
  rintro e w12 ⟨vk2, A2, n2, c2, Z2, rfl, htook⟩
  obtain ⟨Ak2, ck2, rfl⟩ := htook.kept
  obtain ⟨x, hx1, hx2, hx3⟩ := HAg.out
  have hZ := htook.said
  rw [hx1] at hZ
  obtain ⟨pl, rfl⟩ : ∃ pl, Z2 = [(x, pl)] := by
    match Z2, hZ with
    | [(y, pl)], h =>
      simp at h
      exact ⟨pl, by rw [h]⟩
  obtain rfl : n2 = 1 := by have := htook.reads.1; rw [lcs_length] at this; simp only [List.length_cons, List.length_nil] at this; omega
  obtain ⟨g2, rfl, _⟩ := htook.form (by omega)
  have hcl := lt_cells htook.reads (k := 0) (y := (x, pl)) (by omega) rfl 7 _ rfl
  rw [hx2] at hcl
  obtain ⟨nk2, hnk2⟩ : ∃ nk2, nr.kept.length = nk2 := ⟨_, rfl⟩
  obtain ⟨v2, hv2⟩ : ∃ v2, nr.vote = v2 := ⟨_, rfl⟩
  obtain ⟨k2, hk2⟩ : ∃ k2, nr.commit = k2 := ⟨_, rfl⟩
  obtain ⟨i2, hi2⟩ : ∃ i2, nr.inst = i2 := ⟨_, rfl⟩
  obtain ⟨s2, hs2⟩ : ∃ s2, nr.reset = s2 := ⟨_, rfl⟩
  rw [hnk2, hx3, hv2, hk2, hi2, hs2]
  obtain ⟨w13, hw13⟩ : ∃ w13, w12.alloc (.cells #[.int .u64 (tk : Int), .int .i64 v2, .slice Ak2 nk2 ck2, .bool i2, .slice (some ⟨g2, 0, none⟩) 1 c2, .bool s2, .int .u64 (k2 : Int)] 47) = w13 := ⟨_, rfl⟩
  have hr13 : w13.heap[w12.heap.size]? = some (.cells #[.int .u64 (tk : Int), .int .i64 v2, .slice Ak2 nk2 ck2, .bool i2, .slice (some ⟨g2, 0, none⟩) 1 c2, .bool s2, .int .u64 (k2 : Int)] 47 (0, 0)) := by rw [← hw13]; exact heap_alloc_new w12 _
  have hb13 : Below w12.heap.size w12 w13 := by rw [← hw13]; exact (Below.refl _ _).alloc (Nat.le_refl _) _
  have hrh := (hb13.block _ (Nat.lt_of_lt_of_le (lt_at HRX2.out) htook.only.size)).trans ((htook.since.block _ HNum.out.1).trans HRX2.out)
  have hh0 : w13.cell? ⟨H, 0, none⟩ = some (.int .u64 (tk : Int)) := by rw [cell_at hrh]; rfl
  have hh1 : w13.cell? ⟨H, 1, none⟩ = some (.int .i64 vk) := by rw [cell_at hrh]; rfl
  have q0 : w13.cell? ⟨w12.heap.size, 0, none⟩ = some (.int .u64 (tk : Int)) := by rw [cell_at hr13]; rfl
  have q4 : w13.cell? ⟨w12.heap.size, 4, none⟩ = some (.slice (some ⟨g2, 0, none⟩) 1 c2) := by rw [cell_at hr13]; rfl
  have hg2 : g2 < w12.heap.size := by
    obtain ⟨ad, e1, e2, _⟩ := htook.reads.2 (by omega)
    cases e1
    exact e2
  have q7 : w13.cell? ⟨g2, 7, none⟩ = some (.bool (decide (vk = -1) || decide (vk = (a : Int)))) := by
    have := (hb13.cell (p := ⟨g2, 0 * 10 + 7, none⟩) hg2).trans hcl
    simpa using this
  have HF13 := Lib.hid ((HF11.out.trans (htook.since.mono HNum.out.2)).trans (hb13.mono (Nat.le_trans (HF11.out.trans (htook.since.mono HNum.out.2)).size (Nat.le_refl _))))
  have HW13 := Lib.hid hw13
  clear htook hx1 hx2 hx3 hZ hcl hnk2 hv2 hk2 hi2 hs2 hw13 hr13 hb13 hrh hg2 HTk HAg HRX2 HF11
  --<R32
  go_upto_region 32 with fail
  rw [HW13.out]
  have hcs : (vk = -1) ∨ (vk ≠ -1 ∧ vk = (a : Int)) ∨ (vk ≠ -1 ∧ vk ≠ (a : Int)) := by omega
  rcases hcs with h1 | ⟨h1, h2⟩ | ⟨h1, h2⟩
  · subst h1
    have q7' : w13.cell? ⟨g2, 7, none⟩ = some (.bool true) := by rw [q7]; rfl
    clear q7
    go_quiet (fail)
    go_wp2
    go_ret
    exact ⟨rfl, RlgWalkB.below_drewN HF13.out _⟩
  · have q7' : w13.cell? ⟨g2, 7, none⟩ = some (.bool true) := by rw [q7, h2]; simp
    have t1 : (vk == -1) = false := by simpa using h1
    have t2 : (vk == (a : Int)) = true := by rw [h2]; simp
    clear q7
    go_quiet (fail)
    go_wp2
    go_ret
    exact ⟨rfl, RlgWalkB.below_drewN HF13.out _⟩
  · have q7' : w13.cell? ⟨g2, 7, none⟩ = some (.bool false) := by rw [q7, decide_eq_false h1, decide_eq_false h2]; rfl
    have t1 : (vk == -1) = false := by simpa using h1
    have t2 : (vk == (a : Int)) = false := by simpa using h2
    clear q7
    go_quiet (fail)
    go_wp2
    go_ret
    exact ⟨rfl, RlgWalkB.below_drewN HF13.out _⟩
  --R32>
  --TL>
  --TK>
end Go.Proofs.Ytdbmpfongfiagaa.Tal
set_option linter.unusedVariables false
namespace Go.Proofs.Ytdbmpfongfiagaa.LawJ
open Go.RowKit Go.Proofs.Ytdbmpfongfiagaa.Kit Go.Proofs.Ytdbmpfongfiagaa.Blocks Go.Proofs.Ytdbmpfongfiagaa.Rlog Go.Proofs.Ytdbmpfongfiagaa.Ents Go.Proofs.Ytdbmpfongfiagaa.LogAt Go.Proofs.Ytdbmpfongfiagaa.Nod Go.Proofs.Ytdbmpfongfiagaa.NodAt Go.Proofs.Ytdbmpfongfiagaa.WalkB Go.Proofs.Ytdbmpfongfiagaa.WalkI Go.Proofs.Ytdbmpfongfiagaa.WalkJ Go.Proofs.Ytdbmpfongfiagaa.Begun Go.Proofs.Ytdbmpfongfiagaa.Fwd Go.Proofs.Ytdbmpfongfiagaa.OpensC Go.Proofs.Ytdbmpfongfiagaa.LightR Go.Proofs.Ytdbmpfongfiagaa.Stp Go.Proofs.Ytdbmpfongfiagaa.Stv Go.Proofs.Ytdbmpfongfiagaa.Tal

theorem few_of {l : List Ent} {L : List Cal} {k : Nat} {x : Cal} (h : total l L ≤ 600) (hx : L[k]? = some x) : x.x.es.length ≤ 600 ∧ k < 600 := by
  have h1 := sum_mem (f := weigh) (List.mem_of_getElem? hx)
  have h2 : x.x.es.length ≤ weigh x := by unfold weigh; omega
  have h3 := (List.getElem?_eq_some_iff.1 hx).1
  unfold total at h
  omega
/-- The lists of letters' entries. -/
def esW (L : List Cal) : Nat := (L.map fun c => c.x.es.length).sum
theorem esW_snoc (L : List Cal) (k : Nat) (x : Cal) (h : L[k]? = some x) : esW (L.take (k + 1)) = esW (L.take k) + x.x.es.length := by
  rw [take_snoc L k x h]; simp [esW]
theorem esW_le (L : List Cal) : esW L ≤ (L.map weigh).sum := by
  unfold esW
  induction L with
  | nil => simp
  | cons c L ih =>
    have : c.x.es.length ≤ weigh c := by unfold weigh; omega
    simp only [List.map_cons, List.sum_cons]
    omega
/-- Between two calls. -/
structure Run (B : Nat) (w0 : World) (p N : Nat) (s : Snap) (i E : Nat) (W : World) (m : Nd) : Prop where
  at_ : At B W p N m (fun _ => False)
  lis : Listens s i E m
  since : Below B w0 W
/-- Who asks again. -/
def again (m : Nd) (a : Nat) : Msg := ⟨1, (a : Int), (m.id : Int), m.term, (last m.g).1, (last m.g).2, 0, false, [], ByteArray.empty⟩
theorem again_asked {i t : Nat} {v : Int} {g : G} {a : Nat} (ha : a < 7) (hne : a ≠ i) (hix : (last g).1 ≤ 4611686018427387904) :
    ∃ x, (Nod.receive (newNd i t v g) (again (newNd i t v g) a)).out = [x] ∧ x.ok = (decide (v = -1) || decide (v = (a : Int))) ∧ (Nod.receive (newNd i t v g) (again (newNd i t v g) a)).term = t := by
  have h1 : hears (newNd i t v g) (again (newNd i t v g) a) = true := by
    unfold hears
    rw [Bool.and_eq_true]
    refine ⟨decide_eq_true ⟨by show (1 : Int) ≤ 1; decide, by show (1 : Int) ≤ 5; decide, hix, rfl, ?_⟩, decide_eq_true ?_⟩
    · show (a : Int) ≠ (i : Int); omega
    · show 0 ≤ (a : Int) ∧ (a : Int) < 7; omega
  have h2 : heard (newNd i t v g) (again (newNd i t v g) a) = newNd i t v g := by
    unfold heard
    rw [if_neg (by show ¬ t < t; omega)]
  have h3 : Nod.receive (newNd i t v g) (again (newNd i t v g) a) = asked (newNd i t v g) (again (newNd i t v g) a) := by
    unfold Nod.receive
    rw [if_pos h1, h2]
    unfold handles
    exact if_pos rfl
  have h4 : grants (newNd i t v g) (again (newNd i t v g) a) = (decide (v = -1) || decide (v = (a : Int))) := by
    unfold grants newer
    show (decide (t = t) && (decide (0 = 0) && ((decide (v = -1) || decide (v = (a : Int))) && (decide ((last g).2 < (last g).2) || (decide ((last g).2 = (last g).2) && decide ((last g).1 ≤ (last g).1)))))) = _
    simp
  rw [h3]
  unfold asked
  rw [h4]
  cases h5 : (decide (v = -1) || decide (v = (a : Int))) with
  | true => exact ⟨_, rfl, rfl, rfl⟩
  | false => exact ⟨_, rfl, rfl, rfl⟩
theorem field_hard (w : World) (t v : Int) (a : Option Addr) (n c : Nat) (i : Bool) (a' : Option Addr) (n' c' : Nat) (s : Bool) (k : Int) : (Instr.field 47 (.agg #[.int .u64 t, .int .i64 v, .slice a n c, .bool i, .slice a' n' c', .bool s, .int .u64 k]) 0).run Try.prog w = .ok (.agg #[.int .u64 t, .int .i64 v]) w := by kernel_rfl
/-- A number's place among seven. -/
theorem among (z : Int) : ∃ a : Nat, a < 7 ∧ (wrap64 (z.tmod 7 + 7)).tmod 7 = (a : Int) := by
  have h1 := Int.lt_tmod_of_pos z (show (0 : Int) < 7 by decide)
  have h2 := Int.tmod_lt_of_pos z (show (0 : Int) < 7 by decide)
  have h3 : wrap64 (z.tmod 7 + 7) = z.tmod 7 + 7 := by unfold wrap64; omega
  have h4 : (z.tmod 7 + 7).tmod 7 = (z.tmod 7 + 7) % 7 := Int.tmod_eq_emod_of_nonneg (by omega)
  refine ⟨((z.tmod 7 + 7) % 7).toNat, by omega, ?_⟩
  rw [h3, h4]
  omega
set_option maxRecDepth 100000 in
set_option maxHeartbeats 8000000 in
theorem anew_walk (z : Beg) (A : Option Addr) (n c : Nat) (l : List Ent) (C : Option Addr) (m cc : Nat) (L : List Cal) (from_ : Int) (w : World) (hz : BegB z) (hl : CameE w A n c l) (hm : m ≤ 9223372036854775807) (_hx : (Lit.int .i64 from_).wf = true) (hs : Holds w w.heap.size C m L ∧ total l L ≤ 1048576) :
    Calls Try.prog 3 #[begV z A n c, .slice C m cc, .int .i64 from_] w fun e w' => e = .returned (.bool true) ∧ Below w.heap.size w w' := by
  have HBg := Lib.hid begun_true
  have hlen := RE.len hl.reads
  have hn20 : n ≤ 1048576 := by have := hs.2; unfold total at this; omega
  have HLt : Hid (∀ W, Below w.heap.size w W → Calls Try.prog 5 #[.slice A n c, .slice C m cc] W fun e w' => e = .returned (.bool (lightB l L)) ∧ Below W.heap.size W w') := Lib.hid fun W hb =>
    light_any A n c l C m cc L W ((Kit.Reads.below hl.reads hb).more hb.size) hl.ents (by omega) (hs.1.below hb hb.size) hm hs.2
  have HNl : Hid (∀ W, Below w.heap.size w W → Calls Try.prog 6 #[RlgWalkD.snapV z.s, .slice A n c] W fun e w' => if okL z.s l = true then RlgWalkD.NewLog 61 W ⟨z.s, l⟩ e w' ∧ Fine ⟨z.s, l⟩ else RlgWalkD.NoLog W e w') := Lib.hid fun W hb =>
    newlog_any hz.s A n c l W ((Kit.Reads.below hl.reads hb).more hb.size) hl.ents (by omega)
  have HHo := Lib.hid hs.1
  have HLn := Lib.hid hlen
  have HTl : Hid (lightB l L = true → total l L ≤ 600) := Lib.hid fun h => of_decide_eq_true h
  have hzt := hz.t
  have HZS := Lib.hid hz.s
  obtain ⟨zi, zt, zv, zs⟩ := z
  obtain ⟨six, stm, scf, sd⟩ := zs
  simp only at *
  unfold begV
  unfold RlgWalkD.snapV at HNl
  simp only at HNl ⊢
  obtain ⟨w1, hw1⟩ : ∃ w1, w.alloc (.cells #[.int .i64 zi, .int .u64 (zt : Int), .int .i64 zv, .int .u64 (six : Int), .int .u64 (stm : Int), .int .u64 (scf : Int), .string sd, .slice A n c] 29) = w1 := ⟨_, rfl⟩
  have hr1 : w1.heap[w.heap.size]? = some (.cells #[.int .i64 zi, .int .u64 (zt : Int), .int .i64 zv, .int .u64 (six : Int), .int .u64 (stm : Int), .int .u64 (scf : Int), .string sd, .slice A n c] 29 (0, 0)) := by rw [← hw1]; exact heap_alloc_new w _
  have hb1 : Below w.heap.size w w1 := by rw [← hw1]; exact (Below.refl _ w).alloc (Nat.le_refl _) _
  have HW1 := Lib.hid hw1
  have HR1 := Lib.hid hr1
  have HB1 := Lib.hid hb1
  clear hw1 hr1 hb1 hlen hs hl hz
  go_enter Try.func3, Try.ntmps3
  go_wp2_with fail
  rw [HW1.out]
  with_reducible refine (HBg.out w1).mono ?_
  rintro e w2 ⟨rfl, hb2⟩
  have HB2 := Lib.hid (HB1.out.trans (hb2.mono HB1.out.size))
  have hr2 := (hb2.block _ (lt_at HR1.out)).trans HR1.out
  have HR2 := Lib.hid hr2
  have d7 : w2.cell? ⟨w.heap.size, 7, none⟩ = some (.slice A n c) := by rw [cell_at hr2]; rfl
  clear hb2 hr2 HR1 HB1
  as_aux_lemma =>
  go_wp2_with fail
  with_reducible refine (HLt.out w2 HB2.out).mono ?_
  rintro e w3 ⟨rfl, hb3⟩
  have HB3 := Lib.hid (HB2.out.trans (hb3.mono HB2.out.size))
  have hr3 := (hb3.block _ (lt_at HR2.out)).trans HR2.out
  have HR3 := Lib.hid hr3
  have HR3a := Lib.hid hr3
  have d3 : w3.cell? ⟨w.heap.size, 3, none⟩ = some (.int .u64 (six : Int)) := by rw [cell_at hr3]; rfl
  have d4 : w3.cell? ⟨w.heap.size, 4, none⟩ = some (.int .u64 (stm : Int)) := by rw [cell_at hr3]; rfl
  have d5 : w3.cell? ⟨w.heap.size, 5, none⟩ = some (.int .u64 (scf : Int)) := by rw [cell_at hr3]; rfl
  have d6 : w3.cell? ⟨w.heap.size, 6, none⟩ = some (.string sd) := by rw [cell_at hr3]; rfl
  have d7 : w3.cell? ⟨w.heap.size, 7, none⟩ = some (.slice A n c) := by rw [cell_at hr3]; rfl
  obtain ⟨bl, hbl⟩ : ∃ bl, lightB l L = bl := ⟨_, rfl⟩
  rw [hbl] at HTl ⊢
  clear hb3 hr3 HR2 HB2 HLt hbl
  cases bl with
  | false =>
    go_wp2
    go_ret
    exact ⟨rfl, HB3.out⟩
  | true =>
  have HT6 := Lib.hid (HTl.out rfl)
  clear HTl
  as_aux_lemma =>
  go_wp2_with fail
  with_reducible refine (HNl.out w3 HB3.out).mono ?_
  intro e w4 hnl
  obtain ⟨bo, hbo⟩ : ∃ bo, okL ⟨six, stm, scf, sd⟩ l = bo := ⟨_, rfl⟩
  rw [hbo] at hnl
  cases bo with
  | false =>
    rw [if_neg (by decide)] at hnl
    obtain ⟨rfl, hb4⟩ := hnl
    go_wp2
    go_ret
    exact ⟨rfl, HB3.out.trans (hb4.mono HB3.out.size)⟩
  | true =>
  rw [if_pos rfl] at hnl
  obtain ⟨⟨q, v, rfl, hlog, hb4⟩, hfine⟩ := hnl
  have HB4 := Lib.hid (HB3.out.trans (hb4.mono HB3.out.size))
  have hr4 := (hb4.block _ (lt_at HR3.out)).trans HR3.out
  have HR4 := Lib.hid hr4
  have d0 : w4.cell? ⟨w.heap.size, 0, none⟩ = some (.int .i64 zi) := by rw [cell_at hr4]; rfl
  have d1 : w4.cell? ⟨w.heap.size, 1, none⟩ = some (.int .u64 (zt : Int)) := by rw [cell_at hr4]; rfl
  have d2 : w4.cell? ⟨w.heap.size, 2, none⟩ = some (.int .i64 zv) := by rw [cell_at hr4]; rfl
  have hes : l.length ≤ 700 := by have := HT6.out; unfold total at this; omega
  have HNn := Lib.hid (new_at (N := 700) hlog hfine zi hzt zv hes)
  have HB34 := Lib.hid hb4
  clear hlog hb4 hr4 HR3 HNl hfine hbo d3 d4 d5 d6 d7 hes
  as_aux_lemma =>
  go_wp2_with fail
  with_reducible refine HNn.out.mono ?_
  intro e w5 hnn
  obtain ⟨bn, hbn⟩ : ∃ bn, (Quorum.node zi && (voteOk zv && lastOk zt ⟨⟨six, stm, scf, sd⟩, l⟩)) = bn := ⟨_, rfl⟩
  rw [hbn] at hnn
  cases bn with
  | false =>
    rw [if_neg (by decide)] at hnn
    obtain ⟨rfl, hb5⟩ := hnn
    go_wp2
    go_ret
    exact ⟨rfl, HB4.out.trans (hb5.mono HB4.out.size)⟩
  | true =>
  rw [if_pos rfl] at hnn
  obtain ⟨p, rfl, hat, hzi, hz7, hb5⟩ := hnn
  obtain ⟨B, hB⟩ : ∃ B, w3.heap.size = B := ⟨_, rfl⟩
  rw [hB] at hat
  simp only [Bool.and_eq_true] at hbn
  have hlo : lastOk zt ⟨⟨six, stm, scf, sd⟩, l⟩ = true := hbn.2.2
  unfold lastOk at hlo
  simp only [Bool.and_eq_true, decide_eq_true_eq] at hlo
  have HRun : Hid (∃ mk, Run B w3 p (700 + 700 * 0) ⟨six, stm, scf, sd⟩ zi.toNat (l.length + esW (L.take 0)) w5 mk) := ⟨_, hat, ⟨rfl, rfl, rfl, hlo.1, hlo.2, by show l.length ≤ l.length + esW (List.take 0 L); omega⟩, by rw [← hB]; exact HB34.out.trans (hb5.mono HB34.out.size)⟩
  have HBw : Hid (w.heap.size ≤ B) := Lib.hid (by rw [← hB]; exact HB3.out.size)
  have HB3 := Lib.hid HB3.out
  have hbz : w.heap.size < B := by rw [← hB]; exact lt_at HR3a.out
  have HZi := Lib.hid (And.intro hzi (And.intro hz7 hbn.1))
  clear hat hb5 hbn HNn hB hzi hz7 HR4 HB34 d0 d1 d2 hlo
  as_aux_lemma =>
  go_wp2_with fail
  --<LOOP
  go_loopw [48] (fun i wr => ∃ k : Nat, k ≤ m ∧ i = .int .i64 (k : Int) ∧ Hid (∃ mk, Run B w3 p (700 + 700 * k) ⟨six, stm, scf, sd⟩ zi.toNat (l.length + esW (L.take k)) wr mk)) (fun i _ => m - (intOf i).toNat)
  case atStart => exact ⟨0, Nat.zero_le _, rfl, HRun⟩
  case round =>
    obtain ⟨k, hk, rfl, HR⟩ := hrel
    by_cases hkm : k < m
    · --<BODY
      obtain ⟨mk, hrun⟩ := HR.out
      have hbw : Below w.heap.size w wr := HB3.out.trans (hrun.since.mono HBw.out)
      obtain ⟨x, hx⟩ : ∃ x, L[k]? = some x := ⟨_, List.getElem?_eq_getElem (by rw [HHo.out.1]; exact hkm)⟩
      obtain ⟨b, o, rfl, hbl, hten, hcal⟩ := (HHo.out.below hbw (Nat.le_refl _)).2 k x hx
      obtain ⟨hfew, hk600⟩ := few_of HT6.out hx
      have hsn := esW_snoc L k x hx
      have hwb := HBw.out
      obtain ⟨kind, ms, pl, data, id, idx, add⟩ := x
      obtain ⟨kd, fr, tt, tm, ix, pv, cm, ok, es, dd⟩ := ms
      obtain ⟨A9, n9, e9⟩ := pl
      have c0 := hten.c0
      have c1 := hten.c1
      have c2 := hten.c2
      have c3 := hten.c3
      have c4 := hten.c4
      have c5 := hten.c5
      have c6 := hten.c6
      have c7 := hten.c7
      have c8 := hten.c8
      have c9 := hten.c9
      have c10 := hten.c10
      have c11 := hten.c11
      have c12 := hten.c12
      have c13 := hten.c13
      have c14 := hten.c14
      simp only at c0 c1 c2 c3 c4 c5 c6 c7 c8 c9 c10 c11 c12 c13 c14 hfew
      obtain ⟨wa, hwa⟩ : ∃ wa, wr.alloc (.cells #[.int .i64 kind, .int .i64 kd, .int .i64 fr, .int .i64 tt, .int .u64 (tm : Int), .int .u64 (ix : Int), .int .u64 (pv : Int), .int .u64 (cm : Int), .bool ok, .slice A9 n9 e9, .string dd, .string data, .int .i64 id, .int .u64 (idx : Int), .bool add] 43) = wa := ⟨_, rfl⟩
      have hra : wa.heap[wr.heap.size]? = some (.cells #[.int .i64 kind, .int .i64 kd, .int .i64 fr, .int .i64 tt, .int .u64 (tm : Int), .int .u64 (ix : Int), .int .u64 (pv : Int), .int .u64 (cm : Int), .bool ok, .slice A9 n9 e9, .string dd, .string data, .int .i64 id, .int .u64 (idx : Int), .bool add] 43 (0, 0)) := by rw [← hwa]; exact heap_alloc_new wr _
      have hba : Below wr.heap.size wr wa := by rw [← hwa]; exact (Below.refl _ _).alloc (Nat.le_refl _) _
      have hala : At B wa p (700 + 700 * k) mk (fun _ => False) := hrun.at_.below hba
      have hsb : Below B w3 wa := hrun.since.trans (hba.mono hrun.at_.base)
      have y0 : wa.cell? ⟨wr.heap.size, 0, none⟩ = some (.int .i64 kind) := by rw [cell_at hra]; rfl
      have y1 : wa.cell? ⟨wr.heap.size, 1, none⟩ = some (.int .i64 kd) := by rw [cell_at hra]; rfl
      have y2 : wa.cell? ⟨wr.heap.size, 2, none⟩ = some (.int .i64 fr) := by rw [cell_at hra]; rfl
      have y3 : wa.cell? ⟨wr.heap.size, 3, none⟩ = some (.int .i64 tt) := by rw [cell_at hra]; rfl
      have y4 : wa.cell? ⟨wr.heap.size, 4, none⟩ = some (.int .u64 (tm : Int)) := by rw [cell_at hra]; rfl
      have y5 : wa.cell? ⟨wr.heap.size, 5, none⟩ = some (.int .u64 (ix : Int)) := by rw [cell_at hra]; rfl
      have y6 : wa.cell? ⟨wr.heap.size, 6, none⟩ = some (.int .u64 (pv : Int)) := by rw [cell_at hra]; rfl
      have y7 : wa.cell? ⟨wr.heap.size, 7, none⟩ = some (.int .u64 (cm : Int)) := by rw [cell_at hra]; rfl
      have y8 : wa.cell? ⟨wr.heap.size, 8, none⟩ = some (.bool ok) := by rw [cell_at hra]; rfl
      have y9 : wa.cell? ⟨wr.heap.size, 9, none⟩ = some (.slice A9 n9 e9) := by rw [cell_at hra]; rfl
      have y10 : wa.cell? ⟨wr.heap.size, 10, none⟩ = some (.string dd) := by rw [cell_at hra]; rfl
      have hcal7 : CalB wa w.heap.size ⟨kind, ⟨kd, fr, tt, tm, ix, pv, cm, ok, es, dd⟩, ⟨A9, n9, e9⟩, data, id, idx, add⟩ := hcal.below (hba.mono (by have := hrun.at_.base; omega)) (Nat.le_refl _)
      have hrc := hala.receive_to (by omega) hcal7 HBw.out
      unfold ltV at hrc
      simp only at hrc
      have hfw : es.length * 40 ≤ 140737488355328 := by omega
      have HLi : Hid (kd ≠ 5 → Listens ⟨six, stm, scf, sd⟩ zi.toNat (l.length + esW (L.take (k + 1))) (Nod.receive mk ⟨kd, fr, tt, tm, ix, pv, cm, ok, es, dd⟩)) := Lib.hid fun h5 => by
        have := listens_receive hrun.lis (x := ⟨kd, fr, tt, tm, ix, pv, cm, ok, es, dd⟩) hcal7.msg.es h5 hfw
        rw [hsn, ← Nat.add_assoc]
        exact this
      have HNo : Hid (∃ mk, Run B w3 p (700 + 700 * (k + 1)) ⟨six, stm, scf, sd⟩ zi.toNat (l.length + esW (L.take (k + 1))) wa mk) := Lib.hid ⟨mk, hala.mono (by omega), ⟨hrun.lis.role, hrun.lis.id, hrun.lis.snap, hrun.lis.term, hrun.lis.top, by have := hrun.lis.es; rw [hsn]; omega⟩, hsb⟩
      have HRc := Lib.hid hrc
      have HWA := Lib.hid hwa
      have HSB := Lib.hid hsb
      have HAa := Lib.hid hala
      clear hrun hbw hx hten hcal hwa hra hba hala hsb hcal7 hrc hfw hsn
      as_aux_lemma =>
      go_upto_region 14 with fail
      rw [HWA.out]
      have hKc : kind ≠ 0 ∨ (kind = 0 ∧ kd = 5) ∨ (kind = 0 ∧ kd ≠ 5) := by omega
      rcases hKc with h0 | ⟨rfl, rfl⟩ | ⟨rfl, h5⟩
      · have t0 : (kind == 0) = false := by simp; omega
        have HF := Lib.hid HNo.out
        as_aux_lemma =>
        go_wp2_with fail
        go_roundw
        case rel => exact ⟨k + 1, by omega, by go_num, HF⟩
        case measure => simp [intOf]; omega
      · have HF := Lib.hid HNo.out
        as_aux_lemma =>
        go_wp2_with fail
        go_roundw
        case rel => exact ⟨k + 1, by omega, by go_num, HF⟩
        case measure => simp [intOf]; omega
      · have t5 : (kd != 5) = true := by simp; omega
        as_aux_lemma =>
        go_wp2_with fail
        with_reducible refine HRc.out.mono ?_
        rintro e w8 ⟨rfl, h8, hb8, ho8⟩
        have HF : Hid (∃ mk, Run B w3 p (700 + 700 * (k + 1)) ⟨six, stm, scf, sd⟩ zi.toNat (l.length + esW (L.take (k + 1))) w8 mk) := Lib.hid ⟨_, h8.mono (by show 700 + 700 * k + es.length + 22 ≤ _; omega), HLi.out h5, HSB.out.trans hb8⟩
        clear h8 hb8 ho8
        go_wp2_with fail
        go_roundw
        case rel => exact ⟨k + 1, by omega, by go_num, HF⟩
        case measure => simp [intOf]; omega
      --BODY>
    · obtain rfl : k = m := by omega
      --<END
      obtain ⟨mk, hrun⟩ := HR.out
      have hE : l.length + esW (L.take k) ≤ 600 := by
        have h1 := esW_le L
        have h2 := HT6.out
        rw [List.take_of_length_le (by rw [HHo.out.1]; exact Nat.le_refl _)]
        unfold total at h2
        omega
      have HTk := Lib.hid (at_take hrun.at_ (fun h => h))
      have HSi := Lib.hid hrun.since
      have HLi := Lib.hid hrun.lis
      have HNb := Lib.hid hrun.at_.b
      have hfh := field_hard
      clear hrun HR HHo HRun
      as_aux_lemma =>
      go_wp2_with fail
      with_reducible refine HTk.out.mono ?_
      rintro e wd ⟨vk', A8, n8, c8, Z, rfl, htook⟩
      obtain ⟨Ak, ck, rfl⟩ := htook.kept
      obtain ⟨nk, hnk⟩ : ∃ nk, mk.kept.length = nk := ⟨_, rfl⟩
      obtain ⟨tk, htk⟩ : ∃ tk, mk.term = tk := ⟨_, rfl⟩
      obtain ⟨vk, hvk⟩ : ∃ vk, mk.vote = vk := ⟨_, rfl⟩
      obtain ⟨cmt, hcmt⟩ : ∃ cmt, mk.commit = cmt := ⟨_, rfl⟩
      obtain ⟨ins, hins⟩ : ∃ ins, mk.inst = ins := ⟨_, rfl⟩
      obtain ⟨rs, hrs⟩ : ∃ rs, mk.reset = rs := ⟨_, rfl⟩
      rw [hnk, htk, hvk, hcmt, hins, hrs]
      obtain ⟨w6, hw6⟩ : ∃ w6, wd.alloc (.cells #[.int .u64 (tk : Int), .int .i64 vk] 24) = w6 := ⟨_, rfl⟩
      have hr6 : w6.heap[wd.heap.size]? = some (.cells #[.int .u64 (tk : Int), .int .i64 vk] 24 (0, 0)) := by rw [← hw6]; exact heap_alloc_new wd _
      have hb6 : Below wd.heap.size wd w6 := by rw [← hw6]; exact (Below.refl _ _).alloc (Nat.le_refl _) _
      have hb6d : Below wd.heap.size wd w6.drew := hb6.drew
      have hat6 : At B w6.drew p _ (taken mk) (fun _ => False) := htook.at_.below hb6d
      have hs6 : Below B w3 w6.drew := (HSi.out.trans htook.since).trans (hb6d.mono htook.at_.base)
      have hbx := (hs6.block _ hbz).trans HR3a.out
      have hS0 : Hid (w6.drew.cell? ⟨w.heap.size, 3, none⟩ = some (.int .u64 (six : Int)) ∧ w6.drew.cell? ⟨w.heap.size, 4, none⟩ = some (.int .u64 (stm : Int)) ∧ w6.drew.cell? ⟨w.heap.size, 5, none⟩ = some (.int .u64 (scf : Int)) ∧ w6.drew.cell? ⟨w.heap.size, 6, none⟩ = some (.string sd)) :=
        Lib.hid ⟨by rw [cell_at hbx]; rfl, by rw [cell_at hbx]; rfl, by rw [cell_at hbx]; rfl, by rw [cell_at hbx]; rfl⟩
      have hfg := hat6.b.fine
      have hfg : Fine mk.g := hfg
      have hsn : mk.g.snap = ⟨six, stm, scf, sd⟩ := HLi.out.snap
      have hgs : mk.g = ⟨⟨six, stm, scf, sd⟩, mk.g.es⟩ := by rw [← hsn]
      obtain ⟨E, hE2⟩ : ∃ E, mk.g.es = E := ⟨_, rfl⟩
      have hEl : E.length ≤ 600 := by have := HLi.out.es; rw [hE2] at this; omega
      rw [hE2] at hgs
      have hge : get mk.g (six + 1) 2000 = E := by
        have := get_all hfg (by rw [hE2]; omega)
        rw [hsn, hE2] at this
        exact this
      have hli := hfg.last_idx
      have hltop := HLi.out.top
      rw [hsn, hE2] at hli
      simp only at hli
      have hwr : IntKind.u64.wrap ((six : Int) + 1) = (six : Int) + 1 := by unfold IntKind.wrap; simp [IntKind.signed, IntKind.bits]; omega
      obtain ⟨qb, vb, hlgb, hLgb⟩ := hat6.log
      have HGt : Hid (∀ x : Int, x = (six : Int) + 1 → Calls Try.prog 11 #[.pointer (some ⟨qb, 0, none⟩), .int .u64 x, .int .i64 2000] w6.drew (RlgWalkF.Gives w6.drew E)) := Lib.hid fun x hx => by
        subst hx
        have := RlgWalkF.get_any hlgb (i := six + 1) (n := 2000) (by omega) (by decide) (by show mk.g.es.length * 40 ≤ _; rw [hE2]; omega)
        rw [show get (taken mk).g (six + 1) 2000 = E from hge] at this
        rwa [show ((six + 1 : Nat) : Int) = (six : Int) + 1 by omega] at this
      have hokL : okL ⟨six, stm, scf, sd⟩ E = true := by
        unfold okL
        rw [hgs] at hfg
        rw [show Quorum.sound (⟨six, stm, scf, sd⟩ : Snap).cfg = true from hfg.cfg, show chained E six stm = true from hfg.runs]
        rfl
      have hents : ∀ e ∈ E, EntB e := by rw [← hE2]; exact hfg.ents
      have HLgb := Lib.hid hLgb
      have HW6 := Lib.hid hw6
      have HR6 := Lib.hid hr6
      have HS6 := Lib.hid hs6
      have HGs := Lib.hid hgs
      have HFg := Lib.hid hfg
      have HOk := Lib.hid hokL
      have HEn := Lib.hid hents
      have HHard := Lib.hid (And.intro htk hvk)
      have hbp : B ≤ w6.drew.heap.size := hat6.base
      have hlt6 : wd.heap.size < w6.drew.heap.size := lt_at hr6
      clear htook hnk htk hvk hcmt hins hrs hw6 hr6 hb6 hb6d hat6 hs6 hbx hfg hsn hgs hE2 hge hli hltop hlgb hLgb hokL hents HTk HSi hE
      as_aux_lemma =>
      go_upto_region 18 with fail
      rw [HW6.out]
      clear hfh
      --<R18
      go_region_held3 (fun W => W.cell? ⟨w.heap.size, 3, none⟩ = some (.int .u64 (six : Int)) ∧ W.cell? ⟨w.heap.size, 4, none⟩ = some (.int .u64 (stm : Int)) ∧ W.cell? ⟨w.heap.size, 5, none⟩ = some (.int .u64 (scf : Int)) ∧ W.cell? ⟨w.heap.size, 6, none⟩ = some (.string sd))
        (first
          | (with_reducible exact hS0.out)
          | (with_reducible exact HSa.out)
          | (with_reducible exact HSb.out))
        (first
          | (go_at_call 10
             with_reducible refine HLgb.out.mono ?_
             rintro e wy ⟨rfl, rfl⟩)
          | (go_at_call 11
             with_reducible refine (HGt.out _ (by first | exact hwr | rfl)).mono ?_
             rintro e w7 ⟨A2, c2, rfl, hre, hlc, hcm, hb7, hoff⟩
             have hs7 : Below B w3 w7 := HS6.out.trans (hb7.mono hbp)
             have hbx7 := (hs7.block _ hbz).trans HR3a.out
             have HSa : Hid (w7.cell? ⟨w.heap.size, 3, none⟩ = some (.int .u64 (six : Int)) ∧ w7.cell? ⟨w.heap.size, 4, none⟩ = some (.int .u64 (stm : Int)) ∧ w7.cell? ⟨w.heap.size, 5, none⟩ = some (.int .u64 (scf : Int)) ∧ w7.cell? ⟨w.heap.size, 6, none⟩ = some (.string sd)) :=
               Lib.hid ⟨by rw [cell_at hbx7]; rfl, by rw [cell_at hbx7]; rfl, by rw [cell_at hbx7]; rfl, by rw [cell_at hbx7]; rfl⟩
             have HR7 := Lib.hid ((hb7.block _ hlt6).trans HR6.out)
             have hnw := newlog_any HZS.out A2 E.length c2 E w7 hre HEn.out (by omega)
             unfold RlgWalkD.snapV at hnw
             simp only at hnw
             have HNw := Lib.hid hnw
             have HS7 := Lib.hid hs7
             have HB7 := Lib.hid hb7.size
             have hR7l := lt_at HR7.out
             clear hre hlc hcm hb7 hoff hs7 hbx7 hnw)
          | (go_at_call 6
             with_reducible refine HNw.out.mono ?_
             intro e w8 hnl
             rw [if_pos HOk.out] at hnl
             obtain ⟨⟨q8, v8, rfl, hlog8, hb8⟩, hf8⟩ := hnl
             have hs8 : Below B w3 w8 := HS7.out.trans (hb8.mono (Nat.le_trans hbp HB7.out))
             have hbx8 := (hs8.block _ hbz).trans HR3a.out
             have HSb : Hid (w8.cell? ⟨w.heap.size, 3, none⟩ = some (.int .u64 (six : Int)) ∧ w8.cell? ⟨w.heap.size, 4, none⟩ = some (.int .u64 (stm : Int)) ∧ w8.cell? ⟨w.heap.size, 5, none⟩ = some (.int .u64 (scf : Int)) ∧ w8.cell? ⟨w.heap.size, 6, none⟩ = some (.string sd)) :=
               Lib.hid ⟨by rw [cell_at hbx8]; rfl, by rw [cell_at hbx8]; rfl, by rw [cell_at hbx8]; rfl, by rw [cell_at hbx8]; rfl⟩
             have HR8 := Lib.hid ((hb8.block _ (lt_at HR7.out)).trans HR7.out)
             have HLog8 := Lib.hid hlog8
             have HF8 := Lib.hid hf8
             have HS8 := Lib.hid hs8
             have HX8 := Lib.hid hbx8
             have HB78 := Lib.hid (Nat.le_trans HB7.out hb8.size)
             have h37 : w3.heap.size ≤ w7.heap.size := HS7.out.size
             have hbB7 : B ≤ w7.heap.size := Nat.le_trans hbp HB7.out
             clear hlog8 hb8 hf8 hs8 hbx8))
      --<R21
      obtain ⟨z1, z2, z3⟩ := HZi.out
      have hnn := new_at (N := 600) HLog8.out HF8.out zi (by have := HNb.out.term; rw [HHard.out.1] at this; exact this) vk (by exact hEl)
      have hvo : voteOk vk = true := by
        have h1 := HNb.out.v0
        have h2 := HNb.out.v1
        rw [HHard.out.2] at h1 h2
        unfold voteOk
        by_cases hv : vk = -1
        · rw [decide_eq_true hv]; rfl
        · have : Quorum.node vk = true := by unfold Quorum.node; exact decide_eq_true (by omega)
          rw [this]; simp
      have hlo : lastOk tk ⟨⟨six, stm, scf, sd⟩, E⟩ = true := by
        have h1 := HLi.out.term
        have h2 := HLi.out.top
        rw [HHard.out.1] at h1
        rw [HGs.out] at h1 h2
        unfold lastOk
        rw [decide_eq_true h1, decide_eq_true h2]
        rfl
      rw [show (Quorum.node zi && (voteOk vk && lastOk tk ⟨⟨six, stm, scf, sd⟩, E⟩)) = true by rw [z3, hvo, hlo]; rfl] at hnn
      have HNN := Lib.hid hnn
      have k0 : w8.cell? ⟨w.heap.size, 0, none⟩ = some (.int .i64 zi) := by rw [cell_at HX8.out]; rfl
      have hh0 : w8.cell? ⟨wd.heap.size, 0, none⟩ = some (.int .u64 (tk : Int)) := by rw [cell_at HR8.out]; rfl
      have hh1 : w8.cell? ⟨wd.heap.size, 1, none⟩ = some (.int .i64 vk) := by rw [cell_at HR8.out]; rfl
      clear z1 z2 z3 hnn hvo hlo HNw HSa HSb HR7 HS7 HB7 HGt HLgb hS0 HS6 HR6 h37
      as_aux_lemma =>
      go_wp2_with fail
      with_reducible refine HNN.out.mono ?_
      intro e w9 hn9
      rw [if_pos (by trivial)] at hn9
      obtain ⟨p2, rfl, hat9, -, -, hb9⟩ := hn9
      obtain ⟨B2, hB2⟩ : ∃ B2, w7.heap.size = B2 := ⟨_, rfl⟩
      have hb3B2 : B ≤ B2 := by rw [← hB2]; exact hbB7
      have hwd2 : wd.heap.size < B2 := by rw [← hB2]; exact hR7l
      rw [hB2] at hat9
      have hlog9 := HLog8.out.below hb9
      have HLs := Lib.hid (RlgWalkE.last_any hlog9 HF8.out)
      obtain ⟨LI, hLI⟩ : ∃ LI, (last ⟨⟨six, stm, scf, sd⟩, E⟩).1 = LI := ⟨_, rfl⟩
      obtain ⟨LT, hLT⟩ : ∃ LT, (last ⟨⟨six, stm, scf, sd⟩, E⟩).2 = LT := ⟨_, rfl⟩
      rw [hLI, hLT] at HLs
      have hlb := HF8.out.last_b
      rw [hLI, hLT] at hlb
      have hbx9 := (hb9.block _ (lt_at HX8.out)).trans HX8.out
      have k0 : w9.cell? ⟨w.heap.size, 0, none⟩ = some (.int .i64 zi) := by rw [cell_at hbx9]; rfl
      have hr9 := (hb9.block _ (lt_at HR8.out)).trans HR8.out
      have HX9 := Lib.hid hbx9
      have HR9 := Lib.hid hr9
      have HA9 := Lib.hid hat9
      have HS9 := Lib.hid (HS8.out.trans (hb9.mono (Nat.le_trans hbp (Nat.le_trans HB78.out (Nat.le_refl _)))))
      have HLL := Lib.hid (And.intro hLI hLT)
      have HLb := Lib.hid hlb
      obtain ⟨a, ha7, hza⟩ := among from_
      have HZa := Lib.hid hza
      have HFin : Hid (Below w.heap.size w w9) := Lib.hid (HB3.out.trans (HS9.out.mono HBw.out))
      clear hat9 hlog9 hLI hLT hlb hbx9 hr9 hb9 hza HNN HR8 HX8 HLog8 hh0 hh1 hB2
      as_aux_lemma =>
      go_upto_region 25 with fail
      rw [HZa.out]
      by_cases hai : (a : Int) = zi
      · have t0 : ((a : Int) == zi) = true := by rw [hai]; simp
        go_wp2
        go_ret
        exact ⟨rfl, HFin.out⟩
      · have t0 : ((a : Int) == zi) = false := by simpa using hai
        --<R27
        as_aux_lemma =>
        go_wp2_with fail
        with_reducible refine HLs.out.mono ?_
        rintro e w10 ⟨rfl, hb10⟩
        by_cases hbig : 4611686018427387904 < LI
        · have HF10 := Lib.hid (HFin.out.trans (hb10.mono HFin.out.size))
          clear hb10
          go_wp2
          go_ret
          exact ⟨rfl, HF10.out⟩
        · have hat10 := HA9.out.below hb10
          have hbx := (hb10.block _ (lt_at HX9.out)).trans HX9.out
          have hrx := (hb10.block _ (lt_at HR9.out)).trans HR9.out
          have k0 : w10.cell? ⟨w.heap.size, 0, none⟩ = some (.int .i64 zi) := by rw [cell_at hbx]; rfl
          have hh0 : w10.cell? ⟨wd.heap.size, 0, none⟩ = some (.int .u64 (tk : Int)) := by rw [cell_at hrx]; rfl
          obtain ⟨z1, z2, z3⟩ := HZi.out
          obtain ⟨n1, n2⟩ := HLL.out
          have hag := again_asked (i := zi.toNat) (t := tk) (v := vk) (g := ⟨⟨six, stm, scf, sd⟩, E⟩) ha7 (by omega) (by rw [n1]; omega)
          have hal : again (newNd zi.toNat tk vk ⟨⟨six, stm, scf, sd⟩, E⟩) a = ⟨1, (a : Int), zi, tk, LI, LT, 0, false, [], ByteArray.empty⟩ := by
            unfold again
            rw [show (newNd zi.toNat tk vk ⟨⟨six, stm, scf, sd⟩, E⟩).g = ⟨⟨six, stm, scf, sd⟩, E⟩ from rfl, n1, n2]
            show (⟨1, (a : Int), ((zi.toNat : Nat) : Int), tk, LI, LT, 0, false, [], ByteArray.empty⟩ : Msg) = _
            rw [← z1]
          rw [hal] at hag
          have hrc0 := receive_bare hat10 (by decide) ⟨1, (a : Int), zi, tk, LI, LT, 0, false, [], ByteArray.empty⟩ ⟨by show (-9223372036854775808 : Int) ≤ 1; decide, by show (1 : Int) ≤ 9223372036854775807; decide, by show (-9223372036854775808 : Int) ≤ (a : Int); omega, by show (a : Int) ≤ 9223372036854775807; omega, by show (-9223372036854775808 : Int) ≤ zi; omega, by show zi ≤ 9223372036854775807; omega, (by have := HNb.out.term; rw [HHard.out.1] at this; exact this), HLb.out.1, HLb.out.2, by show (0 : Nat) < 18446744073709551616; decide, (fun e h => by cases h), by show 0 * 40 ≤ 140737488355328; decide⟩ rfl
          unfold ltV noPl at hrc0
          simp only at hrc0
          obtain ⟨nr, hnr⟩ : ∃ nr, Nod.receive (newNd zi.toNat tk vk ⟨⟨six, stm, scf, sd⟩, E⟩) ⟨1, (a : Int), zi, tk, LI, LT, 0, false, [], ByteArray.empty⟩ = nr := ⟨_, rfl⟩
          rw [hnr] at hrc0 hag
          have hrc : Calls Try.prog 8 #[.pointer (some ⟨p2, 0, none⟩), .agg #[.int .i64 1, .int .i64 (a : Int), .int .i64 zi, .int .u64 (tk : Int), .int .u64 (LI : Int), .int .u64 (LT : Int), .int .u64 0, .bool false, .slice none 0 0, .string ⟨#[]⟩]] w10 fun e w' => e = .returned (.tuple #[]) ∧ At B2 w' p2 (600 + 22) nr (fun _ => False) ∧ Below B2 w10 w' := hrc0
          have HRc := Lib.hid hrc
          have HAg := Lib.hid hag
          have HF10 := Lib.hid (HFin.out.trans (hb10.mono HFin.out.size))
          have HRX := Lib.hid hrx
          have hwb2 : w.heap.size ≤ B2 := Nat.le_trans HBw.out hb3B2
          have HNum := Lib.hid (And.intro hwd2 hwb2)
          clear hb10 hat10 hbx hrx n1 n2 hag hal hrc hrc0 hnr z1 z2 z3 HX9 HR9
          --<TK
          as_aux_lemma =>
          go_upto_region 30 with fail
          refine tail30 ?_ HRc.out HAg.out k0 HRX.out HNum.out.1 HNum.out.2 HF10.out
          assumption
          --TK>
        --R27>
      --R21>
      --R18>
      --END>
  --LOOP>
end Go.Proofs.Ytdbmpfongfiagaa.LawJ
namespace Go.Proofs.Ytdbmpfongfiagaa.PRaftAnewUpto
open Go.ChangeShapes Go.WideShapes Go.ChangeAt Go.RowKit Go.Proofs.Ytdbmpfongfiagaa.Kit Go.Proofs.Ytdbmpfongfiagaa.Frame
set_option linter.unusedVariables false

theorem own : ownKnob Try.prog.godebug = none := by kernel_rfl
theorem laidOut : laidOutB Try.prog = true := by kernel_rfl

set_option maxRecDepth 100000 in
theorem contract (H : Type) (enc : TypeId × Value → H) (W : World) (base : Nat) (args : Array Value) (ds gs : List (DataW H)) (before : List MemPlace)
    (hval : ∀ (j : Nat) t v, Try.f3.params[j]? = some t → args[j]? = some v → Value.okWide Try.prog W .any base t v)
    (hW : DataW.Whole enc Try.prog Try.f3.params.toList Rows.raftAnewSpec.vars false W args.toList ds gs before)
    (hk : Rows.uptoSmall H (ds ++ gs) = true) :
    Calls Try.prog 3 args W fun e W' => ∃ v, e = .returned v ∧ Rows.raftAnewSpec.post enc Try.prog Try.f3 false true false false W args v W' := by
  have hW' := hW
  obtain ⟨p, q, hA0, hV, rfl, hfz, hnd⟩ := hW
  have hA : DataW.TrodAll enc Try.prog W 0 (fun _ => true) true Try.f3.params.toList args.toList ds p := hA0
  rw [Try.params3] at hA hval
  obtain ⟨v0, vs0, d0, ds0, p0, q0, hargs, rfl, rfl, h0, r0⟩ := trodAll_cons hA
  obtain ⟨v1, vs1, d1, ds1, p1, q1, rfl, rfl, rfl, h1, r1⟩ := trodAll_cons r0
  obtain ⟨v2, vs2, d2, ds2, p2, q2, rfl, rfl, rfl, h2, r2⟩ := trodAll_cons r1
  obtain ⟨rfl, rfl, rfl⟩ := trodAll_nil r2
  obtain rfl : args = #[v0, v1, v2] := by cases args; simp_all
  obtain ⟨rfl, rfl⟩ := trodVars_none hV
  have lt0 : ∀ x ∈ p0, x.block < W.heap.size := by obtain ⟨m, hm⟩ := h0; exact DataW.trod_lt m _ _ _ hm
  obtain ⟨z0, A0, n0, c0, l0, rfl, hz0_0, hl0_1, d0_2⟩ := OpensC.arg_start (hval 0 29 v0 rfl rfl) h0
  have lt1 : ∀ x ∈ p1, x.block < W.heap.size := by obtain ⟨m, hm⟩ := h1; exact DataW.trod_lt m _ _ _ hm
  obtain ⟨C1, m1, cc1, L1, rfl, hm1_0, hh1_1, d1_2⟩ := OpensC.arg_calls (hval 1 30 v1 rfl rfl) h1
  have lt2 : ∀ x ∈ p2, x.block < W.heap.size := by obtain ⟨m, hm⟩ := h2; exact DataW.trod_lt m _ _ _ hm
  have k2 := h2
  obtain ⟨x2, rfl, e2, g2, hw2⟩ := open_int Try.underlying3 (hval 2 3 v2 rfl rfl) k2
  have hall : Rows.uptoBulkAll _ ≤ 1048576 := of_decide_eq_true hk
  clear hA0
  refine (LawJ.anew_walk z0 A0 n0 c0 l0 C1 m1 cc1 L1 x2 W hz0_0 hl0_1 hm1_0 hw2 (OpensC.small3 d0_2 hh1_1 d1_2 hall)).mono fun e W' ⟨he, bel⟩ => ?_
  subst he
  exact ⟨_, rfl, _, _, _, [], _, [], hW', trodAll_mk1 (shut_bool Try.underlying4 _), (trodAll_cons_mk (Below.trod laidOut (by kernel_rfl) (of_decide_eq_true (by kernel_rfl)) h0 bel lt0) (trodAll_cons_mk (Below.trod laidOut (by kernel_rfl) (of_decide_eq_true (by kernel_rfl)) h1 bel lt1) (trodAll_cons_mk (Below.trod laidOut (by kernel_rfl) (of_decide_eq_true (by kernel_rfl)) h2 bel lt2) trodAll_mk0))), rfl, bel.frame _, fun h => by cases h⟩

set_option maxRecDepth 100000 in
theorem lifted (os : Os) (started : os.Started) (H : Type) (enc : TypeId × Value → H) (F : Stop.Interp) :
    ReturnsInHanded {} Try.checked os 3 .any ((Rows.OpenSpec.upto Rows.raftAnewSpec).pre6 enc Try.prog Try.f3 Rows.raftAnewUptoRow.domain false) (((Rows.OpenSpec.upto Rows.raftAnewSpec).at F).post enc Try.prog Try.f3 false true false false) := by
  refine returnsInHanded_of_cond (C := Try.checked) (s := Rows.OpenSpec.upto Rows.raftAnewSpec) (k := Rows.uptoSmall) rfl own started (by kernel_rfl) Try.func3
    (OpenSpec.witness (enc := enc) (C := Try.checked) (s := Rows.OpenSpec.upto Rows.raftAnewSpec) (k := Rows.uptoSmall) rfl false ⟨#[], #[.agg #[.int .i64 0, .int .u64 0, .int .i64 0, .int .u64 0, .int .u64 0, .int .u64 0, .string .empty, .slice none 0 0], .slice none 0 0, .int .i64 0], []⟩ 8 (by kernel_rfl) (by kernel_rfl) (by kernel_rfl)
      (x := ([.agg [.lit (.int .i64 0), .agg [.lit (.int .u64 0), .lit (.int .i64 0)], .agg [.lit (.int .u64 0), .lit (.int .u64 0), .lit (.int .u64 0), .lit (.string [])], .nil], .nil, .lit (.int .i64 0)], [], [])) (by kernel_rfl) rfl (by kernel_rfl)) ?_
  intro W base args ds gs before hval hW _ hk _
  exact contract H enc W base args ds gs before hval hW hk

theorem over : Rows.raftAnewUptoRow.holds Try.pinned (Rows.OpenSpec.upto Rows.raftAnewSpec) :=
  OpenClaim.holds_of_cond 3 Try.f3 rfl rfl rfl rfl rfl rfl rfl ⟨rfl, rfl, rfl, rfl, rfl⟩ rfl rfl rfl rfl rfl (by kernel_rfl) Try.func3 (by kernel_rfl)
    (of_decide_eq_true (by kernel_rfl)) (by unfold Func.isWrapper; first | (rw [if_pos (by decide +kernel)]; kernel_rfl) | (rw [if_neg (by decide +kernel)]; exact ⟨rfl, rfl⟩))
    (fun os started H enc _ F => lifted os started H enc F)

theorem proved : Rows.RaftAnewUptoSaid := over
end Go.Proofs.Ytdbmpfongfiagaa.PRaftAnewUpto
