/- The statement RaftVotes of tontinelaw12, its second form: for every input the call returns true, and each argument reads afterwards as it read before (where the arguments hold together at most 1048576 values and letters). -/
import Derived.Test.YtokifeghoodkgaaGreatOpensC
import Derived.Test.YtokifeghoodkgaaGreatGB
import Derived.Test.YtokifeghoodkgaaGreatOnly
import Derived.Maps.OwnSet
import Derived.Test.YtokifeghoodkgaaGreatLightR
import Derived.Carry
import Derived.StillTailTactics
import Derived.Deep.CutRange
import Derived.Deep.CutBlock
import Derived.Test.YtokifeghoodkgaaGreatFrame
import Derived.Deep.CondSized
set_option linter.unusedVariables false
namespace Go.Proofs.YtokifeghoodkgaaGreat.Stp
open Go.RowKit Go.Proofs.YtokifeghoodkgaaGreat.Kit Go.Proofs.YtokifeghoodkgaaGreat.Blocks Go.Proofs.YtokifeghoodkgaaGreat.Rlog Go.Proofs.YtokifeghoodkgaaGreat.Ents Go.Proofs.YtokifeghoodkgaaGreat.LogAt Go.Proofs.YtokifeghoodkgaaGreat.Nod Go.Proofs.YtokifeghoodkgaaGreat.NodAt Go.Proofs.YtokifeghoodkgaaGreat.WalkB Go.Proofs.YtokifeghoodkgaaGreat.WalkI Go.Proofs.YtokifeghoodkgaaGreat.WalkJ Go.Proofs.YtokifeghoodkgaaGreat.Begun Go.Proofs.YtokifeghoodkgaaGreat.Fwd Go.Proofs.YtokifeghoodkgaaGreat.OpensC

/-- The node at p, wherever the rest of it lies, off the blocks K. -/
structure At (B : Nat) (w : World) (p N : Nat) (m : Nd) (K : Nat → Prop) : Prop where
  ex : ∃ z, PAt B w p z m ∧ ∀ k, K k → ¬ Mine p z k
  b : NdB N m
  klt : ∀ k, K k → k < w.heap.size
/-- m' is what a call made of m. -/
structure Turn (m m' : Nd) : Prop where
  fwd : Fwd m m'
  led : m.role = 2 → m'.role = 2 → m'.term = m.term → Gs m m'
/-- What a call leaves. -/
structure Went (B : Nat) (w : World) (p N : Nat) (m : Nd) (K : Nat → Prop) (w' : World) : Prop where
  ex : ∃ m', At B w' p N m' K ∧ Turn m m'
  since : Below B w w'
  kept : Only (fun k => ¬ K k) w w'
section
variable {B p N : Nat} {m m' : Nd} {w w' : World} {K K' : Nat → Prop}
theorem At.plt (h : At B w p N m K) : B ≤ p ∧ p < w.heap.size := by obtain ⟨z, hz, _⟩ := h.ex; exact ⟨hz.low, hz.plt⟩
theorem At.base (h : At B w p N m K) : B ≤ w.heap.size := by have := h.plt; omega
theorem At.guard (h : At B w p N m K) (k : Below w.heap.size w w') (hK : ∀ k, K' k → K k ∨ w.heap.size ≤ k) (hlt : ∀ k, K' k → k < w'.heap.size) : At B w' p N m K' := by
  obtain ⟨z, hz, ho⟩ := h.ex
  refine ⟨⟨z, hz.below k, fun b hb hm => ?_⟩, h.b, hlt⟩
  rcases hK b hb with h1 | h1
  · exact ho b h1 hm
  · have := (NodeAt.mine_lt hz hm).2
    omega
theorem At.below (h : At B w p N m K) (k : Below w.heap.size w w') : At B w' p N m K := h.guard k (fun _ h => .inl h) fun b hb => Nat.lt_of_lt_of_le (h.klt b hb) k.size
theorem At.mono (h : At B w p N m K) {N' : Nat} (hN : N ≤ N') : At B w p N' m K := ⟨h.ex, h.b.mono hN, h.klt⟩
theorem At.less (h : At B w p N m K) (hK : ∀ k, K' k → K k) : At B w p N m K' := h.guard (Below.refl _ _) (fun k hk => .inl (hK k hk)) fun k hk => h.klt k (hK k hk)
/-- Another's block is written. -/
theorem At.other (h : At B w p N m K) (he : m.out = []) (o : Only K w w') : At B w' p N m K := by
  obtain ⟨z, hz, ho⟩ := h.ex
  have hZ : z.Z = [] := by
    have := hz.said
    rw [he] at this
    exact List.map_eq_nil_iff.1 this
  exact ⟨⟨z, NodeAt.keep hz o (fun b hb hk => ho b hk hb) (fun x hx => by rw [hZ] at hx; cases hx), ho⟩, h.b, fun k hk => Nat.lt_of_lt_of_le (h.klt k hk) o.size⟩
theorem At.left {z : Seat} (h : PAt B w p z m) (ho : ∀ k, K k → ¬ Mine p z k) (hlt : ∀ k, K k → k < w.heap.size) (l : LeftP B w p z m' w') (hb : NdB N m') : At B w' p N m' K ∧ Below B w w' ∧ Only (fun k => ¬ K k) w w' := by
  obtain ⟨z', h', g⟩ := l
  refine ⟨⟨⟨z', h', fun k hk hm => ?_⟩, hb, fun k hk => Nat.lt_of_lt_of_le (hlt k hk) g.size⟩, below_grow h.base (Below.refl _ _) h g, g.only.mono fun k _ hk hK => ho k hK hk⟩
  rcases g.new k hm with h1 | h1
  · exact ho k hk h1
  · have := hlt k hk
    omega
theorem At.went {z : Seat} (h : PAt B w p z m) (ho : ∀ k, K k → ¬ Mine p z k) (hlt : ∀ k, K k → k < w.heap.size) (l : LeftP B w p z m' w') (hb : NdB N m') (ht : Turn m m') : Went B w p N m K w' := by
  obtain ⟨h1, h2, h3⟩ := At.left h ho hlt l hb
  exact ⟨⟨m', h1, ht⟩, h2, h3⟩
theorem At.still (h : At B w p N m K) : Went B w p N m K w := ⟨⟨m, h, Fwd.refl m, fun _ _ _ => Gs.refl m⟩, Below.refl _ _, Only.refl _ _⟩
theorem Went.mono (h : Went B w p N m K w') {N' : Nat} (hN : N ≤ N') : Went B w p N' m K w' := by
  obtain ⟨m', h1, h2⟩ := h.ex
  exact ⟨⟨m', h1.mono hN, h2⟩, h.since, h.kept⟩
/-- A letter that came in lies off the node. -/
theorem fit_low {B0 : Nat} {x : Msg} {a : Pl} {z : Seat} (h : PAt B w p z m) (hr : RE w B0 a.A a.n x.es) (hB : B0 ≤ B) (h1 : a.n ≤ a.c) (h2 : a.c ≤ 9223372036854775807) (h3 : x.es.length * 40 ≤ 140737488355328) : Fit w (Mine p z) x a := by
  have hl := RE.len hr
  refine ⟨Kit.Reads.more hr (by have := h.base; omega), h1, h2, by omega, fun hn ad e hk => ?_⟩
  obtain ⟨ad', e', hb, _⟩ := hr.2 hn
  rw [e] at e'
  cases e'
  have := (NodeAt.mine_lt h hk).1
  omega
theorem At.timeout (h : At B w p N m K) (hN : N ≤ 700000000) : Calls Tryz.prog 21 #[.pointer (some ⟨p, 0, none⟩)] w fun e w' => e = .returned (.tuple #[]) ∧ Went B w p (N + 22) m K w' := by
  obtain ⟨z, hz, ho⟩ := h.ex
  refine (WalkH.timeout_any hz h.b hN).mono ?_
  rintro e w' ⟨rfl, hl⟩
  exact ⟨rfl, At.went hz ho h.klt hl (timeout_b h.b (by omega)) ⟨timeout_f m, fun hr _ _ => timeout_gs hr⟩⟩
theorem At.propose (h : At B w p N m K) (hN : N ≤ 700000000) (d : ByteArray) (hd : d.size ≤ 9223372036854775807) : Calls Tryz.prog 22 #[.pointer (some ⟨p, 0, none⟩), .string d] w fun e w' => (∃ i k : Int, e = .returned (.tuple #[.int .u64 i, .int .i64 k])) ∧ Went B w p (N + 22) m K w' := by
  obtain ⟨z, hz, ho⟩ := h.ex
  refine (WalkH.propose_any hz h.b (by omega) d hd).mono ?_
  rintro e w' ⟨rfl, hl⟩
  exact ⟨⟨_, _, rfl⟩, At.went hz ho h.klt hl ((propose_b h.b (by omega) d hd).mono (by omega)) ⟨propose_f m d, fun _ _ _ => propose_gs m d⟩⟩
theorem At.change (h : At B w p N m K) (hN : N ≤ 700000000) (ad : Bool) (i : Int) (hi0 : -9223372036854775808 ≤ i) (hi1 : i ≤ 9223372036854775807) : Calls Tryz.prog 23 #[.pointer (some ⟨p, 0, none⟩), .bool ad, .int .i64 i] w fun e w' => (∃ i k : Int, e = .returned (.tuple #[.int .u64 i, .int .i64 k])) ∧ Went B w p (N + 22) m K w' := by
  obtain ⟨z, hz, ho⟩ := h.ex
  refine (change_any hz h.b (by omega) ad i hi0 hi1).mono ?_
  rintro e w' ⟨rfl, hl⟩
  exact ⟨⟨_, _, rfl⟩, At.went hz ho h.klt hl ((changes_b h.b (by omega) ad i).mono (by omega)) ⟨changes_f m ad i, fun _ _ _ => changes_gs m ad i⟩⟩
/-- Receive, by a call that came in. -/
theorem At.receive_to (h : At B w p N m K) (hN : N ≤ 700000000) {B0 : Nat} {c : Cal} (hc : CalB w B0 c) (hB : B0 ≤ B) : Calls Tryz.prog 20 #[.pointer (some ⟨p, 0, none⟩), ltV c.x c.a] w fun e w' => e = .returned (.tuple #[]) ∧ At B w' p (N + c.x.es.length + 22) (Nod.receive m c.x) K ∧ Below B w w' ∧ Only (fun k => ¬ K k) w w' := by
  obtain ⟨z, hz, ho⟩ := h.ex
  have hs : c.x.es.length + c.data.size + c.x.d.size + dataW c.x.es ≤ 1048576 := hc.small
  refine (WalkO.receive_any hz h.b hN c.x c.a hc.msg (fit_low hz hc.list hB hc.fits hc.max (by omega)) (by omega)).mono ?_
  rintro e w' ⟨rfl, hl⟩
  exact ⟨rfl, At.left hz ho h.klt hl ((receive_b h.b (by omega) hc.msg).mono (by omega))⟩
theorem At.receive (h : At B w p N m K) (hN : N ≤ 700000000) {B0 : Nat} {c : Cal} (hc : CalB w B0 c) (hB : B0 ≤ B) : Calls Tryz.prog 20 #[.pointer (some ⟨p, 0, none⟩), ltV c.x c.a] w fun e w' => e = .returned (.tuple #[]) ∧ Went B w p (N + c.x.es.length + 22) m K w' := by
  refine (h.receive_to hN hc hB).mono ?_
  rintro e w' ⟨rfl, h', b, o⟩
  exact ⟨rfl, ⟨Nod.receive m c.x, h', receive_f m c.x, fun hr _ ht => receive_gs hr ht⟩, b, o⟩
theorem At.status (h : At B w p N m K) : Calls Tryz.prog 15 #[.pointer (some ⟨p, 0, none⟩)] w fun e w' => e = .returned (StatusV m) ∧ Below w.heap.size w w' := by
  obtain ⟨z, hz, ho⟩ := h.ex
  exact status_any hz
/-- The log behind a node. -/
theorem At.log (h : At B w p N m K) : ∃ q v, LogAt 89 B w q v m.g ∧ Calls Tryz.prog 16 #[.pointer (some ⟨p, 0, none⟩)] w fun e w' => e = .returned (.pointer (some ⟨q, 0, none⟩)) ∧ w = w' := by
  obtain ⟨z, hz, ho⟩ := h.ex
  exact ⟨z.q, z.vg, hz.log, WalkD.log_any hz⟩
/-- A new node of a log that was made. -/
theorem new_at {q : Nat} {v : Value} {g : G} (h : LogAt 89 B w q v g) (f : Fine g) (i : Int) {t : Nat} (ht : t < 18446744073709551616) (vt : Int) (hN : g.es.length ≤ N) :
    Calls Tryz.prog 12 #[.int .i64 i, .agg #[.int .u64 (t : Int), .int .i64 vt], .pointer (some ⟨q, 0, none⟩)] w fun e w' =>
      if (Quorum.node i && (voteOk vt && lastOk t g)) = true then ∃ p, e = .returned (.tuple #[.pointer (some ⟨p, 0, none⟩), .int .i64 0]) ∧ At B w' p N (newNd i.toNat t vt g) (fun _ => False) ∧ i = (i.toNat : Int) ∧ i.toNat < 7 ∧ Below w.heap.size w w' else NoNode w e w' := by
  refine (WalkJ.new_any h f i t vt).mono ?_
  intro e w' hh
  split
  · rename_i hc
    rw [if_pos hc] at hh
    simp only [Bool.and_eq_true] at hc
    have hi := node_lt hc.1
    obtain ⟨p, rfl, _, h4, h5⟩ := hh
    exact ⟨p, rfl, ⟨⟨_, h4, fun _ h => h.elim⟩, newNd_b (by omega) ht hc.2.1 hc.2.2 f hN, fun _ h => h.elim⟩, by omega, by omega, h5⟩
  · rename_i hc
    rwa [if_neg hc] at hh
end
/-- Are these a log? -/
def okL (s : Snap) (l : List Ent) : Bool := Quorum.sound s.cfg && chained l s.idx s.term
theorem newlog_any {s : Snap} (hs : SnapB s) (A : Option Addr) (n c : Nat) (l : List Ent) (w : World) (hr : RE w w.heap.size A n l) (hb : ∀ e ∈ l, EntB e) (h40 : n * 40 ≤ 140737488355328) :
    Calls Tryz.prog 10 #[RlgWalkD.snapV s, .slice A n c] w fun e w' => if okL s l = true then RlgWalkD.NewLog 89 w ⟨s, l⟩ e w' ∧ Fine ⟨s, l⟩ else RlgWalkD.NoLog w e w' := by
  unfold okL
  cases h1 : Quorum.sound s.cfg with
  | false => simpa using RlgWalkD.new_mad hs A n c w h1
  | true =>
    cases h2 : chained l s.idx s.term with
    | false => simpa using RlgWalkD.new_loose hs A n c l w hr hb (by omega) h1 h2
    | true =>
      refine (RlgWalkD.new_made hs A n c l w hr hb h40 h1 h2).mono fun e w' h => ?_
      rw [if_pos (by rfl)]
      exact ⟨h, fine_new h1 h2 hs hb⟩
end Go.Proofs.YtokifeghoodkgaaGreat.Stp
namespace Go.Proofs.YtokifeghoodkgaaGreat.KeysU
open Go.Maps (Keyed int_keyed keyOf_int_mk)
open Go.Proofs.YtokifeghoodkgaaGreat.Blocks

/-- How an element reads: as itself. -/
def asIs (v : Value) : Option (DataW Value × List MemPlace) := some (.held v, [])
/-- Block b is a map of at most n entries; at the number i it holds g i. -/
def MapAt (P : Program) (k : TypeId) (w : World) (b n : Nat) (g : Int → Option Value) : Prop :=
  ∃ D : DataW Value, w.ownsMap P k asIs b n D ∧ ∀ (i : Int) (z : DataW Value), D.atKey (.int .u64 i) z = (match g i with | some v => .held v | none => z)
/-- The same of a map's value: none, or a block. -/
def MapV (P : Program) (k : TypeId) (w : World) (mb : Option Nat) (n : Nat) (g : Int → Option Value) : Prop :=
  match mb with
  | none => ∀ i, g i = none
  | some b => MapAt P k w b n g

theorem wf_int {i : Int} (h0 : 0 ≤ i) (h1 : i ≤ 18446744073709551615) : (Lit.int .u64 i).wf = true := by
  simp [Lit.wf, IntKind.min, IntKind.max, IntKind.signed, IntKind.bits]; omega
theorem key_lit (q : IntKind) (i : Int) : WideAt.IsKeyLit (.int q i) := trivial

section
variable {P : Program} {k e t : TypeId} {w w' : World} {b n : Nat} {g : Int → Option Value}
theorem MapAt.lt (h : MapAt P k w b n g) : b < w.heap.size := by obtain ⟨D, ho, _⟩ := h; exact ho.lt
theorem MapAt.keep (h : MapAt P k w b n g) (hb : w'.heap[b]? = w.heap[b]?) : MapAt P k w' b n g := by
  obtain ⟨D, ⟨es, clock, h1, h2⟩, ha⟩ := h
  exact ⟨D, ⟨es, clock, hb.trans h1, h2⟩, ha⟩
theorem MapAt.drewn (h : MapAt P k w b n g) : MapAt P k w.drew b n g := h.keep rfl
theorem MapAt.more (h : MapAt P k w b n g) {n' : Nat} (hn : n ≤ n') : MapAt P k w b n' g := by
  obtain ⟨D, ho, ha⟩ := h
  exact ⟨D, ho.mono hn, ha⟩
theorem MapAt.same (h : MapAt P k w b n g) {g' : Int → Option Value} (hg : ∀ i, g' i = g i) : MapAt P k w b n g' := by
  rw [show g' = g from funext hg]; exact h
/-- A new map. -/
theorem mapAt_made (w : World) (P : Program) (k : TypeId) : MapAt P k (w.alloc (.map #[] 0)) w.heap.size 0 (fun _ => none) :=
  ⟨.map [], World.ownsMap_made w P k asIs, fun _ _ => rfl⟩
/-- m[i], with or without ok. -/
theorem MapAt.look (h : MapAt P k w b n g) (hk : P.underlying k = some (.int .u64)) (ht : P.underlying t = some (.map k e)) {z : Value} (hz : (zeroValue e).run P w = .ok z w) {i : Int} (h0 : 0 ≤ i) (h1 : i ≤ 18446744073709551615) (c : Bool) :
    (Instr.lookup t (.map (some b)) (.int .u64 i) c).run P w = .ok (if c then .tuple #[(g i).getD z, .bool (g i).isSome] else (g i).getD z) w := by
  obtain ⟨D, ⟨es, clock, hb, F, _, rfl⟩, ha⟩ := h
  rcases Maps.fit_look c (int_keyed hk) ht hz hb F (keyOf_int_mk hk (wf_int h0 h1)) with ⟨hrun, _, hat⟩ | ⟨e0, y, _, _, hrun, hR, hat, _⟩
  · have hg : g i = none := by
      cases hg : g i with
      | none => rfl
      | some v =>
        have e1 := ha i .nil
        rw [hat .nil, hg] at e1
        cases e1
    rw [hrun, hg]
    rfl
  · have hg : g i = some e0.val := by
      have e1 := ha i (.lit (.bool true))
      have e2 := ha i .nil
      rw [hat] at e1 e2
      simp only [asIs, Option.some.injEq] at hR
      subst hR
      cases hg : g i with
      | none => rw [hg] at e2; cases e2
      | some v =>
        rw [hg] at e2
        simp only [DataW.held.injEq] at e2
        rw [← e2]
    rw [hrun, hg]
    rfl
/-- m[i] = v. -/
theorem MapAt.store (h : MapAt P k w b n g) (hk : P.underlying k = some (.int .u64)) (ht : P.underlying t = some (.map k e)) (hn : n < maxLen) {i : Int} (h0 : 0 ≤ i) (h1 : i ≤ 18446744073709551615) (v : Value) :
    ∃ w', (Instr.mapUpdate t (.map (some b)) (.int .u64 i) v).run P w = .ok () w' ∧ MapAt P k w' b (n + 1) (fun j => if j = i then some v else g j) ∧ Only (fun q => q = b) w w' := by
  obtain ⟨D, ho, ha⟩ := h
  have hm := ho.isMap
  obtain ⟨w', hrun, ho', ht'⟩ := ho.store (int_keyed hk) ht hn (keyOf_int_mk hk (wf_int h0 h1)) (show asIs v = some (.held v, []) from rfl)
  refine ⟨w', hrun, ⟨_, ho', fun j z => ?_⟩, ?_⟩
  · by_cases hj : j = i
    · subst hj
      rw [Maps.atKey_put_same hm (key_lit _ _)]; simp
    · rw [Maps.atKey_put_other (by simpa using hj), ha]; simp [hj]
  · have hg := ht'.grown
    exact (Only.refl _ w).grown hg (fun q hq => by cases hq; exact .inr rfl)
/-- delete(m, i). -/
theorem MapAt.drop (h : MapAt P k w b n g) (hk : P.underlying k = some (.int .u64)) (ht : P.underlying t = some (.map k e)) {i : Int} (h0 : 0 ≤ i) (h1 : i ≤ 18446744073709551615) (ty : TypeId) :
    ∃ w', (Builtin.delete_ #[t, k] ty #[.map (some b), .int .u64 i]).run P w = .ok (.tuple #[]) w' ∧ MapAt P k w' b n (fun j => if j = i then none else g j) ∧ Only (fun q => q = b) w w' := by
  obtain ⟨D, ho, ha⟩ := h
  obtain ⟨w', hrun, ho', ht'⟩ := ho.drop (int_keyed hk) ht (keyOf_int_mk hk (wf_int h0 h1)) ty
  refine ⟨w', hrun, ⟨_, ho', fun j z => ?_⟩, ?_⟩
  · by_cases hj : j = i
    · subst hj
      rw [Maps.atKey_del_same]; simp
    · rw [Maps.atKey_del_other (by simpa using hj), ha]; simp [hj]
  · have hg := ht'.grown
    exact (Only.refl _ w).grown hg (fun q hq => by cases hq; exact .inr rfl)

variable {mb : Option Nat}
theorem MapV.keep (h : MapV P k w mb n g) (hb : ∀ b, mb = some b → w'.heap[b]? = w.heap[b]?) : MapV P k w' mb n g := by
  cases mb with
  | none => exact h
  | some b => exact MapAt.keep h (hb b rfl)
theorem MapV.lt (h : MapV P k w (some b) n g) : b < w.heap.size := MapAt.lt h
theorem MapV.more (h : MapV P k w mb n g) {n' : Nat} (hn : n ≤ n') : MapV P k w mb n' g := by
  cases mb with
  | none => exact h
  | some b => exact MapAt.more h hn
theorem MapV.same (h : MapV P k w mb n g) {g' : Int → Option Value} (hg : ∀ i, g' i = g i) : MapV P k w mb n g' := by
  rw [show g' = g from funext hg]; exact h
theorem MapV.look (h : MapV P k w mb n g) (hk : P.underlying k = some (.int .u64)) (ht : P.underlying t = some (.map k e)) {z : Value} (hz : (zeroValue e).run P w = .ok z w) {i : Int} (h0 : 0 ≤ i) (h1 : i ≤ 18446744073709551615) (c : Bool) :
    (Instr.lookup t (.map mb) (.int .u64 i) c).run P w = .ok (if c then .tuple #[(g i).getD z, .bool (g i).isSome] else (g i).getD z) w := by
  cases mb with
  | none =>
    have hg : g i = none := h i
    rw [Maps.look_nil c (int_keyed hk) ht hz (keyOf_int_mk hk (wf_int h0 h1)), hg]
    rfl
  | some b => exact MapAt.look h hk ht hz h0 h1 c
theorem MapV.drop (h : MapV P k w mb n g) (hk : P.underlying k = some (.int .u64)) (ht : P.underlying t = some (.map k e)) {i : Int} (h0 : 0 ≤ i) (h1 : i ≤ 18446744073709551615) (ty : TypeId) :
    ∃ w', (Builtin.delete_ #[t, k] ty #[.map mb, .int .u64 i]).run P w = .ok (.tuple #[]) w' ∧ MapV P k w' mb n (fun j => if j = i then none else g j) ∧ Only (fun q => mb = some q) w w' := by
  cases mb with
  | none => exact ⟨w, Maps.drop_nil (int_keyed hk) ht (keyOf_int_mk hk (wf_int h0 h1)) ty, fun j => by simp only []; split <;> first | rfl | exact h j, Only.refl _ w⟩
  | some b =>
    obtain ⟨w', hrun, h', ho⟩ := MapAt.drop h hk ht h0 h1 ty
    exact ⟨w', hrun, h', ho.mono fun q _ hq => by rw [hq]⟩
end

/-! ### at the operation, for the walk -/
section
variable {P : Program} (w : World) {ops : Array Oper} {rest : List Oper} {o : Oper} {a : Act} {Q : Exit → Act → World → Prop}
theorem wpList_look (hg : o.guard = none) (m x : Operand) (t : TypeId) (c : Bool) (hop : o.op = Op.lookup t m x c)
    (k e : TypeId) (hk : P.underlying k = some (.int .u64)) (ht : P.underlying t = some (.map k e)) (z : Value) (hz : (zeroValue e).run P w = .ok z w) (mb : Option Nat) (n : Nat) (g : Int → Option Value) (i : Int)
    (hm : a.eval m = .map mb) (hx : a.eval x = .int .u64 i) (h : MapV P k w mb n g) (h0 : 0 ≤ i) (h1 : i ≤ 18446744073709551615)
    (hK : wpList P ops Q rest (a.put o.dst (if c then .tuple #[(g i).getD z, .bool (g i).isSome] else (g i).getD z)) w) :
    wpList P ops Q (o :: rest) a w := by
  refine wpList_plain hg fun K' hK' => ?_
  have hrun := MapV.look h hk ht hz h0 h1 c
  unfold Oper.wp
  simp [execOp, hop, hm, hx, hrun, Result.andThen]
  exact hK' _ _ hK
theorem wpList_store (hg : o.guard = none) (m x u : Operand) (t : TypeId) (hop : o.op = Op.mapUpdate t m x u)
    (k e : TypeId) (hk : P.underlying k = some (.int .u64)) (ht : P.underlying t = some (.map k e)) (b n : Nat) (g : Int → Option Value) (i : Int) (v : Value)
    (hm : a.eval m = .map (some b)) (hx : a.eval x = .int .u64 i) (hv : a.eval u = v) (h : MapAt P k w b n g) (hn : n < maxLen) (h0 : 0 ≤ i) (h1 : i ≤ 18446744073709551615)
    (hK : ∀ w', MapAt P k w' b (n + 1) (fun j => if j = i then some v else g j) → Only (fun q => q = b) w w' → wpList P ops Q rest (a.put o.dst undef) w') :
    wpList P ops Q (o :: rest) a w := by
  refine wpList_plain hg fun K' hK' => ?_
  obtain ⟨w', hrun, r1, r2⟩ := h.store hk ht hn h0 h1 v
  unfold Oper.wp
  simp [execOp, hop, hm, hx, hv, hrun, Result.andThen]
  exact hK' _ _ (hK w' r1 r2)
theorem wpList_drop (hg : o.guard = none) (m x : Operand) (t k : TypeId) (hop : o.op = Op.call { callee := Callee.builtin Builtin.delete, args := #[m, x], argTypes := #[t, k] })
    (e : TypeId) (hk : P.underlying k = some (.int .u64)) (ht : P.underlying t = some (.map k e)) (mb : Option Nat) (n : Nat) (g : Int → Option Value) (i : Int)
    (hm : a.eval m = .map mb) (hx : a.eval x = .int .u64 i) (h : MapV P k w mb n g) (h0 : 0 ≤ i) (h1 : i ≤ 18446744073709551615)
    (hK : ∀ w', MapV P k w' mb n (fun j => if j = i then none else g j) → Only (fun q => mb = some q) w w' → wpList P ops Q rest (a.put o.dst (.tuple #[])) w') :
    wpList P ops Q (o :: rest) a w := by
  refine wpList_plain hg fun K' hK' => ?_
  obtain ⟨w', hrun, r1, r2⟩ := h.drop hk ht h0 h1 o.type
  unfold Oper.wp
  simp [execOp, hop, resolve, invoke, builtin, hm, hx, hrun, Result.andThen]
  exact hK' _ _ (hK w' r1 r2)
end
end Go.Proofs.YtokifeghoodkgaaGreat.KeysU
set_option linter.unusedVariables false
namespace Go.Proofs.YtokifeghoodkgaaGreat.Stv
open Go.RowKit Go.Proofs.YtokifeghoodkgaaGreat.Kit Go.Proofs.YtokifeghoodkgaaGreat.Blocks Go.Proofs.YtokifeghoodkgaaGreat.Rlog Go.Proofs.YtokifeghoodkgaaGreat.Ents Go.Proofs.YtokifeghoodkgaaGreat.LogAt Go.Proofs.YtokifeghoodkgaaGreat.Nod Go.Proofs.YtokifeghoodkgaaGreat.NodAt Go.Proofs.YtokifeghoodkgaaGreat.WalkB Go.Proofs.YtokifeghoodkgaaGreat.WalkI Go.Proofs.YtokifeghoodkgaaGreat.WalkJ Go.Proofs.YtokifeghoodkgaaGreat.Begun Go.Proofs.YtokifeghoodkgaaGreat.Fwd Go.Proofs.YtokifeghoodkgaaGreat.OpensC Go.Proofs.YtokifeghoodkgaaGreat.Stp

section
variable {B p N : Nat} {m m' : Nd} {w w' : World} {K K' : Nat → Prop}
/-- What Take answers. -/
structure Took (B : Nat) (w : World) (p N : Nat) (m : Nd) (K : Nat → Prop) (vk : Value) (A : Option Addr) (n c : Nat) (Z : List (Msg × Pl)) (w' : World) : Prop where
  kept : ∃ Ak ck, vk = .slice Ak m.kept.length ck
  at_ : At B w' p N (taken m) K
  said : Z.map Prod.fst = m.out
  reads : RL w' w'.heap.size A n Z
  fits : n ≤ c
  max : c ≤ maxLen
  since : Below B w w'
  only : Only (fun k => ¬ K k) w w'
  form : 0 < n → ∃ g, A = some ⟨g, 0, none⟩ ∧ ¬ K g
theorem at_take (h : At B w p N m K) (hp : ¬ K p) : Calls Tryz.prog 24 #[.pointer (some ⟨p, 0, none⟩)] w fun e w' =>
    ∃ vk A n c Z, e = .returned (.agg #[.int .u64 (m.term : Int), .int .i64 m.vote, vk, .bool m.inst, .slice A n c, .bool m.reset, .int .u64 (m.commit : Int)]) ∧ Took B w p N m K vk A n c Z w' := by
  obtain ⟨z, hz, ho⟩ := h.ex
  obtain ⟨A, c, hvo, h1, h2, hr⟩ := own_form hz.outs
  obtain ⟨Ak, ck, hvk⟩ := kept_form hz
  refine (take_any hz).mono ?_
  rintro e w' ⟨rfl, hp', hon⟩
  refine ⟨z.vk, A, z.Z.length, c, z.Z, ?_, ⟨Ak, ck, hvk⟩, ⟨⟨_, hp', fun k hk hm => ?_⟩, taken_b h.b, fun k hk => Nat.lt_of_lt_of_le (h.klt k hk) hon.size⟩, hz.said, ?_, h1, h2, below_take h.base (Below.refl _ _) hz hon, hon.mono fun k _ hk hK => hp (hk ▸ hK), fun hn => ?_⟩
  · unfold ReadyV
    rw [hvo]
  · exact ho k hk (bare_mine hm)
  · obtain ⟨A', c', hvo', _, _, hr'⟩ := own_form (hon.own hz.outs fun b hb e => hz.d3 (e ▸ hb))
    rw [hvo] at hvo'
    cases hvo'
    exact hr'
  · rcases hz.outs.2 with ⟨_, h0⟩ | ⟨g, cap, cur, hv, _, _, _, _, _⟩
    · omega
    · rw [hvo] at hv
      cases hv
      exact ⟨g, rfl, fun hk => ho g hk (.inr (.inr (.inr (by rw [hvo]; rfl))))⟩
theorem at_pfree (h : At B w p N m K) : ¬ K p := by
  obtain ⟨z, hz, ho⟩ := h.ex
  exact fun hk => ho p hk (.inl rfl)
end
theorem lcs_at : ∀ (Z : List (Msg × Pl)) (k j : Nat) (y : Msg × Pl), Z[k]? = some y → j < 10 → (lcs Z)[k * 10 + j]? = (ltCs y.1 y.2)[j]? := by
  intro Z
  induction Z with
  | nil => intro k j y h _; simp at h
  | cons z Z ih =>
    intro k j y h hj
    rw [lcs_cons]
    cases k with
    | zero =>
      simp at h
      subst h
      rw [List.getElem?_append_left (by show 0 * 10 + j < 10; omega), Nat.zero_mul, Nat.zero_add]
    | succ k =>
      rw [List.getElem?_append_right (by show 10 ≤ _; omega)]
      show (lcs Z)[(k + 1) * 10 + j - 10]? = _
      rw [show (k + 1) * 10 + j - 10 = k * 10 + j by omega]
      exact ih k j y (by simpa using h) hj
/-- The cells of one of the letters. -/
theorem lt_cells {W : World} {g n : Nat} {Z : List (Msg × Pl)} (h : RL W W.heap.size (some ⟨g, 0, none⟩) n Z) {k : Nat} {y : Msg × Pl} (hn : 0 < n) (hk : Z[k]? = some y) : ∀ j u, (ltCs y.1 y.2)[j]? = some u → W.cell? ⟨g, k * 10 + j, none⟩ = some u := fun j u hj => by
  obtain ⟨ad, e, _, hc⟩ := h.2 hn
  cases e
  have hj10 : j < 10 := (List.getElem?_eq_some_iff.1 hj).1
  have := hc (k * 10 + j) u (by rw [lcs_at Z k j y hk hj10]; exact hj)
  rwa [Addr.add_lit, Nat.zero_add] at this
theorem zero_int (w : World) : (zeroValue 3).run Tryz.prog w = .ok (.int .i64 0) w := by kernel_rfl
/-- What was voted for, behind a node that is now so. -/
structure Voted (m : Nd) (g : Int → Option Value) : Prop where
  now : ∀ v, g (m.term : Int) = some v → v = .int .i64 m.vote ∧ 0 ≤ m.vote
  all : ∀ t v, g t = some v → t ≤ (m.term : Int)
  has : 0 ≤ m.vote → g (m.term : Int) = some (.int .i64 m.vote)
theorem Voted.begun {m : Nd} (h : 0 ≤ m.vote) : Voted m (fun j => if j = (m.term : Int) then some (.int .i64 m.vote) else none) := by
  refine ⟨fun v hv => ?_, fun t v hv => ?_, fun _ => if_pos rfl⟩
  · rw [if_pos rfl] at hv
    cases hv
    exact ⟨rfl, h⟩
  · by_cases e : t = (m.term : Int)
    · omega
    · simp only [if_neg e] at hv
      cases hv
theorem Voted.none {m : Nd} (h : ¬ 0 ≤ m.vote) : Voted m (fun _ => none) := ⟨fun v hv => (by cases hv), fun t v hv => (by cases hv), fun h' => absurd h' h⟩
/-- What the look-up gives ahead of the store. -/
theorem Voted.old {m m' : Nd} {g : Int → Option Value} (h : Voted m g) (f : Fwd m m') {v : Value} (hv : g (m'.term : Int) = some v) : v = .int .i64 m'.vote ∧ 0 ≤ m'.vote := by
  have h1 := h.all _ _ hv
  have h2 := f.term
  have e : m'.term = m.term := by omega
  rw [e] at hv
  obtain ⟨rfl, h3⟩ := h.now _ hv
  rw [f.vote e h3]
  exact ⟨rfl, h3⟩
theorem Voted.new {m m' : Nd} {g : Int → Option Value} (h : Voted m g) (f : Fwd m m') (hv : 0 ≤ m'.vote) : Voted (taken m') (fun j => if j = (m'.term : Int) then some (.int .i64 m'.vote) else g j) := by
  have h2 := f.term
  refine ⟨fun v hx => ?_, fun t v hx => ?_, fun _ => if_pos rfl⟩
  · have hx' : (if ((m'.term : Nat) : Int) = (m'.term : Int) then some (Value.int .i64 m'.vote) else g m'.term) = some v := hx
    rw [if_pos rfl] at hx'
    cases hx'
    exact ⟨rfl, hv⟩
  · by_cases e : t = (m'.term : Int)
    · show t ≤ (m'.term : Int)
      omega
    · simp only [if_neg e] at hx
      have := h.all _ _ hx
      show t ≤ (m'.term : Int)
      omega
theorem Voted.same {m m' : Nd} {g : Int → Option Value} (h : Voted m g) (f : Fwd m m') (hv : ¬ 0 ≤ m'.vote) : Voted (taken m') g := by
  have h2 := f.term
  refine ⟨fun v hx => h.old f hx, fun t v hx => ?_, fun h' => absurd h' hv⟩
  have := h.all _ _ hx
  show t ≤ (m'.term : Int)
  omega
end Go.Proofs.YtokifeghoodkgaaGreat.Stv
set_option linter.unusedVariables false
namespace Go.Proofs.YtokifeghoodkgaaGreat.LawH
open Go.RowKit Go.Proofs.YtokifeghoodkgaaGreat.Kit Go.Proofs.YtokifeghoodkgaaGreat.Blocks Go.Proofs.YtokifeghoodkgaaGreat.Rlog Go.Proofs.YtokifeghoodkgaaGreat.Ents Go.Proofs.YtokifeghoodkgaaGreat.LogAt Go.Proofs.YtokifeghoodkgaaGreat.Nod Go.Proofs.YtokifeghoodkgaaGreat.NodAt Go.Proofs.YtokifeghoodkgaaGreat.WalkB Go.Proofs.YtokifeghoodkgaaGreat.WalkI Go.Proofs.YtokifeghoodkgaaGreat.WalkJ Go.Proofs.YtokifeghoodkgaaGreat.Begun Go.Proofs.YtokifeghoodkgaaGreat.Fwd Go.Proofs.YtokifeghoodkgaaGreat.OpensC Go.Proofs.YtokifeghoodkgaaGreat.LightR Go.Proofs.YtokifeghoodkgaaGreat.Stp Go.Proofs.YtokifeghoodkgaaGreat.Stv

theorem few_of {l : List Ent} {L : List Cal} {k : Nat} {x : Cal} (h : total l L ≤ 600) (hx : L[k]? = some x) : x.x.es.length ≤ 600 ∧ k < 600 := by
  have h1 := sum_mem (f := weigh) (List.mem_of_getElem? hx)
  have h2 : x.x.es.length ≤ weigh x := by unfold weigh; omega
  have h3 := (List.getElem?_eq_some_iff.1 hx).1
  unfold total at h
  omega
/-- Between two calls. -/
structure Run (B : Nat) (w0 : World) (p bm N : Nat) (zi : Int) (W : World) (m : Nd) (g : Int → Option Value) (n : Nat) : Prop where
  at_ : At B W p N m (fun q => q = bm)
  sent : Sents m
  map : KeysU.MapAt Tryz.prog 22 W bm n g
  voted : Voted m g
  id : zi = (m.id : Int)
  since : Below B w0 W
/-- Behind Take: what was taken lies in block r. -/
structure Aft (B : Nat) (w0 : World) (p bm N : Nat) (zi : Int) (r tk : Nat) (vk : Int) (ck : Nat) (Ak : Option Addr) (nk ck' : Nat) (ins : Bool) (A : Option Addr) (n c : Nat) (rs : Bool) (Z : List (Msg × Pl)) (m : Nd) (g : Int → Option Value) (nv : Nat) (W : World) : Prop where
  at_ : At B W p N m (fun q => q = bm)
  id : zi = (m.id : Int)
  map : KeysU.MapAt Tryz.prog 22 W bm nv g
  row : W.heap[r]? = some (.cells #[.int .u64 (tk : Int), .int .i64 vk, .slice Ak nk ck', .bool ins, .slice A n c, .bool rs, .int .u64 (ck : Int)] 70 (0, 0))
  rb : r ≠ bm
  reads : RL W W.heap.size A n Z
  form : 0 < n → ∃ g, A = some ⟨g, 0, none⟩ ∧ ¬ (g = bm)
  fits : n ≤ c
  max : c ≤ maxLen
  since : Below B w0 W
/-- The votes noted, too. -/
def AftV (B : Nat) (w0 : World) (p bm N : Nat) (zi : Int) (r tk : Nat) (vk : Int) (ck : Nat) (Ak : Option Addr) (nk ck' : Nat) (ins : Bool) (A : Option Addr) (n c : Nat) (rs : Bool) (Z : List (Msg × Pl)) (m : Nd) (nv : Nat) (W : World) : Prop :=
  ∃ g, Aft B w0 p bm N zi r tk vk ck Ak nk ck' ins A n c rs Z m g nv W ∧ Voted m g ∧ (0 ≤ vk → g (tk : Int) = some (.int .i64 vk))
section
variable {B : Nat} {w0 : World} {p bm N : Nat} {zi : Int} {r tk : Nat} {vk : Int} {ck : Nat} {Ak : Option Addr} {nk ck' : Nat} {ins : Bool} {A : Option Addr} {n c : Nat} {rs : Bool} {Z : List (Msg × Pl)} {m : Nd} {g g' : Int → Option Value} {nv nv' : Nat} {W W' : World}
theorem Aft.below (h : Aft B w0 p bm N zi r tk vk ck Ak nk ck' ins A n c rs Z m g nv W) (b : Below W.heap.size W W') : Aft B w0 p bm N zi r tk vk ck Ak nk ck' ins A n c rs Z m g nv W' :=
  ⟨h.at_.below b, h.id, h.map.keep (b.block _ h.map.lt), (b.block _ (lt_at h.row)).trans h.row, h.rb, (Kit.Reads.below h.reads b).more b.size, h.form, h.fits, h.max, h.since.trans (b.mono h.at_.base)⟩
theorem Aft.drewN (h : Aft B w0 p bm N zi r tk vk ck Ak nk ck' ins A n c rs Z m g nv W) (k : Nat) : Aft B w0 p bm N zi r tk vk ck Ak nk ck' ins A n c rs Z m g nv (W.drewN k) := h.below (RlgWalkB.below_drewN (Below.refl _ _) k)
/-- The map is written. -/
theorem Aft.noted (h : Aft B w0 p bm N zi r tk vk ck Ak nk ck' ins A n c rs Z m g nv W) (hm : KeysU.MapAt Tryz.prog 22 W' bm nv' g') (o : Only (fun q => q = bm) W W') (ho : m.out = []) (hi : B ≤ bm ∧ B ≤ w0.heap.size) : Aft B w0 p bm N zi r tk vk ck Ak nk ck' ins A n c rs Z m g' nv' W' := by
  refine ⟨h.at_.other ho o, h.id, hm, o.heap h.row h.rb, h.rb, ?_, h.form, h.fits, h.max, below_only h.since o hi.2 fun q hq => by rw [hq]; exact hi.1⟩
  refine (Off.reads (fun hn ad he hb => ?_) o h.reads (Nat.le_refl _)).more o.size
  obtain ⟨g0, h1, h2⟩ := h.form hn
  rw [he] at h1
  cases h1
  exact h2 hb
end
set_option maxRecDepth 100000 in
set_option maxHeartbeats 8000000 in
theorem votes_walk (z : Beg) (A : Option Addr) (n c : Nat) (l : List Ent) (C : Option Addr) (m cc : Nat) (L : List Cal) (w : World) (hz : BegB z) (hl : CameE w A n c l) (hm : m ≤ 9223372036854775807) (hs : Holds w w.heap.size C m L ∧ total l L ≤ 1048576) :
    Calls Tryz.prog 4 #[begV z A n c, .slice C m cc] w fun e w' => e = .returned (.bool true) ∧ Below w.heap.size w w' := by
  have HBg := Lib.hid begun_true
  have hlen := RE.len hl.reads
  have hn20 : n ≤ 1048576 := by have := hs.2; unfold total at this; omega
  have HLt : Hid (∀ W, Below w.heap.size w W → Calls Tryz.prog 9 #[.slice A n c, .slice C m cc] W fun e w' => e = .returned (.bool (lightB l L)) ∧ Below W.heap.size W w') := Lib.hid fun W hb =>
    light_any A n c l C m cc L W ((Kit.Reads.below hl.reads hb).more hb.size) hl.ents (by omega) (hs.1.below hb hb.size) hm hs.2
  have HNl : Hid (∀ W, Below w.heap.size w W → Calls Tryz.prog 10 #[RlgWalkD.snapV z.s, .slice A n c] W fun e w' => if okL z.s l = true then RlgWalkD.NewLog 89 W ⟨z.s, l⟩ e w' ∧ Fine ⟨z.s, l⟩ else RlgWalkD.NoLog W e w') := Lib.hid fun W hb =>
    newlog_any hz.s A n c l W ((Kit.Reads.below hl.reads hb).more hb.size) hl.ents (by omega)
  have HHo := Lib.hid hs.1
  have HLn := Lib.hid hlen
  have HTl : Hid (lightB l L = true → total l L ≤ 600) := Lib.hid fun h => of_decide_eq_true h
  have hzt := hz.t
  have HZS := Lib.hid hz.s
  obtain ⟨zi, zt, zv, zs⟩ := z
  obtain ⟨six, stm, scf, sd⟩ := zs
  simp only at *
  unfold begV
  unfold RlgWalkD.snapV at HNl
  simp only at HNl ⊢
  obtain ⟨w1, hw1⟩ : ∃ w1, w.alloc (.cells #[.int .i64 zi, .int .u64 (zt : Int), .int .i64 zv, .int .u64 (six : Int), .int .u64 (stm : Int), .int .u64 (scf : Int), .string sd, .slice A n c] 29) = w1 := ⟨_, rfl⟩
  have hr1 : w1.heap[w.heap.size]? = some (.cells #[.int .i64 zi, .int .u64 (zt : Int), .int .i64 zv, .int .u64 (six : Int), .int .u64 (stm : Int), .int .u64 (scf : Int), .string sd, .slice A n c] 29 (0, 0)) := by rw [← hw1]; exact heap_alloc_new w _
  have hb1 : Below w.heap.size w w1 := by rw [← hw1]; exact (Below.refl _ w).alloc (Nat.le_refl _) _
  have HW1 := Lib.hid hw1
  have HR1 := Lib.hid hr1
  have HB1 := Lib.hid hb1
  clear hw1 hr1 hb1 hlen hs hl hz
  go_enter Tryz.func4, Tryz.ntmps4
  go_wp2_with fail
  rw [HW1.out]
  with_reducible refine (HBg.out w1).mono ?_
  rintro e w2 ⟨rfl, hb2⟩
  have HB2 := Lib.hid (HB1.out.trans (hb2.mono HB1.out.size))
  have hr2 := (hb2.block _ (lt_at HR1.out)).trans HR1.out
  have HR2 := Lib.hid hr2
  have d7 : w2.cell? ⟨w.heap.size, 7, none⟩ = some (.slice A n c) := by rw [cell_at hr2]; rfl
  clear hb2 hr2 HR1 HB1
  as_aux_lemma =>
  go_wp2_with fail
  with_reducible refine (HLt.out w2 HB2.out).mono ?_
  rintro e w3 ⟨rfl, hb3⟩
  have HB3 := Lib.hid (HB2.out.trans (hb3.mono HB2.out.size))
  have hr3 := (hb3.block _ (lt_at HR2.out)).trans HR2.out
  have HR3 := Lib.hid hr3
  have HR3a := Lib.hid hr3
  have d3 : w3.cell? ⟨w.heap.size, 3, none⟩ = some (.int .u64 (six : Int)) := by rw [cell_at hr3]; rfl
  have d4 : w3.cell? ⟨w.heap.size, 4, none⟩ = some (.int .u64 (stm : Int)) := by rw [cell_at hr3]; rfl
  have d5 : w3.cell? ⟨w.heap.size, 5, none⟩ = some (.int .u64 (scf : Int)) := by rw [cell_at hr3]; rfl
  have d6 : w3.cell? ⟨w.heap.size, 6, none⟩ = some (.string sd) := by rw [cell_at hr3]; rfl
  have d7 : w3.cell? ⟨w.heap.size, 7, none⟩ = some (.slice A n c) := by rw [cell_at hr3]; rfl
  obtain ⟨bl, hbl⟩ : ∃ bl, lightB l L = bl := ⟨_, rfl⟩
  rw [hbl] at HTl ⊢
  clear hb3 hr3 HR2 HB2 HLt hbl
  cases bl with
  | false =>
    go_wp2
    go_ret
    exact ⟨rfl, HB3.out⟩
  | true =>
  have HT6 := Lib.hid (HTl.out rfl)
  clear HTl
  as_aux_lemma =>
  go_wp2_with fail
  with_reducible refine (HNl.out w3 HB3.out).mono ?_
  intro e w4 hnl
  obtain ⟨bo, hbo⟩ : ∃ bo, okL ⟨six, stm, scf, sd⟩ l = bo := ⟨_, rfl⟩
  rw [hbo] at hnl
  cases bo with
  | false =>
    rw [if_neg (by decide)] at hnl
    obtain ⟨rfl, hb4⟩ := hnl
    go_wp2
    go_ret
    exact ⟨rfl, HB3.out.trans (hb4.mono HB3.out.size)⟩
  | true =>
  rw [if_pos rfl] at hnl
  obtain ⟨⟨q, v, rfl, hlog, hb4⟩, hfine⟩ := hnl
  have HB4 := Lib.hid (HB3.out.trans (hb4.mono HB3.out.size))
  have hr4 := (hb4.block _ (lt_at HR3.out)).trans HR3.out
  have HR4 := Lib.hid hr4
  have d0 : w4.cell? ⟨w.heap.size, 0, none⟩ = some (.int .i64 zi) := by rw [cell_at hr4]; rfl
  have d1 : w4.cell? ⟨w.heap.size, 1, none⟩ = some (.int .u64 (zt : Int)) := by rw [cell_at hr4]; rfl
  have d2 : w4.cell? ⟨w.heap.size, 2, none⟩ = some (.int .i64 zv) := by rw [cell_at hr4]; rfl
  have hes : l.length ≤ 700 := by have := HT6.out; unfold total at this; omega
  have HNn := Lib.hid (new_at (N := 700) hlog hfine zi hzt zv hes)
  have HB34 := Lib.hid hb4
  clear hlog hb4 hr4 HR3 HNl hfine hbo d3 d4 d5 d6 d7 hes
  as_aux_lemma =>
  go_wp2_with fail
  with_reducible refine HNn.out.mono ?_
  intro e w5 hnn
  obtain ⟨bn, hbn⟩ : ∃ bn, (Quorum.node zi && (voteOk zv && lastOk zt ⟨⟨six, stm, scf, sd⟩, l⟩)) = bn := ⟨_, rfl⟩
  rw [hbn] at hnn
  cases bn with
  | false =>
    rw [if_neg (by decide)] at hnn
    obtain ⟨rfl, hb5⟩ := hnn
    go_wp2
    go_ret
    exact ⟨rfl, HB4.out.trans (hb5.mono HB4.out.size)⟩
  | true =>
  rw [if_pos rfl] at hnn
  obtain ⟨p, rfl, hat, hzi, hz7, hb5⟩ := hnn
  obtain ⟨B, hB⟩ : ∃ B, w3.heap.size = B := ⟨_, rfl⟩
  rw [hB] at hat
  have hr5 := (hb5.block _ (lt_at HR4.out)).trans HR4.out
  have hsb5 : Below B w3 w5 := by rw [← hB]; exact HB34.out.trans (hb5.mono HB34.out.size)
  obtain ⟨w6, hw6⟩ : ∃ w6, w5.alloc (.map #[] 0) = w6 := ⟨_, rfl⟩
  have hb6 : Below w5.heap.size w5 w6 := by rw [← hw6]; exact (Below.refl _ _).alloc (Nat.le_refl _) _
  have hmp : KeysU.MapAt Tryz.prog 22 w6 w5.heap.size 0 (fun _ => none) := by rw [← hw6]; exact KeysU.mapAt_made w5 Tryz.prog 22
  have hat6 : At B w6 p 700 (newNd zi.toNat zt zv ⟨⟨six, stm, scf, sd⟩, l⟩) (fun q => q = w5.heap.size) := hat.guard hb6 (fun q hq => .inr (by rw [hq]; exact Nat.le_refl _)) fun q hq => by rw [hq]; exact hmp.lt
  have hr6 := (hb6.block _ (lt_at hr5)).trans hr5
  have HBw : Hid (w.heap.size ≤ B) := Lib.hid (by rw [← hB]; exact HB3.out.size)
  have HB3 := Lib.hid HB3.out
  have hbz : w.heap.size < B := by rw [← hB]; exact lt_at HR3a.out
  have d0 : w6.cell? ⟨w.heap.size, 0, none⟩ = some (.int .i64 zi) := by rw [cell_at hr6]; rfl
  have d1 : w6.cell? ⟨w.heap.size, 1, none⟩ = some (.int .u64 (zt : Int)) := by rw [cell_at hr6]; rfl
  have d2 : w6.cell? ⟨w.heap.size, 2, none⟩ = some (.int .i64 zv) := by rw [cell_at hr6]; rfl
  have d3 : w6.cell? ⟨w.heap.size, 3, none⟩ = some (.int .u64 (six : Int)) := by rw [cell_at hr6]; rfl
  have hmm := @run_makeMap Tryz.prog
  have hzt1 : (zt : Int) ≤ 18446744073709551615 := by omega
  have hzt0 : (0 : Int) ≤ (zt : Int) := Int.natCast_nonneg zt
  have hmx : 0 < maxLen := by unfold maxLen; omega
  have HMp := Lib.hid hmp
  have HW6 := Lib.hid hw6
  have HA6 := Lib.hid hat6
  have HB36 := Lib.hid (hsb5.trans (hb6.mono (by have := hat.base; exact this)))
  have HZi := Lib.hid hzi
  have HR6 := Lib.hid hr6
  obtain ⟨bm, hbm⟩ : ∃ bm, w5.heap.size = bm := ⟨_, rfl⟩
  rw [hbm] at HMp HA6
  have HBm := Lib.hid hbm
  have HHi : Hid (B ≤ bm ∧ B ≤ w3.heap.size) := Lib.hid ⟨by rw [← hbm]; exact hat.base, by rw [hB]; exact Nat.le_refl _⟩
  clear hat hr5 hsb5 hw6 hb6 hmp hat6 hr6 hb5 hbn HNn hB hz7 HR4 HB34 hzi hbm
  as_aux_lemma =>
  go_upto_region 12 with fail
  rw [HW6.out, HBm.out]
  --<MK
  go_quiet (fail)
  have HQ : Hid (At B (w6.drewN nq) p 700 (newNd zi.toNat zt zv ⟨⟨six, stm, scf, sd⟩, l⟩) (fun q => q = bm)) := Lib.hid (HA6.out.below (RlgWalkB.below_drewN (Below.refl _ _) nq))
  have HMq : Hid (KeysU.MapAt Tryz.prog 22 (w6.drewN nq) bm 0 (fun _ => none)) := Lib.hid (HMp.out.keep rfl)
  have HSq : Hid (Below B w3 (w6.drewN nq)) := Lib.hid (RlgWalkB.below_drewN HB36.out nq)
  have d2 : (w6.drewN nq).cell? ⟨w.heap.size, 2, none⟩ = some (.int .i64 zv) := d2
  revert HQ HMq HSq d2
  generalize w6.drewN nq = w7
  intro HQ HMq HSq d2
  have hid : zi = ((newNd zi.toNat zt zv ⟨⟨six, stm, scf, sd⟩, l⟩).id : Int) := HZi.out
  have HId := Lib.hid hid
  clear hid d1 d0 d3 HA6 HMp HB36 HW6 HBm HZi HR6 hmm
  as_aux_lemma =>
  go_upto_if 56 with fail
  go_cut [] from 56 to 62 (fun wx => ∃ g, Run B w3 p bm 700 zi wx (newNd zi.toNat zt zv ⟨⟨six, stm, scf, sd⟩, l⟩) g 1)
  case first =>
    --<MF
    by_cases hv0 : 0 ≤ zv
    · have hd : decide ((0 : Int) ≤ zv) = true := decide_eq_true hv0
      go_wp2_with (first
        | (refine KeysU.wpList_store w7 rfl _ _ _ 64 rfl 22 3 Tryz.underlying22 Tryz.underlying64 bm 0 (fun _ => none) (zt : Int) (.int .i64 zv) rfl rfl rfl HMq.out hmx hzt0 hzt1 ?_
           intro w8 q1 q2
           have HB : Hid (∃ g, Run B w3 p bm 700 zi w8 (newNd zi.toNat zt zv ⟨⟨six, stm, scf, sd⟩, l⟩) g 1) := Lib.hid ⟨_, HQ.out.other rfl q2, fun x hx => (by cases hx), q1, Voted.begun (m := newNd zi.toNat zt zv ⟨⟨six, stm, scf, sd⟩, l⟩) hv0, HId.out, below_only HSq.out q2 HHi.out.2 (fun q hq => by rw [hq]; exact HHi.out.1)⟩
           clear q1 q2))
      go_meet
      with_reducible exact HB.out
    · have hd : decide ((0 : Int) ≤ zv) = false := decide_eq_false hv0
      have HB : Hid (∃ g, Run B w3 p bm 700 zi w7 (newNd zi.toNat zt zv ⟨⟨six, stm, scf, sd⟩, l⟩) g 1) := Lib.hid ⟨_, HQ.out, fun x hx => (by cases hx), HMq.out.more (by omega), Voted.none (m := newNd zi.toNat zt zv ⟨⟨six, stm, scf, sd⟩, l⟩) hv0, HId.out, HSq.out⟩
      go_wp2_with fail
      go_meet
      with_reducible exact HB.out
    --MF>
  case rest =>
  have HRun := Lib.hid hcut
  clear hcut HQ HMq HSq d2
  --<LOOP
  as_aux_lemma =>
  go_wp2_with fail
  go_loopw [9, 10, 64] (fun tm cm i wr => ∃ (k tk ck : Nat), k ≤ m ∧ tm = .int .u64 (tk : Int) ∧ cm = .int .u64 (ck : Int) ∧ i = .int .i64 (k : Int) ∧ Hid (∃ mk g, Run B w3 p bm (700 + 700 * k) zi wr mk g (k + 1) ∧ mk.term = tk ∧ mk.commit = ck)) (fun _ _ i _ => m - (intOf i).toNat)
  case atStart =>
    obtain ⟨g, hg⟩ := HRun.out
    exact ⟨0, zt, six, Nat.zero_le _, rfl, rfl, rfl, Lib.hid ⟨_, g, hg, rfl, rfl⟩⟩
  case round =>
    obtain ⟨k, tk, ck, hk, rfl, rfl, rfl, HR⟩ := hrel
    by_cases hkm : k < m
    · --<BODY
      obtain ⟨mk, gv, hrun, htk, hck⟩ := HR.out
      have hbw : Below w.heap.size w wr := HB3.out.trans (hrun.since.mono HBw.out)
      obtain ⟨x, hx⟩ : ∃ x, L[k]? = some x := ⟨_, List.getElem?_eq_getElem (by rw [HHo.out.1]; exact hkm)⟩
      obtain ⟨b, o, rfl, hbl, hten, hcal⟩ := (HHo.out.below hbw (Nat.le_refl _)).2 k x hx
      obtain ⟨hfew, hk600⟩ := few_of HT6.out hx
      have hwb := HBw.out
      obtain ⟨kind, ms, pl, data, id, idx, add⟩ := x
      obtain ⟨kd, fr, tt, tm, ix, pv, cm, ok, es, dd⟩ := ms
      obtain ⟨A9, n9, e9⟩ := pl
      have c0 := hten.c0
      have c1 := hten.c1
      have c2 := hten.c2
      have c3 := hten.c3
      have c4 := hten.c4
      have c5 := hten.c5
      have c6 := hten.c6
      have c7 := hten.c7
      have c8 := hten.c8
      have c9 := hten.c9
      have c10 := hten.c10
      have c11 := hten.c11
      have c12 := hten.c12
      have c13 := hten.c13
      have c14 := hten.c14
      simp only at c0 c1 c2 c3 c4 c5 c6 c7 c8 c9 c10 c11 c12 c13 c14 hfew
      obtain ⟨wa, hwa⟩ : ∃ wa, wr.alloc (.cells #[.int .i64 kind, .int .i64 kd, .int .i64 fr, .int .i64 tt, .int .u64 (tm : Int), .int .u64 (ix : Int), .int .u64 (pv : Int), .int .u64 (cm : Int), .bool ok, .slice A9 n9 e9, .string dd, .string data, .int .i64 id, .int .u64 (idx : Int), .bool add] 49) = wa := ⟨_, rfl⟩
      have hra : wa.heap[wr.heap.size]? = some (.cells #[.int .i64 kind, .int .i64 kd, .int .i64 fr, .int .i64 tt, .int .u64 (tm : Int), .int .u64 (ix : Int), .int .u64 (pv : Int), .int .u64 (cm : Int), .bool ok, .slice A9 n9 e9, .string dd, .string data, .int .i64 id, .int .u64 (idx : Int), .bool add] 49 (0, 0)) := by rw [← hwa]; exact heap_alloc_new wr _
      have hba : Below wr.heap.size wr wa := by rw [← hwa]; exact (Below.refl _ _).alloc (Nat.le_refl _) _
      have hala : At B wa p (700 + 700 * k) mk (fun q => q = bm) := hrun.at_.below hba
      have hsb : Below B w3 wa := hrun.since.trans (hba.mono hrun.at_.base)
      have hmpa : KeysU.MapAt Tryz.prog 22 wa bm (k + 1) gv := hrun.map.keep (hba.block _ hrun.map.lt)
      have y0 : wa.cell? ⟨wr.heap.size, 0, none⟩ = some (.int .i64 kind) := by rw [cell_at hra]; rfl
      have y1 : wa.cell? ⟨wr.heap.size, 1, none⟩ = some (.int .i64 kd) := by rw [cell_at hra]; rfl
      have y2 : wa.cell? ⟨wr.heap.size, 2, none⟩ = some (.int .i64 fr) := by rw [cell_at hra]; rfl
      have y3 : wa.cell? ⟨wr.heap.size, 3, none⟩ = some (.int .i64 tt) := by rw [cell_at hra]; rfl
      have y4 : wa.cell? ⟨wr.heap.size, 4, none⟩ = some (.int .u64 (tm : Int)) := by rw [cell_at hra]; rfl
      have y5 : wa.cell? ⟨wr.heap.size, 5, none⟩ = some (.int .u64 (ix : Int)) := by rw [cell_at hra]; rfl
      have y6 : wa.cell? ⟨wr.heap.size, 6, none⟩ = some (.int .u64 (pv : Int)) := by rw [cell_at hra]; rfl
      have y7 : wa.cell? ⟨wr.heap.size, 7, none⟩ = some (.int .u64 (cm : Int)) := by rw [cell_at hra]; rfl
      have y8 : wa.cell? ⟨wr.heap.size, 8, none⟩ = some (.bool ok) := by rw [cell_at hra]; rfl
      have y9 : wa.cell? ⟨wr.heap.size, 9, none⟩ = some (.slice A9 n9 e9) := by rw [cell_at hra]; rfl
      have y10 : wa.cell? ⟨wr.heap.size, 10, none⟩ = some (.string dd) := by rw [cell_at hra]; rfl
      have y11 : wa.cell? ⟨wr.heap.size, 11, none⟩ = some (.string data) := by rw [cell_at hra]; rfl
      have y12 : wa.cell? ⟨wr.heap.size, 12, none⟩ = some (.int .i64 id) := by rw [cell_at hra]; rfl
      have y14 : wa.cell? ⟨wr.heap.size, 14, none⟩ = some (.bool add) := by rw [cell_at hra]; rfl
      have hcal7 : CalB wa w.heap.size ⟨kind, ⟨kd, fr, tt, tm, ix, pv, cm, ok, es, dd⟩, ⟨A9, n9, e9⟩, data, id, idx, add⟩ := hcal.below (hba.mono (by have := hrun.at_.base; omega)) (Nat.le_refl _)
      have hbig : es.length + data.size + dd.size + dataW es ≤ 1048576 := hcal7.small
      have HTm := Lib.hid (hala.timeout (by omega))
      have HPr := Lib.hid (hala.propose (by omega) data (by omega))
      have HCh := Lib.hid (hala.change (by omega) add id hcal7.i0 hcal7.i1)
      have hrc := hala.receive (by omega) hcal7 HBw.out
      unfold ltV at hrc
      simp only at hrc
      have HRc := Lib.hid hrc
      have HStill := Lib.hid hala.still
      have HWA := Lib.hid hwa
      have HSB := Lib.hid hsb
      have HMp := Lib.hid hmpa
      have HVo := Lib.hid hrun.voted
      have HSe := Lib.hid hrun.sent
      have HId2 := Lib.hid hrun.id
      have HE := Lib.hid (And.intro htk hck)
      have HAa := Lib.hid hala
      clear hrun hbw hx hten hcal hwa hra hba hala hsb htk hck hmpa hcal7 hbig hrc
      as_aux_lemma =>
      go_upto_block 2 with fail
      rw [HWA.out]
      go_cut [] from 70 to 94 (fun wx => Went B wa p (700 + 700 * (k + 1)) mk (fun q => q = bm) wx)
      case first =>
        --<SW
        have hKc : kind = 0 ∨ kind = 1 ∨ kind = 3 ∨ kind = 4 ∨ (kind ≠ 0 ∧ kind ≠ 1 ∧ kind ≠ 3 ∧ kind ≠ 4) := by omega
        rcases hKc with rfl | rfl | rfl | rfl | ⟨h0, h1, h3, h4⟩
        · as_aux_lemma =>
          go_wp2_with fail
          with_reducible refine HRc.out.mono ?_
          rintro e w8 ⟨rfl, hw8⟩
          have HM := Lib.hid (hw8.mono (N' := 700 + 700 * (k + 1)) (by omega))
          clear hw8
          go_wp2_with fail
          go_meet
          with_reducible exact HM.out
        · as_aux_lemma =>
          go_wp2_with fail
          with_reducible refine HTm.out.mono ?_
          rintro e w8 ⟨rfl, hw8⟩
          have HM := Lib.hid (hw8.mono (N' := 700 + 700 * (k + 1)) (by omega))
          clear hw8
          go_wp2_with fail
          go_meet
          with_reducible exact HM.out
        · as_aux_lemma =>
          go_wp2_with fail
          with_reducible refine HPr.out.mono ?_
          rintro e w8 ⟨⟨v8, u8, rfl⟩, hw8⟩
          have HM := Lib.hid (hw8.mono (N' := 700 + 700 * (k + 1)) (by omega))
          clear hw8
          go_wp2_with fail
          go_meet
          with_reducible exact HM.out
        · as_aux_lemma =>
          go_wp2_with fail
          with_reducible refine HCh.out.mono ?_
          rintro e w8 ⟨⟨v8, u8, rfl⟩, hw8⟩
          have HM := Lib.hid (hw8.mono (N' := 700 + 700 * (k + 1)) (by omega))
          clear hw8
          go_wp2_with fail
          go_meet
          with_reducible exact HM.out
        · as_aux_lemma =>
          have t0 : (kind == 0) = false := by simp; omega
          have t1 : (kind == 1) = false := by simp; omega
          have t3 : (kind == 3) = false := by simp; omega
          have t4 : (kind == 4) = false := by simp; omega
          have HM := Lib.hid (HStill.out.mono (N' := 700 + 700 * (k + 1)) (by omega))
          go_wp2_with fail
          go_meet
          with_reducible exact HM.out
        --SW>
      case rest =>
        --<RE
        obtain ⟨⟨m', hat', htu⟩, hsin, honl⟩ := hcut
        have HTk := Lib.hid (at_take hat' (at_pfree (K := fun q => q = bm) hat'))
        have hmp8 : KeysU.MapAt Tryz.prog 22 wc bm (k + 1) gv := HMp.out.keep (honl.block _ HMp.out.lt fun h => h rfl)
        have HTu := Lib.hid htu
        have HSB8 := Lib.hid (HSB.out.trans hsin)
        have HMp8 := Lib.hid hmp8
        have hA8 := hat'.base
        have hml := hat'.b.term
        have hp8 := at_pfree (K := fun q => q = bm) hat'
        clear hat' htu hsin honl hmp8 HTm HPr HCh HRc HStill HSB HMp HAa HWA y0 y1 y2 y3 y4 y5 y6 y7 y8 y9 y10 y11 y12 y14
        as_aux_lemma =>
        go_wp2_with fail
        with_reducible refine HTk.out.mono ?_
        rintro e wd ⟨vk, A8, n8, c8', Z, rfl, htook⟩
        obtain ⟨Ak, ck', rfl⟩ := htook.kept
        obtain ⟨nk, hnk⟩ : ∃ nk, m'.kept.length = nk := ⟨_, rfl⟩
        obtain ⟨tk2, htk2⟩ : ∃ tk2, m'.term = tk2 := ⟨_, rfl⟩
        obtain ⟨vk2, hvk2⟩ : ∃ vk2, m'.vote = vk2 := ⟨_, rfl⟩
        obtain ⟨ck2, hck2⟩ : ∃ ck2, m'.commit = ck2 := ⟨_, rfl⟩
        obtain ⟨ins, hins⟩ : ∃ ins, m'.inst = ins := ⟨_, rfl⟩
        obtain ⟨rs, hrs⟩ : ∃ rs, m'.reset = rs := ⟨_, rfl⟩
        rw [hnk, htk2, hvk2, hck2, hins, hrs]
        obtain ⟨w9, hw9⟩ : ∃ w9, wd.alloc (.cells #[.int .u64 (tk2 : Int), .int .i64 vk2, .slice Ak nk ck', .bool ins, .slice A8 n8 c8', .bool rs, .int .u64 (ck2 : Int)] 70) = w9 := ⟨_, rfl⟩
        have hr9 : w9.heap[wd.heap.size]? = some (.cells #[.int .u64 (tk2 : Int), .int .i64 vk2, .slice Ak nk ck', .bool ins, .slice A8 n8 c8', .bool rs, .int .u64 (ck2 : Int)] 70 (0, 0)) := by rw [← hw9]; exact heap_alloc_new wd _
        have hb9 : Below wd.heap.size wd w9 := by rw [← hw9]; exact (Below.refl _ _).alloc (Nat.le_refl _) _
        have hmp9 : KeysU.MapAt Tryz.prog 22 w9 bm (k + 1) gv := (HMp8.out.keep (htook.only.block _ HMp8.out.lt fun h => h rfl)).keep (hb9.block _ (Nat.lt_of_lt_of_le HMp8.out.lt htook.only.size))
        have hbm9 : bm < wd.heap.size := Nat.lt_of_lt_of_le HMp8.out.lt htook.only.size
        have hAft : Aft B w3 p bm (700 + 700 * (k + 1)) zi wd.heap.size tk2 vk2 ck2 Ak nk ck' ins A8 n8 c8' rs Z (taken m') gv (k + 1) w9 := by
          refine ⟨htook.at_.below hb9, HId2.out.trans (by show (mk.id : Int) = (m'.id : Int); rw [HTu.out.fwd.id]), hmp9, hr9, Nat.ne_of_gt hbm9, (Kit.Reads.below htook.reads hb9).more hb9.size, htook.form, htook.fits, htook.max, (HSB8.out.trans htook.since).trans (hb9.mono htook.at_.base)⟩
        have HAft : Hid (∀ n, Aft B w3 p bm (700 + 700 * (k + 1)) zi wd.heap.size tk2 vk2 ck2 Ak nk ck' ins A8 n8 c8' rs Z (taken m') gv (k + 1) (w9.drewN n)) := Lib.hid fun n => hAft.drewN n
        have q0 : w9.cell? ⟨wd.heap.size, 0, none⟩ = some (.int .u64 (tk2 : Int)) := by rw [cell_at hr9]; rfl
        have q1 : w9.cell? ⟨wd.heap.size, 1, none⟩ = some (.int .i64 vk2) := by rw [cell_at hr9]; rfl
        have q4 : w9.cell? ⟨wd.heap.size, 4, none⟩ = some (.slice A8 n8 c8') := by rw [cell_at hr9]; rfl
        have q6 : w9.cell? ⟨wd.heap.size, 6, none⟩ = some (.int .u64 (ck2 : Int)) := by rw [cell_at hr9]; rfl
        obtain ⟨e1, e2⟩ := HE.out
        have hT : tk ≤ tk2 := by
          have := HTu.out.fwd.term
          omega
        have hC : ck ≤ ck2 := by
          have := HTu.out.fwd.commit
          omega
        have hS' := HTu.out.fwd.sent HSe.out
        have HL : Hid (∀ y ∈ Z, y.1.f = zi ∧ y.1.tm ≤ tk2 ∧ (y.1.k = 2 → y.1.ok = true → y.1.tm = tk2 → 0 ≤ vk2 ∧ y.1.t = vk2)) := Lib.hid fun y hy => by
          have hin : y.1 ∈ m'.out := by rw [← htook.said]; exact List.mem_map_of_mem hy
          obtain ⟨l1, l2, l3⟩ := hS' y.1 hin
          rw [htk2] at l2 l3
          rw [hvk2] at l3
          exact ⟨l1.trans (by rw [HId2.out, HTu.out.fwd.id]), l2, l3⟩
        have HOld : Hid (∀ v, gv (tk2 : Int) = some v → v = .int .i64 vk2 ∧ 0 ≤ vk2) := Lib.hid fun v hv => by
          have := HVo.out.old HTu.out.fwd (v := v) (by rw [htk2]; exact hv)
          rwa [hvk2] at this
        have HNew : Hid (0 ≤ vk2 → Voted (taken m') (fun j => if j = (tk2 : Int) then some (.int .i64 vk2) else gv j)) := Lib.hid fun hv => by
          have := HVo.out.new HTu.out.fwd (by rw [hvk2]; exact hv)
          rwa [htk2, hvk2] at this
        have HSame : Hid (¬ 0 ≤ vk2 → Voted (taken m') gv) := Lib.hid fun hv => HVo.out.same HTu.out.fwd (by rw [hvk2]; exact hv)
        have HE2 : Hid ((taken m').term = tk2 ∧ (taken m').commit = ck2) := Lib.hid ⟨htk2, hck2⟩
        have HW9 := Lib.hid hw9
        have htk264 : tk2 < 18446744073709551616 := by rw [← htk2]; exact hml
        have hT1 : (tk2 : Int) ≤ 18446744073709551615 := by omega
        have hT0 : (0 : Int) ≤ (tk2 : Int) := Int.natCast_nonneg tk2
        have hmx2 : k + 1 < maxLen := by unfold maxLen; omega
        clear htook hnk htk2 hvk2 hck2 hins hrs hw9 hr9 hb9 hmp9 hbm9 hAft hS' HTk HMp8 HTu HSB8 HVo HSe HE e1 e2 hA8 hml hp8 htk264
        as_aux_lemma =>
        go_upto_region 30 with fail
        rw [HW9.out]
        go_quiet (fail)
        have HAf := Lib.hid (HAft.out nq)
        revert HAf
        clear HAft HW9 q0 q1 q4 q6
        generalize w9.drewN nq = w10
        intro HAf
        have hrow := HAf.out.row
        have q0 : w10.cell? ⟨wd.heap.size, 0, none⟩ = some (.int .u64 (tk2 : Int)) := by rw [cell_at hrow]; rfl
        have q1 : w10.cell? ⟨wd.heap.size, 1, none⟩ = some (.int .i64 vk2) := by rw [cell_at hrow]; rfl
        have HMp9 := Lib.hid HAf.out.map
        have hzi := zero_int w10
        have hnil : (taken m').out = [] := rfl
        have HNil := Lib.hid hnil
        clear hrow hnil hT hC
        as_aux_lemma =>
        --<CU
        obtain ⟨o0, ho0, hgl⟩ : ∃ o0 : Option Value, (o0 = none ∨ o0 = some (.int .i64 vk2)) ∧ gv (tk2 : Int) = o0 := by
          cases hgl : gv (tk2 : Int) with
          | none => exact ⟨none, .inl rfl, rfl⟩
          | some vv => exact ⟨_, .inr (by rw [(HOld.out vv hgl).1]), rfl⟩
        have HGl := Lib.hid hgl
        clear hgl
        rcases ho0 with rfl | rfl
        all_goals
          as_aux_lemma =>
          go_upto_if 129 with (first
            | (refine KeysU.wpList_look w10 rfl _ _ 64 true rfl 22 3 Tryz.underlying22 Tryz.underlying64 (.int .i64 0) hzi (some bm) (k + 1) gv (tk2 : Int) rfl rfl HMp9.out hT0 hT1 ?_
               rw [HGl.out]))
          go_cut [] from 129 to 135 (fun wx => AftV B w3 p bm (700 + 700 * (k + 1)) zi wd.heap.size tk2 vk2 ck2 Ak nk ck' ins A8 n8 c8' rs Z (taken m') (k + 2) wx)
          case first =>
            --<ST
            by_cases hv0 : 0 ≤ vk2
            · have hd : decide ((0 : Int) ≤ vk2) = true := decide_eq_true hv0
              go_wp2_with (first
                | (refine KeysU.wpList_store w10 rfl _ _ _ 64 rfl 22 3 Tryz.underlying22 Tryz.underlying64 bm (k + 1) gv (tk2 : Int) (.int .i64 vk2) rfl rfl rfl HMp9.out hmx2 hT0 hT1 ?_
                   intro w11 r1 r2
                   have HB : Hid (AftV B w3 p bm (700 + 700 * (k + 1)) zi wd.heap.size tk2 vk2 ck2 Ak nk ck' ins A8 n8 c8' rs Z (taken m') (k + 2) w11) := Lib.hid ⟨_, HAf.out.noted r1 r2 HNil.out HHi.out, HNew.out hv0, fun _ => if_pos rfl⟩
                   clear r1 r2))
              go_meet
              with_reducible exact HB.out
            · have hd : decide ((0 : Int) ≤ vk2) = false := decide_eq_false hv0
              have HB : Hid (AftV B w3 p bm (700 + 700 * (k + 1)) zi wd.heap.size tk2 vk2 ck2 Ak nk ck' ins A8 n8 c8' rs Z (taken m') (k + 2) w10) := Lib.hid ⟨gv, { HAf.out with map := HAf.out.map.more (by omega) }, HSame.out (by omega), fun h => absurd h hv0⟩
              go_wp2_with fail
              go_meet
              with_reducible exact HB.out
            --ST>
          case rest =>
            --<LT
            obtain ⟨gw, haf, hvo, hgw⟩ := hcut
            have hrow := haf.row
            have q4 : wc.cell? ⟨wd.heap.size, 4, none⟩ = some (.slice A8 n8 c8') := by rw [cell_at hrow]; rfl
            have hfit := haf.fits
            have hmx3 := haf.max
            have hn63 : n8 ≤ 9223372036854775807 := by unfold maxLen at hmx3; omega
            have HAw := Lib.hid haf
            have HVw := Lib.hid hvo
            have HGw := Lib.hid hgw
            have hlenZ : Hid (Z.length = n8) := Lib.hid (by have := haf.reads.1; rw [lcs_length] at this; omega)
            clear haf hvo hgw hrow hfit hmx3 HAf HMp9 HGl q0 q1 hzi HOld HNew HSame
            as_aux_lemma =>
            go_wp2_with fail
            go_loopw [138] (fun i wi => ∃ j : Nat, j ≤ n8 ∧ i = .int .i64 (j : Int) ∧ Hid (Below wc.heap.size wc wi)) (fun i _ => n8 - (intOf i).toNat)
            case atStart => exact ⟨0, Nat.zero_le _, rfl, Lib.hid (Below.refl _ _)⟩
            case round =>
              obtain ⟨j, hj, rfl, HBi⟩ := hrel
              by_cases hjn : j < n8
              · --<IA
                obtain ⟨g8, hg8, _⟩ := HAw.out.form (by omega)
                subst hg8
                have hafi := HAw.out.below HBi.out
                obtain ⟨y, hy⟩ : ∃ y, Z[j]? = some y := ⟨_, List.getElem?_eq_getElem (by rw [hlenZ.out]; exact hjn)⟩
                have hcs := lt_cells hafi.reads (by omega) hy
                obtain ⟨l1, l2, l3⟩ := HL.out y (List.mem_of_getElem? hy)
                obtain ⟨x, pl⟩ := y
                obtain ⟨kd, fr, tt, tm, ix, pv, cm, ok, es, dd⟩ := x
                simp only at l1 l2 l3
                have l1' := l1.symm
                subst l1'
                clear l1
                have x0 := hcs 0 _ rfl
                have x1 := hcs 1 _ rfl
                have x2 := hcs 2 _ rfl
                have x3 := hcs 3 _ rfl
                have x4 := hcs 4 _ rfl
                have x5 := hcs 5 _ rfl
                have x6 := hcs 6 _ rfl
                have x7 := hcs 7 _ rfl
                have x8 := hcs 8 _ rfl
                have x9 := hcs 9 _ rfl
                simp only [Nat.add_zero] at x0 x1 x2 x3 x4 x5 x6 x7 x8 x9
                obtain ⟨we, hwe⟩ : ∃ we, wr.alloc (.cells #[.int .i64 kd, .int .i64 zi, .int .i64 tt, .int .u64 (tm : Int), .int .u64 (ix : Int), .int .u64 (pv : Int), .int .u64 (cm : Int), .bool ok, .slice pl.A pl.n pl.c, .string dd] 47) = we := ⟨_, rfl⟩
                have hre : we.heap[wr.heap.size]? = some (.cells #[.int .i64 kd, .int .i64 zi, .int .i64 tt, .int .u64 (tm : Int), .int .u64 (ix : Int), .int .u64 (pv : Int), .int .u64 (cm : Int), .bool ok, .slice pl.A pl.n pl.c, .string dd] 47 (0, 0)) := by rw [← hwe]; exact heap_alloc_new wr _
                have hbe : Below wr.heap.size wr we := by rw [← hwe]; exact (Below.refl _ _).alloc (Nat.le_refl _) _
                have hafe := hafi.below hbe
                have hbx := (hafe.since.block _ hbz).trans HR3a.out
                have d0 : we.cell? ⟨w.heap.size, 0, none⟩ = some (.int .i64 zi) := by rw [cell_at hbx]; rfl
                have e0 : we.cell? ⟨wr.heap.size, 0, none⟩ = some (.int .i64 kd) := by rw [cell_at hre]; rfl
                have e1 : we.cell? ⟨wr.heap.size, 1, none⟩ = some (.int .i64 zi) := by rw [cell_at hre]; rfl
                have e2 : we.cell? ⟨wr.heap.size, 2, none⟩ = some (.int .i64 tt) := by rw [cell_at hre]; rfl
                have e3 : we.cell? ⟨wr.heap.size, 3, none⟩ = some (.int .u64 (tm : Int)) := by rw [cell_at hre]; rfl
                have e7 : we.cell? ⟨wr.heap.size, 7, none⟩ = some (.bool ok) := by rw [cell_at hre]; rfl
                have HB0 : Hid (Below wc.heap.size wc we) := Lib.hid (HBi.out.trans (hbe.mono HBi.out.size))
                have HMe := Lib.hid hafe.map
                have hzi := zero_int we
                have HWe := Lib.hid hwe
                have hLk : Hid (kd = 2 → ok = true → tm = tk2 → tt = vk2 ∧ gw (tk2 : Int) = some (.int .i64 vk2)) := Lib.hid fun h1 h2 h3 => ⟨(l3 h1 h2 h3).2, HGw.out (l3 h1 h2 h3).1⟩
                clear hafi hy hcs l3 hwe hre hbe hafe hbx
                have hcs4 : kd ≠ 2 ∨ (kd = 2 ∧ ok = false) ∨ (kd = 2 ∧ ok = true ∧ tm ≠ tk2) ∨ (kd = 2 ∧ ok = true ∧ tm = tk2) := by
                  by_cases h1 : kd = 2
                  · cases ok with
                    | false => exact .inr (.inl ⟨h1, rfl⟩)
                    | true =>
                      by_cases h3 : tm = tk2
                      · exact .inr (.inr (.inr ⟨h1, rfl, h3⟩))
                      · exact .inr (.inr (.inl ⟨h1, rfl, h3⟩))
                  · exact .inl h1
                go_upto_region 39 with fail
                rw [HWe.out]
                clear x0 x1 x2 x3 x4 x5 x6 x7 x8 x9 HWe q4
                rcases hcs4 with h1 | ⟨rfl, rfl⟩ | ⟨rfl, rfl, h3⟩ | ⟨rfl, rfl, rfl⟩
                · have t0 : (kd == 2) = false := by simp; omega
                  as_aux_lemma =>
                  go_wp2_with fail
                  go_roundw
                  case rel => exact ⟨j + 1, by omega, by go_num, HB0⟩
                  case measure => simp [intOf]; omega
                · as_aux_lemma =>
                  go_wp2_with fail
                  go_roundw
                  case rel => exact ⟨j + 1, by omega, by go_num, HB0⟩
                  case measure => simp [intOf]; omega
                · have t3 : ((tm : Int) == (tk2 : Int)) = false := by simp; omega
                  as_aux_lemma =>
                  go_wp2_with fail
                  go_roundw
                  case rel => exact ⟨j + 1, by omega, by go_num, HB0⟩
                  case measure => simp [intOf]; omega
                · obtain ⟨rfl, hgk⟩ := hLk.out rfl rfl rfl
                  have hrun : (Instr.lookup 64 (.map (some bm)) (.int .u64 (tm : Int)) false).run Tryz.prog we = .ok (.int .i64 tt) we := by
                    have := HMe.out.look (t := 64) (e := 3) Tryz.underlying22 Tryz.underlying64 hzi hT0 hT1 false
                    rw [hgk] at this
                    exact this
                  clear hgk hLk hzi
                  as_aux_lemma =>
                  go_wp2_with fail
                  go_roundw
                  case rel => exact ⟨j + 1, by omega, by go_num, HB0⟩
                  case measure => simp [intOf]; omega
                --IA>
              · --<IZ
                obtain rfl : j = n8 := by omega
                have hF2 : Hid (∃ mk g, Run B w3 p bm (700 + 700 * (k + 1)) zi wr mk g (k + 1 + 1) ∧ mk.term = tk2 ∧ mk.commit = ck2) := by
                  have hafi := HAw.out.below HBi.out
                  exact ⟨taken m', gw, ⟨hafi.at_, taken_sents m', hafi.map, HVw.out, hafi.id, hafi.since⟩, HE2.out.1, HE2.out.2⟩
                go_wp2_with fail
                go_roundw
                case rel => exact ⟨k + 1, tk2, ck2, by omega, rfl, rfl, by go_num, hF2⟩
                case measure => simp [intOf]; omega
                --IZ>
            --LT>
        --CU>
        --RE>
      --BODY>
    · obtain rfl : k = m := by omega
      obtain ⟨mk, gv, hrun, _, _⟩ := HR.out
      have HF := Lib.hid (HB3.out.trans (hrun.since.mono HBw.out))
      clear hrun
      go_wp2
      go_ret
      exact ⟨rfl, HF.out⟩
  --LOOP>
  --MK>
end Go.Proofs.YtokifeghoodkgaaGreat.LawH
namespace Go.Proofs.YtokifeghoodkgaaGreat.PRaftVotesUpto
open Go.ChangeShapes Go.WideShapes Go.ChangeAt Go.RowKit Go.Proofs.YtokifeghoodkgaaGreat.Kit Go.Proofs.YtokifeghoodkgaaGreat.Frame
set_option linter.unusedVariables false

theorem own : ownKnob Tryz.prog.godebug = none := by kernel_rfl
theorem laidOut : laidOutB Tryz.prog = true := by kernel_rfl

set_option maxRecDepth 100000 in
theorem contract (H : Type) (enc : TypeId × Value → H) (W : World) (base : Nat) (args : Array Value) (ds gs : List (DataW H)) (before : List MemPlace)
    (hval : ∀ (j : Nat) t v, Tryz.f4.params[j]? = some t → args[j]? = some v → Value.okWide Tryz.prog W .any base t v)
    (hW : DataW.Whole enc Tryz.prog Tryz.f4.params.toList Rows.raftVotesSpec.vars false W args.toList ds gs before)
    (hk : Rows.uptoSmall H (ds ++ gs) = true) :
    Calls Tryz.prog 4 args W fun e W' => ∃ v, e = .returned v ∧ Rows.raftVotesSpec.post enc Tryz.prog Tryz.f4 false true false false W args v W' := by
  have hW' := hW
  obtain ⟨p, q, hA0, hV, rfl, hfz, hnd⟩ := hW
  have hA : DataW.TrodAll enc Tryz.prog W 0 (fun _ => true) true Tryz.f4.params.toList args.toList ds p := hA0
  rw [Tryz.params4] at hA hval
  obtain ⟨v0, vs0, d0, ds0, p0, q0, hargs, rfl, rfl, h0, r0⟩ := trodAll_cons hA
  obtain ⟨v1, vs1, d1, ds1, p1, q1, rfl, rfl, rfl, h1, r1⟩ := trodAll_cons r0
  obtain ⟨rfl, rfl, rfl⟩ := trodAll_nil r1
  obtain rfl : args = #[v0, v1] := by cases args; simp_all
  obtain ⟨rfl, rfl⟩ := trodVars_none hV
  have lt0 : ∀ x ∈ p0, x.block < W.heap.size := by obtain ⟨m, hm⟩ := h0; exact DataW.trod_lt m _ _ _ hm
  obtain ⟨z0, A0, n0, c0, l0, rfl, hz0_0, hl0_1, d0_2⟩ := OpensC.arg_start (hval 0 29 v0 rfl rfl) h0
  have lt1 : ∀ x ∈ p1, x.block < W.heap.size := by obtain ⟨m, hm⟩ := h1; exact DataW.trod_lt m _ _ _ hm
  obtain ⟨C1, m1, cc1, L1, rfl, hm1_0, hh1_1, d1_2⟩ := OpensC.arg_calls (hval 1 30 v1 rfl rfl) h1
  have hall : Rows.uptoBulkAll _ ≤ 1048576 := of_decide_eq_true hk
  clear hA0
  refine (LawH.votes_walk z0 A0 n0 c0 l0 C1 m1 cc1 L1 W hz0_0 hl0_1 hm1_0 (OpensC.small d0_2 hh1_1 d1_2 hall)).mono fun e W' ⟨he, bel⟩ => ?_
  subst he
  exact ⟨_, rfl, _, _, _, [], _, [], hW', trodAll_mk1 (shut_bool Tryz.underlying4 _), (trodAll_cons_mk (Below.trod laidOut (by kernel_rfl) (of_decide_eq_true (by kernel_rfl)) h0 bel lt0) (trodAll_cons_mk (Below.trod laidOut (by kernel_rfl) (of_decide_eq_true (by kernel_rfl)) h1 bel lt1) trodAll_mk0)), rfl, bel.frame _, fun h => by cases h⟩

set_option maxRecDepth 100000 in
theorem lifted (os : Os) (started : os.Started) (H : Type) (enc : TypeId × Value → H) (F : Stop.Interp) :
    ReturnsInHanded {} Tryz.checked os 4 .any ((Rows.OpenSpec.upto Rows.raftVotesSpec).pre6 enc Tryz.prog Tryz.f4 Rows.raftVotesUptoRow.domain false) (((Rows.OpenSpec.upto Rows.raftVotesSpec).at F).post enc Tryz.prog Tryz.f4 false true false false) := by
  refine returnsInHanded_of_cond (C := Tryz.checked) (s := Rows.OpenSpec.upto Rows.raftVotesSpec) (k := Rows.uptoSmall) rfl own started (by kernel_rfl) Tryz.func4
    (OpenSpec.witness (enc := enc) (C := Tryz.checked) (s := Rows.OpenSpec.upto Rows.raftVotesSpec) (k := Rows.uptoSmall) rfl false ⟨#[], #[.agg #[.int .i64 0, .int .u64 0, .int .i64 0, .int .u64 0, .int .u64 0, .int .u64 0, .string .empty, .slice none 0 0], .slice none 0 0], []⟩ 8 (by kernel_rfl) (by kernel_rfl) (by kernel_rfl)
      (x := ([.agg [.lit (.int .i64 0), .agg [.lit (.int .u64 0), .lit (.int .i64 0)], .agg [.lit (.int .u64 0), .lit (.int .u64 0), .lit (.int .u64 0), .lit (.string [])], .nil], .nil], [], [])) (by kernel_rfl) rfl (by kernel_rfl)) ?_
  intro W base args ds gs before hval hW _ hk _
  exact contract H enc W base args ds gs before hval hW hk

theorem over : Rows.raftVotesUptoRow.holds Tryz.pinned (Rows.OpenSpec.upto Rows.raftVotesSpec) :=
  OpenClaim.holds_of_cond 4 Tryz.f4 rfl rfl rfl rfl rfl rfl rfl ⟨rfl, rfl, rfl, rfl, rfl⟩ rfl rfl rfl rfl rfl (by kernel_rfl) Tryz.func4 (by kernel_rfl)
    (of_decide_eq_true (by kernel_rfl)) (by unfold Func.isWrapper; first | (rw [if_pos (by decide +kernel)]; kernel_rfl) | (rw [if_neg (by decide +kernel)]; exact ⟨rfl, rfl⟩))
    (fun os started H enc _ F => lifted os started H enc F)

theorem proved : Rows.RaftVotesUptoSaid := over
end Go.Proofs.YtokifeghoodkgaaGreat.PRaftVotesUpto
