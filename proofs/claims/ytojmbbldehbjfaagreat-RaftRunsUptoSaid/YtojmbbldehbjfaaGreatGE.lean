/- By how much a log grows in one call. No statement is proved here. -/
import Derived.Test.YtojmbbldehbjfaaGreatHOpensC
import Derived.Test.YtojmbbldehbjfaaGreatGB
import Derived.Test.YtojmbbldehbjfaaGreatGD6
import Derived.Test.YtojmbbldehbjfaaGreatGD1
import Derived.Test.YtojmbbldehbjfaaGreatGL
import Derived.Deep.RegionLaw
import Derived.BigQuiet
import Derived.Deep.QuietTactic
import Derived.Test.YtojmbbldehbjfaaGreatOnly
import Derived.Maps.OwnSet
import Derived.Test.YtojmbbldehbjfaaGreatNodB
set_option linter.unusedVariables false
namespace Go.Proofs.YtojmbbldehbjfaaGreat.Stp
open Go.RowKit Go.Proofs.YtojmbbldehbjfaaGreat.Kit Go.Proofs.YtojmbbldehbjfaaGreat.Blocks Go.Proofs.YtojmbbldehbjfaaGreat.Rlog Go.Proofs.YtojmbbldehbjfaaGreat.Ents Go.Proofs.YtojmbbldehbjfaaGreat.LogAt Go.Proofs.YtojmbbldehbjfaaGreat.Nod Go.Proofs.YtojmbbldehbjfaaGreat.NodAt Go.Proofs.YtojmbbldehbjfaaGreat.WalkB Go.Proofs.YtojmbbldehbjfaaGreat.WalkI Go.Proofs.YtojmbbldehbjfaaGreat.WalkJ Go.Proofs.YtojmbbldehbjfaaGreat.Begun Go.Proofs.YtojmbbldehbjfaaGreat.Fwd Go.Proofs.YtojmbbldehbjfaaGreat.OpensC

/-- The node at p, wherever the rest of it lies, off the blocks K. -/
structure At (B : Nat) (w : World) (p N : Nat) (m : Nd) (K : Nat → Prop) : Prop where
  ex : ∃ z, PAt B w p z m ∧ ∀ k, K k → ¬ Mine p z k
  b : NdB N m
  klt : ∀ k, K k → k < w.heap.size
/-- m' is what a call made of m. -/
structure Turn (m m' : Nd) : Prop where
  fwd : Fwd m m'
  led : m.role = 2 → m'.role = 2 → m'.term = m.term → Gs m m'
/-- What a call leaves. -/
structure Went (B : Nat) (w : World) (p N : Nat) (m : Nd) (K : Nat → Prop) (w' : World) : Prop where
  ex : ∃ m', At B w' p N m' K ∧ Turn m m'
  since : Below B w w'
  kept : Only (fun k => ¬ K k) w w'
section
variable {B p N : Nat} {m m' : Nd} {w w' : World} {K K' : Nat → Prop}
theorem At.plt (h : At B w p N m K) : B ≤ p ∧ p < w.heap.size := by obtain ⟨z, hz, _⟩ := h.ex; exact ⟨hz.low, hz.plt⟩
theorem At.base (h : At B w p N m K) : B ≤ w.heap.size := by have := h.plt; omega
theorem At.guard (h : At B w p N m K) (k : Below w.heap.size w w') (hK : ∀ k, K' k → K k ∨ w.heap.size ≤ k) (hlt : ∀ k, K' k → k < w'.heap.size) : At B w' p N m K' := by
  obtain ⟨z, hz, ho⟩ := h.ex
  refine ⟨⟨z, hz.below k, fun b hb hm => ?_⟩, h.b, hlt⟩
  rcases hK b hb with h1 | h1
  · exact ho b h1 hm
  · have := (NodeAt.mine_lt hz hm).2
    omega
theorem At.below (h : At B w p N m K) (k : Below w.heap.size w w') : At B w' p N m K := h.guard k (fun _ h => .inl h) fun b hb => Nat.lt_of_lt_of_le (h.klt b hb) k.size
theorem At.mono (h : At B w p N m K) {N' : Nat} (hN : N ≤ N') : At B w p N' m K := ⟨h.ex, h.b.mono hN, h.klt⟩
theorem At.less (h : At B w p N m K) (hK : ∀ k, K' k → K k) : At B w p N m K' := h.guard (Below.refl _ _) (fun k hk => .inl (hK k hk)) fun k hk => h.klt k (hK k hk)
/-- Another's block is written. -/
theorem At.other (h : At B w p N m K) (he : m.out = []) (o : Only K w w') : At B w' p N m K := by
  obtain ⟨z, hz, ho⟩ := h.ex
  have hZ : z.Z = [] := by
    have := hz.said
    rw [he] at this
    exact List.map_eq_nil_iff.1 this
  exact ⟨⟨z, NodeAt.keep hz o (fun b hb hk => ho b hk hb) (fun x hx => by rw [hZ] at hx; cases hx), ho⟩, h.b, fun k hk => Nat.lt_of_lt_of_le (h.klt k hk) o.size⟩
theorem At.left {z : Seat} (h : PAt B w p z m) (ho : ∀ k, K k → ¬ Mine p z k) (hlt : ∀ k, K k → k < w.heap.size) (l : LeftP B w p z m' w') (hb : NdB N m') : At B w' p N m' K ∧ Below B w w' ∧ Only (fun k => ¬ K k) w w' := by
  obtain ⟨z', h', g⟩ := l
  refine ⟨⟨⟨z', h', fun k hk hm => ?_⟩, hb, fun k hk => Nat.lt_of_lt_of_le (hlt k hk) g.size⟩, below_grow h.base (Below.refl _ _) h g, g.only.mono fun k _ hk hK => ho k hK hk⟩
  rcases g.new k hm with h1 | h1
  · exact ho k hk h1
  · have := hlt k hk
    omega
theorem At.went {z : Seat} (h : PAt B w p z m) (ho : ∀ k, K k → ¬ Mine p z k) (hlt : ∀ k, K k → k < w.heap.size) (l : LeftP B w p z m' w') (hb : NdB N m') (ht : Turn m m') : Went B w p N m K w' := by
  obtain ⟨h1, h2, h3⟩ := At.left h ho hlt l hb
  exact ⟨⟨m', h1, ht⟩, h2, h3⟩
theorem At.still (h : At B w p N m K) : Went B w p N m K w := ⟨⟨m, h, Fwd.refl m, fun _ _ _ => Gs.refl m⟩, Below.refl _ _, Only.refl _ _⟩
theorem Went.mono (h : Went B w p N m K w') {N' : Nat} (hN : N ≤ N') : Went B w p N' m K w' := by
  obtain ⟨m', h1, h2⟩ := h.ex
  exact ⟨⟨m', h1.mono hN, h2⟩, h.since, h.kept⟩
/-- A letter that came in lies off the node. -/
theorem fit_low {B0 : Nat} {x : Msg} {a : Pl} {z : Seat} (h : PAt B w p z m) (hr : RE w B0 a.A a.n x.es) (hB : B0 ≤ B) (h1 : a.n ≤ a.c) (h2 : a.c ≤ 9223372036854775807) (h3 : x.es.length * 40 ≤ 140737488355328) : Fit w (Mine p z) x a := by
  have hl := RE.len hr
  refine ⟨Kit.Reads.more hr (by have := h.base; omega), h1, h2, by omega, fun hn ad e hk => ?_⟩
  obtain ⟨ad', e', hb, _⟩ := hr.2 hn
  rw [e] at e'
  cases e'
  have := (NodeAt.mine_lt h hk).1
  omega
theorem At.timeout (h : At B w p N m K) (hN : N ≤ 700000000) : Calls Tryz.prog 21 #[.pointer (some ⟨p, 0, none⟩)] w fun e w' => e = .returned (.tuple #[]) ∧ Went B w p (N + 22) m K w' := by
  obtain ⟨z, hz, ho⟩ := h.ex
  refine (WalkH.timeout_any hz h.b hN).mono ?_
  rintro e w' ⟨rfl, hl⟩
  exact ⟨rfl, At.went hz ho h.klt hl (timeout_b h.b (by omega)) ⟨timeout_f m, fun hr _ _ => timeout_gs hr⟩⟩
theorem At.propose (h : At B w p N m K) (hN : N ≤ 700000000) (d : ByteArray) (hd : d.size ≤ 9223372036854775807) : Calls Tryz.prog 22 #[.pointer (some ⟨p, 0, none⟩), .string d] w fun e w' => (∃ i k : Int, e = .returned (.tuple #[.int .u64 i, .int .i64 k])) ∧ Went B w p (N + 22) m K w' := by
  obtain ⟨z, hz, ho⟩ := h.ex
  refine (WalkH.propose_any hz h.b (by omega) d hd).mono ?_
  rintro e w' ⟨rfl, hl⟩
  exact ⟨⟨_, _, rfl⟩, At.went hz ho h.klt hl ((propose_b h.b (by omega) d hd).mono (by omega)) ⟨propose_f m d, fun _ _ _ => propose_gs m d⟩⟩
theorem At.change (h : At B w p N m K) (hN : N ≤ 700000000) (ad : Bool) (i : Int) (hi0 : -9223372036854775808 ≤ i) (hi1 : i ≤ 9223372036854775807) : Calls Tryz.prog 23 #[.pointer (some ⟨p, 0, none⟩), .bool ad, .int .i64 i] w fun e w' => (∃ i k : Int, e = .returned (.tuple #[.int .u64 i, .int .i64 k])) ∧ Went B w p (N + 22) m K w' := by
  obtain ⟨z, hz, ho⟩ := h.ex
  refine (change_any hz h.b (by omega) ad i hi0 hi1).mono ?_
  rintro e w' ⟨rfl, hl⟩
  exact ⟨⟨_, _, rfl⟩, At.went hz ho h.klt hl ((changes_b h.b (by omega) ad i).mono (by omega)) ⟨changes_f m ad i, fun _ _ _ => changes_gs m ad i⟩⟩
/-- Receive, by a call that came in. -/
theorem At.receive_to (h : At B w p N m K) (hN : N ≤ 700000000) {B0 : Nat} {c : Cal} (hc : CalB w B0 c) (hB : B0 ≤ B) : Calls Tryz.prog 20 #[.pointer (some ⟨p, 0, none⟩), ltV c.x c.a] w fun e w' => e = .returned (.tuple #[]) ∧ At B w' p (N + c.x.es.length + 22) (Nod.receive m c.x) K ∧ Below B w w' ∧ Only (fun k => ¬ K k) w w' := by
  obtain ⟨z, hz, ho⟩ := h.ex
  have hs : c.x.es.length + c.data.size + c.x.d.size + dataW c.x.es ≤ 1048576 := hc.small
  refine (WalkO.receive_any hz h.b hN c.x c.a hc.msg (fit_low hz hc.list hB hc.fits hc.max (by omega)) (by omega)).mono ?_
  rintro e w' ⟨rfl, hl⟩
  exact ⟨rfl, At.left hz ho h.klt hl ((receive_b h.b (by omega) hc.msg).mono (by omega))⟩
theorem At.receive (h : At B w p N m K) (hN : N ≤ 700000000) {B0 : Nat} {c : Cal} (hc : CalB w B0 c) (hB : B0 ≤ B) : Calls Tryz.prog 20 #[.pointer (some ⟨p, 0, none⟩), ltV c.x c.a] w fun e w' => e = .returned (.tuple #[]) ∧ Went B w p (N + c.x.es.length + 22) m K w' := by
  refine (h.receive_to hN hc hB).mono ?_
  rintro e w' ⟨rfl, h', b, o⟩
  exact ⟨rfl, ⟨Nod.receive m c.x, h', receive_f m c.x, fun hr _ ht => receive_gs hr ht⟩, b, o⟩
theorem At.status (h : At B w p N m K) : Calls Tryz.prog 15 #[.pointer (some ⟨p, 0, none⟩)] w fun e w' => e = .returned (StatusV m) ∧ Below w.heap.size w w' := by
  obtain ⟨z, hz, ho⟩ := h.ex
  exact status_any hz
/-- The log behind a node. -/
theorem At.log (h : At B w p N m K) : ∃ q v, LogAt 89 B w q v m.g ∧ Calls Tryz.prog 16 #[.pointer (some ⟨p, 0, none⟩)] w fun e w' => e = .returned (.pointer (some ⟨q, 0, none⟩)) ∧ w = w' := by
  obtain ⟨z, hz, ho⟩ := h.ex
  exact ⟨z.q, z.vg, hz.log, WalkD.log_any hz⟩
/-- A new node of a log that was made. -/
theorem new_at {q : Nat} {v : Value} {g : G} (h : LogAt 89 B w q v g) (f : Fine g) (i : Int) {t : Nat} (ht : t < 18446744073709551616) (vt : Int) (hN : g.es.length ≤ N) :
    Calls Tryz.prog 12 #[.int .i64 i, .agg #[.int .u64 (t : Int), .int .i64 vt], .pointer (some ⟨q, 0, none⟩)] w fun e w' =>
      if (Quorum.node i && (voteOk vt && lastOk t g)) = true then ∃ p, e = .returned (.tuple #[.pointer (some ⟨p, 0, none⟩), .int .i64 0]) ∧ At B w' p N (newNd i.toNat t vt g) (fun _ => False) ∧ i = (i.toNat : Int) ∧ i.toNat < 7 ∧ Below w.heap.size w w' else NoNode w e w' := by
  refine (WalkJ.new_any h f i t vt).mono ?_
  intro e w' hh
  split
  · rename_i hc
    rw [if_pos hc] at hh
    simp only [Bool.and_eq_true] at hc
    have hi := node_lt hc.1
    obtain ⟨p, rfl, _, h4, h5⟩ := hh
    exact ⟨p, rfl, ⟨⟨_, h4, fun _ h => h.elim⟩, newNd_b (by omega) ht hc.2.1 hc.2.2 f hN, fun _ h => h.elim⟩, by omega, by omega, h5⟩
  · rename_i hc
    rwa [if_neg hc] at hh
end
/-- Are these a log? -/
def okL (s : Snap) (l : List Ent) : Bool := Quorum.sound s.cfg && chained l s.idx s.term
theorem newlog_any {s : Snap} (hs : SnapB s) (A : Option Addr) (n c : Nat) (l : List Ent) (w : World) (hr : RE w w.heap.size A n l) (hb : ∀ e ∈ l, EntB e) (h40 : n * 40 ≤ 140737488355328) :
    Calls Tryz.prog 10 #[RlgWalkD.snapV s, .slice A n c] w fun e w' => if okL s l = true then RlgWalkD.NewLog 89 w ⟨s, l⟩ e w' ∧ Fine ⟨s, l⟩ else RlgWalkD.NoLog w e w' := by
  unfold okL
  cases h1 : Quorum.sound s.cfg with
  | false => simpa using RlgWalkD.new_mad hs A n c w h1
  | true =>
    cases h2 : chained l s.idx s.term with
    | false => simpa using RlgWalkD.new_loose hs A n c l w hr hb (by omega) h1 h2
    | true =>
      refine (RlgWalkD.new_made hs A n c l w hr hb h40 h1 h2).mono fun e w' h => ?_
      rw [if_pos (by rfl)]
      exact ⟨h, fine_new h1 h2 hs hb⟩
end Go.Proofs.YtojmbbldehbjfaaGreat.Stp
set_option linter.unusedVariables false
namespace Go.Proofs.YtojmbbldehbjfaaGreat.Duo
open Go.RowKit Go.Proofs.YtojmbbldehbjfaaGreat.Kit Go.Proofs.YtojmbbldehbjfaaGreat.Blocks Go.Proofs.YtojmbbldehbjfaaGreat.Rlog Go.Proofs.YtojmbbldehbjfaaGreat.Ents Go.Proofs.YtojmbbldehbjfaaGreat.LogAt Go.Proofs.YtojmbbldehbjfaaGreat.Nod Go.Proofs.YtojmbbldehbjfaaGreat.NodAt Go.Proofs.YtojmbbldehbjfaaGreat.AppL Go.Proofs.YtojmbbldehbjfaaGreat.DAt Go.Proofs.YtojmbbldehbjfaaGreat.WalkI

section
variable {T TL : TypeId} {B : Nat} {w w' : World} {p r : Nat} {z z' y y' : Seat} {m m' : Nd} {cs : List Value} {g : G} {kept : List Ent} {out : List Msg}
/-- Another node has done what it does. -/
theorem beside (h : NodeAt T TL B w r { y with X := Mine p z } cs g kept out) (o : ∀ k, Mine p z k → ¬ Mine r y k) (only : Only (Mine p z) w w') (new : ∀ k, Mine p z' k → Mine p z k ∨ w.heap.size ≤ k) (lt : ∀ k, Mine p z' k → k < w'.heap.size) :
    NodeAt T TL B w' r { y with X := Mine p z' } cs g kept out ∧ ∀ k, Mine p z' k → ¬ Mine r y k := by
  have hk := NodeAt.keep h only (fun b hb hm => o b hm hb) (fun x hx hn ad e hm => (h.fit x hx).off hn ad e (.inr hm))
  refine ⟨⟨hk.low, hk.cell, hk.log, hk.kept, hk.outs, hk.said, fun x hx => ?_, lt, hk.d1, hk.d2, hk.d3, hk.d4, hk.d5, hk.d6⟩, fun k hk hm => ?_⟩
  · have h1 : Fit w (Far r { y with X := Mine p z' }) x.1 x.2 := (h.fit x hx).to fun k hk => by
      rcases hk with hk | hk
      · exact .inl (.inl hk)
      · exact (new k hk).imp .inr id
    exact h1.keep only fun hn ad e hm => (h.fit x hx).off hn ad e (.inr hm)
  · rcases new k hk with h1 | h1
    · exact o k h1 hm
    · have := (NodeAt.mine_lt h (show Mine r { y with X := Mine p z } k from hm)).2
      omega
end
section
variable {B : Nat} {w w' : World} {p r : Nat} {z z' y y' : Seat} {m m' : Nd}
theorem dbeside (h : DAt B w r { y with X := Mine p z } m) (o : ∀ k, Mine p z k → ¬ Mine r y k) (only : Only (Mine p z) w w') (new : ∀ k, Mine p z' k → Mine p z k ∨ w.heap.size ≤ k) (lt : ∀ k, Mine p z' k → k < w'.heap.size) :
    DAt B w' r { y with X := Mine p z' } m ∧ ∀ k, Mine p z' k → ¬ Mine r y k := by
  obtain ⟨vs, nx, mt, fr, h⟩ := h
  obtain ⟨h1, h2⟩ := beside h o only new lt
  exact ⟨⟨vs, nx, mt, fr, h1⟩, h2⟩
/-- Both, off the blocks K. m: the program's, n: the document's. -/
structure Duo (B : Nat) (w : World) (p r : Nat) (m n : Nd) (K : Nat → Prop) : Prop where
  ex : ∃ z y, PAt B w p { z with X := Mine r y } m ∧ DAt B w r { y with X := Mine p z } n ∧ (∀ k, Mine p z k → ¬ Mine r y k) ∧ ∀ k, K k → ¬ Mine p z k ∧ ¬ Mine r y k
  klt : ∀ k, K k → k < w.heap.size
/-- What a call leaves. -/
structure Gone (B : Nat) (w : World) (p r : Nat) (m n : Nd) (K : Nat → Prop) (w' : World) : Prop where
  duo : Duo B w' p r m n K
  since : Below B w w'
  only : Only (fun k => ¬ K k) w w'
variable {K K' : Nat → Prop}
theorem Duo.guard {n : Nd} (h : Duo B w p r m n K) (k : Below w.heap.size w w') (hK : ∀ k, K' k → K k ∨ w.heap.size ≤ k) (hlt : ∀ k, K' k → k < w'.heap.size) : Duo B w' p r m n K' := by
  obtain ⟨z, y, h1, h2, h3, h4⟩ := h.ex
  refine ⟨⟨z, y, h1.below k, h2.below k, h3, fun b hb => ?_⟩, hlt⟩
  rcases hK b hb with h5 | h5
  · exact h4 b h5
  · refine ⟨fun hm => ?_, fun hm => ?_⟩
    · have := (NodeAt.mine_lt h1 (show Mine p { z with X := Mine r y } b from hm)).2
      omega
    · have := (DWe.DAt.mine_lt h2 (show Mine r { y with X := Mine p z } b from hm)).2
      omega
theorem Duo.below {n : Nd} (h : Duo B w p r m n K) (k : Below w.heap.size w w') : Duo B w' p r m n K := h.guard k (fun _ h => .inl h) fun b hb => Nat.lt_of_lt_of_le (h.klt b hb) k.size
theorem Duo.base {n : Nd} (h : Duo B w p r m n K) : B ≤ w.heap.size := by
  obtain ⟨z, y, h1, h2, h3⟩ := h.ex
  exact NodeAt.base h1
/-- The program's node has done something. -/
theorem Duo.left {n : Nd} (h1 : PAt B w p { z with X := Mine r y } m) (h2 : DAt B w r { y with X := Mine p z } n) (o : ∀ k, Mine p z k → ¬ Mine r y k) (off : ∀ k, K k → ¬ Mine p z k ∧ ¬ Mine r y k) (klt : ∀ k, K k → k < w.heap.size) (l : LeftP B w p { z with X := Mine r y } m' w') :
    Gone B w p r m' n K w' := by
  obtain ⟨z', h', g⟩ := l
  obtain ⟨h3, h4⟩ := dbeside h2 o g.only g.new fun k hk => (NodeAt.mine_lt h' hk).2
  have e : z'.X = Mine r y := g.X
  have e2 : ({ z' with X := Mine r y } : Seat) = z' := by rw [← e]
  refine ⟨⟨⟨z', y, ?_, h3, h4, fun k hk => ⟨fun hm => ?_, (off k hk).2⟩⟩, fun k hk => Nat.lt_of_lt_of_le (klt k hk) g.size⟩, Begun.below_grow (NodeAt.base h1) (Below.refl _ _) h1 g, g.only.mono fun k _ hk hK => (off k hK).1 hk⟩
  · rw [e2]
    exact h'
  · rcases g.new k hm with h5 | h5
    · exact (off k hk).1 h5
    · have := klt k hk
      omega
/-- The document's node has done something. -/
theorem Duo.right (h1 : PAt B w p { z with X := Mine r y } m) (h2 : DAt B w r { y with X := Mine p z } m') (o : ∀ k, Mine p z k → ¬ Mine r y k) (off : ∀ k, K k → ¬ Mine p z k ∧ ¬ Mine r y k) (klt : ∀ k, K k → k < w.heap.size) {n' : Nd} (l : LeftD B w r { y with X := Mine p z } n' w') :
    Gone B w p r m n' K w' := by
  obtain ⟨y', h', g⟩ := l
  obtain ⟨vs, nx, mt, fr, h2⟩ := h2
  obtain ⟨h3, h4⟩ := beside h1 (fun k hk hm => o k hm hk) g.only g.new fun k hk => (DWe.DAt.mine_lt h' hk).2
  have e : y'.X = Mine p z := g.X
  have e2 : ({ y' with X := Mine p z } : Seat) = y' := by rw [← e]
  refine ⟨⟨⟨z, y', h3, ?_, fun k hk hm => h4 k hm hk, fun k hk => ⟨(off k hk).1, fun hm => ?_⟩⟩, fun k hk => Nat.lt_of_lt_of_le (klt k hk) g.size⟩, below_only (Below.refl _ _) g.only h2.base fun q hq => (NodeAt.mine_lt h2 hq).1, g.only.mono fun k _ hk hK => (off k hK).2 hk⟩
  · rw [e2]
    exact h'
  · rcases g.new k hm with h5 | h5
    · exact (off k hk).2 h5
    · have := klt k hk
      omega
theorem dfit_low {B0 N : Nat} {x : Msg} {a : Pl} (h : DAt B w r y m) (hr : RE w B0 a.A a.n x.es) (hB : B0 ≤ B) (h1 : a.n ≤ a.c) (h2 : a.c ≤ 9223372036854775807) (h3 : x.es.length * 40 ≤ 140737488355328) : Fit w (Mine r y) x a := by
  have hl := RE.len hr
  obtain ⟨vs, nx, mt, fr, h⟩ := h
  refine ⟨Kit.Reads.more hr (by have := h.base; omega), h1, h2, by omega, fun hn ad e hk => ?_⟩
  obtain ⟨ad', e', hb, _⟩ := hr.2 hn
  rw [e] at e'
  cases e'
  have := (NodeAt.mine_lt h hk).1
  omega
/-- What a call of the program's leaves. -/
def PDoes (B : Nat) (w : World) (p r : Nat) (m' n : Nd) (K : Nat → Prop) (v : Value) (e : Ending) (w' : World) : Prop := e = .returned v ∧ Gone B w p r m' n K w'
variable {N : Nat} {n : Nd}
theorem p_receive (h : Duo B w p r m n K) (f : NdB N m) (hN : N ≤ 700000000) {B0 : Nat} {c : OpensC.Cal} (hc : OpensC.CalB w B0 c) (hB : B0 ≤ B) : Calls Tryz.prog 20 #[.pointer (some ⟨p, 0, none⟩), ltV c.x c.a] w (PDoes B w p r (receive m c.x) n K (.tuple #[])) := by
  obtain ⟨z, y, h1, h2, o, off⟩ := h.ex
  have hs : c.x.es.length + c.data.size + c.x.d.size + OpensC.dataW c.x.es ≤ 1048576 := hc.small
  refine (WalkO.receive_any h1 f hN c.x c.a hc.msg (Stp.fit_low h1 hc.list hB hc.fits hc.max (by omega)) (by omega)).mono ?_
  rintro e w' ⟨rfl, hl⟩
  exact ⟨rfl, Duo.left h1 h2 o off h.klt hl⟩
theorem d_receive (h : Duo B w p r m n K) (f : NdB N n) (hN : N ≤ 700000000) {B0 : Nat} {c : OpensC.Cal} (hc : OpensC.CalB w B0 c) (hB : B0 ≤ B) : Calls Tryz.prog 35 #[.pointer (some ⟨r, 0, none⟩), ltV c.x c.a] w (PDoes B w p r m (receive n c.x) K (.tuple #[])) := by
  obtain ⟨z, y, h1, h2, o, off⟩ := h.ex
  have hs : c.x.es.length + c.data.size + c.x.d.size + OpensC.dataW c.x.es ≤ 1048576 := hc.small
  refine (DWr.dreceive_any h2 f hN c.x c.a hc.msg (dfit_low (N := N) h2 hc.list hB hc.fits hc.max (by omega)) (by omega)).mono ?_
  rintro e w' ⟨rfl, hl⟩
  exact ⟨rfl, Duo.right h1 h2 o off h.klt hl⟩
theorem p_timeout (h : Duo B w p r m n K) (f : NdB N m) (hN : N ≤ 700000000) : Calls Tryz.prog 21 #[.pointer (some ⟨p, 0, none⟩)] w (PDoes B w p r (timeout m) n K (.tuple #[])) := by
  obtain ⟨z, y, h1, h2, o, off⟩ := h.ex
  refine (WalkH.timeout_any h1 f hN).mono ?_
  rintro e w' ⟨rfl, hl⟩
  exact ⟨rfl, Duo.left h1 h2 o off h.klt hl⟩
theorem d_timeout (h : Duo B w p r m n K) (f : NdB N n) (hN : N ≤ 700000000) : Calls Tryz.prog 36 #[.pointer (some ⟨r, 0, none⟩)] w (PDoes B w p r m (timeout n) K (.tuple #[])) := by
  obtain ⟨z, y, h1, h2, o, off⟩ := h.ex
  refine (DWg.dtimeout_any h2 f hN).mono ?_
  rintro e w' ⟨rfl, hl⟩
  exact ⟨rfl, Duo.right h1 h2 o off h.klt hl⟩
theorem p_beat (h : Duo B w p r m n K) (f : NdB N m) (hN : N ≤ 700000000) : Calls Tryz.prog 26 #[.pointer (some ⟨p, 0, none⟩)] w (PDoes B w p r (beat m) n K (.tuple #[])) := by
  obtain ⟨z, y, h1, h2, o, off⟩ := h.ex
  refine (WalkC.beat_any h1 f (by omega)).mono ?_
  rintro e w' ⟨rfl, hl⟩
  exact ⟨rfl, Duo.left h1 h2 o off h.klt hl⟩
theorem d_beat (h : Duo B w p r m n K) (f : NdB N n) (hN : N ≤ 700000000) : Calls Tryz.prog 37 #[.pointer (some ⟨r, 0, none⟩)] w (PDoes B w p r m (beat n) K (.tuple #[])) := by
  obtain ⟨z, y, h1, h2, o, off⟩ := h.ex
  refine (DWc.dbeat_any h2 f (by omega)).mono ?_
  rintro e w' ⟨rfl, hl⟩
  exact ⟨rfl, Duo.right h1 h2 o off h.klt hl⟩
theorem p_propose (h : Duo B w p r m n K) (f : NdB N m) (hN : N ≤ 700000000) (d : ByteArray) (hd : d.size ≤ 9223372036854775807) : Calls Tryz.prog 22 #[.pointer (some ⟨p, 0, none⟩), .string d] w (PDoes B w p r (propose m d).2 n K (.tuple #[.int .u64 ((propose m d).1.1 : Int), .int .i64 (propose m d).1.2])) := by
  obtain ⟨z, y, h1, h2, o, off⟩ := h.ex
  refine (WalkH.propose_any h1 f (by omega) d hd).mono ?_
  rintro e w' ⟨rfl, hl⟩
  exact ⟨rfl, Duo.left h1 h2 o off h.klt hl⟩
theorem d_propose (h : Duo B w p r m n K) (f : NdB N n) (hN : N ≤ 700000000) (d : ByteArray) (hd : d.size ≤ 9223372036854775807) : Calls Tryz.prog 38 #[.pointer (some ⟨r, 0, none⟩), .string d] w (PDoes B w p r m (propose n d).2 K (.tuple #[.int .u64 ((propose n d).1.1 : Int), .int .i64 (propose n d).1.2])) := by
  obtain ⟨z, y, h1, h2, o, off⟩ := h.ex
  refine (DWf.dpropose_any h2 f (by omega) d hd).mono ?_
  rintro e w' ⟨rfl, hl⟩
  exact ⟨rfl, Duo.right h1 h2 o off h.klt hl⟩
theorem p_change (h : Duo B w p r m n K) (f : NdB N m) (hN : N ≤ 700000000) (ad : Bool) (i : Int) (hi0 : -9223372036854775808 ≤ i) (hi1 : i ≤ 9223372036854775807) : Calls Tryz.prog 23 #[.pointer (some ⟨p, 0, none⟩), .bool ad, .int .i64 i] w (PDoes B w p r (changes m ad i).2 n K (.tuple #[.int .u64 ((changes m ad i).1.1 : Int), .int .i64 (changes m ad i).1.2])) := by
  obtain ⟨z, y, h1, h2, o, off⟩ := h.ex
  refine (change_any h1 f (by omega) ad i hi0 hi1).mono ?_
  rintro e w' ⟨rfl, hl⟩
  exact ⟨rfl, Duo.left h1 h2 o off h.klt hl⟩
theorem d_change (h : Duo B w p r m n K) (f : NdB N n) (hN : N ≤ 700000000) (ad : Bool) (i : Int) (hi0 : -9223372036854775808 ≤ i) (hi1 : i ≤ 9223372036854775807) : Calls Tryz.prog 39 #[.pointer (some ⟨r, 0, none⟩), .bool ad, .int .i64 i] w (PDoes B w p r m (changes n ad i).2 K (.tuple #[.int .u64 ((changes n ad i).1.1 : Int), .int .i64 (changes n ad i).1.2])) := by
  obtain ⟨z, y, h1, h2, o, off⟩ := h.ex
  refine (DWh.dchange_any h2 f (by omega) ad i hi0 hi1).mono ?_
  rintro e w' ⟨rfl, hl⟩
  exact ⟨rfl, Duo.right h1 h2 o off h.klt hl⟩
theorem p_compact (h : Duo B w p r m n K) (f : NdB N m) (hN : N ≤ 700000000) {i : Nat} (hi : i < 18446744073709551616) (d : ByteArray) : Calls Tryz.prog 27 #[.pointer (some ⟨p, 0, none⟩), .int .u64 (i : Int), .string d] w (PDoes B w p r (compacts m i d).2 n K (.int .i64 (compacts m i d).1)) := by
  obtain ⟨z, y, h1, h2, o, off⟩ := h.ex
  refine (WalkH.compact_any h1 f (by omega) hi d).mono ?_
  rintro e w' ⟨rfl, hl⟩
  exact ⟨rfl, Duo.left h1 h2 o off h.klt hl⟩
theorem d_compact (h : Duo B w p r m n K) (f : NdB N n) (hN : N ≤ 700000000) {i : Nat} (hi : i < 18446744073709551616) (d : ByteArray) : Calls Tryz.prog 40 #[.pointer (some ⟨r, 0, none⟩), .int .u64 (i : Int), .string d] w (PDoes B w p r m (compacts n i d).2 K (.int .i64 (compacts n i d).1)) := by
  obtain ⟨z, y, h1, h2, o, off⟩ := h.ex
  refine (DWf.dcompact_any h2 f (by omega) hi d).mono ?_
  rintro e w' ⟨rfl, hl⟩
  exact ⟨rfl, Duo.right h1 h2 o off h.klt hl⟩
end
end Go.Proofs.YtojmbbldehbjfaaGreat.Duo
set_option linter.unusedVariables false
namespace Go.Proofs.YtojmbbldehbjfaaGreat.Same
open Go.RowKit Go.Proofs.YtojmbbldehbjfaaGreat.Kit Go.Proofs.YtojmbbldehbjfaaGreat.Blocks Go.Proofs.YtojmbbldehbjfaaGreat.Rlog Go.Proofs.YtojmbbldehbjfaaGreat.Ents Go.Proofs.YtojmbbldehbjfaaGreat.LogAt Go.Proofs.YtojmbbldehbjfaaGreat.Nod Go.Proofs.YtojmbbldehbjfaaGreat.NodAt

theorem neq_ent (a b c : Int) (d : ByteArray) (w : World) : (binOp .neq 81 (.agg #[.int .u64 a, .int .u64 b, .int .i64 c, .string d]) (.agg #[.int .u64 a, .int .u64 b, .int .i64 c, .string d])).run Tryz.prog w = .ok (.bool false) w := by
  simp [binOp, Op.equal, Op.maxDepth, go_sem]
set_option maxRecDepth 100000 in
/-- Slices of the same entries. -/
theorem ents_any {w : World} {A C : Option Addr} {n ca cc : Nat} {l : List Ent} (ha : RE w w.heap.size A n l) (hc : RE w w.heap.size C n l) (h63 : n ≤ 9223372036854775807) :
    Calls Tryz.prog 18 #[.slice A n ca, .slice C n cc] w fun e w' => e = .returned (.bool true) ∧ Below w.heap.size w w' := by
  go_enter Tryz.func18, Tryz.ntmps18
  go_wp2
  go_loopw [5] (fun x wr => ∃ k : Nat, k ≤ n ∧ x = .int .i64 (k : Int) ∧ Below w.heap.size w wr) (fun x _ => n - (intOf x).toNat)
  case atStart => exact ⟨0, by omega, rfl, Below.refl _ _⟩
  case round =>
    obtain ⟨k, hk, rfl, hbel⟩ := hrel
    by_cases hkn : k < n
    · obtain ⟨b, o, e, rfl, hbl, he, hfour⟩ := RE.at_ ha hkn
      obtain ⟨b', o', e', rfl, hbl', he', hfour'⟩ := RE.at_ hc hkn
      obtain rfl : e = e' := by rw [he] at he'; exact Option.some.inj he'
      have hfr := RlgWalkC.Four.below hfour hbel hbl
      have hfr' := RlgWalkC.Four.below hfour' hbel hbl'
      have c0 := hfr.c0
      have c1 := hfr.c1
      have c2 := hfr.c2
      have c3 := hfr.c3
      have d0 := hfr'.c0
      have d1 := hfr'.c1
      have d2 := hfr'.c2
      have d3 := hfr'.c3
      obtain ⟨tm, ix, kd, d⟩ := e
      simp only at c0 c1 c2 c3 d0 d1 d2 d3
      have hneq := neq_ent tm ix kd d
      clear hfr hfr' hfour hfour' he he' ha hc
      go_wp2_with fail
      go_quiet (fail)
      all_goals go_wp2
      all_goals
        go_roundw
        case rel => exact ⟨k + 1, by omega, by go_num, below_drewN hbel _⟩
        case measure => simp [intOf]; omega
    · obtain rfl : k = n := by omega
      go_wp2
      go_ret
      exact ⟨rfl, hbel⟩
set_option maxRecDepth 100000 in
set_option maxHeartbeats 8000000 in
/-- The same letter, its entries in two places. -/
theorem same_any {w : World} {E E' : Nat → Prop} {x : Msg} {a a' : Pl} (hx : Fit w E x a) (hy : Fit w E' x a') :
    Calls Tryz.prog 81 #[ltV x a, ltV x a'] w fun e w' => e = .returned (.bool true) ∧ Below w.heap.size w w' := by
  obtain ⟨k, f, t, tm, ix, pv, cm, ok, es, d⟩ := x
  obtain ⟨A, n, c⟩ := a
  obtain ⟨A', n', c'⟩ := a'
  have r1 := hx.re
  have r2 := hy.re
  have h63 := hx.few
  have hl1 := RE.len r1
  have hl2 := RE.len r2
  simp only at r1 r2 h63 hl1 hl2
  obtain rfl : n = n' := by omega
  have hbo : ∀ o1 o2, Below w.heap.size w ((w.alloc o1).alloc o2) := fun o1 o2 => ((Below.refl _ _).alloc (Nat.le_refl _) _).alloc (by simp) _
  have hsm : ∀ o1 o2, Calls Tryz.prog 18 #[.slice A n c, .slice A' n c'] ((w.alloc o1).alloc o2) fun e w' => e = .returned (.bool true) ∧ Below w.heap.size w w' := fun o1 o2 =>
    (ents_any ((Kit.Reads.below r1 (hbo o1 o2)).more (hbo o1 o2).size) ((Kit.Reads.below r2 (hbo o1 o2)).more (hbo o1 o2).size) (by omega)).mono fun e w' h => ⟨h.1, (hbo o1 o2).trans (h.2.mono (hbo o1 o2).size)⟩
  unfold ltV
  have HS := Lib.hid hsm
  clear hx hy r1 r2 hl1 hl2 hsm hbo
  simp only
  go_enter Tryz.func81, Tryz.ntmps81
  go_wp2_with fail
  with_reducible refine (HS.out _ _).mono ?_
  rintro e w1 ⟨rfl, hb⟩
  go_wp2
  go_ret
  exact ⟨rfl, hb⟩
end Go.Proofs.YtojmbbldehbjfaaGreat.Same
namespace Go.Proofs.YtojmbbldehbjfaaGreat.KeysU
open Go.Maps (Keyed int_keyed keyOf_int_mk)
open Go.Proofs.YtojmbbldehbjfaaGreat.Blocks

/-- How an element reads: as itself. -/
def asIs (v : Value) : Option (DataW Value × List MemPlace) := some (.held v, [])
/-- Block b is a map of at most n entries; at the number i it holds g i. -/
def MapAt (P : Program) (k : TypeId) (w : World) (b n : Nat) (g : Int → Option Value) : Prop :=
  ∃ D : DataW Value, w.ownsMap P k asIs b n D ∧ ∀ (i : Int) (z : DataW Value), D.atKey (.int .u64 i) z = (match g i with | some v => .held v | none => z)
/-- The same of a map's value: none, or a block. -/
def MapV (P : Program) (k : TypeId) (w : World) (mb : Option Nat) (n : Nat) (g : Int → Option Value) : Prop :=
  match mb with
  | none => ∀ i, g i = none
  | some b => MapAt P k w b n g

theorem wf_int {i : Int} (h0 : 0 ≤ i) (h1 : i ≤ 18446744073709551615) : (Lit.int .u64 i).wf = true := by
  simp [Lit.wf, IntKind.min, IntKind.max, IntKind.signed, IntKind.bits]; omega
theorem key_lit (q : IntKind) (i : Int) : WideAt.IsKeyLit (.int q i) := trivial

section
variable {P : Program} {k e t : TypeId} {w w' : World} {b n : Nat} {g : Int → Option Value}
theorem MapAt.lt (h : MapAt P k w b n g) : b < w.heap.size := by obtain ⟨D, ho, _⟩ := h; exact ho.lt
theorem MapAt.keep (h : MapAt P k w b n g) (hb : w'.heap[b]? = w.heap[b]?) : MapAt P k w' b n g := by
  obtain ⟨D, ⟨es, clock, h1, h2⟩, ha⟩ := h
  exact ⟨D, ⟨es, clock, hb.trans h1, h2⟩, ha⟩
theorem MapAt.drewn (h : MapAt P k w b n g) : MapAt P k w.drew b n g := h.keep rfl
theorem MapAt.more (h : MapAt P k w b n g) {n' : Nat} (hn : n ≤ n') : MapAt P k w b n' g := by
  obtain ⟨D, ho, ha⟩ := h
  exact ⟨D, ho.mono hn, ha⟩
theorem MapAt.same (h : MapAt P k w b n g) {g' : Int → Option Value} (hg : ∀ i, g' i = g i) : MapAt P k w b n g' := by
  rw [show g' = g from funext hg]; exact h
/-- A new map. -/
theorem mapAt_made (w : World) (P : Program) (k : TypeId) : MapAt P k (w.alloc (.map #[] 0)) w.heap.size 0 (fun _ => none) :=
  ⟨.map [], World.ownsMap_made w P k asIs, fun _ _ => rfl⟩
/-- m[i], with or without ok. -/
theorem MapAt.look (h : MapAt P k w b n g) (hk : P.underlying k = some (.int .u64)) (ht : P.underlying t = some (.map k e)) {z : Value} (hz : (zeroValue e).run P w = .ok z w) {i : Int} (h0 : 0 ≤ i) (h1 : i ≤ 18446744073709551615) (c : Bool) :
    (Instr.lookup t (.map (some b)) (.int .u64 i) c).run P w = .ok (if c then .tuple #[(g i).getD z, .bool (g i).isSome] else (g i).getD z) w := by
  obtain ⟨D, ⟨es, clock, hb, F, _, rfl⟩, ha⟩ := h
  rcases Maps.fit_look c (int_keyed hk) ht hz hb F (keyOf_int_mk hk (wf_int h0 h1)) with ⟨hrun, _, hat⟩ | ⟨e0, y, _, _, hrun, hR, hat, _⟩
  · have hg : g i = none := by
      cases hg : g i with
      | none => rfl
      | some v =>
        have e1 := ha i .nil
        rw [hat .nil, hg] at e1
        cases e1
    rw [hrun, hg]
    rfl
  · have hg : g i = some e0.val := by
      have e1 := ha i (.lit (.bool true))
      have e2 := ha i .nil
      rw [hat] at e1 e2
      simp only [asIs, Option.some.injEq] at hR
      subst hR
      cases hg : g i with
      | none => rw [hg] at e2; cases e2
      | some v =>
        rw [hg] at e2
        simp only [DataW.held.injEq] at e2
        rw [← e2]
    rw [hrun, hg]
    rfl
/-- m[i] = v. -/
theorem MapAt.store (h : MapAt P k w b n g) (hk : P.underlying k = some (.int .u64)) (ht : P.underlying t = some (.map k e)) (hn : n < maxLen) {i : Int} (h0 : 0 ≤ i) (h1 : i ≤ 18446744073709551615) (v : Value) :
    ∃ w', (Instr.mapUpdate t (.map (some b)) (.int .u64 i) v).run P w = .ok () w' ∧ MapAt P k w' b (n + 1) (fun j => if j = i then some v else g j) ∧ Only (fun q => q = b) w w' := by
  obtain ⟨D, ho, ha⟩ := h
  have hm := ho.isMap
  obtain ⟨w', hrun, ho', ht'⟩ := ho.store (int_keyed hk) ht hn (keyOf_int_mk hk (wf_int h0 h1)) (show asIs v = some (.held v, []) from rfl)
  refine ⟨w', hrun, ⟨_, ho', fun j z => ?_⟩, ?_⟩
  · by_cases hj : j = i
    · subst hj
      rw [Maps.atKey_put_same hm (key_lit _ _)]; simp
    · rw [Maps.atKey_put_other (by simpa using hj), ha]; simp [hj]
  · have hg := ht'.grown
    exact (Only.refl _ w).grown hg (fun q hq => by cases hq; exact .inr rfl)
/-- delete(m, i). -/
theorem MapAt.drop (h : MapAt P k w b n g) (hk : P.underlying k = some (.int .u64)) (ht : P.underlying t = some (.map k e)) {i : Int} (h0 : 0 ≤ i) (h1 : i ≤ 18446744073709551615) (ty : TypeId) :
    ∃ w', (Builtin.delete_ #[t, k] ty #[.map (some b), .int .u64 i]).run P w = .ok (.tuple #[]) w' ∧ MapAt P k w' b n (fun j => if j = i then none else g j) ∧ Only (fun q => q = b) w w' := by
  obtain ⟨D, ho, ha⟩ := h
  obtain ⟨w', hrun, ho', ht'⟩ := ho.drop (int_keyed hk) ht (keyOf_int_mk hk (wf_int h0 h1)) ty
  refine ⟨w', hrun, ⟨_, ho', fun j z => ?_⟩, ?_⟩
  · by_cases hj : j = i
    · subst hj
      rw [Maps.atKey_del_same]; simp
    · rw [Maps.atKey_del_other (by simpa using hj), ha]; simp [hj]
  · have hg := ht'.grown
    exact (Only.refl _ w).grown hg (fun q hq => by cases hq; exact .inr rfl)

variable {mb : Option Nat}
theorem MapV.keep (h : MapV P k w mb n g) (hb : ∀ b, mb = some b → w'.heap[b]? = w.heap[b]?) : MapV P k w' mb n g := by
  cases mb with
  | none => exact h
  | some b => exact MapAt.keep h (hb b rfl)
theorem MapV.lt (h : MapV P k w (some b) n g) : b < w.heap.size := MapAt.lt h
theorem MapV.more (h : MapV P k w mb n g) {n' : Nat} (hn : n ≤ n') : MapV P k w mb n' g := by
  cases mb with
  | none => exact h
  | some b => exact MapAt.more h hn
theorem MapV.same (h : MapV P k w mb n g) {g' : Int → Option Value} (hg : ∀ i, g' i = g i) : MapV P k w mb n g' := by
  rw [show g' = g from funext hg]; exact h
theorem MapV.look (h : MapV P k w mb n g) (hk : P.underlying k = some (.int .u64)) (ht : P.underlying t = some (.map k e)) {z : Value} (hz : (zeroValue e).run P w = .ok z w) {i : Int} (h0 : 0 ≤ i) (h1 : i ≤ 18446744073709551615) (c : Bool) :
    (Instr.lookup t (.map mb) (.int .u64 i) c).run P w = .ok (if c then .tuple #[(g i).getD z, .bool (g i).isSome] else (g i).getD z) w := by
  cases mb with
  | none =>
    have hg : g i = none := h i
    rw [Maps.look_nil c (int_keyed hk) ht hz (keyOf_int_mk hk (wf_int h0 h1)), hg]
    rfl
  | some b => exact MapAt.look h hk ht hz h0 h1 c
theorem MapV.drop (h : MapV P k w mb n g) (hk : P.underlying k = some (.int .u64)) (ht : P.underlying t = some (.map k e)) {i : Int} (h0 : 0 ≤ i) (h1 : i ≤ 18446744073709551615) (ty : TypeId) :
    ∃ w', (Builtin.delete_ #[t, k] ty #[.map mb, .int .u64 i]).run P w = .ok (.tuple #[]) w' ∧ MapV P k w' mb n (fun j => if j = i then none else g j) ∧ Only (fun q => mb = some q) w w' := by
  cases mb with
  | none => exact ⟨w, Maps.drop_nil (int_keyed hk) ht (keyOf_int_mk hk (wf_int h0 h1)) ty, fun j => by simp only []; split <;> first | rfl | exact h j, Only.refl _ w⟩
  | some b =>
    obtain ⟨w', hrun, h', ho⟩ := MapAt.drop h hk ht h0 h1 ty
    exact ⟨w', hrun, h', ho.mono fun q _ hq => by rw [hq]⟩
end

/-! ### at the operation, for the walk -/
section
variable {P : Program} (w : World) {ops : Array Oper} {rest : List Oper} {o : Oper} {a : Act} {Q : Exit → Act → World → Prop}
theorem wpList_look (hg : o.guard = none) (m x : Operand) (t : TypeId) (c : Bool) (hop : o.op = Op.lookup t m x c)
    (k e : TypeId) (hk : P.underlying k = some (.int .u64)) (ht : P.underlying t = some (.map k e)) (z : Value) (hz : (zeroValue e).run P w = .ok z w) (mb : Option Nat) (n : Nat) (g : Int → Option Value) (i : Int)
    (hm : a.eval m = .map mb) (hx : a.eval x = .int .u64 i) (h : MapV P k w mb n g) (h0 : 0 ≤ i) (h1 : i ≤ 18446744073709551615)
    (hK : wpList P ops Q rest (a.put o.dst (if c then .tuple #[(g i).getD z, .bool (g i).isSome] else (g i).getD z)) w) :
    wpList P ops Q (o :: rest) a w := by
  refine wpList_plain hg fun K' hK' => ?_
  have hrun := MapV.look h hk ht hz h0 h1 c
  unfold Oper.wp
  simp [execOp, hop, hm, hx, hrun, Result.andThen]
  exact hK' _ _ hK
theorem wpList_store (hg : o.guard = none) (m x u : Operand) (t : TypeId) (hop : o.op = Op.mapUpdate t m x u)
    (k e : TypeId) (hk : P.underlying k = some (.int .u64)) (ht : P.underlying t = some (.map k e)) (b n : Nat) (g : Int → Option Value) (i : Int) (v : Value)
    (hm : a.eval m = .map (some b)) (hx : a.eval x = .int .u64 i) (hv : a.eval u = v) (h : MapAt P k w b n g) (hn : n < maxLen) (h0 : 0 ≤ i) (h1 : i ≤ 18446744073709551615)
    (hK : ∀ w', MapAt P k w' b (n + 1) (fun j => if j = i then some v else g j) → Only (fun q => q = b) w w' → wpList P ops Q rest (a.put o.dst undef) w') :
    wpList P ops Q (o :: rest) a w := by
  refine wpList_plain hg fun K' hK' => ?_
  obtain ⟨w', hrun, r1, r2⟩ := h.store hk ht hn h0 h1 v
  unfold Oper.wp
  simp [execOp, hop, hm, hx, hv, hrun, Result.andThen]
  exact hK' _ _ (hK w' r1 r2)
theorem wpList_drop (hg : o.guard = none) (m x : Operand) (t k : TypeId) (hop : o.op = Op.call { callee := Callee.builtin Builtin.delete, args := #[m, x], argTypes := #[t, k] })
    (e : TypeId) (hk : P.underlying k = some (.int .u64)) (ht : P.underlying t = some (.map k e)) (mb : Option Nat) (n : Nat) (g : Int → Option Value) (i : Int)
    (hm : a.eval m = .map mb) (hx : a.eval x = .int .u64 i) (h : MapV P k w mb n g) (h0 : 0 ≤ i) (h1 : i ≤ 18446744073709551615)
    (hK : ∀ w', MapV P k w' mb n (fun j => if j = i then none else g j) → Only (fun q => mb = some q) w w' → wpList P ops Q rest (a.put o.dst (.tuple #[])) w') :
    wpList P ops Q (o :: rest) a w := by
  refine wpList_plain hg fun K' hK' => ?_
  obtain ⟨w', hrun, r1, r2⟩ := h.drop hk ht h0 h1 o.type
  unfold Oper.wp
  simp [execOp, hop, resolve, invoke, builtin, hm, hx, hrun, Result.andThen]
  exact hK' _ _ (hK w' r1 r2)
end
end Go.Proofs.YtojmbbldehbjfaaGreat.KeysU
set_option linter.unusedVariables false
namespace Go.Proofs.YtojmbbldehbjfaaGreat.Stv
open Go.RowKit Go.Proofs.YtojmbbldehbjfaaGreat.Kit Go.Proofs.YtojmbbldehbjfaaGreat.Blocks Go.Proofs.YtojmbbldehbjfaaGreat.Rlog Go.Proofs.YtojmbbldehbjfaaGreat.Ents Go.Proofs.YtojmbbldehbjfaaGreat.LogAt Go.Proofs.YtojmbbldehbjfaaGreat.Nod Go.Proofs.YtojmbbldehbjfaaGreat.NodAt Go.Proofs.YtojmbbldehbjfaaGreat.WalkB Go.Proofs.YtojmbbldehbjfaaGreat.WalkI Go.Proofs.YtojmbbldehbjfaaGreat.WalkJ Go.Proofs.YtojmbbldehbjfaaGreat.Begun Go.Proofs.YtojmbbldehbjfaaGreat.Fwd Go.Proofs.YtojmbbldehbjfaaGreat.OpensC Go.Proofs.YtojmbbldehbjfaaGreat.Stp

section
variable {B p N : Nat} {m m' : Nd} {w w' : World} {K K' : Nat → Prop}
/-- What Take answers. -/
structure Took (B : Nat) (w : World) (p N : Nat) (m : Nd) (K : Nat → Prop) (vk : Value) (A : Option Addr) (n c : Nat) (Z : List (Msg × Pl)) (w' : World) : Prop where
  kept : ∃ Ak ck, vk = .slice Ak m.kept.length ck
  at_ : At B w' p N (taken m) K
  said : Z.map Prod.fst = m.out
  reads : RL w' w'.heap.size A n Z
  fits : n ≤ c
  max : c ≤ maxLen
  since : Below B w w'
  only : Only (fun k => ¬ K k) w w'
  form : 0 < n → ∃ g, A = some ⟨g, 0, none⟩ ∧ ¬ K g
theorem at_take (h : At B w p N m K) (hp : ¬ K p) : Calls Tryz.prog 24 #[.pointer (some ⟨p, 0, none⟩)] w fun e w' =>
    ∃ vk A n c Z, e = .returned (.agg #[.int .u64 (m.term : Int), .int .i64 m.vote, vk, .bool m.inst, .slice A n c, .bool m.reset, .int .u64 (m.commit : Int)]) ∧ Took B w p N m K vk A n c Z w' := by
  obtain ⟨z, hz, ho⟩ := h.ex
  obtain ⟨A, c, hvo, h1, h2, hr⟩ := own_form hz.outs
  obtain ⟨Ak, ck, hvk⟩ := kept_form hz
  refine (take_any hz).mono ?_
  rintro e w' ⟨rfl, hp', hon⟩
  refine ⟨z.vk, A, z.Z.length, c, z.Z, ?_, ⟨Ak, ck, hvk⟩, ⟨⟨_, hp', fun k hk hm => ?_⟩, taken_b h.b, fun k hk => Nat.lt_of_lt_of_le (h.klt k hk) hon.size⟩, hz.said, ?_, h1, h2, below_take h.base (Below.refl _ _) hz hon, hon.mono fun k _ hk hK => hp (hk ▸ hK), fun hn => ?_⟩
  · unfold ReadyV
    rw [hvo]
  · exact ho k hk (bare_mine hm)
  · obtain ⟨A', c', hvo', _, _, hr'⟩ := own_form (hon.own hz.outs fun b hb e => hz.d3 (e ▸ hb))
    rw [hvo] at hvo'
    cases hvo'
    exact hr'
  · rcases hz.outs.2 with ⟨_, h0⟩ | ⟨g, cap, cur, hv, _, _, _, _, _⟩
    · omega
    · rw [hvo] at hv
      cases hv
      exact ⟨g, rfl, fun hk => ho g hk (.inr (.inr (.inr (by rw [hvo]; rfl))))⟩
theorem at_pfree (h : At B w p N m K) : ¬ K p := by
  obtain ⟨z, hz, ho⟩ := h.ex
  exact fun hk => ho p hk (.inl rfl)
end
theorem lcs_at : ∀ (Z : List (Msg × Pl)) (k j : Nat) (y : Msg × Pl), Z[k]? = some y → j < 10 → (lcs Z)[k * 10 + j]? = (ltCs y.1 y.2)[j]? := by
  intro Z
  induction Z with
  | nil => intro k j y h _; simp at h
  | cons z Z ih =>
    intro k j y h hj
    rw [lcs_cons]
    cases k with
    | zero =>
      simp at h
      subst h
      rw [List.getElem?_append_left (by show 0 * 10 + j < 10; omega), Nat.zero_mul, Nat.zero_add]
    | succ k =>
      rw [List.getElem?_append_right (by show 10 ≤ _; omega)]
      show (lcs Z)[(k + 1) * 10 + j - 10]? = _
      rw [show (k + 1) * 10 + j - 10 = k * 10 + j by omega]
      exact ih k j y (by simpa using h) hj
/-- The cells of one of the letters. -/
theorem lt_cells {W : World} {g n : Nat} {Z : List (Msg × Pl)} (h : RL W W.heap.size (some ⟨g, 0, none⟩) n Z) {k : Nat} {y : Msg × Pl} (hn : 0 < n) (hk : Z[k]? = some y) : ∀ j u, (ltCs y.1 y.2)[j]? = some u → W.cell? ⟨g, k * 10 + j, none⟩ = some u := fun j u hj => by
  obtain ⟨ad, e, _, hc⟩ := h.2 hn
  cases e
  have hj10 : j < 10 := (List.getElem?_eq_some_iff.1 hj).1
  have := hc (k * 10 + j) u (by rw [lcs_at Z k j y hk hj10]; exact hj)
  rwa [Addr.add_lit, Nat.zero_add] at this
theorem zero_int (w : World) : (zeroValue 3).run Tryz.prog w = .ok (.int .i64 0) w := by kernel_rfl
/-- What was voted for, behind a node that is now so. -/
structure Voted (m : Nd) (g : Int → Option Value) : Prop where
  now : ∀ v, g (m.term : Int) = some v → v = .int .i64 m.vote ∧ 0 ≤ m.vote
  all : ∀ t v, g t = some v → t ≤ (m.term : Int)
  has : 0 ≤ m.vote → g (m.term : Int) = some (.int .i64 m.vote)
theorem Voted.begun {m : Nd} (h : 0 ≤ m.vote) : Voted m (fun j => if j = (m.term : Int) then some (.int .i64 m.vote) else none) := by
  refine ⟨fun v hv => ?_, fun t v hv => ?_, fun _ => if_pos rfl⟩
  · rw [if_pos rfl] at hv
    cases hv
    exact ⟨rfl, h⟩
  · by_cases e : t = (m.term : Int)
    · omega
    · simp only [if_neg e] at hv
      cases hv
theorem Voted.none {m : Nd} (h : ¬ 0 ≤ m.vote) : Voted m (fun _ => none) := ⟨fun v hv => (by cases hv), fun t v hv => (by cases hv), fun h' => absurd h' h⟩
/-- What the look-up gives ahead of the store. -/
theorem Voted.old {m m' : Nd} {g : Int → Option Value} (h : Voted m g) (f : Fwd m m') {v : Value} (hv : g (m'.term : Int) = some v) : v = .int .i64 m'.vote ∧ 0 ≤ m'.vote := by
  have h1 := h.all _ _ hv
  have h2 := f.term
  have e : m'.term = m.term := by omega
  rw [e] at hv
  obtain ⟨rfl, h3⟩ := h.now _ hv
  rw [f.vote e h3]
  exact ⟨rfl, h3⟩
theorem Voted.new {m m' : Nd} {g : Int → Option Value} (h : Voted m g) (f : Fwd m m') (hv : 0 ≤ m'.vote) : Voted (taken m') (fun j => if j = (m'.term : Int) then some (.int .i64 m'.vote) else g j) := by
  have h2 := f.term
  refine ⟨fun v hx => ?_, fun t v hx => ?_, fun _ => if_pos rfl⟩
  · have hx' : (if ((m'.term : Nat) : Int) = (m'.term : Int) then some (Value.int .i64 m'.vote) else g m'.term) = some v := hx
    rw [if_pos rfl] at hx'
    cases hx'
    exact ⟨rfl, hv⟩
  · by_cases e : t = (m'.term : Int)
    · show t ≤ (m'.term : Int)
      omega
    · simp only [if_neg e] at hx
      have := h.all _ _ hx
      show t ≤ (m'.term : Int)
      omega
theorem Voted.same {m m' : Nd} {g : Int → Option Value} (h : Voted m g) (f : Fwd m m') (hv : ¬ 0 ≤ m'.vote) : Voted (taken m') g := by
  have h2 := f.term
  refine ⟨fun v hx => h.old f hx, fun t v hx => ?_, fun h' => absurd h' hv⟩
  have := h.all _ _ hx
  show t ≤ (m'.term : Int)
  omega
end Go.Proofs.YtojmbbldehbjfaaGreat.Stv
set_option linter.unusedVariables false
namespace Go.Proofs.YtojmbbldehbjfaaGreat.RAll
open Go.RowKit Go.Proofs.YtojmbbldehbjfaaGreat.Kit Go.Proofs.YtojmbbldehbjfaaGreat.Blocks Go.Proofs.YtojmbbldehbjfaaGreat.Rlog Go.Proofs.YtojmbbldehbjfaaGreat.Ents Go.Proofs.YtojmbbldehbjfaaGreat.LogAt Go.Proofs.YtojmbbldehbjfaaGreat.Nod Go.Proofs.YtojmbbldehbjfaaGreat.NodAt Go.Proofs.YtojmbbldehbjfaaGreat.Same
open Go.Proofs.YtojmbbldehbjfaaGreat.Stv (lcs_at)

theorem rl_len {w : World} {B n : Nat} {A : Option Addr} {Z : List (Msg × Pl)} (h : RL w B A n Z) : Z.length = n := by have := h.1; rw [lcs_length] at this; omega
theorem rl_at {w : World} {B n : Nat} {A : Option Addr} {Z : List (Msg × Pl)} (h : RL w B A n Z) {k : Nat} (hk : k < n) :
    ∃ b o y, A = some ⟨b, o, none⟩ ∧ b < B ∧ Z[k]? = some y ∧ ∀ j u, (ltCs y.1 y.2)[j]? = some u → w.cell? ⟨b, o + k * 10 + j, none⟩ = some u := by
  obtain ⟨ad, rfl, hb, hc⟩ := h.2 (by omega)
  have hl := rl_len h
  have hsp : ad = ⟨ad.block, ad.off, none⟩ := by
    have h0 := hc 0 _ (by have := lcs_at Z 0 0 Z[0] (List.getElem?_eq_getElem (by omega)) (by omega); rw [Nat.zero_mul, Nat.zero_add] at this; rw [this]; rfl)
    rw [add_zero] at h0
    have hs := World.cell?_spot h0
    obtain ⟨b, o, s⟩ := ad
    have : s = none := hs
    subst this
    rfl
  have he : Z[k]? = some Z[k] := List.getElem?_eq_getElem (by omega)
  refine ⟨ad.block, ad.off, Z[k], by rw [← hsp], hb, he, fun j u hu => ?_⟩
  have hj10 : j < 10 := (List.getElem?_eq_some_iff.1 hu).1
  have := hc (k * 10 + j) u (by rw [lcs_at Z k j _ he hj10]; exact hu)
  rw [hsp, Addr.add_lit] at this
  rw [Nat.add_assoc]
  exact this
set_option maxRecDepth 100000 in
set_option maxHeartbeats 8000000 in
theorem rall_any {w : World} {A C : Option Addr} {n ca cc : Nat} {M L : List (Msg × Pl)} {E E' : Nat → Prop} (ha : RL w w.heap.size A n M) (hc : RL w w.heap.size C n L) (h63 : n ≤ 9223372036854775807)
    (fa : ∀ x ∈ M, Fit w E x.1 x.2) (fc : ∀ x ∈ L, Fit w E' x.1 x.2) (hs : M.map Prod.fst = L.map Prod.fst) :
    Calls Tryz.prog 41 #[.slice A n ca, .slice C n cc] w fun e w' => e = .returned (.bool true) ∧ Below w.heap.size w w' := by
  have HA := Lib.hid ha
  have HC := Lib.hid hc
  have HFA := Lib.hid fa
  have HFC := Lib.hid fc
  have HS := Lib.hid hs
  clear ha hc fa fc hs
  go_enter Tryz.func41, Tryz.ntmps41
  go_wp2
  go_loopw [5] (fun x wr => ∃ k : Nat, k ≤ n ∧ x = .int .i64 (k : Int) ∧ Below w.heap.size w wr) (fun x _ => n - (intOf x).toNat)
  case atStart => exact ⟨0, by omega, rfl, Below.refl _ _⟩
  case round =>
    obtain ⟨k, hk, rfl, hbel⟩ := hrel
    by_cases hkn : k < n
    · obtain ⟨b, o, x, rfl, hbl, hx, hten⟩ := rl_at (Kit.Reads.below HA.out hbel) hkn
      obtain ⟨b', o', y, rfl, hbl', hy, hten'⟩ := rl_at (Kit.Reads.below HC.out hbel) hkn
      have hxy : x.1 = y.1 := by
        have h1 : (M.map Prod.fst)[k]? = some x.1 := by rw [List.getElem?_map, hx]; rfl
        have h2 : (L.map Prod.fst)[k]? = some y.1 := by rw [List.getElem?_map, hy]; rfl
        rw [HS.out, h2] at h1
        exact (Option.some.inj h1).symm
      obtain ⟨x, a⟩ := x
      obtain ⟨y, a'⟩ := y
      simp only at hxy
      subst hxy
      have hsm : ∀ W, Below wr.heap.size wr W → Calls Tryz.prog 81 #[ltV x a, ltV x a'] W fun e w' => e = .returned (.bool true) ∧ Below W.heap.size W w' := fun W hb =>
        same_any (((HFA.out _ (List.mem_of_getElem? hx)).below hbel).below hb) (((HFC.out _ (List.mem_of_getElem? hy)).below hbel).below hb)
      obtain ⟨kk, f, t, tm, ix, pv, cm, ok, es, d⟩ := x
      obtain ⟨A1, n1, c1⟩ := a
      obtain ⟨A2, n2, c2⟩ := a'
      have d0 := hten 0 _ rfl
      have d1 := hten 1 _ rfl
      have d2 := hten 2 _ rfl
      have d3 := hten 3 _ rfl
      have d4 := hten 4 _ rfl
      have d5 := hten 5 _ rfl
      have d6 := hten 6 _ rfl
      have d7 := hten 7 _ rfl
      have d8 := hten 8 _ rfl
      have d9 := hten 9 _ rfl
      have e0 := hten' 0 _ rfl
      have e1 := hten' 1 _ rfl
      have e2 := hten' 2 _ rfl
      have e3 := hten' 3 _ rfl
      have e4 := hten' 4 _ rfl
      have e5 := hten' 5 _ rfl
      have e6 := hten' 6 _ rfl
      have e7 := hten' 7 _ rfl
      have e8 := hten' 8 _ rfl
      have e9 := hten' 9 _ rfl
      unfold ltV at hsm
      simp only [Nat.add_zero] at d0 d1 d2 d3 d4 d5 d6 d7 d8 d9 e0 e1 e2 e3 e4 e5 e6 e7 e8 e9 hsm
      have HSM := Lib.hid hsm
      have HBD : Hid (Below wr.heap.size wr wr.drew) := (Below.refl _ _).drew
      clear hx hy hsm hten hten'
      have hkI : (k : Int) < (n : Int) := by omega
      have hk0 : (0 : Int) ≤ (k : Int) := by omega
      go_wp2_with fail
      go_region_law (first
        | (go_simp
           go_at_call 81
           (with_reducible refine (HSM.out _ HBD.out).mono ?_)
           rintro e w1 ⟨rfl, hb1⟩
           have HB1 := Lib.hid (hbel.trans (HBD.out.trans hb1 |>.mono hbel.size))
           clear hb1))
      all_goals go_wp2
      all_goals
        go_roundw
        case rel => exact ⟨k + 1, by omega, by first | rfl | go_num, HB1.out⟩
        case measure => simp [intOf]; omega
    · obtain rfl : k = n := by omega
      go_wp2
      go_ret
      exact ⟨rfl, hbel⟩
end Go.Proofs.YtojmbbldehbjfaaGreat.RAll
set_option linter.unusedVariables false
namespace Go.Proofs.YtojmbbldehbjfaaGreat.Tks
open Go.RowKit Go.Proofs.YtojmbbldehbjfaaGreat.Kit Go.Proofs.YtojmbbldehbjfaaGreat.Blocks Go.Proofs.YtojmbbldehbjfaaGreat.Rlog Go.Proofs.YtojmbbldehbjfaaGreat.Ents Go.Proofs.YtojmbbldehbjfaaGreat.LogAt Go.Proofs.YtojmbbldehbjfaaGreat.Nod Go.Proofs.YtojmbbldehbjfaaGreat.NodAt Go.Proofs.YtojmbbldehbjfaaGreat.AppL Go.Proofs.YtojmbbldehbjfaaGreat.DAt Go.Proofs.YtojmbbldehbjfaaGreat.WalkI Go.Proofs.YtojmbbldehbjfaaGreat.Duo

/-- Rows of entries and of letters, as a node holds them. -/
structure Rows2 (w : World) (l : List Ent) (o : List Msg) (Ak A : Option Addr) (Z : List (Msg × Pl)) : Prop where
  ents : RE w w.heap.size Ak l.length l
  lets : RL w w.heap.size A o.length Z
  said : Z.map Prod.fst = o
  fit : ∃ S, ∀ x ∈ Z, Fit w S x.1 x.2
section
variable {B N : Nat} {w w' : World} {p r : Nat} {m n : Nd} {K : Nat → Prop} {l : List Ent} {o : List Msg} {Ak A : Option Addr} {Z : List (Msg × Pl)}
theorem Rows2.below (h : Rows2 w l o Ak A Z) (k : Below w.heap.size w w') : Rows2 w' l o Ak A Z := by
  obtain ⟨S, hS⟩ := h.fit
  exact ⟨(Kit.Reads.below h.ents k).more k.size, (Kit.Reads.below h.lets k).more k.size, h.said, S, fun x hx => (hS x hx).below k⟩
theorem p_take (h : Duo B w p r m n K) : Calls Tryz.prog 24 #[.pointer (some ⟨p, 0, none⟩)] w fun e w' =>
    ∃ Ak ck A c Z, e = .returned (.agg #[.int .u64 (m.term : Int), .int .i64 m.vote, .slice Ak m.kept.length ck, .bool m.inst, .slice A m.out.length c, .bool m.reset, .int .u64 (m.commit : Int)]) ∧ Rows2 w' m.kept m.out Ak A Z ∧ Gone B w p r (taken m) n K w' := by
  obtain ⟨z, y, h1, h2, o, off⟩ := h.ex
  have hlen : z.Z.length = m.out.length := by rw [← h1.said, List.length_map]
  refine (take_any h1).mono ?_
  rintro e w' ⟨rfl, hp', hon⟩
  obtain ⟨Ak, ck, hvk, _, _, hrk⟩ := own_form (hon.own h1.kept fun b hb e => h1.d2 (e ▸ hb))
  obtain ⟨A, c, hvo, _, _, hro⟩ := own_form (hon.own h1.outs fun b hb e => h1.d3 (e ▸ hb))
  simp only at hvk hvo
  refine ⟨Ak, ck, A, c, z.Z, ?_, ⟨hrk, ?_, h1.said, _, fun x hx => (h1.fit x hx).keep hon fun hn ad e hm => (h1.fit x hx).off hn ad e (.inl (.inl hm))⟩, Duo.left h1 h2 o off h.klt ⟨_, hp', rfl, hon.mono fun q _ hq => .inl hq, fun k hk => .inl (bare_mine hk), rfl⟩⟩
  · unfold ReadyV
    rw [hvk, hvo, ← hlen]
  · rw [← hlen]
    exact hro
theorem d_reads (h : Duo B w p r m n K) : ∃ Ak ck A c Z, w.cell? ⟨r, 1, none⟩ = some (.int .u64 (n.term : Int)) ∧ w.cell? ⟨r, 2, none⟩ = some (.int .i64 n.vote) ∧ w.cell? ⟨r, 6, none⟩ = some (.int .u64 (n.commit : Int)) ∧
    w.cell? ⟨r, 22, none⟩ = some (.slice Ak n.kept.length ck) ∧ w.cell? ⟨r, 23, none⟩ = some (.bool n.inst) ∧ w.cell? ⟨r, 24, none⟩ = some (.slice A n.out.length c) ∧ w.cell? ⟨r, 25, none⟩ = some (.bool n.reset) ∧ r < w.heap.size ∧ Rows2 w n.kept n.out Ak A Z := by
  obtain ⟨z, y, h1, ⟨vs, nx, mt, fr, h2⟩, o, off⟩ := h.ex
  have hlen : y.Z.length = n.out.length := by rw [← h2.said, List.length_map]
  obtain ⟨Ak, ck, hvk, _, _, hrk⟩ := own_form h2.kept
  obtain ⟨A, c, hvo, _, _, hro⟩ := own_form h2.outs
  have q22 := DN.c22 h2 fr
  have q24 := DN.c24 h2 fr
  simp only at hvk hvo q22 q24
  rw [hvk] at q22
  rw [hvo, hlen] at q24
  refine ⟨Ak, ck, A, c, y.Z, DN.c1 h2, DN.c2 h2, DN.c6 h2, q22, DN.c23 h2 fr, q24, DN.c25 h2 fr, h2.plt, hrk, ?_, h2.said, _, h2.fit⟩
  rw [← hlen]
  exact hro
theorem d_clear (h : Duo B w p r m n K) : Calls Tryz.prog 42 #[.pointer (some ⟨r, 0, none⟩)] w (PDoes B w p r m (taken n) K (.tuple #[])) := by
  obtain ⟨z, y, h1, h2, o, off⟩ := h.ex
  refine (DWi.dclear_any h2).mono ?_
  rintro e w' ⟨rfl, hp', hon⟩
  exact ⟨rfl, Duo.right h1 h2 o off h.klt ⟨_, hp', rfl, hon.mono fun q _ hq => .inl hq, fun k hk => .inl (bare_mine hk), rfl⟩⟩
/-- Rows of the same are the same. -/
theorem same_ents {Ak' A' : Option Addr} {Z' : List (Msg × Pl)} {ca cc : Nat} (h : Rows2 w l o Ak A Z) (k : Rows2 w l o Ak' A' Z') (h63 : l.length ≤ 9223372036854775807) :
    Calls Tryz.prog 18 #[.slice Ak l.length ca, .slice Ak' l.length cc] w fun e w' => e = .returned (.bool true) ∧ Below w.heap.size w w' := Same.ents_any h.ents k.ents h63
theorem same_lets {Ak' A' : Option Addr} {Z' : List (Msg × Pl)} {ca cc : Nat} (h : Rows2 w l o Ak A Z) (k : Rows2 w l o Ak' A' Z') (h63 : o.length ≤ 9223372036854775807) :
    Calls Tryz.prog 41 #[.slice A o.length ca, .slice A' o.length cc] w fun e w' => e = .returned (.bool true) ∧ Below w.heap.size w w' := by
  obtain ⟨S, hS⟩ := h.fit
  obtain ⟨S', hS'⟩ := k.fit
  exact RAll.rall_any h.lets k.lets h63 hS hS' (h.said.trans k.said.symm)
end
end Go.Proofs.YtojmbbldehbjfaaGreat.Tks
set_option linter.unusedVariables false
namespace Go.Proofs.YtojmbbldehbjfaaGreat.Grw
open Go.Proofs.YtojmbbldehbjfaaGreat.Rlog Go.Proofs.YtojmbbldehbjfaaGreat.Nod

theorem write_g (l : List Nat) : ∀ m : Nd, (l.foldl write m).g = m.g := by
  induction l with
  | nil => intro m; rfl
  | cons a l ih => intro m; exact ih (write m a)
theorem ask_g (l : List Nat) : ∀ m : Nd, (l.foldl askN m).g = m.g := by
  induction l with
  | nil => intro m; rfl
  | cons a l ih => intro m; exact ih (askN m a)
theorem beat_g (m : Nd) : (beat m).g = m.g := by
  unfold beat
  split
  · exact write_g _ m
  · rfl
theorem asks_g (m : Nd) : (asks m).g = m.g := ask_g _ m
theorem advance_g (m : Nd) : (advance m).g = m.g := by
  unfold advance
  split
  · split
    · exact beat_g (reached m)
    · rfl
  · rfl
theorem add_l (m : Nd) (k : Int) (d : ByteArray) : (add m k d).2.g.es.length ≤ m.g.es.length + 1 := by
  unfold Nod.add
  split
  · show (advance (beat (added m k d))).g.es.length ≤ _
    rw [advance_g, beat_g]
    show (m.g.es ++ [ent m k d]).length ≤ _
    simp
  · exact Nat.le_succ _
theorem lead_l (m : Nd) : (lead m).g.es.length ≤ m.g.es.length + 1 := by
  unfold lead
  split
  · exact add_l (leads m) 0 ByteArray.empty
  · exact Nat.le_succ _
theorem timeout_l (m : Nd) : (timeout m).g.es.length ≤ m.g.es.length + 1 := by
  unfold timeout
  split
  · exact Nat.le_succ _
  · have := lead_l (asks (stands m))
    rw [asks_g] at this
    exact this
theorem propose_l (m : Nd) (d : ByteArray) : (propose m d).2.g.es.length ≤ m.g.es.length + 1 := by
  unfold propose
  split
  · exact add_l m 1 d
  · exact Nat.le_succ _
theorem fresh_g (m : Nd) (ad : Bool) (i : Nat) : (fresh m ad i).g = m.g := by
  unfold fresh
  split <;> rfl
theorem changes_l (m : Nd) (ad : Bool) (i : Int) : (changes m ad i).2.g.es.length ≤ m.g.es.length + 1 := by
  unfold changes
  split
  · split
    · exact Nat.le_succ _
    · split
      · have := add_l (fresh m ad i.toNat) 2 (str (Num.num (Quorum.change (cfg m) ad i).1))
        rw [fresh_g] at this
        exact this
      · exact Nat.le_succ _
  · exact Nat.le_succ _
theorem compacts_l {N : Nat} {m : Nd} (f : NdB N m) (i : Nat) (d : ByteArray) : (compacts m i d).2.g.es.length ≤ m.g.es.length := by
  unfold compacts
  split
  · exact Nat.le_refl _
  · exact (last_compact f.fine i d).2
theorem followN_g (m : Nd) (t : Nat) : (followN m t).g = m.g := by
  unfold followN
  split <;> rfl
theorem heard_g (m : Nd) (x : Msg) : (heard m x).g = m.g := by
  unfold heard
  split
  · exact followN_g m x.tm
  · rfl
theorem answered_g (m : Nd) (x : Msg) : (answered m x).g = m.g := by
  unfold answered
  split
  · split
    · split
      · rfl
      · split
        · show (onward (advance (hasIt m x)) x.f.toNat).g = m.g
          show (advance (hasIt m x)).g = m.g
          rw [advance_g]
          rfl
        · rw [advance_g]
          rfl
    · rfl
  · rfl
theorem hearsOf_g (m : Nd) (x : Msg) : (hearsOf m x).g = m.g := followN_g m x.tm
theorem written_l {N : Nat} {m : Nd} (f : NdB N m) {x : Msg} (hx : MsgB x) : (writtenN m x).g.es.length ≤ m.g.es.length + x.es.length := by
  unfold writtenN
  split
  · exact Nat.le_add_right _ _
  split
  · exact Nat.le_add_right _ _
  split
  · unfold merged
    split
    · rw [hearsOf_g]; exact Nat.le_add_right _ _
    split
    · show (merge (hearsOf m x).g x.ix x.pv x.es).2.es.length ≤ _
      rw [hearsOf_g]
      exact (merge_grows m.g x.ix x.pv x.es).1
    · show (hearsOf m x).g.es.length ≤ _
      rw [hearsOf_g]; exact Nat.le_add_right _ _
  · unfold laysDown
    split
    · split
      · rw [hearsOf_g]; exact Nat.le_add_right _ _
      · show (install (hearsOf m x).g (snapOf x)).2.es.length ≤ _
        rw [hearsOf_g]
        exact Nat.le_trans (install_b f.fine (snapOf_b hx)).1 (Nat.le_add_right _ _)
    · show (hearsOf m x).g.es.length ≤ _
      rw [hearsOf_g]; exact Nat.le_add_right _ _
theorem receive_l {N : Nat} {m : Nd} (f : NdB N m) {x : Msg} (hx : MsgB x) : (receive m x).g.es.length ≤ m.g.es.length + x.es.length + 1 := by
  unfold receive
  split
  · have hg := heard_g m x
    unfold handles
    split
    · unfold asked
      show (if grants (heard m x) x = true then votesFor (heard m x) x.f else heard m x).g.es.length ≤ _
      split
      · show (heard m x).g.es.length ≤ _
        rw [hg]; omega
      · rw [hg]; omega
    split
    · unfold voted
      split
      · have := lead_l { heard m x with votes := (heard m x).votes ||| 2 ^ x.f.toNat }
        refine Nat.le_trans this ?_
        show (heard m x).g.es.length + 1 ≤ _
        rw [hg]; omega
      · rw [hg]; omega
    split
    · rw [answered_g, hg]; omega
    · have := written_l (heard_b f hx) hx
      rw [hg] at this
      omega
  · omega
end Go.Proofs.YtojmbbldehbjfaaGreat.Grw
