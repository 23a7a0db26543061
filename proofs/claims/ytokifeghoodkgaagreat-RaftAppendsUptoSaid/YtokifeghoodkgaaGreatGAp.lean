/- The statement RaftAppends of tontinelaw12, its second form: for every input the call returns true, and each argument reads afterwards as it read before (where the arguments hold together at most 1048576 values and letters). -/
import Derived.Test.YtokifeghoodkgaaGreatOpensC
import Derived.Test.YtokifeghoodkgaaGreatGB
import Derived.Test.YtokifeghoodkgaaGreatLightR
import Derived.Carry
import Derived.StillTailTactics
import Derived.Deep.CutRange
import Derived.Deep.CutBlock
import Derived.Test.YtokifeghoodkgaaGreatFrame
import Derived.Deep.CondSized
set_option linter.unusedVariables false
namespace Go.Proofs.YtokifeghoodkgaaGreat.Stp
open Go.RowKit Go.Proofs.YtokifeghoodkgaaGreat.Kit Go.Proofs.YtokifeghoodkgaaGreat.Blocks Go.Proofs.YtokifeghoodkgaaGreat.Rlog Go.Proofs.YtokifeghoodkgaaGreat.Ents Go.Proofs.YtokifeghoodkgaaGreat.LogAt Go.Proofs.YtokifeghoodkgaaGreat.Nod Go.Proofs.YtokifeghoodkgaaGreat.NodAt Go.Proofs.YtokifeghoodkgaaGreat.WalkB Go.Proofs.YtokifeghoodkgaaGreat.WalkI Go.Proofs.YtokifeghoodkgaaGreat.WalkJ Go.Proofs.YtokifeghoodkgaaGreat.Begun Go.Proofs.YtokifeghoodkgaaGreat.Fwd Go.Proofs.YtokifeghoodkgaaGreat.OpensC

/-- The node at p, wherever the rest of it lies, off the blocks K. -/
structure At (B : Nat) (w : World) (p N : Nat) (m : Nd) (K : Nat → Prop) : Prop where
  ex : ∃ z, PAt B w p z m ∧ ∀ k, K k → ¬ Mine p z k
  b : NdB N m
  klt : ∀ k, K k → k < w.heap.size
/-- m' is what a call made of m. -/
structure Turn (m m' : Nd) : Prop where
  fwd : Fwd m m'
  led : m.role = 2 → m'.role = 2 → m'.term = m.term → Gs m m'
/-- What a call leaves. -/
structure Went (B : Nat) (w : World) (p N : Nat) (m : Nd) (K : Nat → Prop) (w' : World) : Prop where
  ex : ∃ m', At B w' p N m' K ∧ Turn m m'
  since : Below B w w'
  kept : Only (fun k => ¬ K k) w w'
section
variable {B p N : Nat} {m m' : Nd} {w w' : World} {K K' : Nat → Prop}
theorem At.plt (h : At B w p N m K) : B ≤ p ∧ p < w.heap.size := by obtain ⟨z, hz, _⟩ := h.ex; exact ⟨hz.low, hz.plt⟩
theorem At.base (h : At B w p N m K) : B ≤ w.heap.size := by have := h.plt; omega
theorem At.guard (h : At B w p N m K) (k : Below w.heap.size w w') (hK : ∀ k, K' k → K k ∨ w.heap.size ≤ k) (hlt : ∀ k, K' k → k < w'.heap.size) : At B w' p N m K' := by
  obtain ⟨z, hz, ho⟩ := h.ex
  refine ⟨⟨z, hz.below k, fun b hb hm => ?_⟩, h.b, hlt⟩
  rcases hK b hb with h1 | h1
  · exact ho b h1 hm
  · have := (NodeAt.mine_lt hz hm).2
    omega
theorem At.below (h : At B w p N m K) (k : Below w.heap.size w w') : At B w' p N m K := h.guard k (fun _ h => .inl h) fun b hb => Nat.lt_of_lt_of_le (h.klt b hb) k.size
theorem At.mono (h : At B w p N m K) {N' : Nat} (hN : N ≤ N') : At B w p N' m K := ⟨h.ex, h.b.mono hN, h.klt⟩
theorem At.less (h : At B w p N m K) (hK : ∀ k, K' k → K k) : At B w p N m K' := h.guard (Below.refl _ _) (fun k hk => .inl (hK k hk)) fun k hk => h.klt k (hK k hk)
/-- Another's block is written. -/
theorem At.other (h : At B w p N m K) (he : m.out = []) (o : Only K w w') : At B w' p N m K := by
  obtain ⟨z, hz, ho⟩ := h.ex
  have hZ : z.Z = [] := by
    have := hz.said
    rw [he] at this
    exact List.map_eq_nil_iff.1 this
  exact ⟨⟨z, NodeAt.keep hz o (fun b hb hk => ho b hk hb) (fun x hx => by rw [hZ] at hx; cases hx), ho⟩, h.b, fun k hk => Nat.lt_of_lt_of_le (h.klt k hk) o.size⟩
theorem At.left {z : Seat} (h : PAt B w p z m) (ho : ∀ k, K k → ¬ Mine p z k) (hlt : ∀ k, K k → k < w.heap.size) (l : LeftP B w p z m' w') (hb : NdB N m') : At B w' p N m' K ∧ Below B w w' ∧ Only (fun k => ¬ K k) w w' := by
  obtain ⟨z', h', g⟩ := l
  refine ⟨⟨⟨z', h', fun k hk hm => ?_⟩, hb, fun k hk => Nat.lt_of_lt_of_le (hlt k hk) g.size⟩, below_grow h.base (Below.refl _ _) h g, g.only.mono fun k _ hk hK => ho k hK hk⟩
  rcases g.new k hm with h1 | h1
  · exact ho k hk h1
  · have := hlt k hk
    omega
theorem At.went {z : Seat} (h : PAt B w p z m) (ho : ∀ k, K k → ¬ Mine p z k) (hlt : ∀ k, K k → k < w.heap.size) (l : LeftP B w p z m' w') (hb : NdB N m') (ht : Turn m m') : Went B w p N m K w' := by
  obtain ⟨h1, h2, h3⟩ := At.left h ho hlt l hb
  exact ⟨⟨m', h1, ht⟩, h2, h3⟩
theorem At.still (h : At B w p N m K) : Went B w p N m K w := ⟨⟨m, h, Fwd.refl m, fun _ _ _ => Gs.refl m⟩, Below.refl _ _, Only.refl _ _⟩
theorem Went.mono (h : Went B w p N m K w') {N' : Nat} (hN : N ≤ N') : Went B w p N' m K w' := by
  obtain ⟨m', h1, h2⟩ := h.ex
  exact ⟨⟨m', h1.mono hN, h2⟩, h.since, h.kept⟩
/-- A letter that came in lies off the node. -/
theorem fit_low {B0 : Nat} {x : Msg} {a : Pl} {z : Seat} (h : PAt B w p z m) (hr : RE w B0 a.A a.n x.es) (hB : B0 ≤ B) (h1 : a.n ≤ a.c) (h2 : a.c ≤ 9223372036854775807) (h3 : x.es.length * 40 ≤ 140737488355328) : Fit w (Mine p z) x a := by
  have hl := RE.len hr
  refine ⟨Kit.Reads.more hr (by have := h.base; omega), h1, h2, by omega, fun hn ad e hk => ?_⟩
  obtain ⟨ad', e', hb, _⟩ := hr.2 hn
  rw [e] at e'
  cases e'
  have := (NodeAt.mine_lt h hk).1
  omega
theorem At.timeout (h : At B w p N m K) (hN : N ≤ 700000000) : Calls Tryz.prog 21 #[.pointer (some ⟨p, 0, none⟩)] w fun e w' => e = .returned (.tuple #[]) ∧ Went B w p (N + 22) m K w' := by
  obtain ⟨z, hz, ho⟩ := h.ex
  refine (WalkH.timeout_any hz h.b hN).mono ?_
  rintro e w' ⟨rfl, hl⟩
  exact ⟨rfl, At.went hz ho h.klt hl (timeout_b h.b (by omega)) ⟨timeout_f m, fun hr _ _ => timeout_gs hr⟩⟩
theorem At.propose (h : At B w p N m K) (hN : N ≤ 700000000) (d : ByteArray) (hd : d.size ≤ 9223372036854775807) : Calls Tryz.prog 22 #[.pointer (some ⟨p, 0, none⟩), .string d] w fun e w' => (∃ i k : Int, e = .returned (.tuple #[.int .u64 i, .int .i64 k])) ∧ Went B w p (N + 22) m K w' := by
  obtain ⟨z, hz, ho⟩ := h.ex
  refine (WalkH.propose_any hz h.b (by omega) d hd).mono ?_
  rintro e w' ⟨rfl, hl⟩
  exact ⟨⟨_, _, rfl⟩, At.went hz ho h.klt hl ((propose_b h.b (by omega) d hd).mono (by omega)) ⟨propose_f m d, fun _ _ _ => propose_gs m d⟩⟩
theorem At.change (h : At B w p N m K) (hN : N ≤ 700000000) (ad : Bool) (i : Int) (hi0 : -9223372036854775808 ≤ i) (hi1 : i ≤ 9223372036854775807) : Calls Tryz.prog 23 #[.pointer (some ⟨p, 0, none⟩), .bool ad, .int .i64 i] w fun e w' => (∃ i k : Int, e = .returned (.tuple #[.int .u64 i, .int .i64 k])) ∧ Went B w p (N + 22) m K w' := by
  obtain ⟨z, hz, ho⟩ := h.ex
  refine (change_any hz h.b (by omega) ad i hi0 hi1).mono ?_
  rintro e w' ⟨rfl, hl⟩
  exact ⟨⟨_, _, rfl⟩, At.went hz ho h.klt hl ((changes_b h.b (by omega) ad i).mono (by omega)) ⟨changes_f m ad i, fun _ _ _ => changes_gs m ad i⟩⟩
/-- Receive, by a call that came in. -/
theorem At.receive_to (h : At B w p N m K) (hN : N ≤ 700000000) {B0 : Nat} {c : Cal} (hc : CalB w B0 c) (hB : B0 ≤ B) : Calls Tryz.prog 20 #[.pointer (some ⟨p, 0, none⟩), ltV c.x c.a] w fun e w' => e = .returned (.tuple #[]) ∧ At B w' p (N + c.x.es.length + 22) (Nod.receive m c.x) K ∧ Below B w w' ∧ Only (fun k => ¬ K k) w w' := by
  obtain ⟨z, hz, ho⟩ := h.ex
  have hs : c.x.es.length + c.data.size + c.x.d.size + dataW c.x.es ≤ 1048576 := hc.small
  refine (WalkO.receive_any hz h.b hN c.x c.a hc.msg (fit_low hz hc.list hB hc.fits hc.max (by omega)) (by omega)).mono ?_
  rintro e w' ⟨rfl, hl⟩
  exact ⟨rfl, At.left hz ho h.klt hl ((receive_b h.b (by omega) hc.msg).mono (by omega))⟩
theorem At.receive (h : At B w p N m K) (hN : N ≤ 700000000) {B0 : Nat} {c : Cal} (hc : CalB w B0 c) (hB : B0 ≤ B) : Calls Tryz.prog 20 #[.pointer (some ⟨p, 0, none⟩), ltV c.x c.a] w fun e w' => e = .returned (.tuple #[]) ∧ Went B w p (N + c.x.es.length + 22) m K w' := by
  refine (h.receive_to hN hc hB).mono ?_
  rintro e w' ⟨rfl, h', b, o⟩
  exact ⟨rfl, ⟨Nod.receive m c.x, h', receive_f m c.x, fun hr _ ht => receive_gs hr ht⟩, b, o⟩
theorem At.status (h : At B w p N m K) : Calls Tryz.prog 15 #[.pointer (some ⟨p, 0, none⟩)] w fun e w' => e = .returned (StatusV m) ∧ Below w.heap.size w w' := by
  obtain ⟨z, hz, ho⟩ := h.ex
  exact status_any hz
/-- The log behind a node. -/
theorem At.log (h : At B w p N m K) : ∃ q v, LogAt 89 B w q v m.g ∧ Calls Tryz.prog 16 #[.pointer (some ⟨p, 0, none⟩)] w fun e w' => e = .returned (.pointer (some ⟨q, 0, none⟩)) ∧ w = w' := by
  obtain ⟨z, hz, ho⟩ := h.ex
  exact ⟨z.q, z.vg, hz.log, WalkD.log_any hz⟩
/-- A new node of a log that was made. -/
theorem new_at {q : Nat} {v : Value} {g : G} (h : LogAt 89 B w q v g) (f : Fine g) (i : Int) {t : Nat} (ht : t < 18446744073709551616) (vt : Int) (hN : g.es.length ≤ N) :
    Calls Tryz.prog 12 #[.int .i64 i, .agg #[.int .u64 (t : Int), .int .i64 vt], .pointer (some ⟨q, 0, none⟩)] w fun e w' =>
      if (Quorum.node i && (voteOk vt && lastOk t g)) = true then ∃ p, e = .returned (.tuple #[.pointer (some ⟨p, 0, none⟩), .int .i64 0]) ∧ At B w' p N (newNd i.toNat t vt g) (fun _ => False) ∧ i = (i.toNat : Int) ∧ i.toNat < 7 ∧ Below w.heap.size w w' else NoNode w e w' := by
  refine (WalkJ.new_any h f i t vt).mono ?_
  intro e w' hh
  split
  · rename_i hc
    rw [if_pos hc] at hh
    simp only [Bool.and_eq_true] at hc
    have hi := node_lt hc.1
    obtain ⟨p, rfl, _, h4, h5⟩ := hh
    exact ⟨p, rfl, ⟨⟨_, h4, fun _ h => h.elim⟩, newNd_b (by omega) ht hc.2.1 hc.2.2 f hN, fun _ h => h.elim⟩, by omega, by omega, h5⟩
  · rename_i hc
    rwa [if_neg hc] at hh
end
/-- Are these a log? -/
def okL (s : Snap) (l : List Ent) : Bool := Quorum.sound s.cfg && chained l s.idx s.term
theorem newlog_any {s : Snap} (hs : SnapB s) (A : Option Addr) (n c : Nat) (l : List Ent) (w : World) (hr : RE w w.heap.size A n l) (hb : ∀ e ∈ l, EntB e) (h40 : n * 40 ≤ 140737488355328) :
    Calls Tryz.prog 10 #[RlgWalkD.snapV s, .slice A n c] w fun e w' => if okL s l = true then RlgWalkD.NewLog 89 w ⟨s, l⟩ e w' ∧ Fine ⟨s, l⟩ else RlgWalkD.NoLog w e w' := by
  unfold okL
  cases h1 : Quorum.sound s.cfg with
  | false => simpa using RlgWalkD.new_mad hs A n c w h1
  | true =>
    cases h2 : chained l s.idx s.term with
    | false => simpa using RlgWalkD.new_loose hs A n c l w hr hb (by omega) h1 h2
    | true =>
      refine (RlgWalkD.new_made hs A n c l w hr hb h40 h1 h2).mono fun e w' h => ?_
      rw [if_pos (by rfl)]
      exact ⟨h, fine_new h1 h2 hs hb⟩
end Go.Proofs.YtokifeghoodkgaaGreat.Stp
set_option linter.unusedVariables false
namespace Go.Proofs.YtokifeghoodkgaaGreat.LawG
open Go.RowKit Go.Proofs.YtokifeghoodkgaaGreat.Kit Go.Proofs.YtokifeghoodkgaaGreat.Blocks Go.Proofs.YtokifeghoodkgaaGreat.Rlog Go.Proofs.YtokifeghoodkgaaGreat.Ents Go.Proofs.YtokifeghoodkgaaGreat.LogAt Go.Proofs.YtokifeghoodkgaaGreat.Nod Go.Proofs.YtokifeghoodkgaaGreat.NodAt Go.Proofs.YtokifeghoodkgaaGreat.WalkB Go.Proofs.YtokifeghoodkgaaGreat.WalkI Go.Proofs.YtokifeghoodkgaaGreat.WalkJ Go.Proofs.YtokifeghoodkgaaGreat.Begun Go.Proofs.YtokifeghoodkgaaGreat.Fwd Go.Proofs.YtokifeghoodkgaaGreat.OpensC Go.Proofs.YtokifeghoodkgaaGreat.LightR Go.Proofs.YtokifeghoodkgaaGreat.Stp

theorem few_of {l : List Ent} {L : List Cal} {k : Nat} {x : Cal} (h : total l L ≤ 600) (hx : L[k]? = some x) : x.x.es.length ≤ 600 ∧ k < 600 := by
  have h1 := sum_mem (f := weigh) (List.mem_of_getElem? hx)
  have h2 : x.x.es.length ≤ weigh x := by unfold weigh; omega
  have h3 := (List.getElem?_eq_some_iff.1 hx).1
  unfold total at h
  omega
/-- Between two calls. -/
structure Run (B : Nat) (w0 : World) (p N : Nat) (W : World) (m : Nd) : Prop where
  at_ : At B W p N m (fun _ => False)
  base : m.g.snap.idx ≤ m.commit
  since : Below B w0 W
/-- Did it lead all the time? -/
def LeadsR (R R2 tk tk2 : Nat) (w9 : World) (v : Value) (wx : World) : Prop := ∃ bb : Bool, v = .bool bb ∧ wx = w9 ∧ (bb = true → R = 2 ∧ R2 = 2 ∧ tk2 = tk)
set_option maxRecDepth 100000 in
set_option maxHeartbeats 8000000 in
theorem appends_walk (z : Beg) (A : Option Addr) (n c : Nat) (l : List Ent) (C : Option Addr) (m cc : Nat) (L : List Cal) (w : World) (hz : BegB z) (hl : CameE w A n c l) (hm : m ≤ 9223372036854775807) (hs : Holds w w.heap.size C m L ∧ total l L ≤ 1048576) :
    Calls Tryz.prog 7 #[begV z A n c, .slice C m cc] w fun e w' => e = .returned (.bool true) ∧ Below w.heap.size w w' := by
  have HBg := Lib.hid begun_true
  have hlen := RE.len hl.reads
  have hn20 : n ≤ 1048576 := by have := hs.2; unfold total at this; omega
  have HLt : Hid (∀ W, Below w.heap.size w W → Calls Tryz.prog 9 #[.slice A n c, .slice C m cc] W fun e w' => e = .returned (.bool (lightB l L)) ∧ Below W.heap.size W w') := Lib.hid fun W hb =>
    light_any A n c l C m cc L W ((Kit.Reads.below hl.reads hb).more hb.size) hl.ents (by omega) (hs.1.below hb hb.size) hm hs.2
  have HNl : Hid (∀ W, Below w.heap.size w W → Calls Tryz.prog 10 #[RlgWalkD.snapV z.s, .slice A n c] W fun e w' => if okL z.s l = true then RlgWalkD.NewLog 89 W ⟨z.s, l⟩ e w' ∧ Fine ⟨z.s, l⟩ else RlgWalkD.NoLog W e w') := Lib.hid fun W hb =>
    newlog_any hz.s A n c l W ((Kit.Reads.below hl.reads hb).more hb.size) hl.ents (by omega)
  have HHo := Lib.hid hs.1
  have HLn := Lib.hid hlen
  have HTl : Hid (lightB l L = true → total l L ≤ 600) := Lib.hid fun h => of_decide_eq_true h
  have hzt := hz.t
  have HZS := Lib.hid hz.s
  obtain ⟨zi, zt, zv, zs⟩ := z
  obtain ⟨six, stm, scf, sd⟩ := zs
  simp only at *
  unfold begV
  unfold RlgWalkD.snapV at HNl
  simp only at HNl ⊢
  obtain ⟨w1, hw1⟩ : ∃ w1, w.alloc (.cells #[.int .i64 zi, .int .u64 (zt : Int), .int .i64 zv, .int .u64 (six : Int), .int .u64 (stm : Int), .int .u64 (scf : Int), .string sd, .slice A n c] 29) = w1 := ⟨_, rfl⟩
  have hr1 : w1.heap[w.heap.size]? = some (.cells #[.int .i64 zi, .int .u64 (zt : Int), .int .i64 zv, .int .u64 (six : Int), .int .u64 (stm : Int), .int .u64 (scf : Int), .string sd, .slice A n c] 29 (0, 0)) := by rw [← hw1]; exact heap_alloc_new w _
  have hb1 : Below w.heap.size w w1 := by rw [← hw1]; exact (Below.refl _ w).alloc (Nat.le_refl _) _
  have HW1 := Lib.hid hw1
  have HR1 := Lib.hid hr1
  have HB1 := Lib.hid hb1
  clear hw1 hr1 hb1 hlen hs hl hz
  go_enter Tryz.func7, Tryz.ntmps7
  go_wp2_with fail
  rw [HW1.out]
  with_reducible refine (HBg.out w1).mono ?_
  rintro e w2 ⟨rfl, hb2⟩
  have HB2 := Lib.hid (HB1.out.trans (hb2.mono HB1.out.size))
  have hr2 := (hb2.block _ (lt_at HR1.out)).trans HR1.out
  have HR2 := Lib.hid hr2
  have d7 : w2.cell? ⟨w.heap.size, 7, none⟩ = some (.slice A n c) := by rw [cell_at hr2]; rfl
  clear hb2 hr2 HR1 HB1
  as_aux_lemma =>
  go_wp2_with fail
  with_reducible refine (HLt.out w2 HB2.out).mono ?_
  rintro e w3 ⟨rfl, hb3⟩
  have HB3 := Lib.hid (HB2.out.trans (hb3.mono HB2.out.size))
  have hr3 := (hb3.block _ (lt_at HR2.out)).trans HR2.out
  have HR3 := Lib.hid hr3
  have d3 : w3.cell? ⟨w.heap.size, 3, none⟩ = some (.int .u64 (six : Int)) := by rw [cell_at hr3]; rfl
  have d4 : w3.cell? ⟨w.heap.size, 4, none⟩ = some (.int .u64 (stm : Int)) := by rw [cell_at hr3]; rfl
  have d5 : w3.cell? ⟨w.heap.size, 5, none⟩ = some (.int .u64 (scf : Int)) := by rw [cell_at hr3]; rfl
  have d6 : w3.cell? ⟨w.heap.size, 6, none⟩ = some (.string sd) := by rw [cell_at hr3]; rfl
  have d7 : w3.cell? ⟨w.heap.size, 7, none⟩ = some (.slice A n c) := by rw [cell_at hr3]; rfl
  obtain ⟨bl, hbl⟩ : ∃ bl, lightB l L = bl := ⟨_, rfl⟩
  rw [hbl] at HTl ⊢
  clear hb3 hr3 HR2 HB2 HLt hbl
  cases bl with
  | false =>
    go_wp2
    go_ret
    exact ⟨rfl, HB3.out⟩
  | true =>
  have HT6 := Lib.hid (HTl.out rfl)
  clear HTl
  as_aux_lemma =>
  go_wp2_with fail
  with_reducible refine (HNl.out w3 HB3.out).mono ?_
  intro e w4 hnl
  obtain ⟨bo, hbo⟩ : ∃ bo, okL ⟨six, stm, scf, sd⟩ l = bo := ⟨_, rfl⟩
  rw [hbo] at hnl
  cases bo with
  | false =>
    rw [if_neg (by decide)] at hnl
    obtain ⟨rfl, hb4⟩ := hnl
    go_wp2
    go_ret
    exact ⟨rfl, HB3.out.trans (hb4.mono HB3.out.size)⟩
  | true =>
  rw [if_pos rfl] at hnl
  obtain ⟨⟨q, v, rfl, hlog, hb4⟩, hfine⟩ := hnl
  have HB4 := Lib.hid (HB3.out.trans (hb4.mono HB3.out.size))
  have hr4 := (hb4.block _ (lt_at HR3.out)).trans HR3.out
  have HR4 := Lib.hid hr4
  have d0 : w4.cell? ⟨w.heap.size, 0, none⟩ = some (.int .i64 zi) := by rw [cell_at hr4]; rfl
  have d1 : w4.cell? ⟨w.heap.size, 1, none⟩ = some (.int .u64 (zt : Int)) := by rw [cell_at hr4]; rfl
  have d2 : w4.cell? ⟨w.heap.size, 2, none⟩ = some (.int .i64 zv) := by rw [cell_at hr4]; rfl
  have hes : l.length ≤ 700 := by have := HT6.out; unfold total at this; omega
  have HNn := Lib.hid (new_at (N := 700) hlog hfine zi hzt zv hes)
  have HB34 := Lib.hid hb4
  clear hlog hb4 hr4 HR3 HNl hfine hbo d3 d4 d5 d6 d7 hes
  as_aux_lemma =>
  go_wp2_with fail
  with_reducible refine HNn.out.mono ?_
  intro e w5 hnn
  obtain ⟨bn, hbn⟩ : ∃ bn, (Quorum.node zi && (voteOk zv && lastOk zt ⟨⟨six, stm, scf, sd⟩, l⟩)) = bn := ⟨_, rfl⟩
  rw [hbn] at hnn
  cases bn with
  | false =>
    rw [if_neg (by decide)] at hnn
    obtain ⟨rfl, hb5⟩ := hnn
    go_wp2
    go_ret
    exact ⟨rfl, HB4.out.trans (hb5.mono HB4.out.size)⟩
  | true =>
  rw [if_pos rfl] at hnn
  obtain ⟨p, rfl, hat, hzi, hz7, hb5⟩ := hnn
  obtain ⟨B, hB⟩ : ∃ B, w3.heap.size = B := ⟨_, rfl⟩
  rw [hB] at hat
  have HRun : Hid (∃ mk, Run B w3 p (700 + 700 * 0) w5 mk) := ⟨_, hat, Nat.le_refl _, by rw [← hB]; exact HB34.out.trans (hb5.mono HB34.out.size)⟩
  have HBw : Hid (w.heap.size ≤ B) := Lib.hid (by rw [← hB]; exact HB3.out.size)
  have HB3 := Lib.hid HB3.out
  clear hat hb5 hbn HNn hB hzi hz7 HR4 HB34 d0 d1 d2
  as_aux_lemma =>
  go_wp2_with fail
  --<LOOP
  go_loopw [55] (fun i wr => ∃ k : Nat, k ≤ m ∧ i = .int .i64 (k : Int) ∧ Hid (∃ mk, Run B w3 p (700 + 700 * k) wr mk)) (fun i _ => m - (intOf i).toNat)
  case atStart => exact ⟨0, Nat.zero_le _, rfl, HRun⟩
  case round =>
    obtain ⟨k, hk, rfl, HR⟩ := hrel
    by_cases hkm : k < m
    · --<BODY
      obtain ⟨mk, hrun⟩ := HR.out
      have hbw : Below w.heap.size w wr := HB3.out.trans (hrun.since.mono HBw.out)
      obtain ⟨x, hx⟩ : ∃ x, L[k]? = some x := ⟨_, List.getElem?_eq_getElem (by rw [HHo.out.1]; exact hkm)⟩
      obtain ⟨b, o, rfl, hbl, hten, hcal⟩ := (HHo.out.below hbw (Nat.le_refl _)).2 k x hx
      obtain ⟨hfew, hk600⟩ := few_of HT6.out hx
      have hwb := HBw.out
      obtain ⟨kind, ms, pl, data, id, idx, add⟩ := x
      obtain ⟨kd, fr, tt, tm, ix, pv, cm, ok, es, dd⟩ := ms
      obtain ⟨A9, n9, e9⟩ := pl
      have c0 := hten.c0
      have c1 := hten.c1
      have c2 := hten.c2
      have c3 := hten.c3
      have c4 := hten.c4
      have c5 := hten.c5
      have c6 := hten.c6
      have c7 := hten.c7
      have c8 := hten.c8
      have c9 := hten.c9
      have c10 := hten.c10
      have c11 := hten.c11
      have c12 := hten.c12
      have c13 := hten.c13
      have c14 := hten.c14
      simp only at c0 c1 c2 c3 c4 c5 c6 c7 c8 c9 c10 c11 c12 c13 c14 hfew
      obtain ⟨wa, hwa⟩ : ∃ wa, wr.alloc (.cells #[.int .i64 kind, .int .i64 kd, .int .i64 fr, .int .i64 tt, .int .u64 (tm : Int), .int .u64 (ix : Int), .int .u64 (pv : Int), .int .u64 (cm : Int), .bool ok, .slice A9 n9 e9, .string dd, .string data, .int .i64 id, .int .u64 (idx : Int), .bool add] 49) = wa := ⟨_, rfl⟩
      have hra : wa.heap[wr.heap.size]? = some (.cells #[.int .i64 kind, .int .i64 kd, .int .i64 fr, .int .i64 tt, .int .u64 (tm : Int), .int .u64 (ix : Int), .int .u64 (pv : Int), .int .u64 (cm : Int), .bool ok, .slice A9 n9 e9, .string dd, .string data, .int .i64 id, .int .u64 (idx : Int), .bool add] 49 (0, 0)) := by rw [← hwa]; exact heap_alloc_new wr _
      have hba : Below wr.heap.size wr wa := by rw [← hwa]; exact (Below.refl _ _).alloc (Nat.le_refl _) _
      have hala : At B wa p (700 + 700 * k) mk (fun q => q = wr.heap.size) := hrun.at_.guard hba (fun q hq => .inr (by rw [hq]; exact Nat.le_refl _)) fun q hq => by rw [hq]; exact lt_at hra
      have HSt := Lib.hid hala.status
      have hsb : Below B w3 wa := hrun.since.trans (hba.mono hrun.at_.base)
      have hbase := hrun.base
      have HBase := Lib.hid hbase
      have hlt9 := hala.base
      have HWA := Lib.hid hwa
      have HRA := Lib.hid hra
      have HA := Lib.hid hala
      have HSB := Lib.hid hsb
      have HCal : Hid (CalB wa w.heap.size ⟨kind, ⟨kd, fr, tt, tm, ix, pv, cm, ok, es, dd⟩, ⟨A9, n9, e9⟩, data, id, idx, add⟩) := Lib.hid (hcal.below (hba.mono (by have := hrun.at_.base; omega)) (Nat.le_refl _))
      clear hrun hbw hx hten hcal hwa hra hba hala hsb hbase hlt9
      as_aux_lemma =>
      go_wp2_with fail
      rw [HWA.out]
      with_reducible refine HSt.out.mono ?_
      rintro e wb ⟨rfl, hbb⟩
      obtain ⟨R, hR⟩ : ∃ R, mk.role = R := ⟨_, rfl⟩
      obtain ⟨ld, hld⟩ : ∃ ld, mk.leader = ld := ⟨_, rfl⟩
      obtain ⟨tk, htk⟩ : ∃ tk, mk.term = tk := ⟨_, rfl⟩
      obtain ⟨vk, hvk⟩ : ∃ vk, mk.vote = vk := ⟨_, rfl⟩
      obtain ⟨ck, hck⟩ : ∃ ck, mk.commit = ck := ⟨_, rfl⟩
      obtain ⟨F, hF⟩ : ∃ F, mk.g.snap.idx = F := ⟨_, rfl⟩
      have hsv : StatusV mk = .tuple #[.int .i64 (R : Int), .int .i64 ld, .agg #[.int .u64 (tk : Int), .int .i64 vk], .int .u64 (ck : Int)] := by unfold StatusV; rw [hR, hld, htk, hvk, hck]
      rw [hsv]
      obtain ⟨w5, hw5⟩ : ∃ w5, wb.alloc (.cells #[.int .u64 (tk : Int), .int .i64 vk] 24) = w5 := ⟨_, rfl⟩
      have hr5 : w5.heap[wb.heap.size]? = some (.cells #[.int .u64 (tk : Int), .int .i64 vk] 24 (0, 0)) := by rw [← hw5]; exact heap_alloc_new wb _
      have hb5 : Below wb.heap.size wb w5 := by rw [← hw5]; exact (Below.refl _ _).alloc (Nat.le_refl _) _
      have hb05 := hbb.trans (hb5.mono hbb.size)
      have hra5 := (hb05.block _ (lt_at HRA.out)).trans HRA.out
      have hat5 : At B w5 p (700 + 700 * k) mk (fun q => q = wr.heap.size ∨ q = wb.heap.size) := HA.out.guard hb05 (fun q hq => by
        rcases hq with hq | hq
        · exact .inl hq
        · exact .inr (by rw [hq]; exact hbb.size)) fun q hq => by
        rcases hq with hq | hq
        · rw [hq]; exact lt_at hra5
        · rw [hq]; exact lt_at hr5
      obtain ⟨qa, va, hlga, hLga⟩ := hat5.log
      have hfi := hat5.b.fine
      have htop := hat5.b.top
      have hle := hfi.last_idx
      have hF1 : (F : Int) + 1 ≤ 18446744073709551615 := by omega
      have HLg := Lib.hid hLga
      have HFst := Lib.hid (RlgWalkE.first_any hlga)
      have hfv : RlgWalkD.snapV mk.g.snap = .agg #[.int .u64 (F : Int), .int .u64 (mk.g.snap.term : Int), .int .u64 (mk.g.snap.cfg : Int), .string mk.g.snap.data] := by unfold RlgWalkD.snapV; rw [hF]
      have HFv := Lib.hid hfv
      have HW5 := Lib.hid hw5
      have HR5 := Lib.hid hr5
      have HRA5 := Lib.hid hra5
      have HA5 := Lib.hid hat5
      have HSB5 := Lib.hid (HSB.out.trans (hb05.mono HA.out.base))
      have HCal5 := Lib.hid (HCal.out.below (hb05.mono (by have := HA.out.base; have := HBw.out; omega)) (Nat.le_refl _))
      have HMk := Lib.hid (And.intro hR (And.intro htk (And.intro hck hF)))
      have hfd := WalkJ.field0
      clear hbb hsv hw5 hr5 hb5 hb05 hra5 hat5 hlga hLga hfi htop hle hfv hR hld htk hvk hck hF HSt HRA HA HSB HCal HWA
      as_aux_lemma =>
      go_wp2_with fail
      rw [HW5.out]
      with_reducible refine HLg.out.mono ?_
      rintro e wx ⟨rfl, rfl⟩
      go_wp2_with fail
      with_reducible refine HFst.out.mono ?_
      rintro e w6 ⟨rfl, hb6⟩
      rw [HFv.out]
      have hat6 := HA5.out.below hb6
      obtain ⟨qb, vb, hlgb, hLgb⟩ := hat6.log
      have hfi := hat6.b.fine
      have hes40 : mk.g.es.length * 40 ≤ 140737488355328 := by have := hat6.b.es; omega
      have hget : Hid (Calls Tryz.prog 19 #[.pointer (some ⟨qb, 0, none⟩), .int .u64 ((F : Int) + 1), .int .i64 2000] w6 (RlgWalkF.Gives w6 (get mk.g (F + 1) 2000))) := Lib.hid (by
        have := RlgWalkF.get_any hlgb (i := F + 1) (n := 2000) (by omega) (by decide) hes40
        rwa [show ((F + 1 : Nat) : Int) = (F : Int) + 1 by omega] at this)
      have HLgb := Lib.hid hLgb
      have HA6 := Lib.hid hat6
      have HRA6 := Lib.hid ((hb6.block _ (lt_at HRA5.out)).trans HRA5.out)
      have HR6 := Lib.hid ((hb6.block _ (lt_at HR5.out)).trans HR5.out)
      have HSB6 := Lib.hid (HSB5.out.trans (hb6.mono HA5.out.base))
      have HCal6 := Lib.hid (HCal5.out.below (hb6.mono (by have := HA5.out.base; omega)) (Nat.le_refl _))
      clear hat6 hlgb hLgb hfi hes40 hb6 HA5 HRA5 HR5 HSB5 HCal5 HFst HFv HW5 HLg
      as_aux_lemma =>
      go_wp2_with fail
      with_reducible refine HLgb.out.mono ?_
      rintro e wx ⟨rfl, rfl⟩
      go_wp2_with fail
      with_reducible refine hget.out.mono ?_
      rintro e w7 ⟨A2, c2, rfl, hre, hlc, hcm, hb7, hoff⟩
      obtain ⟨l2, hl2⟩ : ∃ l2, get mk.g (F + 1) 2000 = l2 := ⟨_, rfl⟩
      have hsub : ∀ y ∈ l2, y ∈ mk.g.es := fun y hy => get_sub (i := F + 1) (n := 2000) (by rw [hl2]; exact hy)
      rw [hl2] at hre hlc hoff ⊢
      obtain ⟨L2, hL2⟩ : ∃ L2, l2.length = L2 := ⟨_, rfl⟩
      rw [hL2] at hre hlc hoff ⊢
      have hra7 := (hb7.block _ (lt_at HRA6.out)).trans HRA6.out
      have hr7 := (hb7.block _ (lt_at HR6.out)).trans HR6.out
      have hat7 : At B w7 p (700 + 700 * k) mk (fun q => (q = wr.heap.size ∨ q = wb.heap.size) ∨ (w6.heap.size ≤ q ∧ 0 < L2 ∧ ∃ ad, A2 = some ad ∧ q = ad.block)) := HA6.out.guard hb7 (fun q hq => by
        rcases hq with hq | hq
        · exact .inl hq
        · exact .inr hq.1) fun q hq => by
        rcases hq with (hq | hq) | ⟨h1, h2, ad, h3, h4⟩
        · rw [hq]; exact lt_at hra7
        · rw [hq]; exact lt_at hr7
        · obtain ⟨ad', h5, h6, _⟩ := hre.2 h2
          rw [h3] at h5
          cases h5
          rw [h4]; exact h6
      have hoff7 : Off (fun q => ¬ ((q = wr.heap.size ∨ q = wb.heap.size) ∨ (w6.heap.size ≤ q ∧ 0 < L2 ∧ ∃ ad, A2 = some ad ∧ q = ad.block))) A2 L2 := fun hn ad he hk => by
        refine hk (.inr ⟨?_, hn, ad, he, rfl⟩)
        have := hoff hn ad he
        omega
      obtain ⟨K, hK⟩ : ∃ K : Nat → Prop, (fun q => (q = wr.heap.size ∨ q = wb.heap.size) ∨ (w6.heap.size ≤ q ∧ 0 < L2 ∧ ∃ ad, A2 = some ad ∧ q = ad.block)) = K := ⟨_, rfl⟩
      have hKr : K wb.heap.size := by rw [← hK]; exact .inl (.inr rfl)
      rw [hK] at hat7
      have hoff7 : Off (fun q => ¬ K q) A2 L2 := by rw [← hK]; exact hoff7
      have HKr := Lib.hid hKr
      clear hK hKr
      have y0 : w7.cell? ⟨wr.heap.size, 0, none⟩ = some (.int .i64 kind) := by rw [cell_at hra7]; rfl
      have y1 : w7.cell? ⟨wr.heap.size, 1, none⟩ = some (.int .i64 kd) := by rw [cell_at hra7]; rfl
      have y2 : w7.cell? ⟨wr.heap.size, 2, none⟩ = some (.int .i64 fr) := by rw [cell_at hra7]; rfl
      have y3 : w7.cell? ⟨wr.heap.size, 3, none⟩ = some (.int .i64 tt) := by rw [cell_at hra7]; rfl
      have y4 : w7.cell? ⟨wr.heap.size, 4, none⟩ = some (.int .u64 (tm : Int)) := by rw [cell_at hra7]; rfl
      have y5 : w7.cell? ⟨wr.heap.size, 5, none⟩ = some (.int .u64 (ix : Int)) := by rw [cell_at hra7]; rfl
      have y6 : w7.cell? ⟨wr.heap.size, 6, none⟩ = some (.int .u64 (pv : Int)) := by rw [cell_at hra7]; rfl
      have y7 : w7.cell? ⟨wr.heap.size, 7, none⟩ = some (.int .u64 (cm : Int)) := by rw [cell_at hra7]; rfl
      have y8 : w7.cell? ⟨wr.heap.size, 8, none⟩ = some (.bool ok) := by rw [cell_at hra7]; rfl
      have y9 : w7.cell? ⟨wr.heap.size, 9, none⟩ = some (.slice A9 n9 e9) := by rw [cell_at hra7]; rfl
      have y10 : w7.cell? ⟨wr.heap.size, 10, none⟩ = some (.string dd) := by rw [cell_at hra7]; rfl
      have y11 : w7.cell? ⟨wr.heap.size, 11, none⟩ = some (.string data) := by rw [cell_at hra7]; rfl
      have y12 : w7.cell? ⟨wr.heap.size, 12, none⟩ = some (.int .i64 id) := by rw [cell_at hra7]; rfl
      have y14 : w7.cell? ⟨wr.heap.size, 14, none⟩ = some (.bool add) := by rw [cell_at hra7]; rfl
      have hcal7 := HCal6.out.below (hb7.mono (by have := HA6.out.base; omega)) (Nat.le_refl _)
      have hbig : es.length + data.size + dd.size + dataW es ≤ 1048576 := hcal7.small
      have hwh := (by have := (Nat.le_trans HBw.out hat7.base); exact this : w.heap.size ≤ w7.heap.size)
      have HTm := Lib.hid (hat7.timeout (by omega))
      have HPr := Lib.hid (hat7.propose (by omega) data (by omega))
      have HCh := Lib.hid (hat7.change (by omega) add id hcal7.i0 hcal7.i1)
      have hrc := hat7.receive (by omega) hcal7 HBw.out
      unfold ltV at hrc
      simp only at hrc
      have HRc := Lib.hid hrc
      have HStill := Lib.hid hat7.still
      have HR7 := Lib.hid hr7
      have HOff := Lib.hid hoff7
      have HRe := Lib.hid hre
      have HSub := Lib.hid hsub
      have HA6b := Lib.hid hat7.b.fine.ents
      have HLc := Lib.hid (And.intro hlc (And.intro hcm hL2))
      have HSB7 := Lib.hid (HSB6.out.trans (hb7.mono HA6.out.base))
      have hA7 := hat7.base
      have HA7 := Lib.hid hat7
      clear hre hlc hcm hb7 hoff hl2 hsub hL2 hra7 hr7 hat7 hoff7 hcal7 hbig hrc HA6 HRA6 HR6 HSB6 HCal6 hget HLgb hwh hfd
      as_aux_lemma =>
      go_upto_block 2 with fail
      go_cut [] from 75 to 101 (fun wx => Went B w7 p (700 + 700 * (k + 1)) mk K wx)
      case first =>
        --<SW
        have hKc : kind = 0 ∨ kind = 1 ∨ kind = 3 ∨ kind = 4 ∨ (kind ≠ 0 ∧ kind ≠ 1 ∧ kind ≠ 3 ∧ kind ≠ 4) := by omega
        rcases hKc with rfl | rfl | rfl | rfl | ⟨h0, h1, h3, h4⟩
        · as_aux_lemma =>
          go_wp2_with fail
          with_reducible refine HRc.out.mono ?_
          rintro e w8 ⟨rfl, hw8⟩
          have HM := Lib.hid (hw8.mono (N' := 700 + 700 * (k + 1)) (by omega))
          clear hw8
          go_wp2_with fail
          go_meet
          with_reducible exact HM.out
        · as_aux_lemma =>
          go_wp2_with fail
          with_reducible refine HTm.out.mono ?_
          rintro e w8 ⟨rfl, hw8⟩
          have HM := Lib.hid (hw8.mono (N' := 700 + 700 * (k + 1)) (by omega))
          clear hw8
          go_wp2_with fail
          go_meet
          with_reducible exact HM.out
        · as_aux_lemma =>
          go_wp2_with fail
          with_reducible refine HPr.out.mono ?_
          rintro e w8 ⟨⟨v8, u8, rfl⟩, hw8⟩
          have HM := Lib.hid (hw8.mono (N' := 700 + 700 * (k + 1)) (by omega))
          clear hw8
          go_wp2_with fail
          go_meet
          with_reducible exact HM.out
        · as_aux_lemma =>
          go_wp2_with fail
          with_reducible refine HCh.out.mono ?_
          rintro e w8 ⟨⟨v8, u8, rfl⟩, hw8⟩
          have HM := Lib.hid (hw8.mono (N' := 700 + 700 * (k + 1)) (by omega))
          clear hw8
          go_wp2_with fail
          go_meet
          with_reducible exact HM.out
        · as_aux_lemma =>
          have t0 : (kind == 0) = false := by simp; omega
          have t1 : (kind == 1) = false := by simp; omega
          have t3 : (kind == 3) = false := by simp; omega
          have t4 : (kind == 4) = false := by simp; omega
          have HM := Lib.hid (HStill.out.mono (N' := 700 + 700 * (k + 1)) (by omega))
          go_wp2_with fail
          go_meet
          with_reducible exact HM.out
        --SW>
      case rest =>
        --<RE
        obtain ⟨⟨m', hat', htu⟩, hsin, honl⟩ := hcut
        have HSt2 := Lib.hid hat'.status
        have hr8 := honl.heap HR7.out (fun h => h HKr.out)
        have hre8 : RE wc wc.heap.size A2 L2 l2 := (Off.reads HOff.out honl HRe.out (Nat.le_refl _)).more honl.size
        have hbase' : m'.g.snap.idx ≤ m'.commit := htu.fwd.base HBase.out
        have HTu := Lib.hid htu
        have HSB8 := Lib.hid (HSB7.out.trans hsin)
        have HBase' := Lib.hid hbase'
        have HR8 := Lib.hid hr8
        have HRe8 := Lib.hid hre8
        have hA8 := hat'.base
        have HA8 := Lib.hid (hat'.less (K' := fun _ => False) fun _ h => h.elim)
        have hlt8 := lt_at hr8
        clear hat' htu hsin honl hr8 hre8 hbase' HTm HPr HCh HRc HStill HR7 HOff HRe HSB7 HA7 y0 y1 y2 y3 y4 y5 y6 y7 y8 y9 y10 y11 y12 y14
        as_aux_lemma =>
        go_wp2_with fail
        with_reducible refine HSt2.out.mono ?_
        rintro e wd ⟨rfl, hbd⟩
        obtain ⟨R2, hR2⟩ : ∃ R2, m'.role = R2 := ⟨_, rfl⟩
        obtain ⟨ld2, hld2⟩ : ∃ ld2, m'.leader = ld2 := ⟨_, rfl⟩
        obtain ⟨tk2, htk2⟩ : ∃ tk2, m'.term = tk2 := ⟨_, rfl⟩
        obtain ⟨vk2, hvk2⟩ : ∃ vk2, m'.vote = vk2 := ⟨_, rfl⟩
        obtain ⟨ck2, hck2⟩ : ∃ ck2, m'.commit = ck2 := ⟨_, rfl⟩
        have hsv2 : StatusV m' = .tuple #[.int .i64 (R2 : Int), .int .i64 ld2, .agg #[.int .u64 (tk2 : Int), .int .i64 vk2], .int .u64 (ck2 : Int)] := by unfold StatusV; rw [hR2, hld2, htk2, hvk2, hck2]
        rw [hsv2]
        obtain ⟨w9, hw9⟩ : ∃ w9, wd.alloc (.cells #[.int .u64 (tk2 : Int), .int .i64 vk2] 24) = w9 := ⟨_, rfl⟩
        have hr9 : w9.heap[wd.heap.size]? = some (.cells #[.int .u64 (tk2 : Int), .int .i64 vk2] 24 (0, 0)) := by rw [← hw9]; exact heap_alloc_new wd _
        have hb9 : Below wd.heap.size wd w9 := by rw [← hw9]; exact (Below.refl _ _).alloc (Nat.le_refl _) _
        have hb89 := hbd.trans (hb9.mono hbd.size)
        have hr58 := (hb89.block _ hlt8).trans HR8.out
        have v0 : w9.cell? ⟨wb.heap.size, 0, none⟩ = some (.int .u64 (tk : Int)) := by rw [cell_at hr58]; rfl
        have v1 : w9.cell? ⟨wd.heap.size, 0, none⟩ = some (.int .u64 (tk2 : Int)) := by rw [cell_at hr9]; rfl
        have hre9 : RE w9 wc.heap.size A2 L2 l2 := Kit.Reads.below HRe8.out hb89
        have hsz9 := hb89.size
        have HRe9 := Lib.hid hre9
        have HA9 := Lib.hid (HA8.out.below hb89)
        have HSB9 := Lib.hid (HSB8.out.trans (hb89.mono HA8.out.base))
        have HW9 := Lib.hid hw9
        obtain ⟨k1, k2, k3, k4⟩ := HMk.out
        have HLed : Hid (R = 2 → R2 = 2 → tk2 = tk → ∀ y ∈ l2, Rlog.term m'.g y.idx = some y.term) := Lib.hid fun h1 h2 h3 y hy =>
          (HTu.out.led (k1.trans h1) (hR2.trans h2) (by rw [htk2, k2]; exact h3)).term HA8.out.b.fine (HSub.out y hy)
        have hFc : F ≤ ck := by rw [← k3, ← k4]; exact HBase.out
        clear hbd hsv2 hw9 hr9 hb9 hb89 hr58 hre9 hR2 hld2 htk2 hvk2 hck2 HSt2 HRe8 HA8 HSB8 HR8 k1 k2 k3 k4
        as_aux_lemma =>
        go_upto_region 27 with fail
        rw [HW9.out]
        go_cut [20] from 108 to 121 (fun v wx => LeadsR R R2 tk tk2 w9 v wx)
        case first =>
          --<LE
          by_cases h1 : R = 2
          · subst h1
            by_cases h2 : R2 = 2
            · subst h2
              by_cases h3 : tk = tk2
              · subst h3
                go_wp2_with fail
                go_meet
                exact ⟨true, rfl, rfl, fun _ => ⟨rfl, rfl, rfl⟩⟩
              · have t3 : ((tk : Int) == (tk2 : Int)) = false := by simp; omega
                go_wp2_with fail
                go_meet
                exact ⟨false, rfl, rfl, fun h => by cases h⟩
            · have t2 : ((R2 : Int) == 2) = false := by simp; omega
              go_wp2_with fail
              go_meet
              exact ⟨false, rfl, rfl, fun h => by cases h⟩
          · have t1 : ((R : Int) == 2) = false := by simp; omega
            go_wp2_with fail
            go_meet
            exact ⟨false, rfl, rfl, fun h => by cases h⟩
          --LE>
        case rest =>
          --<IN
          obtain ⟨bb, rfl, hwe, hbb⟩ := hcut
          have hwe' := hwe.symm
          subst hwe'
          clear hwe
          have HLed2 : Hid (bb = true → ∀ y ∈ l2, Rlog.term m'.g y.idx = some y.term) := Lib.hid fun h => by
            obtain ⟨h1, h2, h3⟩ := hbb h
            exact HLed.out h1 h2 h3
          clear hbb HLed v0 v1
          have hcf : decide ((ck : Int) < (F : Int)) = false := by simp; omega
          have hlc := HLc.out
          have hL63 : L2 ≤ 9223372036854775807 := by omega
          clear hlc
          go_wp2_with fail
          go_loopw [123] (fun i wi => ∃ j : Nat, j ≤ L2 ∧ i = .int .i64 (j : Int) ∧ Hid (Below w9.heap.size w9 wi)) (fun i _ => L2 - (intOf i).toNat)
          case atStart => exact ⟨0, Nat.zero_le _, rfl, Lib.hid (Below.refl _ _)⟩
          case round =>
            obtain ⟨j, hj, rfl, HBi⟩ := hrel
            by_cases hjn : j < L2
            · --<IA
              obtain ⟨b', o', en, rfl, hbl', hej, hfour⟩ := RE.at_ HRe9.out hjn
              have hfr := RlgWalkC.Four.below hfour HBi.out (Nat.lt_of_lt_of_le hbl' hsz9)
              have f0 := hfr.c0
              have f1 := hfr.c1
              have f2 := hfr.c2
              have f3 := hfr.c3
              obtain ⟨et, ei, ek, ed⟩ := en
              simp only at f0 f1 f2 f3
              obtain ⟨we, hwe⟩ : ∃ we, wr.alloc (.cells #[.int .u64 (et : Int), .int .u64 (ei : Int), .int .i64 ek, .string ed] 81) = we := ⟨_, rfl⟩
              have hre : we.heap[wr.heap.size]? = some (.cells #[.int .u64 (et : Int), .int .u64 (ei : Int), .int .i64 ek, .string ed] 81 (0, 0)) := by rw [← hwe]; exact heap_alloc_new wr _
              have hbe : Below wr.heap.size wr we := by rw [← hwe]; exact (Below.refl _ _).alloc (Nat.le_refl _) _
              have hbd : Below w9.heap.size w9 we.drew := (HBi.out.trans (hbe.mono HBi.out.size)).drew
              have z0 : we.drew.cell? ⟨wr.heap.size, 0, none⟩ = some (.int .u64 (et : Int)) := by show we.cell? _ = _; rw [cell_at hre]; rfl
              have z1 : we.drew.cell? ⟨wr.heap.size, 1, none⟩ = some (.int .u64 (ei : Int)) := by show we.cell? _ = _; rw [cell_at hre]; rfl
              have hatd := HA9.out.below hbd
              obtain ⟨qd, vd, hlgd, hLgd⟩ := hatd.log
              have hein : (⟨et, ei, ek, ed⟩ : Ent) ∈ l2 := List.mem_of_getElem? hej
              have heb : EntB ⟨et, ei, ek, ed⟩ := HA6b.out ⟨et, ei, ek, ed⟩ (HSub.out _ hein)
              have hte : Hid (∃ (tv : Nat) (ev : Int), (bb = true → tv = et ∧ ev = 0) ∧ Calls Tryz.prog 28 #[.pointer (some ⟨qd, 0, none⟩), .int .u64 (ei : Int)] we.drew fun e w' => e = .returned (.tuple #[.int .u64 (tv : Int), .int .i64 ev]) ∧ we.drew = w') := Lib.hid (by
                have hib : ei < 18446744073709551616 := heb.idx
                cases htm : Rlog.term m'.g ei with
                | none => exact ⟨0, 20, fun hb => (by have := HLed2.out hb _ hein; rw [show (⟨et, ei, ek, ed⟩ : Ent).idx = ei from rfl, htm] at this; cases this), RlgWalkE.term_no hlgd hib htm⟩
                | some tt' => exact ⟨tt', 0, fun hb => (by have := HLed2.out hb _ hein; rw [show (⟨et, ei, ek, ed⟩ : Ent).idx = ei from rfl, htm] at this; cases this; exact ⟨rfl, rfl⟩), RlgWalkE.term_yes hlgd hatd.b.fine hib htm⟩)
              obtain ⟨tv, ev, hbb2, hTe⟩ := hte.out
              have HLgd := Lib.hid hLgd
              have HTe := Lib.hid hTe
              have HBB := Lib.hid hbb2
              have HWe := Lib.hid hwe
              have HBd := Lib.hid hbd
              clear hwe hre hbe hbd hatd hlgd hLgd hein heb hte hbb2 hTe hfr hfour hej
              as_aux_lemma =>
              go_upto_region 31 with fail
              rw [HWe.out]
              go_region_held3 (fun W => W.cell? ⟨wr.heap.size, 1, none⟩ = some (.int .u64 (ei : Int)))
                (first
                  | (with_reducible exact z1))
                (first
                  | (go_at_call 16
                     with_reducible refine HLgd.out.mono ?_
                     rintro e wy ⟨rfl, rfl⟩)
                  | (go_at_call 28
                     with_reducible refine HTe.out.mono ?_
                     rintro e wy ⟨rfl, rfl⟩))
              all_goals
                have hbd := HBd.out
                have HB0 : Hid (Below w9.heap.size w9 we.drew) := Lib.hid hbd
                have hbb := HBB.out
                clear HBB HTe HLgd HWe HBd hbd z1 f0 f1 f2 f3 hbl' hA7 hA8 hlt8 hsz9 hk600 hfew hwb hF1 hbl hn20 hzt
                cases bb with
                | false =>
                  clear hbb
                  as_aux_lemma =>
                  go_wp2_with fail
                  go_roundw
                  case rel => exact ⟨j + 1, by omega, by go_num, HB0⟩
                  case measure => simp [intOf]; omega
                | true =>
                  obtain ⟨rfl, rfl⟩ := hbb rfl
                  clear hbb
                  as_aux_lemma =>
                  go_wp2_with fail
                  go_roundw
                  case rel => exact ⟨j + 1, by omega, by go_num, HB0⟩
                  case measure => simp [intOf]; omega
              --IA>
            · --<IZ
              obtain rfl : j = L2 := by omega
              have hF2 : Hid (∃ mk, Run B w3 p (700 + 700 * (k + 1)) wr mk) := Lib.hid ⟨m', HA9.out.below HBi.out, HBase'.out, HSB9.out.trans (HBi.out.mono HA9.out.base)⟩
              go_wp2_with fail
              go_roundw
              case rel => exact ⟨k + 1, by omega, by go_num, hF2⟩
              case measure => simp [intOf]; omega
              --IZ>
          --IN>
        --RE>
      --BODY>
    · obtain rfl : k = m := by omega
      obtain ⟨mk, hrun⟩ := HR.out
      have HF := Lib.hid (HB3.out.trans (hrun.since.mono HBw.out))
      clear hrun
      go_wp2
      go_ret
      exact ⟨rfl, HF.out⟩
  --LOOP>
end Go.Proofs.YtokifeghoodkgaaGreat.LawG
namespace Go.Proofs.YtokifeghoodkgaaGreat.PRaftAppendsUpto
open Go.ChangeShapes Go.WideShapes Go.ChangeAt Go.RowKit Go.Proofs.YtokifeghoodkgaaGreat.Kit Go.Proofs.YtokifeghoodkgaaGreat.Frame
set_option linter.unusedVariables false

theorem own : ownKnob Tryz.prog.godebug = none := by kernel_rfl
theorem laidOut : laidOutB Tryz.prog = true := by kernel_rfl

set_option maxRecDepth 100000 in
theorem contract (H : Type) (enc : TypeId × Value → H) (W : World) (base : Nat) (args : Array Value) (ds gs : List (DataW H)) (before : List MemPlace)
    (hval : ∀ (j : Nat) t v, Tryz.f7.params[j]? = some t → args[j]? = some v → Value.okWide Tryz.prog W .any base t v)
    (hW : DataW.Whole enc Tryz.prog Tryz.f7.params.toList Rows.raftAppendsSpec.vars false W args.toList ds gs before)
    (hk : Rows.uptoSmall H (ds ++ gs) = true) :
    Calls Tryz.prog 7 args W fun e W' => ∃ v, e = .returned v ∧ Rows.raftAppendsSpec.post enc Tryz.prog Tryz.f7 false true false false W args v W' := by
  have hW' := hW
  obtain ⟨p, q, hA0, hV, rfl, hfz, hnd⟩ := hW
  have hA : DataW.TrodAll enc Tryz.prog W 0 (fun _ => true) true Tryz.f7.params.toList args.toList ds p := hA0
  rw [Tryz.params7] at hA hval
  obtain ⟨v0, vs0, d0, ds0, p0, q0, hargs, rfl, rfl, h0, r0⟩ := trodAll_cons hA
  obtain ⟨v1, vs1, d1, ds1, p1, q1, rfl, rfl, rfl, h1, r1⟩ := trodAll_cons r0
  obtain ⟨rfl, rfl, rfl⟩ := trodAll_nil r1
  obtain rfl : args = #[v0, v1] := by cases args; simp_all
  obtain ⟨rfl, rfl⟩ := trodVars_none hV
  have lt0 : ∀ x ∈ p0, x.block < W.heap.size := by obtain ⟨m, hm⟩ := h0; exact DataW.trod_lt m _ _ _ hm
  obtain ⟨z0, A0, n0, c0, l0, rfl, hz0_0, hl0_1, d0_2⟩ := OpensC.arg_start (hval 0 29 v0 rfl rfl) h0
  have lt1 : ∀ x ∈ p1, x.block < W.heap.size := by obtain ⟨m, hm⟩ := h1; exact DataW.trod_lt m _ _ _ hm
  obtain ⟨C1, m1, cc1, L1, rfl, hm1_0, hh1_1, d1_2⟩ := OpensC.arg_calls (hval 1 30 v1 rfl rfl) h1
  have hall : Rows.uptoBulkAll _ ≤ 1048576 := of_decide_eq_true hk
  clear hA0
  refine (LawG.appends_walk z0 A0 n0 c0 l0 C1 m1 cc1 L1 W hz0_0 hl0_1 hm1_0 (OpensC.small d0_2 hh1_1 d1_2 hall)).mono fun e W' ⟨he, bel⟩ => ?_
  subst he
  exact ⟨_, rfl, _, _, _, [], _, [], hW', trodAll_mk1 (shut_bool Tryz.underlying4 _), (trodAll_cons_mk (Below.trod laidOut (by kernel_rfl) (of_decide_eq_true (by kernel_rfl)) h0 bel lt0) (trodAll_cons_mk (Below.trod laidOut (by kernel_rfl) (of_decide_eq_true (by kernel_rfl)) h1 bel lt1) trodAll_mk0)), rfl, bel.frame _, fun h => by cases h⟩

set_option maxRecDepth 100000 in
theorem lifted (os : Os) (started : os.Started) (H : Type) (enc : TypeId × Value → H) (F : Stop.Interp) :
    ReturnsInHanded {} Tryz.checked os 7 .any ((Rows.OpenSpec.upto Rows.raftAppendsSpec).pre6 enc Tryz.prog Tryz.f7 Rows.raftAppendsUptoRow.domain false) (((Rows.OpenSpec.upto Rows.raftAppendsSpec).at F).post enc Tryz.prog Tryz.f7 false true false false) := by
  refine returnsInHanded_of_cond (C := Tryz.checked) (s := Rows.OpenSpec.upto Rows.raftAppendsSpec) (k := Rows.uptoSmall) rfl own started (by kernel_rfl) Tryz.func7
    (OpenSpec.witness (enc := enc) (C := Tryz.checked) (s := Rows.OpenSpec.upto Rows.raftAppendsSpec) (k := Rows.uptoSmall) rfl false ⟨#[], #[.agg #[.int .i64 0, .int .u64 0, .int .i64 0, .int .u64 0, .int .u64 0, .int .u64 0, .string .empty, .slice none 0 0], .slice none 0 0], []⟩ 8 (by kernel_rfl) (by kernel_rfl) (by kernel_rfl)
      (x := ([.agg [.lit (.int .i64 0), .agg [.lit (.int .u64 0), .lit (.int .i64 0)], .agg [.lit (.int .u64 0), .lit (.int .u64 0), .lit (.int .u64 0), .lit (.string [])], .nil], .nil], [], [])) (by kernel_rfl) rfl (by kernel_rfl)) ?_
  intro W base args ds gs before hval hW _ hk _
  exact contract H enc W base args ds gs before hval hW hk

theorem over : Rows.raftAppendsUptoRow.holds Tryz.pinned (Rows.OpenSpec.upto Rows.raftAppendsSpec) :=
  OpenClaim.holds_of_cond 7 Tryz.f7 rfl rfl rfl rfl rfl rfl rfl ⟨rfl, rfl, rfl, rfl, rfl⟩ rfl rfl rfl rfl rfl (by kernel_rfl) Tryz.func7 (by kernel_rfl)
    (of_decide_eq_true (by kernel_rfl)) (by unfold Func.isWrapper; first | (rw [if_pos (by decide +kernel)]; kernel_rfl) | (rw [if_neg (by decide +kernel)]; exact ⟨rfl, rfl⟩))
    (fun os started H enc _ F => lifted os started H enc F)

theorem proved : Rows.RaftAppendsUptoSaid := over
end Go.Proofs.YtokifeghoodkgaaGreat.PRaftAppendsUpto
