/- The statement RaftAlone of tontinelaw12: for every input the call returns true, and each argument reads afterwards as it read before. -/
import Derived.Test.YtokifeghoodkgaaGY
import Derived.Test.YtokifeghoodkgaaNodB
import Derived.Test.YtokifeghoodkgaaWalkJ
import Derived.Test.YtokifeghoodkgaaFrame
import Derived.Deep.Slices
import Derived.Deep.Strs
set_option linter.unusedVariables false
namespace Go.Proofs.Ytokifeghoodkgaa.WalkP
open Go.RowKit Go.Proofs.Ytokifeghoodkgaa.Kit Go.Proofs.Ytokifeghoodkgaa.Blocks Go.Proofs.Ytokifeghoodkgaa.Rlog Go.Proofs.Ytokifeghoodkgaa.Ents Go.Proofs.Ytokifeghoodkgaa.LogAt Go.Proofs.Ytokifeghoodkgaa.Nod Go.Proofs.Ytokifeghoodkgaa.NodAt Go.Proofs.Ytokifeghoodkgaa.AppL Go.Proofs.Ytokifeghoodkgaa.WalkA Go.Proofs.Ytokifeghoodkgaa.WalkB Go.Proofs.Ytokifeghoodkgaa.WalkC Go.Proofs.Ytokifeghoodkgaa.WalkD Go.Proofs.Ytokifeghoodkgaa.WalkE Go.Proofs.Ytokifeghoodkgaa.WalkF Go.Proofs.Ytokifeghoodkgaa.WalkH

theorem timeout_nil (w : World) : Calls Try.prog 8 #[.pointer none] w fun e w' => e = .returned (.tuple #[]) ∧ Below w.heap.size w w' := by
  go_enter Try.func8, Try.ntmps8
  go_wp2
  (try simp only [Exit.inBlock, Exit.then]); refine bodyPost_ret (results_none rfl _ _ _) rfl ?_
  exact ⟨rfl, Below.refl _ _⟩
theorem receive_nil (x : Msg) (a : Pl) (w : World) : Calls Try.prog 12 #[.pointer none, ltV x a] w fun e w' => e = .returned (.tuple #[]) ∧ Below w.heap.size w w' := by
  obtain ⟨kd, fr, tt, tm, ix, pv, cm, ok, es, d⟩ := x
  unfold ltV
  (try simp only)
  go_enter Try.func12, Try.ntmps12
  go_wp2
  (try simp only [Exit.inBlock, Exit.then]); refine bodyPost_ret (results_none rfl _ _ _) rfl ?_
  exact ⟨rfl, (Below.refl _ w).alloc (Nat.le_refl _) _⟩
theorem propose_nil (s : ByteArray) (w : World) : Calls Try.prog 9 #[.pointer none, .string s] w fun e w' => e = .returned (.tuple #[.int .u64 0, .int .i64 30]) ∧ Below w.heap.size w w' := by
  go_enter Try.func9, Try.ntmps9
  go_wp2
  go_ret2
  exact ⟨rfl, Below.refl _ _⟩
end Go.Proofs.Ytokifeghoodkgaa.WalkP
set_option linter.unusedVariables false
namespace Go.Proofs.Ytokifeghoodkgaa.Start
open Go.Proofs.Ytokifeghoodkgaa.Rlog Go.Proofs.Ytokifeghoodkgaa.Nod
open Go.Proofs.Ytokifeghoodkgaa.Quorum (mem size need sound maj node has)
open Go.Proofs.Ytokifeghoodkgaa.WalkJ (newNd)

def g0 : G := ⟨⟨0, 0, 7, ByteArray.empty⟩, []⟩
def m0 : Nd := newNd 0 0 (-1) g0
def m1 : Nd := ⟨0, 1, 0, g0, 1, -1, 0, 1, zeros, zeros, [], false, [{ blankM with k := 1, t := 1, tm := 1 }, { blankM with k := 1, t := 2, tm := 1 }], true⟩
def voteL : Msg := { blankM with k := 2, f := 1, t := 0, tm := 1, ok := true }
theorem none_rest : mem 7 = [0, 1, 2] := by decide
theorem cfg0 {m : Nd} (h : m.g = g0) : cfg m = 7 := by unfold cfg; rw [h]; decide
theorem rest0 {m : Nd} (h : m.g = g0) (hi : m.id = 0) : rest m = [1, 2] := by unfold rest; rw [cfg0 h, hi]; decide
theorem maj1 : maj 7 1 = false := by decide
theorem maj3 : maj 7 3 = true := by decide
theorem may0 : mayStand m0 = true := by decide
theorem asks0 : asks (stands m0) = m1 := by
  unfold asks
  rw [rest0 rfl rfl]
  rfl
theorem timeout0 : timeout m0 = m1 := by
  unfold timeout
  rw [if_neg (by rw [may0]; decide), asks0]
  unfold lead
  rw [if_neg (by rw [cfg0 rfl]; intro h; have := h.2; rw [show m1.votes = 1 from rfl, maj1] at this; cases this)]
theorem hears1 : hears (taken m1) voteL = true := by decide
def mv : Nd := { taken m1 with votes := 3 }
theorem received : receive (taken m1) voteL = (Nod.add (leads mv) 0 ByteArray.empty).2 := by
  unfold receive
  rw [if_pos hears1]
  unfold heard
  rw [if_neg (by decide)]
  unfold handles
  rw [if_neg (by decide), if_pos (by decide)]
  unfold voted
  rw [if_pos (by decide)]
  show lead mv = _
  unfold lead
  rw [if_pos ⟨rfl, by rw [cfg0 rfl]; exact maj3⟩]
def ma : Nd := added (leads mv) 0 ByteArray.empty
theorem can0 : canAdd (leads mv) 0 ByteArray.empty = true := by decide
theorem cfga {m : Nd} (h : m.g = ma.g) : cfg m = 7 := by unfold cfg; rw [h]; decide
theorem resta {m : Nd} (h : m.g = ma.g) (hi : m.id = 0) : rest m = [1, 2] := by unfold rest; rw [cfga h, hi]; decide
def mb : Nd := write (write ma 1) 2
theorem beata : beat ma = mb := by
  unfold beat
  rw [if_pos (show ma.role = 2 from rfl), resta rfl rfl]
  rfl
theorem best0 : best mb = 0 := by
  unfold best
  rw [cfga (m := mb) rfl]
  refine reach_of (.inr ⟨by decide, ?_, ?_⟩)
  · show need 7 ≤ cnt 7 [1, 0, 0, 0, 0, 0, 0] 0
    decide
  · show cnt 7 [1, 0, 0, 0, 0, 0, 0] 1 < need 7
    decide
theorem advance0 : advance mb = mb := by
  unfold advance mayAdvance
  rw [best0, if_neg (by simp)]
theorem led : receive (taken m1) voteL = mb := by
  rw [received]
  unfold Nod.add
  rw [if_pos can0]
  show advance (beat ma) = mb
  rw [beata, advance0]
theorem led_says : mb.role = 2 ∧ mb.leader = 0 ∧ mb.term = 1 ∧ mb.vote = 0 ∧ mb.kept.length = 1 ∧ mb.out.length = 2 := ⟨rfl, rfl, rfl, rfl, rfl, rfl⟩
theorem fine0 : Fine g0 := fine_new (by decide) (by decide) ⟨by decide, by decide, by decide⟩ (fun e h => by cases h)
theorem b0 : NdB 0 m0 := WalkJ.newNd_b (by decide) (by decide) (by decide) (by decide) fine0 (by decide)
end Go.Proofs.Ytokifeghoodkgaa.Start
set_option linter.unusedVariables false
namespace Go.Proofs.Ytokifeghoodkgaa.Begun
open Go.RowKit Go.Proofs.Ytokifeghoodkgaa.Kit Go.Proofs.Ytokifeghoodkgaa.Blocks Go.Proofs.Ytokifeghoodkgaa.Rlog Go.Proofs.Ytokifeghoodkgaa.Ents Go.Proofs.Ytokifeghoodkgaa.LogAt Go.Proofs.Ytokifeghoodkgaa.Nod Go.Proofs.Ytokifeghoodkgaa.NodAt Go.Proofs.Ytokifeghoodkgaa.AppL Go.Proofs.Ytokifeghoodkgaa.WalkA Go.Proofs.Ytokifeghoodkgaa.WalkB Go.Proofs.Ytokifeghoodkgaa.WalkC Go.Proofs.Ytokifeghoodkgaa.WalkD Go.Proofs.Ytokifeghoodkgaa.WalkE Go.Proofs.Ytokifeghoodkgaa.WalkF Go.Proofs.Ytokifeghoodkgaa.WalkH Go.Proofs.Ytokifeghoodkgaa.WalkI Go.Proofs.Ytokifeghoodkgaa.Start

/-- What was taken, in a block of its own. -/
def RBox (W : World) (r : Nat) (t : Nat) (v : Int) (A : Option Addr) (n c : Nat) (i : Bool) (A' : Option Addr) (n' c' : Nat) (s : Bool) (k : Nat) : Prop :=
  W.heap[r]? = some (.cells #[.int .u64 (t : Int), .int .i64 v, .slice A n c, .bool i, .slice A' n' c', .bool s, .int .u64 (k : Int)] 41 (0, 0))
theorem new_log0 (w : World) : Calls Try.prog 6 #[.agg #[.int .u64 0, .int .u64 0, .int .u64 7, .string ⟨#[]⟩], .slice none 0 0] w (RlgWalkD.NewLog 63 w g0) :=
  RlgWalkD.new_made (s := g0.snap) ⟨by decide, by decide, by decide⟩ none 0 0 [] w (RE.nil _ _ _) (by simp) (by omega) (by decide +kernel) (by decide +kernel)
theorem new_node0 {B q : Nat} {v : Value} {w : World} (h : LogAt 63 B w q v g0) : Calls Try.prog 7 #[.int .i64 0, .agg #[.int .u64 0, .int .i64 (-1)], .pointer (some ⟨q, 0, none⟩)] w fun e w' =>
    ∃ p, e = .returned (.tuple #[.pointer (some ⟨p, 0, none⟩), .int .i64 0]) ∧ PAt B w' p ⟨q, v, .slice none 0 0, .slice none 0 0, [], fun _ => False⟩ m0 ∧ Below w.heap.size w w' := by
  have := WalkJ.new_any h fine0 0 0 (-1)
  refine this.mono fun e w' h2 => ?_
  rw [if_pos (by decide)] at h2
  obtain ⟨p, h3, _, h4, h5⟩ := h2
  exact ⟨p, h3, h4, h5⟩
section
variable {B p : Nat} {z : Seat} {w : World}
theorem timeout_0 (h : PAt B w p z m0) : Calls Try.prog 8 #[.pointer (some ⟨p, 0, none⟩)] w (Does B w p z m1) := by
  have := timeout_any h b0 (by omega)
  rwa [timeout0] at this
theorem receive_0 (h : PAt B w p z (taken m1)) : Calls Try.prog 12 #[.pointer (some ⟨p, 0, none⟩), .agg #[.int .i64 2, .int .i64 1, .int .i64 0, .int .u64 1, .int .u64 0, .int .u64 0, .int .u64 0, .bool true, .slice none 0 0, .string ⟨#[]⟩]] w (Does B w p z mb) := by
  have hb : NdB 22 (taken m1) := by have := timeout_b b0 (by omega); rw [timeout0] at this; exact taken_b this
  have := WalkO.receive_any h hb (by omega) voteL noPl ⟨by decide, by decide, by decide, by decide, by decide, by decide, by decide, by decide, by decide, by decide, (fun e h => by cases h), by decide⟩ (Fit.none _ _ rfl) (by decide)
  rw [led] at this
  exact this
/-- What a call of a node turns lies above what the node was made of. -/
theorem below_grow {w0 w' : World} {m : Nd} {z' : Seat} (hB : B ≤ w0.heap.size) (b : Below B w0 w) (h : PAt B w p z m) (g : Grow p z z' w w') : Below B w0 w' :=
  below_only b g.only hB fun q hq => (NodeAt.mine_lt h hq).1
theorem below_take {w0 w' : World} {m : Nd} (hB : B ≤ w0.heap.size) (b : Below B w0 w) (h : PAt B w p z m) (g : Only (fun q => q = p) w w') : Below B w0 w' :=
  below_only b g hB fun q hq => by subst hq; exact h.low
theorem outs_form {m : Nd} (h : PAt B w p z m) : ∃ A c, z.vo = .slice A m.out.length c := by
  obtain ⟨A, c, e, _⟩ := own_form h.outs
  exact ⟨A, c, by rw [e, ← h.said, List.length_map]⟩
theorem kept_form {m : Nd} (h : PAt B w p z m) : ∃ A c, z.vk = .slice A m.kept.length c := by
  obtain ⟨A, c, e, _⟩ := own_form h.kept
  exact ⟨A, c, e⟩
set_option maxRecDepth 6000 in
set_option maxHeartbeats 4000000 in
theorem begun_true (w : World) : Calls Try.prog 5 #[] w fun e w' => e = .returned (.bool true) ∧ Below w.heap.size w w' := by
  have HN0 := Lib.hid (new_log0 w)
  go_enter Try.func5, Try.ntmps5
  go_wp2_with fail
  refine HN0.out.mono ?_
  rintro e w1 ⟨q, v, rfl, hlog, hb1⟩
  have HN1 := Lib.hid (new_node0 hlog)
  have HB1 := Lib.hid hb1
  clear hlog HN0 hb1
  go_wp2_with fail
  refine HN1.out.mono ?_
  rintro e w2 ⟨p, rfl, h2, hb2⟩
  have HB2 := Lib.hid (HB1.out.trans (hb2.mono HB1.out.size))
  have HT := Lib.hid (timeout_0 h2)
  have H2 := Lib.hid h2
  clear HN1 HB1 h2 hb2
  as_aux_lemma =>
  go_wp2_with fail
  with_reducible refine HT.out.mono ?_
  rintro e w3 ⟨rfl, z3, h3, g3⟩
  have HB3 := Lib.hid (below_grow (Nat.le_refl _) HB2.out H2.out g3)
  have HK := Lib.hid (take_any h3)
  obtain ⟨A3, c3, ho3⟩ := outs_form h3
  obtain ⟨K3, k3, hk3⟩ := kept_form h3
  have H3 := Lib.hid h3
  have HO3 := Lib.hid ho3
  have HK3 := Lib.hid hk3
  clear h3 g3 HT HB2 H2 ho3 hk3
  as_aux_lemma =>
  go_wp2_with fail
  with_reducible refine HK.out.mono ?_
  rintro e w4 ⟨rfl, h4, o4⟩
  have HB4 := Lib.hid (below_take (Nat.le_refl _) HB3.out H3.out o4)
  have hrv : ReadyV z3 m1 = .agg #[.int .u64 1, .int .i64 0, .slice K3 0 k3, .bool false, .slice A3 2 c3, .bool true, .int .u64 0] := by
    unfold ReadyV
    rw [HO3.out, HK3.out]
    rfl
  rw [hrv]
  obtain ⟨w5, hw5⟩ : ∃ w5, w4.alloc (.cells #[.int .u64 1, .int .i64 0, .slice K3 0 k3, .bool false, .slice A3 2 c3, .bool true, .int .u64 0] 41) = w5 := ⟨_, rfl⟩
  have hr5 : w5.heap[w4.heap.size]? = some (.cells #[.int .u64 1, .int .i64 0, .slice K3 0 k3, .bool false, .slice A3 2 c3, .bool true, .int .u64 0] 41 (0, 0)) := by rw [← hw5]; exact heap_alloc_new w4 _
  have hb5 : Below w4.heap.size w4 w5 := by rw [← hw5]; exact (Below.refl _ w4).alloc (Nat.le_refl _) _
  have h5 := h4.below hb5
  have hp4 : p < w4.heap.size := h4.plt
  have hnm : ¬ Mine p (bare z3) w4.heap.size := fun e => by have := (NodeAt.mine_lt h4 e).2; omega
  have HB5 := Lib.hid (HB4.out.trans (hb5.mono HB4.out.size))
  have HR := Lib.hid (receive_0 h5)
  have H5 := Lib.hid h5
  have HR5 := Lib.hid hr5
  have HW5 := Lib.hid hw5
  have HNM := Lib.hid hnm
  clear h4 o4 HK HB3 H3 HO3 HK3 hrv hw5 hr5 hb5 h5 hnm HB4
  go_wp2_with fail
  rw [HW5.out]
  with_reducible refine HR.out.mono ?_
  rintro e w6 ⟨rfl, z6, h6, g6⟩
  have HR6 := Lib.hid (g6.block HR5.out HNM.out)
  have HB6 := Lib.hid (below_grow (Nat.le_refl _) HB5.out H5.out g6)
  have HK := Lib.hid (take_any h6)
  obtain ⟨A6, c6, ho6⟩ := outs_form h6
  obtain ⟨K6, k6, hk6⟩ := kept_form h6
  have H6 := Lib.hid h6
  have HO6 := Lib.hid ho6
  have HK6 := Lib.hid hk6
  clear h6 g6 HR HB5 H5 HR5 HW5 HNM ho6 hk6
  as_aux_lemma =>
  go_wp2_with fail
  with_reducible refine HK.out.mono ?_
  rintro e w7 ⟨rfl, h7, o7⟩
  have HB7 := Lib.hid (below_take (Nat.le_refl _) HB6.out H6.out o7)
  have hr7 := o7.heap HR6.out (show ¬ (w4.heap.size = p) by omega)
  have hrv : ReadyV z6 mb = .agg #[.int .u64 1, .int .i64 0, .slice K6 1 k6, .bool false, .slice A6 2 c6, .bool false, .int .u64 0] := by
    unfold ReadyV
    rw [HO6.out, HK6.out]
    rfl
  rw [hrv]
  obtain ⟨w8, hw8⟩ : ∃ w8, w7.alloc (.cells #[.int .u64 1, .int .i64 0, .slice K6 1 k6, .bool false, .slice A6 2 c6, .bool false, .int .u64 0] 41) = w8 := ⟨_, rfl⟩
  have hr8 : w8.heap[w7.heap.size]? = some (.cells #[.int .u64 1, .int .i64 0, .slice K6 1 k6, .bool false, .slice A6 2 c6, .bool false, .int .u64 0] 41 (0, 0)) := by rw [← hw8]; exact heap_alloc_new w7 _
  have hb8 : Below w7.heap.size w7 w8 := by rw [← hw8]; exact (Below.refl _ w7).alloc (Nat.le_refl _) _
  have h8 := h7.below hb8
  have hl7 : w4.heap.size < w7.heap.size := lt_at hr7
  have hs5 := (hb8.block _ hl7).trans hr7
  have HB8 := Lib.hid (HB7.out.trans (hb8.mono HB7.out.size))
  have HS := Lib.hid (status_any h8)
  have HR8 := Lib.hid hr8
  have HR5 := Lib.hid hs5
  have HW8 := Lib.hid hw8
  clear h7 o7 HK HB6 H6 HO6 HK6 hrv hw8 hr8 hb8 h8 hr7 hs5 HB7 HR6
  go_wp2_with fail
  rw [HW8.out]
  with_reducible refine HS.out.mono ?_
  rintro e w9 ⟨rfl, hb9⟩
  rw [show StatusV (taken mb) = .tuple #[.int .i64 2, .int .i64 0, .agg #[.int .u64 1, .int .i64 0], .int .u64 0] from rfl]
  obtain ⟨w10, hw10⟩ : ∃ w10, w9.alloc (.cells #[.int .u64 1, .int .i64 0] 35) = w10 := ⟨_, rfl⟩
  have hb10 : Below w9.heap.size w9 w10 := by rw [← hw10]; exact (Below.refl _ w9).alloc (Nat.le_refl _) _
  have hrh : w10.heap[w9.heap.size]? = some (.cells #[.int .u64 1, .int .i64 0] 35 (0, 0)) := by rw [← hw10]; exact heap_alloc_new w9 _
  have hb8t : Below w8.heap.size w8 w10 := hb9.trans (hb10.mono hb9.size)
  have r5 := (hb8t.block _ (lt_at HR5.out)).trans HR5.out
  have r8 := (hb8t.block _ (lt_at HR8.out)).trans HR8.out
  have y4 : w10.cell? ⟨w4.heap.size, 4, none⟩ = some (.slice A3 2 c3) := by rw [cell_at r5]; rfl
  have y5 : w10.cell? ⟨w4.heap.size, 5, none⟩ = some (.bool true) := by rw [cell_at r5]; rfl
  have u2 : w10.cell? ⟨w7.heap.size, 2, none⟩ = some (.slice K6 1 k6) := by rw [cell_at r8]; rfl
  have u4 : w10.cell? ⟨w7.heap.size, 4, none⟩ = some (.slice A6 2 c6) := by rw [cell_at r8]; rfl
  have t0 : w10.cell? ⟨w9.heap.size, 0, none⟩ = some (.int .u64 1) := by rw [cell_at hrh]; rfl
  have t1 : w10.cell? ⟨w9.heap.size, 1, none⟩ = some (.int .i64 0) := by rw [cell_at hrh]; rfl
  have HB10 := Lib.hid (HB8.out.trans (hb8t.mono HB8.out.size))
  have HW10 := Lib.hid hw10
  clear hb9 hw10 hb10 hrh hb8t r5 r8 HS HB8 HR8 HR5 HW8
  as_aux_lemma =>
  go_upto_region 8 with fail
  rw [HW10.out]
  go_wp2
  go_ret
  exact ⟨rfl, HB10.out⟩
end
end Go.Proofs.Ytokifeghoodkgaa.Begun
set_option linter.unusedVariables false
namespace Go.Proofs.Ytokifeghoodkgaa.Alo
open Go.Proofs.Ytokifeghoodkgaa.Rlog Go.Proofs.Ytokifeghoodkgaa.Nod
open Go.Proofs.Ytokifeghoodkgaa.Quorum (mem size need sound maj node has)
open Go.Proofs.Ytokifeghoodkgaa.WalkJ (newNd)

def gA (i : Nat) : G := ⟨⟨0, 0, 2 ^ i, ByteArray.empty⟩, []⟩
def mA (i : Nat) : Nd := newNd i 0 (-1) (gA i)
/-- The node i leads, alone, with k entries that are all committed. -/
structure Solo (i k : Nat) (m : Nd) : Prop where
  id : m.id = i
  i7 : i < 7
  term : m.term = 1
  vote : m.vote = (i : Int)
  role : m.role = 2
  snap : m.g.snap = (gA i).snap
  fine : Fine m.g
  len : m.g.es.length = k
  com : m.commit = k
  kept : m.kept.length = k
  klow : ∀ e ∈ m.kept, e.idx ≤ k
  out : m.out = []
  ml : m.mat.length = 7
  cfg : cfg m = 2 ^ i
  noc : ∀ e ∈ m.g.es, e.kind ≠ 2
  lt : (last m.g).2 ≤ 1
theorem mem_one : ∀ i, i < 7 → mem (2 ^ i) = [i] ∧ size (2 ^ i) = 1 ∧ need (2 ^ i) = 1 ∧ maj (2 ^ i) (2 ^ i) = true ∧ sound (2 ^ i) = true ∧ (2 ^ i).testBit i = true := by decide
theorem members_none {g : G} (h : ∀ e ∈ g.es, e.kind ≠ 2) (n : Nat) : members g n = (g.snap.cfg, g.snap.idx) := by
  unfold members
  have := pick_none [] g.es n (fun e he hc => h e he hc.1)
  rw [List.nil_append] at this
  rw [this]
  rfl
theorem rest_one {m : Nd} {i : Nat} (h7 : i < 7) (hi : m.id = i) (hc : cfg m = 2 ^ i) : rest m = [] := by
  unfold rest
  rw [hc, (mem_one i h7).1, hi]
  simp
theorem beat_one {m : Nd} {i : Nat} (h7 : i < 7) (hi : m.id = i) (hc : cfg m = 2 ^ i) : beat m = m := by
  unfold beat
  rw [rest_one h7 hi hc]
  split <;> rfl
theorem told_at {l : List Nat} {k x : Nat} (h : k < l.length) : told (l.set k x) k = x := by
  unfold told
  simp [List.getD, h]
theorem num_one : ∀ i, i < 7 → ∀ p : Nat → Bool, Quorum.num (fun j => (2 ^ i).testBit j && p j) = if p i = true then 1 else 0 := by
  intro i hi p
  have h1 : (Quorum.num fun j => (2 ^ i).testBit j && p j) = Quorum.num fun j => decide (j = i) && p i := Quorum.num_congr fun j _ => by
    rw [Nat.testBit_two_pow]
    by_cases h : j = i
    · subst h; simp
    · simp [h, Ne.symm h]
  rw [h1]
  have h7 : ∀ i, i < 7 → (Quorum.num fun j => decide (j = i)) = 1 := by decide
  cases hp : p i
  · simp only [Bool.and_false]
    exact Quorum.num_zero fun _ _ => rfl
  · simp only [Bool.and_true]
    exact h7 i hi
theorem best_one {m : Nd} {i : Nat} (h7 : i < 7) (hc : cfg m = 2 ^ i) : best m = told m.mat i := by
  unfold best
  rw [hc]
  refine reach_of (.inr ⟨by rw [(mem_one i h7).2.1]; decide, ?_, ?_⟩)
  · unfold cnt
    rw [(mem_one i h7).2.2.1, num_one i h7, if_pos (by simp)]
    exact Nat.le_refl _
  · unfold cnt
    rw [(mem_one i h7).2.2.1, num_one i h7, if_neg (by simp)]
    decide
theorem has_one {i : Nat} (h7 : i < 7) : Quorum.has (2 ^ i) ((i : Nat) : Int) = true := by
  unfold Quorum.has node
  have := (mem_one i h7).2.2.2.2.2
  simp only [Int.toNat_natCast, this, Bool.and_true, decide_eq_true_eq]
  omega
/-- An entry more, committed at once. -/
theorem added_one {m : Nd} {i k : Nat} (h : Solo i k m) (hk : k < 1000) (kind : Int) (d : ByteArray) (hkd : kind = 0 ∨ kind = 1) (hd : d.size ≤ 32768) : (Nod.add m kind d).1 = (k + 1, 0) ∧ Solo i (k + 1) (Nod.add m kind d).2 := by
  have hlast : (last m.g).1 = k := by
    rw [h.fine.last_idx, h.snap, h.len]
    exact Nat.zero_add k
  have hkb : -9223372036854775808 ≤ kind ∧ kind ≤ 9223372036854775807 := by omega
  have hc : canAdd m kind d = true := by
    unfold canAdd addOk
    rw [Bool.and_eq_true, decide_eq_true_eq]
    refine ⟨by omega, may_iff.2 ⟨⟨rfl, by show (last m.g).2 ≤ m.term; rw [h.term]; exact h.lt, hd⟩, ?_⟩⟩
    unfold sortOk
    rcases hkd with e | e
    · have : (new m.g m.term kind d).kind = 0 := e
      rw [this]; rfl
    · have : (new m.g m.term kind d).kind = 1 := e
      rw [this]; rfl
  have hi : (ent m kind d).idx = k + 1 := by show (last m.g).1 + 1 = _; rw [hlast]
  have hf : Fine (added m kind d).g := by
    have := fine_add h.fine m.term kind d (by rw [h.term]; decide) hkb.1 hkb.2 (by omega)
    have hc' : addOk m.g m.term kind d = true := hc
    unfold Rlog.add at this
    rw [if_pos hc'] at this
    exact this
  have hnoc : ∀ e ∈ (added m kind d).g.es, e.kind ≠ 2 := fun e he => by
    have he : e ∈ m.g.es ++ [ent m kind d] := he
    rcases List.mem_append.1 he with he | he
    · exact h.noc e he
    · simp at he
      subst he
      show kind ≠ 2
      omega
  have hcfg : cfg (added m kind d) = 2 ^ i := by
    unfold cfg
    rw [members_none hnoc]
    show m.g.snap.cfg = _
    rw [h.snap]
    rfl
  have hbeat : beat (added m kind d) = added m kind d := beat_one h.i7 h.id hcfg
  have hbest : best (added m kind d) = k + 1 := by
    rw [best_one h.i7 hcfg]
    show told (m.mat.set m.id (ent m kind d).idx) i = _
    rw [h.id, told_at (by rw [h.ml]; exact h.i7), hi]
  have hes : (added m kind d).g.es[k]? = some (ent m kind d) := by
    show (m.g.es ++ [ent m kind d])[k]? = _
    rw [← h.len]; simp
  have hmay : mayAdvance (added m kind d) = true := by
    unfold mayAdvance ofTerm
    rw [hbest]
    have ht := term_at hf hes
    rw [hi] at ht
    rw [ht]
    have e1 : (ent m kind d).term = (added m kind d).term := rfl
    have e2 : (added m kind d).commit = k := h.com
    simp [e1, e2]
  have hgo : goes (added m kind d) = false := by
    unfold goes
    rw [hcfg]
    have e1 : (added m kind d).id = i := h.id
    rw [e1, has_one h.i7]
    simp
  have hadd : Nod.add m kind d = (((ent m kind d).idx, 0), reached (added m kind d)) := by
    unfold Nod.add
    rw [if_pos hc, hbeat]
    unfold advance
    rw [if_pos hmay, if_neg (by rw [hgo]; decide)]
  rw [hadd, hi]
  have hkeep : keepL m.kept [ent m kind d] = m.kept ++ [ent m kind d] := by
    show (m.kept.filter fun x => decide (x.idx < (ent m kind d).idx)) ++ [ent m kind d] = _
    congr 1
    rw [List.filter_eq_self]
    intro a ha
    have := h.klow a ha
    exact decide_eq_true (by omega)
  refine ⟨rfl, h.id, h.i7, h.term, h.vote, h.role, h.snap, hf, ?_, hbest, ?_, ?_, h.out, ?_, hcfg, hnoc, ?_⟩
  · show (m.g.es ++ [ent m kind d]).length = _
    rw [List.length_append, h.len]; rfl
  · show (keepL m.kept [ent m kind d]).length = _
    rw [hkeep, List.length_append, h.kept]; rfl
  · show ∀ e ∈ keepL m.kept [ent m kind d], e.idx ≤ k + 1
    rw [hkeep]
    intro e he
    rcases List.mem_append.1 he with he | he
    · have := h.klow e he; omega
    · simp at he
      subst he
      omega
  · show (m.mat.set _ _).length = 7
    rw [List.length_set]; exact h.ml
  · show (lasts (m.g.es ++ [ent m kind d]) _ _).2 ≤ 1
    rw [lasts_snoc]
    show m.term ≤ 1
    rw [h.term]
    exact Nat.le_refl _
theorem fineA {i : Nat} (h7 : i < 7) : Fine (gA i) := fine_new (mem_one i h7).2.2.2.2.1 rfl ⟨by show 0 < _; decide, by show 0 < _; decide, by
  show 2 ^ i < _
  have : ∀ i, i < 7 → 2 ^ i < 18446744073709551616 := by decide
  exact this i h7⟩ (fun e h => by cases h)
/-- It leads at its first election. -/
theorem leads_one {i : Nat} (h7 : i < 7) : Solo i 1 (timeout (mA i)) := by
  have hcfg : ∀ m : Nd, m.g = gA i → cfg m = 2 ^ i := fun m e => by unfold cfg; rw [e]; rfl
  have hst : mayStand (mA i) = true := by
    unfold mayStand
    have e1 : (members (mA i).g (mA i).commit).1 = 2 ^ i := rfl
    rw [hcfg _ rfl, e1, Nat.or_self]
    exact has_one h7
  have hasks : asks (stands (mA i)) = stands (mA i) := by
    unfold asks
    rw [rest_one h7 rfl (hcfg _ rfl)]
    rfl
  have ht : timeout (mA i) = (Nod.add (leads (stands (mA i))) 0 ByteArray.empty).2 := by
    unfold timeout
    rw [if_neg (by rw [hst]; intro h; rcases h with h | h | h <;> cases h), hasks]
    unfold lead
    rw [if_pos ⟨rfl, by rw [hcfg _ rfl]; exact (mem_one i h7).2.2.2.1⟩]
  have hs : Solo i 0 (leads (stands (mA i))) := ⟨rfl, h7, rfl, rfl, rfl, rfl, fineA h7, rfl, rfl, rfl, fun e h => (by cases h), rfl, rfl, hcfg _ rfl, fun e h => (by cases h), by show 0 ≤ 1; decide⟩
  rw [ht]
  exact (added_one hs (by decide) 0 ByteArray.empty (.inl rfl) (by decide)).2
theorem propose_one {m : Nd} {i k : Nat} (h : Solo i k m) (hk : k < 1000) (d : ByteArray) (hd : d.size ≤ 32768) : (propose m d).1 = (k + 1, 0) ∧ Solo i (k + 1) (propose m d).2 := by
  unfold propose
  rw [if_pos h.role]
  exact added_one h hk 1 d (.inr rfl) hd
end Go.Proofs.Ytokifeghoodkgaa.Alo
set_option linter.unusedVariables false
namespace Go.Proofs.Ytokifeghoodkgaa.LawB
open Go.ChangeShapes Go.WideShapes Go.ChangeAt Go.Deep
open Go.RowKit Go.Proofs.Ytokifeghoodkgaa.Kit Go.Proofs.Ytokifeghoodkgaa.Blocks Go.Proofs.Ytokifeghoodkgaa.Rlog Go.Proofs.Ytokifeghoodkgaa.Ents Go.Proofs.Ytokifeghoodkgaa.LogAt Go.Proofs.Ytokifeghoodkgaa.Nod Go.Proofs.Ytokifeghoodkgaa.NodAt Go.Proofs.Ytokifeghoodkgaa.AppL Go.Proofs.Ytokifeghoodkgaa.WalkB Go.Proofs.Ytokifeghoodkgaa.WalkI Go.Proofs.Ytokifeghoodkgaa.WalkJ Go.Proofs.Ytokifeghoodkgaa.Begun Go.Proofs.Ytokifeghoodkgaa.Alo

/-- The slice holds n texts. -/
def HoldsS (w : World) (a : Option Addr) (n : Nat) : Prop :=
  ∀ k, k < n → ∃ b o s, a = some ⟨b, o, none⟩ ∧ b < w.heap.size ∧ w.cell? ⟨b, o + k, none⟩ = some (.string s) ∧ s.size ≤ 9223372036854775807
theorem HoldsS.at_ {w W : World} {a : Option Addr} {n : Nat} (h : HoldsS w a n) (hb : Below w.heap.size w W) {k : Nat} (hk : k < n) : ∃ b o s, a = some ⟨b, o, none⟩ ∧ W.cell? ⟨b, o + k, none⟩ = some (.string s) ∧ s.size ≤ 9223372036854775807 ∧ w.cell? ⟨b, o + k, none⟩ = some (.string s) := by
  obtain ⟨b, o, s, h1, h2, h3, h4⟩ := h k hk
  exact ⟨b, o, s, h1, (hb.cell (p := ⟨b, o + k, none⟩) h2).trans h3, h4, h3⟩
section
variable {H : Type} {enc : TypeId × Value → H} {w : World}
set_option maxRecDepth 100000 in
theorem arg_texts {b0 : Nat} {v : Value} {d : DataW H} {p : List MemPlace} (hv : Value.okWide Try.prog w .any b0 22 v) (h : DataW.Trod enc Try.prog w 0 (fun _ => true) true 22 v d p) :
    ∃ A n c, v = .slice A n c ∧ HoldsS w A n ∧ n ≤ 9223372036854775807 := by
  obtain ⟨A, n, c, rfl⟩ := okWide_slice Try.underlying22 hv
  obtain ⟨fuel, hf⟩ := h
  rcases open_strs Try.underlying22 Try.underlying9 (by kernel_rfl) hf with ⟨hcs, _⟩ | ⟨y, l, cc, m, Sx, hcs, _, hl, hm, hmm, _, hcell⟩
  · simp [Value.cells] at hcs
    obtain ⟨rfl, rfl, rfl⟩ := hcs
    exact ⟨_, _, _, rfl, fun k hk => absurd hk (by omega), by omega⟩
  · simp [Value.cells] at hcs
    obtain ⟨rfl, rfl, rfl⟩ := hcs
    unfold maxLen at hm hcell
    simp only [if_true] at hmm
    refine ⟨_, _, _, rfl, fun k hk => ?_, by omega⟩
    have hsp : y.spot = none := by
      have := (hcell 0 (by omega)).1
      rw [Kit.add_zero] at this
      exact World.cell?_spot this
    obtain ⟨b, o, s⟩ := y
    simp only at hsp
    subst hsp
    obtain ⟨h1, h2⟩ := hcell k (by omega)
    rw [Addr.add_lit] at h1
    exact ⟨b, o, Sx k, rfl, World.block_lt_of_cell? w (⟨b, o + k, none⟩ : Addr) h1, h1, h2⟩
end
/-- A number's place among seven. -/
theorem among (z : Int) : ∃ a : Nat, a < 7 ∧ (wrap64 (z.tmod 7 + 7)).tmod 7 = (a : Int) := by
  have h1 := Int.lt_tmod_of_pos z (show (0 : Int) < 7 by decide)
  have h2 := Int.tmod_lt_of_pos z (show (0 : Int) < 7 by decide)
  have h3 : wrap64 (z.tmod 7 + 7) = z.tmod 7 + 7 := by unfold wrap64; omega
  have h4 : (z.tmod 7 + 7).tmod 7 = (z.tmod 7 + 7) % 7 := Int.tmod_eq_emod_of_nonneg (by omega)
  refine ⟨((z.tmod 7 + 7) % 7).toNat, by omega, ?_⟩
  rw [h3, h4]
  omega
theorem new_gA {i : Nat} (h7 : i < 7) (w : World) : Calls Try.prog 6 #[.agg #[.int .u64 0, .int .u64 0, .int .u64 ((2 ^ i : Nat) : Int), .string ⟨#[]⟩], .slice none 0 0] w (RlgWalkD.NewLog 63 w (gA i)) :=
  RlgWalkD.new_made (s := (gA i).snap) (fineA h7).snap none 0 0 [] w (RE.nil _ _ _) (by simp) (by omega) (fineA h7).cfg rfl
theorem new_nA {i B q : Nat} {v : Value} {w : World} (h7 : i < 7) (h : LogAt 63 B w q v (gA i)) : Calls Try.prog 7 #[.int .i64 (i : Int), .agg #[.int .u64 0, .int .i64 (-1)], .pointer (some ⟨q, 0, none⟩)] w fun e w' =>
    ∃ p z, e = .returned (.tuple #[.pointer (some ⟨p, 0, none⟩), .int .i64 0]) ∧ PAt B w' p z (mA i) ∧ Below w.heap.size w w' := by
  have := WalkJ.new_any h (fineA h7) (i : Int) 0 (-1)
  refine this.mono fun e w' h2 => ?_
  have hn : Quorum.node (i : Int) = true := by unfold Quorum.node; exact decide_eq_true (by omega)
  rw [if_pos (by rw [hn]; rfl)] at h2
  obtain ⟨p, h3, _, h4, h5⟩ := h2
  exact ⟨p, _, h3, h4, h5⟩
theorem shl_one {a : Nat} (h7 : a < 7) : IntKind.u64.wrap (2 ^ a) = ((2 ^ a : Nat) : Int) := by
  have : ∀ a, a < 7 → IntKind.u64.wrap (2 ^ a) = ((2 ^ a : Nat) : Int) := by decide
  exact this a h7
/-- The node behind k proposals. -/
structure Solo2 (w1 : World) (i k p : Nat) (W : World) : Prop where
  ex : ∃ z m, PAt w1.heap.size W p z m ∧ NdB (30 * k + 30) m ∧ Solo i (k + 1) m
  since : Below w1.heap.size w1 W
set_option maxRecDepth 100000 in
set_option maxHeartbeats 4000000 in
theorem alone_walk (zi : Int) (A : Option Addr) (n c : Nat) (w : World) (_hi : (Lit.int .i64 zi).wf = true) (hh : HoldsS w A n) (hn : n ≤ 9223372036854775807) :
    Calls Try.prog 3 #[.int .i64 zi, .slice A n c] w fun e w' => e = .returned (.bool true) ∧ Below w.heap.size w w' := by
  have HH := Lib.hid hh
  have HBg := Lib.hid begun_true
  obtain ⟨a, ha7, hza⟩ := among zi
  have HZ := Lib.hid hza
  clear hh hza
  go_enter Try.func3, Try.ntmps3
  go_wp2_with fail
  with_reducible refine (HBg.out w).mono ?_
  rintro e w1 ⟨rfl, hb1⟩
  have HB1 := Lib.hid hb1
  clear hb1
  as_aux_lemma =>
  go_wp2_with fail
  rw [HZ.out]
  go_loopw [5, 25] (fun m i wr => ∃ (k M : Nat), k ≤ n ∧ k ≤ M ∧ M ≤ 300 ∧ m = .int .i64 (M : Int) ∧ i = .int .i64 (k : Int) ∧ wr = w1 ∧ Hid (∀ j, j < k → ∀ b o s, A = some ⟨b, o, none⟩ → w.cell? ⟨b, o + j, none⟩ = some (.string s) → s.size ≤ 32768)) (fun _ i _ => n - (intOf i).toNat)
  case atStart => exact ⟨0, 0, Nat.zero_le _, Nat.le_refl _, Nat.zero_le _, rfl, rfl, rfl, Lib.hid fun j hj => absurd hj (by omega)⟩
  case round =>
    obtain ⟨k, M, hk, hkM, hM, rfl, rfl, hw, HS⟩ := hrel
    have hw2 := hw.symm
    subst hw2
    clear hw
    by_cases hkn : k < n
    · obtain ⟨b, o, s, rfl, c0, hs, cw⟩ := HH.out.at_ HB1.out hkn
      obtain ⟨L, hL⟩ : ∃ L, s.size = L := ⟨_, rfl⟩
      have HL := Lib.hid hL
      have HCW := Lib.hid cw
      rw [hL] at hs
      have hq : ((L : Int)).tdiv 100 = ((L / 100 : Nat) : Int) := by rw [Int.tdiv_eq_ediv_of_nonneg (by omega)]; rfl
      obtain ⟨Q, hQ⟩ : ∃ Q, L / 100 = Q := ⟨_, rfl⟩
      rw [hQ] at hq
      have hQb : Q ≤ 92233720368547758 := by omega
      have HQ := Lib.hid hQ
      clear cw hQ
      by_cases hbig : 300 < M + (1 + Q)
      · go_wp2_with fail
        go_ret
        exact ⟨rfl, HB1.out⟩
      · by_cases hlong : 32768 < L
        · go_wp2_with fail
          go_ret
          first | exact ⟨rfl, HB1.out⟩ | exact ⟨trivial, HB1.out⟩
        · have hS2 : Hid (∀ j, j < k + 1 → ∀ b' o' s', some (⟨b, o, none⟩ : Addr) = some ⟨b', o', none⟩ → w.cell? ⟨b', o' + j, none⟩ = some (.string s') → s'.size ≤ 32768) := Lib.hid fun j hj b' o' s' he hc => by
            by_cases e : j = k
            · subst e
              cases he
              rw [HCW.out] at hc
              cases hc
              have := HL.out
              omega
            · exact HS.out j (by omega) b' o' s' he hc
          have hM2 : M + (1 + Q) ≤ 300 := by omega
          go_wp2_with fail
          go_roundw
          case rel => exact ⟨k + 1, M + (1 + Q), by omega, by omega, hM2, by go_num, by go_num, by trivial, hS2⟩
          case measure => simp [intOf]; omega
    · obtain rfl : k = n := by omega
      have h300 : k ≤ 300 := by omega
      have hsh := shl_one ha7
      have HNL := Lib.hid (new_gA ha7)
      rw [← hsh] at HNL
      clear hsh
      have ha7i : (a : Int) < 64 := by omega
      as_aux_lemma =>
      go_wp2_with fail
      with_reducible refine (HNL.out w1).mono ?_
      rintro e w2 ⟨q, v, rfl, hlog, hb2⟩
      have HNN := Lib.hid (new_nA ha7 hlog)
      have HB2 := Lib.hid hb2
      clear hlog hb2 HNL
      go_wp2_with fail
      with_reducible refine HNN.out.mono ?_
      rintro e w3 ⟨p, z, rfl, hp, hb3⟩
      have hp' : PAt w1.heap.size w3 p z (mA a) := hp
      have hb0 : NdB 0 (mA a) := newNd_b ha7 (by decide) rfl rfl (fineA ha7) (Nat.le_refl _)
      have hb23 := HB2.out.trans (hb3.mono HB2.out.size)
      have hlow := HB2.out.size
      have HT := Lib.hid (WalkH.timeout_any hp' hb0 (by omega))
      have HP := Lib.hid hp'
      have HB3 := Lib.hid hb23
      have HNB := Lib.hid ((timeout_b hb0 (by omega)).mono (show 0 + 22 ≤ 30 * 0 + 30 by omega))
      clear hp hp' hb3 hb0 hb23 HNN
      go_wp2_with fail
      with_reducible refine HT.out.mono ?_
      rintro e w4 ⟨rfl, z4, h4, g4⟩
      have hsolo : Hid (Solo2 w1 a 0 p w4) := ⟨⟨z4, _, h4, HNB.out, leads_one ha7⟩, below_grow (Nat.le_refl _) HB3.out HP.out g4⟩
      clear h4 g4 HT HP HB3 HNB
      as_aux_lemma =>
      go_wp2_with fail
      go_loopw [61] (fun i wi => ∃ j : Nat, j ≤ k ∧ i = .int .i64 (j : Int) ∧ Hid (Solo2 w1 a j p wi)) (fun i _ => k - (intOf i).toNat)
      case atStart => exact ⟨0, Nat.zero_le _, rfl, hsolo⟩
      case round =>
        obtain ⟨j, hj, rfl, HR⟩ := hrel
        by_cases hjk : j < k
        · obtain ⟨b, o, s, rfl, c0, hs, cw⟩ := HH.out.at_ (HB1.out.trans (HR.out.since.mono HB1.out.size)) hjk
          have hs2 := HS.out j hjk b o s rfl cw
          obtain ⟨⟨z5, m5, h5, b5, s5⟩, hsi⟩ := HR.out
          obtain ⟨e1, e2⟩ := propose_one s5 (by omega) s hs2
          have hpr := WalkH.propose_any h5 b5 (by omega) s hs
          have hpb := (propose_b b5 (by omega) s hs).mono (show 30 * j + 30 + 15 ≤ 30 * (j + 1) + 30 by omega)
          have HPr := Lib.hid hpr
          have HPb := Lib.hid hpb
          have HE1 := Lib.hid e1
          have HE2 := Lib.hid e2
          have H5 := Lib.hid h5
          have HSi := Lib.hid hsi
          have hne : (((j + 1 + 1 : Nat) : Int) != IntKind.u64.wrap ((j : Int) + 2)) = false := by
            have : IntKind.u64.wrap ((j : Int) + 2) = ((j + 1 + 1 : Nat) : Int) := by unfold IntKind.wrap; simp [IntKind.signed, IntKind.bits]; omega
            rw [this]
            simp
          clear cw hpr hpb e1 e2 h5 hsi s5 b5
          as_aux_lemma =>
          go_wp2_with fail
          with_reducible refine HPr.out.mono ?_
          rintro e w6 ⟨rfl, z6, h6, g6⟩
          have hso : Hid (Solo2 w1 a (j + 1) p w6) := ⟨⟨z6, _, h6, HPb.out, HE2.out⟩, below_grow (Nat.le_refl _) HSi.out H5.out g6⟩
          rw [HE1.out]
          clear h6 g6
          go_wp2_with fail
          go_roundw
          case rel => exact ⟨j + 1, by omega, by go_num, hso⟩
          case measure => simp [intOf]; omega
        · obtain rfl : j = k := by omega
          obtain ⟨⟨z5, m5, h5, b5, s5⟩, hsi⟩ := HR.out
          have HK := Lib.hid (take_any h5)
          obtain ⟨Ao, co, ho⟩ := outs_form h5
          obtain ⟨Ak, ck, hk5⟩ := kept_form h5
          have hrv : ReadyV z5 m5 = .agg #[.int .u64 1, .int .i64 (a : Int), .slice Ak (j + 1) ck, .bool m5.inst, .slice Ao 0 co, .bool m5.reset, .int .u64 ((j : Int) + 1)] := by
            unfold ReadyV
            rw [ho, hk5, s5.term, s5.vote, s5.kept, s5.out, s5.com, show ((j + 1 : Nat) : Int) = (j : Int) + 1 by omega]
            rfl
          have H5 := Lib.hid h5
          have HSi := Lib.hid hsi
          have HRv := Lib.hid hrv
          clear h5 hsi hrv ho hk5 s5 b5
          as_aux_lemma =>
          go_wp2_with fail
          with_reducible refine HK.out.mono ?_
          rintro e w7 ⟨rfl, h7, o7⟩
          have HB7 := Lib.hid (below_take (Nat.le_refl _) HSi.out H5.out o7)
          rw [HRv.out]
          obtain ⟨w8, hw8⟩ : ∃ w8, w7.alloc (.cells #[.int .u64 1, .int .i64 (a : Int), .slice Ak (j + 1) ck, .bool m5.inst, .slice Ao 0 co, .bool m5.reset, .int .u64 ((j : Int) + 1)] 41) = w8 := ⟨_, rfl⟩
          have hr8 : w8.heap[w7.heap.size]? = some (.cells #[.int .u64 1, .int .i64 (a : Int), .slice Ak (j + 1) ck, .bool m5.inst, .slice Ao 0 co, .bool m5.reset, .int .u64 ((j : Int) + 1)] 41 (0, 0)) := by rw [← hw8]; exact heap_alloc_new w7 _
          have hb8 : Below w7.heap.size w7 w8 := by rw [← hw8]; exact (Below.refl _ w7).alloc (Nat.le_refl _) _
          have y0 : w8.cell? ⟨w7.heap.size, 0, none⟩ = some (.int .u64 1) := by rw [cell_at hr8]; rfl
          have y1 : w8.cell? ⟨w7.heap.size, 1, none⟩ = some (.int .i64 (a : Int)) := by rw [cell_at hr8]; rfl
          have y2 : w8.cell? ⟨w7.heap.size, 2, none⟩ = some (.slice Ak (j + 1) ck) := by rw [cell_at hr8]; rfl
          have y4 : w8.cell? ⟨w7.heap.size, 4, none⟩ = some (.slice Ao 0 co) := by rw [cell_at hr8]; rfl
          have y6 : w8.cell? ⟨w7.heap.size, 6, none⟩ = some (.int .u64 ((j : Int) + 1)) := by rw [cell_at hr8]; rfl
          have q1 : (((j : Int) + 1) == IntKind.u64.wrap ((j : Int) + 1)) = true := by
            have : IntKind.u64.wrap ((j : Int) + 1) = (j : Int) + 1 := by unfold IntKind.wrap; simp [IntKind.signed, IntKind.bits]; omega
            rw [this]
            simp
          have HB8 := Lib.hid (HB1.out.trans ((HB7.out.trans (hb8.mono HB7.out.size)).mono HB1.out.size))
          have HW8 := Lib.hid hw8
          clear hr8 hb8 hw8 h7 o7 HB7 HK
          go_upto_region 23 with fail
          rw [HW8.out]
          go_wp2
          go_ret
          exact ⟨rfl, HB8.out⟩
end Go.Proofs.Ytokifeghoodkgaa.LawB
namespace Go.Proofs.Ytokifeghoodkgaa.PRaftAlone
open Go.ChangeShapes Go.WideShapes Go.ChangeAt Go.RowKit Go.Proofs.Ytokifeghoodkgaa.Kit Go.Proofs.Ytokifeghoodkgaa.Frame
set_option linter.unusedVariables false

theorem own : ownKnob Try.prog.godebug = none := by kernel_rfl
theorem laidOut : laidOutB Try.prog = true := by kernel_rfl

set_option maxRecDepth 100000 in
theorem contract (H : Type) (enc : TypeId × Value → H) (W : World) (base : Nat) (args : Array Value) (ds gs : List (DataW H)) (before : List MemPlace)
    (hval : ∀ (j : Nat) t v, Try.f3.params[j]? = some t → args[j]? = some v → Value.okWide Try.prog W .any base t v)
    (hW : DataW.Whole enc Try.prog Try.f3.params.toList Rows.raftAloneSpec.vars false W args.toList ds gs before)
    (hs0 : (DataW.weightsEach Try.prog (Try.f3.params.toList ++ Rows.raftAloneSpec.plain.varTypes Try.prog) (ds ++ gs)).all (· ≤ reachBytes) = true) :
    Calls Try.prog 3 args W fun e W' => ∃ v, e = .returned v ∧ Rows.raftAloneSpec.post enc Try.prog Try.f3 false true false false W args v W' := by
  have hW' := hW
  have hsz : (DataW.weightsEach Try.prog (Try.f3.params.toList ++ Rows.raftAloneSpec.plain.varTypes Try.prog) (ds ++ gs)).all (· ≤ reachBytes) = true := hs0
  obtain ⟨p, q, hA0, hV, rfl, hfz, hnd⟩ := hW
  have hA : DataW.TrodAll enc Try.prog W 0 (fun _ => true) true Try.f3.params.toList args.toList ds p := hA0
  rw [Try.params3] at hA hval hsz
  obtain ⟨v0, vs0, d0, ds0, p0, q0, hargs, rfl, rfl, h0, r0⟩ := trodAll_cons hA
  obtain ⟨v1, vs1, d1, ds1, p1, q1, rfl, rfl, rfl, h1, r1⟩ := trodAll_cons r0
  obtain ⟨rfl, rfl, rfl⟩ := trodAll_nil r1
  obtain rfl : args = #[v0, v1] := by cases args; simp_all
  obtain ⟨rfl, rfl⟩ := trodVars_none hV
  have lt0 : ∀ x ∈ p0, x.block < W.heap.size := by obtain ⟨m, hm⟩ := h0; exact DataW.trod_lt m _ _ _ hm
  have k0 := h0
  obtain ⟨x0, rfl, e0, g0, hw0⟩ := open_int Try.underlying3 (hval 0 3 v0 rfl rfl) k0
  have lt1 : ∀ x ∈ p1, x.block < W.heap.size := by obtain ⟨m, hm⟩ := h1; exact DataW.trod_lt m _ _ _ hm
  obtain ⟨A1, n1, c1, rfl, hh1_0, hn1_1⟩ := LawB.arg_texts (hval 1 22 v1 rfl rfl) h1
  clear hA0
  refine (LawB.alone_walk x0 A1 n1 c1 W hw0 hh1_0 hn1_1).mono fun e W' ⟨he, bel⟩ => ?_
  subst he
  exact ⟨_, rfl, _, _, _, [], _, [], hW', trodAll_mk1 (shut_bool Try.underlying4 _), (trodAll_cons_mk (Below.trod laidOut (by kernel_rfl) (of_decide_eq_true (by kernel_rfl)) h0 bel lt0) (trodAll_cons_mk (Below.trod laidOut (by kernel_rfl) (of_decide_eq_true (by kernel_rfl)) h1 bel lt1) trodAll_mk0)), rfl, bel.frame _, fun h => by cases h⟩

set_option maxRecDepth 100000 in
theorem lifted (os : Os) (started : os.Started) (H : Type) (enc : TypeId × Value → H) :
    ReturnsInHanded {} Try.checked os 3 .any (Rows.raftAloneSpec.pre6 enc Try.prog Try.f3 Rows.raftAloneRow.domain false) (Rows.raftAloneSpec.post enc Try.prog Try.f3 false true false false) := by
  refine returnsInHanded_of_change_sized (C := Try.checked) own started (by kernel_rfl) Try.func3
    (ChangeSpec.witness6 (enc := enc) (C := Try.checked) false ⟨#[], #[.int .i64 0, .slice none 0 0], []⟩ 8 (by kernel_rfl) (by kernel_rfl) (by kernel_rfl) (by kernel_rfl)) ?_
  intro W base args ds gs before hval hW _ hs _
  exact contract H enc W base args ds gs before hval hW hs

theorem over : Rows.raftAloneRow.holds Try.pinned (OpenSpec.ofChange Rows.raftAloneSpec) :=
  OpenClaim.holds_of_wide 3 Try.f3 rfl rfl rfl rfl rfl rfl rfl ⟨rfl, rfl, rfl, rfl, rfl⟩ rfl rfl rfl rfl rfl (by kernel_rfl) Try.func3 (by kernel_rfl)
    (of_decide_eq_true (by kernel_rfl)) (by unfold Func.isWrapper; first | (rw [if_pos (by decide +kernel)]; kernel_rfl) | (rw [if_neg (by decide +kernel)]; exact ⟨rfl, rfl⟩))
    (fun os started H enc _ => lifted os started H enc)

theorem proved : Rows.RaftAloneSaid := over
end Go.Proofs.Ytokifeghoodkgaa.PRaftAlone
