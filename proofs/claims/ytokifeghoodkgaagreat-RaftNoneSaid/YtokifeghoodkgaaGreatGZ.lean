/- The statement RaftNone of tontinelaw12: for every input the call returns true, and each argument reads afterwards as it read before. -/
import Derived.Test.YtokifeghoodkgaaGreatGY
import Derived.Test.YtokifeghoodkgaaGreatNodB
import Derived.Test.YtokifeghoodkgaaGreatFrame
import Derived.Deep.Slices
import Derived.Lib.SmallJoins
set_option linter.unusedVariables false
namespace Go.Proofs.YtokifeghoodkgaaGreat.WalkP
open Go.RowKit Go.Proofs.YtokifeghoodkgaaGreat.Kit Go.Proofs.YtokifeghoodkgaaGreat.Blocks Go.Proofs.YtokifeghoodkgaaGreat.Rlog Go.Proofs.YtokifeghoodkgaaGreat.Ents Go.Proofs.YtokifeghoodkgaaGreat.LogAt Go.Proofs.YtokifeghoodkgaaGreat.Nod Go.Proofs.YtokifeghoodkgaaGreat.NodAt Go.Proofs.YtokifeghoodkgaaGreat.AppL Go.Proofs.YtokifeghoodkgaaGreat.WalkA Go.Proofs.YtokifeghoodkgaaGreat.WalkB Go.Proofs.YtokifeghoodkgaaGreat.WalkC Go.Proofs.YtokifeghoodkgaaGreat.WalkD Go.Proofs.YtokifeghoodkgaaGreat.WalkE Go.Proofs.YtokifeghoodkgaaGreat.WalkF Go.Proofs.YtokifeghoodkgaaGreat.WalkH

theorem timeout_nil (w : World) : Calls Tryz.prog 21 #[.pointer none] w fun e w' => e = .returned (.tuple #[]) ∧ Below w.heap.size w w' := by
  go_enter Tryz.func21, Tryz.ntmps21
  go_wp2
  (try simp only [Exit.inBlock, Exit.then]); refine bodyPost_ret (results_none rfl _ _ _) rfl ?_
  exact ⟨rfl, Below.refl _ _⟩
theorem receive_nil (x : Msg) (a : Pl) (w : World) : Calls Tryz.prog 20 #[.pointer none, ltV x a] w fun e w' => e = .returned (.tuple #[]) ∧ Below w.heap.size w w' := by
  obtain ⟨kd, fr, tt, tm, ix, pv, cm, ok, es, d⟩ := x
  unfold ltV
  (try simp only)
  go_enter Tryz.func20, Tryz.ntmps20
  go_wp2
  (try simp only [Exit.inBlock, Exit.then]); refine bodyPost_ret (results_none rfl _ _ _) rfl ?_
  exact ⟨rfl, (Below.refl _ w).alloc (Nat.le_refl _) _⟩
theorem propose_nil (s : ByteArray) (w : World) : Calls Tryz.prog 22 #[.pointer none, .string s] w fun e w' => e = .returned (.tuple #[.int .u64 0, .int .i64 30]) ∧ Below w.heap.size w w' := by
  go_enter Tryz.func22, Tryz.ntmps22
  go_wp2
  go_ret2
  exact ⟨rfl, Below.refl _ _⟩
theorem change_nil (b : Bool) (i : Int) (w : World) : Calls Tryz.prog 23 #[.pointer none, .bool b, .int .i64 i] w fun e w' => e = .returned (.tuple #[.int .u64 0, .int .i64 30]) ∧ Below w.heap.size w w' := by
  go_enter Tryz.func23, Tryz.ntmps23
  go_wp2
  go_ret2
  exact ⟨rfl, Below.refl _ _⟩
theorem compact_nil (i : Nat) (s : ByteArray) (w : World) : Calls Tryz.prog 27 #[.pointer none, .int .u64 (i : Int), .string s] w fun e w' => e = .returned (.int .i64 1) ∧ Below w.heap.size w w' := by
  go_enter Tryz.func27, Tryz.ntmps27
  go_wp2
  go_ret
  exact ⟨rfl, Below.refl _ _⟩
end Go.Proofs.YtokifeghoodkgaaGreat.WalkP
set_option linter.unusedVariables false
namespace Go.Proofs.YtokifeghoodkgaaGreat.Start
open Go.Proofs.YtokifeghoodkgaaGreat.Rlog Go.Proofs.YtokifeghoodkgaaGreat.Nod
open Go.Proofs.YtokifeghoodkgaaGreat.Quorum (mem size need sound maj node has)
open Go.Proofs.YtokifeghoodkgaaGreat.WalkJ (newNd)

def g0 : G := ⟨⟨0, 0, 7, ByteArray.empty⟩, []⟩
def m0 : Nd := newNd 0 0 (-1) g0
def m1 : Nd := ⟨0, 1, 0, g0, 1, -1, 0, 1, zeros, zeros, [], false, [{ blankM with k := 1, t := 1, tm := 1 }, { blankM with k := 1, t := 2, tm := 1 }], true⟩
def voteL : Msg := { blankM with k := 2, f := 1, t := 0, tm := 1, ok := true }
theorem none_rest : mem 7 = [0, 1, 2] := by decide
theorem cfg0 {m : Nd} (h : m.g = g0) : cfg m = 7 := by unfold cfg; rw [h]; decide
theorem rest0 {m : Nd} (h : m.g = g0) (hi : m.id = 0) : rest m = [1, 2] := by unfold rest; rw [cfg0 h, hi]; decide
theorem maj1 : maj 7 1 = false := by decide
theorem maj3 : maj 7 3 = true := by decide
theorem may0 : mayStand m0 = true := by decide
theorem asks0 : asks (stands m0) = m1 := by
  unfold asks
  rw [rest0 rfl rfl]
  rfl
theorem timeout0 : timeout m0 = m1 := by
  unfold timeout
  rw [if_neg (by rw [may0]; decide), asks0]
  unfold lead
  rw [if_neg (by rw [cfg0 rfl]; intro h; have := h.2; rw [show m1.votes = 1 from rfl, maj1] at this; cases this)]
theorem hears1 : hears (taken m1) voteL = true := by decide
def mv : Nd := { taken m1 with votes := 3 }
theorem received : receive (taken m1) voteL = (Nod.add (leads mv) 0 ByteArray.empty).2 := by
  unfold receive
  rw [if_pos hears1]
  unfold heard
  rw [if_neg (by decide)]
  unfold handles
  rw [if_neg (by decide), if_pos (by decide)]
  unfold voted
  rw [if_pos (by decide)]
  show lead mv = _
  unfold lead
  rw [if_pos ⟨rfl, by rw [cfg0 rfl]; exact maj3⟩]
def ma : Nd := added (leads mv) 0 ByteArray.empty
theorem can0 : canAdd (leads mv) 0 ByteArray.empty = true := by decide
theorem cfga {m : Nd} (h : m.g = ma.g) : cfg m = 7 := by unfold cfg; rw [h]; decide
theorem resta {m : Nd} (h : m.g = ma.g) (hi : m.id = 0) : rest m = [1, 2] := by unfold rest; rw [cfga h, hi]; decide
def mb : Nd := write (write ma 1) 2
theorem beata : beat ma = mb := by
  unfold beat
  rw [if_pos (show ma.role = 2 from rfl), resta rfl rfl]
  rfl
theorem best0 : best mb = 0 := by
  unfold best
  rw [cfga (m := mb) rfl]
  refine reach_of (.inr ⟨by decide, ?_, ?_⟩)
  · show need 7 ≤ cnt 7 [1, 0, 0, 0, 0, 0, 0] 0
    decide
  · show cnt 7 [1, 0, 0, 0, 0, 0, 0] 1 < need 7
    decide
theorem advance0 : advance mb = mb := by
  unfold advance mayAdvance
  rw [best0, if_neg (by simp)]
theorem led : receive (taken m1) voteL = mb := by
  rw [received]
  unfold Nod.add
  rw [if_pos can0]
  show advance (beat ma) = mb
  rw [beata, advance0]
theorem led_says : mb.role = 2 ∧ mb.leader = 0 ∧ mb.term = 1 ∧ mb.vote = 0 ∧ mb.kept.length = 1 ∧ mb.out.length = 2 := ⟨rfl, rfl, rfl, rfl, rfl, rfl⟩
theorem fine0 : Fine g0 := fine_new (by decide) (by decide) ⟨by decide, by decide, by decide⟩ (fun e h => by cases h)
theorem b0 : NdB 0 m0 := WalkJ.newNd_b (by decide) (by decide) (by decide) (by decide) fine0 (by decide)
end Go.Proofs.YtokifeghoodkgaaGreat.Start
set_option linter.unusedVariables false
namespace Go.Proofs.YtokifeghoodkgaaGreat.Begun
open Go.RowKit Go.Proofs.YtokifeghoodkgaaGreat.Kit Go.Proofs.YtokifeghoodkgaaGreat.Blocks Go.Proofs.YtokifeghoodkgaaGreat.Rlog Go.Proofs.YtokifeghoodkgaaGreat.Ents Go.Proofs.YtokifeghoodkgaaGreat.LogAt Go.Proofs.YtokifeghoodkgaaGreat.Nod Go.Proofs.YtokifeghoodkgaaGreat.NodAt Go.Proofs.YtokifeghoodkgaaGreat.AppL Go.Proofs.YtokifeghoodkgaaGreat.WalkA Go.Proofs.YtokifeghoodkgaaGreat.WalkB Go.Proofs.YtokifeghoodkgaaGreat.WalkC Go.Proofs.YtokifeghoodkgaaGreat.WalkD Go.Proofs.YtokifeghoodkgaaGreat.WalkE Go.Proofs.YtokifeghoodkgaaGreat.WalkF Go.Proofs.YtokifeghoodkgaaGreat.WalkH Go.Proofs.YtokifeghoodkgaaGreat.WalkI Go.Proofs.YtokifeghoodkgaaGreat.Start

/-- What was taken, in a block of its own. -/
def RBox (W : World) (r : Nat) (t : Nat) (v : Int) (A : Option Addr) (n c : Nat) (i : Bool) (A' : Option Addr) (n' c' : Nat) (s : Bool) (k : Nat) : Prop :=
  W.heap[r]? = some (.cells #[.int .u64 (t : Int), .int .i64 v, .slice A n c, .bool i, .slice A' n' c', .bool s, .int .u64 (k : Int)] 70 (0, 0))
theorem new_log0 (w : World) : Calls Tryz.prog 10 #[.agg #[.int .u64 0, .int .u64 0, .int .u64 7, .string ⟨#[]⟩], .slice none 0 0] w (RlgWalkD.NewLog 89 w g0) :=
  RlgWalkD.new_made (s := g0.snap) ⟨by decide, by decide, by decide⟩ none 0 0 [] w (RE.nil _ _ _) (by simp) (by omega) (by decide +kernel) (by decide +kernel)
theorem new_node0 {B q : Nat} {v : Value} {w : World} (h : LogAt 89 B w q v g0) : Calls Tryz.prog 12 #[.int .i64 0, .agg #[.int .u64 0, .int .i64 (-1)], .pointer (some ⟨q, 0, none⟩)] w fun e w' =>
    ∃ p, e = .returned (.tuple #[.pointer (some ⟨p, 0, none⟩), .int .i64 0]) ∧ PAt B w' p ⟨q, v, .slice none 0 0, .slice none 0 0, []⟩ m0 ∧ Below w.heap.size w w' := by
  have := WalkJ.new_any h fine0 0 0 (-1)
  refine this.mono fun e w' h2 => ?_
  rw [if_pos (by decide)] at h2
  obtain ⟨p, h3, _, h4, h5⟩ := h2
  exact ⟨p, h3, h4, h5⟩
section
variable {B p : Nat} {z : Seat} {w : World}
theorem timeout_0 (h : PAt B w p z m0) : Calls Tryz.prog 21 #[.pointer (some ⟨p, 0, none⟩)] w (Does B w p z m1) := by
  have := timeout_any h b0 (by omega)
  rwa [timeout0] at this
theorem receive_0 (h : PAt B w p z (taken m1)) : Calls Tryz.prog 20 #[.pointer (some ⟨p, 0, none⟩), .agg #[.int .i64 2, .int .i64 1, .int .i64 0, .int .u64 1, .int .u64 0, .int .u64 0, .int .u64 0, .bool true, .slice none 0 0, .string ⟨#[]⟩]] w (Does B w p z mb) := by
  have hb : NdB 22 (taken m1) := by have := timeout_b b0 (by omega); rw [timeout0] at this; exact taken_b this
  have := WalkO.receive_any h hb (by omega) voteL noPl ⟨by decide, by decide, by decide, by decide, by decide, by decide, by decide, by decide, by decide, by decide, (fun e h => by cases h), by decide⟩ (Fit.none _ _ rfl) (by decide)
  rw [led] at this
  exact this
/-- What a call of a node turns lies above what the node was made of. -/
theorem below_grow {w0 w' : World} {m : Nd} {z' : Seat} (hB : B ≤ w0.heap.size) (b : Below B w0 w) (h : PAt B w p z m) (g : Grow p z z' w w') : Below B w0 w' :=
  below_only b g.only hB fun q hq => (NodeAt.mine_lt h hq).1
theorem below_take {w0 w' : World} {m : Nd} (hB : B ≤ w0.heap.size) (b : Below B w0 w) (h : PAt B w p z m) (g : Only (fun q => q = p) w w') : Below B w0 w' :=
  below_only b g hB fun q hq => by subst hq; exact h.low
theorem outs_form {m : Nd} (h : PAt B w p z m) : ∃ A c, z.vo = .slice A m.out.length c := by
  obtain ⟨A, c, e, _⟩ := own_form h.outs
  exact ⟨A, c, by rw [e, ← h.said, List.length_map]⟩
theorem kept_form {m : Nd} (h : PAt B w p z m) : ∃ A c, z.vk = .slice A m.kept.length c := by
  obtain ⟨A, c, e, _⟩ := own_form h.kept
  exact ⟨A, c, e⟩
set_option maxRecDepth 6000 in
set_option maxHeartbeats 4000000 in
theorem begun_true (w : World) : Calls Tryz.prog 8 #[] w fun e w' => e = .returned (.bool true) ∧ Below w.heap.size w w' := by
  have HN0 := Lib.hid (new_log0 w)
  go_enter Tryz.func8, Tryz.ntmps8
  go_wp2_with fail
  refine HN0.out.mono ?_
  rintro e w1 ⟨q, v, rfl, hlog, hb1⟩
  have HN1 := Lib.hid (new_node0 hlog)
  have HB1 := Lib.hid hb1
  clear hlog HN0 hb1
  go_wp2_with fail
  refine HN1.out.mono ?_
  rintro e w2 ⟨p, rfl, h2, hb2⟩
  have HB2 := Lib.hid (HB1.out.trans (hb2.mono HB1.out.size))
  have HT := Lib.hid (timeout_0 h2)
  have H2 := Lib.hid h2
  clear HN1 HB1 h2 hb2
  as_aux_lemma =>
  go_wp2_with fail
  with_reducible refine HT.out.mono ?_
  rintro e w3 ⟨rfl, z3, h3, g3⟩
  have HB3 := Lib.hid (below_grow (Nat.le_refl _) HB2.out H2.out g3)
  have HK := Lib.hid (take_any h3)
  obtain ⟨A3, c3, ho3⟩ := outs_form h3
  obtain ⟨K3, k3, hk3⟩ := kept_form h3
  have H3 := Lib.hid h3
  have HO3 := Lib.hid ho3
  have HK3 := Lib.hid hk3
  clear h3 g3 HT HB2 H2 ho3 hk3
  as_aux_lemma =>
  go_wp2_with fail
  with_reducible refine HK.out.mono ?_
  rintro e w4 ⟨rfl, h4, o4⟩
  have HB4 := Lib.hid (below_take (Nat.le_refl _) HB3.out H3.out o4)
  have hrv : ReadyV z3 m1 = .agg #[.int .u64 1, .int .i64 0, .slice K3 0 k3, .bool false, .slice A3 2 c3, .bool true, .int .u64 0] := by
    unfold ReadyV
    rw [HO3.out, HK3.out]
    rfl
  rw [hrv]
  obtain ⟨w5, hw5⟩ : ∃ w5, w4.alloc (.cells #[.int .u64 1, .int .i64 0, .slice K3 0 k3, .bool false, .slice A3 2 c3, .bool true, .int .u64 0] 70) = w5 := ⟨_, rfl⟩
  have hr5 : w5.heap[w4.heap.size]? = some (.cells #[.int .u64 1, .int .i64 0, .slice K3 0 k3, .bool false, .slice A3 2 c3, .bool true, .int .u64 0] 70 (0, 0)) := by rw [← hw5]; exact heap_alloc_new w4 _
  have hb5 : Below w4.heap.size w4 w5 := by rw [← hw5]; exact (Below.refl _ w4).alloc (Nat.le_refl _) _
  have h5 := h4.below hb5
  have hp4 : p < w4.heap.size := h4.plt
  have hnm : ¬ Mine p (bare z3) w4.heap.size := fun e => by have := (NodeAt.mine_lt h4 e).2; omega
  have HB5 := Lib.hid (HB4.out.trans (hb5.mono HB4.out.size))
  have HR := Lib.hid (receive_0 h5)
  have H5 := Lib.hid h5
  have HR5 := Lib.hid hr5
  have HW5 := Lib.hid hw5
  have HNM := Lib.hid hnm
  clear h4 o4 HK HB3 H3 HO3 HK3 hrv hw5 hr5 hb5 h5 hnm HB4
  go_wp2_with fail
  rw [HW5.out]
  with_reducible refine HR.out.mono ?_
  rintro e w6 ⟨rfl, z6, h6, g6⟩
  have HR6 := Lib.hid (g6.block HR5.out HNM.out)
  have HB6 := Lib.hid (below_grow (Nat.le_refl _) HB5.out H5.out g6)
  have HK := Lib.hid (take_any h6)
  obtain ⟨A6, c6, ho6⟩ := outs_form h6
  obtain ⟨K6, k6, hk6⟩ := kept_form h6
  have H6 := Lib.hid h6
  have HO6 := Lib.hid ho6
  have HK6 := Lib.hid hk6
  clear h6 g6 HR HB5 H5 HR5 HW5 HNM ho6 hk6
  as_aux_lemma =>
  go_wp2_with fail
  with_reducible refine HK.out.mono ?_
  rintro e w7 ⟨rfl, h7, o7⟩
  have HB7 := Lib.hid (below_take (Nat.le_refl _) HB6.out H6.out o7)
  have hr7 := o7.heap HR6.out (show ¬ (w4.heap.size = p) by omega)
  have hrv : ReadyV z6 mb = .agg #[.int .u64 1, .int .i64 0, .slice K6 1 k6, .bool false, .slice A6 2 c6, .bool false, .int .u64 0] := by
    unfold ReadyV
    rw [HO6.out, HK6.out]
    rfl
  rw [hrv]
  obtain ⟨w8, hw8⟩ : ∃ w8, w7.alloc (.cells #[.int .u64 1, .int .i64 0, .slice K6 1 k6, .bool false, .slice A6 2 c6, .bool false, .int .u64 0] 70) = w8 := ⟨_, rfl⟩
  have hr8 : w8.heap[w7.heap.size]? = some (.cells #[.int .u64 1, .int .i64 0, .slice K6 1 k6, .bool false, .slice A6 2 c6, .bool false, .int .u64 0] 70 (0, 0)) := by rw [← hw8]; exact heap_alloc_new w7 _
  have hb8 : Below w7.heap.size w7 w8 := by rw [← hw8]; exact (Below.refl _ w7).alloc (Nat.le_refl _) _
  have h8 := h7.below hb8
  have hl7 : w4.heap.size < w7.heap.size := lt_at hr7
  have hs5 := (hb8.block _ hl7).trans hr7
  have HB8 := Lib.hid (HB7.out.trans (hb8.mono HB7.out.size))
  have HS := Lib.hid (status_any h8)
  have HR8 := Lib.hid hr8
  have HR5 := Lib.hid hs5
  have HW8 := Lib.hid hw8
  clear h7 o7 HK HB6 H6 HO6 HK6 hrv hw8 hr8 hb8 h8 hr7 hs5 HB7 HR6
  go_wp2_with fail
  rw [HW8.out]
  with_reducible refine HS.out.mono ?_
  rintro e w9 ⟨rfl, hb9⟩
  rw [show StatusV (taken mb) = .tuple #[.int .i64 2, .int .i64 0, .agg #[.int .u64 1, .int .i64 0], .int .u64 0] from rfl]
  obtain ⟨w10, hw10⟩ : ∃ w10, w9.alloc (.cells #[.int .u64 1, .int .i64 0] 24) = w10 := ⟨_, rfl⟩
  have hb10 : Below w9.heap.size w9 w10 := by rw [← hw10]; exact (Below.refl _ w9).alloc (Nat.le_refl _) _
  have hrh : w10.heap[w9.heap.size]? = some (.cells #[.int .u64 1, .int .i64 0] 24 (0, 0)) := by rw [← hw10]; exact heap_alloc_new w9 _
  have hb8t : Below w8.heap.size w8 w10 := hb9.trans (hb10.mono hb9.size)
  have r5 := (hb8t.block _ (lt_at HR5.out)).trans HR5.out
  have r8 := (hb8t.block _ (lt_at HR8.out)).trans HR8.out
  have y4 : w10.cell? ⟨w4.heap.size, 4, none⟩ = some (.slice A3 2 c3) := by rw [cell_at r5]; rfl
  have y5 : w10.cell? ⟨w4.heap.size, 5, none⟩ = some (.bool true) := by rw [cell_at r5]; rfl
  have u2 : w10.cell? ⟨w7.heap.size, 2, none⟩ = some (.slice K6 1 k6) := by rw [cell_at r8]; rfl
  have u4 : w10.cell? ⟨w7.heap.size, 4, none⟩ = some (.slice A6 2 c6) := by rw [cell_at r8]; rfl
  have t0 : w10.cell? ⟨w9.heap.size, 0, none⟩ = some (.int .u64 1) := by rw [cell_at hrh]; rfl
  have t1 : w10.cell? ⟨w9.heap.size, 1, none⟩ = some (.int .i64 0) := by rw [cell_at hrh]; rfl
  have HB10 := Lib.hid (HB8.out.trans (hb8t.mono HB8.out.size))
  have HW10 := Lib.hid hw10
  clear hb9 hw10 hb10 hrh hb8t r5 r8 HS HB8 HR8 HR5 HW8
  as_aux_lemma =>
  go_upto_region 8 with fail
  rw [HW10.out]
  go_wp2
  go_ret
  exact ⟨rfl, HB10.out⟩
end
end Go.Proofs.YtokifeghoodkgaaGreat.Begun
set_option linter.unusedVariables false
namespace Go.Proofs.YtokifeghoodkgaaGreat.LawA
open Go.RowKit Go.Proofs.YtokifeghoodkgaaGreat.Kit Go.Proofs.YtokifeghoodkgaaGreat.Blocks Go.Proofs.YtokifeghoodkgaaGreat.Rlog Go.Proofs.YtokifeghoodkgaaGreat.Ents Go.Proofs.YtokifeghoodkgaaGreat.LogAt Go.Proofs.YtokifeghoodkgaaGreat.Nod Go.Proofs.YtokifeghoodkgaaGreat.NodAt Go.Proofs.YtokifeghoodkgaaGreat.AppL Go.Proofs.YtokifeghoodkgaaGreat.WalkA Go.Proofs.YtokifeghoodkgaaGreat.WalkB Go.Proofs.YtokifeghoodkgaaGreat.WalkC Go.Proofs.YtokifeghoodkgaaGreat.WalkD Go.Proofs.YtokifeghoodkgaaGreat.WalkE Go.Proofs.YtokifeghoodkgaaGreat.WalkF Go.Proofs.YtokifeghoodkgaaGreat.WalkH Go.Proofs.YtokifeghoodkgaaGreat.WalkI Go.Proofs.YtokifeghoodkgaaGreat.WalkP Go.Proofs.YtokifeghoodkgaaGreat.Begun

set_option maxRecDepth 6000 in
set_option maxHeartbeats 8000000 in
theorem none_walk (i : Int) (t : Nat) (vt : Int) (si st sc : Nat) (sd : ByteArray) (A : Option Addr) (n c : Nat) (x : Msg) (a : Pl) (w : World) :
    Calls Tryz.prog 6 #[.agg #[.int .i64 i, .int .u64 (t : Int), .int .i64 vt, .int .u64 (si : Int), .int .u64 (st : Int), .int .u64 (sc : Int), .string sd, .slice A n c], ltV x a] w fun e w' => e = .returned (.bool true) ∧ Below w.heap.size w w' := by
  have HBg := Lib.hid begun_true
  have HTm := Lib.hid timeout_nil
  have HBt := Lib.hid beat_nil
  have hrc := fun W => receive_nil x a W
  have HPr := Lib.hid (fun W => propose_nil ⟨#[]⟩ W)
  have HCh := Lib.hid (fun W => change_nil true i W)
  have HSt := Lib.hid status_nil
  have HTk := Lib.hid take_nil
  have HNw := Lib.hid (fun W => WalkJ.new_none i t vt W)
  have HLg := Lib.hid log_nil
  have HCo : Hid (∀ W, Calls Tryz.prog 27 #[.pointer none, .int .u64 0, .string ⟨#[]⟩] W fun e w' => e = .returned (.int .i64 1) ∧ Below W.heap.size W w') := Lib.hid (fun W => compact_nil 0 ⟨#[]⟩ W)
  obtain ⟨kd, fr, tt, tm, ix, pv, cm, ok, es, d⟩ := x
  unfold ltV at hrc ⊢
  (try simp only at hrc ⊢)
  have HRc := Lib.hid hrc
  clear hrc
  obtain ⟨w1, hw1⟩ : ∃ w1, w.alloc (.cells #[.int .i64 i, .int .u64 (t : Int), .int .i64 vt, .int .u64 (si : Int), .int .u64 (st : Int), .int .u64 (sc : Int), .string sd, .slice A n c] 29) = w1 := ⟨_, rfl⟩
  have hr1 : w1.heap[w.heap.size]? = some (.cells #[.int .i64 i, .int .u64 (t : Int), .int .i64 vt, .int .u64 (si : Int), .int .u64 (st : Int), .int .u64 (sc : Int), .string sd, .slice A n c] 29 (0, 0)) := by rw [← hw1]; exact heap_alloc_new w _
  have hb1 : Below w.heap.size w w1 := by rw [← hw1]; exact (Below.refl _ w).alloc (Nat.le_refl _) _
  obtain ⟨w2, hw2⟩ : ∃ w2, w1.alloc (.cells #[.int .i64 kd, .int .i64 fr, .int .i64 tt, .int .u64 (tm : Int), .int .u64 (ix : Int), .int .u64 (pv : Int), .int .u64 (cm : Int), .bool ok, .slice a.A a.n a.c, .string d] 47) = w2 := ⟨_, rfl⟩
  have hr2 : w2.heap[w1.heap.size]? = some (.cells #[.int .i64 kd, .int .i64 fr, .int .i64 tt, .int .u64 (tm : Int), .int .u64 (ix : Int), .int .u64 (pv : Int), .int .u64 (cm : Int), .bool ok, .slice a.A a.n a.c, .string d] 47 (0, 0)) := by rw [← hw2]; exact heap_alloc_new w1 _
  have hb2 : Below w1.heap.size w1 w2 := by rw [← hw2]; exact (Below.refl _ w1).alloc (Nat.le_refl _) _
  have hs2 := (hb2.block _ (lt_at hr1)).trans hr1
  have HB2 := Lib.hid (hb1.trans (hb2.mono hb1.size))
  have HW1 := Lib.hid hw1
  have HW2 := Lib.hid hw2
  have HS2 := Lib.hid hs2
  have HR2 := Lib.hid hr2
  have HZ : Hid (w1.heap.size = w.heap.size + 1) := Lib.hid (by rw [← hw1]; simp)
  clear hw1 hr1 hb1 hw2 hr2 hb2 hs2
  go_enter Tryz.func6, Tryz.ntmps6
  go_wp2_with fail
  (try rw [HW1.out])
  (try rw [HW2.out])
  with_reducible refine (HBg.out w2).mono ?_
  rintro e w3 ⟨rfl, hb3⟩
  have HB3 := Lib.hid (HB2.out.trans (hb3.mono HB2.out.size))
  have HS3 := Lib.hid ((hb3.block _ (lt_at HS2.out)).trans HS2.out)
  have HR3 := Lib.hid ((hb3.block _ (lt_at HR2.out)).trans HR2.out)
  clear HB2 HS2 HR2 hb3
  as_aux_lemma =>
  go_wp2_with fail
  with_reducible refine (HTm.out w3).mono ?_
  rintro e w4 ⟨rfl, hb4⟩
  have HB4 := Lib.hid (HB3.out.trans (hb4.mono HB3.out.size))
  have HS4 := Lib.hid ((hb4.block _ (lt_at HS3.out)).trans HS3.out)
  have HR4 := Lib.hid ((hb4.block _ (lt_at HR3.out)).trans HR3.out)
  clear HB3 HS3 HR3 hb4
  as_aux_lemma =>
  go_wp2_with fail
  with_reducible refine (HBt.out w4).mono ?_
  rintro e w5 ⟨rfl, hb5⟩
  have HB5 := Lib.hid (HB4.out.trans (hb5.mono HB4.out.size))
  have HS5 := Lib.hid ((hb5.block _ (lt_at HS4.out)).trans HS4.out)
  have HR5 := Lib.hid ((hb5.block _ (lt_at HR4.out)).trans HR4.out)
  clear HB4 HS4 HR4 hb5
  as_aux_lemma =>
  have l0 : w5.cell? ⟨w.heap.size + 1, 0, none⟩ = some (.int .i64 kd) := by rw [← HZ.out, cell_at HR5.out]; rfl
  have l1 : w5.cell? ⟨w.heap.size + 1, 1, none⟩ = some (.int .i64 fr) := by rw [← HZ.out, cell_at HR5.out]; rfl
  have l2 : w5.cell? ⟨w.heap.size + 1, 2, none⟩ = some (.int .i64 tt) := by rw [← HZ.out, cell_at HR5.out]; rfl
  have l3 : w5.cell? ⟨w.heap.size + 1, 3, none⟩ = some (.int .u64 (tm : Int)) := by rw [← HZ.out, cell_at HR5.out]; rfl
  have l4 : w5.cell? ⟨w.heap.size + 1, 4, none⟩ = some (.int .u64 (ix : Int)) := by rw [← HZ.out, cell_at HR5.out]; rfl
  have l5 : w5.cell? ⟨w.heap.size + 1, 5, none⟩ = some (.int .u64 (pv : Int)) := by rw [← HZ.out, cell_at HR5.out]; rfl
  have l6 : w5.cell? ⟨w.heap.size + 1, 6, none⟩ = some (.int .u64 (cm : Int)) := by rw [← HZ.out, cell_at HR5.out]; rfl
  have l7 : w5.cell? ⟨w.heap.size + 1, 7, none⟩ = some (.bool ok) := by rw [← HZ.out, cell_at HR5.out]; rfl
  have l8 : w5.cell? ⟨w.heap.size + 1, 8, none⟩ = some (.slice a.A a.n a.c) := by rw [← HZ.out, cell_at HR5.out]; rfl
  have l9 : w5.cell? ⟨w.heap.size + 1, 9, none⟩ = some (.string d) := by rw [← HZ.out, cell_at HR5.out]; rfl
  go_wp2_with fail
  with_reducible refine (HRc.out w5).mono ?_
  rintro e w6 ⟨rfl, hb6⟩
  have HB6 := Lib.hid (HB5.out.trans (hb6.mono HB5.out.size))
  have HS6 := Lib.hid ((hb6.block _ (lt_at HS5.out)).trans HS5.out)
  have HR6 := Lib.hid ((hb6.block _ (lt_at HR5.out)).trans HR5.out)
  clear HB5 HS5 HR5 hb6 l0 l1 l2 l3 l4 l5 l6 l7 l8 l9
  as_aux_lemma =>
  go_wp2_with fail
  with_reducible refine (HPr.out w6).mono ?_
  rintro e w7 ⟨rfl, hb7⟩
  have HB7 := Lib.hid (HB6.out.trans (hb7.mono HB6.out.size))
  have HS7 := Lib.hid ((hb7.block _ (lt_at HS6.out)).trans HS6.out)
  have HR7 := Lib.hid ((hb7.block _ (lt_at HR6.out)).trans HR6.out)
  clear HB6 HS6 HR6 hb7
  as_aux_lemma =>
  have s0 : w7.cell? ⟨w.heap.size, 0, none⟩ = some (.int .i64 i) := by rw [cell_at HS7.out]; rfl
  have s1 : w7.cell? ⟨w.heap.size, 1, none⟩ = some (.int .u64 (t : Int)) := by rw [cell_at HS7.out]; rfl
  have s2 : w7.cell? ⟨w.heap.size, 2, none⟩ = some (.int .i64 vt) := by rw [cell_at HS7.out]; rfl
  go_wp2_with fail
  with_reducible refine (HCh.out w7).mono ?_
  rintro e w8 ⟨rfl, hb8⟩
  have HB8 := Lib.hid (HB7.out.trans (hb8.mono HB7.out.size))
  have HS8 := Lib.hid ((hb8.block _ (lt_at HS7.out)).trans HS7.out)
  have HR8 := Lib.hid ((hb8.block _ (lt_at HR7.out)).trans HR7.out)
  clear HB7 HS7 HR7 hb8 s0 s1 s2
  as_aux_lemma =>
  go_wp2_with fail
  with_reducible refine (HSt.out w8).mono ?_
  rintro e w9 ⟨rfl, hb9⟩
  have HB9 := Lib.hid (HB8.out.trans (hb9.mono HB8.out.size))
  have HS9 := Lib.hid ((hb9.block _ (lt_at HS8.out)).trans HS8.out)
  have HR9 := Lib.hid ((hb9.block _ (lt_at HR8.out)).trans HR8.out)
  clear HB8 HS8 HR8 hb9
  obtain ⟨w10, hw10⟩ : ∃ w10, w9.alloc (.cells #[.int .u64 0, .int .i64 (-1)] 24) = w10 := ⟨_, rfl⟩
  have hb10 : Below w9.heap.size w9 w10 := by rw [← hw10]; exact (Below.refl _ w9).alloc (Nat.le_refl _) _
  have HB10 := Lib.hid (HB9.out.trans (hb10.mono HB9.out.size))
  have HS10 := Lib.hid ((hb10.block _ (lt_at HS9.out)).trans HS9.out)
  have HR10 := Lib.hid ((hb10.block _ (lt_at HR9.out)).trans HR9.out)
  have HH10 : Hid (w10.heap[w9.heap.size]? = some (.cells #[.int .u64 0, .int .i64 (-1)] 24 (0, 0))) := Lib.hid (by rw [← hw10]; exact heap_alloc_new w9 _)
  have HW10 := Lib.hid hw10
  clear HB9 HS9 HR9 hb10 hw10
  go_wp2_with fail
  rw [HW10.out]
  with_reducible refine (HTk.out w10).mono ?_
  rintro e w11 ⟨rfl, hb11⟩
  have HB11 := Lib.hid (HB10.out.trans (hb11.mono HB10.out.size))
  have HS11 := Lib.hid ((hb11.block _ (lt_at HS10.out)).trans HS10.out)
  have HR11 := Lib.hid ((hb11.block _ (lt_at HR10.out)).trans HR10.out)
  have HH11 := Lib.hid ((hb11.block _ (lt_at HH10.out)).trans HH10.out)
  clear HH10
  clear HB10 HS10 HR10 hb11 HW10
  obtain ⟨w12, hw12⟩ : ∃ w12, w11.alloc (.cells #[.int .u64 0, .int .i64 0, .slice none 0 0, .bool false, .slice none 0 0, .bool false, .int .u64 0] 70) = w12 := ⟨_, rfl⟩
  have hb12 : Below w11.heap.size w11 w12 := by rw [← hw12]; exact (Below.refl _ w11).alloc (Nat.le_refl _) _
  have HB12 := Lib.hid (HB11.out.trans (hb12.mono HB11.out.size))
  have HS12 := Lib.hid ((hb12.block _ (lt_at HS11.out)).trans HS11.out)
  have HR12 := Lib.hid ((hb12.block _ (lt_at HR11.out)).trans HR11.out)
  have HH12 := Lib.hid ((hb12.block _ (lt_at HH11.out)).trans HH11.out)
  clear HH11
  have HY12 : Hid (w12.heap[w11.heap.size]? = some (.cells #[.int .u64 0, .int .i64 0, .slice none 0 0, .bool false, .slice none 0 0, .bool false, .int .u64 0] 70 (0, 0))) := Lib.hid (by rw [← hw12]; exact heap_alloc_new w11 _)
  have HW12 := Lib.hid hw12
  clear HB11 HS11 HR11 hb12 hw12
  have s0 : w12.cell? ⟨w.heap.size, 0, none⟩ = some (.int .i64 i) := by rw [cell_at HS12.out]; rfl
  have s1 : w12.cell? ⟨w.heap.size, 1, none⟩ = some (.int .u64 (t : Int)) := by rw [cell_at HS12.out]; rfl
  have s2 : w12.cell? ⟨w.heap.size, 2, none⟩ = some (.int .i64 vt) := by rw [cell_at HS12.out]; rfl
  go_upto_region 11 with fail
  rw [HW12.out]
  go_wp2_with fail
  with_reducible refine (HNw.out w12).mono ?_
  rintro e w13 ⟨rfl, hb13⟩
  have HB13 := Lib.hid (HB12.out.trans (hb13.mono HB12.out.size))
  have HS13 := Lib.hid ((hb13.block _ (lt_at HS12.out)).trans HS12.out)
  have HR13 := Lib.hid ((hb13.block _ (lt_at HR12.out)).trans HR12.out)
  have HH13 := Lib.hid ((hb13.block _ (lt_at HH12.out)).trans HH12.out)
  clear HH12
  have HY13 := Lib.hid ((hb13.block _ (lt_at HY12.out)).trans HY12.out)
  clear HY12
  clear HB12 HS12 HR12 hb13 s0 s1 s2 HW12
  as_aux_lemma =>
  have y0 : w13.cell? ⟨w11.heap.size, 0, none⟩ = some (.int .u64 0) := by rw [cell_at HY13.out]; rfl
  have y1 : w13.cell? ⟨w11.heap.size, 1, none⟩ = some (.int .i64 0) := by rw [cell_at HY13.out]; rfl
  have y2 : w13.cell? ⟨w11.heap.size, 2, none⟩ = some (.slice none 0 0) := by rw [cell_at HY13.out]; rfl
  have y4 : w13.cell? ⟨w11.heap.size, 4, none⟩ = some (.slice none 0 0) := by rw [cell_at HY13.out]; rfl
  have y5 : w13.cell? ⟨w11.heap.size, 5, none⟩ = some (.bool false) := by rw [cell_at HY13.out]; rfl
  have h0 : w13.cell? ⟨w9.heap.size, 0, none⟩ = some (.int .u64 0) := by rw [cell_at HH13.out]; rfl
  have h1 : w13.cell? ⟨w9.heap.size, 1, none⟩ = some (.int .i64 (-1)) := by rw [cell_at HH13.out]; rfl
  go_wp2_with fail
  with_reducible refine (HLg.out w13).mono ?_
  rintro e w14 ⟨rfl, rfl⟩
  as_aux_lemma =>
  go_wp2_with fail
  with_reducible refine (HCo.out w13).mono ?_
  rintro e w15 ⟨rfl, hb15⟩
  have HB15 := Lib.hid (HB13.out.trans (hb15.mono HB13.out.size))
  clear hb15
  go_wp2
  go_ret
  exact ⟨rfl, HB15.out⟩
end Go.Proofs.YtokifeghoodkgaaGreat.LawA
set_option linter.unusedVariables false
set_option linter.unusedSimpArgs false
namespace Go.Proofs.YtokifeghoodkgaaGreat.OpensN
open Go.ChangeShapes Go.WideShapes Go.ChangeAt Go.RowKit Go.Deep Go.Proofs.YtokifeghoodkgaaGreat.Frame Go.Proofs.YtokifeghoodkgaaGreat.Kit Go.Proofs.YtokifeghoodkgaaGreat.Nod Go.Proofs.YtokifeghoodkgaaGreat.NodAt

theorem u64_in {z : Int} (h : (Lit.int .u64 z).wf = true) : ∃ t : Nat, z = (t : Int) := by
  have : 0 ≤ z ∧ z ≤ 18446744073709551615 := by simpa [Lit.wf, IntKind.min, IntKind.max, IntKind.signed, IntKind.bits] using h
  exact ⟨z.toNat, by omega⟩
section
variable {H : Type} {enc : TypeId × Value → H} {w : World}
set_option maxRecDepth 100000 in
theorem open_list {fuel : Nat} {cs : List Value} {x : DataW H × List MemPlace} (h : DataW.trod enc Tryz.prog w 0 (fun _ => true) true fuel 27 cs = some x) :
    ∃ A n c, cs = [.slice A n c] := by
  rcases open_slice Tryz.underlying27 h with ⟨rfl, rfl⟩ | ⟨a, len, cap, m, n, D, Pl, rfl, _⟩
  · exact ⟨none, 0, 0, rfl⟩
  · exact ⟨_, _, _, rfl⟩
set_option maxRecDepth 100000 in
set_option maxHeartbeats 2000000 in
theorem open_letter {fuel : Nat} {cs : List Value} {x : DataW H × List MemPlace} (h : DataW.trod enc Tryz.prog w 0 (fun _ => true) true fuel 47 cs = some x) :
    ∃ (y : Msg) (a : Pl), cs = ltCs y a := by
  obtain ⟨xs, n, _, rfl, hlen, hxl, hfs⟩ := DataW.trod_struct Tryz.underlying47 h
  rw [show Tryz.prog.cellsOf 47 = 10 by kernel_rfl] at hlen
  match cs, hlen, xs, hxl with
  | [v0, v1, v2, v3, v4, v5, v6, v7, v8, v9], _, [y0, y1, y2, y3, y4, y5, y6, y7, y8, y9], _ =>
    have k0 : DataW.trod enc Tryz.prog w 0 (fun _ => true) true n 3 [v0] = some y0 := hfs 0 _ rfl
    have k1 : DataW.trod enc Tryz.prog w 0 (fun _ => true) true n 3 [v1] = some y1 := hfs 1 _ rfl
    have k2 : DataW.trod enc Tryz.prog w 0 (fun _ => true) true n 3 [v2] = some y2 := hfs 2 _ rfl
    have k3 : DataW.trod enc Tryz.prog w 0 (fun _ => true) true n 22 [v3] = some y3 := hfs 3 _ rfl
    have k4 : DataW.trod enc Tryz.prog w 0 (fun _ => true) true n 22 [v4] = some y4 := hfs 4 _ rfl
    have k5 : DataW.trod enc Tryz.prog w 0 (fun _ => true) true n 22 [v5] = some y5 := hfs 5 _ rfl
    have k6 : DataW.trod enc Tryz.prog w 0 (fun _ => true) true n 22 [v6] = some y6 := hfs 6 _ rfl
    have k7 : DataW.trod enc Tryz.prog w 0 (fun _ => true) true n 4 [v7] = some y7 := hfs 7 _ rfl
    have k8 : DataW.trod enc Tryz.prog w 0 (fun _ => true) true n 27 [v8] = some y8 := hfs 8 _ rfl
    have k9 : DataW.trod enc Tryz.prog w 0 (fun _ => true) true n 9 [v9] = some y9 := hfs 9 _ rfl
    obtain ⟨z0, e0, _, _⟩ := DataW.trod_int Tryz.underlying3 k0
    obtain ⟨z1, e1, _, _⟩ := DataW.trod_int Tryz.underlying3 k1
    obtain ⟨z2, e2, _, _⟩ := DataW.trod_int Tryz.underlying3 k2
    obtain ⟨z3, e3, _, g3⟩ := DataW.trod_int Tryz.underlying22 k3
    obtain ⟨z4, e4, _, g4⟩ := DataW.trod_int Tryz.underlying22 k4
    obtain ⟨z5, e5, _, g5⟩ := DataW.trod_int Tryz.underlying22 k5
    obtain ⟨z6, e6, _, g6⟩ := DataW.trod_int Tryz.underlying22 k6
    obtain ⟨z7, e7, _⟩ := DataW.trod_bool Tryz.underlying4 k7
    obtain ⟨A, ln, cp, e8⟩ := open_list k8
    obtain ⟨s, e9, _, _⟩ := DataW.trod_string Tryz.underlying9 k9
    simp only [List.cons.injEq, and_true] at e0 e1 e2 e3 e4 e5 e6 e7 e8 e9
    subst e0 e1 e2 e3 e4 e5 e6 e7 e8 e9
    obtain ⟨t3, rfl⟩ := u64_in g3
    obtain ⟨t4, rfl⟩ := u64_in g4
    obtain ⟨t5, rfl⟩ := u64_in g5
    obtain ⟨t6, rfl⟩ := u64_in g6
    exact ⟨⟨z0, z1, z2, t3, t4, t5, t6, z7, [], s⟩, ⟨A, ln, cp⟩, rfl⟩
set_option maxRecDepth 100000 in
set_option maxHeartbeats 2000000 in
theorem open_start {fuel : Nat} {cs : List Value} {x : DataW H × List MemPlace} (h : DataW.trod enc Tryz.prog w 0 (fun _ => true) true fuel 29 cs = some x) :
    ∃ (i : Int) (t : Nat) (vt : Int) (si st sc : Nat) (sd : ByteArray) (A : Option Addr) (n c : Nat), cs = [.int .i64 i, .int .u64 (t : Int), .int .i64 vt, .int .u64 (si : Int), .int .u64 (st : Int), .int .u64 (sc : Int), .string sd, .slice A n c] := by
  obtain ⟨xs, n, _, rfl, hlen, hxl, hfs⟩ := DataW.trod_struct Tryz.underlying29 h
  rw [show Tryz.prog.cellsOf 29 = 8 by kernel_rfl] at hlen
  match cs, hlen, xs, hxl with
  | [v0, v1, v2, v3, v4, v5, v6, v7], _, [y0, y1, y2, y3], _ =>
    have k0 : DataW.trod enc Tryz.prog w 0 (fun _ => true) true n 3 [v0] = some y0 := hfs 0 _ rfl
    have k1 : DataW.trod enc Tryz.prog w 0 (fun _ => true) true n 24 [v1, v2] = some y1 := hfs 1 _ rfl
    have k2 : DataW.trod enc Tryz.prog w 0 (fun _ => true) true n 26 [v3, v4, v5, v6] = some y2 := hfs 2 _ rfl
    have k3 : DataW.trod enc Tryz.prog w 0 (fun _ => true) true n 27 [v7] = some y3 := hfs 3 _ rfl
    obtain ⟨z0, e0, _, _⟩ := DataW.trod_int Tryz.underlying3 k0
    obtain ⟨A, ln, cp, e7⟩ := open_list k3
    obtain ⟨us, n1, _, rfl, _, hul, hu⟩ := DataW.trod_struct Tryz.underlying24 k1
    obtain ⟨ss, n2, _, rfl, _, hsl, hs⟩ := DataW.trod_struct Tryz.underlying26 k2
    match us, hul, ss, hsl with
    | [p0, p1], _, [q0, q1, q2, q3], _ =>
      have a0 : DataW.trod enc Tryz.prog w 0 (fun _ => true) true n1 22 [v1] = some p0 := hu 0 _ rfl
      have a1 : DataW.trod enc Tryz.prog w 0 (fun _ => true) true n1 3 [v2] = some p1 := hu 1 _ rfl
      have b0 : DataW.trod enc Tryz.prog w 0 (fun _ => true) true n2 22 [v3] = some q0 := hs 0 _ rfl
      have b1 : DataW.trod enc Tryz.prog w 0 (fun _ => true) true n2 22 [v4] = some q1 := hs 1 _ rfl
      have b2 : DataW.trod enc Tryz.prog w 0 (fun _ => true) true n2 22 [v5] = some q2 := hs 2 _ rfl
      have b3 : DataW.trod enc Tryz.prog w 0 (fun _ => true) true n2 9 [v6] = some q3 := hs 3 _ rfl
      obtain ⟨z1, e1, _, g1⟩ := DataW.trod_int Tryz.underlying22 a0
      obtain ⟨z2, e2, _, _⟩ := DataW.trod_int Tryz.underlying3 a1
      obtain ⟨z3, e3, _, g3⟩ := DataW.trod_int Tryz.underlying22 b0
      obtain ⟨z4, e4, _, g4⟩ := DataW.trod_int Tryz.underlying22 b1
      obtain ⟨z5, e5, _, g5⟩ := DataW.trod_int Tryz.underlying22 b2
      obtain ⟨s, e6, _, _⟩ := DataW.trod_string Tryz.underlying9 b3
      simp only [List.cons.injEq, and_true] at e0 e1 e2 e3 e4 e5 e6 e7
      subst e0 e1 e2 e3 e4 e5 e6 e7
      obtain ⟨t1, rfl⟩ := u64_in g1
      obtain ⟨t3, rfl⟩ := u64_in g3
      obtain ⟨t4, rfl⟩ := u64_in g4
      obtain ⟨t5, rfl⟩ := u64_in g5
      exact ⟨z0, t1, z2, t3, t4, t5, s, A, ln, cp, rfl⟩
end
section
variable {H : Type} {enc : TypeId × Value → H} {w : World} {b0 : Nat} {v : Value} {d : DataW H} {p : List MemPlace}
set_option maxRecDepth 100000 in
theorem arg_letter (hv : Value.okWide Tryz.prog w .any b0 47 v) (h : DataW.Trod enc Tryz.prog w 0 (fun _ => true) true 47 v d p) :
    ∃ (x : Msg) (a : Pl), v = ltV x a ∧ True := by
  obtain ⟨cs, rfl, _⟩ := okWide_struct Tryz.underlying47 hv
  obtain ⟨fuel, hf⟩ := h
  obtain ⟨x, a, hx⟩ := open_letter hf
  exact ⟨x, a, by unfold ltV; rw [← Array.toArray_toList (xs := cs)]; show Value.agg (List.toArray cs.toList) = _; rw [show cs.toList = _ from hx]; rfl, trivial⟩
set_option maxRecDepth 100000 in
theorem arg_start (hv : Value.okWide Tryz.prog w .any b0 29 v) (h : DataW.Trod enc Tryz.prog w 0 (fun _ => true) true 29 v d p) :
    ∃ (i : Int) (t : Nat) (vt : Int) (si st sc : Nat) (sd : ByteArray) (A : Option Addr) (n c : Nat), v = .agg #[.int .i64 i, .int .u64 (t : Int), .int .i64 vt, .int .u64 (si : Int), .int .u64 (st : Int), .int .u64 (sc : Int), .string sd, .slice A n c] ∧ True := by
  obtain ⟨cs, rfl, _⟩ := okWide_struct Tryz.underlying29 hv
  obtain ⟨fuel, hf⟩ := h
  obtain ⟨i, t, vt, si, st, sc, sd, A, n, c, hx⟩ := open_start hf
  exact ⟨i, t, vt, si, st, sc, sd, A, n, c, by rw [← Array.toArray_toList (xs := cs)]; show Value.agg (List.toArray cs.toList) = _; rw [show cs.toList = _ from hx], trivial⟩
end
theorem none_said (i : Int) (t : Nat) (vt : Int) (si st sc : Nat) (sd : ByteArray) (A : Option Addr) (n c : Nat) (x : Msg) (a : Pl) (w : World) (h0 : True) (h1 : True) :
    Calls Tryz.prog 6 #[.agg #[.int .i64 i, .int .u64 (t : Int), .int .i64 vt, .int .u64 (si : Int), .int .u64 (st : Int), .int .u64 (sc : Int), .string sd, .slice A n c], ltV x a] w fun e w' => e = .returned (.bool true) ∧ Below w.heap.size w w' :=
  LawA.none_walk i t vt si st sc sd A n c x a w
end Go.Proofs.YtokifeghoodkgaaGreat.OpensN
namespace Go.Proofs.YtokifeghoodkgaaGreat.PRaftNone
open Go.ChangeShapes Go.WideShapes Go.ChangeAt Go.RowKit Go.Proofs.YtokifeghoodkgaaGreat.Kit Go.Proofs.YtokifeghoodkgaaGreat.Frame
set_option linter.unusedVariables false

theorem own : ownKnob Tryz.prog.godebug = none := by kernel_rfl
theorem laidOut : laidOutB Tryz.prog = true := by kernel_rfl

set_option maxRecDepth 100000 in
theorem contract (H : Type) (enc : TypeId × Value → H) (W : World) (base : Nat) (args : Array Value) (ds gs : List (DataW H)) (before : List MemPlace)
    (hval : ∀ (j : Nat) t v, Tryz.f6.params[j]? = some t → args[j]? = some v → Value.okWide Tryz.prog W .any base t v)
    (hW : DataW.Whole enc Tryz.prog Tryz.f6.params.toList Rows.raftNoneSpec.vars false W args.toList ds gs before)
    (hs0 : (DataW.weightsEach Tryz.prog (Tryz.f6.params.toList ++ Rows.raftNoneSpec.plain.varTypes Tryz.prog) (ds ++ gs)).all (· ≤ reachBytes) = true) :
    Calls Tryz.prog 6 args W fun e W' => ∃ v, e = .returned v ∧ Rows.raftNoneSpec.post enc Tryz.prog Tryz.f6 false true false false W args v W' := by
  have hW' := hW
  have hsz : (DataW.weightsEach Tryz.prog (Tryz.f6.params.toList ++ Rows.raftNoneSpec.plain.varTypes Tryz.prog) (ds ++ gs)).all (· ≤ reachBytes) = true := hs0
  obtain ⟨p, q, hA0, hV, rfl, hfz, hnd⟩ := hW
  have hA : DataW.TrodAll enc Tryz.prog W 0 (fun _ => true) true Tryz.f6.params.toList args.toList ds p := hA0
  rw [Tryz.params6] at hA hval hsz
  obtain ⟨v0, vs0, d0, ds0, p0, q0, hargs, rfl, rfl, h0, r0⟩ := trodAll_cons hA
  obtain ⟨v1, vs1, d1, ds1, p1, q1, rfl, rfl, rfl, h1, r1⟩ := trodAll_cons r0
  obtain ⟨rfl, rfl, rfl⟩ := trodAll_nil r1
  obtain rfl : args = #[v0, v1] := by cases args; simp_all
  obtain ⟨rfl, rfl⟩ := trodVars_none hV
  have lt0 : ∀ x ∈ p0, x.block < W.heap.size := by obtain ⟨m, hm⟩ := h0; exact DataW.trod_lt m _ _ _ hm
  obtain ⟨i0, t0, vt0, si0, st0, sc0, sd0, A0, n0, c0, rfl, hx0_0⟩ := OpensN.arg_start (hval 0 29 v0 rfl rfl) h0
  have lt1 : ∀ x ∈ p1, x.block < W.heap.size := by obtain ⟨m, hm⟩ := h1; exact DataW.trod_lt m _ _ _ hm
  obtain ⟨x1, a1, rfl, hx1_0⟩ := OpensN.arg_letter (hval 1 47 v1 rfl rfl) h1
  clear hA0
  refine (OpensN.none_said i0 t0 vt0 si0 st0 sc0 sd0 A0 n0 c0 x1 a1 W hx0_0 hx1_0).mono fun e W' ⟨he, bel⟩ => ?_
  subst he
  exact ⟨_, rfl, _, _, _, [], _, [], hW', trodAll_mk1 (shut_bool Tryz.underlying4 _), (trodAll_cons_mk (Below.trod laidOut (by kernel_rfl) (of_decide_eq_true (by kernel_rfl)) h0 bel lt0) (trodAll_cons_mk (Below.trod laidOut (by kernel_rfl) (of_decide_eq_true (by kernel_rfl)) h1 bel lt1) trodAll_mk0)), rfl, bel.frame _, fun h => by cases h⟩

set_option maxRecDepth 100000 in
theorem lifted (os : Os) (started : os.Started) (H : Type) (enc : TypeId × Value → H) :
    ReturnsInHanded {} Tryz.checked os 6 .any (Rows.raftNoneSpec.pre6 enc Tryz.prog Tryz.f6 Rows.raftNoneRow.domain false) (Rows.raftNoneSpec.post enc Tryz.prog Tryz.f6 false true false false) := by
  refine returnsInHanded_of_change_sized (C := Tryz.checked) own started (by kernel_rfl) Tryz.func6
    (ChangeSpec.witness6 (enc := enc) (C := Tryz.checked) false ⟨#[], #[.agg #[.int .i64 0, .int .u64 0, .int .i64 0, .int .u64 0, .int .u64 0, .int .u64 0, .string .empty, .slice none 0 0], .agg #[.int .i64 0, .int .i64 0, .int .i64 0, .int .u64 0, .int .u64 0, .int .u64 0, .int .u64 0, .bool false, .slice none 0 0, .string .empty]], []⟩ 8 (by kernel_rfl) (by kernel_rfl) (by kernel_rfl) (by kernel_rfl)) ?_
  intro W base args ds gs before hval hW _ hs _
  exact contract H enc W base args ds gs before hval hW hs

theorem over : Rows.raftNoneRow.holds Tryz.pinned (OpenSpec.ofChange Rows.raftNoneSpec) :=
  OpenClaim.holds_of_wide 6 Tryz.f6 rfl rfl rfl rfl rfl rfl rfl ⟨rfl, rfl, rfl, rfl, rfl⟩ rfl rfl rfl rfl rfl (by kernel_rfl) Tryz.func6 (by kernel_rfl)
    (of_decide_eq_true (by kernel_rfl)) (by unfold Func.isWrapper; first | (rw [if_pos (by decide +kernel)]; kernel_rfl) | (rw [if_neg (by decide +kernel)]; exact ⟨rfl, rfl⟩))
    (fun os started H enc _ => lifted os started H enc)

theorem proved : Rows.RaftNoneSaid := over
end Go.Proofs.YtokifeghoodkgaaGreat.PRaftNone
