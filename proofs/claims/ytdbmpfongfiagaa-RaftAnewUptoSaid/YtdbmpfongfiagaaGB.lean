/- What each statement of layer 12 asks first, walked. No statement is proved here. -/
import Derived.Test.YtdbmpfongfiagaaGY
import Derived.Test.YtdbmpfongfiagaaNodB
set_option linter.unusedVariables false
namespace Go.Proofs.Ytdbmpfongfiagaa.WalkP
open Go.RowKit Go.Proofs.Ytdbmpfongfiagaa.Kit Go.Proofs.Ytdbmpfongfiagaa.Blocks Go.Proofs.Ytdbmpfongfiagaa.Rlog Go.Proofs.Ytdbmpfongfiagaa.Ents Go.Proofs.Ytdbmpfongfiagaa.LogAt Go.Proofs.Ytdbmpfongfiagaa.Nod Go.Proofs.Ytdbmpfongfiagaa.NodAt Go.Proofs.Ytdbmpfongfiagaa.AppL Go.Proofs.Ytdbmpfongfiagaa.WalkA Go.Proofs.Ytdbmpfongfiagaa.WalkB Go.Proofs.Ytdbmpfongfiagaa.WalkC Go.Proofs.Ytdbmpfongfiagaa.WalkD Go.Proofs.Ytdbmpfongfiagaa.WalkE Go.Proofs.Ytdbmpfongfiagaa.WalkF Go.Proofs.Ytdbmpfongfiagaa.WalkH

theorem timeout_nil (w : World) : Calls Try.prog 13 #[.pointer none] w fun e w' => e = .returned (.tuple #[]) ∧ Below w.heap.size w w' := by
  go_enter Try.func13, Try.ntmps13
  go_wp2
  (try simp only [Exit.inBlock, Exit.then]); refine bodyPost_ret (results_none rfl _ _ _) rfl ?_
  exact ⟨rfl, Below.refl _ _⟩
theorem receive_nil (x : Msg) (a : Pl) (w : World) : Calls Try.prog 8 #[.pointer none, ltV x a] w fun e w' => e = .returned (.tuple #[]) ∧ Below w.heap.size w w' := by
  obtain ⟨kd, fr, tt, tm, ix, pv, cm, ok, es, d⟩ := x
  unfold ltV
  (try simp only)
  go_enter Try.func8, Try.ntmps8
  go_wp2
  (try simp only [Exit.inBlock, Exit.then]); refine bodyPost_ret (results_none rfl _ _ _) rfl ?_
  exact ⟨rfl, (Below.refl _ w).alloc (Nat.le_refl _) _⟩
end Go.Proofs.Ytdbmpfongfiagaa.WalkP
set_option linter.unusedVariables false
namespace Go.Proofs.Ytdbmpfongfiagaa.Start
open Go.Proofs.Ytdbmpfongfiagaa.Rlog Go.Proofs.Ytdbmpfongfiagaa.Nod
open Go.Proofs.Ytdbmpfongfiagaa.Quorum (mem size need sound maj node has)
open Go.Proofs.Ytdbmpfongfiagaa.WalkJ (newNd)

def g0 : G := ⟨⟨0, 0, 7, ByteArray.empty⟩, []⟩
def m0 : Nd := newNd 0 0 (-1) g0
def m1 : Nd := ⟨0, 1, 0, g0, 1, -1, 0, 1, zeros, zeros, [], false, [{ blankM with k := 1, t := 1, tm := 1 }, { blankM with k := 1, t := 2, tm := 1 }], true⟩
def voteL : Msg := { blankM with k := 2, f := 1, t := 0, tm := 1, ok := true }
theorem none_rest : mem 7 = [0, 1, 2] := by decide
theorem cfg0 {m : Nd} (h : m.g = g0) : cfg m = 7 := by unfold cfg; rw [h]; decide
theorem rest0 {m : Nd} (h : m.g = g0) (hi : m.id = 0) : rest m = [1, 2] := by unfold rest; rw [cfg0 h, hi]; decide
theorem maj1 : maj 7 1 = false := by decide
theorem maj3 : maj 7 3 = true := by decide
theorem may0 : mayStand m0 = true := by decide
theorem asks0 : asks (stands m0) = m1 := by
  unfold asks
  rw [rest0 rfl rfl]
  rfl
theorem timeout0 : timeout m0 = m1 := by
  unfold timeout
  rw [if_neg (by rw [may0]; decide), asks0]
  unfold lead
  rw [if_neg (by rw [cfg0 rfl]; intro h; have := h.2; rw [show m1.votes = 1 from rfl, maj1] at this; cases this)]
theorem hears1 : hears (taken m1) voteL = true := by decide
def mv : Nd := { taken m1 with votes := 3 }
theorem received : receive (taken m1) voteL = (Nod.add (leads mv) 0 ByteArray.empty).2 := by
  unfold receive
  rw [if_pos hears1]
  unfold heard
  rw [if_neg (by decide)]
  unfold handles
  rw [if_neg (by decide), if_pos (by decide)]
  unfold voted
  rw [if_pos (by decide)]
  show lead mv = _
  unfold lead
  rw [if_pos ⟨rfl, by rw [cfg0 rfl]; exact maj3⟩]
def ma : Nd := added (leads mv) 0 ByteArray.empty
theorem can0 : canAdd (leads mv) 0 ByteArray.empty = true := by decide
theorem cfga {m : Nd} (h : m.g = ma.g) : cfg m = 7 := by unfold cfg; rw [h]; decide
theorem resta {m : Nd} (h : m.g = ma.g) (hi : m.id = 0) : rest m = [1, 2] := by unfold rest; rw [cfga h, hi]; decide
def mb : Nd := write (write ma 1) 2
theorem beata : beat ma = mb := by
  unfold beat
  rw [if_pos (show ma.role = 2 from rfl), resta rfl rfl]
  rfl
theorem best0 : best mb = 0 := by
  unfold best
  rw [cfga (m := mb) rfl]
  refine reach_of (.inr ⟨by decide, ?_, ?_⟩)
  · show need 7 ≤ cnt 7 [1, 0, 0, 0, 0, 0, 0] 0
    decide
  · show cnt 7 [1, 0, 0, 0, 0, 0, 0] 1 < need 7
    decide
theorem advance0 : advance mb = mb := by
  unfold advance mayAdvance
  rw [best0, if_neg (by simp)]
theorem led : receive (taken m1) voteL = mb := by
  rw [received]
  unfold Nod.add
  rw [if_pos can0]
  show advance (beat ma) = mb
  rw [beata, advance0]
theorem led_says : mb.role = 2 ∧ mb.leader = 0 ∧ mb.term = 1 ∧ mb.vote = 0 ∧ mb.kept.length = 1 ∧ mb.out.length = 2 := ⟨rfl, rfl, rfl, rfl, rfl, rfl⟩
theorem fine0 : Fine g0 := fine_new (by decide) (by decide) ⟨by decide, by decide, by decide⟩ (fun e h => by cases h)
theorem b0 : NdB 0 m0 := WalkJ.newNd_b (by decide) (by decide) (by decide) (by decide) fine0 (by decide)
end Go.Proofs.Ytdbmpfongfiagaa.Start
set_option linter.unusedVariables false
namespace Go.Proofs.Ytdbmpfongfiagaa.Begun
open Go.RowKit Go.Proofs.Ytdbmpfongfiagaa.Kit Go.Proofs.Ytdbmpfongfiagaa.Blocks Go.Proofs.Ytdbmpfongfiagaa.Rlog Go.Proofs.Ytdbmpfongfiagaa.Ents Go.Proofs.Ytdbmpfongfiagaa.LogAt Go.Proofs.Ytdbmpfongfiagaa.Nod Go.Proofs.Ytdbmpfongfiagaa.NodAt Go.Proofs.Ytdbmpfongfiagaa.AppL Go.Proofs.Ytdbmpfongfiagaa.WalkA Go.Proofs.Ytdbmpfongfiagaa.WalkB Go.Proofs.Ytdbmpfongfiagaa.WalkC Go.Proofs.Ytdbmpfongfiagaa.WalkD Go.Proofs.Ytdbmpfongfiagaa.WalkE Go.Proofs.Ytdbmpfongfiagaa.WalkF Go.Proofs.Ytdbmpfongfiagaa.WalkH Go.Proofs.Ytdbmpfongfiagaa.WalkI Go.Proofs.Ytdbmpfongfiagaa.Start

/-- What was taken, in a block of its own. -/
def RBox (W : World) (r : Nat) (t : Nat) (v : Int) (A : Option Addr) (n c : Nat) (i : Bool) (A' : Option Addr) (n' c' : Nat) (s : Bool) (k : Nat) : Prop :=
  W.heap[r]? = some (.cells #[.int .u64 (t : Int), .int .i64 v, .slice A n c, .bool i, .slice A' n' c', .bool s, .int .u64 (k : Int)] 47 (0, 0))
theorem new_log0 (w : World) : Calls Try.prog 6 #[.agg #[.int .u64 0, .int .u64 0, .int .u64 7, .string ⟨#[]⟩], .slice none 0 0] w (RlgWalkD.NewLog 61 w g0) :=
  RlgWalkD.new_made (s := g0.snap) ⟨by decide, by decide, by decide⟩ none 0 0 [] w (RE.nil _ _ _) (by simp) (by omega) (by decide +kernel) (by decide +kernel)
theorem new_node0 {B q : Nat} {v : Value} {w : World} (h : LogAt 61 B w q v g0) : Calls Try.prog 7 #[.int .i64 0, .agg #[.int .u64 0, .int .i64 (-1)], .pointer (some ⟨q, 0, none⟩)] w fun e w' =>
    ∃ p, e = .returned (.tuple #[.pointer (some ⟨p, 0, none⟩), .int .i64 0]) ∧ PAt B w' p ⟨q, v, .slice none 0 0, .slice none 0 0, [], fun _ => False⟩ m0 ∧ Below w.heap.size w w' := by
  have := WalkJ.new_any h fine0 0 0 (-1)
  refine this.mono fun e w' h2 => ?_
  rw [if_pos (by decide)] at h2
  obtain ⟨p, h3, _, h4, h5⟩ := h2
  exact ⟨p, h3, h4, h5⟩
section
variable {B p : Nat} {z : Seat} {w : World}
theorem timeout_0 (h : PAt B w p z m0) : Calls Try.prog 13 #[.pointer (some ⟨p, 0, none⟩)] w (Does B w p z m1) := by
  have := timeout_any h b0 (by omega)
  rwa [timeout0] at this
theorem receive_0 (h : PAt B w p z (taken m1)) : Calls Try.prog 8 #[.pointer (some ⟨p, 0, none⟩), .agg #[.int .i64 2, .int .i64 1, .int .i64 0, .int .u64 1, .int .u64 0, .int .u64 0, .int .u64 0, .bool true, .slice none 0 0, .string ⟨#[]⟩]] w (Does B w p z mb) := by
  have hb : NdB 22 (taken m1) := by have := timeout_b b0 (by omega); rw [timeout0] at this; exact taken_b this
  have := WalkO.receive_any h hb (by omega) voteL noPl ⟨by decide, by decide, by decide, by decide, by decide, by decide, by decide, by decide, by decide, by decide, (fun e h => by cases h), by decide⟩ (Fit.none _ _ rfl) (by decide)
  rw [led] at this
  exact this
/-- What a call of a node turns lies above what the node was made of. -/
theorem below_grow {w0 w' : World} {m : Nd} {z' : Seat} (hB : B ≤ w0.heap.size) (b : Below B w0 w) (h : PAt B w p z m) (g : Grow p z z' w w') : Below B w0 w' :=
  below_only b g.only hB fun q hq => (NodeAt.mine_lt h hq).1
theorem below_take {w0 w' : World} {m : Nd} (hB : B ≤ w0.heap.size) (b : Below B w0 w) (h : PAt B w p z m) (g : Only (fun q => q = p) w w') : Below B w0 w' :=
  below_only b g hB fun q hq => by subst hq; exact h.low
theorem outs_form {m : Nd} (h : PAt B w p z m) : ∃ A c, z.vo = .slice A m.out.length c := by
  obtain ⟨A, c, e, _⟩ := own_form h.outs
  exact ⟨A, c, by rw [e, ← h.said, List.length_map]⟩
theorem kept_form {m : Nd} (h : PAt B w p z m) : ∃ A c, z.vk = .slice A m.kept.length c := by
  obtain ⟨A, c, e, _⟩ := own_form h.kept
  exact ⟨A, c, e⟩
set_option maxRecDepth 6000 in
set_option maxHeartbeats 4000000 in
theorem begun_true (w : World) : Calls Try.prog 4 #[] w fun e w' => e = .returned (.bool true) ∧ Below w.heap.size w w' := by
  have HN0 := Lib.hid (new_log0 w)
  go_enter Try.func4, Try.ntmps4
  go_wp2_with fail
  refine HN0.out.mono ?_
  rintro e w1 ⟨q, v, rfl, hlog, hb1⟩
  have HN1 := Lib.hid (new_node0 hlog)
  have HB1 := Lib.hid hb1
  clear hlog HN0 hb1
  go_wp2_with fail
  refine HN1.out.mono ?_
  rintro e w2 ⟨p, rfl, h2, hb2⟩
  have HB2 := Lib.hid (HB1.out.trans (hb2.mono HB1.out.size))
  have HT := Lib.hid (timeout_0 h2)
  have H2 := Lib.hid h2
  clear HN1 HB1 h2 hb2
  as_aux_lemma =>
  go_wp2_with fail
  with_reducible refine HT.out.mono ?_
  rintro e w3 ⟨rfl, z3, h3, g3⟩
  have HB3 := Lib.hid (below_grow (Nat.le_refl _) HB2.out H2.out g3)
  have HK := Lib.hid (take_any h3)
  obtain ⟨A3, c3, ho3⟩ := outs_form h3
  obtain ⟨K3, k3, hk3⟩ := kept_form h3
  have H3 := Lib.hid h3
  have HO3 := Lib.hid ho3
  have HK3 := Lib.hid hk3
  clear h3 g3 HT HB2 H2 ho3 hk3
  as_aux_lemma =>
  go_wp2_with fail
  with_reducible refine HK.out.mono ?_
  rintro e w4 ⟨rfl, h4, o4⟩
  have HB4 := Lib.hid (below_take (Nat.le_refl _) HB3.out H3.out o4)
  have hrv : ReadyV z3 m1 = .agg #[.int .u64 1, .int .i64 0, .slice K3 0 k3, .bool false, .slice A3 2 c3, .bool true, .int .u64 0] := by
    unfold ReadyV
    rw [HO3.out, HK3.out]
    rfl
  rw [hrv]
  obtain ⟨w5, hw5⟩ : ∃ w5, w4.alloc (.cells #[.int .u64 1, .int .i64 0, .slice K3 0 k3, .bool false, .slice A3 2 c3, .bool true, .int .u64 0] 47) = w5 := ⟨_, rfl⟩
  have hr5 : w5.heap[w4.heap.size]? = some (.cells #[.int .u64 1, .int .i64 0, .slice K3 0 k3, .bool false, .slice A3 2 c3, .bool true, .int .u64 0] 47 (0, 0)) := by rw [← hw5]; exact heap_alloc_new w4 _
  have hb5 : Below w4.heap.size w4 w5 := by rw [← hw5]; exact (Below.refl _ w4).alloc (Nat.le_refl _) _
  have h5 := h4.below hb5
  have hp4 : p < w4.heap.size := h4.plt
  have hnm : ¬ Mine p (bare z3) w4.heap.size := fun e => by have := (NodeAt.mine_lt h4 e).2; omega
  have HB5 := Lib.hid (HB4.out.trans (hb5.mono HB4.out.size))
  have HR := Lib.hid (receive_0 h5)
  have H5 := Lib.hid h5
  have HR5 := Lib.hid hr5
  have HW5 := Lib.hid hw5
  have HNM := Lib.hid hnm
  clear h4 o4 HK HB3 H3 HO3 HK3 hrv hw5 hr5 hb5 h5 hnm HB4
  go_wp2_with fail
  rw [HW5.out]
  with_reducible refine HR.out.mono ?_
  rintro e w6 ⟨rfl, z6, h6, g6⟩
  have HR6 := Lib.hid (g6.block HR5.out HNM.out)
  have HB6 := Lib.hid (below_grow (Nat.le_refl _) HB5.out H5.out g6)
  have HK := Lib.hid (take_any h6)
  obtain ⟨A6, c6, ho6⟩ := outs_form h6
  obtain ⟨K6, k6, hk6⟩ := kept_form h6
  have H6 := Lib.hid h6
  have HO6 := Lib.hid ho6
  have HK6 := Lib.hid hk6
  clear h6 g6 HR HB5 H5 HR5 HW5 HNM ho6 hk6
  as_aux_lemma =>
  go_wp2_with fail
  with_reducible refine HK.out.mono ?_
  rintro e w7 ⟨rfl, h7, o7⟩
  have HB7 := Lib.hid (below_take (Nat.le_refl _) HB6.out H6.out o7)
  have hr7 := o7.heap HR6.out (show ¬ (w4.heap.size = p) by omega)
  have hrv : ReadyV z6 mb = .agg #[.int .u64 1, .int .i64 0, .slice K6 1 k6, .bool false, .slice A6 2 c6, .bool false, .int .u64 0] := by
    unfold ReadyV
    rw [HO6.out, HK6.out]
    rfl
  rw [hrv]
  obtain ⟨w8, hw8⟩ : ∃ w8, w7.alloc (.cells #[.int .u64 1, .int .i64 0, .slice K6 1 k6, .bool false, .slice A6 2 c6, .bool false, .int .u64 0] 47) = w8 := ⟨_, rfl⟩
  have hr8 : w8.heap[w7.heap.size]? = some (.cells #[.int .u64 1, .int .i64 0, .slice K6 1 k6, .bool false, .slice A6 2 c6, .bool false, .int .u64 0] 47 (0, 0)) := by rw [← hw8]; exact heap_alloc_new w7 _
  have hb8 : Below w7.heap.size w7 w8 := by rw [← hw8]; exact (Below.refl _ w7).alloc (Nat.le_refl _) _
  have h8 := h7.below hb8
  have hl7 : w4.heap.size < w7.heap.size := lt_at hr7
  have hs5 := (hb8.block _ hl7).trans hr7
  have HB8 := Lib.hid (HB7.out.trans (hb8.mono HB7.out.size))
  have HS := Lib.hid (status_any h8)
  have HR8 := Lib.hid hr8
  have HR5 := Lib.hid hs5
  have HW8 := Lib.hid hw8
  clear h7 o7 HK HB6 H6 HO6 HK6 hrv hw8 hr8 hb8 h8 hr7 hs5 HB7 HR6
  go_wp2_with fail
  rw [HW8.out]
  with_reducible refine HS.out.mono ?_
  rintro e w9 ⟨rfl, hb9⟩
  rw [show StatusV (taken mb) = .tuple #[.int .i64 2, .int .i64 0, .agg #[.int .u64 1, .int .i64 0], .int .u64 0] from rfl]
  obtain ⟨w10, hw10⟩ : ∃ w10, w9.alloc (.cells #[.int .u64 1, .int .i64 0] 24) = w10 := ⟨_, rfl⟩
  have hb10 : Below w9.heap.size w9 w10 := by rw [← hw10]; exact (Below.refl _ w9).alloc (Nat.le_refl _) _
  have hrh : w10.heap[w9.heap.size]? = some (.cells #[.int .u64 1, .int .i64 0] 24 (0, 0)) := by rw [← hw10]; exact heap_alloc_new w9 _
  have hb8t : Below w8.heap.size w8 w10 := hb9.trans (hb10.mono hb9.size)
  have r5 := (hb8t.block _ (lt_at HR5.out)).trans HR5.out
  have r8 := (hb8t.block _ (lt_at HR8.out)).trans HR8.out
  have y4 : w10.cell? ⟨w4.heap.size, 4, none⟩ = some (.slice A3 2 c3) := by rw [cell_at r5]; rfl
  have y5 : w10.cell? ⟨w4.heap.size, 5, none⟩ = some (.bool true) := by rw [cell_at r5]; rfl
  have u2 : w10.cell? ⟨w7.heap.size, 2, none⟩ = some (.slice K6 1 k6) := by rw [cell_at r8]; rfl
  have u4 : w10.cell? ⟨w7.heap.size, 4, none⟩ = some (.slice A6 2 c6) := by rw [cell_at r8]; rfl
  have t0 : w10.cell? ⟨w9.heap.size, 0, none⟩ = some (.int .u64 1) := by rw [cell_at hrh]; rfl
  have t1 : w10.cell? ⟨w9.heap.size, 1, none⟩ = some (.int .i64 0) := by rw [cell_at hrh]; rfl
  have HB10 := Lib.hid (HB8.out.trans (hb8t.mono HB8.out.size))
  have HW10 := Lib.hid hw10
  clear hb9 hw10 hb10 hrh hb8t r5 r8 HS HB8 HR8 HR5 HW8
  as_aux_lemma =>
  go_upto_region 8 with fail
  rw [HW10.out]
  go_wp2
  go_ret
  exact ⟨rfl, HB10.out⟩
end
end Go.Proofs.Ytdbmpfongfiagaa.Begun
