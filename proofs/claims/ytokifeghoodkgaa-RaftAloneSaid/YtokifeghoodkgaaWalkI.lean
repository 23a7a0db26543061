/- What the program's Change leaves, walked; New, Take, Status. -/
import Derived.Test.YtokifeghoodkgaaWalkH
set_option linter.unusedVariables false
namespace Go.Proofs.Ytokifeghoodkgaa.WalkI
open Go.RowKit Go.Proofs.Ytokifeghoodkgaa.Kit Go.Proofs.Ytokifeghoodkgaa.Blocks Go.Proofs.Ytokifeghoodkgaa.Rlog Go.Proofs.Ytokifeghoodkgaa.Ents Go.Proofs.Ytokifeghoodkgaa.LogAt Go.Proofs.Ytokifeghoodkgaa.Nod Go.Proofs.Ytokifeghoodkgaa.NodAt Go.Proofs.Ytokifeghoodkgaa.AppL Go.Proofs.Ytokifeghoodkgaa.WalkA Go.Proofs.Ytokifeghoodkgaa.WalkB Go.Proofs.Ytokifeghoodkgaa.WalkC Go.Proofs.Ytokifeghoodkgaa.WalkD Go.Proofs.Ytokifeghoodkgaa.WalkE Go.Proofs.Ytokifeghoodkgaa.WalkF Go.Proofs.Ytokifeghoodkgaa.WalkG
open Go.Proofs.Ytokifeghoodkgaa.Told (unums)
open Go.Proofs.Ytokifeghoodkgaa.Quorum (mem size need sound maj node has turn change)

/-- What a call that answers a number and an error leaves. -/
def Tells (B : Nat) (w : World) (p : Nat) (z : Seat) (r : (Nat × Int) × Nd) (e : Ending) (w' : World) : Prop := e = .returned (.tuple #[.int .u64 (r.1.1 : Int), .int .i64 r.1.2]) ∧ LeftP B w p z r.2 w'
section
variable {B p N : Nat} {z : Seat} {m : Nd} {w : World}
theorem change_node {c : Nat} {ad : Bool} {i : Int} (h : (change c ad i).2 = 0) : 0 ≤ i ∧ i < 7 := by
  unfold change at h
  split at h
  · rename_i hc
    exact of_decide_eq_true hc.2
  · cases h
/-- Two results, one in a block that is known whole, one more. -/
theorem results_status {P : Program} {fn : Func} {a b c d : Tmp} {ty : TypeId} (h : fn.results = #[.tmp a, .tmp b, .cell c ty, .tmp d]) (tmps : Array Value) (w : World) (g : Nat) (t : TypeId) (cs : Array Value) (fr : Nat × Nat) (ds : TypeDesc)
    (hp : tmps.getD c undef = .pointer (some ⟨g, 0, none⟩)) (hg : w.heap[g]? = some (.cells cs t fr))
    (hu : P.underlying ty = some ds) (hd : (match ds with | .struct _ | .array _ _ => true | _ => false) = true) (hi : (P.info? ty).map (·.size) = some cs.size) :
    (results fn tmps).run P w = .ok (.tuple #[tmps.getD a undef, tmps.getD b undef, .agg cs, tmps.getD d undef]) w := by
  have hp' : tmps[c]?.getD undef = .pointer (some ⟨g, 0, none⟩) := by simpa using hp
  simp [results, h, hp', asAddr, Result.andThen, run_loadVar_row w g t ty cs fr ds hg hu hd hi]
/-- Role, leader, hard state, commit. -/
def StatusV (m : Nd) : Value := .tuple #[.int .i64 (m.role : Int), .int .i64 m.leader, .agg #[.int .u64 (m.term : Int), .int .i64 m.vote], .int .u64 (m.commit : Int)]
set_option maxHeartbeats 1000000 in
theorem status_any (h : PAt B w p z m) : Calls Try.prog 16 #[.pointer (some ⟨p, 0, none⟩)] w fun e w' => e = .returned (StatusV m) ∧ Below w.heap.size w w' := by
  have c5 := h.c5
  have c6 := h.c6
  have c8 := h.c8
  have c9 := h.c9
  have c10 := h.c10
  have hplt := h.plt
  unfold StatusV
  clear h
  go_enter Try.func16, Try.ntmps16
  go_wp2_with fail
  go_region
  go_wp2
  refine bodyPost_ret (results_status rfl _ _ w.heap.size 35 #[.int .u64 (m.term : Int), .int .i64 m.vote] (0, 0) _ rfl (heap_alloc_new w _) Try.underlying35 rfl (by kernel_rfl)) rfl ?_
  exact ⟨rfl, ((Below.refl _ w).alloc (Nat.le_refl _) _).drew⟩
theorem status_nil (w : World) : Calls Try.prog 16 #[.pointer none] w fun e w' => e = .returned (.tuple #[.int .i64 0, .int .i64 (-1), .agg #[.int .u64 0, .int .i64 (-1)], .int .u64 0]) ∧ Below w.heap.size w w' := by
  go_enter Try.func16, Try.ntmps16
  go_wp2
  refine bodyPost_ret (results_status rfl _ _ w.heap.size 35 #[.int .u64 0, .int .i64 (-1)] (0, 0) _ rfl (heap_alloc_new w _) Try.underlying35 rfl (by kernel_rfl)) rfl ?_
  exact ⟨rfl, (Below.refl _ w).alloc (Nat.le_refl _) _⟩
/-- A node of which all was taken. -/
def bare (z : Seat) : Seat := { z with vk := .slice none 0 0, vo := .slice none 0 0, Z := [] }
theorem PAt.bared (h : PAt B w p z m) : PAt B ((((w.setCell ⟨p, 0, none⟩ (.slice none 0 0)).setCell ⟨p, 1, none⟩ (.slice none 0 0)).setCell ⟨p, 2, none⟩ (.bool false)).setCell ⟨p, 3, none⟩ (.bool false)) p (bare z) (taken m) ∧
    Only (fun q => q = p) w ((((w.setCell ⟨p, 0, none⟩ (.slice none 0 0)).setCell ⟨p, 1, none⟩ (.slice none 0 0)).setCell ⟨p, 2, none⟩ (.bool false)).setCell ⟨p, 3, none⟩ (.bool false)) := by
  have ho : Only (fun q => q = p) w ((((w.setCell ⟨p, 0, none⟩ (.slice none 0 0)).setCell ⟨p, 1, none⟩ (.slice none 0 0)).setCell ⟨p, 2, none⟩ (.bool false)).setCell ⟨p, 3, none⟩ (.bool false)) :=
    ((((Only.refl (fun q => q = p) w).setCell (a := ⟨p, 0, none⟩) (.inr rfl) _).setCell (a := ⟨p, 1, none⟩) (.inr rfl) _).setCell (a := ⟨p, 2, none⟩) (.inr rfl) _).setCell (a := ⟨p, 3, none⟩) (.inr rfl) _
  refine ⟨⟨h.low, ?_, h.log.keep ho fun b hb e => h.d1 (e ▸ hb), World.ownsRow_nil _ _ _ _, World.ownsRow_nil _ _ _ _, rfl, by simp [bare], fun b hb => Nat.lt_of_lt_of_le (h.xlt b hb) ho.size, h.d1, by simp [bare, Value.ownBlock], by simp [bare, Value.ownBlock], fun k _ => by simp [bare, Value.ownBlock], fun k _ => by simp [bare, Value.ownBlock], fun k hk => by simp [bare, Value.ownBlock] at hk⟩, ho⟩
  rw [set_at (set_at (set_at (set_at h.cell _) _) _) _]
  rfl
theorem bare_mine {k : Nat} (h : Mine p (bare z) k) : Mine p z k := by
  rcases h with h | h | h | h
  · exact .inl h
  · exact .inr (.inl h)
  · simp [bare, Value.ownBlock] at h
  · simp [bare, Value.ownBlock] at h
theorem ready_set {W : World} {r : Nat} {a0 a1 a2 a3 a4 a5 a6 : Value} (h : W.heap[r]? = some (.cells #[a0, a1, a2, a3, a4, a5, a6] 41 (0, 0))) (t v : Int) (Ak : Option Addr) (nk ck : Nat) (i : Bool) (Ao : Option Addr) (no co : Nat) (s : Bool) (c : Int) :
    (((((((W.setCell ⟨r, 0, none⟩ (.int .u64 t)).setCell ⟨r, 1, none⟩ (.int .i64 v)).setCell ⟨r, 2, none⟩ (.slice Ak nk ck)).setCell ⟨r, 3, none⟩ (.bool i)).setCell ⟨r, 4, none⟩ (.slice Ao no co)).setCell ⟨r, 5, none⟩ (.bool s)).setCell ⟨r, 6, none⟩ (.int .u64 c)).heap[r]? =
      some (.cells #[.int .u64 t, .int .i64 v, .slice Ak nk ck, .bool i, .slice Ao no co, .bool s, .int .u64 c] 41 (0, 0)) ∧
    Only (fun q => q = r) W (((((((W.setCell ⟨r, 0, none⟩ (.int .u64 t)).setCell ⟨r, 1, none⟩ (.int .i64 v)).setCell ⟨r, 2, none⟩ (.slice Ak nk ck)).setCell ⟨r, 3, none⟩ (.bool i)).setCell ⟨r, 4, none⟩ (.slice Ao no co)).setCell ⟨r, 5, none⟩ (.bool s)).setCell ⟨r, 6, none⟩ (.int .u64 c)) := by
  refine ⟨?_, (((((((Only.refl (fun q => q = r) W).setCell (a := ⟨r, 0, none⟩) (.inr rfl) _).setCell (a := ⟨r, 1, none⟩) (.inr rfl) _).setCell (a := ⟨r, 2, none⟩) (.inr rfl) _).setCell (a := ⟨r, 3, none⟩) (.inr rfl) _).setCell (a := ⟨r, 4, none⟩) (.inr rfl) _).setCell (a := ⟨r, 5, none⟩) (.inr rfl) _).setCell (a := ⟨r, 6, none⟩) (.inr rfl) _⟩
  rw [set_at (set_at (set_at (set_at (set_at (set_at (set_at h _) _) _) _) _) _) _]
  rfl
set_option maxHeartbeats 1000000 in
theorem taken_any (h : PAt B w p z m) : Calls Try.prog 27 #[.pointer (some ⟨p, 0, none⟩)] w fun e w' =>
    e = .returned (.agg #[.int .u64 0, .int .i64 0, z.vk, .bool m.inst, z.vo, .bool m.reset, .int .u64 0]) ∧ PAt B w' p (bare z) (taken m) ∧ Only (fun q => q = p) w w' := by
  have c0 := h.c0
  have c1 := h.c1
  have c2 := h.c2
  have c3 := h.c3
  have f0 := NodeAt.free h 0
  have f1 := NodeAt.free h 1
  have f2 := NodeAt.free h 2
  have f3 := NodeAt.free h 3
  have hplt := h.plt
  obtain ⟨Ak, ck, hvk, _, _, _⟩ := own_form h.kept
  obtain ⟨Ao, co, hvo, _, _, _⟩ := own_form h.outs
  obtain ⟨nk, hnk⟩ : ∃ nk, m.kept.length = nk := ⟨_, rfl⟩
  obtain ⟨no, hno⟩ : ∃ no, z.Z.length = no := ⟨_, rfl⟩
  rw [hnk] at hvk
  rw [hno] at hvo
  rw [hvk] at c0
  rw [hvo] at c1
  have H := Lib.hid h
  have HVK := Lib.hid hvk
  have HVO := Lib.hid hvo
  clear h hnk hno hvk hvo
  go_enter Try.func27, Try.ntmps27
  go_wp2_with fail
  go_region
  have hbA : Below w.heap.size w (((w.alloc (.cells #[.int .u64 0, .int .i64 0, .slice none 0 0, .bool false, .slice none 0 0, .bool false, .int .u64 0] 41)).alloc (.cells #[.int .u64 0, .int .i64 0, .slice Ak nk ck, .bool m.inst, .slice Ao no co, .bool m.reset, .int .u64 0] 41)).drew) := (((Below.refl _ w).alloc (Nat.le_refl _) _).alloc (by simp) _).drew
  have hR1 : (((w.alloc (.cells #[.int .u64 0, .int .i64 0, .slice none 0 0, .bool false, .slice none 0 0, .bool false, .int .u64 0] 41)).alloc (.cells #[.int .u64 0, .int .i64 0, .slice Ak nk ck, .bool m.inst, .slice Ao no co, .bool m.reset, .int .u64 0] 41)).drew).heap[w.heap.size]? = some (.cells #[.int .u64 0, .int .i64 0, .slice none 0 0, .bool false, .slice none 0 0, .bool false, .int .u64 0] 41 (0, 0)) := by
    show ((w.alloc (.cells #[.int .u64 0, .int .i64 0, .slice none 0 0, .bool false, .slice none 0 0, .bool false, .int .u64 0] 41)).alloc (.cells #[.int .u64 0, .int .i64 0, .slice Ak nk ck, .bool m.inst, .slice Ao no co, .bool m.reset, .int .u64 0] 41)).heap[w.heap.size]? = _
    rw [Below.heap_alloc _ _ _ (by simp)]
    exact heap_alloc_new w _
  have hR2 : (((w.alloc (.cells #[.int .u64 0, .int .i64 0, .slice none 0 0, .bool false, .slice none 0 0, .bool false, .int .u64 0] 41)).alloc (.cells #[.int .u64 0, .int .i64 0, .slice Ak nk ck, .bool m.inst, .slice Ao no co, .bool m.reset, .int .u64 0] 41)).drew).heap[w.heap.size + 1]? = some (.cells #[.int .u64 0, .int .i64 0, .slice Ak nk ck, .bool m.inst, .slice Ao no co, .bool m.reset, .int .u64 0] 41 (0, 0)) := by
    have := heap_alloc_new (w.alloc (.cells #[.int .u64 0, .int .i64 0, .slice none 0 0, .bool false, .slice none 0 0, .bool false, .int .u64 0] 41)) (.cells #[.int .u64 0, .int .i64 0, .slice Ak nk ck, .bool m.inst, .slice Ao no co, .bool m.reset, .int .u64 0] 41)
    rw [show (w.alloc (.cells #[.int .u64 0, .int .i64 0, .slice none 0 0, .bool false, .slice none 0 0, .bool false, .int .u64 0] 41)).heap.size = w.heap.size + 1 by simp] at this
    exact this
  generalize ((w.alloc (.cells #[.int .u64 0, .int .i64 0, .slice none 0 0, .bool false, .slice none 0 0, .bool false, .int .u64 0] 41)).alloc (.cells #[.int .u64 0, .int .i64 0, .slice Ak nk ck, .bool m.inst, .slice Ao no co, .bool m.reset, .int .u64 0] 41)).drew = wA at hbA hR1 hR2 ⊢
  have hA := H.out.below hbA
  have q0 := hA.c0
  have q1 := hA.c1
  have q2 := hA.c2
  have q3 := hA.c3
  rw [HVK.out] at q0
  rw [HVO.out] at q1
  have k0 := NodeAt.free hA 0
  have k1 := NodeAt.free hA 1
  have k2 := NodeAt.free hA 2
  have k3 := NodeAt.free hA 3
  obtain ⟨R1, hr1⟩ : ∃ R, w.heap.size = R := ⟨_, rfl⟩
  obtain ⟨R2, hr2⟩ : ∃ R, w.heap.size + 1 = R := ⟨_, rfl⟩
  have hne1 : ¬ p = R1 := by omega
  have hne2 : ¬ p = R2 := by omega
  have hne3 : ¬ R1 = R2 := by omega
  have hpA : p < wA.heap.size := hA.plt
  rw [hr2] at hR2 ⊢
  rw [hr1] at hR1 ⊢
  have hl1 : R1 < wA.heap.size := lt_at hR1
  have hl2 : R2 < wA.heap.size := lt_at hR2
  obtain ⟨hB, hoB⟩ := PAt.bared hA
  have hB1 := hoB.heap hR1 (fun e => hne1 e.symm)
  have hB2 := hoB.heap hR2 (fun e => hne2 e.symm)
  generalize hwB : ((((wA.setCell ⟨p, 0, none⟩ (.slice none 0 0)).setCell ⟨p, 1, none⟩ (.slice none 0 0)).setCell ⟨p, 2, none⟩ (.bool false)).setCell ⟨p, 3, none⟩ (.bool false)) = wB at hB hoB hB1 hB2
  have x0 : wB.cell? ⟨R2, 0, none⟩ = some (.int .u64 0) := cell_at hB2 0
  have x1 : wB.cell? ⟨R2, 1, none⟩ = some (.int .i64 0) := cell_at hB2 1
  have x2 : wB.cell? ⟨R2, 2, none⟩ = some (.slice Ak nk ck) := cell_at hB2 2
  have x3 : wB.cell? ⟨R2, 3, none⟩ = some (.bool m.inst) := cell_at hB2 3
  have x4 : wB.cell? ⟨R2, 4, none⟩ = some (.slice Ao no co) := cell_at hB2 4
  have x5 : wB.cell? ⟨R2, 5, none⟩ = some (.bool m.reset) := cell_at hB2 5
  have x6 : wB.cell? ⟨R2, 6, none⟩ = some (.int .u64 0) := cell_at hB2 6
  have y0 : wB.cell? ⟨R1, 0, none⟩ = some (.int .u64 0) := cell_at hB1 0
  have y1 : wB.cell? ⟨R1, 1, none⟩ = some (.int .i64 0) := cell_at hB1 1
  have y2 : wB.cell? ⟨R1, 2, none⟩ = some (.slice none 0 0) := cell_at hB1 2
  have y3 : wB.cell? ⟨R1, 3, none⟩ = some (.bool false) := cell_at hB1 3
  have y4 : wB.cell? ⟨R1, 4, none⟩ = some (.slice none 0 0) := cell_at hB1 4
  have y5 : wB.cell? ⟨R1, 5, none⟩ = some (.bool false) := cell_at hB1 5
  have y6 : wB.cell? ⟨R1, 6, none⟩ = some (.int .u64 0) := cell_at hB1 6
  have v0 := free_at hB1 0
  have v1 := free_at hB1 1
  have v2 := free_at hB1 2
  have v3 := free_at hB1 3
  have v4 := free_at hB1 4
  have v5 := free_at hB1 5
  have v6 := free_at hB1 6
  have hl1B := lt_at hB1
  have hl2B := lt_at hB2
  have HB := Lib.hid hB
  have HoB := Lib.hid hoB
  have HB1 := Lib.hid hB1
  have HbA := Lib.hid hbA
  have HR1 := Lib.hid hr1
  clear hA hB hoB hbA hR1 hR2 hB1 hB2 hr1 hr2
  go_wp2_with fail
  obtain ⟨s1, s2⟩ := ready_set HB1.out 0 0 Ak nk ck m.inst Ao no co m.reset 0
  generalize (((((((wB.setCell ⟨R1, 0, none⟩ (.int .u64 0)).setCell ⟨R1, 1, none⟩ (.int .i64 0)).setCell ⟨R1, 2, none⟩ (.slice Ak nk ck)).setCell ⟨R1, 3, none⟩ (.bool m.inst)).setCell ⟨R1, 4, none⟩ (.slice Ao no co)).setCell ⟨R1, 5, none⟩ (.bool m.reset)).setCell ⟨R1, 6, none⟩ (.int .u64 0)) = wC at s1 s2 ⊢
  refine bodyPost_ret (results_cell_row (p := 2) (ty := 41) rfl _ _ R1 41 _ (0, 0) _ rfl s1 Try.underlying41 rfl (by kernel_rfl)) rfl ?_
  refine ⟨by rw [HVK.out, HVO.out], NodeAt.keep HB.out s2 (fun b hb e => ?_) (by simp [bare]), ?_⟩
  · subst e
    have := (NodeAt.mine_lt H.out (bare_mine hb)).2
    have := HR1.out
    omega
  · exact ((Only.of_below HbA.out).trans HoB.out).trans' s2 fun q hq => .inr (by rw [hq, HR1.out]; exact Nat.le_refl _)
/-- What Take answers. -/
def ReadyV (z : Seat) (m : Nd) : Value := .agg #[.int .u64 (m.term : Int), .int .i64 m.vote, z.vk, .bool m.inst, z.vo, .bool m.reset, .int .u64 (m.commit : Int)]
set_option maxHeartbeats 2000000 in
theorem take_any (h : PAt B w p z m) : Calls Try.prog 10 #[.pointer (some ⟨p, 0, none⟩)] w fun e w' =>
    e = .returned (ReadyV z m) ∧ PAt B w' p (bare z) (taken m) ∧ Only (fun q => q = p) w w' := by
  obtain ⟨Ak, ck, hvk, _, _, _⟩ := own_form h.kept
  obtain ⟨Ao, co, hvo, _, _, _⟩ := own_form h.outs
  obtain ⟨nk, hnk⟩ : ∃ nk, m.kept.length = nk := ⟨_, rfl⟩
  obtain ⟨no, hno⟩ : ∃ no, z.Z.length = no := ⟨_, rfl⟩
  rw [hnk] at hvk
  rw [hno] at hvo
  have hb0 : Below w.heap.size w (w.alloc (.cells #[.int .u64 0, .int .i64 0, .slice none 0 0, .bool false, .slice none 0 0, .bool false, .int .u64 0] 41)) := (Below.refl _ w).alloc (Nat.le_refl _) _
  have hr1 := heap_alloc_new w (.cells #[.int .u64 0, .int .i64 0, .slice none 0 0, .bool false, .slice none 0 0, .bool false, .int .u64 0] 41)
  have hplt := h.plt
  have ht := taken_any (h.below hb0)
  rw [hvk, hvo] at ht
  have H := Lib.hid h
  have HT := Lib.hid ht
  have HVK := Lib.hid hvk
  have HVO := Lib.hid hvo
  obtain ⟨R1, hR1⟩ : ∃ R, w.heap.size = R := ⟨_, rfl⟩
  have HB0 := Lib.hid hb0
  have HR := Lib.hid hr1
  have HR1 := Lib.hid hR1
  clear h ht hvk hvo hb0 hr1 hnk hno
  go_enter Try.func10, Try.ntmps10
  go_wp2_with fail
  with_reducible refine HT.out.mono ?_
  rintro e w1 ⟨rfl, h1, ho1⟩
  have hx1 : w1.heap[R1]? = some (.cells #[.int .u64 0, .int .i64 0, .slice none 0 0, .bool false, .slice none 0 0, .bool false, .int .u64 0] 41 (0, 0)) := by
    rw [← hR1]
    exact ho1.heap HR.out (fun e => by omega)
  have hbo : Only (fun q => q = p) w w1 := (Only.of_below HB0.out).trans ho1
  have c5 := PAt.c5 (NodeAt.drew h1)
  have c6 := PAt.c6 (NodeAt.drew h1)
  have c10 := PAt.c10 (NodeAt.drew h1)
  have hplt1 := NodeAt.plt h1
  go_wp2_with fail
  have hb2 : Below w1.heap.size w1 (w1.alloc (.cells #[.int .u64 0, .int .i64 0, .slice Ak nk ck, .bool m.inst, .slice Ao no co, .bool m.reset, .int .u64 0] 41)) := (Below.refl _ w1).alloc (Nat.le_refl _) _
  have hr3 := heap_alloc_new w1 (.cells #[.int .u64 0, .int .i64 0, .slice Ak nk ck, .bool m.inst, .slice Ao no co, .bool m.reset, .int .u64 0] 41)
  have h2 : PAt B _ p (bare z) (taken m) := NodeAt.below h1 hb2
  have hx2 := (hb2.block R1 (lt_at hx1)).trans hx1
  have ho2 := hbo.thenBelow hb2
  have hR1lt := lt_at hx1
  obtain ⟨R3, hR3⟩ : ∃ R, w1.heap.size = R := ⟨_, rfl⟩
  rw [hR3] at hr3 ⊢
  generalize (w1.alloc (.cells #[.int .u64 0, .int .i64 0, .slice Ak nk ck, .bool m.inst, .slice Ao no co, .bool m.reset, .int .u64 0] 41)) = w2 at hb2 hr3 h2 hx2 ho2 ⊢
  have hne1 : ¬ p = R3 := by omega
  have hne2 : ¬ R1 = R3 := by omega
  have hne3 : ¬ R3 = R1 := by omega
  have d5 := PAt.c5 h2
  have d6 := PAt.c6 h2
  have d10 := PAt.c10 h2
  have e5 : (taken m).term = m.term := rfl
  have e6 : (taken m).vote = m.vote := rfl
  have e10 : (taken m).commit = m.commit := rfl
  rw [e5] at d5
  rw [e6] at d6
  rw [e10] at d10
  have x0 : w2.cell? ⟨R3, 0, none⟩ = some (.int .u64 0) := cell_at hr3 0
  have f0 := free_at hr3 0
  have x1 : w2.cell? ⟨R3, 1, none⟩ = some (.int .i64 0) := cell_at hr3 1
  have f1 := free_at hr3 1
  have x2 : w2.cell? ⟨R3, 2, none⟩ = some (.slice Ak nk ck) := cell_at hr3 2
  have f2 := free_at hr3 2
  have x3 : w2.cell? ⟨R3, 3, none⟩ = some (.bool m.inst) := cell_at hr3 3
  have f3 := free_at hr3 3
  have x4 : w2.cell? ⟨R3, 4, none⟩ = some (.slice Ao no co) := cell_at hr3 4
  have f4 := free_at hr3 4
  have x5 : w2.cell? ⟨R3, 5, none⟩ = some (.bool m.reset) := cell_at hr3 5
  have f5 := free_at hr3 5
  have x6 : w2.cell? ⟨R3, 6, none⟩ = some (.int .u64 0) := cell_at hr3 6
  have f6 := free_at hr3 6
  have hp2 := NodeAt.plt h2
  have hl3 := lt_at hr3
  have hset : Only (fun q => q = R3) w2 (((w2.setCell ⟨R3, 0, none⟩ (.int .u64 (m.term : Int))).setCell ⟨R3, 1, none⟩ (.int .i64 m.vote)).setCell ⟨R3, 6, none⟩ (.int .u64 (m.commit : Int))) :=
    (((Only.refl (fun q => q = R3) w2).setCell (a := ⟨R3, 0, none⟩) (.inr rfl) _).setCell (a := ⟨R3, 1, none⟩) (.inr rfl) _).setCell (a := ⟨R3, 6, none⟩) (.inr rfl) _
  have hr4 : (((w2.setCell ⟨R3, 0, none⟩ (.int .u64 (m.term : Int))).setCell ⟨R3, 1, none⟩ (.int .i64 m.vote)).setCell ⟨R3, 6, none⟩ (.int .u64 (m.commit : Int))).heap[R3]? = some (.cells #[.int .u64 (m.term : Int), .int .i64 m.vote, .slice Ak nk ck, .bool m.inst, .slice Ao no co, .bool m.reset, .int .u64 (m.commit : Int)] 41 (0, 0)) := by
    rw [set_at (set_at (set_at hr3 _) _) _]
    rfl
  have hx4 := hset.heap hx2 hne2
  have h4 : PAt B _ p (bare z) (taken m) := NodeAt.keep h2 hset (fun b hb e => by
    subst e
    have := (NodeAt.mine_lt H.out (bare_mine hb)).2
    have := HR1.out
    have := ho1.size
    have := HB0.out.size
    omega) (by simp [bare])
  have ho4 : Only (fun q => q = p) w _ := ho2.trans' hset fun q hq => .inr (by have := hbo.size; omega)
  have HD : ∀ W : World, Below W.heap.size W W.drew := fun W => (Below.refl _ W).drew
  have hx5 := ((HD _).block R1 (lt_at hx4)).trans hx4
  have hr5 := ((HD _).block R3 (lt_at hr4)).trans hr4
  have h5 := PAt.below h4 (HD _)
  have ho5 := ho4.thenBelow (HD _)
  clear hset hx4 hr4 h4 ho4 hx2 hr3 h2 ho2 hb2 hx1 h1 ho1 hbo c5 c6 c10
  go_region
  generalize (((w2.setCell ⟨R3, 0, none⟩ (.int .u64 (m.term : Int))).setCell ⟨R3, 1, none⟩ (.int .i64 m.vote)).setCell ⟨R3, 6, none⟩ (.int .u64 (m.commit : Int))).drew = w5 at hx5 hr5 h5 ho5 ⊢
  have y0 : w5.cell? ⟨R3, 0, none⟩ = some (.int .u64 (m.term : Int)) := cell_at hr5 0
  have u0 : w5.cell? ⟨R1, 0, none⟩ = some (.int .u64 0) := cell_at hx5 0
  have v0 := free_at hx5 0
  have y1 : w5.cell? ⟨R3, 1, none⟩ = some (.int .i64 m.vote) := cell_at hr5 1
  have u1 : w5.cell? ⟨R1, 1, none⟩ = some (.int .i64 0) := cell_at hx5 1
  have v1 := free_at hx5 1
  have y2 : w5.cell? ⟨R3, 2, none⟩ = some (.slice Ak nk ck) := cell_at hr5 2
  have u2 : w5.cell? ⟨R1, 2, none⟩ = some (.slice none 0 0) := cell_at hx5 2
  have v2 := free_at hx5 2
  have y3 : w5.cell? ⟨R3, 3, none⟩ = some (.bool m.inst) := cell_at hr5 3
  have u3 : w5.cell? ⟨R1, 3, none⟩ = some (.bool false) := cell_at hx5 3
  have v3 := free_at hx5 3
  have y4 : w5.cell? ⟨R3, 4, none⟩ = some (.slice Ao no co) := cell_at hr5 4
  have u4 : w5.cell? ⟨R1, 4, none⟩ = some (.slice none 0 0) := cell_at hx5 4
  have v4 := free_at hx5 4
  have y5 : w5.cell? ⟨R3, 5, none⟩ = some (.bool m.reset) := cell_at hr5 5
  have u5 : w5.cell? ⟨R1, 5, none⟩ = some (.bool false) := cell_at hx5 5
  have v5 := free_at hx5 5
  have y6 : w5.cell? ⟨R3, 6, none⟩ = some (.int .u64 (m.commit : Int)) := cell_at hr5 6
  have u6 : w5.cell? ⟨R1, 6, none⟩ = some (.int .u64 0) := cell_at hx5 6
  have v6 := free_at hx5 6
  have hl5 := lt_at hr5
  have hl6 := lt_at hx5
  have H5 := Lib.hid h5
  have HO5 := Lib.hid ho5
  have HX5 := Lib.hid hx5
  clear h5 ho5 hx5 hr5
  go_wp2_with fail
  obtain ⟨s1, s2⟩ := ready_set HX5.out (m.term : Int) m.vote Ak nk ck m.inst Ao no co m.reset (m.commit : Int)
  generalize (((((((w5.setCell ⟨R1, 0, none⟩ (.int .u64 (m.term : Int))).setCell ⟨R1, 1, none⟩ (.int .i64 m.vote)).setCell ⟨R1, 2, none⟩ (.slice Ak nk ck)).setCell ⟨R1, 3, none⟩ (.bool m.inst)).setCell ⟨R1, 4, none⟩ (.slice Ao no co)).setCell ⟨R1, 5, none⟩ (.bool m.reset)).setCell ⟨R1, 6, none⟩ (.int .u64 (m.commit : Int))) = wC at s1 s2 ⊢
  refine bodyPost_ret (results_cell_row (p := 2) (ty := 41) rfl _ _ R1 41 _ (0, 0) _ rfl s1 Try.underlying41 rfl (by kernel_rfl)) rfl ?_
  refine ⟨by unfold ReadyV; rw [HVK.out, HVO.out], NodeAt.keep H5.out s2 (fun b hb e => ?_) (by simp [bare]), ?_⟩
  · subst e
    have := (NodeAt.mine_lt H.out (bare_mine hb)).2
    have := HR1.out
    omega
  · exact HO5.out.trans' s2 fun q hq => .inr (by rw [hq, HR1.out]; exact Nat.le_refl _)
theorem take_nil (w : World) : Calls Try.prog 10 #[.pointer none] w fun e w' => e = .returned (.agg #[.int .u64 0, .int .i64 0, .slice none 0 0, .bool false, .slice none 0 0, .bool false, .int .u64 0]) ∧ Below w.heap.size w w' := by
  go_enter Try.func10, Try.ntmps10
  go_wp2_with fail
  refine bodyPost_ret (results_cell_row (p := 2) (ty := 41) rfl _ _ w.heap.size 41 _ (0, 0) _ rfl (heap_alloc_new w _) Try.underlying41 rfl (by kernel_rfl)) rfl ?_
  exact ⟨rfl, (Below.refl _ w).alloc (Nat.le_refl _) _⟩
end
end Go.Proofs.Ytokifeghoodkgaa.WalkI
