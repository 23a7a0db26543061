/- What both leaves: a call of both logs, walked. -/
import Derived.Test.YtndehdnffajigaaDuo
set_option linter.unusedVariables false
namespace Go.Proofs.Ytndehdnffajigaa.Both
open Go.RowKit Go.Proofs.Ytndehdnffajigaa.Kit Go.Proofs.Ytndehdnffajigaa.Blocks Go.Proofs.Ytndehdnffajigaa.Rlog Go.Proofs.Ytndehdnffajigaa.Ents Go.Proofs.Ytndehdnffajigaa.LogAt Go.Proofs.Ytndehdnffajigaa.WalkB Go.Proofs.Ytndehdnffajigaa.WalkC Go.Proofs.Ytndehdnffajigaa.WalkD Go.Proofs.Ytndehdnffajigaa.WalkE Go.Proofs.Ytndehdnffajigaa.WalkF Go.Proofs.Ytndehdnffajigaa.WalkG Go.Proofs.Ytndehdnffajigaa.WalkH Go.Proofs.Ytndehdnffajigaa.WalkI Go.Proofs.Ytndehdnffajigaa.WalkK Go.Proofs.Ytndehdnffajigaa.RefB Go.Proofs.Ytndehdnffajigaa.RefD Go.Proofs.Ytndehdnffajigaa.Cals Go.Proofs.Ytndehdnffajigaa.Duos

theorem eq_ent (a b c : Int) (d : ByteArray) (w : World) : (binOp .eql 47 (.agg #[.int .u64 a, .int .u64 b, .int .i64 c, .string d]) (.agg #[.int .u64 a, .int .u64 b, .int .i64 c, .string d])).run Try.prog w = .ok (.bool true) w := by
  simp [binOp, Op.equal, Op.maxDepth, go_sem]
/-! ### How long -/
theorem dropWhile_len {α : Type} (p : α → Bool) (l : List α) : (l.dropWhile p).length ≤ l.length := by
  obtain ⟨k, _, _, h, _⟩ := while_split p l
  rw [h, List.length_drop]
  omega
theorem merge_len (g : G) (i t : Nat) (l : List Ent) : (merge g i t l).1.1.length ≤ l.length := by
  unfold merge
  split
  · simp
  split
  · simp
  split
  · simp
  have h1 := dropWhile_len (there g) (l.dropWhile (old g))
  have h2 := dropWhile_len (old g) l
  unfold lay
  split
  · simp
  · rename_i e r hl
    simp only
    rw [hl] at h1
    omega
theorem upto_len (g : G) (i : Nat) : (upto g i).length ≤ g.es.length := by
  unfold upto
  split
  · exact Nat.le_refl _
  · rw [List.length_take]; omega
theorem merge_grows (g : G) (i t : Nat) (l : List Ent) : (merge g i t l).2.es.length ≤ g.es.length + l.length := by
  unfold merge
  split
  · simp
  split
  · simp
  split
  · simp
  have h1 := dropWhile_len (there g) (l.dropWhile (old g))
  have h2 := dropWhile_len (old g) l
  unfold lay
  split
  · simp
  · rename_i e r hl
    have h3 := upto_len g e.idx
    simp only [List.length_append]
    rw [hl] at h1
    omega
theorem act_len (g : G) (x : Cal) : (act g x).es.length ≤ g.es.length + 1 + x.l.length := by
  unfold act
  split
  · unfold Rlog.add
    split
    · simp only [List.length_append, List.length_singleton]; omega
    · simp only []; omega
  split
  · have := merge_grows g x.idx x.term x.l; omega
  split
  · unfold cut; have := upto_len g x.idx; simp only []; omega
  split
  · unfold compact
    split
    · simp only []; omega
    · simp only [List.length_drop]; omega
  split
  · unfold install
    split
    · simp only []; omega
    split
    · simp only []; omega
    · simp only []
      unfold behind
      split
      · simp
      · split
        · simp only [List.length_drop]; omega
        · simp
  · omega
section
variable {R : Nat → Prop} {B p q r : Nat} {g m : G} {x : Cal} {w W : World}
/-! ### Each call, of either log -/
theorem dp_add (h : Duo R B p q g m W) (f : Fine g) (hx : CalB w B x) (hroom : (g.es.length + 1) * 40 ≤ 140737488355328) {ne : Ent} {k : Int} {g' : G} (he : Hid (add g x.term x.what x.data = ((ne, k), g'))) :
    Calls Try.prog 20 #[.pointer (some ⟨p, 0, none⟩), .int .u64 (x.term : Int), .int .i64 x.what, .string x.data] W fun e W' => e = .returned (.tuple #[entV ne, .int .i64 k]) ∧ Duo R B p q g' m W' ∧ Kept R B W W' :=
  h.pcall (Post := fun e _ => e = .returned (.tuple #[entV ne, .int .i64 k])) fun v hv => by
    have := add_any hv f x.term x.what x.data hx.term hx.w0 hx.w1 hx.data hroom
    rw [he.out] at this
    exact this
theorem dq_add (h : Duo R B p q m g W) (f : Fine g) (hx : CalB w B x) (hroom : (g.es.length + 1) * 40 ≤ 140737488355328) {ne : Ent} {k : Int} {g' : G} (he : Hid (add g x.term x.what x.data = ((ne, k), g'))) :
    Calls Try.prog 33 #[.pointer (some ⟨q, 0, none⟩), .int .u64 (x.term : Int), .int .i64 x.what, .string x.data] W fun e W' => e = .returned (.tuple #[entV ne, .int .i64 k]) ∧ Duo R B p q m g' W' ∧ Kept R B W W' :=
  h.qcall (Post := fun e _ => e = .returned (.tuple #[entV ne, .int .i64 k])) fun v hv => by
    have := RefF.radd_any hv f x.term x.what x.data hx.term hx.w0 hx.w1 hx.data hroom
    rw [he.out] at this
    exact this
theorem dp_cut (h : Duo R B p q g m W) (hx : CalB w B x) {g' : G} (he : Hid (cut g x.idx = g')) :
    Calls Try.prog 22 #[.pointer (some ⟨p, 0, none⟩), .int .u64 (x.idx : Int)] W fun e W' => e = .returned (.tuple #[]) ∧ Duo R B p q g' m W' ∧ Kept R B W W' :=
  h.pcall (Post := fun e _ => e = .returned (.tuple #[])) fun v hv => by
    have := cut_any hv hx.idx
    rw [he.out] at this
    exact this
theorem dq_cut (h : Duo R B p q m g W) (f : Fine g) (hl : g.es.length * 40 ≤ 140737488355328) {g' : G} (he : Hid (cut g x.idx = g')) :
    Calls Try.prog 35 #[.pointer (some ⟨q, 0, none⟩), .int .u64 (x.idx : Int)] W fun e W' => e = .returned (.tuple #[]) ∧ Duo R B p q m g' W' ∧ Kept R B W W' :=
  h.qcall (Post := fun e _ => e = .returned (.tuple #[])) fun v hv => by
    have := RefE.rcut_any hv f x.idx hl
    rw [he.out] at this
    exact this
theorem ps_compact (h : PS R B p q g m r x w W) (f : Fine g) (hx : CalB w B x) (hl : g.es.length * 40 ≤ 140737488355328) {k : Int} {g' : G} (he : Hid (compact g x.idx x.data = (k, g'))) :
    Calls Try.prog 25 #[.pointer (some ⟨p, 0, none⟩), .int .u64 (x.idx : Int), .string x.data] W fun e W' => e = .returned (.int .i64 k) ∧ PS R B p q g' m r x w W' :=
  h.pcall (Post := fun e _ => e = .returned (.int .i64 k)) fun v hv => by
    have := compact_any hv f x.data hx.idx hl
    rw [he.out] at this
    exact this
theorem pr_compact (h : PS R B p q m g r x w W) (f : Fine g) (hl : g.es.length * 40 ≤ 140737488355328) {k : Int} {g' : G} (he : Hid (compact g x.idx x.data = (k, g'))) :
    Calls Try.prog 36 #[.pointer (some ⟨q, 0, none⟩), .int .u64 (x.idx : Int), .string x.data] W fun e W' => e = .returned (.int .i64 k) ∧ PS R B p q m g' r x w W' :=
  h.qcall (Post := fun e _ => e = .returned (.int .i64 k)) fun v hv => by
    have := RefG.rcompact_any hv f x.idx x.data hl
    rw [he.out] at this
    exact this
theorem ps_install (h : PS R B p q g m r x w W) (hx : CalB w B x) (hl : g.es.length * 40 ≤ 140737488355328) {k : Int} {g' : G} (he : Hid (install g x.snap = (k, g'))) :
    Calls Try.prog 26 #[.pointer (some ⟨p, 0, none⟩), snapV x.snap] W fun e W' => e = .returned (.int .i64 k) ∧ PS R B p q g' m r x w W' :=
  h.pcall (Post := fun e _ => e = .returned (.int .i64 k)) fun v hv => by
    have := install_any hv hx.snap hl
    rw [he.out] at this
    exact this
theorem pr_install (h : PS R B p q m g r x w W) (f : Fine g) (hx : CalB w B x) (hl : g.es.length * 40 ≤ 140737488355328) {k : Int} {g' : G} (he : Hid (install g x.snap = (k, g'))) :
    Calls Try.prog 37 #[.pointer (some ⟨q, 0, none⟩), snapV x.snap] W fun e W' => e = .returned (.int .i64 k) ∧ PS R B p q m g' r x w W' :=
  h.qcall (Post := fun e _ => e = .returned (.int .i64 k)) fun v hv => by
    have := RefH.rinstall_any hv f hx.snap hl
    rw [he.out] at this
    exact this
/-- A list that a call hands back. -/
def Handed (w : World) (l : List Ent) (b : Bool) (e : Ending) (w' : World) : Prop := ∃ A c, e = .returned (.tuple #[.slice A l.length c, .bool b]) ∧ RE w' w'.heap.size A l.length l ∧ l.length ≤ c ∧ c ≤ 9223372036854775807 ∧ Off (fun k => k < w.heap.size) A l.length
/-- Both logs with their slices, and a call's box. -/
structure PX (R : Nat → Prop) (B p : Nat) (v : Value) (q : Nat) (u : Value) (g1 g2 : G) (r : Nat) (x : Cal) (w W : World) : Prop where
  dx : DX (fun k => R k ∨ k = r) B p v q u g1 g2 W
  box : W.heap[r]? = some (.cells (callCs x).toArray 37 (0, 0))
  kept : Kept R B w W
theorem PX.ps {v u : Value} (h : PX R B p v q u g m r x w W) : PS R B p q g m r x w W := ⟨⟨v, u, h.dx⟩, h.box, h.kept⟩
theorem ps_merge {v u : Value} (h : PX R B p v q u g m r x w W) (f : Fine g) (hx : CalB w B x) (hroom : chained x.l x.idx x.term = true → (g.es.length + x.n) * 40 ≤ 140737488355328) {l : List Ent} {b : Bool} {g' : G} (he : Hid (merge g x.idx x.term x.l = ((l, b), g'))) :
    Calls Try.prog 17 #[.pointer (some ⟨p, 0, none⟩), .int .u64 (x.idx : Int), .int .u64 (x.term : Int), .slice x.A x.n x.c] W fun e W' => Handed W l b e W' ∧ ∃ v', PX R B p v' q u g' m r x w W' := by
  have hcal := hx.below h.kept.since (Nat.le_refl B)
  have := merge_any h.dx.a f x.A x.n x.c x.idx x.term x.l (hcal.list.more h.dx.a.base) (off_low h.dx.a hcal.list) hx.ents hx.fits hx.max hx.idx hroom
  rw [he.out] at this
  refine this.mono ?_
  rintro e W' ⟨A, c, h1, h2, h3, h4, h5, h6⟩
  obtain ⟨v', hd, hk, ho⟩ := h.dx.left h5
  exact ⟨⟨A, c, h1, h2, h3, h4, h6⟩, v', ⟨hd, (hk.block r (.inr rfl)).trans h.box, h.kept.trans (hk.less fun _ h => .inl h)⟩⟩
theorem pr_merge {v u : Value} (h : PX R B p v q u m g r x w W) (f : Fine g) (hx : CalB w B x) (hroom : chained x.l x.idx x.term = true → (g.es.length + x.n) * 40 ≤ 140737488355328) {l : List Ent} {b : Bool} {g' : G} (he : Hid (merge g x.idx x.term x.l = ((l, b), g'))) :
    Calls Try.prog 34 #[.pointer (some ⟨q, 0, none⟩), .int .u64 (x.idx : Int), .int .u64 (x.term : Int), .slice x.A x.n x.c] W fun e W' => Handed W l b e W' ∧ Only (Foot q u) W W' ∧ PS R B p q m g' r x w W' := by
  have hcal := hx.below h.kept.since (Nat.le_refl B)
  have := RefI.rmerge_any h.dx.b f x.A x.n x.c x.idx x.term x.l (hcal.list.more h.dx.b.base) (off_low h.dx.b hcal.list) hx.ents hx.fits hx.max hx.idx hroom
  rw [he.out] at this
  refine this.mono ?_
  rintro e W' ⟨A, c, h1, h2, h3, h4, h5, h6⟩
  obtain ⟨u', hd, hk, ho⟩ := h.dx.right h5
  exact ⟨⟨A, c, h1, h2, h3, h4, h6⟩, ho, ⟨⟨v, u', hd⟩, (hk.block r (.inr rfl)).trans h.box, h.kept.trans (hk.less fun _ h => .inl h)⟩⟩

/-! ### Both -/
/-- An entry's block, as the code lays it. -/
abbrev entO (a b : Nat) (c : Int) (d : ByteArray) : Obj := .cells #[.int .u64 (a : Int), .int .u64 (b : Int), .int .i64 c, .string d] 47
set_option maxRecDepth 100000 in
set_option maxHeartbeats 2000000 in
theorem both_add (h : Duo R B p q g g w) (f : Fine g) (hx : CalB w B x) (hroom : (g.es.length + 1) * 40 ≤ 140737488355328) (hk : x.kind = 0) :
    Calls Try.prog 13 #[.pointer (some ⟨p, 0, none⟩), .pointer (some ⟨q, 0, none⟩), callV x] w (Acted R B p q (add g x.term x.what x.data).2 w) := by
  have hS := PS.new h x
  obtain ⟨⟨⟨ne, k⟩, g'⟩, he⟩ : ∃ r, add g x.term x.what x.data = r := ⟨_, rfl⟩
  rw [he]
  have HE := Lib.hid he
  have HXB := Lib.hid hx
  have hadd := dp_add hS.duo f hx hroom HE
  have HRo := Lib.hid hroom
  have HF := Lib.hid f
  obtain ⟨kd, ix, tm, wh, d, A, n, c, l, ⟨si, st, sc, sd⟩⟩ := x
  obtain rfl : kd = 0 := hk
  have HS := Lib.hid hS
  have HA := Lib.hid hadd
  clear he hx hroom h f hS hadd
  unfold callV
  unfold callCs at HS HA
  simp only at HS HA ⊢
  obtain ⟨tn, iN, kn, dn⟩ := ne
  unfold entV at HA
  have heq := eq_ent (tn : Int) (iN : Int) kn dn
  go_enter Try.func13, Try.ntmps13
  go_wp2_with fail
  refine HA.out.mono ?_
  rintro e w1 ⟨rfl, hd1, hk1⟩
  obtain ⟨hd2, hk2⟩ := hd1.alloc (entO tn iN kn dn)
  have hb7 := heap_alloc_new w1 (entO tn iN kn dn)
  have hbox : (w1.alloc (entO tn iN kn dn)).heap[w.heap.size]? = _ := ((hk1.trans hk2).block w.heap.size (.inr rfl)).trans HS.out.box
  have c2 : (w1.alloc (entO tn iN kn dn)).cell? ⟨w.heap.size, 2, none⟩ = some (.int .u64 (tm : Int)) := by rw [cell_at hbox]; rfl
  have c3 : (w1.alloc (entO tn iN kn dn)).cell? ⟨w.heap.size, 3, none⟩ = some (.int .i64 wh) := by rw [cell_at hbox]; rfl
  have c4 : (w1.alloc (entO tn iN kn dn)).cell? ⟨w.heap.size, 4, none⟩ = some (.string d) := by rw [cell_at hbox]; rfl
  have hkA : Kept R B w (w1.alloc (entO tn iN kn dn)) := (HS.out.kept.trans (hk1.less fun _ h => .inl h)).trans (hk2.less fun _ h => .inl h)
  have hq := dq_add hd2 HF.out HXB.out HRo.out HE
  unfold entV at hq
  simp only at hq
  have HQ := Lib.hid hq
  have HB7 := Lib.hid hb7
  have HKA := Lib.hid hkA
  clear hd1 hk1 hd2 hk2 hq hb7 hkA hbox
  go_wp2_with fail
  refine HQ.out.mono ?_
  rintro e w3 ⟨rfl, hd3, hk3⟩
  have hb73 : (w3.alloc (entO tn iN kn dn)).heap[w1.heap.size]? = some (entO tn iN kn dn) := by
    refine (((Below.refl w3.heap.size w3).alloc (Nat.le_refl _) (entO tn iN kn dn)).block w1.heap.size (hd3.old (.inr rfl))).trans ?_
    exact (hk3.block _ (.inr rfl)).trans HB7.out
  have b0 : (w3.alloc (entO tn iN kn dn)).cell? ⟨w1.heap.size, 0, none⟩ = some (.int .u64 (tn : Int)) := by rw [cell_at hb73]; rfl
  have b1 : (w3.alloc (entO tn iN kn dn)).cell? ⟨w1.heap.size, 1, none⟩ = some (.int .u64 (iN : Int)) := by rw [cell_at hb73]; rfl
  have b2 : (w3.alloc (entO tn iN kn dn)).cell? ⟨w1.heap.size, 2, none⟩ = some (.int .i64 kn) := by rw [cell_at hb73]; rfl
  have b3 : (w3.alloc (entO tn iN kn dn)).cell? ⟨w1.heap.size, 3, none⟩ = some (.string dn) := by rw [cell_at hb73]; rfl
  have hlt7 : w1.heap.size < (w3.alloc (entO tn iN kn dn)).heap.size := lt_at hb73
  obtain ⟨hd4, hk4⟩ := hd3.alloc (entO tn iN kn dn)
  have hfin : Duo R B p q g' g' (w3.alloc (entO tn iN kn dn)) ∧ Kept R B w (w3.alloc (entO tn iN kn dn)) :=
    ⟨hd4.less fun _ h => .inl (.inl (.inl h)), (HKA.out.trans (hk3.less fun _ h => .inl (.inl h))).trans (hk4.less fun _ h => .inl (.inl h))⟩
  have HFin := Lib.hid hfin
  clear hfin hd4 hk4 hd3 hk3 hb73
  go_wp2
  go_ret
  exact ⟨rfl, HFin.out⟩
set_option maxHeartbeats 2000000 in
theorem both_cut (h : Duo R B p q g g w) (f : Fine g) (hx : CalB w B x) (hl : g.es.length * 40 ≤ 140737488355328) (hk : x.kind = 2) :
    Calls Try.prog 13 #[.pointer (some ⟨p, 0, none⟩), .pointer (some ⟨q, 0, none⟩), callV x] w (Acted R B p q (cut g x.idx) w) := by
  have hS := PS.new h x
  obtain ⟨g', he⟩ : ∃ r, cut g x.idx = r := ⟨_, rfl⟩
  rw [he]
  have HE := Lib.hid he
  have hcut := dp_cut hS.duo hx HE
  have HXB := Lib.hid hx
  have HRo := Lib.hid hl
  have HF := Lib.hid f
  obtain ⟨kd, ix, tm, wh, d, A, n, c, l, ⟨si, st, sc, sd⟩⟩ := x
  obtain rfl : kd = 2 := hk
  have HS := Lib.hid hS
  have HA := Lib.hid hcut
  clear he hx hl h f hS hcut
  unfold callV
  unfold callCs at HS HA
  simp only at HS HA ⊢
  go_enter Try.func13, Try.ntmps13
  go_wp2_with fail
  refine HA.out.mono ?_
  rintro e w1 ⟨rfl, hd1, hk1⟩
  have hbox : w1.heap[w.heap.size]? = _ := (hk1.block w.heap.size (.inr rfl)).trans HS.out.box
  have c1 : w1.cell? ⟨w.heap.size, 1, none⟩ = some (.int .u64 (ix : Int)) := by rw [cell_at hbox]; rfl
  have hlt := lt_at hbox
  have hkA : Kept R B w w1 := HS.out.kept.trans (hk1.less fun _ h => .inl h)
  have HQ := Lib.hid (dq_cut (x := ⟨2, ix, tm, wh, d, A, n, c, l, ⟨si, st, sc, sd⟩⟩) hd1 HF.out HRo.out HE)
  have HKA := Lib.hid hkA
  clear hd1 hk1 hkA hbox
  go_wp2_with fail
  refine HQ.out.mono ?_
  rintro e w3 ⟨rfl, hd3, hk3⟩
  go_wp2
  go_ret
  exact ⟨rfl, hd3.less fun _ h => .inl h, HKA.out.trans (hk3.less fun _ h => .inl h)⟩
set_option maxHeartbeats 2000000 in
theorem both_else (h : Duo R B p q g g w) (h0 : x.kind ≠ 0) (h1 : x.kind ≠ 1) (h2 : x.kind ≠ 2) (h3 : x.kind ≠ 3) (h4 : x.kind ≠ 4) :
    Calls Try.prog 13 #[.pointer (some ⟨p, 0, none⟩), .pointer (some ⟨q, 0, none⟩), callV x] w (Acted R B p q g w) := by
  have HS := Lib.hid (PS.new h x).acted
  obtain ⟨kd, ix, tm, wh, d, A, n, c, l, ⟨si, st, sc, sd⟩⟩ := x
  simp only at h0 h1 h2 h3 h4
  have b0 : (kd == 0) = false := by simpa using h0
  have b1 : (kd == 1) = false := by simpa using h1
  have b2 : (kd == 2) = false := by simpa using h2
  have b3 : (kd == 3) = false := by simpa using h3
  have b4 : (kd == 4) = false := by simpa using h4
  clear h0 h1 h2 h3 h4 h
  unfold callV
  unfold callCs at HS
  simp only at HS ⊢
  go_enter Try.func13, Try.ntmps13
  go_wp2
  go_ret
  exact ⟨rfl, HS.out⟩
theorem PX.new {v u : Value} (h : DX R B p v q u g m w) (x : Cal) : PX R B p v q u g m w.heap.size x w (w.alloc (.cells (callCs x).toArray 37)) := by
  have hb : Below w.heap.size w (w.alloc (.cells (callCs x).toArray 37)) := (Below.refl _ _).alloc (Nat.le_refl _) _
  refine ⟨⟨h.a.below hb, h.b.below hb, h.c, fun r hr => ?_⟩, heap_alloc_new w _, Kept.of_below (fun r hr => (h.d r hr).1) h.a.base hb⟩
  rcases hr with hr | rfl
  · exact ⟨by have := (h.d r hr).1; simp; omega, (h.d r hr).2⟩
  · exact ⟨by simp, fun e => by have := (h.a.foot_lt e).2; omega, fun e => by have := (h.b.foot_lt e).2; omega⟩
set_option maxHeartbeats 2000000 in
theorem both_merge (h : Duo R B p q g g w) (f : Fine g) (hx : CalB w B x) (hroom : chained x.l x.idx x.term = true → (g.es.length + x.n) * 40 ≤ 140737488355328) (hk : x.kind = 1) (hlen : (merge g x.idx x.term x.l).1.1.length ≤ 9223372036854775807) :
    Calls Try.prog 13 #[.pointer (some ⟨p, 0, none⟩), .pointer (some ⟨q, 0, none⟩), callV x] w (Acted R B p q (merge g x.idx x.term x.l).2 w) := by
  obtain ⟨v, u, hdx⟩ := h.ex
  have hS := PX.new hdx x
  obtain ⟨⟨⟨ml, mb⟩, g'⟩, he⟩ : ∃ r, merge g x.idx x.term x.l = r := ⟨_, rfl⟩
  rw [he] at hlen ⊢
  simp only at hlen
  have HE := Lib.hid he
  have hmrg := ps_merge hS f hx hroom HE
  have HXB := Lib.hid hx
  have HRo := Lib.hid hroom
  have HF := Lib.hid f
  obtain ⟨kd, ix, tm, wh, d, A, n, c, l, ⟨si, st, sc, sd⟩⟩ := x
  obtain rfl : kd = 1 := hk
  have HS := Lib.hid hS
  have HA := Lib.hid hmrg
  clear he hx hroom h f hS hmrg hdx
  unfold callV
  unfold callCs at HS HA
  simp only at HS HA ⊢
  go_enter Try.func13, Try.ntmps13
  go_wp2_with fail
  refine HA.out.mono ?_
  rintro e w1 ⟨⟨A1, c1, rfl, hr1, hc1, h63, hfr1⟩, v', h1⟩
  have hbox := h1.box
  have b1 : w1.cell? ⟨w.heap.size, 1, none⟩ = some (.int .u64 (ix : Int)) := by rw [cell_at hbox]; rfl
  have b2 : w1.cell? ⟨w.heap.size, 2, none⟩ = some (.int .u64 (tm : Int)) := by rw [cell_at hbox]; rfl
  have b5 : w1.cell? ⟨w.heap.size, 5, none⟩ = some (.slice A n c) := by rw [cell_at hbox]; rfl
  have hlt := lt_at hbox
  have hoff : Off (Foot q u) A1 ml.length := fun hn ad ha hf => hfr1 hn ad ha (HS.out.dx.b.foot_lt hf).2
  have HQ := Lib.hid (pr_merge h1 HF.out HXB.out HRo.out HE)
  have HOff := Lib.hid hoff
  have HR1 := Lib.hid hr1
  clear h1 hfr1 hbox hoff hr1
  go_wp2_with fail
  refine HQ.out.mono ?_
  rintro e w2 ⟨⟨A2, c2, rfl, hr2, hc2, h632, hfr2⟩, ho2, hps⟩
  have hra : RE w2 w2.heap.size A1 ml.length ml := (HOff.out.reads ho2 HR1.out (Nat.le_refl _)).more ho2.size
  have HSame := Lib.hid (same_any (ca := c1) (cc := c2) hra hr2 hlen)
  have HPS := Lib.hid hps
  clear hfr2 ho2 hps hr2 hra
  go_wp2_with fail
  refine HSame.out.mono ?_
  rintro e w3 ⟨rfl, hb3⟩
  go_wp2
  go_ret
  exact ⟨rfl, (HPS.out.below hb3).acted⟩
set_option maxHeartbeats 2000000 in
theorem both_compact (h : Duo R B p q g g w) (f : Fine g) (hx : CalB w B x) (hl : g.es.length * 40 ≤ 140737488355328) (hk : x.kind = 3) :
    Calls Try.prog 13 #[.pointer (some ⟨p, 0, none⟩), .pointer (some ⟨q, 0, none⟩), callV x] w (Acted R B p q (compact g x.idx x.data).2 w) := by
  have hS := PS.new h x
  obtain ⟨⟨k, g'⟩, he⟩ : ∃ r, compact g x.idx x.data = r := ⟨_, rfl⟩
  rw [he]
  have HE := Lib.hid he
  have HXB := Lib.hid hx
  have HRo := Lib.hid hl
  have HF := Lib.hid f
  obtain ⟨kd, ix, tm, wh, d, A, n, c, l, ⟨si, st, sc, sd⟩⟩ := x
  obtain rfl : kd = 3 := hk
  have hc1 := hS.c1
  have hc4 := hS.c4
  have HS := Lib.hid hS
  clear he hx hl h f hS
  unfold callV
  unfold callCs at HS hc1 hc4
  simp only at HS hc1 hc4 ⊢
  go_enter Try.func13, Try.ntmps13
  go_wp2_with fail
  go_region_held3 (fun w' => w'.cell? ⟨w.heap.size, 1, none⟩ = some (.int .u64 (ix : Int)) ∧ w'.cell? ⟨w.heap.size, 4, none⟩ = some (.string d))
    (first
      | exact ⟨hc1, hc4⟩
      | exact ⟨PS.c1 hA, PS.c4 hA⟩
      | exact ⟨PS.c1 hD, PS.c4 hD⟩)
    (first
      | (go_at_call 25
         refine (ps_compact (x := ⟨3, ix, tm, wh, d, A, n, c, l, ⟨si, st, sc, sd⟩⟩) (by first | exact hD | exact HS.out.drew) HF.out HXB.out HRo.out HE).mono ?_
         rintro e wA ⟨rfl, hA⟩)
      | (go_at_call 36
         refine (pr_compact (x := ⟨3, ix, tm, wh, d, A, n, c, l, ⟨si, st, sc, sd⟩⟩) (by first | exact hA | exact HS.out.drew) HF.out HRo.out HE).mono ?_
         rintro e wD ⟨rfl, hD⟩))
  all_goals go_wp2
  all_goals go_ret
  all_goals first
    | exact ⟨rfl, PS.acted hD⟩
    | exact ⟨rfl, PS.acted hA⟩
set_option maxHeartbeats 2000000 in
theorem both_install (h : Duo R B p q g g w) (f : Fine g) (hx : CalB w B x) (hl : g.es.length * 40 ≤ 140737488355328) (hk : x.kind = 4) :
    Calls Try.prog 13 #[.pointer (some ⟨p, 0, none⟩), .pointer (some ⟨q, 0, none⟩), callV x] w (Acted R B p q (install g x.snap).2 w) := by
  have hS := PS.new h x
  obtain ⟨⟨k, g'⟩, he⟩ : ∃ r, install g x.snap = r := ⟨_, rfl⟩
  rw [he]
  have HE := Lib.hid he
  have HXB := Lib.hid hx
  have HRo := Lib.hid hl
  have HF := Lib.hid f
  obtain ⟨kd, ix, tm, wh, d, A, n, c, l, ⟨si, st, sc, sd⟩⟩ := x
  obtain rfl : kd = 4 := hk
  have hc6 := hS.c6
  have hc7 := hS.c7
  have hc8 := hS.c8
  have hc9 := hS.c9
  have HS := Lib.hid hS
  clear he hx hl h f hS
  unfold callV
  unfold callCs at HS hc6 hc7 hc8 hc9
  simp only at HS hc6 hc7 hc8 hc9 ⊢
  go_enter Try.func13, Try.ntmps13
  go_wp2_with fail
  go_region_held3 (fun w' => w'.cell? ⟨w.heap.size, 6, none⟩ = some (.int .u64 (si : Int)) ∧ w'.cell? ⟨w.heap.size, 7, none⟩ = some (.int .u64 (st : Int)) ∧ w'.cell? ⟨w.heap.size, 8, none⟩ = some (.int .u64 (sc : Int)) ∧ w'.cell? ⟨w.heap.size, 9, none⟩ = some (.string sd))
    (first
      | exact ⟨hc6, hc7, hc8, hc9⟩
      | exact ⟨PS.c6 hA, PS.c7 hA, PS.c8 hA, PS.c9 hA⟩
      | exact ⟨PS.c6 hD, PS.c7 hD, PS.c8 hD, PS.c9 hD⟩)
    (first
      | (go_at_call 26
         refine (ps_install (x := ⟨4, ix, tm, wh, d, A, n, c, l, ⟨si, st, sc, sd⟩⟩) (by first | exact hD | exact HS.out.drew) HXB.out HRo.out HE).mono ?_
         rintro e wA ⟨rfl, hA⟩)
      | (go_at_call 37
         refine (pr_install (x := ⟨4, ix, tm, wh, d, A, n, c, l, ⟨si, st, sc, sd⟩⟩) (by first | exact hA | exact HS.out.drew) HF.out HXB.out HRo.out HE).mono ?_
         rintro e wD ⟨rfl, hD⟩))
  all_goals go_wp2
  all_goals go_ret
  all_goals first
    | exact ⟨rfl, PS.acted hD⟩
    | exact ⟨rfl, PS.acted hA⟩
/-- Whatever call comes. -/
theorem both_any (h : Duo R B p q g g w) (f : Fine g) (hx : CalB w B x) (hroom : (g.es.length + 1) * 40 ≤ 140737488355328) (hroom2 : chained x.l x.idx x.term = true → (g.es.length + x.n) * 40 ≤ 140737488355328) :
    Calls Try.prog 13 #[.pointer (some ⟨p, 0, none⟩), .pointer (some ⟨q, 0, none⟩), callV x] w (Acted R B p q (act g x) w) := by
  unfold act
  by_cases h0 : x.kind = 0
  · rw [if_pos h0]; exact both_add h f hx hroom h0
  rw [if_neg h0]
  by_cases h1 : x.kind = 1
  · rw [if_pos h1]
    refine both_merge h f hx hroom2 h1 (Nat.le_trans (merge_len _ _ _ _) ?_)
    rw [RE.len hx.list]
    exact Nat.le_trans hx.fits hx.max
  rw [if_neg h1]
  by_cases h2 : x.kind = 2
  · rw [if_pos h2]; exact both_cut h f hx (by omega) h2
  rw [if_neg h2]
  by_cases h3 : x.kind = 3
  · rw [if_pos h3]; exact both_compact h f hx (by omega) h3
  rw [if_neg h3]
  by_cases h4 : x.kind = 4
  · rw [if_pos h4]; exact both_install h f hx (by omega) h4
  rw [if_neg h4]
  exact both_else h h0 h1 h2 h3 h4
end
end Go.Proofs.Ytndehdnffajigaa.Both
