/- What both nodes tell. No statement is proved here. -/
import Derived.Test.YtojmbbldehbjfaaGreatHBothR
import Derived.Test.YtojmbbldehbjfaaGreatGR
import Derived.Test.YtojmbbldehbjfaaGreatGE
set_option linter.unusedVariables false
namespace Go.Proofs.YtojmbbldehbjfaaGreat.DuoN
open Go.RowKit Go.Proofs.YtojmbbldehbjfaaGreat.Kit Go.Proofs.YtojmbbldehbjfaaGreat.Blocks Go.Proofs.YtojmbbldehbjfaaGreat.Rlog Go.Proofs.YtojmbbldehbjfaaGreat.Ents Go.Proofs.YtojmbbldehbjfaaGreat.LogAt Go.Proofs.YtojmbbldehbjfaaGreat.Nod Go.Proofs.YtojmbbldehbjfaaGreat.NodAt Go.Proofs.YtojmbbldehbjfaaGreat.DAt Go.Proofs.YtojmbbldehbjfaaGreat.WalkJ Go.Proofs.YtojmbbldehbjfaaGreat.Stp Go.Proofs.YtojmbbldehbjfaaGreat.Duo

/-- The document's log of these entries. -/
theorem rnewlog_any {s : Snap} (hs : SnapB s) (A : Option Addr) (n c : Nat) (l : List Ent) (w : World) (hr : RE w w.heap.size A n l) (hb : ∀ e ∈ l, EntB e) (h40 : n * 40 ≤ 140737488355328) :
    Calls Tryz.prog 11 #[RlgWalkD.snapV s, .slice A n c] w fun e w' => if okL s l = true then RlgWalkD.NewLog 60 w ⟨s, l⟩ e w' else RlgWalkD.NoLog w e w' := by
  unfold okL
  cases h1 : Quorum.sound s.cfg with
  | false => simpa using RefA.rnew_mad hs A n c w h1
  | true =>
    refine (RefA.rnew_any hs A n c l w hr hb h40 h1).mono fun e w' h => ?_
    simpa using h
section
variable {B : Nat} {w w' wa wb wc wd : World} {p r q1 q2 : Nat} {v1 v2 : Value} {g : G} {m : Nd}
theorem NodeAt.told {T TL : TypeId} {z : Seat} {cs : List Value} {kept : List Ent} {out : List Msg} (h : NodeAt T TL B w p z cs g kept out) (hz : z.Z = []) {X : Nat → Prop} (hx : ∀ k, X k → k < w.heap.size) : NodeAt T TL B w p { z with X := X } cs g kept out :=
  ⟨h.low, h.cell, h.log, h.kept, h.outs, h.said, fun x hx' => (by rw [show ({ z with X := X } : Seat).Z = [] from hz] at hx'; cases hx'), hx, h.d1, h.d2, h.d3, h.d4, h.d5, h.d6⟩
/-- wa: behind the program's log; wb: behind the document's; wc: behind the program's node; wd: behind the document's. -/
theorem duo_new (hq1 : ∀ k, Foot q1 v1 k → k < wa.heap.size) (hB : B ≤ wa.heap.size) (hab : wa.heap.size ≤ wb.heap.size) (hq2 : ∀ k, Foot q2 v2 k → wa.heap.size ≤ k ∧ k < wb.heap.size)
    (hp : wb.heap.size ≤ p) (h1 : PAt B wc p ⟨q1, v1, .slice none 0 0, .slice none 0 0, [], fun _ => False⟩ m) (hr : wc.heap.size ≤ r) (h2 : DAt wa.heap.size wd r ⟨q2, v2, .slice none 0 0, .slice none 0 0, [], fun _ => False⟩ m) (hcd : Below wc.heap.size wc wd) :
    Duo B wd p r m m (fun _ => False) := by
  obtain ⟨vs, nx, mt, fr, h2⟩ := h2
  have h1' : PAt B wd p ⟨q1, v1, .slice none 0 0, .slice none 0 0, [], fun _ => False⟩ m := h1.below hcd
  have h2' := NodeAt.lower h2 hB
  have hpc := NodeAt.plt h1
  have hmp : ∀ k, Mine p ⟨q1, v1, .slice none 0 0, .slice none 0 0, [], fun _ => False⟩ k → k = p ∨ k < wa.heap.size := fun k hk => by
    rcases hk with hk | hk | hk | hk
    · exact .inl hk
    · exact .inr (hq1 k hk)
    · simp [Value.ownBlock] at hk
    · simp [Value.ownBlock] at hk
  have hmr : ∀ k, Mine r ⟨q2, v2, .slice none 0 0, .slice none 0 0, [], fun _ => False⟩ k → k = r ∨ (wa.heap.size ≤ k ∧ k < wb.heap.size) := fun k hk => by
    rcases hk with hk | hk | hk | hk
    · exact .inl hk
    · exact .inr (hq2 k hk)
    · simp [Value.ownBlock] at hk
    · simp [Value.ownBlock] at hk
  refine ⟨⟨⟨q1, v1, .slice none 0 0, .slice none 0 0, [], fun _ => False⟩, ⟨q2, v2, .slice none 0 0, .slice none 0 0, [], fun _ => False⟩, NodeAt.told h1' rfl fun k hk => (NodeAt.mine_lt h2' hk).2, ⟨vs, nx, mt, fr, NodeAt.told h2' rfl fun k hk => (NodeAt.mine_lt h1' hk).2⟩, fun k h3 h4 => ?_, fun k hk => hk.elim⟩, fun k hk => hk.elim⟩
  have e1 := hmp k h3
  have e2 := hmr k h4
  omega
end
end Go.Proofs.YtojmbbldehbjfaaGreat.DuoN
set_option linter.unusedVariables false
namespace Go.Proofs.YtojmbbldehbjfaaGreat.BothT
open Go.RowKit Go.Proofs.YtojmbbldehbjfaaGreat.Kit Go.Proofs.YtojmbbldehbjfaaGreat.Blocks Go.Proofs.YtojmbbldehbjfaaGreat.Rlog Go.Proofs.YtojmbbldehbjfaaGreat.Ents Go.Proofs.YtojmbbldehbjfaaGreat.LogAt Go.Proofs.YtojmbbldehbjfaaGreat.Nod Go.Proofs.YtojmbbldehbjfaaGreat.NodAt Go.Proofs.YtojmbbldehbjfaaGreat.AppL Go.Proofs.YtojmbbldehbjfaaGreat.DAt Go.Proofs.YtojmbbldehbjfaaGreat.WalkI Go.Proofs.YtojmbbldehbjfaaGreat.OpensC Go.Proofs.YtojmbbldehbjfaaGreat.Duo Go.Proofs.YtojmbbldehbjfaaGreat.Tks Go.Proofs.YtojmbbldehbjfaaGreat.BothR

/-- The document's pointer to its log, and all blocks but both nodes' own, are as they were. -/
structure Stay (p r : Nat) (w w' : World) : Prop where
  ptr : w'.cell? ⟨r, 3, none⟩ = w.cell? ⟨r, 3, none⟩
  cell : ∀ b i, b ≠ p → b ≠ r → b < w.heap.size → w'.cell? ⟨b, i, none⟩ = w.cell? ⟨b, i, none⟩
  size : w.heap.size ≤ w'.heap.size
section
variable {B N : Nat} {w w1 w2 w' : World} {p r : Nat} {m n m' n' : Nd} {K : Nat → Prop}
theorem Stay.of_below (hr : r < w.heap.size) (k : Below w.heap.size w w') : Stay p r w w' := ⟨k.cell (p := ⟨r, 3, none⟩) hr, fun b i _ _ h => k.cell (p := ⟨b, i, none⟩) h, k.size⟩
theorem Stay.trans (h : Stay p r w w1) (k : Stay p r w1 w2) : Stay p r w w2 := ⟨k.ptr.trans h.ptr, fun b i h1 h2 h3 => (k.cell b i h1 h2 (Nat.lt_of_lt_of_le h3 h.size)).trans (h.cell b i h1 h2 h3), Nat.le_trans h.size k.size⟩
theorem Stay.of_p (hr : r < w.heap.size) (hn : r ≠ p) (k : Only (fun q => q = p) w w') : Stay p r w w' := ⟨k.cell (p := ⟨r, 3, none⟩) hr hn, fun b i h1 _ h => k.cell (p := ⟨b, i, none⟩) h h1, k.size⟩
theorem p_take2 (h : Duo B w p r m n K) : Calls Tryz.prog 24 #[.pointer (some ⟨p, 0, none⟩)] w fun e w' =>
    ∃ Ak ck A c Z, e = .returned (.agg #[.int .u64 (m.term : Int), .int .i64 m.vote, .slice Ak m.kept.length ck, .bool m.inst, .slice A m.out.length c, .bool m.reset, .int .u64 (m.commit : Int)]) ∧ Rows2 w' m.kept m.out Ak A Z ∧ Gone B w p r (taken m) n K w' ∧ Stay p r w w' := by
  obtain ⟨z, y, h1, h2, o, off⟩ := h.ex
  have hlen : z.Z.length = m.out.length := by rw [← h1.said, List.length_map]
  have hrp : r ≠ p := fun e => o p (.inl rfl) (.inl e.symm)
  have hrl := DWe.DAt.plt h2
  refine (take_any h1).mono ?_
  rintro e w' ⟨rfl, hp', hon⟩
  obtain ⟨Ak, ck, hvk, _, _, hrk⟩ := own_form (hon.own h1.kept fun b hb e => h1.d2 (e ▸ hb))
  obtain ⟨A, c, hvo, _, _, hro⟩ := own_form (hon.own h1.outs fun b hb e => h1.d3 (e ▸ hb))
  simp only at hvk hvo
  refine ⟨Ak, ck, A, c, z.Z, ?_, ⟨hrk, ?_, h1.said, _, fun x hx => (h1.fit x hx).keep hon fun hn ad e hm => (h1.fit x hx).off hn ad e (.inl (.inl hm))⟩, Duo.left h1 h2 o off h.klt ⟨_, hp', rfl, hon.mono fun q _ hq => .inl hq, fun k hk => .inl (bare_mine hk), rfl⟩, Stay.of_p hrl hrp hon⟩
  · unfold ReadyV
    rw [hvk, hvo, ← hlen]
  · rw [← hlen]
    exact hro
theorem d_clear2 (h : Duo B w p r m n K) : Calls Tryz.prog 42 #[.pointer (some ⟨r, 0, none⟩)] w fun e w' => PDoes B w p r m (taken n) K (.tuple #[]) e w' ∧ Stay p r w w' := by
  obtain ⟨z, y, h1, h2, o, off⟩ := h.ex
  have c3 := DWe.DAt.c3 h2
  refine (DWi.dclear_any h2).mono ?_
  rintro e w' ⟨rfl, hp', hon⟩
  have d3 := DWe.DAt.c3 hp'
  exact ⟨⟨rfl, Duo.right h1 h2 o off h.klt ⟨_, hp', rfl, hon.mono fun q _ hq => .inl hq, fun k hk => .inl (bare_mine hk), rfl⟩⟩, d3.trans c3.symm, fun b i _ h4 h5 => hon.cell (p := ⟨b, i, none⟩) h5 h4, hon.size⟩
set_option maxRecDepth 100000 in
set_option maxHeartbeats 8000000 in
theorem both_taken (h : Duo B w p r m m K) (f : NdB N m) (hN : N ≤ 600000000) {B0 : Nat} {c : Cal} (hc : CalB w B0 c) (hB : B0 ≤ B) (hk : c.kind ≠ 0 ∧ c.kind ≠ 1 ∧ c.kind ≠ 2 ∧ c.kind ≠ 3 ∧ c.kind ≠ 4 ∧ c.kind ≠ 5) :
    Calls Tryz.prog 14 #[.pointer (some ⟨p, 0, none⟩), .pointer (some ⟨r, 0, none⟩), .agg (callCs c).toArray] w fun e w' => Both B w p r (N + c.x.es.length + 22) (m.g.es.length + c.x.es.length + 1) K e w' ∧ Stay p r w w' := by
  have hrw : r < w.heap.size := by
    obtain ⟨z, y, h1, h2, o, off⟩ := h.ex
    exact DWe.DAt.plt h2
  have hbase := h.base
  have hba : ∀ o, Below w.heap.size w (w.alloc o) := fun o => (Below.refl _ _).alloc (Nat.le_refl _) _
  have hsm : c.x.es.length + c.data.size + c.x.d.size + dataW c.x.es ≤ 1048576 := hc.small
  have hi0 := hc.i0
  have hi1 := hc.i1
  have hidx := hc.idx
  obtain ⟨kind, ⟨kd, fr, tt, tm, ix, pv, cm, ok, es, dd⟩, ⟨A, n, cc⟩, data, id, idx, add⟩ := c
  simp only at hk hsm hi0 hi1 hidx
  unfold callCs
  simp only
  have hcb := heap_alloc_new w (.cells #[.int .i64 kind, .int .i64 kd, .int .i64 fr, .int .i64 tt, .int .u64 (tm : Int), .int .u64 (ix : Int), .int .u64 (pv : Int), .int .u64 (cm : Int), .bool ok, .slice A n cc, .string dd, .string data, .int .i64 id, .int .u64 (idx : Int), .bool add] 49)
  obtain ⟨w0, hw0⟩ : ∃ w0, w.alloc (.cells #[.int .i64 kind, .int .i64 kd, .int .i64 fr, .int .i64 tt, .int .u64 (tm : Int), .int .u64 (ix : Int), .int .u64 (pv : Int), .int .u64 (cm : Int), .bool ok, .slice A n cc, .string dd, .string data, .int .i64 id, .int .u64 (idx : Int), .bool add] 49) = w0 := ⟨_, rfl⟩
  have hb0 : Below w.heap.size w w0 := by rw [← hw0]; exact hba _
  rw [hw0] at hcb
  have x : ∀ i u, (#[.int .i64 kind, .int .i64 kd, .int .i64 fr, .int .i64 tt, .int .u64 (tm : Int), .int .u64 (ix : Int), .int .u64 (pv : Int), .int .u64 (cm : Int), .bool ok, .slice A n cc, .string dd, .string data, .int .i64 id, .int .u64 (idx : Int), .bool add] : Array Value)[i]? = some u → w0.cell? ⟨w.heap.size, i, none⟩ = some u := fun i u hu => by rw [cell_at hcb]; exact hu
  have x0 : w0.cell? ⟨w.heap.size, 0, none⟩ = some (.int .i64 kind) := x 0 _ rfl
  have x1 : w0.cell? ⟨w.heap.size, 1, none⟩ = some (.int .i64 kd) := x 1 _ rfl
  have x2 : w0.cell? ⟨w.heap.size, 2, none⟩ = some (.int .i64 fr) := x 2 _ rfl
  have x3 : w0.cell? ⟨w.heap.size, 3, none⟩ = some (.int .i64 tt) := x 3 _ rfl
  have x4 : w0.cell? ⟨w.heap.size, 4, none⟩ = some (.int .u64 (tm : Int)) := x 4 _ rfl
  have x5 : w0.cell? ⟨w.heap.size, 5, none⟩ = some (.int .u64 (ix : Int)) := x 5 _ rfl
  have x6 : w0.cell? ⟨w.heap.size, 6, none⟩ = some (.int .u64 (pv : Int)) := x 6 _ rfl
  have x7 : w0.cell? ⟨w.heap.size, 7, none⟩ = some (.int .u64 (cm : Int)) := x 7 _ rfl
  have x8 : w0.cell? ⟨w.heap.size, 8, none⟩ = some (.bool ok) := x 8 _ rfl
  have x9 : w0.cell? ⟨w.heap.size, 9, none⟩ = some (.slice A n cc) := x 9 _ rfl
  have x10 : w0.cell? ⟨w.heap.size, 10, none⟩ = some (.string dd) := x 10 _ rfl
  have x11 : w0.cell? ⟨w.heap.size, 11, none⟩ = some (.string data) := x 11 _ rfl
  have x12 : w0.cell? ⟨w.heap.size, 12, none⟩ = some (.int .i64 id) := x 12 _ rfl
  have x13 : w0.cell? ⟨w.heap.size, 13, none⟩ = some (.int .u64 (idx : Int)) := x 13 _ rfl
  have x14 : w0.cell? ⟨w.heap.size, 14, none⟩ = some (.bool add) := x 14 _ rfl
  have hlt := lt_at hcb
  have h0 : Duo B w0 p r m m (fun k => K k ∨ k = w.heap.size) := h.guard hb0 (fun k hk => hk.imp (fun h => h) fun e => by omega) fun k hk => by
    rcases hk with hk | hk
    · exact Nat.lt_of_lt_of_le (h.klt k hk) hb0.size
    · rw [hk]; exact hlt
  have hc0 := hc.below (B' := B0) (Below.mono hb0 (by omega)) (Nat.le_refl _)
  have HX : Hid (∀ W, Only (fun k => ¬ (K k ∨ k = w.heap.size)) w0 W → ∀ i u, w0.cell? ⟨w.heap.size, i, none⟩ = some u → W.cell? ⟨w.heap.size, i, none⟩ = some u) := Lib.hid fun W ho i u hu => (ho.cell (p := ⟨w.heap.size, i, none⟩) hlt (fun e => e (.inr rfl))).trans hu
  have HCl : Hid (∀ (W : World) (M : Nd), NdB (N + es.length + 22) M → M.g.es.length ≤ m.g.es.length + es.length + 1 → Gone B w0 p r M M (fun k => K k ∨ k = w.heap.size) W → Both B w p r (N + es.length + 22) (m.g.es.length + es.length + 1) K (.returned (.bool true)) W) := Lib.hid fun W M hM hl hg => ⟨rfl, M, hM, hl, Gone.close hbase hb0 hg fun k hk => .inl hk⟩
  have HW0 := Lib.hid hw0
  have H0 := Lib.hid h0
  have HC0 := Lib.hid hc0
  have F := Lib.hid f
  have HB0 := Lib.hid hb0
  clear hw0 hcb x h0 hba h f hc hc0 hb0
  have k0 : (kind == 0) = false := by simp; omega
  have k1 : (kind == 1) = false := by simp; omega
  have k2 : (kind == 2) = false := by simp; omega
  have k3 : (kind == 3) = false := by simp; omega
  have k4 : (kind == 4) = false := by simp; omega
  have k5 : (kind == 5) = false := by simp; omega
  clear hk
  have hp := p_take2 H0.out
  have FB : Hid (NdB (N + es.length + 22) (taken m)) := Lib.hid ((taken_b F.out).mono (by omega))
  have FL : Hid (((taken m)).g.es.length ≤ m.g.es.length + es.length + 1) := Lib.hid ((show m.g.es.length ≤ _ by omega))
  have hkl := F.out.kept
  have hol := F.out.out
  obtain ⟨nk, hnk⟩ : ∃ nk, m.kept.length = nk := ⟨_, rfl⟩
  obtain ⟨no, hno⟩ : ∃ no, m.out.length = no := ⟨_, rfl⟩
  have HP := Lib.hid hp
  have HNk := Lib.hid hnk
  have HNo := Lib.hid hno
  rw [hnk] at hkl
  rw [hno] at hol
  clear hp hnk hno
  go_enter Tryz.func14, Tryz.ntmps14
  go_wp2_with fail
  rw [HW0.out]
  go_wp2_with fail
  with_reducible refine HP.out.mono ?_
  rintro e w1 ⟨Ak, ck, A1, c1, Z, rfl, hrows, hg1, hst⟩
  have HSt1 : Hid (Stay p r w w1) := Lib.hid ((Stay.of_below hrw HB0.out).trans hst)
  clear hst
  have hlt1 := Nat.lt_of_lt_of_le hlt hg1.since.size
  rw [HNk.out, HNo.out]
  obtain ⟨Ak', ck', A1', c1', Z', q1, q2, q6, q22, q23, q24, q25, hpr, hrows'⟩ := d_reads hg1.duo
  rw [HNk.out] at q22
  rw [HNo.out] at q24
  have hsm1 : ∀ W, Below w1.heap.size w1 W → Calls Tryz.prog 18 #[.slice Ak nk ck, .slice Ak' nk ck'] W fun e w' => e = .returned (.bool true) ∧ Below W.heap.size W w' := fun W hb => by
    have := same_ents (ca := ck) (cc := ck') (hrows.below hb) (hrows'.below hb) (by rw [HNk.out]; omega)
    rw [HNk.out] at this
    exact this
  have hsm2 : ∀ W, Below w1.heap.size w1 W → Calls Tryz.prog 41 #[.slice A1 no c1, .slice A1' no c1'] W fun e w' => e = .returned (.bool true) ∧ Below W.heap.size W w' := fun W hb => by
    have := same_lets (ca := c1) (cc := c1') (hrows.below hb) (hrows'.below hb) (by rw [HNo.out]; omega)
    rw [HNo.out] at this
    exact this
  have hclr : ∀ W, Below w1.heap.size w1 W → Calls Tryz.prog 42 #[.pointer (some ⟨r, 0, none⟩)] W (fun e w' => PDoes B W p r (taken m) (taken m) (fun k => K k ∨ k = w.heap.size) (.tuple #[]) e w' ∧ Stay p r W w') := fun W hb => d_clear2 (hg1.duo.below hb)
  obtain ⟨T0, hT0⟩ : ∃ T0, m.term = T0 := ⟨_, rfl⟩
  obtain ⟨V0, hV0⟩ : ∃ V0, m.vote = V0 := ⟨_, rfl⟩
  obtain ⟨C0, hC0⟩ : ∃ C0, m.commit = C0 := ⟨_, rfl⟩
  obtain ⟨I0, hI0⟩ : ∃ I0, m.inst = I0 := ⟨_, rfl⟩
  obtain ⟨R0, hR0⟩ : ∃ R0, m.reset = R0 := ⟨_, rfl⟩
  rw [hT0, hV0, hC0, hI0, hR0]
  rw [hT0] at q1
  rw [hV0] at q2
  rw [hC0] at q6
  rw [hI0] at q23
  rw [hR0] at q25
  have hr9 := heap_alloc_new w1 (.cells #[.int .u64 (T0 : Int), .int .i64 V0, .slice Ak nk ck, .bool I0, .slice A1 no c1, .bool R0, .int .u64 (C0 : Int)] 70)
  obtain ⟨w9, hw9⟩ : ∃ w9, w1.alloc (.cells #[.int .u64 (T0 : Int), .int .i64 V0, .slice Ak nk ck, .bool I0, .slice A1 no c1, .bool R0, .int .u64 (C0 : Int)] 70) = w9 := ⟨_, rfl⟩
  have hb9 : Below w1.heap.size w1 w9 := by rw [← hw9]; exact (Below.refl _ _).alloc (Nat.le_refl _) _
  rw [hw9] at hr9
  have s0 : w9.cell? ⟨w1.heap.size, 0, none⟩ = some (.int .u64 (T0 : Int)) := by rw [cell_at hr9]; rfl
  have s1 : w9.cell? ⟨w1.heap.size, 1, none⟩ = some (.int .i64 V0) := by rw [cell_at hr9]; rfl
  have s2 : w9.cell? ⟨w1.heap.size, 2, none⟩ = some (.slice Ak nk ck) := by rw [cell_at hr9]; rfl
  have s3 : w9.cell? ⟨w1.heap.size, 3, none⟩ = some (.bool I0) := by rw [cell_at hr9]; rfl
  have s4 : w9.cell? ⟨w1.heap.size, 4, none⟩ = some (.slice A1 no c1) := by rw [cell_at hr9]; rfl
  have s5 : w9.cell? ⟨w1.heap.size, 5, none⟩ = some (.bool R0) := by rw [cell_at hr9]; rfl
  have s6 : w9.cell? ⟨w1.heap.size, 6, none⟩ = some (.int .u64 (C0 : Int)) := by rw [cell_at hr9]; rfl
  have hl9 := lt_at hr9
  have u1 := (hb9.cell (p := ⟨r, 1, none⟩) hpr).trans q1
  have u2 := (hb9.cell (p := ⟨r, 2, none⟩) hpr).trans q2
  have u6 := (hb9.cell (p := ⟨r, 6, none⟩) hpr).trans q6
  have u22 := (hb9.cell (p := ⟨r, 22, none⟩) hpr).trans q22
  have u23 := (hb9.cell (p := ⟨r, 23, none⟩) hpr).trans q23
  have u24 := (hb9.cell (p := ⟨r, 24, none⟩) hpr).trans q24
  have u25 := (hb9.cell (p := ⟨r, 25, none⟩) hpr).trans q25
  have hp9 : r < w9.heap.size := Nat.lt_of_lt_of_le hpr hb9.size
  have hkp : ∀ W, Below w9.heap.size w9 W → (W.cell? ⟨w1.heap.size, 0, none⟩ = some (.int .u64 (T0 : Int)) ∧ W.cell? ⟨w1.heap.size, 1, none⟩ = some (.int .i64 V0) ∧ W.cell? ⟨w1.heap.size, 2, none⟩ = some (.slice Ak nk ck) ∧ W.cell? ⟨w1.heap.size, 3, none⟩ = some (.bool I0) ∧ W.cell? ⟨w1.heap.size, 4, none⟩ = some (.slice A1 no c1) ∧ W.cell? ⟨w1.heap.size, 5, none⟩ = some (.bool R0) ∧ W.cell? ⟨w1.heap.size, 6, none⟩ = some (.int .u64 (C0 : Int)) ∧ W.cell? ⟨r, 1, none⟩ = some (.int .u64 (T0 : Int)) ∧ W.cell? ⟨r, 2, none⟩ = some (.int .i64 V0) ∧ W.cell? ⟨r, 6, none⟩ = some (.int .u64 (C0 : Int)) ∧ W.cell? ⟨r, 22, none⟩ = some (.slice Ak' nk ck') ∧ W.cell? ⟨r, 23, none⟩ = some (.bool I0) ∧ W.cell? ⟨r, 24, none⟩ = some (.slice A1' no c1') ∧ W.cell? ⟨r, 25, none⟩ = some (.bool R0)) := fun W hb =>
    ⟨(hb.cell (p := ⟨w1.heap.size, 0, none⟩) hl9).trans s0, (hb.cell (p := ⟨w1.heap.size, 1, none⟩) hl9).trans s1, (hb.cell (p := ⟨w1.heap.size, 2, none⟩) hl9).trans s2, (hb.cell (p := ⟨w1.heap.size, 3, none⟩) hl9).trans s3, (hb.cell (p := ⟨w1.heap.size, 4, none⟩) hl9).trans s4, (hb.cell (p := ⟨w1.heap.size, 5, none⟩) hl9).trans s5, (hb.cell (p := ⟨w1.heap.size, 6, none⟩) hl9).trans s6,
      (hb.cell (p := ⟨r, 1, none⟩) hp9).trans u1, (hb.cell (p := ⟨r, 2, none⟩) hp9).trans u2, (hb.cell (p := ⟨r, 6, none⟩) hp9).trans u6, (hb.cell (p := ⟨r, 22, none⟩) hp9).trans u22, (hb.cell (p := ⟨r, 23, none⟩) hp9).trans u23, (hb.cell (p := ⟨r, 24, none⟩) hp9).trans u24, (hb.cell (p := ⟨r, 25, none⟩) hp9).trans u25⟩
  have hnh := neq_hard (T0 : Int) V0
  have HSm1 := Lib.hid hsm1
  have HSm2 := Lib.hid hsm2
  have HClr := Lib.hid hclr
  have HG1 := Lib.hid hg1
  have HB9 := Lib.hid hb9
  have HW9 := Lib.hid hw9
  have HKp := Lib.hid hkp
  have HBs := Lib.hid hg1.duo.base
  have HPr := Lib.hid hpr
  clear hsm1 hsm2 hclr hg1 hb9 hw9 hkp hr9 hrows hrows' HX HP q1 q2 q6 q22 q23 q24 q25 x0 x1 x2 x3 x4 x5 x6 x7 x8 x9 x10 x11 x12 x13 x14
  as_aux_lemma =>
  go_wp2_with fail
  rw [HW9.out]
  go_region_held3 (fun W => W.cell? ⟨w1.heap.size, 0, none⟩ = some (.int .u64 (T0 : Int)) ∧ W.cell? ⟨w1.heap.size, 1, none⟩ = some (.int .i64 V0) ∧ W.cell? ⟨w1.heap.size, 2, none⟩ = some (.slice Ak nk ck) ∧ W.cell? ⟨w1.heap.size, 3, none⟩ = some (.bool I0) ∧ W.cell? ⟨w1.heap.size, 4, none⟩ = some (.slice A1 no c1) ∧ W.cell? ⟨w1.heap.size, 5, none⟩ = some (.bool R0) ∧ W.cell? ⟨w1.heap.size, 6, none⟩ = some (.int .u64 (C0 : Int)) ∧ W.cell? ⟨r, 1, none⟩ = some (.int .u64 (T0 : Int)) ∧ W.cell? ⟨r, 2, none⟩ = some (.int .i64 V0) ∧ W.cell? ⟨r, 6, none⟩ = some (.int .u64 (C0 : Int)) ∧ W.cell? ⟨r, 22, none⟩ = some (.slice Ak' nk ck') ∧ W.cell? ⟨r, 23, none⟩ = some (.bool I0) ∧ W.cell? ⟨r, 24, none⟩ = some (.slice A1' no c1') ∧ W.cell? ⟨r, 25, none⟩ = some (.bool R0))
    (first
      | exact ⟨s0, s1, s2, s3, s4, s5, s6, u1, u2, u6, u22, u23, u24, u25⟩
      | (with_reducible exact HKA.out)
      | (with_reducible exact HKB.out))
    (first
      | (go_at_call 18
         with_reducible refine (HSm1.out _ (HB9.out.trans ((Below.refl _ w9).drew.mono HB9.out.size))).mono ?_
         rintro e wA ⟨rfl, hbA⟩
         have HBA : Hid (Below w9.heap.size w9 wA) := Lib.hid ((Below.refl _ w9).drew.trans hbA)
         have HKA := Lib.hid (HKp.out wA HBA.out)
         clear hbA)
      | (go_at_call 41
         with_reducible refine (HSm2.out _ (HB9.out.trans (HBA.out.mono HB9.out.size))).mono ?_
         rintro e wB ⟨rfl, hbB⟩
         have HBB : Hid (Below w9.heap.size w9 wB) := Lib.hid (HBA.out.trans (hbB.mono HBA.out.size))
         have HKB := Lib.hid (HKp.out wB HBB.out)
         clear hbB))
  all_goals
    have HC := Lib.hid (HClr.out wB (HB9.out.trans (HBB.out.mono HB9.out.size)))
    clear HClr
  all_goals go_wp2_with fail
  all_goals with_reducible refine HC.out.mono ?_
  all_goals rintro e w5 ⟨⟨rfl, hg2⟩, hst2⟩
  all_goals have HSt2 : Hid (Stay p r w w5) := Lib.hid ((HSt1.out.trans (Stay.of_below HPr.out (HB9.out.trans (HBB.out.mono HB9.out.size)))).trans hst2)
  all_goals have HB2 := Lib.hid (HCl.out w5 _ FB.out FL.out (Gone.trans HG1.out (Gone.after HBs.out (HB9.out.trans (HBB.out.mono HB9.out.size)) hg2)))
  all_goals clear hg2 hst2
  all_goals go_wp2
  all_goals (try go_ret)
  all_goals exact ⟨HB2.out, HSt2.out⟩
end
end Go.Proofs.YtojmbbldehbjfaaGreat.BothT
set_option linter.unusedVariables false
namespace Go.Proofs.YtojmbbldehbjfaaGreat.Tel
open Go.RowKit Go.Proofs.YtojmbbldehbjfaaGreat.Kit Go.Proofs.YtojmbbldehbjfaaGreat.Blocks Go.Proofs.YtojmbbldehbjfaaGreat.Rlog Go.Proofs.YtojmbbldehbjfaaGreat.Ents Go.Proofs.YtojmbbldehbjfaaGreat.LogAt Go.Proofs.YtojmbbldehbjfaaGreat.Nod Go.Proofs.YtojmbbldehbjfaaGreat.NodAt Go.Proofs.YtojmbbldehbjfaaGreat.AppL Go.Proofs.YtojmbbldehbjfaaGreat.DAt Go.Proofs.YtojmbbldehbjfaaGreat.WalkI Go.Proofs.YtojmbbldehbjfaaGreat.Duo

theorem neq_hard2 (a b : Int) (w : World) : (binOp .neq 24 (.agg #[.int .u64 a, .int .i64 b]) (.agg #[.int .u64 a, .int .i64 b])).run Tryz.prog w = .ok (.bool false) w := by
  simp [binOp, Op.equal, Op.maxDepth, go_sem]
theorem neq_snap (a b c : Int) (d : ByteArray) (w : World) : (binOp .neq 26 (.agg #[.int .u64 a, .int .u64 b, .int .u64 c, .string d]) (.agg #[.int .u64 a, .int .u64 b, .int .u64 c, .string d])).run Tryz.prog w = .ok (.bool false) w := by
  simp [binOp, Op.equal, Op.maxDepth, go_sem]
section
variable {B N : Nat} {w w' : World} {p r : Nat} {m n : Nd} {K : Nat → Prop}
theorem p_status (h : Duo B w p r m n K) : Calls Tryz.prog 15 #[.pointer (some ⟨p, 0, none⟩)] w fun e w' => e = .returned (StatusV m) ∧ Below w.heap.size w w' := by
  obtain ⟨z, y, h1, h2, o, off⟩ := h.ex
  exact status_any h1
/-- The program's log, and what it tells. -/
theorem p_log (h : Duo B w p r m n K) (f : NdB N m) (hN : N ≤ 700000000) : ∃ q, ∀ W, Below w.heap.size w W → Calls Tryz.prog 16 #[.pointer (some ⟨p, 0, none⟩)] W (fun e w' => e = .returned (.pointer (some ⟨q, 0, none⟩)) ∧ W = w') ∧
    Calls Tryz.prog 17 #[.pointer (some ⟨q, 0, none⟩)] W (fun e w' => e = .returned (RlgWalkD.snapV m.g.snap) ∧ Below W.heap.size W w') ∧
    (m.g.es.length ≤ 2000 → Calls Tryz.prog 19 #[.pointer (some ⟨q, 0, none⟩), .int .u64 ((m.g.snap.idx + 1 : Nat) : Int), .int .i64 2000] W (fun e w' => ∃ A c, e = .returned (.slice A m.g.es.length c) ∧ RE w' w'.heap.size A m.g.es.length m.g.es ∧ Below W.heap.size W w')) := by
  obtain ⟨z, y, h1, h2, o, off⟩ := h.ex
  have hlog : ∀ W, Below w.heap.size w W → LogAt 89 B W z.q z.vg m.g := fun W hb => by
    have k := h1.below hb
    exact k.log
  refine ⟨z.q, fun W hb => ⟨(by
    have k := WalkD.log_any (h1.below hb)
    exact k), RlgWalkE.first_any (hlog W hb), fun hl => ?_⟩⟩
  have ht := f.top
  have hle : m.g.snap.idx + 1 < 18446744073709551616 := by
    have := f.fine.last_idx
    omega
  refine (RlgWalkF.get_any (hlog W hb) hle (by decide) (by omega)).mono ?_
  rw [Fwd.get_all f.fine hl]
  rintro e w' ⟨A, c, rfl, h3, h4, h5, h6, _⟩
  exact ⟨A, c, rfl, h3, h6⟩
/-- The document's fields. -/
theorem d_fields (h : Duo B w p r m n K) : ∃ q v, w.cell? ⟨r, 1, none⟩ = some (.int .u64 (n.term : Int)) ∧ w.cell? ⟨r, 2, none⟩ = some (.int .i64 n.vote) ∧ w.cell? ⟨r, 3, none⟩ = some (.pointer (some ⟨q, 0, none⟩)) ∧ w.cell? ⟨r, 4, none⟩ = some (.int .i64 (n.role : Int)) ∧ w.cell? ⟨r, 5, none⟩ = some (.int .i64 n.leader) ∧ w.cell? ⟨r, 6, none⟩ = some (.int .u64 (n.commit : Int)) ∧ r < w.heap.size ∧
    LogAt 60 B w q v n.g := by
  obtain ⟨z, y, h1, ⟨vs, nx, mt, fr, h2⟩, o, off⟩ := h.ex
  have q3 : w.cell? ⟨r, 3, none⟩ = some (.pointer (some ⟨y.q, 0, none⟩)) := by
    have k := DN.c3 h2
    exact k
  exact ⟨y.q, y.vg, DN.c1 h2, DN.c2 h2, q3, DN.c4 h2, DN.c5 h2, DN.c6 h2, h2.plt, h2.log⟩
end
end Go.Proofs.YtojmbbldehbjfaaGreat.Tel
