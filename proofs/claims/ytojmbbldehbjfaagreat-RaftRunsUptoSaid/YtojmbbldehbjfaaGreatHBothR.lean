/- One call of both nodes, walked. No statement is proved here. -/
import Derived.Test.YtojmbbldehbjfaaGreatGE
import Derived.Deep.RegionHeld3
set_option linter.unusedVariables false
namespace Go.Proofs.YtojmbbldehbjfaaGreat.BothR
open Go.RowKit Go.Proofs.YtojmbbldehbjfaaGreat.Kit Go.Proofs.YtojmbbldehbjfaaGreat.Blocks Go.Proofs.YtojmbbldehbjfaaGreat.Rlog Go.Proofs.YtojmbbldehbjfaaGreat.Ents Go.Proofs.YtojmbbldehbjfaaGreat.LogAt Go.Proofs.YtojmbbldehbjfaaGreat.Nod Go.Proofs.YtojmbbldehbjfaaGreat.NodAt Go.Proofs.YtojmbbldehbjfaaGreat.AppL Go.Proofs.YtojmbbldehbjfaaGreat.OpensC Go.Proofs.YtojmbbldehbjfaaGreat.Duo Go.Proofs.YtojmbbldehbjfaaGreat.Tks

section
variable {B N : Nat} {w w1 w2 : World} {p r : Nat} {m n m' n' : Nd} {K : Nat → Prop}
theorem Gone.trans {m1 n1 : Nd} (h : Gone B w p r m1 n1 K w1) (k : Gone B w1 p r m' n' K w2) : Gone B w p r m' n' K w2 := ⟨k.duo, h.since.trans k.since, h.only.trans k.only⟩
theorem Gone.close {K' : Nat → Prop} {w0 : World} (hB : B ≤ w.heap.size) (hb : Below w.heap.size w w0) (h : Gone B w0 p r m' n' K' w1) (hK : ∀ k, K k → K' k) : Gone B w p r m' n' K w1 :=
  ⟨h.duo.guard (Below.refl _ _) (fun k hk => .inl (hK k hk)) fun k hk => h.duo.klt k (hK k hk), (hb.mono hB).trans h.since, (Only.of_below hb).trans (h.only.mono fun k _ hk hK' => hk (hK k hK'))⟩
theorem Gone.after {w0 : World} (hB : B ≤ w.heap.size) (k : Below w.heap.size w w0) (h : Gone B w0 p r m' n' K w1) : Gone B w p r m' n' K w1 := ⟨h.duo, (k.mono hB).trans h.since, (Only.of_below k).trans h.only⟩
theorem neq_hard (a b : Int) (w : World) : (binOp .eql 24 (.agg #[.int .u64 a, .int .i64 b]) (.agg #[.int .u64 a, .int .i64 b])).run Tryz.prog w = .ok (.bool true) w := by
  simp [binOp, Op.equal, Op.maxDepth, go_sem]
/-- What one call of both leaves. -/
def Both (B : Nat) (w : World) (p r N T : Nat) (K : Nat → Prop) (e : Ending) (w' : World) : Prop := e = .returned (.bool true) ∧ ∃ m', NdB N m' ∧ m'.g.es.length ≤ T ∧ Gone B w p r m' m' K w'
set_option maxRecDepth 100000 in
set_option maxHeartbeats 8000000 in
theorem both_receive (h : Duo B w p r m m K) (f : NdB N m) (hN : N ≤ 600000000) {B0 : Nat} {c : Cal} (hc : CalB w B0 c) (hB : B0 ≤ B) (hk : c.kind = 0) :
    Calls Tryz.prog 14 #[.pointer (some ⟨p, 0, none⟩), .pointer (some ⟨r, 0, none⟩), .agg (callCs c).toArray] w (Both B w p r (N + c.x.es.length + 22) (m.g.es.length + c.x.es.length + 1) K) := by
  have hbase := h.base
  have hba : ∀ o, Below w.heap.size w (w.alloc o) := fun o => (Below.refl _ _).alloc (Nat.le_refl _) _
  have hsm : c.x.es.length + c.data.size + c.x.d.size + dataW c.x.es ≤ 1048576 := hc.small
  have hi0 := hc.i0
  have hi1 := hc.i1
  have hidx := hc.idx
  obtain ⟨kind, ⟨kd, fr, tt, tm, ix, pv, cm, ok, es, dd⟩, ⟨A, n, cc⟩, data, id, idx, add⟩ := c
  simp only at hk hsm hi0 hi1 hidx
  unfold callCs
  simp only
  have hcb := heap_alloc_new w (.cells #[.int .i64 kind, .int .i64 kd, .int .i64 fr, .int .i64 tt, .int .u64 (tm : Int), .int .u64 (ix : Int), .int .u64 (pv : Int), .int .u64 (cm : Int), .bool ok, .slice A n cc, .string dd, .string data, .int .i64 id, .int .u64 (idx : Int), .bool add] 49)
  obtain ⟨w0, hw0⟩ : ∃ w0, w.alloc (.cells #[.int .i64 kind, .int .i64 kd, .int .i64 fr, .int .i64 tt, .int .u64 (tm : Int), .int .u64 (ix : Int), .int .u64 (pv : Int), .int .u64 (cm : Int), .bool ok, .slice A n cc, .string dd, .string data, .int .i64 id, .int .u64 (idx : Int), .bool add] 49) = w0 := ⟨_, rfl⟩
  have hb0 : Below w.heap.size w w0 := by rw [← hw0]; exact hba _
  rw [hw0] at hcb
  have x : ∀ i u, (#[.int .i64 kind, .int .i64 kd, .int .i64 fr, .int .i64 tt, .int .u64 (tm : Int), .int .u64 (ix : Int), .int .u64 (pv : Int), .int .u64 (cm : Int), .bool ok, .slice A n cc, .string dd, .string data, .int .i64 id, .int .u64 (idx : Int), .bool add] : Array Value)[i]? = some u → w0.cell? ⟨w.heap.size, i, none⟩ = some u := fun i u hu => by rw [cell_at hcb]; exact hu
  have x0 : w0.cell? ⟨w.heap.size, 0, none⟩ = some (.int .i64 kind) := x 0 _ rfl
  have x1 : w0.cell? ⟨w.heap.size, 1, none⟩ = some (.int .i64 kd) := x 1 _ rfl
  have x2 : w0.cell? ⟨w.heap.size, 2, none⟩ = some (.int .i64 fr) := x 2 _ rfl
  have x3 : w0.cell? ⟨w.heap.size, 3, none⟩ = some (.int .i64 tt) := x 3 _ rfl
  have x4 : w0.cell? ⟨w.heap.size, 4, none⟩ = some (.int .u64 (tm : Int)) := x 4 _ rfl
  have x5 : w0.cell? ⟨w.heap.size, 5, none⟩ = some (.int .u64 (ix : Int)) := x 5 _ rfl
  have x6 : w0.cell? ⟨w.heap.size, 6, none⟩ = some (.int .u64 (pv : Int)) := x 6 _ rfl
  have x7 : w0.cell? ⟨w.heap.size, 7, none⟩ = some (.int .u64 (cm : Int)) := x 7 _ rfl
  have x8 : w0.cell? ⟨w.heap.size, 8, none⟩ = some (.bool ok) := x 8 _ rfl
  have x9 : w0.cell? ⟨w.heap.size, 9, none⟩ = some (.slice A n cc) := x 9 _ rfl
  have x10 : w0.cell? ⟨w.heap.size, 10, none⟩ = some (.string dd) := x 10 _ rfl
  have x11 : w0.cell? ⟨w.heap.size, 11, none⟩ = some (.string data) := x 11 _ rfl
  have x12 : w0.cell? ⟨w.heap.size, 12, none⟩ = some (.int .i64 id) := x 12 _ rfl
  have x13 : w0.cell? ⟨w.heap.size, 13, none⟩ = some (.int .u64 (idx : Int)) := x 13 _ rfl
  have x14 : w0.cell? ⟨w.heap.size, 14, none⟩ = some (.bool add) := x 14 _ rfl
  have hlt := lt_at hcb
  have h0 : Duo B w0 p r m m (fun k => K k ∨ k = w.heap.size) := h.guard hb0 (fun k hk => hk.imp (fun h => h) fun e => by omega) fun k hk => by
    rcases hk with hk | hk
    · exact Nat.lt_of_lt_of_le (h.klt k hk) hb0.size
    · rw [hk]; exact hlt
  have hc0 := hc.below (B' := B0) (Below.mono hb0 (by omega)) (Nat.le_refl _)
  have HX : Hid (∀ W, Only (fun k => ¬ (K k ∨ k = w.heap.size)) w0 W → ∀ i u, w0.cell? ⟨w.heap.size, i, none⟩ = some u → W.cell? ⟨w.heap.size, i, none⟩ = some u) := Lib.hid fun W ho i u hu => (ho.cell (p := ⟨w.heap.size, i, none⟩) hlt (fun e => e (.inr rfl))).trans hu
  have HCl : Hid (∀ (W : World) (M : Nd), NdB (N + es.length + 22) M → M.g.es.length ≤ m.g.es.length + es.length + 1 → Gone B w0 p r M M (fun k => K k ∨ k = w.heap.size) W → Both B w p r (N + es.length + 22) (m.g.es.length + es.length + 1) K (.returned (.bool true)) W) := Lib.hid fun W M hM hl hg => ⟨rfl, M, hM, hl, Gone.close hbase hb0 hg fun k hk => .inl hk⟩
  have HW0 := Lib.hid hw0
  have H0 := Lib.hid h0
  have HC0 := Lib.hid hc0
  have F := Lib.hid f
  have HB0 := Lib.hid hb0
  clear hw0 hcb x h0 hba h f hc hc0 hb0
  subst hk
  have hp := p_receive H0.out F.out (by omega) HC0.out hB
  have HDc : Hid (∀ W, Gone B w0 p r (receive m ⟨kd, fr, tt, tm, ix, pv, cm, ok, es, dd⟩) m (fun k => K k ∨ k = w.heap.size) W → Calls Tryz.prog 35 #[.pointer (some ⟨r, 0, none⟩), ltV ⟨kd, fr, tt, tm, ix, pv, cm, ok, es, dd⟩ ⟨A, n, cc⟩] W (PDoes B W p r (receive m ⟨kd, fr, tt, tm, ix, pv, cm, ok, es, dd⟩) (receive m ⟨kd, fr, tt, tm, ix, pv, cm, ok, es, dd⟩) (fun k => K k ∨ k = w.heap.size) (.tuple #[]))) := Lib.hid fun W hg => d_receive hg.duo F.out (by omega) (HC0.out.below (B' := B0) (hg.since.mono hB) (Nat.le_refl _)) hB
  have FB : Hid (NdB (N + es.length + 22) (receive m ⟨kd, fr, tt, tm, ix, pv, cm, ok, es, dd⟩)) := Lib.hid ((receive_b F.out (by omega) HC0.out.msg).mono (by simp only; omega))
  have FL : Hid (((receive m ⟨kd, fr, tt, tm, ix, pv, cm, ok, es, dd⟩)).g.es.length ≤ m.g.es.length + es.length + 1) := Lib.hid (Grw.receive_l F.out HC0.out.msg)
  obtain ⟨M, hM⟩ : ∃ M, receive m ⟨kd, fr, tt, tm, ix, pv, cm, ok, es, dd⟩ = M := ⟨_, rfl⟩
  simp only at hp
  rw [hM] at hp HDc FB FL
  unfold ltV at hp HDc
  simp only at hp HDc
  have HP := Lib.hid hp
  clear hp hM
  go_enter Tryz.func14, Tryz.ntmps14
  go_wp2_with fail
  rw [HW0.out]
  go_wp2_with fail
  with_reducible refine HP.out.mono ?_
  rintro e w1 ⟨rfl, hg1⟩
  have hx := HX.out w1 hg1.only
  have y0 := hx _ _ x0
  have y1 := hx _ _ x1
  have y2 := hx _ _ x2
  have y3 := hx _ _ x3
  have y4 := hx _ _ x4
  have y5 := hx _ _ x5
  have y6 := hx _ _ x6
  have y7 := hx _ _ x7
  have y8 := hx _ _ x8
  have y9 := hx _ _ x9
  have y10 := hx _ _ x10
  have y11 := hx _ _ x11
  have y12 := hx _ _ x12
  have y13 := hx _ _ x13
  have y14 := hx _ _ x14
  have hlt1 := Nat.lt_of_lt_of_le hlt hg1.since.size
  have hd := HDc.out w1 hg1
  have HD := Lib.hid hd
  have HG1 := Lib.hid hg1
  clear hg1 hx hd HP HDc x0 x1 x2 x3 x4 x5 x6 x7 x8 x9 x10 x11 x12 x13 x14
  as_aux_lemma =>
  go_wp2_with fail
  with_reducible refine HD.out.mono ?_
  rintro e w2 ⟨rfl, hg2⟩
  have HB2 := Lib.hid (HCl.out w2 _ FB.out FL.out (Gone.trans HG1.out hg2))
  clear hg2
  go_wp2
  (try go_ret)
  exact HB2.out
set_option maxRecDepth 100000 in
set_option maxHeartbeats 8000000 in
theorem both_timeout (h : Duo B w p r m m K) (f : NdB N m) (hN : N ≤ 600000000) {B0 : Nat} {c : Cal} (hc : CalB w B0 c) (hB : B0 ≤ B) (hk : c.kind = 1) :
    Calls Tryz.prog 14 #[.pointer (some ⟨p, 0, none⟩), .pointer (some ⟨r, 0, none⟩), .agg (callCs c).toArray] w (Both B w p r (N + c.x.es.length + 22) (m.g.es.length + c.x.es.length + 1) K) := by
  have hbase := h.base
  have hba : ∀ o, Below w.heap.size w (w.alloc o) := fun o => (Below.refl _ _).alloc (Nat.le_refl _) _
  have hsm : c.x.es.length + c.data.size + c.x.d.size + dataW c.x.es ≤ 1048576 := hc.small
  have hi0 := hc.i0
  have hi1 := hc.i1
  have hidx := hc.idx
  obtain ⟨kind, ⟨kd, fr, tt, tm, ix, pv, cm, ok, es, dd⟩, ⟨A, n, cc⟩, data, id, idx, add⟩ := c
  simp only at hk hsm hi0 hi1 hidx
  unfold callCs
  simp only
  have hcb := heap_alloc_new w (.cells #[.int .i64 kind, .int .i64 kd, .int .i64 fr, .int .i64 tt, .int .u64 (tm : Int), .int .u64 (ix : Int), .int .u64 (pv : Int), .int .u64 (cm : Int), .bool ok, .slice A n cc, .string dd, .string data, .int .i64 id, .int .u64 (idx : Int), .bool add] 49)
  obtain ⟨w0, hw0⟩ : ∃ w0, w.alloc (.cells #[.int .i64 kind, .int .i64 kd, .int .i64 fr, .int .i64 tt, .int .u64 (tm : Int), .int .u64 (ix : Int), .int .u64 (pv : Int), .int .u64 (cm : Int), .bool ok, .slice A n cc, .string dd, .string data, .int .i64 id, .int .u64 (idx : Int), .bool add] 49) = w0 := ⟨_, rfl⟩
  have hb0 : Below w.heap.size w w0 := by rw [← hw0]; exact hba _
  rw [hw0] at hcb
  have x : ∀ i u, (#[.int .i64 kind, .int .i64 kd, .int .i64 fr, .int .i64 tt, .int .u64 (tm : Int), .int .u64 (ix : Int), .int .u64 (pv : Int), .int .u64 (cm : Int), .bool ok, .slice A n cc, .string dd, .string data, .int .i64 id, .int .u64 (idx : Int), .bool add] : Array Value)[i]? = some u → w0.cell? ⟨w.heap.size, i, none⟩ = some u := fun i u hu => by rw [cell_at hcb]; exact hu
  have x0 : w0.cell? ⟨w.heap.size, 0, none⟩ = some (.int .i64 kind) := x 0 _ rfl
  have x1 : w0.cell? ⟨w.heap.size, 1, none⟩ = some (.int .i64 kd) := x 1 _ rfl
  have x2 : w0.cell? ⟨w.heap.size, 2, none⟩ = some (.int .i64 fr) := x 2 _ rfl
  have x3 : w0.cell? ⟨w.heap.size, 3, none⟩ = some (.int .i64 tt) := x 3 _ rfl
  have x4 : w0.cell? ⟨w.heap.size, 4, none⟩ = some (.int .u64 (tm : Int)) := x 4 _ rfl
  have x5 : w0.cell? ⟨w.heap.size, 5, none⟩ = some (.int .u64 (ix : Int)) := x 5 _ rfl
  have x6 : w0.cell? ⟨w.heap.size, 6, none⟩ = some (.int .u64 (pv : Int)) := x 6 _ rfl
  have x7 : w0.cell? ⟨w.heap.size, 7, none⟩ = some (.int .u64 (cm : Int)) := x 7 _ rfl
  have x8 : w0.cell? ⟨w.heap.size, 8, none⟩ = some (.bool ok) := x 8 _ rfl
  have x9 : w0.cell? ⟨w.heap.size, 9, none⟩ = some (.slice A n cc) := x 9 _ rfl
  have x10 : w0.cell? ⟨w.heap.size, 10, none⟩ = some (.string dd) := x 10 _ rfl
  have x11 : w0.cell? ⟨w.heap.size, 11, none⟩ = some (.string data) := x 11 _ rfl
  have x12 : w0.cell? ⟨w.heap.size, 12, none⟩ = some (.int .i64 id) := x 12 _ rfl
  have x13 : w0.cell? ⟨w.heap.size, 13, none⟩ = some (.int .u64 (idx : Int)) := x 13 _ rfl
  have x14 : w0.cell? ⟨w.heap.size, 14, none⟩ = some (.bool add) := x 14 _ rfl
  have hlt := lt_at hcb
  have h0 : Duo B w0 p r m m (fun k => K k ∨ k = w.heap.size) := h.guard hb0 (fun k hk => hk.imp (fun h => h) fun e => by omega) fun k hk => by
    rcases hk with hk | hk
    · exact Nat.lt_of_lt_of_le (h.klt k hk) hb0.size
    · rw [hk]; exact hlt
  have hc0 := hc.below (B' := B0) (Below.mono hb0 (by omega)) (Nat.le_refl _)
  have HX : Hid (∀ W, Only (fun k => ¬ (K k ∨ k = w.heap.size)) w0 W → ∀ i u, w0.cell? ⟨w.heap.size, i, none⟩ = some u → W.cell? ⟨w.heap.size, i, none⟩ = some u) := Lib.hid fun W ho i u hu => (ho.cell (p := ⟨w.heap.size, i, none⟩) hlt (fun e => e (.inr rfl))).trans hu
  have HCl : Hid (∀ (W : World) (M : Nd), NdB (N + es.length + 22) M → M.g.es.length ≤ m.g.es.length + es.length + 1 → Gone B w0 p r M M (fun k => K k ∨ k = w.heap.size) W → Both B w p r (N + es.length + 22) (m.g.es.length + es.length + 1) K (.returned (.bool true)) W) := Lib.hid fun W M hM hl hg => ⟨rfl, M, hM, hl, Gone.close hbase hb0 hg fun k hk => .inl hk⟩
  have HW0 := Lib.hid hw0
  have H0 := Lib.hid h0
  have HC0 := Lib.hid hc0
  have F := Lib.hid f
  have HB0 := Lib.hid hb0
  clear hw0 hcb x h0 hba h f hc hc0 hb0
  subst hk
  have hp := p_timeout H0.out F.out (by omega)
  have HDc : Hid (∀ W, Gone B w0 p r (timeout m) m (fun k => K k ∨ k = w.heap.size) W → Calls Tryz.prog 36 #[.pointer (some ⟨r, 0, none⟩)] W (PDoes B W p r (timeout m) (timeout m) (fun k => K k ∨ k = w.heap.size) (.tuple #[]))) := Lib.hid fun W hg => d_timeout hg.duo F.out (by omega)
  have FB : Hid (NdB (N + es.length + 22) (timeout m)) := Lib.hid ((timeout_b F.out (by omega)).mono (by omega))
  have FL : Hid (((timeout m)).g.es.length ≤ m.g.es.length + es.length + 1) := Lib.hid (Nat.le_trans (Grw.timeout_l m) (by omega))
  obtain ⟨M, hM⟩ : ∃ M, timeout m = M := ⟨_, rfl⟩
  rw [hM] at hp HDc FB FL
  have HP := Lib.hid hp
  clear hp hM
  go_enter Tryz.func14, Tryz.ntmps14
  go_wp2_with fail
  rw [HW0.out]
  go_wp2_with fail
  with_reducible refine HP.out.mono ?_
  rintro e w1 ⟨rfl, hg1⟩
  have hx := HX.out w1 hg1.only
  have y0 := hx _ _ x0
  have y1 := hx _ _ x1
  have y2 := hx _ _ x2
  have y3 := hx _ _ x3
  have y4 := hx _ _ x4
  have y5 := hx _ _ x5
  have y6 := hx _ _ x6
  have y7 := hx _ _ x7
  have y8 := hx _ _ x8
  have y9 := hx _ _ x9
  have y10 := hx _ _ x10
  have y11 := hx _ _ x11
  have y12 := hx _ _ x12
  have y13 := hx _ _ x13
  have y14 := hx _ _ x14
  have hlt1 := Nat.lt_of_lt_of_le hlt hg1.since.size
  have hd := HDc.out w1 hg1
  have HD := Lib.hid hd
  have HG1 := Lib.hid hg1
  clear hg1 hx hd HP HDc x0 x1 x2 x3 x4 x5 x6 x7 x8 x9 x10 x11 x12 x13 x14
  as_aux_lemma =>
  go_wp2_with fail
  with_reducible refine HD.out.mono ?_
  rintro e w2 ⟨rfl, hg2⟩
  have HB2 := Lib.hid (HCl.out w2 _ FB.out FL.out (Gone.trans HG1.out hg2))
  clear hg2
  go_wp2
  (try go_ret)
  exact HB2.out
set_option maxRecDepth 100000 in
set_option maxHeartbeats 8000000 in
theorem both_beat (h : Duo B w p r m m K) (f : NdB N m) (hN : N ≤ 600000000) {B0 : Nat} {c : Cal} (hc : CalB w B0 c) (hB : B0 ≤ B) (hk : c.kind = 2) :
    Calls Tryz.prog 14 #[.pointer (some ⟨p, 0, none⟩), .pointer (some ⟨r, 0, none⟩), .agg (callCs c).toArray] w (Both B w p r (N + c.x.es.length + 22) (m.g.es.length + c.x.es.length + 1) K) := by
  have hbase := h.base
  have hba : ∀ o, Below w.heap.size w (w.alloc o) := fun o => (Below.refl _ _).alloc (Nat.le_refl _) _
  have hsm : c.x.es.length + c.data.size + c.x.d.size + dataW c.x.es ≤ 1048576 := hc.small
  have hi0 := hc.i0
  have hi1 := hc.i1
  have hidx := hc.idx
  obtain ⟨kind, ⟨kd, fr, tt, tm, ix, pv, cm, ok, es, dd⟩, ⟨A, n, cc⟩, data, id, idx, add⟩ := c
  simp only at hk hsm hi0 hi1 hidx
  unfold callCs
  simp only
  have hcb := heap_alloc_new w (.cells #[.int .i64 kind, .int .i64 kd, .int .i64 fr, .int .i64 tt, .int .u64 (tm : Int), .int .u64 (ix : Int), .int .u64 (pv : Int), .int .u64 (cm : Int), .bool ok, .slice A n cc, .string dd, .string data, .int .i64 id, .int .u64 (idx : Int), .bool add] 49)
  obtain ⟨w0, hw0⟩ : ∃ w0, w.alloc (.cells #[.int .i64 kind, .int .i64 kd, .int .i64 fr, .int .i64 tt, .int .u64 (tm : Int), .int .u64 (ix : Int), .int .u64 (pv : Int), .int .u64 (cm : Int), .bool ok, .slice A n cc, .string dd, .string data, .int .i64 id, .int .u64 (idx : Int), .bool add] 49) = w0 := ⟨_, rfl⟩
  have hb0 : Below w.heap.size w w0 := by rw [← hw0]; exact hba _
  rw [hw0] at hcb
  have x : ∀ i u, (#[.int .i64 kind, .int .i64 kd, .int .i64 fr, .int .i64 tt, .int .u64 (tm : Int), .int .u64 (ix : Int), .int .u64 (pv : Int), .int .u64 (cm : Int), .bool ok, .slice A n cc, .string dd, .string data, .int .i64 id, .int .u64 (idx : Int), .bool add] : Array Value)[i]? = some u → w0.cell? ⟨w.heap.size, i, none⟩ = some u := fun i u hu => by rw [cell_at hcb]; exact hu
  have x0 : w0.cell? ⟨w.heap.size, 0, none⟩ = some (.int .i64 kind) := x 0 _ rfl
  have x1 : w0.cell? ⟨w.heap.size, 1, none⟩ = some (.int .i64 kd) := x 1 _ rfl
  have x2 : w0.cell? ⟨w.heap.size, 2, none⟩ = some (.int .i64 fr) := x 2 _ rfl
  have x3 : w0.cell? ⟨w.heap.size, 3, none⟩ = some (.int .i64 tt) := x 3 _ rfl
  have x4 : w0.cell? ⟨w.heap.size, 4, none⟩ = some (.int .u64 (tm : Int)) := x 4 _ rfl
  have x5 : w0.cell? ⟨w.heap.size, 5, none⟩ = some (.int .u64 (ix : Int)) := x 5 _ rfl
  have x6 : w0.cell? ⟨w.heap.size, 6, none⟩ = some (.int .u64 (pv : Int)) := x 6 _ rfl
  have x7 : w0.cell? ⟨w.heap.size, 7, none⟩ = some (.int .u64 (cm : Int)) := x 7 _ rfl
  have x8 : w0.cell? ⟨w.heap.size, 8, none⟩ = some (.bool ok) := x 8 _ rfl
  have x9 : w0.cell? ⟨w.heap.size, 9, none⟩ = some (.slice A n cc) := x 9 _ rfl
  have x10 : w0.cell? ⟨w.heap.size, 10, none⟩ = some (.string dd) := x 10 _ rfl
  have x11 : w0.cell? ⟨w.heap.size, 11, none⟩ = some (.string data) := x 11 _ rfl
  have x12 : w0.cell? ⟨w.heap.size, 12, none⟩ = some (.int .i64 id) := x 12 _ rfl
  have x13 : w0.cell? ⟨w.heap.size, 13, none⟩ = some (.int .u64 (idx : Int)) := x 13 _ rfl
  have x14 : w0.cell? ⟨w.heap.size, 14, none⟩ = some (.bool add) := x 14 _ rfl
  have hlt := lt_at hcb
  have h0 : Duo B w0 p r m m (fun k => K k ∨ k = w.heap.size) := h.guard hb0 (fun k hk => hk.imp (fun h => h) fun e => by omega) fun k hk => by
    rcases hk with hk | hk
    · exact Nat.lt_of_lt_of_le (h.klt k hk) hb0.size
    · rw [hk]; exact hlt
  have hc0 := hc.below (B' := B0) (Below.mono hb0 (by omega)) (Nat.le_refl _)
  have HX : Hid (∀ W, Only (fun k => ¬ (K k ∨ k = w.heap.size)) w0 W → ∀ i u, w0.cell? ⟨w.heap.size, i, none⟩ = some u → W.cell? ⟨w.heap.size, i, none⟩ = some u) := Lib.hid fun W ho i u hu => (ho.cell (p := ⟨w.heap.size, i, none⟩) hlt (fun e => e (.inr rfl))).trans hu
  have HCl : Hid (∀ (W : World) (M : Nd), NdB (N + es.length + 22) M → M.g.es.length ≤ m.g.es.length + es.length + 1 → Gone B w0 p r M M (fun k => K k ∨ k = w.heap.size) W → Both B w p r (N + es.length + 22) (m.g.es.length + es.length + 1) K (.returned (.bool true)) W) := Lib.hid fun W M hM hl hg => ⟨rfl, M, hM, hl, Gone.close hbase hb0 hg fun k hk => .inl hk⟩
  have HW0 := Lib.hid hw0
  have H0 := Lib.hid h0
  have HC0 := Lib.hid hc0
  have F := Lib.hid f
  have HB0 := Lib.hid hb0
  clear hw0 hcb x h0 hba h f hc hc0 hb0
  subst hk
  have hp := p_beat H0.out F.out (by omega)
  have HDc : Hid (∀ W, Gone B w0 p r (beat m) m (fun k => K k ∨ k = w.heap.size) W → Calls Tryz.prog 37 #[.pointer (some ⟨r, 0, none⟩)] W (PDoes B W p r (beat m) (beat m) (fun k => K k ∨ k = w.heap.size) (.tuple #[]))) := Lib.hid fun W hg => d_beat hg.duo F.out (by omega)
  have FB : Hid (NdB (N + es.length + 22) (beat m)) := Lib.hid ((beat_b F.out).mono (by omega))
  have FL : Hid (((beat m)).g.es.length ≤ m.g.es.length + es.length + 1) := Lib.hid ((by rw [Grw.beat_g]; omega))
  obtain ⟨M, hM⟩ : ∃ M, beat m = M := ⟨_, rfl⟩
  rw [hM] at hp HDc FB FL
  have HP := Lib.hid hp
  clear hp hM
  go_enter Tryz.func14, Tryz.ntmps14
  go_wp2_with fail
  rw [HW0.out]
  go_wp2_with fail
  with_reducible refine HP.out.mono ?_
  rintro e w1 ⟨rfl, hg1⟩
  have hx := HX.out w1 hg1.only
  have y0 := hx _ _ x0
  have y1 := hx _ _ x1
  have y2 := hx _ _ x2
  have y3 := hx _ _ x3
  have y4 := hx _ _ x4
  have y5 := hx _ _ x5
  have y6 := hx _ _ x6
  have y7 := hx _ _ x7
  have y8 := hx _ _ x8
  have y9 := hx _ _ x9
  have y10 := hx _ _ x10
  have y11 := hx _ _ x11
  have y12 := hx _ _ x12
  have y13 := hx _ _ x13
  have y14 := hx _ _ x14
  have hlt1 := Nat.lt_of_lt_of_le hlt hg1.since.size
  have hd := HDc.out w1 hg1
  have HD := Lib.hid hd
  have HG1 := Lib.hid hg1
  clear hg1 hx hd HP HDc x0 x1 x2 x3 x4 x5 x6 x7 x8 x9 x10 x11 x12 x13 x14
  as_aux_lemma =>
  go_wp2_with fail
  with_reducible refine HD.out.mono ?_
  rintro e w2 ⟨rfl, hg2⟩
  have HB2 := Lib.hid (HCl.out w2 _ FB.out FL.out (Gone.trans HG1.out hg2))
  clear hg2
  go_wp2
  (try go_ret)
  exact HB2.out
set_option maxRecDepth 100000 in
set_option maxHeartbeats 8000000 in
theorem both_propose (h : Duo B w p r m m K) (f : NdB N m) (hN : N ≤ 600000000) {B0 : Nat} {c : Cal} (hc : CalB w B0 c) (hB : B0 ≤ B) (hk : c.kind = 3) :
    Calls Tryz.prog 14 #[.pointer (some ⟨p, 0, none⟩), .pointer (some ⟨r, 0, none⟩), .agg (callCs c).toArray] w (Both B w p r (N + c.x.es.length + 22) (m.g.es.length + c.x.es.length + 1) K) := by
  have hbase := h.base
  have hba : ∀ o, Below w.heap.size w (w.alloc o) := fun o => (Below.refl _ _).alloc (Nat.le_refl _) _
  have hsm : c.x.es.length + c.data.size + c.x.d.size + dataW c.x.es ≤ 1048576 := hc.small
  have hi0 := hc.i0
  have hi1 := hc.i1
  have hidx := hc.idx
  obtain ⟨kind, ⟨kd, fr, tt, tm, ix, pv, cm, ok, es, dd⟩, ⟨A, n, cc⟩, data, id, idx, add⟩ := c
  simp only at hk hsm hi0 hi1 hidx
  unfold callCs
  simp only
  have hcb := heap_alloc_new w (.cells #[.int .i64 kind, .int .i64 kd, .int .i64 fr, .int .i64 tt, .int .u64 (tm : Int), .int .u64 (ix : Int), .int .u64 (pv : Int), .int .u64 (cm : Int), .bool ok, .slice A n cc, .string dd, .string data, .int .i64 id, .int .u64 (idx : Int), .bool add] 49)
  obtain ⟨w0, hw0⟩ : ∃ w0, w.alloc (.cells #[.int .i64 kind, .int .i64 kd, .int .i64 fr, .int .i64 tt, .int .u64 (tm : Int), .int .u64 (ix : Int), .int .u64 (pv : Int), .int .u64 (cm : Int), .bool ok, .slice A n cc, .string dd, .string data, .int .i64 id, .int .u64 (idx : Int), .bool add] 49) = w0 := ⟨_, rfl⟩
  have hb0 : Below w.heap.size w w0 := by rw [← hw0]; exact hba _
  rw [hw0] at hcb
  have x : ∀ i u, (#[.int .i64 kind, .int .i64 kd, .int .i64 fr, .int .i64 tt, .int .u64 (tm : Int), .int .u64 (ix : Int), .int .u64 (pv : Int), .int .u64 (cm : Int), .bool ok, .slice A n cc, .string dd, .string data, .int .i64 id, .int .u64 (idx : Int), .bool add] : Array Value)[i]? = some u → w0.cell? ⟨w.heap.size, i, none⟩ = some u := fun i u hu => by rw [cell_at hcb]; exact hu
  have x0 : w0.cell? ⟨w.heap.size, 0, none⟩ = some (.int .i64 kind) := x 0 _ rfl
  have x1 : w0.cell? ⟨w.heap.size, 1, none⟩ = some (.int .i64 kd) := x 1 _ rfl
  have x2 : w0.cell? ⟨w.heap.size, 2, none⟩ = some (.int .i64 fr) := x 2 _ rfl
  have x3 : w0.cell? ⟨w.heap.size, 3, none⟩ = some (.int .i64 tt) := x 3 _ rfl
  have x4 : w0.cell? ⟨w.heap.size, 4, none⟩ = some (.int .u64 (tm : Int)) := x 4 _ rfl
  have x5 : w0.cell? ⟨w.heap.size, 5, none⟩ = some (.int .u64 (ix : Int)) := x 5 _ rfl
  have x6 : w0.cell? ⟨w.heap.size, 6, none⟩ = some (.int .u64 (pv : Int)) := x 6 _ rfl
  have x7 : w0.cell? ⟨w.heap.size, 7, none⟩ = some (.int .u64 (cm : Int)) := x 7 _ rfl
  have x8 : w0.cell? ⟨w.heap.size, 8, none⟩ = some (.bool ok) := x 8 _ rfl
  have x9 : w0.cell? ⟨w.heap.size, 9, none⟩ = some (.slice A n cc) := x 9 _ rfl
  have x10 : w0.cell? ⟨w.heap.size, 10, none⟩ = some (.string dd) := x 10 _ rfl
  have x11 : w0.cell? ⟨w.heap.size, 11, none⟩ = some (.string data) := x 11 _ rfl
  have x12 : w0.cell? ⟨w.heap.size, 12, none⟩ = some (.int .i64 id) := x 12 _ rfl
  have x13 : w0.cell? ⟨w.heap.size, 13, none⟩ = some (.int .u64 (idx : Int)) := x 13 _ rfl
  have x14 : w0.cell? ⟨w.heap.size, 14, none⟩ = some (.bool add) := x 14 _ rfl
  have hlt := lt_at hcb
  have h0 : Duo B w0 p r m m (fun k => K k ∨ k = w.heap.size) := h.guard hb0 (fun k hk => hk.imp (fun h => h) fun e => by omega) fun k hk => by
    rcases hk with hk | hk
    · exact Nat.lt_of_lt_of_le (h.klt k hk) hb0.size
    · rw [hk]; exact hlt
  have hc0 := hc.below (B' := B0) (Below.mono hb0 (by omega)) (Nat.le_refl _)
  have HX : Hid (∀ W, Only (fun k => ¬ (K k ∨ k = w.heap.size)) w0 W → ∀ i u, w0.cell? ⟨w.heap.size, i, none⟩ = some u → W.cell? ⟨w.heap.size, i, none⟩ = some u) := Lib.hid fun W ho i u hu => (ho.cell (p := ⟨w.heap.size, i, none⟩) hlt (fun e => e (.inr rfl))).trans hu
  have HCl : Hid (∀ (W : World) (M : Nd), NdB (N + es.length + 22) M → M.g.es.length ≤ m.g.es.length + es.length + 1 → Gone B w0 p r M M (fun k => K k ∨ k = w.heap.size) W → Both B w p r (N + es.length + 22) (m.g.es.length + es.length + 1) K (.returned (.bool true)) W) := Lib.hid fun W M hM hl hg => ⟨rfl, M, hM, hl, Gone.close hbase hb0 hg fun k hk => .inl hk⟩
  have HW0 := Lib.hid hw0
  have H0 := Lib.hid h0
  have HC0 := Lib.hid hc0
  have F := Lib.hid f
  have HB0 := Lib.hid hb0
  clear hw0 hcb x h0 hba h f hc hc0 hb0
  subst hk
  have hp := p_propose H0.out F.out (by omega) data (by omega)
  have FB : Hid (NdB (N + es.length + 22) (propose m data).2) := Lib.hid ((propose_b F.out (by omega) data (by omega)).mono (by omega))
  have FL : Hid (((propose m data).2).g.es.length ≤ m.g.es.length + es.length + 1) := Lib.hid (Nat.le_trans (Grw.propose_l m data) (by omega))
  have HDc : Hid (∀ W, Gone B w0 p r (propose m data).2 m (fun k => K k ∨ k = w.heap.size) W → Calls Tryz.prog 38 #[.pointer (some ⟨r, 0, none⟩), .string data] W (PDoes B W p r (propose m data).2 (propose m data).2 (fun k => K k ∨ k = w.heap.size) (.tuple #[.int .u64 ((propose m data).1.1 : Int), .int .i64 (propose m data).1.2]))) := Lib.hid fun W hg => d_propose hg.duo F.out (by omega) data (by omega)
  obtain ⟨⟨⟨V, E⟩, M⟩, hM⟩ : ∃ R, propose m data = R := ⟨_, rfl⟩
  rw [hM] at hp HDc FB FL
  simp only at hp HDc FB FL
  have HP := Lib.hid hp
  clear hp hM
  go_enter Tryz.func14, Tryz.ntmps14
  go_wp2_with fail
  rw [HW0.out]
  go_wp2_with fail
  with_reducible refine HP.out.mono ?_
  rintro e w1 ⟨rfl, hg1⟩
  have hx := HX.out w1 hg1.only
  have y0 := hx _ _ x0
  have y1 := hx _ _ x1
  have y2 := hx _ _ x2
  have y3 := hx _ _ x3
  have y4 := hx _ _ x4
  have y5 := hx _ _ x5
  have y6 := hx _ _ x6
  have y7 := hx _ _ x7
  have y8 := hx _ _ x8
  have y9 := hx _ _ x9
  have y10 := hx _ _ x10
  have y11 := hx _ _ x11
  have y12 := hx _ _ x12
  have y13 := hx _ _ x13
  have y14 := hx _ _ x14
  have hlt1 := Nat.lt_of_lt_of_le hlt hg1.since.size
  have hd := HDc.out w1 hg1
  have HD := Lib.hid hd
  have HG1 := Lib.hid hg1
  clear hg1 hx hd HP HDc x0 x1 x2 x3 x4 x5 x6 x7 x8 x9 x10 x11 x12 x13 x14
  as_aux_lemma =>
  go_wp2_with fail
  with_reducible refine HD.out.mono ?_
  rintro e w2 ⟨rfl, hg2⟩
  have HB2 := Lib.hid (HCl.out w2 _ FB.out FL.out (Gone.trans HG1.out hg2))
  clear hg2
  go_wp2
  (try go_ret)
  exact HB2.out
set_option maxRecDepth 100000 in
set_option maxHeartbeats 8000000 in
theorem both_change (h : Duo B w p r m m K) (f : NdB N m) (hN : N ≤ 600000000) {B0 : Nat} {c : Cal} (hc : CalB w B0 c) (hB : B0 ≤ B) (hk : c.kind = 4) :
    Calls Tryz.prog 14 #[.pointer (some ⟨p, 0, none⟩), .pointer (some ⟨r, 0, none⟩), .agg (callCs c).toArray] w (Both B w p r (N + c.x.es.length + 22) (m.g.es.length + c.x.es.length + 1) K) := by
  have hbase := h.base
  have hba : ∀ o, Below w.heap.size w (w.alloc o) := fun o => (Below.refl _ _).alloc (Nat.le_refl _) _
  have hsm : c.x.es.length + c.data.size + c.x.d.size + dataW c.x.es ≤ 1048576 := hc.small
  have hi0 := hc.i0
  have hi1 := hc.i1
  have hidx := hc.idx
  obtain ⟨kind, ⟨kd, fr, tt, tm, ix, pv, cm, ok, es, dd⟩, ⟨A, n, cc⟩, data, id, idx, add⟩ := c
  simp only at hk hsm hi0 hi1 hidx
  unfold callCs
  simp only
  have hcb := heap_alloc_new w (.cells #[.int .i64 kind, .int .i64 kd, .int .i64 fr, .int .i64 tt, .int .u64 (tm : Int), .int .u64 (ix : Int), .int .u64 (pv : Int), .int .u64 (cm : Int), .bool ok, .slice A n cc, .string dd, .string data, .int .i64 id, .int .u64 (idx : Int), .bool add] 49)
  obtain ⟨w0, hw0⟩ : ∃ w0, w.alloc (.cells #[.int .i64 kind, .int .i64 kd, .int .i64 fr, .int .i64 tt, .int .u64 (tm : Int), .int .u64 (ix : Int), .int .u64 (pv : Int), .int .u64 (cm : Int), .bool ok, .slice A n cc, .string dd, .string data, .int .i64 id, .int .u64 (idx : Int), .bool add] 49) = w0 := ⟨_, rfl⟩
  have hb0 : Below w.heap.size w w0 := by rw [← hw0]; exact hba _
  rw [hw0] at hcb
  have x : ∀ i u, (#[.int .i64 kind, .int .i64 kd, .int .i64 fr, .int .i64 tt, .int .u64 (tm : Int), .int .u64 (ix : Int), .int .u64 (pv : Int), .int .u64 (cm : Int), .bool ok, .slice A n cc, .string dd, .string data, .int .i64 id, .int .u64 (idx : Int), .bool add] : Array Value)[i]? = some u → w0.cell? ⟨w.heap.size, i, none⟩ = some u := fun i u hu => by rw [cell_at hcb]; exact hu
  have x0 : w0.cell? ⟨w.heap.size, 0, none⟩ = some (.int .i64 kind) := x 0 _ rfl
  have x1 : w0.cell? ⟨w.heap.size, 1, none⟩ = some (.int .i64 kd) := x 1 _ rfl
  have x2 : w0.cell? ⟨w.heap.size, 2, none⟩ = some (.int .i64 fr) := x 2 _ rfl
  have x3 : w0.cell? ⟨w.heap.size, 3, none⟩ = some (.int .i64 tt) := x 3 _ rfl
  have x4 : w0.cell? ⟨w.heap.size, 4, none⟩ = some (.int .u64 (tm : Int)) := x 4 _ rfl
  have x5 : w0.cell? ⟨w.heap.size, 5, none⟩ = some (.int .u64 (ix : Int)) := x 5 _ rfl
  have x6 : w0.cell? ⟨w.heap.size, 6, none⟩ = some (.int .u64 (pv : Int)) := x 6 _ rfl
  have x7 : w0.cell? ⟨w.heap.size, 7, none⟩ = some (.int .u64 (cm : Int)) := x 7 _ rfl
  have x8 : w0.cell? ⟨w.heap.size, 8, none⟩ = some (.bool ok) := x 8 _ rfl
  have x9 : w0.cell? ⟨w.heap.size, 9, none⟩ = some (.slice A n cc) := x 9 _ rfl
  have x10 : w0.cell? ⟨w.heap.size, 10, none⟩ = some (.string dd) := x 10 _ rfl
  have x11 : w0.cell? ⟨w.heap.size, 11, none⟩ = some (.string data) := x 11 _ rfl
  have x12 : w0.cell? ⟨w.heap.size, 12, none⟩ = some (.int .i64 id) := x 12 _ rfl
  have x13 : w0.cell? ⟨w.heap.size, 13, none⟩ = some (.int .u64 (idx : Int)) := x 13 _ rfl
  have x14 : w0.cell? ⟨w.heap.size, 14, none⟩ = some (.bool add) := x 14 _ rfl
  have hlt := lt_at hcb
  have h0 : Duo B w0 p r m m (fun k => K k ∨ k = w.heap.size) := h.guard hb0 (fun k hk => hk.imp (fun h => h) fun e => by omega) fun k hk => by
    rcases hk with hk | hk
    · exact Nat.lt_of_lt_of_le (h.klt k hk) hb0.size
    · rw [hk]; exact hlt
  have hc0 := hc.below (B' := B0) (Below.mono hb0 (by omega)) (Nat.le_refl _)
  have HX : Hid (∀ W, Only (fun k => ¬ (K k ∨ k = w.heap.size)) w0 W → ∀ i u, w0.cell? ⟨w.heap.size, i, none⟩ = some u → W.cell? ⟨w.heap.size, i, none⟩ = some u) := Lib.hid fun W ho i u hu => (ho.cell (p := ⟨w.heap.size, i, none⟩) hlt (fun e => e (.inr rfl))).trans hu
  have HCl : Hid (∀ (W : World) (M : Nd), NdB (N + es.length + 22) M → M.g.es.length ≤ m.g.es.length + es.length + 1 → Gone B w0 p r M M (fun k => K k ∨ k = w.heap.size) W → Both B w p r (N + es.length + 22) (m.g.es.length + es.length + 1) K (.returned (.bool true)) W) := Lib.hid fun W M hM hl hg => ⟨rfl, M, hM, hl, Gone.close hbase hb0 hg fun k hk => .inl hk⟩
  have HW0 := Lib.hid hw0
  have H0 := Lib.hid h0
  have HC0 := Lib.hid hc0
  have F := Lib.hid f
  have HB0 := Lib.hid hb0
  clear hw0 hcb x h0 hba h f hc hc0 hb0
  subst hk
  have hp := p_change H0.out F.out (by omega) add id hi0 hi1
  have FB : Hid (NdB (N + es.length + 22) (changes m add id).2) := Lib.hid ((changes_b F.out (by omega) add id).mono (by omega))
  have FL : Hid (((changes m add id).2).g.es.length ≤ m.g.es.length + es.length + 1) := Lib.hid (Nat.le_trans (Grw.changes_l m add id) (by omega))
  have HDc : Hid (∀ W, Gone B w0 p r (changes m add id).2 m (fun k => K k ∨ k = w.heap.size) W → Calls Tryz.prog 39 #[.pointer (some ⟨r, 0, none⟩), .bool add, .int .i64 id] W (PDoes B W p r (changes m add id).2 (changes m add id).2 (fun k => K k ∨ k = w.heap.size) (.tuple #[.int .u64 ((changes m add id).1.1 : Int), .int .i64 (changes m add id).1.2]))) := Lib.hid fun W hg => d_change hg.duo F.out (by omega) add id hi0 hi1
  obtain ⟨⟨⟨V, E⟩, M⟩, hM⟩ : ∃ R, changes m add id = R := ⟨_, rfl⟩
  rw [hM] at hp HDc FB FL
  simp only at hp HDc FB FL
  have HP := Lib.hid hp
  clear hp hM
  go_enter Tryz.func14, Tryz.ntmps14
  go_wp2_with fail
  rw [HW0.out]
  go_wp2_with fail
  with_reducible refine HP.out.mono ?_
  rintro e w1 ⟨rfl, hg1⟩
  have hx := HX.out w1 hg1.only
  have y0 := hx _ _ x0
  have y1 := hx _ _ x1
  have y2 := hx _ _ x2
  have y3 := hx _ _ x3
  have y4 := hx _ _ x4
  have y5 := hx _ _ x5
  have y6 := hx _ _ x6
  have y7 := hx _ _ x7
  have y8 := hx _ _ x8
  have y9 := hx _ _ x9
  have y10 := hx _ _ x10
  have y11 := hx _ _ x11
  have y12 := hx _ _ x12
  have y13 := hx _ _ x13
  have y14 := hx _ _ x14
  have hlt1 := Nat.lt_of_lt_of_le hlt hg1.since.size
  have hd := HDc.out w1 hg1
  have HD := Lib.hid hd
  have HG1 := Lib.hid hg1
  clear hg1 hx hd HP HDc x0 x1 x2 x3 x4 x5 x6 x7 x8 x9 x10 x11 x12 x13 x14
  as_aux_lemma =>
  go_wp2_with fail
  with_reducible refine HD.out.mono ?_
  rintro e w2 ⟨rfl, hg2⟩
  have HB2 := Lib.hid (HCl.out w2 _ FB.out FL.out (Gone.trans HG1.out hg2))
  clear hg2
  go_wp2
  (try go_ret)
  exact HB2.out

set_option maxRecDepth 100000 in
set_option maxHeartbeats 8000000 in
theorem both_compact (h : Duo B w p r m m K) (f : NdB N m) (hN : N ≤ 600000000) {B0 : Nat} {c : Cal} (hc : CalB w B0 c) (hB : B0 ≤ B) (hk : c.kind = 5) :
    Calls Tryz.prog 14 #[.pointer (some ⟨p, 0, none⟩), .pointer (some ⟨r, 0, none⟩), .agg (callCs c).toArray] w (Both B w p r (N + c.x.es.length + 22) (m.g.es.length + c.x.es.length + 1) K) := by
  have hbase := h.base
  have hba : ∀ o, Below w.heap.size w (w.alloc o) := fun o => (Below.refl _ _).alloc (Nat.le_refl _) _
  have hsm : c.x.es.length + c.data.size + c.x.d.size + dataW c.x.es ≤ 1048576 := hc.small
  have hi0 := hc.i0
  have hi1 := hc.i1
  have hidx := hc.idx
  obtain ⟨kind, ⟨kd, fr, tt, tm, ix, pv, cm, ok, es, dd⟩, ⟨A, n, cc⟩, data, id, idx, add⟩ := c
  simp only at hk hsm hi0 hi1 hidx
  unfold callCs
  simp only
  have hcb := heap_alloc_new w (.cells #[.int .i64 kind, .int .i64 kd, .int .i64 fr, .int .i64 tt, .int .u64 (tm : Int), .int .u64 (ix : Int), .int .u64 (pv : Int), .int .u64 (cm : Int), .bool ok, .slice A n cc, .string dd, .string data, .int .i64 id, .int .u64 (idx : Int), .bool add] 49)
  obtain ⟨w0, hw0⟩ : ∃ w0, w.alloc (.cells #[.int .i64 kind, .int .i64 kd, .int .i64 fr, .int .i64 tt, .int .u64 (tm : Int), .int .u64 (ix : Int), .int .u64 (pv : Int), .int .u64 (cm : Int), .bool ok, .slice A n cc, .string dd, .string data, .int .i64 id, .int .u64 (idx : Int), .bool add] 49) = w0 := ⟨_, rfl⟩
  have hb0 : Below w.heap.size w w0 := by rw [← hw0]; exact hba _
  rw [hw0] at hcb
  have x : ∀ i u, (#[.int .i64 kind, .int .i64 kd, .int .i64 fr, .int .i64 tt, .int .u64 (tm : Int), .int .u64 (ix : Int), .int .u64 (pv : Int), .int .u64 (cm : Int), .bool ok, .slice A n cc, .string dd, .string data, .int .i64 id, .int .u64 (idx : Int), .bool add] : Array Value)[i]? = some u → w0.cell? ⟨w.heap.size, i, none⟩ = some u := fun i u hu => by rw [cell_at hcb]; exact hu
  have x0 : w0.cell? ⟨w.heap.size, 0, none⟩ = some (.int .i64 kind) := x 0 _ rfl
  have x1 : w0.cell? ⟨w.heap.size, 1, none⟩ = some (.int .i64 kd) := x 1 _ rfl
  have x2 : w0.cell? ⟨w.heap.size, 2, none⟩ = some (.int .i64 fr) := x 2 _ rfl
  have x3 : w0.cell? ⟨w.heap.size, 3, none⟩ = some (.int .i64 tt) := x 3 _ rfl
  have x4 : w0.cell? ⟨w.heap.size, 4, none⟩ = some (.int .u64 (tm : Int)) := x 4 _ rfl
  have x5 : w0.cell? ⟨w.heap.size, 5, none⟩ = some (.int .u64 (ix : Int)) := x 5 _ rfl
  have x6 : w0.cell? ⟨w.heap.size, 6, none⟩ = some (.int .u64 (pv : Int)) := x 6 _ rfl
  have x7 : w0.cell? ⟨w.heap.size, 7, none⟩ = some (.int .u64 (cm : Int)) := x 7 _ rfl
  have x8 : w0.cell? ⟨w.heap.size, 8, none⟩ = some (.bool ok) := x 8 _ rfl
  have x9 : w0.cell? ⟨w.heap.size, 9, none⟩ = some (.slice A n cc) := x 9 _ rfl
  have x10 : w0.cell? ⟨w.heap.size, 10, none⟩ = some (.string dd) := x 10 _ rfl
  have x11 : w0.cell? ⟨w.heap.size, 11, none⟩ = some (.string data) := x 11 _ rfl
  have x12 : w0.cell? ⟨w.heap.size, 12, none⟩ = some (.int .i64 id) := x 12 _ rfl
  have x13 : w0.cell? ⟨w.heap.size, 13, none⟩ = some (.int .u64 (idx : Int)) := x 13 _ rfl
  have x14 : w0.cell? ⟨w.heap.size, 14, none⟩ = some (.bool add) := x 14 _ rfl
  have hlt := lt_at hcb
  have h0 : Duo B w0 p r m m (fun k => K k ∨ k = w.heap.size) := h.guard hb0 (fun k hk => hk.imp (fun h => h) fun e => by omega) fun k hk => by
    rcases hk with hk | hk
    · exact Nat.lt_of_lt_of_le (h.klt k hk) hb0.size
    · rw [hk]; exact hlt
  have hc0 := hc.below (B' := B0) (Below.mono hb0 (by omega)) (Nat.le_refl _)
  have HX : Hid (∀ W, Only (fun k => ¬ (K k ∨ k = w.heap.size)) w0 W → ∀ i u, w0.cell? ⟨w.heap.size, i, none⟩ = some u → W.cell? ⟨w.heap.size, i, none⟩ = some u) := Lib.hid fun W ho i u hu => (ho.cell (p := ⟨w.heap.size, i, none⟩) hlt (fun e => e (.inr rfl))).trans hu
  have HCl : Hid (∀ (W : World) (M : Nd), NdB (N + es.length + 22) M → M.g.es.length ≤ m.g.es.length + es.length + 1 → Gone B w0 p r M M (fun k => K k ∨ k = w.heap.size) W → Both B w p r (N + es.length + 22) (m.g.es.length + es.length + 1) K (.returned (.bool true)) W) := Lib.hid fun W M hM hl hg => ⟨rfl, M, hM, hl, Gone.close hbase hb0 hg fun k hk => .inl hk⟩
  have HW0 := Lib.hid hw0
  have H0 := Lib.hid h0
  have HC0 := Lib.hid hc0
  have F := Lib.hid f
  have HB0 := Lib.hid hb0
  clear hw0 hcb x h0 hba h f hc hc0 hb0
  subst hk
  have hp := p_compact (H0.out.below ((Below.refl _ _).drew)) F.out (by omega) hidx data
  have FB : Hid (NdB (N + es.length + 22) (compacts m idx data).2) := Lib.hid ((compacts_b F.out idx data).mono (by omega))
  have FL : Hid (((compacts m idx data).2).g.es.length ≤ m.g.es.length + es.length + 1) := Lib.hid (Nat.le_trans (Grw.compacts_l F.out idx data) (by omega))
  have HDc : Hid (∀ W, Gone B w0.drew p r (compacts m idx data).2 m (fun k => K k ∨ k = w.heap.size) W → Calls Tryz.prog 40 #[.pointer (some ⟨r, 0, none⟩), .int .u64 (idx : Int), .string data] W (PDoes B W p r (compacts m idx data).2 (compacts m idx data).2 (fun k => K k ∨ k = w.heap.size) (.int .i64 (compacts m idx data).1))) := Lib.hid fun W hg => d_compact hg.duo F.out (by omega) hidx data
  obtain ⟨⟨E, M⟩, hM⟩ : ∃ R, compacts m idx data = R := ⟨_, rfl⟩
  rw [hM] at hp HDc FB FL
  simp only at hp HDc FB FL
  have HP := Lib.hid hp
  have hbd : B ≤ w0.heap.size := H0.out.base
  clear hp hM
  go_enter Tryz.func14, Tryz.ntmps14
  go_wp2_with fail
  rw [HW0.out]
  go_wp2_with fail
  go_region_held3 (fun W => W.cell? ⟨w.heap.size, 13, none⟩ = some (.int .u64 (idx : Int)) ∧ W.cell? ⟨w.heap.size, 11, none⟩ = some (.string data))
    (first
      | exact ⟨x13, x11⟩
      | (with_reducible exact HKA.out)
      | (with_reducible exact HKB.out))
    (first
      | (go_at_call 27
         with_reducible refine HP.out.mono ?_
         rintro e wA ⟨rfl, hg1⟩
         have hx := HX.out wA ((Only.of_below ((Below.refl _ w0).drew)).trans hg1.only)
         have HKA := Lib.hid (And.intro (hx _ _ x13) (hx _ _ x11))
         have HD := Lib.hid (HDc.out wA hg1)
         have HG1 := Lib.hid hg1
         clear hg1 hx)
      | (go_at_call 40
         with_reducible refine HD.out.mono ?_
         rintro e wB ⟨rfl, hg2⟩
         have hx := HX.out wB (((Only.of_below ((Below.refl _ w0).drew)).trans HG1.out.only).trans hg2.only)
         have HKB := Lib.hid (And.intro (hx _ _ x13) (hx _ _ x11))
         have HB2 := Lib.hid (HCl.out wB _ FB.out FL.out (Gone.after hbd ((Below.refl _ w0).drew) (Gone.trans HG1.out hg2)))
         clear hg2 hx))
  all_goals go_wp2
  all_goals (try go_ret)
  all_goals exact HB2.out
set_option maxRecDepth 100000 in
set_option maxHeartbeats 8000000 in
theorem both_take (h : Duo B w p r m m K) (f : NdB N m) (hN : N ≤ 600000000) {B0 : Nat} {c : Cal} (hc : CalB w B0 c) (hB : B0 ≤ B) (hk : c.kind ≠ 0 ∧ c.kind ≠ 1 ∧ c.kind ≠ 2 ∧ c.kind ≠ 3 ∧ c.kind ≠ 4 ∧ c.kind ≠ 5) :
    Calls Tryz.prog 14 #[.pointer (some ⟨p, 0, none⟩), .pointer (some ⟨r, 0, none⟩), .agg (callCs c).toArray] w (Both B w p r (N + c.x.es.length + 22) (m.g.es.length + c.x.es.length + 1) K) := by
  have hbase := h.base
  have hba : ∀ o, Below w.heap.size w (w.alloc o) := fun o => (Below.refl _ _).alloc (Nat.le_refl _) _
  have hsm : c.x.es.length + c.data.size + c.x.d.size + dataW c.x.es ≤ 1048576 := hc.small
  have hi0 := hc.i0
  have hi1 := hc.i1
  have hidx := hc.idx
  obtain ⟨kind, ⟨kd, fr, tt, tm, ix, pv, cm, ok, es, dd⟩, ⟨A, n, cc⟩, data, id, idx, add⟩ := c
  simp only at hk hsm hi0 hi1 hidx
  unfold callCs
  simp only
  have hcb := heap_alloc_new w (.cells #[.int .i64 kind, .int .i64 kd, .int .i64 fr, .int .i64 tt, .int .u64 (tm : Int), .int .u64 (ix : Int), .int .u64 (pv : Int), .int .u64 (cm : Int), .bool ok, .slice A n cc, .string dd, .string data, .int .i64 id, .int .u64 (idx : Int), .bool add] 49)
  obtain ⟨w0, hw0⟩ : ∃ w0, w.alloc (.cells #[.int .i64 kind, .int .i64 kd, .int .i64 fr, .int .i64 tt, .int .u64 (tm : Int), .int .u64 (ix : Int), .int .u64 (pv : Int), .int .u64 (cm : Int), .bool ok, .slice A n cc, .string dd, .string data, .int .i64 id, .int .u64 (idx : Int), .bool add] 49) = w0 := ⟨_, rfl⟩
  have hb0 : Below w.heap.size w w0 := by rw [← hw0]; exact hba _
  rw [hw0] at hcb
  have x : ∀ i u, (#[.int .i64 kind, .int .i64 kd, .int .i64 fr, .int .i64 tt, .int .u64 (tm : Int), .int .u64 (ix : Int), .int .u64 (pv : Int), .int .u64 (cm : Int), .bool ok, .slice A n cc, .string dd, .string data, .int .i64 id, .int .u64 (idx : Int), .bool add] : Array Value)[i]? = some u → w0.cell? ⟨w.heap.size, i, none⟩ = some u := fun i u hu => by rw [cell_at hcb]; exact hu
  have x0 : w0.cell? ⟨w.heap.size, 0, none⟩ = some (.int .i64 kind) := x 0 _ rfl
  have x1 : w0.cell? ⟨w.heap.size, 1, none⟩ = some (.int .i64 kd) := x 1 _ rfl
  have x2 : w0.cell? ⟨w.heap.size, 2, none⟩ = some (.int .i64 fr) := x 2 _ rfl
  have x3 : w0.cell? ⟨w.heap.size, 3, none⟩ = some (.int .i64 tt) := x 3 _ rfl
  have x4 : w0.cell? ⟨w.heap.size, 4, none⟩ = some (.int .u64 (tm : Int)) := x 4 _ rfl
  have x5 : w0.cell? ⟨w.heap.size, 5, none⟩ = some (.int .u64 (ix : Int)) := x 5 _ rfl
  have x6 : w0.cell? ⟨w.heap.size, 6, none⟩ = some (.int .u64 (pv : Int)) := x 6 _ rfl
  have x7 : w0.cell? ⟨w.heap.size, 7, none⟩ = some (.int .u64 (cm : Int)) := x 7 _ rfl
  have x8 : w0.cell? ⟨w.heap.size, 8, none⟩ = some (.bool ok) := x 8 _ rfl
  have x9 : w0.cell? ⟨w.heap.size, 9, none⟩ = some (.slice A n cc) := x 9 _ rfl
  have x10 : w0.cell? ⟨w.heap.size, 10, none⟩ = some (.string dd) := x 10 _ rfl
  have x11 : w0.cell? ⟨w.heap.size, 11, none⟩ = some (.string data) := x 11 _ rfl
  have x12 : w0.cell? ⟨w.heap.size, 12, none⟩ = some (.int .i64 id) := x 12 _ rfl
  have x13 : w0.cell? ⟨w.heap.size, 13, none⟩ = some (.int .u64 (idx : Int)) := x 13 _ rfl
  have x14 : w0.cell? ⟨w.heap.size, 14, none⟩ = some (.bool add) := x 14 _ rfl
  have hlt := lt_at hcb
  have h0 : Duo B w0 p r m m (fun k => K k ∨ k = w.heap.size) := h.guard hb0 (fun k hk => hk.imp (fun h => h) fun e => by omega) fun k hk => by
    rcases hk with hk | hk
    · exact Nat.lt_of_lt_of_le (h.klt k hk) hb0.size
    · rw [hk]; exact hlt
  have hc0 := hc.below (B' := B0) (Below.mono hb0 (by omega)) (Nat.le_refl _)
  have HX : Hid (∀ W, Only (fun k => ¬ (K k ∨ k = w.heap.size)) w0 W → ∀ i u, w0.cell? ⟨w.heap.size, i, none⟩ = some u → W.cell? ⟨w.heap.size, i, none⟩ = some u) := Lib.hid fun W ho i u hu => (ho.cell (p := ⟨w.heap.size, i, none⟩) hlt (fun e => e (.inr rfl))).trans hu
  have HCl : Hid (∀ (W : World) (M : Nd), NdB (N + es.length + 22) M → M.g.es.length ≤ m.g.es.length + es.length + 1 → Gone B w0 p r M M (fun k => K k ∨ k = w.heap.size) W → Both B w p r (N + es.length + 22) (m.g.es.length + es.length + 1) K (.returned (.bool true)) W) := Lib.hid fun W M hM hl hg => ⟨rfl, M, hM, hl, Gone.close hbase hb0 hg fun k hk => .inl hk⟩
  have HW0 := Lib.hid hw0
  have H0 := Lib.hid h0
  have HC0 := Lib.hid hc0
  have F := Lib.hid f
  have HB0 := Lib.hid hb0
  clear hw0 hcb x h0 hba h f hc hc0 hb0
  have k0 : (kind == 0) = false := by simp; omega
  have k1 : (kind == 1) = false := by simp; omega
  have k2 : (kind == 2) = false := by simp; omega
  have k3 : (kind == 3) = false := by simp; omega
  have k4 : (kind == 4) = false := by simp; omega
  have k5 : (kind == 5) = false := by simp; omega
  clear hk
  have hp := p_take H0.out
  have FB : Hid (NdB (N + es.length + 22) (taken m)) := Lib.hid ((taken_b F.out).mono (by omega))
  have FL : Hid (((taken m)).g.es.length ≤ m.g.es.length + es.length + 1) := Lib.hid ((show m.g.es.length ≤ _ by omega))
  have hkl := F.out.kept
  have hol := F.out.out
  obtain ⟨nk, hnk⟩ : ∃ nk, m.kept.length = nk := ⟨_, rfl⟩
  obtain ⟨no, hno⟩ : ∃ no, m.out.length = no := ⟨_, rfl⟩
  have HP := Lib.hid hp
  have HNk := Lib.hid hnk
  have HNo := Lib.hid hno
  rw [hnk] at hkl
  rw [hno] at hol
  clear hp hnk hno
  go_enter Tryz.func14, Tryz.ntmps14
  go_wp2_with fail
  rw [HW0.out]
  go_wp2_with fail
  with_reducible refine HP.out.mono ?_
  rintro e w1 ⟨Ak, ck, A1, c1, Z, rfl, hrows, hg1⟩
  have hlt1 := Nat.lt_of_lt_of_le hlt hg1.since.size
  rw [HNk.out, HNo.out]
  obtain ⟨Ak', ck', A1', c1', Z', q1, q2, q6, q22, q23, q24, q25, hpr, hrows'⟩ := d_reads hg1.duo
  rw [HNk.out] at q22
  rw [HNo.out] at q24
  have hsm1 : ∀ W, Below w1.heap.size w1 W → Calls Tryz.prog 18 #[.slice Ak nk ck, .slice Ak' nk ck'] W fun e w' => e = .returned (.bool true) ∧ Below W.heap.size W w' := fun W hb => by
    have := same_ents (ca := ck) (cc := ck') (hrows.below hb) (hrows'.below hb) (by rw [HNk.out]; omega)
    rw [HNk.out] at this
    exact this
  have hsm2 : ∀ W, Below w1.heap.size w1 W → Calls Tryz.prog 41 #[.slice A1 no c1, .slice A1' no c1'] W fun e w' => e = .returned (.bool true) ∧ Below W.heap.size W w' := fun W hb => by
    have := same_lets (ca := c1) (cc := c1') (hrows.below hb) (hrows'.below hb) (by rw [HNo.out]; omega)
    rw [HNo.out] at this
    exact this
  have hclr : ∀ W, Below w1.heap.size w1 W → Calls Tryz.prog 42 #[.pointer (some ⟨r, 0, none⟩)] W (PDoes B W p r (taken m) (taken m) (fun k => K k ∨ k = w.heap.size) (.tuple #[])) := fun W hb => d_clear (hg1.duo.below hb)
  obtain ⟨T0, hT0⟩ : ∃ T0, m.term = T0 := ⟨_, rfl⟩
  obtain ⟨V0, hV0⟩ : ∃ V0, m.vote = V0 := ⟨_, rfl⟩
  obtain ⟨C0, hC0⟩ : ∃ C0, m.commit = C0 := ⟨_, rfl⟩
  obtain ⟨I0, hI0⟩ : ∃ I0, m.inst = I0 := ⟨_, rfl⟩
  obtain ⟨R0, hR0⟩ : ∃ R0, m.reset = R0 := ⟨_, rfl⟩
  rw [hT0, hV0, hC0, hI0, hR0]
  rw [hT0] at q1
  rw [hV0] at q2
  rw [hC0] at q6
  rw [hI0] at q23
  rw [hR0] at q25
  have hr9 := heap_alloc_new w1 (.cells #[.int .u64 (T0 : Int), .int .i64 V0, .slice Ak nk ck, .bool I0, .slice A1 no c1, .bool R0, .int .u64 (C0 : Int)] 70)
  obtain ⟨w9, hw9⟩ : ∃ w9, w1.alloc (.cells #[.int .u64 (T0 : Int), .int .i64 V0, .slice Ak nk ck, .bool I0, .slice A1 no c1, .bool R0, .int .u64 (C0 : Int)] 70) = w9 := ⟨_, rfl⟩
  have hb9 : Below w1.heap.size w1 w9 := by rw [← hw9]; exact (Below.refl _ _).alloc (Nat.le_refl _) _
  rw [hw9] at hr9
  have s0 : w9.cell? ⟨w1.heap.size, 0, none⟩ = some (.int .u64 (T0 : Int)) := by rw [cell_at hr9]; rfl
  have s1 : w9.cell? ⟨w1.heap.size, 1, none⟩ = some (.int .i64 V0) := by rw [cell_at hr9]; rfl
  have s2 : w9.cell? ⟨w1.heap.size, 2, none⟩ = some (.slice Ak nk ck) := by rw [cell_at hr9]; rfl
  have s3 : w9.cell? ⟨w1.heap.size, 3, none⟩ = some (.bool I0) := by rw [cell_at hr9]; rfl
  have s4 : w9.cell? ⟨w1.heap.size, 4, none⟩ = some (.slice A1 no c1) := by rw [cell_at hr9]; rfl
  have s5 : w9.cell? ⟨w1.heap.size, 5, none⟩ = some (.bool R0) := by rw [cell_at hr9]; rfl
  have s6 : w9.cell? ⟨w1.heap.size, 6, none⟩ = some (.int .u64 (C0 : Int)) := by rw [cell_at hr9]; rfl
  have hl9 := lt_at hr9
  have u1 := (hb9.cell (p := ⟨r, 1, none⟩) hpr).trans q1
  have u2 := (hb9.cell (p := ⟨r, 2, none⟩) hpr).trans q2
  have u6 := (hb9.cell (p := ⟨r, 6, none⟩) hpr).trans q6
  have u22 := (hb9.cell (p := ⟨r, 22, none⟩) hpr).trans q22
  have u23 := (hb9.cell (p := ⟨r, 23, none⟩) hpr).trans q23
  have u24 := (hb9.cell (p := ⟨r, 24, none⟩) hpr).trans q24
  have u25 := (hb9.cell (p := ⟨r, 25, none⟩) hpr).trans q25
  have hp9 : r < w9.heap.size := Nat.lt_of_lt_of_le hpr hb9.size
  have hkp : ∀ W, Below w9.heap.size w9 W → (W.cell? ⟨w1.heap.size, 0, none⟩ = some (.int .u64 (T0 : Int)) ∧ W.cell? ⟨w1.heap.size, 1, none⟩ = some (.int .i64 V0) ∧ W.cell? ⟨w1.heap.size, 2, none⟩ = some (.slice Ak nk ck) ∧ W.cell? ⟨w1.heap.size, 3, none⟩ = some (.bool I0) ∧ W.cell? ⟨w1.heap.size, 4, none⟩ = some (.slice A1 no c1) ∧ W.cell? ⟨w1.heap.size, 5, none⟩ = some (.bool R0) ∧ W.cell? ⟨w1.heap.size, 6, none⟩ = some (.int .u64 (C0 : Int)) ∧ W.cell? ⟨r, 1, none⟩ = some (.int .u64 (T0 : Int)) ∧ W.cell? ⟨r, 2, none⟩ = some (.int .i64 V0) ∧ W.cell? ⟨r, 6, none⟩ = some (.int .u64 (C0 : Int)) ∧ W.cell? ⟨r, 22, none⟩ = some (.slice Ak' nk ck') ∧ W.cell? ⟨r, 23, none⟩ = some (.bool I0) ∧ W.cell? ⟨r, 24, none⟩ = some (.slice A1' no c1') ∧ W.cell? ⟨r, 25, none⟩ = some (.bool R0)) := fun W hb =>
    ⟨(hb.cell (p := ⟨w1.heap.size, 0, none⟩) hl9).trans s0, (hb.cell (p := ⟨w1.heap.size, 1, none⟩) hl9).trans s1, (hb.cell (p := ⟨w1.heap.size, 2, none⟩) hl9).trans s2, (hb.cell (p := ⟨w1.heap.size, 3, none⟩) hl9).trans s3, (hb.cell (p := ⟨w1.heap.size, 4, none⟩) hl9).trans s4, (hb.cell (p := ⟨w1.heap.size, 5, none⟩) hl9).trans s5, (hb.cell (p := ⟨w1.heap.size, 6, none⟩) hl9).trans s6,
      (hb.cell (p := ⟨r, 1, none⟩) hp9).trans u1, (hb.cell (p := ⟨r, 2, none⟩) hp9).trans u2, (hb.cell (p := ⟨r, 6, none⟩) hp9).trans u6, (hb.cell (p := ⟨r, 22, none⟩) hp9).trans u22, (hb.cell (p := ⟨r, 23, none⟩) hp9).trans u23, (hb.cell (p := ⟨r, 24, none⟩) hp9).trans u24, (hb.cell (p := ⟨r, 25, none⟩) hp9).trans u25⟩
  have hnh := neq_hard (T0 : Int) V0
  have HSm1 := Lib.hid hsm1
  have HSm2 := Lib.hid hsm2
  have HClr := Lib.hid hclr
  have HG1 := Lib.hid hg1
  have HB9 := Lib.hid hb9
  have HW9 := Lib.hid hw9
  have HKp := Lib.hid hkp
  have HBs := Lib.hid hg1.duo.base
  clear hsm1 hsm2 hclr hg1 hb9 hw9 hkp hr9 hrows hrows' HX HP q1 q2 q6 q22 q23 q24 q25 x0 x1 x2 x3 x4 x5 x6 x7 x8 x9 x10 x11 x12 x13 x14
  as_aux_lemma =>
  go_wp2_with fail
  rw [HW9.out]
  go_region_held3 (fun W => W.cell? ⟨w1.heap.size, 0, none⟩ = some (.int .u64 (T0 : Int)) ∧ W.cell? ⟨w1.heap.size, 1, none⟩ = some (.int .i64 V0) ∧ W.cell? ⟨w1.heap.size, 2, none⟩ = some (.slice Ak nk ck) ∧ W.cell? ⟨w1.heap.size, 3, none⟩ = some (.bool I0) ∧ W.cell? ⟨w1.heap.size, 4, none⟩ = some (.slice A1 no c1) ∧ W.cell? ⟨w1.heap.size, 5, none⟩ = some (.bool R0) ∧ W.cell? ⟨w1.heap.size, 6, none⟩ = some (.int .u64 (C0 : Int)) ∧ W.cell? ⟨r, 1, none⟩ = some (.int .u64 (T0 : Int)) ∧ W.cell? ⟨r, 2, none⟩ = some (.int .i64 V0) ∧ W.cell? ⟨r, 6, none⟩ = some (.int .u64 (C0 : Int)) ∧ W.cell? ⟨r, 22, none⟩ = some (.slice Ak' nk ck') ∧ W.cell? ⟨r, 23, none⟩ = some (.bool I0) ∧ W.cell? ⟨r, 24, none⟩ = some (.slice A1' no c1') ∧ W.cell? ⟨r, 25, none⟩ = some (.bool R0))
    (first
      | exact ⟨s0, s1, s2, s3, s4, s5, s6, u1, u2, u6, u22, u23, u24, u25⟩
      | (with_reducible exact HKA.out)
      | (with_reducible exact HKB.out))
    (first
      | (go_at_call 18
         with_reducible refine (HSm1.out _ (HB9.out.trans ((Below.refl _ w9).drew.mono HB9.out.size))).mono ?_
         rintro e wA ⟨rfl, hbA⟩
         have HBA : Hid (Below w9.heap.size w9 wA) := Lib.hid ((Below.refl _ w9).drew.trans hbA)
         have HKA := Lib.hid (HKp.out wA HBA.out)
         clear hbA)
      | (go_at_call 41
         with_reducible refine (HSm2.out _ (HB9.out.trans (HBA.out.mono HB9.out.size))).mono ?_
         rintro e wB ⟨rfl, hbB⟩
         have HBB : Hid (Below w9.heap.size w9 wB) := Lib.hid (HBA.out.trans (hbB.mono HBA.out.size))
         have HKB := Lib.hid (HKp.out wB HBB.out)
         clear hbB))
  all_goals
    have HC := Lib.hid (HClr.out wB (HB9.out.trans (HBB.out.mono HB9.out.size)))
    clear HClr
  all_goals go_wp2_with fail
  all_goals with_reducible refine HC.out.mono ?_
  all_goals rintro e w5 ⟨rfl, hg2⟩
  all_goals have HB2 := Lib.hid (HCl.out w5 _ FB.out FL.out (Gone.trans HG1.out (Gone.after HBs.out (HB9.out.trans (HBB.out.mono HB9.out.size)) hg2)))
  all_goals clear hg2
  all_goals go_wp2
  all_goals (try go_ret)
  all_goals exact HB2.out
theorem both_any (h : Duo B w p r m m K) (f : NdB N m) (hN : N ≤ 600000000) {B0 : Nat} {c : Cal} (hc : CalB w B0 c) (hB : B0 ≤ B) :
    Calls Tryz.prog 14 #[.pointer (some ⟨p, 0, none⟩), .pointer (some ⟨r, 0, none⟩), .agg (callCs c).toArray] w (Both B w p r (N + c.x.es.length + 22) (m.g.es.length + c.x.es.length + 1) K) := by
  by_cases h0 : c.kind = 0
  · exact both_receive h f hN hc hB h0
  by_cases h1 : c.kind = 1
  · exact both_timeout h f hN hc hB h1
  by_cases h2 : c.kind = 2
  · exact both_beat h f hN hc hB h2
  by_cases h3 : c.kind = 3
  · exact both_propose h f hN hc hB h3
  by_cases h4 : c.kind = 4
  · exact both_change h f hN hc hB h4
  by_cases h5 : c.kind = 5
  · exact both_compact h f hN hc hB h5
  exact both_take h f hN hc hB ⟨h0, h1, h2, h3, h4, h5⟩
end
end Go.Proofs.YtojmbbldehbjfaaGreat.BothR
