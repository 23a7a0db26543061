/- What the document's advance and add leave, walked. -/
import Derived.Test.YtojmbbldehbjfaaGreatHNodAt
import Derived.Test.YtojmbbldehbjfaaGreatNodB
import Derived.Test.YtojmbbldehbjfaaGreatHAppL
import Derived.Test.YtojmbbldehbjfaaGreatHWalkB
import Derived.Test.YtojmbbldehbjfaaGreatGR
import Derived.Test.YtojmbbldehbjfaaGreatHWalkE
import Derived.Test.YtojmbbldehbjfaaGreatHWalkF
import Derived.Test.YtojmbbldehbjfaaGreatHRefReach
import Derived.Test.YtojmbbldehbjfaaGreatGX
set_option linter.unusedVariables false
namespace Go.Proofs.YtojmbbldehbjfaaGreat.DAt
open Go.RowKit Go.Proofs.YtojmbbldehbjfaaGreat.Kit Go.Proofs.YtojmbbldehbjfaaGreat.Blocks Go.Proofs.YtojmbbldehbjfaaGreat.Rlog Go.Proofs.YtojmbbldehbjfaaGreat.Ents Go.Proofs.YtojmbbldehbjfaaGreat.LogAt Go.Proofs.YtojmbbldehbjfaaGreat.Nod Go.Proofs.YtojmbbldehbjfaaGreat.NodAt
open Go.Proofs.YtojmbbldehbjfaaGreat.Told (unums)

abbrev TD : TypeId := 56
abbrev TE : TypeId := 60
def dhead (z : Seat) (m : Nd) (vs : Nat) : List Value := [.int .i64 (m.id : Int), .int .u64 (m.term : Int), .int .i64 m.vote, .pointer (some ⟨z.q, 0, none⟩), .int .i64 (m.role : Int), .int .i64 m.leader, .int .u64 (m.commit : Int), .int .u64 (vs : Int)]
def dtail (z : Seat) (m : Nd) : List Value := [z.vk, .bool m.inst, z.vo, .bool m.reset]
def dcs (z : Seat) (m : Nd) (vs : Nat) (nx mt : List Nat) : List Value := dhead z m vs ++ (unums nx ++ (unums mt ++ dtail z m))
/-- What is free. -/
structure Fr (m : Nd) (vs : Nat) (nx mt : List Nat) : Prop where
  v : m.role = 1 → vs = m.votes
  n : m.role = 2 → nx = m.next
  t : m.role = 2 → mt = m.mat
  nl : nx.length = 7
  ml : mt.length = 7
abbrev DN (B : Nat) (w : World) (p : Nat) (z : Seat) (m : Nd) (vs : Nat) (nx mt : List Nat) : Prop := NodeAt TD TE B w p z (dcs z m vs nx mt) m.g m.kept m.out
def DAt (B : Nat) (w : World) (p : Nat) (z : Seat) (m : Nd) : Prop := ∃ vs nx mt, Fr m vs nx mt ∧ DN B w p z m vs nx mt
/-- What a call on it leaves. -/
def LeftD (B : Nat) (w : World) (p : Nat) (z : Seat) (m' : Nd) (w' : World) : Prop := ∃ z', DAt B w' p z' m' ∧ Grow p z z' w w'
def DoesD (B : Nat) (w : World) (p : Nat) (z : Seat) (m' : Nd) (e : Ending) (w' : World) : Prop := e = .returned (.tuple #[]) ∧ LeftD B w p z m' w'
theorem unums_len (l : List Nat) : (unums l).length = l.length := Told.unums_length l
section
variable {B : Nat} {w w' w1 w2 : World} {p : Nat} {z z1 : Seat} {m m' m1 : Nd} {vs vs' : Nat} {nx mt nx' mt' : List Nat}
theorem DN.c0 (h : DN B w p z m vs nx mt) : w.cell? ⟨p, 0, none⟩ = some (.int .i64 (m.id : Int)) := h.at_ rfl
theorem DN.c1 (h : DN B w p z m vs nx mt) : w.cell? ⟨p, 1, none⟩ = some (.int .u64 (m.term : Int)) := h.at_ rfl
theorem DN.c2 (h : DN B w p z m vs nx mt) : w.cell? ⟨p, 2, none⟩ = some (.int .i64 m.vote) := h.at_ rfl
theorem DN.c3 (h : DN B w p z m vs nx mt) : w.cell? ⟨p, 3, none⟩ = some (.pointer (some ⟨z.q, 0, none⟩)) := h.at_ rfl
theorem DN.c4 (h : DN B w p z m vs nx mt) : w.cell? ⟨p, 4, none⟩ = some (.int .i64 (m.role : Int)) := h.at_ rfl
theorem DN.c5 (h : DN B w p z m vs nx mt) : w.cell? ⟨p, 5, none⟩ = some (.int .i64 m.leader) := h.at_ rfl
theorem DN.c6 (h : DN B w p z m vs nx mt) : w.cell? ⟨p, 6, none⟩ = some (.int .u64 (m.commit : Int)) := h.at_ rfl
theorem DN.c7 (h : DN B w p z m vs nx mt) : w.cell? ⟨p, 7, none⟩ = some (.int .u64 (vs : Int)) := h.at_ rfl
theorem dcs_nx (hn : nx.length = 7) {k : Nat} (hk : k < 7) : (dcs z m vs nx mt)[8 + k]? = some (.int .u64 (told nx k : Int)) := by
  unfold dcs
  rw [List.getElem?_append_right (by show 8 ≤ _; omega)]
  show (unums nx ++ _)[8 + k - 8]? = _
  rw [Nat.add_sub_cancel_left, List.getElem?_append_left (by rw [unums_len]; omega), unums_get _ (by omega)]
theorem dcs_mt (hn : nx.length = 7) (hm : mt.length = 7) {k : Nat} (hk : k < 7) : (dcs z m vs nx mt)[15 + k]? = some (.int .u64 (told mt k : Int)) := by
  unfold dcs
  rw [List.getElem?_append_right (by show 8 ≤ _; omega)]
  show (unums nx ++ _)[15 + k - 8]? = _
  rw [show 15 + k - 8 = 7 + k by omega, List.getElem?_append_right (by rw [unums_len]; omega), unums_len, hn, Nat.add_sub_cancel_left, List.getElem?_append_left (by rw [unums_len]; omega), unums_get _ (by omega)]
theorem dcs_tl (hn : nx.length = 7) (hm : mt.length = 7) (k : Nat) : (dcs z m vs nx mt)[22 + k]? = (dtail z m)[k]? := by
  unfold dcs
  rw [List.getElem?_append_right (by show 8 ≤ _; omega)]
  show (unums nx ++ _)[22 + k - 8]? = _
  rw [show 22 + k - 8 = 7 + (7 + k) by omega, List.getElem?_append_right (by rw [unums_len]; omega), unums_len, hn, Nat.add_sub_cancel_left, List.getElem?_append_right (by rw [unums_len]; omega), unums_len, hm, Nat.add_sub_cancel_left]
theorem DN.atN (h : DN B w p z m vs nx mt) (f : Fr m vs nx mt) {k : Nat} (hk : k < 7) : w.cell? ⟨p, 8 + k, none⟩ = some (.int .u64 (told nx k : Int)) := h.at_ (dcs_nx f.nl hk)
theorem DN.atM (h : DN B w p z m vs nx mt) (f : Fr m vs nx mt) {k : Nat} (hk : k < 7) : w.cell? ⟨p, 15 + k, none⟩ = some (.int .u64 (told mt k : Int)) := h.at_ (dcs_mt f.nl f.ml hk)
theorem DN.c22 (h : DN B w p z m vs nx mt) (f : Fr m vs nx mt) : w.cell? ⟨p, 22, none⟩ = some z.vk := h.at_ (dcs_tl f.nl f.ml 0)
theorem DN.c23 (h : DN B w p z m vs nx mt) (f : Fr m vs nx mt) : w.cell? ⟨p, 23, none⟩ = some (.bool m.inst) := h.at_ (dcs_tl f.nl f.ml 1)
theorem DN.c24 (h : DN B w p z m vs nx mt) (f : Fr m vs nx mt) : w.cell? ⟨p, 24, none⟩ = some z.vo := h.at_ (dcs_tl f.nl f.ml 2)
theorem DN.c25 (h : DN B w p z m vs nx mt) (f : Fr m vs nx mt) : w.cell? ⟨p, 25, none⟩ = some (.bool m.reset) := h.at_ (dcs_tl f.nl f.ml 3)
theorem DAt.below (h : DAt B w p z m) (k : Below w.heap.size w w') : DAt B w' p z m := by
  obtain ⟨vs, nx, mt, f, h⟩ := h
  exact ⟨vs, nx, mt, f, NodeAt.below h k⟩
theorem DAt.drew (h : DAt B w p z m) : DAt B w.drew p z m := h.below ((Below.refl _ _).drew)
theorem LeftD.refl (h : DAt B w p z m) : LeftD B w p z m w := ⟨z, h, Grow.refl _ _ _⟩
theorem LeftD.of_below (h : DAt B w p z m) (k : Below w.heap.size w w') : LeftD B w p z m w' := ⟨z, h.below k, Grow.of_below z k⟩
theorem LeftD.then (g1 : Grow p z z1 w w1) (k : LeftD B w1 p z1 m' w2) : LeftD B w p z m' w2 := by
  obtain ⟨z2, h2, g2⟩ := k
  exact ⟨z2, h2, g1.trans g2⟩
theorem LeftD.afterBelow (k1 : Below w.heap.size w w1) (k2 : LeftD B w1 p z m' w2) : LeftD B w p z m' w2 := LeftD.then (Grow.of_below z k1) k2
theorem LeftD.thenBelow (k1 : LeftD B w p z m' w1) (k2 : Below w1.heap.size w1 w2) : LeftD B w p z m' w2 := by
  obtain ⟨z1, h1, g1⟩ := k1
  exact ⟨z1, h1.below k2, g1.thenBelow k2⟩
/-- A cell of the node is written: what it says then. -/
theorem DN.setTo (h : DN B w p z m vs nx mt) (i : Nat) (u : Value) (m' : Nd) (vs' : Nat) (nx' mt' : List Nat) (e : (dcs z m vs nx mt).set i u = dcs z m' vs' nx' mt') (hg : m'.g = m.g) (hk : m'.kept = m.kept) (ho : m'.out = m.out) :
    DN B (w.setCell ⟨p, i, none⟩ u) p z m' vs' nx' mt' ∧ Grow p z z w (w.setCell ⟨p, i, none⟩ u) := by
  obtain ⟨h1, h2⟩ := NodeAt.set h i u
  rw [e, ← hg, ← hk, ← ho] at h1
  exact ⟨h1, h2⟩
theorem dcs_set_nx (hn : nx.length = 7) {k : Nat} (hk : k < 7) (x : Nat) : (dcs z m vs nx mt).set (8 + k) (.int .u64 (x : Int)) = dcs z m vs (nx.set k x) mt := by
  unfold dcs
  rw [List.set_append_right _ _ (by show 8 ≤ _; omega)]
  show _ ++ (unums nx ++ _).set (8 + k - 8) _ = _
  rw [Nat.add_sub_cancel_left, List.set_append_left _ _ (by rw [unums_len]; omega), unums_set]
theorem dcs_set_mt (hn : nx.length = 7) (hm : mt.length = 7) {k : Nat} (hk : k < 7) (x : Nat) : (dcs z m vs nx mt).set (15 + k) (.int .u64 (x : Int)) = dcs z m vs nx (mt.set k x) := by
  unfold dcs
  rw [List.set_append_right _ _ (by show 8 ≤ _; omega)]
  show _ ++ (unums nx ++ _).set (15 + k - 8) _ = _
  rw [show 15 + k - 8 = 7 + k by omega, List.set_append_right _ _ (by rw [unums_len]; omega), unums_len, hn, Nat.add_sub_cancel_left, List.set_append_left _ _ (by rw [unums_len]; omega), unums_set]
theorem dcs_set_tl (hn : nx.length = 7) (hm : mt.length = 7) (k : Nat) (u : Value) : (dcs z m vs nx mt).set (22 + k) u = dhead z m vs ++ (unums nx ++ (unums mt ++ (dtail z m).set k u)) := by
  unfold dcs
  rw [List.set_append_right _ _ (by show 8 ≤ _; omega)]
  show _ ++ (unums nx ++ _).set (22 + k - 8) _ = _
  rw [show 22 + k - 8 = 7 + (7 + k) by omega, List.set_append_right _ _ (by rw [unums_len]; omega), unums_len, hn, Nat.add_sub_cancel_left, List.set_append_right _ _ (by rw [unums_len]; omega), unums_len, hm, Nat.add_sub_cancel_left]
end
theorem infoD : (Tryz.prog.info? 56).map (·.size) = some 26 := by kernel_rfl
end Go.Proofs.YtojmbbldehbjfaaGreat.DAt
set_option linter.unusedVariables false
namespace Go.Proofs.YtojmbbldehbjfaaGreat.DWa
open Go.RowKit Go.Proofs.YtojmbbldehbjfaaGreat.Kit Go.Proofs.YtojmbbldehbjfaaGreat.Blocks Go.Proofs.YtojmbbldehbjfaaGreat.Rlog Go.Proofs.YtojmbbldehbjfaaGreat.Ents Go.Proofs.YtojmbbldehbjfaaGreat.LogAt Go.Proofs.YtojmbbldehbjfaaGreat.Nod Go.Proofs.YtojmbbldehbjfaaGreat.NodAt Go.Proofs.YtojmbbldehbjfaaGreat.AppL Go.Proofs.YtojmbbldehbjfaaGreat.DAt

section
variable {B p N : Nat} {z : Seat} {m : Nd} {w : World}
/-- A letter more behind the others: the new row and its field. -/
theorem DN.posted {vs : Nat} {nx mt : List Nat} (h : DN B w p z m vs nx mt) (f : Fr m vs nx mt) {w0 w1 : World} {v' : Value} {n : Nat} {xs : List Value} {x : Msg} {a : Pl} (hb : Below w.heap.size w w0) (hf : Fit w (Far p z) x a) (o : Only (fun q => z.vo.ownBlock = some q) w0 w1)
    (hown : w1.ownsRow B 47 10 v' n xs) (hn : n = z.Z.length + 1) (hx : xs = lcs z.Z ++ ltCs (sign m x) a) (hat : ∀ q, v'.ownBlock = some q → z.vo.ownBlock = some q ∨ w.heap.size ≤ q) :
    w1.cell? ⟨p, 24, none⟩ = some z.vo ∧ w1.frozen? ⟨p, 24, none⟩ = false ∧ p < w1.heap.size ∧ LeftD B w p z (post m x) (w1.setCell ⟨p, 24, none⟩ v') := by
  have o' : Only (fun q => z.vo.ownBlock = some q) w w1 := (Only.of_below hb).trans o
  have := NodeAt.reout (Z' := z.Z ++ [(sign m x, a)]) (out' := m.out ++ [sign m x]) h o' hown (by simp [hn]) (by rw [lcs_append, lcs_single, hx]) hat (by simp [h.said]) (fun y hy => by
    rcases List.mem_append.1 hy with hy | hy
    · exact h.fit y hy
    · rw [List.mem_singleton.1 hy]
      exact ⟨hf.re, hf.fits, hf.max, hf.few, hf.off⟩) 24
  obtain ⟨h1, h2, h3⟩ := this
  refine ⟨by rw [cell_at h1]; exact (by simpa using dcs_tl (z := z) (m := m) (vs := vs) f.nl f.ml 2 : (dcs z m vs nx mt).toArray[24]? = (dtail z m)[2]?), free_at h1 24, lt_at h1, _, ⟨vs, nx, mt, ⟨f.v, f.n, f.t, f.nl, f.ml⟩, ?_⟩, h3⟩
  rw [show (24 : Nat) = 22 + 2 from rfl, dcs_set_tl f.nl f.ml 2] at h2
  exact h2
set_option maxHeartbeats 4000000 in
theorem dsend_any (h : DAt B w p z m) (f : NdB N m) (hN : N ≤ 1000000000) (x : Msg) (a : Pl) (hf : Fit w (Far p z) x a) :
    Calls Tryz.prog 67 #[.pointer (some ⟨p, 0, none⟩), ltV x a] w (DoesD B w p z (post m x)) := by
  obtain ⟨vs, nx, mt, fr0, h⟩ := h
  have hba : Below w.heap.size w (w.alloc (.cells (ltCs x a).toArray 47)) := (Below.refl _ _).alloc (Nat.le_refl _) _
  have hbx := LBox.new w x a
  have h1 := NodeAt.below h hba
  have c4 := DN.c0 h1
  have c5 := DN.c1 h1
  have HFr := Lib.hid fr0
  clear fr0
  have hsx : ∀ (k f t : Int) (tm ix pv cm : Nat) (ok : Bool) (es : List Ent) (d : ByteArray), x = ⟨k, f, t, tm, ix, pv, cm, ok, es, d⟩ → sign m x = ⟨k, (m.id : Int), t, m.term, ix, pv, cm, ok, es, d⟩ := by
    rintro k f t tm ix pv cm ok es d rfl
    rfl
  have HX := Lib.hid hsx
  have H := Lib.hid h
  have HF := Lib.hid hf
  have F := Lib.hid f
  have hplt := h.plt
  obtain ⟨I, hI⟩ : ∃ I, m.id = I := ⟨_, rfl⟩
  obtain ⟨T, hT⟩ : ∃ T, m.term = T := ⟨_, rfl⟩
  rw [hI] at c4
  rw [hT] at c5
  obtain ⟨M, hM⟩ : ∃ M, post m x = M := ⟨_, rfl⟩
  rw [hM]
  have HM := Lib.hid hM
  have HI := Lib.hid hI
  have HT := Lib.hid hT
  clear hsx hI hT hM h1 h hf f
  obtain ⟨kd, fr, tt, tm, ix, pv, cm, ok, es, d⟩ := x
  unfold ltV
  simp only [ltCs] at hba hbx c4 c5 ⊢
  have hlt := hbx.lt
  have f1 := hbx.free 1
  have f3 := hbx.free 3
  have x0 := hbx.c0
  have x1 := hbx.c1
  have x2 := hbx.c2
  have x3 := hbx.c3
  have x4 := hbx.c4
  have x5 := hbx.c5
  have x6 := hbx.c6
  have x7 := hbx.c7
  have x8 := hbx.c8
  have x9 := hbx.c9
  obtain ⟨w0, hw0⟩ : ∃ w0, w.alloc (.cells [.int .i64 kd, .int .i64 fr, .int .i64 tt, .int .u64 (tm : Int), .int .u64 (ix : Int), .int .u64 (pv : Int), .int .u64 (cm : Int), .bool ok, .slice a.A a.n a.c, .string d].toArray 47) = w0 := ⟨_, rfl⟩
  rw [hw0] at hba hbx c4 c5 hlt f1 f3 x0 x1 x2 x3 x4 x5 x6 x7 x8 x9
  have HW0 := Lib.hid hw0
  have HBA := Lib.hid hba
  have HBX := Lib.hid hbx
  clear hw0 hba hbx
  go_enter Tryz.func67, Tryz.ntmps67
  go_upto_region 1 with fail
  rw [HW0.out]
  go_upto_region 3 with fail
  obtain ⟨hsg, hon⟩ := HBX.out.signed m
  rw [HI.out, HT.out] at hsg hon
  generalize (w0.setCell ⟨w.heap.size, 1, none⟩ (.int .i64 (I : Int))).setCell ⟨w.heap.size, 3, none⟩ (.int .u64 (T : Int)) = w1 at hsg hon ⊢
  have hB0 : Below w.heap.size w w1 := below_only HBA.out hon (Nat.le_refl _) (fun q hq => by rw [hq]; exact Nat.le_refl _)
  have hB1 : Below w.heap.size w w1 := hB0
  have h2 := NodeAt.below H.out hB1
  have k1 := DN.c24 h2 HFr.out
  have y0 := hsg.c0
  have y1 := hsg.c1
  have y2 := hsg.c2
  have y3 := hsg.c3
  have y4 := hsg.c4
  have y5 := hsg.c5
  have y6 := hsg.c6
  have y7 := hsg.c7
  have y8 := hsg.c8
  have y9 := hsg.c9
  have hsx : sign m ⟨kd, fr, tt, tm, ix, pv, cm, ok, es, d⟩ = ⟨kd, (I : Int), tt, T, ix, pv, cm, ok, es, d⟩ := by rw [HX.out kd fr tt tm ix pv cm ok es d rfl, HI.out, HT.out]
  rw [hsx] at y0 y1 y2 y3 y4 y5 y6 y7 y9
  simp only at y0 y1 y2 y3 y4 y5 y6 y7 y9
  have hown := h2.outs
  have hbase := h2.base
  obtain ⟨A, c, hv, hnc, hcm, _⟩ := own_form hown
  obtain ⟨n, hn⟩ : ∃ n, z.Z.length = n := ⟨_, rfl⟩
  rw [hn] at hv hown hnc
  have hroom : (n + 1) * 104 ≤ 140737488355328 := by
    have h5 : m.out.length = z.Z.length := by rw [← h2.said, List.length_map]
    have h6 := F.out.out
    omega
  have HNW : Hid (RL (w1.alloc (.cells (ltCs ⟨kd, (I : Int), tt, T, ix, pv, cm, ok, es, d⟩ a).toArray 47)).drew (w1.heap.size + 1) (some ⟨w1.heap.size, 0, none⟩) 1 [(⟨kd, (I : Int), tt, T, ix, pv, cm, ok, es, d⟩, a)]) := Reads.drew ((lt_new w1 ⟨kd, (I : Int), tt, T, ix, pv, cm, ok, es, d⟩ a 47))
  simp only [ltCs] at HNW
  have HO : Hid (∀ o, (w1.alloc o).drew.ownsRow B 47 10 z.vo n (lcs z.Z)) := fun o => (Only.of_below (S := fun _ => False) (((Below.refl w1.heap.size w1).alloc (Nat.le_refl _) o).drew)).own hown (fun _ _ e => e)
  have HBS : Hid (∀ o, B ≤ (w1.alloc o).drew.heap.size) := fun o => Nat.le_trans hbase ((Below.refl w1.heap.size w1).alloc (Nat.le_refl _) o).size
  have HFIN : Hid (∀ W0, Below w.heap.size w W0 → ∀ v' c' w3, w3.ownsRow B 47 10 (.slice v' (n + 1) c') (n + 1) (lcs z.Z ++ ltCs ⟨kd, (I : Int), tt, T, ix, pv, cm, ok, es, d⟩ a) → W0.grownBy w3 z.vo.ownBlock →
      ((Value.slice v' (n + 1) c').ownBlock = z.vo.ownBlock ∨ (Value.slice v' (n + 1) c').ownBlock = some W0.heap.size) →
      w3.cell? ⟨p, 24, none⟩ = some z.vo ∧ w3.frozen? ⟨p, 24, none⟩ = false ∧ p < w3.heap.size ∧ LeftD B w p z M (w3.setCell ⟨p, 24, none⟩ (.slice v' (n + 1) c'))) := by
    intro W0 hbo v' c' w3 ho hg hat
    rw [← HM.out]
    refine DN.posted (x := ⟨kd, fr, tt, tm, ix, pv, cm, ok, es, d⟩) (a := a) H.out HFr.out hbo HF.out ((Only.refl (fun q => z.vo.ownBlock = some q) _).grown hg (fun q hq => .inr hq)) ho (by rw [hn]) (by rw [hsx]) fun q hq => ?_
    rcases hat with e | e
    · exact .inl (e ▸ hq)
    · rw [hq] at e; cases e; exact .inr hbo.size
  have HV := Lib.hid hv
  have HBW : Hid (∀ o, Below w.heap.size w (w1.alloc o).drew) := fun o => (hB0.alloc hB0.size o).drew
  have hlt1 : p < w1.heap.size := h2.plt
  clear hsg hon hB1 hB0 h2 hsx hown hbase hn hv c4 c5 x0 x1 x2 x3 x4 x5 x6 x7 x8 x9 f1 f3 hlt
  have k1' : w1.cell? ⟨p, 24, none⟩ = some (.slice A n c) := by rw [← HV.out]; exact k1
  rw [HV.out] at HO HFIN
  clear k1
  go_region_law (first
    | (refine step_appL (v := .slice A n c) (xs := lcs z.Z) _ rfl _ _ rfl B rfl (HO.out _) rfl HNW.out (fun u hu => ltCs_one ⟨kd, (I : Int), tt, T, ix, pv, cm, ok, es, d⟩ a u (by simpa [lcs_single] using hu)) hroom (HBS.out _) ?_
       intro A' c' w3 hown3 hg3 hat3
       obtain ⟨q1, q2, q3, q4⟩ := HFIN.out _ (HBW.out _) A' c' w3 (by rw [← lcs_single (⟨kd, (I : Int), tt, T, ix, pv, cm, ok, es, d⟩, a)]; exact hown3) hg3 hat3
       have Q4 := Lib.hid q4
       clear q4 hown3 hg3 hat3))
  all_goals go_wp2
  all_goals go_end0
  all_goals exact ⟨rfl, Q4.out⟩
end
end Go.Proofs.YtojmbbldehbjfaaGreat.DWa
set_option linter.unusedVariables false
namespace Go.Proofs.YtojmbbldehbjfaaGreat.DWb
open Go.RowKit Go.Proofs.YtojmbbldehbjfaaGreat.Kit Go.Proofs.YtojmbbldehbjfaaGreat.Blocks Go.Proofs.YtojmbbldehbjfaaGreat.Rlog Go.Proofs.YtojmbbldehbjfaaGreat.Ents Go.Proofs.YtojmbbldehbjfaaGreat.LogAt Go.Proofs.YtojmbbldehbjfaaGreat.App Go.Proofs.YtojmbbldehbjfaaGreat.Nod Go.Proofs.YtojmbbldehbjfaaGreat.NodAt Go.Proofs.YtojmbbldehbjfaaGreat.AppL Go.Proofs.YtojmbbldehbjfaaGreat.DAt Go.Proofs.YtojmbbldehbjfaaGreat.DWa
open Go.Proofs.YtojmbbldehbjfaaGreat.RefC (more_own)
open Go.Proofs.YtojmbbldehbjfaaGreat.RefD (PairIs)
open Go.Proofs.YtojmbbldehbjfaaGreat.QuoWalkC (MadeN nums info3)
open Go.Proofs.YtojmbbldehbjfaaGreat.Quorum (mem)

section
variable {B p N : Nat} {z : Seat} {m : Nd} {w : World}
set_option maxHeartbeats 1000000 in
theorem dmembers_any (h : DAt B w p z m) (f : NdB N m) : Calls Tryz.prog 71 #[.pointer (some ⟨p, 0, none⟩)] w fun e w' => e = .returned (.tuple #[.int .u64 (cfg m : Int), .int .u64 (since m : Int)]) ∧ Below w.heap.size w w' := by
  obtain ⟨vs, nx, mt, fr, h⟩ := h
  have c3 := DN.c3 h
  have hplt := h.plt
  have hm := RefD.rmembers_any h.log f.fine 18446744073709551615
  obtain ⟨a, ha⟩ : ∃ a, cfg m = a := ⟨_, rfl⟩
  have ha' : (members m.g 18446744073709551615).1 = a := ha
  obtain ⟨b, hb⟩ : ∃ b, since m = b := ⟨_, rfl⟩
  have hb' : (members m.g 18446744073709551615).2 = b := hb
  rw [ha', hb'] at hm
  rw [ha, hb]
  have HM : Hid (Calls Tryz.prog 72 #[.pointer (some ⟨z.q, 0, none⟩), .int .u64 18446744073709551615] w (PairIs w a b)) := hm
  clear hm ha ha' hb hb' h f fr
  go_enter Tryz.func71, Tryz.ntmps71
  go_wp2_with fail
  refine HM.out.mono ?_
  rintro e w1 ⟨rfl, hb1⟩
  go_wp2
  go_ret2
  exact ⟨rfl, hb1⟩
theorem filt_yes {c I k j : Nat} {L : List Nat} (hj : L[k]? = some j) (hne : j ≠ I) : (L.take (k + 1)).filter (fun i => decide (i ≠ I)) = (L.take k).filter (fun i => decide (i ≠ I)) ++ [j] := by
  rw [take_snoc L k j hj, List.filter_append]
  simp [hne]
theorem filt_no {I k j : Nat} {L : List Nat} (hj : L[k]? = some j) (hne : j = I) : (L.take (k + 1)).filter (fun i => decide (i ≠ I)) = (L.take k).filter (fun i => decide (i ≠ I)) := by
  rw [take_snoc L k j hj, List.filter_append]
  simp [hne]
set_option maxHeartbeats 2000000 in
theorem dothers_any (h : DAt B w p z m) (f : NdB N m) : Calls Tryz.prog 74 #[.pointer (some ⟨p, 0, none⟩)] w (MadeN w (rest m)) := by
  obtain ⟨i0, hi0, hz0, hz1, hz2⟩ := info_parts info3
  have hmem := dmembers_any h f
  have hcl := cfg_lt f
  have hlist := fun W => QuoWalkC.rmem_any (cfg m) (by omega) W
  have hrest : rest m = (mem (cfg m)).filter fun i => decide (i ≠ m.id) := rfl
  have hl7 : (mem (cfg m)).length ≤ 7 := Quorum.size_le _
  obtain ⟨vs, nx, mt, fr, h⟩ := h
  have c0 := DN.c0 h
  have hplt := h.plt
  obtain ⟨I, hI⟩ : ∃ I, m.id = I := ⟨_, rfl⟩
  obtain ⟨C, hC⟩ : ∃ C, cfg m = C := ⟨_, rfl⟩
  obtain ⟨D, hD⟩ : ∃ D, since m = D := ⟨_, rfl⟩
  rw [hI] at c0 hrest
  rw [hC] at hmem hlist hrest hl7
  rw [hD] at hmem
  obtain ⟨L, hL⟩ : ∃ L, mem C = L := ⟨_, rfl⟩
  rw [hL] at hlist hrest hl7
  rw [hrest]
  have HM := Lib.hid hmem
  have HL := Lib.hid hlist
  clear hmem hlist hrest hI hC hD hL h f fr hcl
  go_enter Tryz.func74, Tryz.ntmps74
  go_wp2_with fail
  refine HM.out.mono ?_
  rintro e w1 ⟨rfl, hb1⟩
  go_wp2_with fail
  refine (HL.out w1).mono ?_
  rintro e w2 ⟨v, rfl, hown2, hb2⟩
  obtain ⟨A, c, rfl, hnc, hcm, hrd⟩ := own_form hown2
  obtain ⟨n, hn⟩ : ∃ n, L.length = n := ⟨_, rfl⟩
  rw [hn] at hrd hnc hl7
  have hB2 := hb1.trans (hb2.mono hb1.size)
  have c02 := (hB2.cell (p := ⟨p, 0, none⟩) hplt).trans c0
  have hplt2 := Nat.lt_of_lt_of_le hplt hB2.size
  have HN := Lib.hid hn
  have HB2 := Lib.hid hB2
  have HRd := Lib.hid hrd
  rw [hn]
  clear hn hown2 hb1 hb2 hB2 hrd c0
  go_wp2
  go_loopw [5, 7] (fun s i wr => ∃ k : Nat, k ≤ n ∧ i = .int .i64 (k : Int) ∧ wr.ownsRow w2.heap.size 3 1 s ((L.take k).filter fun i => decide (i ≠ I)).length (nums ((L.take k).filter fun i => decide (i ≠ I))) ∧ Below w2.heap.size w2 wr) (fun _ i _ => n - (intOf i).toNat)
  case atStart => exact ⟨0, by omega, rfl, ⟨rfl, .inl ⟨rfl, rfl⟩⟩, Below.refl _ _⟩
  case round =>
    obtain ⟨k, hk, rfl, hown, hbel⟩ := hrel
    by_cases hkn : k < n
    · obtain ⟨b, o, j, rfl, hbl, hj, hcell⟩ := QuoWalkC.Reads.num HRd.out hkn
      have d0 := (hbel.cell (p := ⟨b, o + k, none⟩) hbl).trans hcell
      have d1 := (hbel.cell (p := ⟨p, 0, none⟩) hplt2).trans c02
      have hlen : ((L.take k).filter fun i => decide (i ≠ I)).length ≤ 7 := Nat.le_trans (List.length_filter_le _ _) (by rw [List.length_take]; omega)
      have hb0 : ∀ q, Below w2.heap.size w2 (wr.drewN q) := fun q => below_drewN hbel q
      by_cases hji : j = I
      · have ht : ((j : Int) != (I : Int)) = false := by simp [hji]
        have hx := filt_no hj hji
        have HX := Lib.hid hx
        have HO := Lib.hid hown
        have HB := Lib.hid hb0
        clear hx hj hcell hown hlen
        go_wp2_with fail
        go_quiet (fail)
        go_wp2
        go_roundw
        case rel => exact ⟨k + 1, by omega, by go_num, by rw [HX.out]; exact HO.out, HB.out _⟩
        case measure => simp [intOf]; omega
      · have ht : ((j : Int) != (I : Int)) = true := by simp; omega
        have hx := filt_yes (c := 0) hj hji
        have HX := Lib.hid hx
        obtain ⟨A0, c0, rfl, _, _, _⟩ := own_form hown
        obtain ⟨q, hq⟩ : ∃ q, ((L.take k).filter fun i => decide (i ≠ I)).length = q := ⟨_, rfl⟩
        rw [hq] at hown hlen ⊢
        have HQ := Lib.hid hq
        have HO := Lib.hid hown
        have HB := Lib.hid hb0
        have hsz := hbel.size
        clear hx hj hcell hown hq
        have hm1 : q + 1 ≤ maxLen := by unfold maxLen; omega
        have hs1 : (q + 1) * 8 ≤ 140737488355328 := by omega
        go_wp2_with fail
        go_quiet (fail)
        obtain ⟨wq, hwq⟩ : ∃ wq, wr.drewN nq = wq := ⟨_, rfl⟩
        have d0q : wq.cell? ⟨b, o + k, none⟩ = some (.int .i64 (j : Int)) := by rw [← hwq]; exact d0
        have hbq : Below w2.heap.size w2 wq := by rw [← hwq]; exact HB.out nq
        have hoq : wq.ownsRow w2.heap.size 3 1 (.slice A0 q c0) q (nums ((L.take k).filter fun i => decide (i ≠ I))) := by rw [← hwq]; exact HO.out
        rw [hwq]
        clear hwq d0 d1 hb0
        have hBo : ∀ o, w2.heap.size ≤ (wq.alloc o).heap.size := fun o => by have := hbq.size; simp; omega
        go_wp2_with (first
          | (at_builtin
             refine wpList_append_any _ rfl (.tmp 30) (.tmp 35) _ rfl w2.heap.size 3 i0 _ 1 8 Tryz.underlying108 hi0 hz0 hz1 hz2 rfl (by decide) _ q (nums ((L.take k).filter fun i => decide (i ≠ I))) rfl (hoq.alloc _)
               (wq.heap.size + 1) _ 1 1 [.int .i64 (j : Int)] rfl (reads_one _ _ _) (by simp [Value.oneCell']) hm1 hs1 (hBo _) ?_
             intro v' w3 hown3 hg3 hat3))
        have hb3 : Below w2.heap.size w2 w3 := (hbq.alloc hbq.size _).grown hg3 (hBo _) (own_lt hoq)
        go_wp2
        go_roundw
        case rel => exact ⟨k + 1, by omega, by go_num, own_cast hown3 (by rw [HX.out, List.length_append, HQ.out]; rfl) (by rw [HX.out]; simp [nums]), hb3⟩
        case measure => simp [intOf]; omega
    · obtain rfl : k = n := by omega
      have hall : L.take k = L := List.take_of_length_le (by rw [HN.out]; exact Nat.le_refl _)
      rw [hall] at hown
      go_wp2
      go_ret
      exact ⟨_, rfl, own_base hown HB2.out.size, HB2.out.trans (hbel.mono HB2.out.size)⟩

/-- Another row of what must last, wholly new, and its field. -/
theorem DN.kept_new {vs : Nat} {nx mt : List Nat} (h : DN B w p z m vs nx mt) (f : Fr m vs nx mt) {w1 : World} {v' : Value} {n : Nat} {l : List Ent} (hb : Below w.heap.size w w1) (hown : w1.ownsRow w.heap.size 81 4 v' n (ecells l)) (hn : n = l.length) :
    w1.cell? ⟨p, 22, none⟩ = some z.vk ∧ w1.frozen? ⟨p, 22, none⟩ = false ∧ p < w1.heap.size ∧ LeftD B w p z { m with kept := l } (w1.setCell ⟨p, 22, none⟩ v') := by
  have hbase := h.base
  obtain ⟨r1, r2, r3⟩ := NodeAt.rekept (kept' := l) h ((Only.of_below (S := fun q => z.vk.ownBlock = some q) hb)) (own_base hown hbase) hn rfl (fun q hq => .inr (hown.lt q hq).1) 22
  refine ⟨by rw [cell_at r1]; exact (by simpa using dcs_tl (z := z) (m := m) (vs := vs) f.nl f.ml 0 : (dcs z m vs nx mt).toArray[22]? = (dtail z m)[0]?), free_at r1 22, lt_at r1, _, ⟨vs, nx, mt, ⟨f.v, f.n, f.t, f.nl, f.ml⟩, ?_⟩, r3⟩
  rw [show (22 : Nat) = 22 + 0 from rfl, dcs_set_tl f.nl f.ml 0] at r2
  exact r2
theorem dkeep_nil (h : DAt B w p z m) (A : Option Addr) (c : Nat) : Calls Tryz.prog 106 #[.pointer (some ⟨p, 0, none⟩), .slice A 0 c] w (DoesD B w p z (keep m [])) := by
  have hk : keep m [] = m := rfl
  rw [hk]
  have H := Lib.hid h
  clear h
  go_enter Tryz.func106, Tryz.ntmps106
  go_wp2
  (try simp only [Exit.inBlock, Exit.then]); refine bodyPost_ret (results_none rfl _ _ _) rfl ?_
  exact ⟨rfl, LeftD.refl H.out⟩
theorem kfilt_yes {X k : Nat} {e : Ent} {L : List Ent} (hj : L[k]? = some e) (hx : e.idx < X) : (L.take (k + 1)).filter (fun x => decide (x.idx < X)) = (L.take k).filter (fun x => decide (x.idx < X)) ++ [e] := by
  rw [take_snoc L k e hj, List.filter_append]
  simp [hx]
theorem kfilt_no {X k : Nat} {e : Ent} {L : List Ent} (hj : L[k]? = some e) (hx : ¬ e.idx < X) : (L.take (k + 1)).filter (fun x => decide (x.idx < X)) = (L.take k).filter (fun x => decide (x.idx < X)) := by
  rw [take_snoc L k e hj, List.filter_append]
  simp [hx]
set_option maxHeartbeats 2000000 in
theorem dkeep_some (h : DAt B w p z m) (f : NdB N m) (hN : N ≤ 1000000000) (A : Option Addr) (n c : Nat) (l : List Ent) (hr : RE w w.heap.size A n l) (hn : 0 < n) (hfew : n ≤ 1000000000) :
    Calls Tryz.prog 106 #[.pointer (some ⟨p, 0, none⟩), .slice A n c] w (DoesD B w p z (keep m l)) := by
  obtain ⟨vs, nx, mt, fr, h⟩ := h
  have c22 := DN.c22 h fr
  have hplt := h.plt
  obtain ⟨b, o, e, rfl, hbl, he, hfour⟩ := RE.at_ hr hn
  have hln := RE.len hr
  obtain ⟨Ak, ck, hvk, hnk, hck, hrk⟩ := own_form h.kept
  have hkN := f.kept
  have hkeep : keep m l = { m with kept := (m.kept.filter fun x => decide (x.idx < e.idx)) ++ l } := by
    cases l with
    | nil => simp at hln; omega
    | cons e' r => cases he; rfl
  rw [hkeep]
  have l0 := hfour.c1
  rw [Nat.zero_mul, Nat.add_zero] at l0
  obtain ⟨K, hK⟩ : ∃ K, m.kept.length = K := ⟨_, rfl⟩
  obtain ⟨X, hX⟩ : ∃ X, e.idx = X := ⟨_, rfl⟩
  rw [hX] at l0 ⊢
  rw [hK] at hvk hrk hkN hnk
  rw [hvk] at c22
  have hn0 : ((n : Int) == 0) = false := by simp; omega
  have hn1 : (0 : Int) < (n : Int) := by omega
  obtain ⟨kp, hkp⟩ : ∃ kp, m.kept = kp := ⟨_, rfl⟩
  rw [hkp] at hrk hK
  have hfin := fun W v' q l' => DN.kept_new (w1 := W) (v' := v') (n := q) (l := l') h fr
  rw [hvk] at hfin
  rw [hkp]
  obtain ⟨M, hM⟩ : ∃ M, ({ m with kept := (kp.filter fun x => decide (x.idx < X)) ++ l } : Nd) = M := ⟨_, rfl⟩
  rw [hM]
  have HM := Lib.hid hM
  have HFIN := Lib.hid hfin
  have HR := Lib.hid hr
  have HRK := Lib.hid hrk
  have HK := Lib.hid hK
  have HL : Hid (b < w.heap.size) := hbl
  have HLn := Lib.hid hln
  unfold maxLen at hck
  clear h f fr hr hrk hvk hK he hfour hkeep hln hX hbl hfin hkp hM
  go_enter Tryz.func106, Tryz.ntmps106
  go_wp2
  go_loopw [4, 5] (fun s i wr => ∃ k : Nat, k ≤ K ∧ i = .int .i64 (k : Int) ∧ wr.ownsRow w.heap.size 81 4 s ((kp.take k).filter fun x => decide (x.idx < X)).length (ecells ((kp.take k).filter fun x => decide (x.idx < X))) ∧ Below w.heap.size w wr) (fun _ i _ => K - (intOf i).toNat)
  case atStart => exact ⟨0, by omega, rfl, by simpa [ecells] using World.ownsRow_nil _ _ _ _, Below.refl _ _⟩
  case round =>
    obtain ⟨k, hk, rfl, hown, hbel⟩ := hrel
    have q22 := (hbel.cell (p := ⟨p, 22, none⟩) hplt).trans c22
    have ql := (hbel.cell (p := ⟨b, o + 1, none⟩) HL.out).trans l0
    have hpr := Nat.lt_of_lt_of_le hplt hbel.size
    have hb0 : ∀ q, Below w.heap.size w (wr.drewN q) := fun q => below_drewN hbel q
    obtain ⟨A0, c0, rfl, _, _, _⟩ := own_form hown
    obtain ⟨q, hq⟩ : ∃ q, ((kp.take k).filter fun x => decide (x.idx < X)).length = q := ⟨_, rfl⟩
    have hqk : q ≤ K := by rw [← hq]; exact Nat.le_trans (List.length_filter_le _ _) (by rw [List.length_take]; omega)
    rw [hq] at hown ⊢
    have HQ := Lib.hid hq
    by_cases hkK : k < K
    · obtain ⟨bk, ok, ek, rfl, hbk, hek, hfk⟩ := RE.at_ HRK.out hkK
      have hfr := RlgWalkC.Four.below hfk hbel hbk
      have d0 := hfr.c0
      have d1 := hfr.c1
      have d2 := hfr.c2
      have d3 := hfr.c3
      obtain ⟨tm, ix, kd, d⟩ := ek
      simp only at d0 d1 d2 d3
      by_cases hxy : ix < X
      · have hx := kfilt_yes (X := X) hek hxy
        have HX := Lib.hid hx
        have HO := Lib.hid hown
        have HB := Lib.hid hb0
        have hroom : (q + 1) * 40 ≤ 140737488355328 := by omega
        clear hx hek hfk hfr hown hq
        go_wp2_with fail
        go_quiet (fail)
        obtain ⟨wq, hwq⟩ : ∃ wq, wr.drewN nq = wq := ⟨_, rfl⟩
        have d0q : wq.cell? ⟨bk, ok + k * 4, none⟩ = some (.int .u64 (tm : Int)) := by rw [← hwq]; exact d0
        have d1q : wq.cell? ⟨bk, ok + k * 4 + 1, none⟩ = some (.int .u64 (ix : Int)) := by rw [← hwq]; exact d1
        have d2q : wq.cell? ⟨bk, ok + k * 4 + 2, none⟩ = some (.int .i64 kd) := by rw [← hwq]; exact d2
        have d3q : wq.cell? ⟨bk, ok + k * 4 + 3, none⟩ = some (.string d) := by rw [← hwq]; exact d3
        have q22q : wq.cell? ⟨p, 22, none⟩ = some (.slice (some ⟨bk, ok, none⟩) K ck) := by rw [← hwq]; exact q22
        have hpq : p < wq.heap.size := by rw [← hwq]; exact hpr
        have hbq : Below w.heap.size w wq := by rw [← hwq]; exact HB.out nq
        have hoq : wq.ownsRow w.heap.size 81 4 (.slice A0 q c0) q (ecells ((kp.take k).filter fun x => decide (x.idx < X))) := by rw [← hwq]; exact HO.out
        rw [hwq]
        clear hwq d0 d1 d2 d3 q22 ql hb0 hpr
        have hnews : RE (wq.alloc (.cells #[.int .u64 (tm : Int), .int .u64 (ix : Int), .int .i64 kd, .string d] 81)) (wq.heap.size + 1) (some ⟨wq.heap.size, 0, none⟩) 1 [⟨tm, ix, kd, d⟩] := RlgWalkH.ent_new wq ⟨tm, ix, kd, d⟩ 81
        have hownA : ∀ o, (wq.alloc o).ownsRow w.heap.size 81 4 (.slice A0 q c0) q (ecells ((kp.take k).filter fun x => decide (x.idx < X))) := fun o => ((Only.refl (fun _ => False) wq).alloc o).own hoq (by simp)
        have hba : ∀ o, w.heap.size ≤ (wq.alloc o).heap.size := fun o => by have := hbq.size; simp; omega
        go_wp2_with (first
          | (at_builtin
             refine wpList_app (v := .slice A0 q c0) _ rfl _ _ rfl w.heap.size rfl (hownA _) rfl hnews (ecells_one _) hroom (hba _) ?_
             intro A' c' w1 hown1 hg1 hat1
             obtain ⟨ho1, hb1⟩ := more_own hoq hbq hown1 hg1
             clear hown1 hg1 hat1))
        go_roundw
        case rel => exact ⟨k + 1, by omega, by go_num, by rw [HX.out, List.length_append, HQ.out]; exact ho1, hb1⟩
        case measure => simp [intOf]; omega
      · have hx := kfilt_no (X := X) hek hxy
        have HX := Lib.hid hx
        have HO := Lib.hid hown
        have HB := Lib.hid hb0
        clear hx hek hfk hfr hown hq
        go_wp2_with fail
        go_quiet (fail)
        go_wp2
        go_roundw
        case rel => exact ⟨k + 1, by omega, by go_num, by rw [HX.out, HQ.out]; exact HO.out, HB.out _⟩
        case measure => simp [intOf]; omega
    · obtain rfl : k = K := by omega
      have hall : kp.take k = kp := List.take_of_length_le (by rw [HK.out]; exact Nat.le_refl _)
      rw [hall] at hown
      have hq' : (kp.filter fun x => decide (x.idx < X)).length = q := by rw [hall] at hq; exact hq
      have HQ' := Lib.hid hq'
      have hnews := Kit.Reads.below HR.out hbel
      have hroom : (q + n) * 40 ≤ 140737488355328 := by omega
      have hbs := hbel.size
      have HO := Lib.hid hown
      have HNw := Lib.hid hnews
      have HBl := Lib.hid hbel
      clear hown hnews hq hq' hall hb0
      go_wp2_with (first
        | (at_builtin
           refine wpList_app (v := .slice A0 q c0) (c := c) _ rfl _ _ rfl w.heap.size rfl HO.out rfl HNw.out (ecells_one _) hroom hbs ?_
           intro A' c' w3 hown3 hg3 hat3
           rw [← ecells_append] at hown3
           obtain ⟨x0, y0, z0, hl3⟩ := HFIN.out _ _ _ _ (HBl.out.grown hg3 hbs (fun g hg => (HO.out.lt g hg).1)) hown3 (by rw [List.length_append, HQ'.out, HLn.out])
           rw [HM.out] at hl3
           have HL3 := Lib.hid hl3
           clear hl3 hat3 hg3 hown3))
      go_end0
      exact ⟨rfl, HL3.out⟩
theorem dkeep_any (h : DAt B w p z m) (f : NdB N m) (hN : N ≤ 1000000000) (A : Option Addr) (c : Nat) (l : List Ent) (hr : RE w w.heap.size A l.length l) (hfew : l.length ≤ 1000000000) :
    Calls Tryz.prog 106 #[.pointer (some ⟨p, 0, none⟩), .slice A l.length c] w (DoesD B w p z (keep m l)) := by
  rcases Nat.eq_zero_or_pos l.length with h0 | h0
  · rw [h0, List.eq_nil_of_length_eq_zero h0]
    exact dkeep_nil h A c
  · exact dkeep_some h f hN A l.length c l hr h0 hfew
end
end Go.Proofs.YtojmbbldehbjfaaGreat.DWb
set_option linter.unusedVariables false
namespace Go.Proofs.YtojmbbldehbjfaaGreat.DWc
open Go.RowKit Go.Proofs.YtojmbbldehbjfaaGreat.Kit Go.Proofs.YtojmbbldehbjfaaGreat.Blocks Go.Proofs.YtojmbbldehbjfaaGreat.Rlog Go.Proofs.YtojmbbldehbjfaaGreat.Ents Go.Proofs.YtojmbbldehbjfaaGreat.LogAt Go.Proofs.YtojmbbldehbjfaaGreat.Nod Go.Proofs.YtojmbbldehbjfaaGreat.NodAt Go.Proofs.YtojmbbldehbjfaaGreat.AppL Go.Proofs.YtojmbbldehbjfaaGreat.DAt Go.Proofs.YtojmbbldehbjfaaGreat.DWa Go.Proofs.YtojmbbldehbjfaaGreat.DWb
open Go.Proofs.YtojmbbldehbjfaaGreat.WalkC (SBox fold_take fold_id off_nums)
open Go.Proofs.YtojmbbldehbjfaaGreat.Told (unums)
open Go.Proofs.YtojmbbldehbjfaaGreat.Quorum (mem size need sound maj node has turn change)

section
variable {B p N : Nat} {z : Seat} {m : Nd} {w : World}
set_option maxHeartbeats 4000000 in
theorem dwrite_any (h : DAt B w p z m) (f : NdB N m) (hN : N ≤ 1000000000) (hr : m.role = 2) {to_ : Nat} (ht : to_ < 7) :
    Calls Tryz.prog 75 #[.pointer (some ⟨p, 0, none⟩), .int .i64 (to_ : Int)] w (DoesD B w p z (write m to_)) := by
  have H := Lib.hid h
  obtain ⟨vs, nx, mt, fr, h0⟩ := h
  have c3 := DN.c3 h0
  have cn := DN.atN h0 fr ht
  rw [fr.n hr] at cn
  have hplt := h0.plt
  have hlog := h0.log
  have g0 := hlog.c0
  have g1 := hlog.c1
  have g2 := hlog.c2
  have g3 := hlog.c3
  have hqlt := hlog.lt
  obtain ⟨X, hX⟩ : ∃ X, told m.next to_ = X := ⟨_, rfl⟩
  rw [hX] at cn
  obtain ⟨S, hS⟩ : ∃ S, m.g.snap = S := ⟨_, rfl⟩
  simp only [hS] at g0 g1 g2 g3
  have hlt : (to_ : Int) < 7 := by omega
  have hge : (0 : Int) ≤ (to_ : Int) := by omega
  have hnew := heap_alloc_new w (.cells #[.int .u64 (S.idx : Int), .int .u64 (S.term : Int), .int .u64 (S.cfg : Int), .string S.data] 26)
  have hba : Below w.heap.size w (w.alloc (.cells #[.int .u64 (S.idx : Int), .int .u64 (S.term : Int), .int .u64 (S.cfg : Int), .string S.data] 26)) := (Below.refl _ _).alloc (Nat.le_refl _) _
  obtain ⟨wc, hwc⟩ : ∃ wc, w.alloc (.cells #[.int .u64 (S.idx : Int), .int .u64 (S.term : Int), .int .u64 (S.cfg : Int), .string S.data] 26) = wc := ⟨_, rfl⟩
  rw [hwc] at hnew hba
  have HWC := Lib.hid hwc
  have F := Lib.hid f
  have HXe := Lib.hid hX
  have HSe := Lib.hid hS
  obtain ⟨M, hM⟩ : ∃ M, write m to_ = M := ⟨_, rfl⟩
  rw [hM]
  have HM := Lib.hid hM
  have HR := Lib.hid hr
  have d0 : wc.cell? ⟨w.heap.size, 0, none⟩ = some (.int .u64 (S.idx : Int)) := by rw [cell_at hnew]; rfl
  have d1 : wc.cell? ⟨w.heap.size, 1, none⟩ = some (.int .u64 (S.term : Int)) := by rw [cell_at hnew]; rfl
  have d2 : wc.cell? ⟨w.heap.size, 2, none⟩ = some (.int .u64 (S.cfg : Int)) := by rw [cell_at hnew]; rfl
  have d3 : wc.cell? ⟨w.heap.size, 3, none⟩ = some (.string S.data) := by rw [cell_at hnew]; rfl
  have hltc := lt_at hnew
  have cnc := (hba.cell (p := ⟨p, 8 + to_, none⟩) hplt).trans cn
  have c3c := (hba.cell (p := ⟨p, 3, none⟩) hplt).trans c3
  have hplc := Nat.lt_of_lt_of_le hplt hba.size
  have HBC := Lib.hid hba
  clear hX hS f hM hr hwc hnew hba hlog h0 fr cn
  go_enter Tryz.func75, Tryz.ntmps75
  go_wp2_with fail
  rw [HWC.out]
  clear c3 g0 g1 g2 g3 hqlt
  by_cases hle : X ≤ S.idx
  · go_quiet (fail)
    obtain ⟨wq, hwq⟩ : ∃ wq, wc.drewN nq = wq := ⟨_, rfl⟩
    have hbq : Below w.heap.size w wq := by rw [← hwq]; exact below_drewN HBC.out nq
    have q0 : wq.cell? ⟨w.heap.size, 0, none⟩ = some (.int .u64 (S.idx : Int)) := by rw [← hwq]; exact d0
    have q1 : wq.cell? ⟨w.heap.size, 1, none⟩ = some (.int .u64 (S.term : Int)) := by rw [← hwq]; exact d1
    have q2 : wq.cell? ⟨w.heap.size, 2, none⟩ = some (.int .u64 (S.cfg : Int)) := by rw [← hwq]; exact d2
    have q3 : wq.cell? ⟨w.heap.size, 3, none⟩ = some (.string S.data) := by rw [← hwq]; exact d3
    have hltq : w.heap.size < wq.heap.size := by rw [← hwq]; exact hltc
    rw [hwq]
    have hsend : Calls Tryz.prog 67 #[.pointer (some ⟨p, 0, none⟩), .agg #[.int .i64 5, .int .i64 0, .int .i64 (to_ : Int), .int .u64 0, .int .u64 (S.idx : Int), .int .u64 (S.term : Int), .int .u64 (S.cfg : Int), .bool false, .slice none 0 0, .string S.data]] wq (DoesD B wq p z M) := by
      have := dsend_any (H.out.below hbq) F.out hN (snapTo m to_) noPl (Fit.none wq _ rfl)
      rw [← HM.out, show write m to_ = post m (snapTo m to_) by unfold write letterTo; rw [if_pos (by rw [HXe.out, HSe.out]; exact hle)]]
      rw [← HSe.out]
      exact this
    have HS := Lib.hid hsend
    have HBQ := Lib.hid hbq
    clear hsend hwq d0 d1 d2 d3 hltc cnc c3c hbq
    go_wp2_with fail
    with_reducible refine HS.out.mono ?_
    rintro e w1 ⟨rfl, hl⟩
    have HL := Lib.hid (LeftD.afterBelow HBQ.out hl)
    clear hl
    go_wp2
    (try simp only [Exit.inBlock, Exit.then]); refine bodyPost_ret (results_none rfl _ _ _) rfl ?_
    exact ⟨rfl, HL.out⟩
  · have hX0 : 0 < X := by omega
    have hXb : X < 18446744073709551616 := by rw [← HXe.out]; exact told_b F.out.nb (by decide) to_
    have hw1 : IntKind.u64.wrap ((X : Int) - 1) = ((X - 1 : Nat) : Int) := by rw [show (X : Int) - 1 = ((X - 1 : Nat) : Int) by omega]; exact IntWalk.u64_in _ (by omega)
    have hnle : ¬ (X : Int) ≤ (S.idx : Int) := by omega
    go_quiet (fail)
    obtain ⟨wq, hwq⟩ : ∃ wq, wc.drewN nq = wq := ⟨_, rfl⟩
    have hbq : Below w.heap.size w wq := by rw [← hwq]; exact below_drewN HBC.out nq
    have cnq : wq.cell? ⟨p, 8 + to_, none⟩ = some (.int .u64 (X : Int)) := by rw [← hwq]; exact cnc
    have c3q : wq.cell? ⟨p, 3, none⟩ = some (.pointer (some ⟨z.q, 0, none⟩)) := by rw [← hwq]; exact c3c
    have hplq : p < wq.heap.size := by rw [← hwq]; exact hplc
    rw [hwq]
    clear hwq d0 d1 d2 d3 hltc cnc c3c hplc
    have hDq := H.out.below hbq
    have HDq := Lib.hid hDq
    obtain ⟨vs, nx, mt, fr, hq0⟩ := hDq
    have c6q := DN.c6 hq0
    obtain ⟨Y, hY⟩ : ∃ Y, X - 1 = Y := ⟨_, rfl⟩
    have hYb : Y < 18446744073709551616 := by omega
    have hw2 : IntKind.u64.wrap ((Y : Int) + 1) = (X : Int) := by rw [show (Y : Int) + 1 = (X : Int) by omega]; exact IntWalk.u64_in _ (by omega)
    have htm := RefB.rterm_any hq0.log F.out.fine Y
    obtain ⟨TT, hTT⟩ : ∃ TT, (term m.g Y).getD 0 = TT := ⟨_, rfl⟩
    obtain ⟨EE, hEE⟩ : ∃ EE : Int, (if (term m.g Y).isSome then (0 : Int) else 20) = EE := ⟨_, rfl⟩
    have htc : Calls Tryz.prog 77 #[.pointer (some ⟨z.q, 0, none⟩), .int .u64 (Y : Int)] wq fun e w' => e = .returned (.tuple #[.int .u64 (TT : Int), .int .i64 EE]) ∧ wq = w' := htm.mono fun e w' k => by
      unfold RefB.TermIs at k
      rw [hTT, hEE] at k
      exact k
    have hes := F.out.es
    have hget : ∀ W, Below w.heap.size w W → Calls Tryz.prog 108 #[.pointer (some ⟨z.q, 0, none⟩), .int .u64 (X : Int), .int .i64 8] W (RlgWalkF.Gives W (get m.g X 8)) := fun W hb => by
      obtain ⟨vs', nx', mt', fr', hh⟩ := H.out.below hb
      exact RefC.rget_any hh.log F.out.fine (by omega)
    obtain ⟨L, hL⟩ : ∃ L, get m.g X 8 = L := ⟨_, rfl⟩
    have hL8 : L.length ≤ 8 := by
      rw [← hL]
      unfold Rlog.get
      split
      · simp
      · rw [List.length_take]; exact Nat.min_le_left _ _
    rw [hL] at hget
    obtain ⟨C, hC⟩ : ∃ C, m.commit = C := ⟨_, rfl⟩
    rw [hC] at c6q
    have hfar : ∀ k, Far p z k → k < w.heap.size := by
      obtain ⟨vs', nx', mt', fr', hh⟩ := H.out
      exact fun k hk => NodeAt.far_lt hh hk
    have hsend : ∀ W A c, Below w.heap.size w W → RE W W.heap.size A L.length L → L.length ≤ c → c ≤ 9223372036854775807 → Off (fun k => k < w.heap.size) A L.length →
        Calls Tryz.prog 67 #[.pointer (some ⟨p, 0, none⟩), .agg #[.int .i64 3, .int .i64 0, .int .i64 (to_ : Int), .int .u64 0, .int .u64 (Y : Int), .int .u64 (TT : Int), .int .u64 (C : Int), .bool false, .slice A L.length c, .string ⟨#[]⟩]] W (DoesD B W p z M) := by
      intro W A c hb hre hc hm ho
      have hfit : Fit W (Far p z) (entsTo m to_) ⟨A, L.length, c⟩ := by
        refine ⟨?_, hc, hm, by show L.length * 40 ≤ _; omega, fun hn ad e hk => ho hn ad e (hfar _ hk)⟩
        show RE W W.heap.size A L.length (get m.g (told m.next to_) 8)
        rw [HXe.out, hL]
        exact hre
      have := dsend_any (H.out.below hb) F.out hN (entsTo m to_) ⟨A, L.length, c⟩ hfit
      rw [← HM.out, show write m to_ = post m (entsTo m to_) by unfold write letterTo; rw [if_neg (by rw [HXe.out, HSe.out]; exact hle)]]
      have e1 : told m.next to_ - 1 = Y := by rw [HXe.out, hY]
      have e2 : ltV (entsTo m to_) ⟨A, L.length, c⟩ = .agg #[.int .i64 3, .int .i64 0, .int .i64 (to_ : Int), .int .u64 0, .int .u64 (Y : Int), .int .u64 (TT : Int), .int .u64 (C : Int), .bool false, .slice A L.length c, .string ⟨#[]⟩] := by
        unfold ltV entsTo
        simp only [e1, hTT, hC]
        rfl
      rw [e2] at this
      exact this
    have HTc := Lib.hid htc
    have HGet := Lib.hid hget
    have HSend := Lib.hid hsend
    have hq : M.commit = C := by rw [← HM.out, ← hC]; rfl
    have HQ := Lib.hid hq
    have HBQ := Lib.hid hbq
    rw [hY] at hw1
    clear htc hget hsend hTT hEE hL hC hY hq hes hX0 htm hq0 hfar hbq fr
    go_wp2_with fail
    with_reducible refine HTc.out.mono ?_
    rintro e w1 ⟨rfl, rfl⟩
    go_wp2_with fail
    go_region_held3 (fun W => W.cell? ⟨p, 3, none⟩ = some (.pointer (some ⟨z.q, 0, none⟩)) ∧ W.cell? ⟨p, 6, none⟩ = some (.int .u64 (C : Int)))
      (first
        | exact ⟨c3q, c6q⟩
        | exact hG.out
        | exact hS.out)
      (first
        | (go_at_call 108
           with_reducible refine (HGet.out _ HBQ.out.drew).mono ?_
           rintro e wG ⟨A, c, rfl, hr, hc, hm, hbg, hoff⟩
           have hG := Lib.hid (And.intro ((hbg.cell (p := ⟨p, 3, none⟩) hplq).trans c3q) ((hbg.cell (p := ⟨p, 6, none⟩) hplq).trans c6q))
           have HBG : Hid (Below w.heap.size w wG) := HBQ.out.drew.trans (hbg.mono HBQ.out.size)
           have HRG := Lib.hid hr
           have HOff : Hid (Off (fun k => k < w.heap.size) A L.length) := Off.more hoff HBQ.out.size
           clear hr hbg hoff)
        | (go_at_call 67
           with_reducible refine (HSend.out _ _ _ HBG.out HRG.out hc hm HOff.out).mono ?_
           rintro e wS ⟨rfl, z2, ⟨vs2, nx2, mt2, fr2, h2⟩, g2⟩
           have hS : Hid (wS.cell? ⟨p, 3, none⟩ = some (.pointer (some ⟨z.q, 0, none⟩)) ∧ wS.cell? ⟨p, 6, none⟩ = some (.int .u64 (C : Int))) := ⟨by rw [← g2.q]; exact DN.c3 h2, by rw [← HQ.out]; exact DN.c6 h2⟩
           have HL : Hid (LeftD B wG p z M wS) := ⟨z2, ⟨vs2, nx2, mt2, fr2, h2⟩, g2⟩
           clear h2 g2 fr2))
    all_goals go_wp2
    all_goals go_end0
    all_goals exact ⟨rfl, LeftD.afterBelow HBG.out HL.out⟩
theorem fold_role (m : Nd) : ∀ (l : List Nat), (l.foldl write m).role = m.role := fun l => (fold_id m l).2.2
set_option maxHeartbeats 2000000 in
theorem dbeat_any (h : DAt B w p z m) (f : NdB N m) (hN : N ≤ 900000000) : Calls Tryz.prog 37 #[.pointer (some ⟨p, 0, none⟩)] w (DoesD B w p z (beat m)) := by
  have H := Lib.hid h
  have hoth := dothers_any h f
  obtain ⟨vs, nx, mt, fr, h0⟩ := h
  have c4 := DN.c4 h0
  have hplt := h0.plt
  obtain ⟨R, hR⟩ : ∃ R, m.role = R := ⟨_, rfl⟩
  rw [hR] at c4
  by_cases hr : R = 2
  · subst hr
    have hl7 := rest_len m
    have hlt7 : ∀ i, i ∈ rest m → i < 7 := fun i hi => rest_lt hi
    obtain ⟨L, hL⟩ : ∃ L, rest m = L := ⟨_, rfl⟩
    have hb : beat m = L.foldl write m := by unfold beat; rw [if_pos hR, hL]
    rw [hb]
    rw [hL] at hoth hl7 hlt7
    have hst : ∀ k, NdB (N + 7) ((L.take k).foldl write m) := fun k => (fold_b (fun j h => write_b h j) (L.take k) f).mono (Nat.add_le_add_left (Nat.le_trans (List.length_take_le' k L) hl7) N)
    have hrl : ∀ k, ((L.take k).foldl write m).role = 2 := fun k => by rw [fold_role, hR]
    have HO := Lib.hid hoth
    have HSt := Lib.hid hst
    have H7 := Lib.hid hlt7
    have HRl := Lib.hid hrl
    have hoffs : ∀ (w1 : World) (A : Option Addr) (n c : Nat) (xs : List Value), w1.ownsRow w.heap.size 3 1 (.slice A n c) n xs → Off (Mine p z) A n := fun w1 A n c xs ho => off_nums h0 ho
    have HOffs := Lib.hid hoffs
    clear hoth hst hlt7 hb hL hR hrl hoffs h0 fr f
    go_enter Tryz.func37, Tryz.ntmps37
    go_wp2_with fail
    with_reducible refine HO.out.mono ?_
    rintro e w1 ⟨v, rfl, hown, hb1⟩
    obtain ⟨A, c, rfl, hnc, hcm, hrd⟩ := own_form hown
    obtain ⟨n, hn⟩ : ∃ n, L.length = n := ⟨_, rfl⟩
    have hoff := HOffs.out _ _ _ _ _ hown
    rw [hn] at hrd hnc hl7 hoff
    have h1 := H.out.below hb1
    have HRd := Lib.hid hrd
    have HOff := Lib.hid hoff
    have HH1 := Lib.hid h1
    have HB1 := Lib.hid hb1
    have HN := Lib.hid hn
    clear hn hown hrd hoff h1 hb1
    rw [HN.out]
    go_wp2
    go_loopw [3] (fun i wr => ∃ (k : Nat) (z' : Seat), k ≤ n ∧ i = .int .i64 (k : Int) ∧ Hid (DAt B wr p z' ((L.take k).foldl write m)) ∧ Hid (Grow p z z' w1 wr)) (fun i _ => n - (intOf i).toNat)
    case atStart => exact ⟨0, z, by omega, rfl, Lib.hid HH1.out, Lib.hid (Grow.refl _ _ _)⟩
    case round =>
      obtain ⟨k, z', hk, rfl, HK, HG⟩ := hrel
      by_cases hkn : k < n
      · obtain ⟨b, o, j, rfl, _, hj, hcell⟩ := QuoWalkC.Reads.num (Off.reads HOff.out HG.out.only HRd.out (Nat.le_refl _)) hkn
        have hjl : j < 7 := H7.out j (List.mem_of_getElem? hj)
        have hw := dwrite_any HK.out (HSt.out k) (by omega) (HRl.out k) hjl
        rw [← fold_take write m L k j hj] at hw
        have HW := Lib.hid hw
        clear hw hj
        go_wp2_with fail
        with_reducible refine HW.out.mono ?_
        rintro e w2 ⟨rfl, z2, h2, g2⟩
        have H2 := Lib.hid h2
        have G2 := Lib.hid (HG.out.trans g2)
        clear h2 g2
        go_wp2
        go_roundw
        case rel => exact ⟨k + 1, z2, by omega, by go_num, Lib.hid H2.out, Lib.hid G2.out⟩
        case measure => simp [intOf]; omega
      · obtain rfl : k = n := by omega
        go_wp2
        go_end0
        have := HK.out
        rw [List.take_of_length_le (by rw [HN.out]; exact Nat.le_refl _)] at this
        exact ⟨rfl, LeftD.afterBelow HB1.out ⟨z', this, HG.out⟩⟩
  · have hb : beat m = m := by unfold beat; rw [if_neg (by rw [hR]; exact hr)]
    have hne : ((R : Int) != 2) = true := by simp; omega
    rw [hb]
    clear hb h0 fr f hR hoth
    go_enter Tryz.func37, Tryz.ntmps37
    go_wp2
    (try simp only [Exit.inBlock, Exit.then]); refine bodyPost_ret (results_none rfl _ _ _) rfl ?_
    exact ⟨rfl, LeftD.refl H.out⟩
end
end Go.Proofs.YtojmbbldehbjfaaGreat.DWc
set_option linter.unusedVariables false
namespace Go.Proofs.YtojmbbldehbjfaaGreat.DWd
open Go.RowKit Go.Proofs.YtojmbbldehbjfaaGreat.Kit Go.Proofs.YtojmbbldehbjfaaGreat.Blocks Go.Proofs.YtojmbbldehbjfaaGreat.Rlog Go.Proofs.YtojmbbldehbjfaaGreat.Ents Go.Proofs.YtojmbbldehbjfaaGreat.LogAt Go.Proofs.YtojmbbldehbjfaaGreat.Nod Go.Proofs.YtojmbbldehbjfaaGreat.NodAt Go.Proofs.YtojmbbldehbjfaaGreat.AppL Go.Proofs.YtojmbbldehbjfaaGreat.DAt Go.Proofs.YtojmbbldehbjfaaGreat.DWa Go.Proofs.YtojmbbldehbjfaaGreat.DWb Go.Proofs.YtojmbbldehbjfaaGreat.DWc
open Go.Proofs.YtojmbbldehbjfaaGreat.WalkG (EBox logd_b)
open Go.Proofs.YtojmbbldehbjfaaGreat.Told (unums)
open Go.Proofs.YtojmbbldehbjfaaGreat.Quorum (mem size need sound maj node has turn change)

section
variable {B p N : Nat} {z : Seat} {m : Nd} {w : World}
theorem DN.matReads {vs : Nat} {nx mt : List Nat} (h : DN B w p z m vs nx mt) (f : Fr m vs nx mt) : Reads w w.heap.size 1 (some ⟨p, 15, none⟩) 7 (unums mt) := by
  refine ⟨by rw [Told.unums_length, f.ml], fun _ => ⟨_, rfl, h.plt, fun j u hj => ?_⟩⟩
  have hjl : j < 7 := by
    have := (List.getElem?_eq_some_iff.1 hj).1
    rw [Told.unums_length, f.ml] at this
    exact this
  rw [unums_get _ (by rw [f.ml]; omega)] at hj
  cases hj
  rw [Addr.add_lit]
  exact h.atM f hjl
theorem Fr.idle {m : Nd} {vs : Nat} {nx mt : List Nat} (h : m.role = 0) (hn : nx.length = 7) (hm : mt.length = 7) : Fr m vs nx mt :=
  ⟨fun e => absurd (h.symm.trans e) (by decide), fun e => absurd (h.symm.trans e) (by decide), fun e => absurd (h.symm.trans e) (by decide), hn, hm⟩
theorem beat_role (m : Nd) : (beat m).role = m.role := by
  unfold beat
  split
  · exact fold_role m _
  · rfl
set_option maxHeartbeats 2000000 in
theorem dadvance_any (h : DAt B w p z m) (f : NdB N m) (hN : N ≤ 900000000) (hr : m.role = 2) : Calls Tryz.prog 103 #[.pointer (some ⟨p, 0, none⟩)] w (DoesD B w p z (advance m)) := by
  have H := Lib.hid h
  have hmem := dmembers_any h f
  obtain ⟨vs, nx, mt, fr, h0⟩ := h
  have c3 := DN.c3 h0
  have hplt := h0.plt
  have hcl := cfg_lt f
  have hid := f.id
  have hreach : ∀ W, Below w.heap.size w W → Calls Tryz.prog 125 #[.int .u64 (cfg m : Int), .slice (some ⟨p, 15, none⟩) 7 7] W fun e w' => e = .returned (.int .u64 (best m : Int)) ∧ Below W.heap.size W w' := fun W hb =>
    (RefReach.rreached_any (cfg m) (by omega) (some ⟨p, 15, none⟩) 7 7 mt W (DN.matReads (NodeAt.below h0 hb) fr)).mono fun e w' ⟨r, h1, h2, h3⟩ => ⟨by rw [h1, show best m = r from reach_of (by rw [fr.t hr] at h2; exact h2)], h3⟩
  have hterm : ∀ W, Below w.heap.size w W → Calls Tryz.prog 77 #[.pointer (some ⟨z.q, 0, none⟩), .int .u64 (best m : Int)] W (RefB.TermIs W (term m.g (best m))) := fun W hb => RefB.rterm_any (NodeAt.below h0 hb).log f.fine (best m)
  have hhas := fun W => QuoWalkB.rhas_any (cfg m) (by omega) (m.id : Int) W
  obtain ⟨hh, hhh⟩ : ∃ hh, has (cfg m) (m.id : Int) = hh := ⟨_, rfl⟩
  rw [hhh] at hhas
  obtain ⟨bt, hbt⟩ : ∃ bt, ofTerm m (best m) = bt := ⟨_, rfl⟩
  have HR0 : Hid (advance m = if (bt && decide (m.commit < best m)) = true then (if (decide (since m ≤ best m) && !hh) = true then gone m else reached m) else m) := Lib.hid (by unfold advance mayAdvance goes; rw [hbt, hhh])
  have hbb := best_b f
  unfold ofTerm at hbt
  obtain ⟨A, hA⟩ : ∃ A, cfg m = A := ⟨_, rfl⟩
  obtain ⟨S, hS⟩ : ∃ S, since m = S := ⟨_, rfl⟩
  obtain ⟨X, hX⟩ : ∃ X, best m = X := ⟨_, rfl⟩
  obtain ⟨I, hI⟩ : ∃ I, m.id = I := ⟨_, rfl⟩
  obtain ⟨C, hC⟩ : ∃ C, m.commit = C := ⟨_, rfl⟩
  obtain ⟨T, hT⟩ : ∃ T, m.term = T := ⟨_, rfl⟩
  rw [hA] at hmem hreach hhas
  rw [hX] at hreach hterm hbb HR0 hbt
  rw [hS] at hmem HR0
  rw [hC] at HR0
  rw [hI] at hhas
  rw [hT] at hbt
  obtain ⟨tm, htm⟩ : ∃ tm, term m.g X = tm := ⟨_, rfl⟩
  rw [htm] at hterm hbt
  obtain ⟨M, hM⟩ : ∃ M, advance m = M := ⟨_, rfl⟩
  rw [hM] at HR0 ⊢
  have F := Lib.hid f
  have HMem := Lib.hid hmem
  have HReach := Lib.hid hreach
  have HTerm := Lib.hid hterm
  have HHas := Lib.hid hhas
  have HX := Lib.hid hX
  have HI := Lib.hid hI
  have HC := Lib.hid hC
  have HT := Lib.hid hT
  have HBt := Lib.hid hbt
  have HRole := Lib.hid hr
  clear hmem hreach hterm hhas hbt hhh hA hS hX hI hC hT hM f hcl hid htm hr h0 fr c3
  have hbase : ∀ W, Below w.heap.size w W → W.cell? ⟨p, 3, none⟩ = some (.pointer (some ⟨z.q, 0, none⟩)) ∧ W.cell? ⟨p, 1, none⟩ = some (.int .u64 (T : Int)) ∧ W.cell? ⟨p, 6, none⟩ = some (.int .u64 (C : Int)) ∧ W.cell? ⟨p, 0, none⟩ = some (.int .i64 (I : Int)) ∧ p < W.heap.size ∧ W.frozen? ⟨p, 6, none⟩ = false := fun W hb => by
    obtain ⟨vs, nx, mt, fr, h⟩ := H.out.below hb
    exact ⟨DN.c3 h, by rw [← HT.out]; exact DN.c1 h, by rw [← HC.out]; exact DN.c6 h, by rw [← HI.out]; exact DN.c0 h, h.plt, NodeAt.free h 6⟩
  have HBs := Lib.hid hbase
  clear hbase
  go_enter Tryz.func103, Tryz.ntmps103
  go_wp2_with fail
  with_reducible refine HMem.out.mono ?_
  rintro e w1 ⟨rfl, hb1⟩
  go_wp2_with fail
  with_reducible refine (HReach.out _ hb1).mono ?_
  rintro e w2 ⟨rfl, hb2⟩
  have hB2 := hb1.trans (hb2.mono hb1.size)
  obtain ⟨c3, c1, c6, c0, hpl, f6⟩ := HBs.out _ hB2
  have HB2 := Lib.hid hB2
  clear hb1 hb2 hB2
  go_wp2_with fail
  with_reducible refine (HTerm.out _ HB2.out).mono ?_
  intro e w3 ht3
  unfold RefB.TermIs at ht3
  obtain ⟨rfl, rfl⟩ := ht3
  cases tm with
  | none =>
    have hb : bt = false := HBt.out.symm.trans (by simp)
    have HM : Hid (M = m) := Lib.hid (by rw [HR0.out, hb]; simp)
    clear HR0 hb HTerm HBt
    simp only [Option.getD_none, Option.isSome_none, Bool.false_eq_true, if_false]
    go_wp2
    (try simp only [Exit.inBlock, Exit.then]); refine bodyPost_ret (results_none rfl _ _ _) rfl ?_
    rw [HM.out]
    exact ⟨rfl, LeftD.of_below H.out HB2.out⟩
  | some t =>
    simp only [Option.getD_some, Option.isSome_some, if_true]
    have hbt' : bt = decide (t = T) := HBt.out.symm.trans (by simp)
    have HBt' := Lib.hid hbt'
    clear HTerm HBt hbt'
    by_cases htT : t = T
    · by_cases hle : X ≤ C
      · have HM : Hid (M = m) := Lib.hid (by rw [HR0.out]; simp; omega)
        have hne : ((t : Int) != (T : Int)) = false := by simp [htT]
        clear HR0 htT
        go_wp2
        (try simp only [Exit.inBlock, Exit.then]); refine bodyPost_ret (results_none rfl _ _ _) rfl ?_
        rw [HM.out]
        exact ⟨rfl, LeftD.of_below H.out HB2.out⟩
      · have hlt : C < X := by omega
        have hne : ((t : Int) != (T : Int)) = false := by simp [htT]
        obtain ⟨vs, nx, mt, fr, h3⟩ := H.out.below HB2.out
        obtain ⟨h4, g4⟩ := DN.setTo h3 6 (.int .u64 (X : Int)) (reached m) vs nx mt (by unfold reached; rw [HX.out]; rfl) rfl rfl rfl
        have hD4 : DAt B (w2.setCell ⟨p, 6, none⟩ (.int .u64 (X : Int))) p z (reached m) := ⟨vs, nx, mt, ⟨fr.v, fr.n, fr.t, fr.nl, fr.ml⟩, h4⟩
        have d0 := DN.c0 h4
        rw [show (reached m).id = I from HI.out] at d0
        have HM : Hid (M = if (decide (S ≤ X) && !hh) = true then gone m else reached m) := Lib.hid (by rw [HR0.out, HBt'.out, decide_eq_true htT, decide_eq_true hlt, Bool.true_and, if_pos rfl])
        have hplt4 := NodeAt.plt h4
        have H4 := Lib.hid hD4
        have G4 := Lib.hid g4
        clear HR0 h4 g4 hD4 h3 fr htT HBt'
        by_cases hsx : S ≤ X
        · cases hh with
          | true =>
            have HM2 : Hid (M = reached m) := Lib.hid (by rw [HM.out]; simp)
            clear HM
            go_wp2_with fail
            with_reducible refine (HHas.out _).mono ?_
            rintro e w5 ⟨rfl, rfl⟩
            go_wp2
            go_end0
            rw [HM2.out]
            exact ⟨rfl, LeftD.afterBelow HB2.out ⟨z, H4.out, G4.out⟩⟩
          | false =>
            have HM2 : Hid (M = gone m) := Lib.hid (by rw [HM.out, decide_eq_true hsx]; rfl)
            clear HM
            go_wp2_with fail
            with_reducible refine (HHas.out _).mono ?_
            rintro e w5 ⟨rfl, rfl⟩
            go_wp2_with fail
            with_reducible refine (dbeat_any H4.out (reached_b F.out) hN).mono ?_
            rintro e w6 ⟨rfl, z6, ⟨vs6, nx6, mt6, fr6, h6⟩, g6⟩
            obtain ⟨M1, hM1⟩ : ∃ M1, beat (reached m) = M1 := ⟨_, rfl⟩
            have hgone : gone m = { retire M1 with leader := -1 } := by unfold gone; rw [hM1]
            rw [hM1] at h6 fr6
            have e4 := DN.c4 h6
            have ff := fun i => NodeAt.free h6 i
            have hplt6 := NodeAt.plt h6
            obtain ⟨h7, g7⟩ := DN.setTo h6 4 (.int .i64 0) { M1 with role := 0 } vs6 nx6 mt6 rfl rfl rfl rfl
            have e5 := DN.c5 h7
            have ff7 := fun i => NodeAt.free h7 i
            have hplt7 := NodeAt.plt h7
            obtain ⟨h8, g8⟩ := DN.setTo h7 5 (.int .i64 (-1)) (gone m) vs6 nx6 mt6 (by rw [hgone]; rfl) (by rw [hgone]; rfl) (by rw [hgone]; rfl) (by rw [hgone]; rfl)
            have hr0 : (gone m).role = 0 := by rw [hgone]; rfl
            have hD8 : DAt B _ p z6 (gone m) := ⟨vs6, nx6, mt6, Fr.idle hr0 fr6.nl fr6.ml, h8⟩
            have H8 := Lib.hid hD8
            have G8 := Lib.hid (((G4.out.trans g6).trans g7).trans g8)
            clear h6 g6 h7 g7 h8 g8 hD8 fr6 hM1 hgone hr0
            go_wp2
            go_end0
            rw [HM2.out]
            exact ⟨rfl, LeftD.afterBelow HB2.out ⟨z6, H8.out, G8.out⟩⟩
        · have HM2 : Hid (M = reached m) := Lib.hid (by rw [HM.out]; simp; omega)
          clear HM
          go_wp2
          go_end0
          rw [HM2.out]
          exact ⟨rfl, LeftD.afterBelow HB2.out ⟨z, H4.out, G4.out⟩⟩
    · have HM : Hid (M = m) := Lib.hid (by rw [HR0.out, HBt'.out, decide_eq_false htT]; simp)
      have hne : ((t : Int) != (T : Int)) = true := by simp; omega
      clear HR0 htT HBt'
      go_wp2
      (try simp only [Exit.inBlock, Exit.then]); refine bodyPost_ret (results_none rfl _ _ _) rfl ?_
      rw [HM.out]
      exact ⟨rfl, LeftD.of_below H.out HB2.out⟩
end
end Go.Proofs.YtojmbbldehbjfaaGreat.DWd
