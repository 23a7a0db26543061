/- What the program's send and appended leave, walked. -/
import Derived.Test.YtdbmpfongfiagaaWalkA
set_option linter.unusedVariables false
namespace Go.Proofs.Ytdbmpfongfiagaa.WalkB
open Go.RowKit Go.Proofs.Ytdbmpfongfiagaa.Kit Go.Proofs.Ytdbmpfongfiagaa.Blocks Go.Proofs.Ytdbmpfongfiagaa.Rlog Go.Proofs.Ytdbmpfongfiagaa.Ents Go.Proofs.Ytdbmpfongfiagaa.LogAt Go.Proofs.Ytdbmpfongfiagaa.Nod Go.Proofs.Ytdbmpfongfiagaa.NodAt Go.Proofs.Ytdbmpfongfiagaa.AppL Go.Proofs.Ytdbmpfongfiagaa.WalkA

/-- What a call that answers nothing leaves. -/
def Does (B : Nat) (w : World) (p : Nat) (z : Seat) (m' : Nd) (e : Ending) (w' : World) : Prop := e = .returned (.tuple #[]) ∧ LeftP B w p z m' w'
section
variable {B p N : Nat} {z : Seat} {m : Nd} {w : World}
/-- A letter more behind the others: the new row and its field. -/
theorem PAt.posted (h : PAt B w p z m) {w0 w1 : World} {v' : Value} {n : Nat} {xs : List Value} {x : Msg} {a : Pl} (hb : Below w.heap.size w w0) (hf : Fit w (Far p z) x a) (o : Only (fun q => z.vo.ownBlock = some q) w0 w1)
    (hown : w1.ownsRow B 41 10 v' n xs) (hn : n = z.Z.length + 1) (hx : xs = lcs z.Z ++ ltCs (sign m x) a) (hat : ∀ q, v'.ownBlock = some q → z.vo.ownBlock = some q ∨ w.heap.size ≤ q) :
    w1.cell? ⟨p, 1, none⟩ = some z.vo ∧ w1.frozen? ⟨p, 1, none⟩ = false ∧ p < w1.heap.size ∧ LeftP B w p z (post m x) (w1.setCell ⟨p, 1, none⟩ v') := by
  have o' : Only (fun q => z.vo.ownBlock = some q) w w1 := (Only.of_below hb).trans o
  have := NodeAt.reout (Z' := z.Z ++ [(sign m x, a)]) (out' := m.out ++ [sign m x]) h o' hown (by simp [hn]) (by rw [lcs_append, lcs_single, hx]) hat (by simp [h.said]) (fun y hy => by
    rcases List.mem_append.1 hy with hy | hy
    · exact h.fit y hy
    · rw [List.mem_singleton.1 hy]
      exact ⟨hf.re, hf.fits, hf.max, hf.few, hf.off⟩) 1
  obtain ⟨h1, h2, h3⟩ := this
  refine ⟨by rw [cell_at h1]; rfl, free_at h1 1, lt_at h1, _, h2, h3⟩
set_option maxHeartbeats 4000000 in
theorem send_any (h : PAt B w p z m) (f : NdB N m) (hN : N ≤ 1000000000) (x : Msg) (a : Pl) (hf : Fit w (Far p z) x a) :
    Calls Try.prog 31 #[.pointer (some ⟨p, 0, none⟩), ltV x a] w (Does B w p z (post m x)) := by
  have hba : Below w.heap.size w (w.alloc (.cells (ltCs x a).toArray 41)) := (Below.refl _ _).alloc (Nat.le_refl _) _
  have hbx := LBox.new w x a
  have h1 := PAt.below h hba
  have c1 := h1.c1
  have c4 := h1.c4
  have c5 := h1.c5
  have hsx : ∀ (k f t : Int) (tm ix pv cm : Nat) (ok : Bool) (es : List Ent) (d : ByteArray), x = ⟨k, f, t, tm, ix, pv, cm, ok, es, d⟩ → sign m x = ⟨k, (m.id : Int), t, m.term, ix, pv, cm, ok, es, d⟩ := by
    rintro k f t tm ix pv cm ok es d rfl
    rfl
  have HX := Lib.hid hsx
  have H := Lib.hid h
  have HF := Lib.hid hf
  have F := Lib.hid f
  have hplt := h.plt
  obtain ⟨I, hI⟩ : ∃ I, m.id = I := ⟨_, rfl⟩
  obtain ⟨T, hT⟩ : ∃ T, m.term = T := ⟨_, rfl⟩
  rw [hI] at c4
  rw [hT] at c5
  obtain ⟨M, hM⟩ : ∃ M, post m x = M := ⟨_, rfl⟩
  rw [hM]
  have HM := Lib.hid hM
  have HI := Lib.hid hI
  have HT := Lib.hid hT
  clear hsx hI hT hM h1 h hf f
  obtain ⟨kd, fr, tt, tm, ix, pv, cm, ok, es, d⟩ := x
  unfold ltV
  simp only [ltCs] at hba hbx c1 c4 c5 ⊢
  have hlt := hbx.lt
  have f1 := hbx.free 1
  have f3 := hbx.free 3
  have x0 := hbx.c0
  have x1 := hbx.c1
  have x2 := hbx.c2
  have x3 := hbx.c3
  have x4 := hbx.c4
  have x5 := hbx.c5
  have x6 := hbx.c6
  have x7 := hbx.c7
  have x8 := hbx.c8
  have x9 := hbx.c9
  obtain ⟨w0, hw0⟩ : ∃ w0, w.alloc (.cells [.int .i64 kd, .int .i64 fr, .int .i64 tt, .int .u64 (tm : Int), .int .u64 (ix : Int), .int .u64 (pv : Int), .int .u64 (cm : Int), .bool ok, .slice a.A a.n a.c, .string d].toArray 41) = w0 := ⟨_, rfl⟩
  rw [hw0] at hba hbx c1 c4 c5 hlt f1 f3 x0 x1 x2 x3 x4 x5 x6 x7 x8 x9
  have HW0 := Lib.hid hw0
  have HBA := Lib.hid hba
  have HBX := Lib.hid hbx
  clear hw0 hba hbx
  go_enter Try.func31, Try.ntmps31
  go_wp2_with fail
  rw [HW0.out]
  go_region
  obtain ⟨hsg, hon⟩ := HBX.out.signed m
  rw [HI.out, HT.out] at hsg hon
  generalize (w0.setCell ⟨w.heap.size, 1, none⟩ (.int .i64 (I : Int))).setCell ⟨w.heap.size, 3, none⟩ (.int .u64 (T : Int)) = w1 at hsg hon ⊢
  have hB0 : Below w.heap.size w w1 := below_only HBA.out hon (Nat.le_refl _) (fun q hq => by rw [hq]; exact Nat.le_refl _)
  have hB1 : Below w.heap.size w w1.drew := hB0.drew
  have h2 := H.out.below hB1
  have k1 := h2.c1
  have y0 := hsg.c0
  have y1 := hsg.c1
  have y2 := hsg.c2
  have y3 := hsg.c3
  have y4 := hsg.c4
  have y5 := hsg.c5
  have y6 := hsg.c6
  have y7 := hsg.c7
  have y8 := hsg.c8
  have y9 := hsg.c9
  have hsx : sign m ⟨kd, fr, tt, tm, ix, pv, cm, ok, es, d⟩ = ⟨kd, (I : Int), tt, T, ix, pv, cm, ok, es, d⟩ := by rw [HX.out kd fr tt tm ix pv cm ok es d rfl, HI.out, HT.out]
  rw [hsx] at y0 y1 y2 y3 y4 y5 y6 y7 y9
  simp only at y0 y1 y2 y3 y4 y5 y6 y7 y9
  have hown := h2.outs
  have hbase := h2.base
  obtain ⟨A, c, hv, hnc, hcm, _⟩ := own_form hown
  obtain ⟨n, hn⟩ : ∃ n, z.Z.length = n := ⟨_, rfl⟩
  rw [hn] at hv hown hnc
  have hroom : (n + 1) * 104 ≤ 140737488355328 := by
    have h5 : m.out.length = z.Z.length := by rw [← h2.said, List.length_map]
    have h6 := F.out.out
    omega
  have HNW : Hid (RL (w1.alloc (.cells (ltCs ⟨kd, (I : Int), tt, T, ix, pv, cm, ok, es, d⟩ a).toArray 41)).drew.drew (w1.heap.size + 1) (some ⟨w1.heap.size, 0, none⟩) 1 [(⟨kd, (I : Int), tt, T, ix, pv, cm, ok, es, d⟩, a)]) := Reads.drew (Reads.drew (lt_new w1 ⟨kd, (I : Int), tt, T, ix, pv, cm, ok, es, d⟩ a 41))
  simp only [ltCs] at HNW
  have HO : Hid (∀ o, (w1.alloc o).drew.drew.ownsRow B 41 10 z.vo n (lcs z.Z)) := fun o => (Only.of_below (S := fun _ => False) (((Below.refl w1.drew.heap.size w1.drew).alloc (Nat.le_refl _) o).drew)).own hown (fun _ _ e => e)
  have HBS : Hid (∀ o, B ≤ (w1.alloc o).drew.drew.heap.size) := fun o => Nat.le_trans hbase ((Below.refl w1.heap.size w1).alloc (Nat.le_refl _) o).size
  have HFIN : Hid (∀ W0, Below w.heap.size w W0 → ∀ v' c' w3, w3.ownsRow B 41 10 (.slice v' (n + 1) c') (n + 1) (lcs z.Z ++ ltCs ⟨kd, (I : Int), tt, T, ix, pv, cm, ok, es, d⟩ a) → W0.grownBy w3 z.vo.ownBlock →
      ((Value.slice v' (n + 1) c').ownBlock = z.vo.ownBlock ∨ (Value.slice v' (n + 1) c').ownBlock = some W0.heap.size) →
      w3.cell? ⟨p, 1, none⟩ = some z.vo ∧ w3.frozen? ⟨p, 1, none⟩ = false ∧ p < w3.heap.size ∧ LeftP B w p z M (w3.setCell ⟨p, 1, none⟩ (.slice v' (n + 1) c'))) := by
    intro W0 hbo v' c' w3 ho hg hat
    rw [← HM.out]
    refine PAt.posted (x := ⟨kd, fr, tt, tm, ix, pv, cm, ok, es, d⟩) (a := a) H.out hbo HF.out ((Only.refl (fun q => z.vo.ownBlock = some q) _).grown hg (fun q hq => .inr hq)) ho (by rw [hn]) (by rw [hsx]) fun q hq => ?_
    rcases hat with e | e
    · exact .inl (e ▸ hq)
    · rw [hq] at e; cases e; exact .inr hbo.size
  have HV := Lib.hid hv
  have HBW : Hid (∀ o, Below w.heap.size w (w1.alloc o).drew.drew) := fun o => (hB0.alloc hB0.size o).drew.drew
  have hlt1 : p < w1.heap.size := h2.plt
  clear hsg hon hB1 hB0 h2 hsx hown hbase hn hv c1 c4 c5 x0 x1 x2 x3 x4 x5 x6 x7 x8 x9 f1 f3 hlt
  have k1' : w1.cell? ⟨p, 1, none⟩ = some (.slice A n c) := by rw [← HV.out]; exact k1
  rw [HV.out] at HO HFIN
  clear k1
  go_wp2_with fail
  go_region_law (first
    | (refine step_appL (v := .slice A n c) (xs := lcs z.Z) _ rfl _ _ rfl B rfl (HO.out _) rfl HNW.out (fun u hu => ltCs_one ⟨kd, (I : Int), tt, T, ix, pv, cm, ok, es, d⟩ a u (by simpa [lcs_single] using hu)) hroom (HBS.out _) ?_
       intro A' c' w3 hown3 hg3 hat3
       obtain ⟨q1, q2, q3, q4⟩ := HFIN.out _ (HBW.out _) A' c' w3 (by rw [← lcs_single (⟨kd, (I : Int), tt, T, ix, pv, cm, ok, es, d⟩, a)]; exact hown3) hg3 hat3
       have Q4 := Lib.hid q4
       clear q4 hown3 hg3 hat3))
  all_goals go_wp2
  all_goals go_end0
  all_goals exact ⟨rfl, Q4.out⟩
theorem reply_any (h : PAt B w p z m) (f : NdB N m) (hN : N ≤ 1000000000) (to_ : Int) (ix : Nat) (ok : Bool) :
    Calls Try.prog 36 #[.pointer (some ⟨p, 0, none⟩), .int .i64 to_, .int .u64 (ix : Int), .bool ok] w (Does B w p z (reply m to_ ix ok)) := by
  have hs : Calls Try.prog 31 #[.pointer (some ⟨p, 0, none⟩), .agg #[.int .i64 4, .int .i64 0, .int .i64 to_, .int .u64 0, .int .u64 (ix : Int), .int .u64 0, .int .u64 0, .bool ok, .slice none 0 0, .string ⟨#[]⟩]] w (Does B w p z (post m { blankM with k := 4, t := to_, ix := ix, ok := ok })) :=
    send_any h f hN { blankM with k := 4, t := to_, ix := ix, ok := ok } noPl (Fit.none w _ rfl)
  unfold reply
  obtain ⟨M, hM⟩ : ∃ M, post m { blankM with k := 4, t := to_, ix := ix, ok := ok } = M := ⟨_, rfl⟩
  rw [hM] at hs ⊢
  have HS := Lib.hid hs
  clear hs hM h f
  go_enter Try.func36, Try.ntmps36
  go_wp2_with fail
  with_reducible refine HS.out.mono ?_
  rintro e w1 ⟨rfl, hl⟩
  have HL := Lib.hid hl
  clear hl
  go_wp2
  go_end0
  exact ⟨rfl, HL.out⟩
end
end Go.Proofs.Ytdbmpfongfiagaa.WalkB
