/- What the document's drop leaves, walked. -/
import Derived.Test.YtecejikolgkihaaRMem
import Derived.Deep.CutRange
set_option linter.unusedVariables false
namespace Go.Proofs.Ytecejikolgkihaa.RDrop
open Go.RowKit Go.Proofs.Ytecejikolgkihaa.Kit Go.Proofs.Ytecejikolgkihaa.Blocks Go.Proofs.Ytecejikolgkihaa.Whl Go.Proofs.Ytecejikolgkihaa.Tms Go.Proofs.Ytecejikolgkihaa.WalkG Go.Proofs.Ytecejikolgkihaa.RMem

/-- Behind the first statement. -/
def Mid0 (B : Nat) (w : World) (q : Nat) (va vb : Value) (now : Nat) (D D' : List Tm) (wx : World) : Prop :=
  ∃ va', wx.heap[q]? = some (.cells #[.int .u64 (now : Int), va', vb] 31 (0, 0)) ∧ wx.ownsRow B 3 1 va' D'.length (idv D') ∧ wx.ownsRow B 27 1 vb D.length (duv D) ∧ Only (FootR q va vb) w wx ∧
    va'.ownBlock ≠ some q ∧ (∀ g, va'.ownBlock = some g → vb.ownBlock ≠ some g) ∧ ∀ g, va'.ownBlock = some g → w.heap.size ≤ g
/-- A row's slice, and where its end begins. -/
theorem rest_at {g o n c j : Nat} {w : World} {xs : List Value} (hr : Reads w w.heap.size 1 (some ⟨g, o, none⟩) n xs) (hj : j ≤ n) (hc : n ≤ c) :
    ∃ A2, (if c = j then some (⟨g, o, none⟩ : Addr) else some ⟨g, o + j, none⟩) = some A2 ∧ Reads w w.heap.size 1 (some A2) (n - j) (xs.drop j) := by
  have h := hr.from_ hj hc
  unfold cutA at h
  split at h
  · rename_i e
    exact ⟨⟨g, o, none⟩, if_pos e, h⟩
  · rename_i e
    refine ⟨⟨g, o + j, none⟩, if_neg e, ?_⟩
    simpa [Addr.add_lit] using h
theorem erase_cells {D : List Tm} {i j : Nat} (hj : j = i + 1) : idv (D.eraseIdx i) = (idv D).take i ++ (idv D).drop j ∧ duv (D.eraseIdx i) = (duv D).take i ++ (duv D).drop j := by
  subst hj
  rw [List.eraseIdx_eq_take_drop_succ, idv_append, duv_append, idv_take, idv_drop, duv_take, duv_drop]
  exact ⟨rfl, rfl⟩
theorem own_at {B n : Nat} {e : TypeId} {w : World} {v : Value} {xs : List Value} (h : w.ownsRow B e 1 v n xs) (hn : 0 < n) : ∃ g c, v = .slice (some ⟨g, 0, none⟩) n c ∧ n ≤ c ∧ c ≤ 9223372036854775807 ∧ g < w.heap.size ∧ Reads w w.heap.size 1 (some ⟨g, 0, none⟩) n xs := by
  have h' := h
  rcases h.2 with ⟨_, h0⟩ | ⟨g, cap, cur, rfl, _, hg, h1, h2, _⟩
  · omega
  · unfold maxLen at h2
    exact ⟨g, cap, rfl, h1, by omega, lt_at hg, Reads.of_own h'⟩
section
variable {B : Nat} {w : World} {q : Nat} {va vb : Value} {now : Nat} {D : List Tm}
set_option maxRecDepth 100000 in
set_option maxHeartbeats 8000000 in
theorem drop_any (h : RAt B w q va vb now D) {i : Nat} (hi : i < D.length) (hfew : D.length ≤ 1000) :
    Calls Try.prog 28 #[.pointer (some ⟨q, 0, none⟩), .int .i64 (i : Int)] w fun e w' => (∃ v, e = .returned v) ∧ LeftR B w q va vb now (D.eraseIdx i) w' := by
  obtain ⟨j, hj⟩ : ∃ j, j = i + 1 := ⟨_, rfl⟩
  have hji : (i : Int) + 1 = (j : Int) := by omega
  have hjw : IntKind.i64.wrap (j : Int) = (j : Int) := by rw [IntKind.wrap_i64]; omega
  obtain ⟨n, hn⟩ : ∃ n, D.length = n := ⟨_, rfl⟩
  have hlenE : (D.eraseIdx i).length = i + (n - j) := by rw [List.length_eraseIdx, if_pos hi]; omega
  obtain ⟨eI, eU⟩ := erase_cells (D := D) hj
  have HLE := Lib.hid hlenE
  have HEI := Lib.hid eI
  have HEU := Lib.hid eU
  have HN := Lib.hid hn
  have H := Lib.hid h
  have hqlt := h.qlt
  have hj0 : (0 : Int) ≤ (j : Int) := by omega
  have hjn : j ≤ n := by omega
  have hjnI : (j : Int) ≤ (n : Int) := by omega
  have hi0 : (0 : Int) ≤ (i : Int) := by omega
  have hbig : (i + (n - j)) * 8 ≤ 140737488355328 := by omega
  have hbig1 : i * 8 ≤ 140737488355328 := by omega
  have hin : i ≤ n := by omega
  have hn0 : 0 < n := by omega
  clear hlenE eI eU h hj
  go_enter Try.func28, Try.ntmps28
  go_upto_region 0 with fail
  go_cut [4] from 4 to 20 (fun _ wx => Mid0 B w q va vb now D (D.eraseIdx i) wx)
  case first =>
    obtain ⟨ga, ca, hva, hnc, hcm, hgl, hrd⟩ := own_at H.out.ids (by rw [HN.out]; exact hn0)
    rw [HN.out] at hva hnc hrd
    obtain ⟨oa, hoa⟩ : ∃ oa, oa = 0 := ⟨_, rfl⟩
    rw [← hoa] at hva hrd
    have c1 := H.out.c1
    rw [hva] at c1
    obtain ⟨A2, hA2, hr2⟩ := rest_at hrd hjn hnc
    have hr1 := hrd.upto hin
    have hic : i ≤ ca := by omega
    have hicI : (i : Int) ≤ (ca : Int) := by omega
    have HR1 := Lib.hid hr1
    have HR2 := Lib.hid hr2
    have HVA := Lib.hid hva
    have o1 : ∀ (l : List Value), (∀ u ∈ l, u.oneCell' = true) → ∀ k, (∀ u ∈ l.take k, u.oneCell' = true) ∧ ∀ u ∈ l.drop k, u.oneCell' = true := fun l hl k => ⟨fun u hu => hl u (List.mem_of_mem_take hu), fun u hu => hl u (List.mem_of_mem_drop hu)⟩
    have HO1 := Lib.hid (o1 _ (idv_one D))
    clear hva hoa hrd hr1 hr2 o1
    go_wp2_with fail
    go_region_law (first
      | (refine step_fresh Try.underlying28 infoI rfl _ rfl _ _ rfl w.heap.size rfl rfl (Reads.drew HR1.out) (HO1.out i).1 hbig1 (Nat.le_refl _) ?_
         intro A3 c3 w3 hown3 hb3 hat3
         have hb3' : Below w.heap.size w w3 := ⟨hb3.os, hb3.tape, hb3.output, hb3.size, hb3.block⟩
         have d1 : w3.cell? ⟨q, 1, none⟩ = some (.slice (some ⟨ga, oa, none⟩) n ca) := (hb3'.cell (p := ⟨q, 1, none⟩) hqlt).trans c1
         have l3 : q < w3.heap.size := Nat.lt_of_lt_of_le hqlt hb3'.size
         have HR3 := Lib.hid ((HR2.out.below hb3').more hb3'.size)
         have HOwn3 := Lib.hid hown3
         have HB3 := Lib.hid hb3'
         clear hown3 hb3 hat3 hb3')
      | (refine step_own (v := .slice A3 i c3) Try.underlying28 infoI rfl w3 rfl _ _ rfl w.heap.size rfl HOwn3.out rfl HR3.out (HO1.out j).2 hbig HB3.out.size ?_
         intro A4 c4 w4 hown4 hg4 hat4
         have hb4 : Below w.heap.size w w4 := HB3.out.grown hg4 HB3.out.size fun g hg => (HOwn3.out.lt g hg).1
         have hlow4 : ∀ g, (Value.slice A4 (i + (n - j)) c4).ownBlock = some g → w.heap.size ≤ g := fun g hg => (hown4.lt g hg).1
         obtain ⟨q1, q2, q3, q4, q5, q6, q7, q8⟩ := H.out.ided (v := .slice A4 (i + (n - j)) c4) (Only.of_below hb4) (own_base hown4 H.out.base) (fun g hg => .inr (hlow4 g hg))
         rw [HVA.out] at q1
         have l4 : q < w4.heap.size := Nat.lt_of_lt_of_le hqlt hb4.size
         have Q3 := Lib.hid q3
         have Q4 := Lib.hid q4
         have Q5 := Lib.hid q5
         have Q6 := Lib.hid q6
         have Q7 := Lib.hid q7
         have Q8 := Lib.hid q8
         have HLow4 := Lib.hid hlow4
         clear hown4 hg4 hat4 hb4 hlow4 q3 q4 q5 q6 q7 q8))
    all_goals
      go_wp2_with fail
      go_meet
      exact ⟨_, Q3.out, by rw [HLE.out, HEI.out]; exact Q4.out, by rw [HN.out]; exact (HN.out ▸ Q5.out), Q6.out, Q7.out, Q8.out, HLow4.out⟩
  case rest =>
    obtain ⟨va', hcell, hids, hdues, ho, hna, hab, hlow⟩ := hcut
    obtain ⟨gb, cb, hvb, hnc, hcm, hgl, hrd⟩ := own_at hdues (by rw [HN.out]; exact hn0)
    rw [HN.out] at hvb hnc hrd
    obtain ⟨ob, hob⟩ : ∃ ob, ob = 0 := ⟨_, rfl⟩
    rw [← hob] at hvb hrd
    have c2 : wc.cell? ⟨q, 2, none⟩ = some vb := by rw [cell_at hcell]; rfl
    rw [hvb] at c2
    obtain ⟨A2, hA2, hr2⟩ := rest_at hrd hjn hnc
    have hr1 := hrd.upto hin
    have hic : i ≤ cb := by omega
    have hicI : (i : Int) ≤ (cb : Int) := by omega
    have hqlt2 : q < wc.heap.size := lt_at hcell
    have HR1 := Lib.hid hr1
    have HR2 := Lib.hid hr2
    have HVB := Lib.hid hvb
    have HCell := Lib.hid hcell
    have HIds := Lib.hid hids
    have HO := Lib.hid ho
    have HNa := Lib.hid hna
    have HAb := Lib.hid hab
    have HLow := Lib.hid hlow
    have o1 : ∀ (l : List Value), (∀ u ∈ l, u.oneCell' = true) → ∀ k, (∀ u ∈ l.take k, u.oneCell' = true) ∧ ∀ u ∈ l.drop k, u.oneCell' = true := fun l hl k => ⟨fun u hu => hl u (List.mem_of_mem_take hu), fun u hu => hl u (List.mem_of_mem_drop hu)⟩
    have HO1 := Lib.hid (o1 _ (duv_one D))
    clear hvb hob hrd hr1 hr2 o1 hcell hids hdues ho hna hab hlow
    go_wp2_with fail
    go_region_law (first
      | (refine step_fresh Try.underlying29 infoU rfl _ rfl _ _ rfl wc.heap.size rfl rfl (Reads.drew HR1.out) (HO1.out i).1 hbig1 (Nat.le_refl _) ?_
         intro A3 c3 w3 hown3 hb3 hat3
         have hb3' : Below wc.heap.size wc w3 := ⟨hb3.os, hb3.tape, hb3.output, hb3.size, hb3.block⟩
         have d1 : w3.cell? ⟨q, 2, none⟩ = some (.slice (some ⟨gb, ob, none⟩) n cb) := (hb3'.cell (p := ⟨q, 2, none⟩) hqlt2).trans c2
         have l3 : q < w3.heap.size := Nat.lt_of_lt_of_le hqlt2 hb3'.size
         have HR3 := Lib.hid ((HR2.out.below hb3').more hb3'.size)
         have HOwn3 := Lib.hid hown3
         have HB3 := Lib.hid hb3'
         clear hown3 hb3 hat3 hb3')
      | (refine step_own (v := .slice A3 i c3) Try.underlying29 infoU rfl w3 rfl _ _ rfl wc.heap.size rfl HOwn3.out rfl HR3.out (HO1.out j).2 hbig HB3.out.size ?_
         intro A4 c4 w4 hown4 hg4 hat4
         have hb4 : Below wc.heap.size wc w4 := HB3.out.grown hg4 HB3.out.size fun g hg => (HOwn3.out.lt g hg).1
         have hlow4 : ∀ g, (Value.slice A4 (i + (n - j)) c4).ownBlock = some g → wc.heap.size ≤ g := fun g hg => (hown4.lt g hg).1
         obtain ⟨q1, q2, q3, q4⟩ := dued (D' := D.eraseIdx i) (v := .slice A4 (i + (n - j)) c4) HCell.out HIds.out H.out.low HNa.out H.out.nb HAb.out (Only.of_below hb4) (own_base hown4 (Nat.le_trans H.out.base HO.out.size)) HLE.out.symm HEU.out.symm (fun g hg => .inr (hlow4 g hg))
         rw [HVB.out] at q1
         have l4 : q < w4.heap.size := Nat.lt_of_lt_of_le hqlt2 hb4.size
         have Q3 := Lib.hid q3
         have Q4 := Lib.hid q4
         have HLow4 := Lib.hid hlow4
         clear hown4 hg4 hat4 hb4 hlow4 q3 q4))
    all_goals
      go_wp2
      go_end0
      refine ⟨⟨_, rfl⟩, va', _, Q3.out, HO.out.trans' Q4.out fun g hg => ?_, fun g hg => ?_⟩
      · rcases hg with hg | hg | hg
        · exact .inl (.inl hg)
        · exact .inr (HLow.out g hg)
        · exact .inl (.inr (.inr hg))
      · rcases hg with hg | hg | hg
        · exact .inl (.inl hg)
        · exact .inr (HLow.out g hg)
        · exact .inr (Nat.le_trans HO.out.size (HLow4.out g hg))
end
end Go.Proofs.Ytecejikolgkihaa.RDrop
