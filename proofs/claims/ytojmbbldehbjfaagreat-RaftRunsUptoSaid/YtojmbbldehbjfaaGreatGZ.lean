/- The statement RaftRuns of tontinelaw12, its second form: for every input the call returns true, and each argument reads afterwards as it read before (where the arguments hold together at most 1048576 values and letters). -/
import Derived.Test.YtojmbbldehbjfaaGreatHLightR
import Derived.Test.YtojmbbldehbjfaaGreatGF
import Derived.Test.YtojmbbldehbjfaaGreatGE
import Derived.Deep.RegionHeld3
import Derived.Carry
import Derived.StillTailTactics
import Derived.Deep.CutRange
import Derived.Deep.CutBlock
import Derived.Test.YtojmbbldehbjfaaGreatFrame
import Derived.Test.YtojmbbldehbjfaaGreatHOpensC
import Derived.Deep.CondSized
set_option linter.unusedVariables false
namespace Go.Proofs.YtojmbbldehbjfaaGreat.LawK
open Go.RowKit Go.Proofs.YtojmbbldehbjfaaGreat.Kit Go.Proofs.YtojmbbldehbjfaaGreat.Blocks Go.Proofs.YtojmbbldehbjfaaGreat.Rlog Go.Proofs.YtojmbbldehbjfaaGreat.Ents Go.Proofs.YtojmbbldehbjfaaGreat.LogAt Go.Proofs.YtojmbbldehbjfaaGreat.Nod Go.Proofs.YtojmbbldehbjfaaGreat.NodAt Go.Proofs.YtojmbbldehbjfaaGreat.WalkB Go.Proofs.YtojmbbldehbjfaaGreat.WalkI Go.Proofs.YtojmbbldehbjfaaGreat.WalkJ Go.Proofs.YtojmbbldehbjfaaGreat.Begun Go.Proofs.YtojmbbldehbjfaaGreat.OpensC Go.Proofs.YtojmbbldehbjfaaGreat.LightR Go.Proofs.YtojmbbldehbjfaaGreat.Stp Go.Proofs.YtojmbbldehbjfaaGreat.Duo Go.Proofs.YtojmbbldehbjfaaGreat.DuoN Go.Proofs.YtojmbbldehbjfaaGreat.BothR Go.Proofs.YtojmbbldehbjfaaGreat.Tel

theorem few_of {l : List Ent} {L : List Cal} {k : Nat} {x : Cal} (h : total l L ≤ 600) (hx : L[k]? = some x) : x.x.es.length ≤ 600 ∧ k < 600 := by
  have h1 := sum_mem (f := weigh) (List.mem_of_getElem? hx)
  have h2 : x.x.es.length ≤ weigh x := by unfold weigh; omega
  have h3 := (List.getElem?_eq_some_iff.1 hx).1
  unfold total at h
  omega
section
variable {B N : Nat} {w w8 : World} {p r q idx n0 cl : Nat} {m M2 : Nd} {K : Nat → Prop} {Al : Option Addr}
theorem d_log (h : Duo B w p r m m K) : ∃ (q : Nat) (Al : Option Addr) (cl : Nat), w.cell? ⟨r, 3, none⟩ = some (.pointer (some ⟨q, 0, none⟩)) ∧ w.cell? ⟨q, 0, none⟩ = some (.int .u64 (m.g.snap.idx : Int)) ∧ w.cell? ⟨q, 4, none⟩ = some (.slice Al m.g.es.length cl) ∧ r < w.heap.size ∧ q < w.heap.size ∧ q ≠ p ∧ q ≠ r := by
  obtain ⟨z, y, h1, ⟨vs, nx, mt, fr, h2⟩, o, off⟩ := h.ex
  obtain ⟨Al, cl, hvl, _, _, hrl⟩ := own_form h2.log.own
  have u7 := h2.log.cell
  simp only at hvl u7
  rw [hvl] at u7
  have q3 : w.cell? ⟨r, 3, none⟩ = some (.pointer (some ⟨y.q, 0, none⟩)) := by
    have k := DAt.DN.c3 h2
    exact k
  refine ⟨y.q, Al, cl, q3, by rw [cell_at u7]; rfl, by rw [cell_at u7]; rfl, h2.plt, lt_at u7, fun e => o p (.inl rfl) (.inr (.inl (.inl e.symm))), fun e => h2.d1 (.inl e.symm)⟩
theorem tail_of (hg : Duo B w8 p r M2 M2 K) (f : NdB N M2) (hN : N ≤ 700000000) (h2k : M2.g.es.length ≤ 2000) (c3 : w8.cell? ⟨r, 3, none⟩ = some (.pointer (some ⟨q, 0, none⟩))) (c0 : w8.cell? ⟨q, 0, none⟩ = some (.int .u64 (idx : Int))) (c4 : w8.cell? ⟨q, 4, none⟩ = some (.slice Al n0 cl)) :
    ∃ pq, Calls Tryz.prog 16 #[.pointer (some ⟨p, 0, none⟩)] w8 (fun e w' => e = .returned (.pointer (some ⟨pq, 0, none⟩)) ∧ w8 = w') ∧
      Calls Tryz.prog 19 #[.pointer (some ⟨pq, 0, none⟩), .int .u64 ((idx + 1 : Nat) : Int), .int .i64 2000] w8 (fun e w' => ∃ A c, e = .returned (.slice A n0 c) ∧ Below w8.heap.size w8 w' ∧ ∀ W, Below w'.heap.size w' W → Calls Tryz.prog 18 #[.slice A n0 c, .slice Al n0 cl] W (fun e w'' => e = .returned (.bool true) ∧ Below W.heap.size W w'')) := by
  obtain ⟨q', v, _, _, u3, _, _, _, _, hlg⟩ := d_fields hg
  obtain ⟨pq, hpl⟩ := p_log hg f hN
  obtain ⟨Al', cl', hvl, _, _, hrl⟩ := own_form hlg.own
  have u7 := hlg.cell
  rw [c3] at u3
  cases u3
  rw [hvl] at u7
  have v0 : w8.cell? ⟨q, 0, none⟩ = some (.int .u64 (M2.g.snap.idx : Int)) := by rw [cell_at u7]; rfl
  have v4 : w8.cell? ⟨q, 4, none⟩ = some (.slice Al' M2.g.es.length cl') := by rw [cell_at u7]; rfl
  rw [c0] at v0
  rw [c4] at v4
  have e0 : idx = M2.g.snap.idx := by
    injection v0 with e
    injection e with _ e
    exact Int.ofNat.inj e
  cases v4
  subst e0
  have h8 := hpl w8 (Below.refl _ _)
  refine ⟨pq, h8.1, (h8.2.2 h2k).mono ?_⟩
  rintro e w' ⟨A, c, rfl, hr, hb⟩
  exact ⟨A, c, rfl, hb, fun W hW => Same.ents_any ((Kit.Reads.below hr hW).more hW.size) ((Kit.Reads.below hrl (hb.trans (hW.mono hb.size))).more (Nat.le_trans hb.size hW.size)) (by omega)⟩
end
theorem blank_cal (w : World) (B : Nat) : CalB w B ⟨6, blankM, noPl, ⟨#[]⟩, 0, 0, false⟩ :=
  ⟨by decide, by decide, ⟨by decide, by decide, by decide, by decide, by decide, by decide, by decide, by decide, by decide, by decide, fun e he => (by cases he), by decide⟩, ⟨rfl, fun h => absurd h (by decide)⟩, by decide, by decide, by decide, by decide, by decide, by decide⟩
set_option maxRecDepth 100000 in
set_option maxHeartbeats 8000000 in
theorem runs_walk (z : Beg) (A : Option Addr) (n c : Nat) (l : List Ent) (C : Option Addr) (m cc : Nat) (L : List Cal) (w : World) (hz : BegB z) (hl : CameE w A n c l) (hm : m ≤ 9223372036854775807) (hs : Holds w w.heap.size C m L ∧ total l L ≤ 1048576) :
    Calls Tryz.prog 3 #[begV z A n c, .slice C m cc] w fun e w' => e = .returned (.bool true) ∧ Below w.heap.size w w' := by
  have HBg := Lib.hid begun_true
  have hlen := RE.len hl.reads
  have hn20 : n ≤ 1048576 := by have := hs.2; unfold total at this; omega
  have HLt : Hid (∀ W, Below w.heap.size w W → Calls Tryz.prog 9 #[.slice A n c, .slice C m cc] W fun e w' => e = .returned (.bool (lightB l L)) ∧ Below W.heap.size W w') := Lib.hid fun W hb =>
    light_any A n c l C m cc L W ((Kit.Reads.below hl.reads hb).more hb.size) hl.ents (by omega) (hs.1.below hb hb.size) hm hs.2
  have HNl : Hid (∀ W, Below w.heap.size w W → Calls Tryz.prog 10 #[RlgWalkD.snapV z.s, .slice A n c] W fun e w' => if okL z.s l = true then RlgWalkD.NewLog 89 W ⟨z.s, l⟩ e w' ∧ Fine ⟨z.s, l⟩ else RlgWalkD.NoLog W e w') := Lib.hid fun W hb =>
    newlog_any hz.s A n c l W ((Kit.Reads.below hl.reads hb).more hb.size) hl.ents (by omega)
  have HNm : Hid (∀ W, Below w.heap.size w W → Calls Tryz.prog 11 #[RlgWalkD.snapV z.s, .slice A n c] W fun e w' => if okL z.s l = true then RlgWalkD.NewLog 60 W ⟨z.s, l⟩ e w' else RlgWalkD.NoLog W e w') := Lib.hid fun W hb =>
    rnewlog_any hz.s A n c l W ((Kit.Reads.below hl.reads hb).more hb.size) hl.ents (by omega)
  have HHo := Lib.hid hs.1
  have HLn := Lib.hid hlen
  have HTl : Hid (lightB l L = true → total l L ≤ 600) := Lib.hid fun h => of_decide_eq_true h
  have hzt := hz.t
  have HZS := Lib.hid hz.s
  obtain ⟨zi, zt, zv, zs⟩ := z
  obtain ⟨six, stm, scf, sd⟩ := zs
  simp only at *
  unfold begV
  unfold RlgWalkD.snapV at HNl HNm
  simp only at HNl HNm ⊢
  obtain ⟨w1, hw1⟩ : ∃ w1, w.alloc (.cells #[.int .i64 zi, .int .u64 (zt : Int), .int .i64 zv, .int .u64 (six : Int), .int .u64 (stm : Int), .int .u64 (scf : Int), .string sd, .slice A n c] 29) = w1 := ⟨_, rfl⟩
  have hr1 : w1.heap[w.heap.size]? = some (.cells #[.int .i64 zi, .int .u64 (zt : Int), .int .i64 zv, .int .u64 (six : Int), .int .u64 (stm : Int), .int .u64 (scf : Int), .string sd, .slice A n c] 29 (0, 0)) := by rw [← hw1]; exact heap_alloc_new w _
  have hb1 : Below w.heap.size w w1 := by rw [← hw1]; exact (Below.refl _ w).alloc (Nat.le_refl _) _
  have HW1 := Lib.hid hw1
  have HR1 := Lib.hid hr1
  have HB1 := Lib.hid hb1
  clear hw1 hr1 hb1 hlen hs hl hz
  go_enter Tryz.func3, Tryz.ntmps3
  go_wp2_with fail
  rw [HW1.out]
  with_reducible refine (HBg.out w1).mono ?_
  rintro e w2 ⟨rfl, hb2⟩
  have HB2 := Lib.hid (HB1.out.trans (hb2.mono HB1.out.size))
  have hr2 := (hb2.block _ (lt_at HR1.out)).trans HR1.out
  have HR2 := Lib.hid hr2
  have d7 : w2.cell? ⟨w.heap.size, 7, none⟩ = some (.slice A n c) := by rw [cell_at hr2]; rfl
  clear hb2 hr2 HR1 HB1
  as_aux_lemma =>
  go_wp2_with fail
  with_reducible refine (HLt.out w2 HB2.out).mono ?_
  rintro e w3 ⟨rfl, hb3⟩
  have HB3 := Lib.hid (HB2.out.trans (hb3.mono HB2.out.size))
  have hr3 := (hb3.block _ (lt_at HR2.out)).trans HR2.out
  have HR3 := Lib.hid hr3
  have HR3a := Lib.hid hr3
  have d3 : w3.cell? ⟨w.heap.size, 3, none⟩ = some (.int .u64 (six : Int)) := by rw [cell_at hr3]; rfl
  have d4 : w3.cell? ⟨w.heap.size, 4, none⟩ = some (.int .u64 (stm : Int)) := by rw [cell_at hr3]; rfl
  have d5 : w3.cell? ⟨w.heap.size, 5, none⟩ = some (.int .u64 (scf : Int)) := by rw [cell_at hr3]; rfl
  have d6 : w3.cell? ⟨w.heap.size, 6, none⟩ = some (.string sd) := by rw [cell_at hr3]; rfl
  have d7 : w3.cell? ⟨w.heap.size, 7, none⟩ = some (.slice A n c) := by rw [cell_at hr3]; rfl
  obtain ⟨bl, hbl⟩ : ∃ bl, lightB l L = bl := ⟨_, rfl⟩
  rw [hbl] at HTl ⊢
  clear hb3 hr3 HR2 HB2 HLt hbl
  cases bl with
  | false =>
    go_wp2
    go_ret
    exact ⟨rfl, HB3.out⟩
  | true =>
  have HT6 := Lib.hid (HTl.out rfl)
  clear HTl
  as_aux_lemma =>
  go_wp2_with fail
  with_reducible refine (HNl.out w3 HB3.out).mono ?_
  intro e w4 hnl
  obtain ⟨bo, hbo⟩ : ∃ bo, okL ⟨six, stm, scf, sd⟩ l = bo := ⟨_, rfl⟩
  rw [hbo] at hnl HNm
  have HNm2 := Lib.hid HNm.out
  cases bo with
  | false =>
    rw [if_neg (by decide)] at hnl
    obtain ⟨rfl, hb4⟩ := hnl
    have hbb := HB3.out.trans (hb4.mono HB3.out.size)
    have hm := HNm2.out w4 hbb
    simp only [Bool.false_eq_true, if_false] at hm
    have hr4 := (hb4.block _ (lt_at HR3.out)).trans HR3.out
    have d3 : w4.cell? ⟨w.heap.size, 3, none⟩ = some (.int .u64 (six : Int)) := by rw [cell_at hr4]; rfl
    have d4 : w4.cell? ⟨w.heap.size, 4, none⟩ = some (.int .u64 (stm : Int)) := by rw [cell_at hr4]; rfl
    have d5 : w4.cell? ⟨w.heap.size, 5, none⟩ = some (.int .u64 (scf : Int)) := by rw [cell_at hr4]; rfl
    have d6 : w4.cell? ⟨w.heap.size, 6, none⟩ = some (.string sd) := by rw [cell_at hr4]; rfl
    have d7 : w4.cell? ⟨w.heap.size, 7, none⟩ = some (.slice A n c) := by rw [cell_at hr4]; rfl
    have HM := Lib.hid hm
    have HBb := Lib.hid hbb
    clear hm hbb hr4 hb4
    go_wp2_with fail
    with_reducible refine HM.out.mono ?_
    rintro e w5 ⟨rfl, hb5⟩
    go_wp2
    go_ret
    exact ⟨rfl, HBb.out.trans (hb5.mono HBb.out.size)⟩
  | true =>
  rw [if_pos rfl] at hnl
  obtain ⟨⟨q, v, rfl, hlog, hb4⟩, hfine⟩ := hnl
  have hbb := HB3.out.trans (hb4.mono HB3.out.size)
  have hm := HNm2.out w4 hbb
  simp only [if_true] at hm
  have hr4 := (hb4.block _ (lt_at HR3.out)).trans HR3.out
  have HR4 := Lib.hid hr4
  have d3 : w4.cell? ⟨w.heap.size, 3, none⟩ = some (.int .u64 (six : Int)) := by rw [cell_at hr4]; rfl
  have d4 : w4.cell? ⟨w.heap.size, 4, none⟩ = some (.int .u64 (stm : Int)) := by rw [cell_at hr4]; rfl
  have d5 : w4.cell? ⟨w.heap.size, 5, none⟩ = some (.int .u64 (scf : Int)) := by rw [cell_at hr4]; rfl
  have d6 : w4.cell? ⟨w.heap.size, 6, none⟩ = some (.string sd) := by rw [cell_at hr4]; rfl
  have d7 : w4.cell? ⟨w.heap.size, 7, none⟩ = some (.slice A n c) := by rw [cell_at hr4]; rfl
  have HM := Lib.hid hm
  have HB4 := Lib.hid hbb
  have HL4 := Lib.hid hlog
  have HF4 := Lib.hid hfine
  have HB34 := Lib.hid hb4
  clear hm hbb hr4 hb4 hlog hfine HNl HNm HNm2 hbo
  as_aux_lemma =>
  go_wp2_with fail
  with_reducible refine HM.out.mono ?_
  rintro e w5 ⟨q2, v2, rfl, hlog2, hb5⟩
  have hr5 := (hb5.block _ (lt_at HR4.out)).trans HR4.out
  have HR5 := Lib.hid hr5
  have d0 : w5.cell? ⟨w.heap.size, 0, none⟩ = some (.int .i64 zi) := by rw [cell_at hr5]; rfl
  have d1 : w5.cell? ⟨w.heap.size, 1, none⟩ = some (.int .u64 (zt : Int)) := by rw [cell_at hr5]; rfl
  have d2 : w5.cell? ⟨w.heap.size, 2, none⟩ = some (.int .i64 zv) := by rw [cell_at hr5]; rfl
  have hes : l.length ≤ 700 := by have := HT6.out; unfold total at this; omega
  have HNn := Lib.hid (WalkJ.new_any (HL4.out.below hb5) HF4.out zi zt zv)
  have HL5 := Lib.hid hlog2
  have HB5 := Lib.hid hb5
  have HB25 := Lib.hid (HB4.out.trans (hb5.mono HB4.out.size))
  clear hlog2 hb5 hr5 HR4 HM d3 d4 d5 d6 d7
  as_aux_lemma =>
  go_wp2_with fail
  with_reducible refine HNn.out.mono ?_
  intro e w6 hnn
  obtain ⟨bn, hbn⟩ : ∃ bn, (Quorum.node zi && (voteOk zv && lastOk zt ⟨⟨six, stm, scf, sd⟩, l⟩)) = bn := ⟨_, rfl⟩
  rw [hbn] at hnn
  cases bn with
  | false =>
    rw [if_neg (by decide)] at hnn
    obtain ⟨rfl, hb6⟩ := hnn
    have hnm := DWi.dnew_any (HL5.out.below hb6) zi zt zv
    rw [hbn] at hnm
    simp only [Bool.false_eq_true, if_false] at hnm
    have hr6 := (hb6.block _ (lt_at HR5.out)).trans HR5.out
    have d0 : w6.cell? ⟨w.heap.size, 0, none⟩ = some (.int .i64 zi) := by rw [cell_at hr6]; rfl
    have d1 : w6.cell? ⟨w.heap.size, 1, none⟩ = some (.int .u64 (zt : Int)) := by rw [cell_at hr6]; rfl
    have d2 : w6.cell? ⟨w.heap.size, 2, none⟩ = some (.int .i64 zv) := by rw [cell_at hr6]; rfl
    have HNM := Lib.hid hnm
    have HB6 := Lib.hid (HB25.out.trans (hb6.mono HB25.out.size))
    clear hnm hr6 hb6 hbn
    go_wp2_with fail
    with_reducible refine HNM.out.mono ?_
    rintro e w7 ⟨rfl, hb7⟩
    go_wp2
    go_ret
    exact ⟨rfl, HB6.out.trans (hb7.mono HB6.out.size)⟩
  | true =>
  rw [if_pos rfl] at hnn
  obtain ⟨p, rfl, hp5, hat, hb6⟩ := hnn
  have hnm := DWi.dnew_any (HL5.out.below hb6) zi zt zv
  rw [hbn] at hnm
  simp only [if_true] at hnm
  have hr6 := (hb6.block _ (lt_at HR5.out)).trans HR5.out
  have HR6 := Lib.hid hr6
  have d0 : w6.cell? ⟨w.heap.size, 0, none⟩ = some (.int .i64 zi) := by rw [cell_at hr6]; rfl
  have d1 : w6.cell? ⟨w.heap.size, 1, none⟩ = some (.int .u64 (zt : Int)) := by rw [cell_at hr6]; rfl
  have d2 : w6.cell? ⟨w.heap.size, 2, none⟩ = some (.int .i64 zv) := by rw [cell_at hr6]; rfl
  have HNM := Lib.hid hnm
  have HAt := Lib.hid hat
  have HB6 := Lib.hid hb6
  have HBn := Lib.hid hbn
  have HP5 := Lib.hid hp5
  clear hnm hr6 hb6 hat hbn hp5 HNn HR5
  as_aux_lemma =>
  go_wp2_with fail
  with_reducible refine HNM.out.mono ?_
  rintro e w7 ⟨r, rfl, hr7, hdt, hb7⟩
  have hbn := HBn.out
  simp only [Bool.and_eq_true] at hbn
  have hi7 := node_lt hbn.1
  have hndb : NdB 700 (newNd zi.toNat zt zv ⟨⟨six, stm, scf, sd⟩, l⟩) := newNd_b (by omega) hzt hbn.2.1 hbn.2.2 HF4.out hes
  have hsz4 : w3.heap.size ≤ w4.heap.size := HB34.out.size
  have hduo : Duo w3.heap.size w7 p r (newNd zi.toNat zt zv ⟨⟨six, stm, scf, sd⟩, l⟩) (newNd zi.toNat zt zv ⟨⟨six, stm, scf, sd⟩, l⟩) (fun _ => False) :=
    duo_new (wa := w4) (wb := w5) (wc := w6) (fun k hk => (HL4.out.foot_lt hk).2) hsz4 HB5.out.size (fun k hk => HL5.out.foot_lt hk) HP5.out HAt.out hr7 hdt hb7
  have hbz : w.heap.size < w3.heap.size := lt_at HR3a.out
  have HD := Lib.hid hduo
  have HNd := Lib.hid hndb
  have HBz : Hid (Below w3.heap.size w3 w7) := Lib.hid (((HB34.out.trans (HB5.out.mono HB34.out.size)).trans (HB6.out.mono (Nat.le_trans HB34.out.size HB5.out.size))).trans (hb7.mono (Nat.le_trans HB34.out.size (Nat.le_trans HB5.out.size HB6.out.size))))
  have hel : (newNd zi.toNat zt zv ⟨⟨six, stm, scf, sd⟩, l⟩).g.es.length ≤ l.length := Nat.le_refl _
  obtain ⟨m0, hm0⟩ : ∃ m0, newNd zi.toNat zt zv ⟨⟨six, stm, scf, sd⟩, l⟩ = m0 := ⟨_, rfl⟩
  rw [hm0] at HD HNd hel
  have HEl := Lib.hid hel
  clear hduo hndb hel hdt hr7 hb7 hbn hm0 HNM HAt HB6 HP5 HBn HL5 HL4 HF4 HB34 HB5 HB25 HB4 HR6 d0 d1 d2
  as_aux_lemma =>
  go_wp2_with fail
  go_loopw [82] (fun i wr => ∃ k : Nat, k ≤ m ∧ i = .int .i64 (k : Int) ∧ Hid (∃ M, Duo w3.heap.size wr p r M M (fun _ => False) ∧ NdB (700 + 700 * k) M ∧ M.g.es.length ≤ l.length + k + ((L.take k).map weigh).sum ∧ Below w3.heap.size w3 wr)) (fun i _ => m - (intOf i).toNat)
  case atStart => exact ⟨0, Nat.zero_le _, rfl, Lib.hid ⟨m0, HD.out, HNd.out.mono (by omega), by have := HEl.out; omega, HBz.out⟩⟩
  case round =>
    obtain ⟨k, hk, rfl, HR⟩ := hrel
    by_cases hkm : k < m
    · obtain ⟨M, hduo, hnd, hml, hsin⟩ := HR.out
      have hbw : Below w.heap.size w wr := HB3.out.trans (hsin.mono (by omega))
      obtain ⟨x, hx⟩ : ∃ x, L[k]? = some x := ⟨_, List.getElem?_eq_getElem (by rw [HHo.out.1]; exact hkm)⟩
      obtain ⟨b, o, rfl, hbl, hten, hcal⟩ := (HHo.out.below hbw (Nat.le_refl _)).2 k x hx
      obtain ⟨hfew, hk600⟩ := few_of HT6.out hx
      have hsnoc : ((L.take (k + 1)).map weigh).sum = ((L.take k).map weigh).sum + weigh x := by rw [take_snoc L k _ hx, weigh_snoc]
      have hwx : x.x.es.length ≤ weigh x := by unfold weigh; omega
      obtain ⟨kind, ms, pl, data, id, idx, add⟩ := x
      obtain ⟨kd, fr, tt, tm, ix, pv, cm, ok, es, dd⟩ := ms
      obtain ⟨A9, n9, e9⟩ := pl
      have c0 := hten.c0
      have c1 := hten.c1
      have c2 := hten.c2
      have c3 := hten.c3
      have c4 := hten.c4
      have c5 := hten.c5
      have c6 := hten.c6
      have c7 := hten.c7
      have c8 := hten.c8
      have c9 := hten.c9
      have c10 := hten.c10
      have c11 := hten.c11
      have c12 := hten.c12
      have c13 := hten.c13
      have c14 := hten.c14
      simp only at c0 c1 c2 c3 c4 c5 c6 c7 c8 c9 c10 c11 c12 c13 c14 hfew
      obtain ⟨wa, hwa⟩ : ∃ wa, wr.alloc (.cells #[.int .i64 kind, .int .i64 kd, .int .i64 fr, .int .i64 tt, .int .u64 (tm : Int), .int .u64 (ix : Int), .int .u64 (pv : Int), .int .u64 (cm : Int), .bool ok, .slice A9 n9 e9, .string dd, .string data, .int .i64 id, .int .u64 (idx : Int), .bool add] 49) = wa := ⟨_, rfl⟩
      have hra : wa.heap[wr.heap.size]? = some (.cells #[.int .i64 kind, .int .i64 kd, .int .i64 fr, .int .i64 tt, .int .u64 (tm : Int), .int .u64 (ix : Int), .int .u64 (pv : Int), .int .u64 (cm : Int), .bool ok, .slice A9 n9 e9, .string dd, .string data, .int .i64 id, .int .u64 (idx : Int), .bool add] 49 (0, 0)) := by rw [← hwa]; exact heap_alloc_new wr _
      have hba : Below wr.heap.size wr wa := by rw [← hwa]; exact (Below.refl _ _).alloc (Nat.le_refl _) _
      have hduoa : Duo w3.heap.size wa p r M M (fun _ => False) := hduo.below hba
      have hcal7 : CalB wa w.heap.size ⟨kind, ⟨kd, fr, tt, tm, ix, pv, cm, ok, es, dd⟩, ⟨A9, n9, e9⟩, data, id, idx, add⟩ := hcal.below (hba.mono (by have := hduo.base; omega)) (Nat.le_refl _)
      have hbo := both_any hduoa hnd (by omega) hcal7 (by omega)
      unfold callCs at hbo
      simp only at hbo hwx
      have HBo := Lib.hid hbo
      have HSn := Lib.hid hsnoc
      have HWA := Lib.hid hwa
      have HSin : Hid (Below w3.heap.size w3 wa) := Lib.hid (hsin.trans (hba.mono hduo.base))
      have hml2 : M.g.es.length + es.length + 1 ≤ l.length + (k + 1) + ((L.take (k + 1)).map weigh).sum := by rw [hsnoc]; omega
      have HMl := Lib.hid hml2
      have q0 : ∀ i u, (#[.int .i64 kind, .int .i64 kd, .int .i64 fr, .int .i64 tt, .int .u64 (tm : Int), .int .u64 (ix : Int), .int .u64 (pv : Int), .int .u64 (cm : Int), .bool ok, .slice A9 n9 e9, .string dd, .string data, .int .i64 id, .int .u64 (idx : Int), .bool add] : Array Value)[i]? = some u → wa.cell? ⟨wr.heap.size, i, none⟩ = some u := fun i u hu => by rw [cell_at hra]; exact hu
      have y0 : wa.cell? ⟨wr.heap.size, 0, none⟩ = some (.int .i64 kind) := q0 0 _ rfl
      have y1 : wa.cell? ⟨wr.heap.size, 1, none⟩ = some (.int .i64 kd) := q0 1 _ rfl
      have y2 : wa.cell? ⟨wr.heap.size, 2, none⟩ = some (.int .i64 fr) := q0 2 _ rfl
      have y3 : wa.cell? ⟨wr.heap.size, 3, none⟩ = some (.int .i64 tt) := q0 3 _ rfl
      have y4 : wa.cell? ⟨wr.heap.size, 4, none⟩ = some (.int .u64 (tm : Int)) := q0 4 _ rfl
      have y5 : wa.cell? ⟨wr.heap.size, 5, none⟩ = some (.int .u64 (ix : Int)) := q0 5 _ rfl
      have y6 : wa.cell? ⟨wr.heap.size, 6, none⟩ = some (.int .u64 (pv : Int)) := q0 6 _ rfl
      have y7 : wa.cell? ⟨wr.heap.size, 7, none⟩ = some (.int .u64 (cm : Int)) := q0 7 _ rfl
      have y8 : wa.cell? ⟨wr.heap.size, 8, none⟩ = some (.bool ok) := q0 8 _ rfl
      have y9 : wa.cell? ⟨wr.heap.size, 9, none⟩ = some (.slice A9 n9 e9) := q0 9 _ rfl
      have y10 : wa.cell? ⟨wr.heap.size, 10, none⟩ = some (.string dd) := q0 10 _ rfl
      have y11 : wa.cell? ⟨wr.heap.size, 11, none⟩ = some (.string data) := q0 11 _ rfl
      have y12 : wa.cell? ⟨wr.heap.size, 12, none⟩ = some (.int .i64 id) := q0 12 _ rfl
      have y13 : wa.cell? ⟨wr.heap.size, 13, none⟩ = some (.int .u64 (idx : Int)) := q0 13 _ rfl
      have y14 : wa.cell? ⟨wr.heap.size, 14, none⟩ = some (.bool add) := q0 14 _ rfl
      clear q0
      clear hduo hduoa hbo hsnoc hwa hsin hba hra hten hcal hcal7 hx hnd HR hbw hml hml2
      go_wp2_with fail
      rw [HWA.out]
      go_wp2_with fail
      with_reducible refine HBo.out.mono ?_
      rintro e w8 ⟨rfl, M2, hnd2, hml2, hg⟩
      have HSt := Lib.hid (p_status hg.duo)
      have HD8 := Lib.hid hg.duo
      have HN2 : Hid (NdB (700 + 700 * (k + 1)) M2) := Lib.hid (hnd2.mono (by omega))
      have HL2 : Hid (M2.g.es.length ≤ l.length + (k + 1) + ((L.take (k + 1)).map weigh).sum) := Lib.hid (Nat.le_trans hml2 HMl.out)
      have HS8 := Lib.hid (HSin.out.trans hg.since)
      clear hg hnd2 hml2 HBo HSin HMl HSn y0 y1 y2 y3 y4 y5 y6 y7 y8 y9 y10 y11 y12 y13 y14 c0 c1 c2 c3 c4 c5 c6 c7 c8 c9 c10 c11 c12 c13 c14
      as_aux_lemma =>
      go_wp2_with fail
      with_reducible refine HSt.out.mono ?_
      rintro e w9 ⟨rfl, hb9⟩
      unfold StatusV
      have h9 := HD8.out.below hb9
      obtain ⟨T0, hT0⟩ : ∃ T0, M2.term = T0 := ⟨_, rfl⟩
      obtain ⟨V0, hV0⟩ : ∃ V0, M2.vote = V0 := ⟨_, rfl⟩
      obtain ⟨C0, hC0⟩ : ∃ C0, M2.commit = C0 := ⟨_, rfl⟩
      obtain ⟨R0, hR0⟩ : ∃ R0, M2.role = R0 := ⟨_, rfl⟩
      obtain ⟨L0, hL0⟩ : ∃ L0, M2.leader = L0 := ⟨_, rfl⟩
      rw [hT0, hV0, hC0, hR0, hL0]
      have hr10 := heap_alloc_new w9 (.cells #[.int .u64 (T0 : Int), .int .i64 V0] 24)
      obtain ⟨w10, hw10⟩ : ∃ w10, w9.alloc (.cells #[.int .u64 (T0 : Int), .int .i64 V0] 24) = w10 := ⟨_, rfl⟩
      have hb10 : Below w9.heap.size w9 w10 := by rw [← hw10]; exact (Below.refl _ _).alloc (Nat.le_refl _) _
      rw [hw10] at hr10
      have h10 := h9.below hb10
      obtain ⟨q, v, u1, u2, u3, u4, u5, u6, hpr, hlg⟩ := d_fields h10
      have u7 := hlg.cell
      rw [hT0] at u1
      rw [hV0] at u2
      rw [hC0] at u6
      rw [hR0] at u4
      rw [hL0] at u5
      obtain ⟨pq, hpl⟩ := p_log h10 HN2.out (by omega)
      obtain ⟨s0, hs0⟩ : ∃ s0, M2.g.snap.idx = s0 := ⟨_, rfl⟩
      obtain ⟨s1, hs1⟩ : ∃ s1, M2.g.snap.term = s1 := ⟨_, rfl⟩
      obtain ⟨s2, hs2⟩ : ∃ s2, M2.g.snap.cfg = s2 := ⟨_, rfl⟩
      obtain ⟨s3, hs3⟩ : ∃ s3, M2.g.snap.data = s3 := ⟨_, rfl⟩
      rw [hs0, hs1, hs2, hs3] at u7
      have v0 : w10.cell? ⟨q, 0, none⟩ = some (.int .u64 (s0 : Int)) := by rw [cell_at u7]; rfl
      have v1 : w10.cell? ⟨q, 1, none⟩ = some (.int .u64 (s1 : Int)) := by rw [cell_at u7]; rfl
      have v2 : w10.cell? ⟨q, 2, none⟩ = some (.int .u64 (s2 : Int)) := by rw [cell_at u7]; rfl
      have v3 : w10.cell? ⟨q, 3, none⟩ = some (.string s3) := by rw [cell_at u7]; rfl
      have t0 : w10.cell? ⟨w9.heap.size, 0, none⟩ = some (.int .u64 (T0 : Int)) := by rw [cell_at hr10]; rfl
      have t1 : w10.cell? ⟨w9.heap.size, 1, none⟩ = some (.int .i64 V0) := by rw [cell_at hr10]; rfl
      have hl10 := lt_at hr10
      have hlq := lt_at u7
      have HLg : Hid (∀ W, Below w10.heap.size w10 W → Calls Tryz.prog 16 #[.pointer (some ⟨p, 0, none⟩)] W fun e w' => e = .returned (.pointer (some ⟨pq, 0, none⟩)) ∧ W = w') := Lib.hid fun W hb => (hpl W hb).1
      have HFs : Hid (∀ W, Below w10.heap.size w10 W → Calls Tryz.prog 17 #[.pointer (some ⟨pq, 0, none⟩)] W fun e w' => e = .returned (.agg #[.int .u64 (s0 : Int), .int .u64 (s1 : Int), .int .u64 (s2 : Int), .string s3]) ∧ Below W.heap.size W w') := Lib.hid fun W hb => by
        have := (hpl W hb).2.1
        unfold RlgWalkD.snapV at this
        rw [hs0, hs1, hs2, hs3] at this
        exact this
      have HKp : Hid (∀ W, Below w10.heap.size w10 W → (W.cell? ⟨w9.heap.size, 0, none⟩ = some (.int .u64 (T0 : Int)) ∧ W.cell? ⟨w9.heap.size, 1, none⟩ = some (.int .i64 V0) ∧ W.cell? ⟨r, 1, none⟩ = some (.int .u64 (T0 : Int)) ∧ W.cell? ⟨r, 2, none⟩ = some (.int .i64 V0) ∧ W.cell? ⟨r, 3, none⟩ = some (.pointer (some ⟨q, 0, none⟩)) ∧ W.cell? ⟨r, 4, none⟩ = some (.int .i64 (R0 : Int)) ∧ W.cell? ⟨r, 5, none⟩ = some (.int .i64 L0) ∧ W.cell? ⟨r, 6, none⟩ = some (.int .u64 (C0 : Int)) ∧ W.cell? ⟨q, 0, none⟩ = some (.int .u64 (s0 : Int)) ∧ W.cell? ⟨q, 1, none⟩ = some (.int .u64 (s1 : Int)) ∧ W.cell? ⟨q, 2, none⟩ = some (.int .u64 (s2 : Int)) ∧ W.cell? ⟨q, 3, none⟩ = some (.string s3))) := Lib.hid fun W hb =>
        ⟨(hb.cell (p := ⟨w9.heap.size, 0, none⟩) hl10).trans t0, (hb.cell (p := ⟨w9.heap.size, 1, none⟩) hl10).trans t1, (hb.cell (p := ⟨r, 1, none⟩) hpr).trans u1, (hb.cell (p := ⟨r, 2, none⟩) hpr).trans u2, (hb.cell (p := ⟨r, 3, none⟩) hpr).trans u3, (hb.cell (p := ⟨r, 4, none⟩) hpr).trans u4, (hb.cell (p := ⟨r, 5, none⟩) hpr).trans u5, (hb.cell (p := ⟨r, 6, none⟩) hpr).trans u6,
          (hb.cell (p := ⟨q, 0, none⟩) hlq).trans v0, (hb.cell (p := ⟨q, 1, none⟩) hlq).trans v1, (hb.cell (p := ⟨q, 2, none⟩) hlq).trans v2, (hb.cell (p := ⟨q, 3, none⟩) hlq).trans v3⟩
      have n1 := neq_hard2 (T0 : Int) V0
      have n2 := neq_snap (s0 : Int) s1 s2 s3
      have HW10 := Lib.hid hw10
      have H10 := Lib.hid h10
      have HB10 : Hid (Below w3.heap.size w3 w10) := Lib.hid (HS8.out.trans ((hb9.trans (hb10.mono hb9.size)).mono HD8.out.base))
      clear h9 h10 hb9 hb10 hw10 hr10 u7 hlg hpl hT0 hV0 hC0 hR0 hL0 hs0 hs1 hs2 hs3 HSt HD8 HS8
      as_aux_lemma =>
      go_wp2_with fail
      rw [HW10.out]
      go_region_held3 (fun W => W.cell? ⟨w9.heap.size, 0, none⟩ = some (.int .u64 (T0 : Int)) ∧ W.cell? ⟨w9.heap.size, 1, none⟩ = some (.int .i64 V0) ∧ W.cell? ⟨r, 1, none⟩ = some (.int .u64 (T0 : Int)) ∧ W.cell? ⟨r, 2, none⟩ = some (.int .i64 V0) ∧ W.cell? ⟨r, 3, none⟩ = some (.pointer (some ⟨q, 0, none⟩)) ∧ W.cell? ⟨r, 4, none⟩ = some (.int .i64 (R0 : Int)) ∧ W.cell? ⟨r, 5, none⟩ = some (.int .i64 L0) ∧ W.cell? ⟨r, 6, none⟩ = some (.int .u64 (C0 : Int)) ∧ W.cell? ⟨q, 0, none⟩ = some (.int .u64 (s0 : Int)) ∧ W.cell? ⟨q, 1, none⟩ = some (.int .u64 (s1 : Int)) ∧ W.cell? ⟨q, 2, none⟩ = some (.int .u64 (s2 : Int)) ∧ W.cell? ⟨q, 3, none⟩ = some (.string s3))
        (first
          | exact ⟨t0, t1, u1, u2, u3, u4, u5, u6, v0, v1, v2, v3⟩
          | (with_reducible exact HKA.out))
        (first
          | (go_at_call 16
             with_reducible refine (HLg.out _ ((Below.refl _ w10).drew)).mono ?_
             rintro e wA ⟨rfl, rfl⟩)
          | (go_at_call 17
             with_reducible refine (HFs.out _ ((Below.refl _ w10).drew)).mono ?_
             rintro e wA ⟨rfl, hbA⟩
             have HBA : Hid (Below w10.heap.size w10 wA) := Lib.hid ((Below.refl _ w10).drew.trans hbA)
             have HKA := Lib.hid (HKp.out wA HBA.out)
             clear hbA))
      all_goals go_wp2
      all_goals
        go_roundw
        case rel => exact ⟨k + 1, by omega, by go_num, Lib.hid ⟨M2, H10.out.below HBA.out, HN2.out, HL2.out, HB10.out.trans (HBA.out.mono H10.out.base)⟩⟩
        case measure => simp [intOf]; omega
    · obtain rfl : k = m := by omega
      obtain ⟨M, hduo, hnd, hml, hsin⟩ := HR.out
      have hfull : L.take k = L := List.take_of_length_le (by rw [HHo.out.1]; exact Nat.le_refl _)
      rw [hfull] at hml
      have htot := HT6.out
      unfold total at htot
      have hLl := HHo.out.1
      have hbd := (Below.refl wr.heap.size wr).drew
      have hcb : CalB wr.drew w.heap.size ⟨6, blankM, noPl, ⟨#[]⟩, 0, 0, false⟩ := blank_cal _ _
      have hbo : Calls Tryz.prog 14 #[.pointer (some ⟨p, 0, none⟩), .pointer (some ⟨r, 0, none⟩), .agg #[.int .i64 6, .int .i64 0, .int .i64 0, .int .i64 0, .int .u64 0, .int .u64 0, .int .u64 0, .int .u64 0, .bool false, .slice none 0 0, .string ⟨#[]⟩, .string ⟨#[]⟩, .int .i64 0, .int .u64 0, .bool false]] wr.drew (fun e w' => Both w3.heap.size wr.drew p r (700 + 700 * k + 0 + 22) (M.g.es.length + 0 + 1) (fun _ => False) e w' ∧ BothT.Stay p r wr.drew w') := BothT.both_taken (hduo.below hbd) hnd (by omega) hcb (by omega) (by decide)
      obtain ⟨q, Al, cl, u3, u0, u4, hpr, hlq, hqp, hqr⟩ := d_log hduo
      obtain ⟨n0, hn0⟩ : ∃ n0, M.g.es.length = n0 := ⟨_, rfl⟩
      obtain ⟨idx, hidx⟩ : ∃ idx, M.g.snap.idx = idx := ⟨_, rfl⟩
      have hm2k : M.g.es.length + 0 + 1 ≤ 2000 := by omega
      have hw1 : IntKind.u64.wrap ((idx : Int) + 1) = ((idx + 1 : Nat) : Int) := by
        have e1 := hnd.top
        have e2 := hnd.fine.last_idx
        rw [show (idx : Int) + 1 = ((idx + 1 : Nat) : Int) by omega]
        exact IntWalk.u64_in _ (by omega)
      rw [hn0] at u4
      rw [hidx] at u0
      obtain ⟨J, hJ⟩ : ∃ J, idx + 1 = J := ⟨_, rfl⟩
      rw [hJ] at hw1
      have HJ := Lib.hid hJ
      clear hJ
      have HN8 : Hid (700 + 700 * k + 0 + 22 ≤ 700000000) := Lib.hid (by omega)
      have HBo := Lib.hid hbo
      have HSd : Hid (Below w3.heap.size w3 wr.drew) := Lib.hid (hsin.trans (hbd.mono hduo.base))
      have HSz : Hid (w3.heap.size ≤ wr.drew.heap.size) := Lib.hid (Nat.le_trans hduo.base hbd.size)
      have HM2k := Lib.hid hm2k
      have HQp := Lib.hid hqp
      have HQr := Lib.hid hqr
      have HLq : Hid (q < wr.drew.heap.size) := Lib.hid hlq
      clear hduo hnd hml hsin hfull htot hLl hbd hcb hbo HR hm2k hn0 hidx hqp hqr hlq
      as_aux_lemma =>
      go_wp2_with fail
      go_region_held3 (fun W => W.cell? ⟨r, 3, none⟩ = some (.pointer (some ⟨q, 0, none⟩)) ∧ W.cell? ⟨q, 0, none⟩ = some (.int .u64 (idx : Int)) ∧ W.cell? ⟨q, 4, none⟩ = some (.slice Al n0 cl))
        (first
          | exact ⟨u3, u0, u4⟩
          | (with_reducible exact HKA.out)
          | (with_reducible exact HKB.out)
          | (with_reducible exact HKC.out))
        (first
          | (go_at_call 14
             with_reducible refine HBo.out.mono ?_
             rintro e w8 ⟨⟨rfl, M2, hnd2, hml2, hg⟩, hst⟩
             have k3 : w8.cell? ⟨r, 3, none⟩ = some (.pointer (some ⟨q, 0, none⟩)) := hst.ptr.trans u3
             have k0 : w8.cell? ⟨q, 0, none⟩ = some (.int .u64 (idx : Int)) := (hst.cell q 0 HQp.out HQr.out HLq.out).trans u0
             have k4 : w8.cell? ⟨q, 4, none⟩ = some (.slice Al n0 cl) := (hst.cell q 4 HQp.out HQr.out HLq.out).trans u4
             have HKA := Lib.hid (And.intro k3 (And.intro k0 k4))
             obtain ⟨pq, hlg, hgt⟩ := tail_of hg.duo hnd2 HN8.out (Nat.le_trans hml2 HM2k.out) k3 k0 k4
             rw [HJ.out] at hgt
             have HLg := Lib.hid hlg
             have HGt := Lib.hid hgt
             have HG8 := Lib.hid (HSd.out.trans hg.since)
             have hr8 : r < w8.heap.size := Nat.lt_of_lt_of_le hpr hst.size
             have HQ8 : Hid (q < w8.heap.size) := Lib.hid (Nat.lt_of_lt_of_le HLq.out hst.size)
             have HZ8 := Lib.hid hg.duo.base
             clear hlg hgt hnd2 hml2 hg hst k3 k0 k4)
          | (go_at_call 16
             with_reducible refine HLg.out.mono ?_
             rintro e w9 ⟨rfl, rfl⟩)
          | (go_at_call 19
             with_reducible refine HGt.out.mono ?_
             rintro e w9 ⟨Ag, cg, rfl, hb9, hsm⟩
             have HKB := Lib.hid (And.intro ((hb9.cell (p := ⟨r, 3, none⟩) hr8).trans HKA.out.1) (And.intro ((hb9.cell (p := ⟨q, 0, none⟩) HQ8.out).trans HKA.out.2.1) ((hb9.cell (p := ⟨q, 4, none⟩) HQ8.out).trans HKA.out.2.2)))
             have HSm := Lib.hid hsm
             have HG9 := Lib.hid (HG8.out.trans (hb9.mono HZ8.out))
             have HZ9 := Lib.hid (Nat.le_trans HZ8.out hb9.size)
             have hr9 : r < w9.heap.size := Nat.lt_of_lt_of_le hr8 hb9.size
             have HQ9 : Hid (q < w9.heap.size) := Lib.hid (Nat.lt_of_lt_of_le HQ8.out hb9.size)
             clear hsm hb9)
          | (go_at_call 18
             with_reducible refine (HSm.out _ (Below.refl _ _)).mono ?_
             rintro e wS ⟨rfl, hbS⟩
             have HKC := Lib.hid (And.intro ((hbS.cell (p := ⟨r, 3, none⟩) hr9).trans HKB.out.1) (And.intro ((hbS.cell (p := ⟨q, 0, none⟩) HQ9.out).trans HKB.out.2.1) ((hbS.cell (p := ⟨q, 4, none⟩) HQ9.out).trans HKB.out.2.2)))
             have HGS := Lib.hid (HG9.out.trans (hbS.mono HZ9.out))
             clear hbS))
      all_goals go_wp2
      all_goals go_ret
      all_goals exact ⟨rfl, HB3.out.trans (HGS.out.mono (Nat.le_of_lt hbz))⟩
end Go.Proofs.YtojmbbldehbjfaaGreat.LawK
namespace Go.Proofs.YtojmbbldehbjfaaGreat.PRaftRunsUpto
open Go.ChangeShapes Go.WideShapes Go.ChangeAt Go.RowKit Go.Proofs.YtojmbbldehbjfaaGreat.Kit Go.Proofs.YtojmbbldehbjfaaGreat.Frame
set_option linter.unusedVariables false

theorem own : ownKnob Tryz.prog.godebug = none := by kernel_rfl
theorem laidOut : laidOutB Tryz.prog = true := by kernel_rfl

set_option maxRecDepth 100000 in
theorem contract (H : Type) (enc : TypeId × Value → H) (W : World) (base : Nat) (args : Array Value) (ds gs : List (DataW H)) (before : List MemPlace)
    (hval : ∀ (j : Nat) t v, Tryz.f3.params[j]? = some t → args[j]? = some v → Value.okWide Tryz.prog W .any base t v)
    (hW : DataW.Whole enc Tryz.prog Tryz.f3.params.toList Rows.raftRunsSpec.vars false W args.toList ds gs before)
    (hk : Rows.uptoSmall H (ds ++ gs) = true) :
    Calls Tryz.prog 3 args W fun e W' => ∃ v, e = .returned v ∧ Rows.raftRunsSpec.post enc Tryz.prog Tryz.f3 false true false false W args v W' := by
  have hW' := hW
  obtain ⟨p, q, hA0, hV, rfl, hfz, hnd⟩ := hW
  have hA : DataW.TrodAll enc Tryz.prog W 0 (fun _ => true) true Tryz.f3.params.toList args.toList ds p := hA0
  rw [Tryz.params3] at hA hval
  obtain ⟨v0, vs0, d0, ds0, p0, q0, hargs, rfl, rfl, h0, r0⟩ := trodAll_cons hA
  obtain ⟨v1, vs1, d1, ds1, p1, q1, rfl, rfl, rfl, h1, r1⟩ := trodAll_cons r0
  obtain ⟨rfl, rfl, rfl⟩ := trodAll_nil r1
  obtain rfl : args = #[v0, v1] := by cases args; simp_all
  obtain ⟨rfl, rfl⟩ := trodVars_none hV
  have lt0 : ∀ x ∈ p0, x.block < W.heap.size := by obtain ⟨m, hm⟩ := h0; exact DataW.trod_lt m _ _ _ hm
  obtain ⟨z0, A0, n0, c0, l0, rfl, hz0_0, hl0_1, d0_2⟩ := OpensC.arg_start (hval 0 29 v0 rfl rfl) h0
  have lt1 : ∀ x ∈ p1, x.block < W.heap.size := by obtain ⟨m, hm⟩ := h1; exact DataW.trod_lt m _ _ _ hm
  obtain ⟨C1, m1, cc1, L1, rfl, hm1_0, hh1_1, d1_2⟩ := OpensC.arg_calls (hval 1 30 v1 rfl rfl) h1
  have hall : Rows.uptoBulkAll _ ≤ 1048576 := of_decide_eq_true hk
  clear hA0
  refine (LawK.runs_walk z0 A0 n0 c0 l0 C1 m1 cc1 L1 W hz0_0 hl0_1 hm1_0 (OpensC.small d0_2 hh1_1 d1_2 hall)).mono fun e W' ⟨he, bel⟩ => ?_
  subst he
  exact ⟨_, rfl, _, _, _, [], _, [], hW', trodAll_mk1 (shut_bool Tryz.underlying4 _), (trodAll_cons_mk (Below.trod laidOut (by kernel_rfl) (of_decide_eq_true (by kernel_rfl)) h0 bel lt0) (trodAll_cons_mk (Below.trod laidOut (by kernel_rfl) (of_decide_eq_true (by kernel_rfl)) h1 bel lt1) trodAll_mk0)), rfl, bel.frame _, fun h => by cases h⟩

set_option maxRecDepth 100000 in
theorem lifted (os : Os) (started : os.Started) (H : Type) (enc : TypeId × Value → H) (F : Stop.Interp) :
    ReturnsInHanded {} Tryz.checked os 3 .any ((Rows.OpenSpec.upto Rows.raftRunsSpec).pre6 enc Tryz.prog Tryz.f3 Rows.raftRunsUptoRow.domain false) (((Rows.OpenSpec.upto Rows.raftRunsSpec).at F).post enc Tryz.prog Tryz.f3 false true false false) := by
  refine returnsInHanded_of_cond (C := Tryz.checked) (s := Rows.OpenSpec.upto Rows.raftRunsSpec) (k := Rows.uptoSmall) rfl own started (by kernel_rfl) Tryz.func3
    (OpenSpec.witness (enc := enc) (C := Tryz.checked) (s := Rows.OpenSpec.upto Rows.raftRunsSpec) (k := Rows.uptoSmall) rfl false ⟨#[], #[.agg #[.int .i64 0, .int .u64 0, .int .i64 0, .int .u64 0, .int .u64 0, .int .u64 0, .string .empty, .slice none 0 0], .slice none 0 0], []⟩ 8 (by kernel_rfl) (by kernel_rfl) (by kernel_rfl)
      (x := ([.agg [.lit (.int .i64 0), .agg [.lit (.int .u64 0), .lit (.int .i64 0)], .agg [.lit (.int .u64 0), .lit (.int .u64 0), .lit (.int .u64 0), .lit (.string [])], .nil], .nil], [], [])) (by kernel_rfl) rfl (by kernel_rfl)) ?_
  intro W base args ds gs before hval hW _ hk _
  exact contract H enc W base args ds gs before hval hW hk

theorem over : Rows.raftRunsUptoRow.holds Tryz.pinned (Rows.OpenSpec.upto Rows.raftRunsSpec) :=
  OpenClaim.holds_of_cond 3 Tryz.f3 rfl rfl rfl rfl rfl rfl rfl ⟨rfl, rfl, rfl, rfl, rfl⟩ rfl rfl rfl rfl rfl (by kernel_rfl) Tryz.func3 (by kernel_rfl)
    (of_decide_eq_true (by kernel_rfl)) (by unfold Func.isWrapper; first | (rw [if_pos (by decide +kernel)]; kernel_rfl) | (rw [if_neg (by decide +kernel)]; exact ⟨rfl, rfl⟩))
    (fun os started H enc _ F => lifted os started H enc F)

theorem proved : Rows.RaftRunsUptoSaid := over
end Go.Proofs.YtojmbbldehbjfaaGreat.PRaftRunsUpto
