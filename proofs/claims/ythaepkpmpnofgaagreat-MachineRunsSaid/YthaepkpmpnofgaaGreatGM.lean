/- The statement MachineRuns of tontinelaw17: for every input the call returns true, and each argument reads afterwards as it read before. -/
import Derived.Test.YthaepkpmpnofgaaGreatGS
import Derived.Test.YthaepkpmpnofgaaGreatGB
import Derived.Test.YthaepkpmpnofgaaGreatGV
import Derived.Test.YthaepkpmpnofgaaGreatHSgaWalkD
import Derived.BigQuiet
import Derived.Deep.QuietTactic
import Derived.Deep.RegionHeld3
import Derived.Test.YthaepkpmpnofgaaGreatGF
set_option linter.unusedVariables false
set_option linter.unusedSimpArgs false
namespace Go.Proofs.YthaepkpmpnofgaaGreat.Twin
open Go.RowKit Go.Proofs.YthaepkpmpnofgaaGreat.Kit Go.Proofs.YthaepkpmpnofgaaGreat.Blocks Go.Proofs.YthaepkpmpnofgaaGreat.Ses Go.Proofs.YthaepkpmpnofgaaGreat.Rws Go.Proofs.YthaepkpmpnofgaaGreat.Boxs Go.Proofs.YthaepkpmpnofgaaGreat.Mch Go.Proofs.YthaepkpmpnofgaaGreat.SsnWalkA Go.Proofs.YthaepkpmpnofgaaGreat.MatP
open Go.Proofs.YthaepkpmpnofgaaGreat.MatD (Hs MD scs scs_get scs_length hsCs)
open Go.Proofs.YthaepkpmpnofgaaGreat.ApD (LeftM Zs leftM_below)
open Go.Proofs.YthaepkpmpnofgaaGreat.Sag (Sg Snd)

/-- What the document's machine has of steps. -/
def Sd (hs : List Hs) (r : Nat) : Prop := ∃ x ∈ hs, 0 < x.s.l.length ∧ ∃ ad, x.A = some ad ∧ ad.block = r
section
variable {B : Nat} {w W W' : World} {p d pt q : Nat} {vR vR2 vI vS : Value} {m n m' n' : Mc} {ks : List (Nat × Hs)} {hs hs0 : List Hs}
theorem md_scs (h : MD B w d vR2 vI vS n hs) (k : MD B w d vR2 vI vS n' hs0) : scs hs = scs hs0 := by
  obtain ⟨A, c, e1, _⟩ := h.sgform
  obtain ⟨A', c', e2, _⟩ := k.sgform
  rw [e1] at e2
  obtain ⟨_, hl, _⟩ := Value.slice.inj e2
  rcases h.sgs.2 with ⟨_, h0⟩ | ⟨g, cap, cur, hv, hb, hg, _, _, _, h4⟩
  · have e3 : hs = [] := List.eq_nil_of_length_eq_zero h0
    have e4 : hs0 = [] := List.eq_nil_of_length_eq_zero (by omega)
    rw [e3, e4]
  · rcases k.sgs.2 with ⟨_, h0⟩ | ⟨g', cap', cur', hv', hb', hg', _, _, _, h4'⟩
    · have e3 : hs0 = [] := List.eq_nil_of_length_eq_zero h0
      have e4 : hs = [] := List.eq_nil_of_length_eq_zero (by omega)
      rw [e3, e4]
    · rw [hv] at hv'
      obtain ⟨e5, _, _⟩ := Value.slice.inj hv'
      cases e5
      rw [hg] at hg'
      cases hg'
      rw [← h4, ← h4', hl]
theorem md_st (h : MD B w d vR2 vI vS n hs) {r : Nat} (hz : Zs B w d vR2 vI vS r) : Sd hs r := by
  obtain ⟨m0, hs0, k, x, hx, hn, ad, e, er⟩ := hz
  have hsc := md_scs h k
  obtain ⟨j, hj, rfl⟩ := List.getElem_of_mem hx
  have hlen : hs.length = hs0.length := by have := congrArg List.length hsc; rw [scs_length, scs_length] at this; omega
  have h1 := scs_get hs0 j 0 _ (List.getElem?_eq_getElem hj) (by omega)
  have h2 := scs_get hs j 0 _ (List.getElem?_eq_getElem (show j < hs.length by omega)) (by omega)
  rw [hsc, h1] at h2
  simp only [hsCs, List.getElem?_cons_zero, Option.some.injEq, Value.slice.injEq] at h2
  obtain ⟨a1, a2, _⟩ := h2
  exact ⟨hs[j], List.getElem_mem _, by omega, ad, by rw [← a1]; exact e, er⟩
theorem md_stlt (h : MD B w d vR2 vI vS n hs) {r : Nat} (hz : Sd hs r) : r < w.heap.size := by
  obtain ⟨x, hx, hn, ad, e, rfl⟩ := hz
  obtain ⟨ad', e1, e2, _⟩ := (h.steps x hx).1.rs.2 hn
  rw [e] at e1
  cases e1
  exact e2
/-- Both machines, in a world behind w. -/
structure Apart (W : World) (p pt q : Nat) (vR : Value) (ks : List (Nat × Hs)) (d : Nat) (vR2 vI vS : Value) (hs : List Hs) : Prop where
  own : ∀ g, MatP.Own p pt q vR g → ¬ MatD.Own d vR2 vI vS g
  st : ∀ r, St ks r → ¬ MatD.Own d vR2 vI vS r
  sd : ∀ r, Sd hs r → ¬ MatP.Own p pt q vR r
def Tw (w W : World) (p d : Nat) (m n : Mc) : Prop := ∃ pt q vR ks vR2 vI vS hs, MP w.heap.size W p pt q vR m ks ∧ MD w.heap.size W d vR2 vI vS n hs ∧ Apart W p pt q vR ks d vR2 vI vS hs ∧ Below w.heap.size w W
theorem Tw.bel (h : Tw w W p d m n) : Below w.heap.size w W := by
  obtain ⟨_, _, _, _, _, _, _, _, _, _, _, h⟩ := h
  exact h
theorem Tw.below (h : Tw w W p d m n) (k : Below W.heap.size W W') : Tw w W' p d m n := by
  obtain ⟨pt, q, vR, ks, vR2, vI, vS, hs, h1, h2, h3, h4⟩ := h
  exact ⟨pt, q, vR, ks, vR2, vI, vS, hs, h1.below k, h2.below k, ⟨h3.own, h3.st, h3.sd⟩, h4.trans (k.mono h4.size)⟩
theorem tw_p (h1 : MP w.heap.size W p pt q vR m ks) (h2 : MD w.heap.size W d vR2 vI vS n hs) (h3 : Apart W p pt q vR ks d vR2 vI vS hs) (h4 : Below w.heap.size w W) (k : LeftP w.heap.size W p pt q vR ks m' W') : Tw w W' p d m' n := by
  have hb := leftP_below h1 k
  obtain ⟨vR', ks', k1, k2, k3, k4⟩ := k
  have hd : ∀ g, MatD.Own d vR2 vI vS g → ¬ MatP.Own p pt q vR g := fun g hg hp => h3.own g hp hg
  refine ⟨pt, q, vR', ks', vR2, vI, vS, hs, k1, h2.keep k2 hd (fun x hx hn ad e => h3.sd _ ⟨x, hx, hn, ad, e, rfl⟩), ⟨fun g hg hg2 => ?_, fun r hr hr2 => ?_, fun r hr hr2 => ?_⟩, h4.trans hb⟩
  · rcases k3 g hg with e | e
    · exact h3.own g e hg2
    · have := (h2.own_lt hg2).2; omega
  · rcases k4 r hr with e | e
    · exact h3.st r e hr2
    · have := (h2.own_lt hr2).2; omega
  · rcases k3 r hr2 with e | e
    · exact h3.sd r hr e
    · have := md_stlt h2 hr; omega
theorem tw_d (h1 : MP w.heap.size W p pt q vR m ks) (h2 : MD w.heap.size W d vR2 vI vS n hs) (h3 : Apart W p pt q vR ks d vR2 vI vS hs) (h4 : Below w.heap.size w W) (k : LeftM w.heap.size W d vR2 vI vS n' W') : Tw w W' p d m n' := by
  have hb := leftM_below h2 k
  obtain ⟨vR', vI', vS', hs', k1, k2, k3, k4⟩ := k
  refine ⟨pt, q, vR, ks, vR', vI', vS', hs', h1.keep k2 h3.own (fun x hx hn ad e => h3.st _ ⟨x, hx, hn, ad, e, rfl⟩), k1, ⟨fun g hg hg2 => ?_, fun r hr hr2 => ?_, fun r hr hr2 => ?_⟩, h4.trans hb⟩
  · rcases k3 g hg2 with e | e
    · exact h3.own g hg e
    · have := (h1.own_lt hg).2; omega
  · rcases k3 r hr2 with e | e
    · exact h3.st r hr e
    · have := h1.st_lt hr; omega
  · obtain ⟨x, hx, hn, ad, e, rfl⟩ := hr
    rcases k4 x hx hn ad e with e1 | e1
    · exact h3.sd _ (md_st h2 e1) hr2
    · have := (h1.own_lt hr2).2; omega
/-- The program's Apply, beside the document's machine. -/
theorem Tw.ap (h : Tw w W p d m n) (hf : Fit m) (s : ByteArray) (hs : s.size ≤ 9223372036854775807) {y : Ry} (hy : (ap m s).2 = y) :
    Calls Tryz.prog 11 #[.pointer (some ⟨p, 0, none⟩), .string s] W fun e W' => e = .returned (.agg #[.int .i64 y.err, .int .u64 (y.num : Int), .int .u64 (y.ext : Int)]) ∧ Tw w W' p d (ap m s).1 n := by
  subst hy
  obtain ⟨pt, q, vR, ks, vR2, vI, vS, hs', h1, h2, h3, h4⟩ := h
  exact (ApplyQ.pap_any h1 hf s hs).mono fun e W' k => ⟨k.1, tw_p h1 h2 h3 h4 k.2⟩
/-- The document's Apply, beside the program's machine. -/
theorem Tw.dap (h : Tw w W p d m n) (hf : Fit n) (s : ByteArray) (hs : s.size ≤ 9223372036854775807) {y : Ry} (hy : (Mch.ap n s).2 = y) :
    Calls Tryz.prog 12 #[.pointer (some ⟨d, 0, none⟩), .string s] W fun e W' => e = .returned (.agg #[.int .i64 y.err, .int .u64 (y.num : Int), .int .u64 (y.ext : Int)]) ∧ Tw w W' p d m (Mch.ap n s).1 := by
  subst hy
  obtain ⟨pt, q, vR, ks, vR2, vI, vS, hs', h1, h2, h3, h4⟩ := h
  exact (ApM.dap_any h2 hf s hs).mono fun e W' k => ⟨k.1, tw_d h1 h2 h3 h4 k.2⟩
end
end Go.Proofs.YthaepkpmpnofgaaGreat.Twin
set_option linter.unusedVariables false
set_option linter.unusedSimpArgs false
namespace Go.Proofs.YthaepkpmpnofgaaGreat.Like
open Go.RowKit Go.Proofs.YthaepkpmpnofgaaGreat.Kit Go.Proofs.YthaepkpmpnofgaaGreat.Blocks Go.Proofs.YthaepkpmpnofgaaGreat.Ses Go.Proofs.YthaepkpmpnofgaaGreat.Rws Go.Proofs.YthaepkpmpnofgaaGreat.Boxs Go.Proofs.YthaepkpmpnofgaaGreat.Mch Go.Proofs.YthaepkpmpnofgaaGreat.SsnWalkA Go.Proofs.YthaepkpmpnofgaaGreat.MatP Go.Proofs.YthaepkpmpnofgaaGreat.Twin Go.Proofs.YthaepkpmpnofgaaGreat.SaveD
open Go.Proofs.YthaepkpmpnofgaaGreat.MatD (Hs MD scs scs_get scs_length hsCs ics id_at RG FourS)
open Go.Proofs.YthaepkpmpnofgaaGreat.Sag (Sg Snd)
open Go.Proofs.YthaepkpmpnofgaaGreat.SagAt (At Box4 sgV)
open Go.Proofs.YthaepkpmpnofgaaGreat.PckWalkH (str str_size)

theorem bdn {B : Nat} {a w : World} (h : Below B a w) (n : Nat) : Below B a (w.drewN n) := h.trans ⟨rfl, rfl, rfl, Nat.le_refl _, fun _ _ => rfl⟩
/-- What the calls on both machines answer, in every later world. -/
structure Ans (W : World) (p d n nr : Nat) (m : Mc) (hs : List Hs) (S : ByteArray) (AI AS AR : Option Addr) (cI cS cR : Nat) : Prop where
  c3 : ∀ V, Below W.heap.size W V → V.cell? ⟨d, 3, none⟩ = some (.slice AI n cI)
  c4 : ∀ V, Below W.heap.size W V → V.cell? ⟨d, 4, none⟩ = some (.slice AS n cS)
  c2 : ∀ V, Below W.heap.size W V → V.cell? ⟨d, 2, none⟩ = some (.slice AR nr cR)
  dlt : d < W.heap.size
  psave : ∀ V, Below W.heap.size W V → Calls Tryz.prog 17 #[.pointer (some ⟨p, 0, none⟩)] V fun e V' => e = .returned (.string S) ∧ Below W.heap.size W V'
  dsave : ∀ V, Below W.heap.size W V → Calls Tryz.prog 38 #[.pointer (some ⟨d, 0, none⟩)] V fun e V' => e = .returned (.string S) ∧ Below W.heap.size W V'
  sagas : ∀ V, Below W.heap.size W V → Calls Tryz.prog 18 #[.pointer (some ⟨p, 0, none⟩)] V fun e V' => ∃ A c, e = .returned (.slice A n c) ∧ Reads V' V'.heap.size 1 A n (ics m.l) ∧ Below W.heap.size W V'
  sess : ∀ V, Below W.heap.size W V → Calls Tryz.prog 21 #[.pointer (some ⟨p, 0, none⟩)] V fun e V' => ∃ A c, e = .returned (.slice A nr c) ∧ Below W.heap.size W V'
  saga : ∀ V, Below W.heap.size W V → ∀ (j : Nat) (x : Nat × Sg), m.l[j]? = some x → Calls Tryz.prog 19 #[.pointer (some ⟨p, 0, none⟩), .int .u64 (x.1 : Int)] V fun e V' => ∃ A c, e = .returned (.tuple #[.agg #[.slice A x.2.l.length c, .int .i64 x.2.st, .int .i64 x.2.cu, .int .i64 x.2.fa], .bool true]) ∧ At V' A x.2.l ∧ Below V.heap.size V V'
  ids : Reads W W.heap.size 1 AI n (ics m.l)
  sgs : RG W W.heap.size AS n hs
  hsat : ∀ x ∈ hs, At W x.A x.s.l
  said : hs.map Hs.s = m.l.map Prod.snd
  len : m.l.length = n
  n16 : n ≤ 16
  u : ∀ x ∈ m.l, U x.1
theorem ans {w W : World} {p d : Nat} {m : Mc} (h : Tw w W p d m m) (hf : Fit m) : ∃ n nr hs S AI AS AR cI cS cR, Ans W p d n nr m hs S AI AS AR cI cS cR := by
  obtain ⟨pt, q, vR, ks, vR2, vI, vS, hs, h1, h2, _, _⟩ := h
  obtain ⟨AI, cI, rfl, _, _, hI⟩ := h2.idform
  obtain ⟨AS, cS, rfl, _, _, hS⟩ := h2.sgform
  obtain ⟨AR, cR, rfl, _, _, hR⟩ := h2.tb.form
  have hl : hs.length = m.l.length := h2.len
  rw [hl] at hS
  have tr : ∀ {V V' : World}, Below W.heap.size W V → Below V.heap.size V V' → Below W.heap.size W V' := fun a b => a.trans (b.mono a.size)
  refine ⟨m.l.length, m.t.rows.length, hs, str (mcB m), AI, AS, AR, cI, cS, cR, fun V hV => ?_, fun V hV => ?_, fun V hV => ?_, h2.plt, fun V hV => ?_, fun V hV => ?_, fun V hV => ?_, fun V hV => ?_, fun V hV j x hx => ?_, hI, hS, fun x hx => (h2.steps x hx).1, h2.said, rfl, hf.few, hf.u⟩
  · exact (h2.below hV).c3
  · rw [← hl]; exact (h2.below hV).c4
  · exact (h2.below hV).tb.c2
  · exact (SaveP.psave_any (h1.below hV) hf (Lib.hid rfl)).mono fun e V' k => ⟨k.1, tr hV k.2⟩
  · exact (dsave_any (h2.below hV) hf (Lib.hid rfl)).mono fun e V' k => ⟨k.1, tr hV k.2⟩
  · exact (ListP.psagas_any (h1.below hV) hf).mono fun e V' ⟨A, c, k1, k2, k3, _⟩ => ⟨A, c, k1, k2, tr hV k3⟩
  · exact (SaveP.psess_any (h1.below hV) hf).mono fun e V' ⟨A, c, k1, k2, k3⟩ => ⟨A, c, k1, tr hV k3⟩
  · have h1V := h1.below hV
    have hsk : ∃ y, lookS ks x.1 = some y ∧ y.s = x.2 ∧ (x.1, y) ∈ ks := by
      have hsl := h1.said
      cases hs' : seekS m.l x.1 with
      | none => exact absurd rfl (seekS_none hs' x (List.mem_of_getElem? hx))
      | some i =>
        have hs2 := hs'
        rw [← hsl] at hs2
        obtain ⟨e, h3, h4⟩ := seek_at hs2
        refine ⟨e, h3, ?_, List.mem_of_getElem? h4⟩
        obtain ⟨z, hz, hz1, hil, _⟩ := seekS_some hs'
        have hij : i = j := by
          have hg := hf.grow
          unfold Grow at hg
          rw [List.pairwise_iff_getElem] at hg
          obtain ⟨a1, rfl⟩ := List.getElem?_eq_some_iff.1 hz
          obtain ⟨a2, rfl⟩ := List.getElem?_eq_some_iff.1 hx
          rcases Nat.lt_trichotomy i j with hc | hc | hc
          · have := hg i j a1 a2 hc; omega
          · exact hc
          · have := hg j i a2 a1 hc; omega
        subst hij
        have h5 : m.l[i]? = some (x.1, e.s) := by rw [← hsl]; unfold pure1; rw [List.getElem?_map, h4]; rfl
        rw [hx] at h5
        exact (congrArg Prod.snd (Option.some.inj h5)).symm
    obtain ⟨y, hy1, hy2, hy3⟩ := hsk
    have hat : At V y.A y.s.l := (h1V.steps _ hy3).1
    refine (SaveP.psaga_some h1V (hf.u x (List.mem_of_getElem? hx)) hy1 hat).mono ?_
    rintro e V' ⟨A, c, k1, k2, k3⟩
    rw [hy2] at k1 k2
    exact ⟨A, c, k1, k2, k3⟩
set_option maxRecDepth 100000 in
set_option maxHeartbeats 8000000 in
theorem alike_lit {W : World} {p d n nr : Nat} {m : Mc} {hs : List Hs} {S : ByteArray} {AI AS AR : Option Addr} {cI cS cR : Nat} (h : Ans W p d n nr m hs S AI AS AR cI cS cR) :
    Calls Tryz.prog 13 #[.pointer (some ⟨p, 0, none⟩), .pointer (some ⟨d, 0, none⟩)] W fun e w' => e = .returned (.bool true) ∧ Below W.heap.size W w' := by
  have HH := Lib.hid h
  have n16 := h.n16
  have HB0 : Hid (Below W.heap.size W W.drew) := (Below.refl W.heap.size W).drew
  have dlt := h.dlt
  have HD : Hid (∀ V, Below W.heap.size W V → d < V.heap.size) := fun V hV => Nat.lt_of_lt_of_le dlt hV.size
  clear h dlt
  go_enter Tryz.func13, Tryz.ntmps13
  go_wp2_with fail
  go_region_held3 (fun V => V.cell? ⟨d, 3, none⟩ = some (.slice AI n cI) ∧ d < V.heap.size)
    (first
      | exact ⟨HH.out.c3 _ HB0.out, HD.out _ HB0.out⟩
      | exact ⟨HH.out.c3 _ HB1.out, HD.out _ HB1.out⟩
      | exact ⟨HH.out.c3 _ HB2.out, HD.out _ HB2.out⟩
      | exact ⟨HH.out.c3 _ HB3.out, HD.out _ HB3.out⟩)
    (first
      | (go_at_call 17
         (first
           | (with_reducible refine (HH.out.psave _ HB2.out).mono ?_)
           | (with_reducible refine (HH.out.psave _ HB0.out).mono ?_))
         rintro en wA ⟨rfl, hA⟩
         have HB1 := Lib.hid hA
         clear hA)
      | (go_at_call 38
         (first
           | (with_reducible refine (HH.out.dsave _ HB1.out).mono ?_)
           | (with_reducible refine (HH.out.dsave _ HB0.out).mono ?_))
         rintro en wA ⟨rfl, hA⟩
         have HB2 := Lib.hid hA
         clear hA)
      | (go_at_call 18
         (first
           | (with_reducible refine (HH.out.sagas _ HB1.out).mono ?_)
           | (with_reducible refine (HH.out.sagas _ HB2.out).mono ?_))
         rintro en wA ⟨A1, c1, rfl, hr1, hA⟩
         have HB3 := Lib.hid hA
         clear hA hr1))
  go_wp2_with fail
  go_at_call 18
  with_reducible refine (HH.out.sagas _ HB3.out).mono ?_
  rintro e w4 ⟨A4, c4, rfl, hr4, hb4⟩
  have HB4 := Lib.hid hb4
  have HR4 := Lib.hid hr4
  clear hr4 hb4 HB1 HB2 HB3 HB0
  go_wp2
  go_loopw [28] (fun x wr => ∃ j : Nat, j ≤ n ∧ x = .int .i64 (j : Int) ∧ Hid (Below w4.heap.size w4 wr)) (fun x _ => n - (intOf x).toNat)
  case atStart => exact ⟨0, by omega, rfl, Below.refl _ _⟩
  case round =>
    obtain ⟨j, hj, rfl, hB⟩ := hrel
    have HW : Hid (Below W.heap.size W wr) := HB4.out.trans (hB.out.mono HB4.out.size)
    by_cases hjn : j < n
    · obtain ⟨b1, o1, x, rfl, hlt1, hx, hc1⟩ := id_at (HR4.out.below hB.out) hjn
      obtain ⟨b2, o2, x', rfl, hlt2, hx', hc2⟩ := id_at HH.out.ids hjn
      obtain rfl : x' = x := by rw [hx] at hx'; exact (Option.some.inj hx').symm
      obtain ⟨b3, o3, e, rfl, hlt3, he, hf4⟩ := RG.at_ HH.out.sgs hjn
      have hes : e.s = x'.2 := by
        have h5 : (hs.map Hs.s)[j]? = (m.l.map Prod.snd)[j]? := by rw [HH.out.said]
        rw [List.getElem?_map, List.getElem?_map, he, hx] at h5
        exact Option.some.inj h5
      have hat := HH.out.hsat e (List.mem_of_getElem? he)
      have HSG := Lib.hid (HH.out.saga _ HW.out j _ hx)
      obtain ⟨id, ⟨sl, st, cu, fa⟩⟩ := x'
      obtain ⟨eA, ec, es⟩ := e
      simp only at hes
      subst hes
      simp only at hat HSG hc1 hc2
      obtain ⟨f0, f1, f2, f3⟩ := hf4
      simp only at f0 f1 f2 f3
      have hb1 : b1 < wr.heap.size := Nat.lt_of_lt_of_le hlt1 hB.out.size
      have HF : Hid (∀ V, Below W.heap.size W V → V.cell? ⟨b2, o2 + j, none⟩ = some (.int .u64 (id : Int)) ∧ V.cell? ⟨b3, o3 + j * 4, none⟩ = some (.slice eA sl.length ec) ∧ V.cell? ⟨b3, o3 + j * 4 + 1, none⟩ = some (.int .i64 st) ∧ V.cell? ⟨b3, o3 + j * 4 + 2, none⟩ = some (.int .i64 cu) ∧ V.cell? ⟨b3, o3 + j * 4 + 3, none⟩ = some (.int .i64 fa) ∧ At V eA sl) := fun V hV =>
        ⟨(hV.cell (p := ⟨b2, o2 + j, none⟩) hlt2).trans hc2, (hV.cell (p := ⟨b3, o3 + j * 4, none⟩) hlt3).trans f0, (hV.cell (p := ⟨b3, o3 + j * 4 + 1, none⟩) hlt3).trans f1, (hV.cell (p := ⟨b3, o3 + j * 4 + 2, none⟩) hlt3).trans f2, (hV.cell (p := ⟨b3, o3 + j * 4 + 3, none⟩) hlt3).trans f3, hat.below hV⟩
      have HJ := Lib.hid hjn
      clear hx hx' he hat f0 f1 f2 f3 hc2
      go_wp2_with fail
      go_at_call 19
      with_reducible refine HSG.out.mono ?_
      rintro en w5 ⟨A5, c5, rfl, hat5, hb5⟩
      have hX := Box4.new w5 (.slice A5 sl.length c5) (.int .i64 st) (.int .i64 cu) (.int .i64 fa)
      have hb6 : Below w5.heap.size w5 (w5.alloc (.cells #[.slice A5 sl.length c5, .int .i64 st, .int .i64 cu, .int .i64 fa] 49)) := (Below.refl _ _).alloc (Nat.le_refl _) _
      have hat6 := hat5.below hb6
      obtain ⟨w6, hw6⟩ : ∃ w6, w5.alloc (.cells #[.slice A5 sl.length c5, .int .i64 st, .int .i64 cu, .int .i64 fa] 49) = w6 := ⟨_, rfl⟩
      obtain ⟨g, hg⟩ : ∃ g, w5.heap.size = g := ⟨_, rfl⟩
      rw [hw6] at hX hb6 hat6
      rw [hg] at hX
      have HW6 := Lib.hid hw6
      have HG := Lib.hid hg
      have hb56 := hb5.trans (hb6.mono hb5.size)
      have HB6 : Hid (Below W.heap.size W w6) := HW.out.trans (hb56.mono HW.out.size)
      have HB6d : Hid (Below w6.heap.size w6 w6.drew) := (Below.refl w6.heap.size w6).drew
      have HC : Hid (∀ V, Below w6.heap.size w6 V → V.cell? ⟨d, 3, none⟩ = some (.slice (some ⟨b2, o2, none⟩) n cI) ∧ V.cell? ⟨d, 4, none⟩ = some (.slice (some ⟨b3, o3, none⟩) n cS) ∧ V.cell? ⟨b2, o2 + j, none⟩ = some (.int .u64 (id : Int)) ∧ V.cell? ⟨b3, o3 + j * 4, none⟩ = some (.slice eA sl.length ec) ∧ V.cell? ⟨b3, o3 + j * 4 + 1, none⟩ = some (.int .i64 st) ∧ V.cell? ⟨b3, o3 + j * 4 + 2, none⟩ = some (.int .i64 cu) ∧ V.cell? ⟨b3, o3 + j * 4 + 3, none⟩ = some (.int .i64 fa) ∧
          V.cell? ⟨g, 0, none⟩ = some (.slice A5 sl.length c5) ∧ V.cell? ⟨g, 1, none⟩ = some (.int .i64 st) ∧ V.cell? ⟨g, 2, none⟩ = some (.int .i64 cu) ∧ V.cell? ⟨g, 3, none⟩ = some (.int .i64 fa)) := fun V hV => by
        have hWV : Below W.heap.size W V := HB6.out.trans (hV.mono HB6.out.size)
        obtain ⟨q1, q2, q3, q4, q5, _⟩ := HF.out V hWV
        have hXV := hX.below hV
        exact ⟨HH.out.c3 V hWV, HH.out.c4 V hWV, q1, q2, q3, q4, q5, hXV.c0, hXV.c1, hXV.c2, hXV.c3⟩
      have HSM : Hid (∀ V, Below w6.heap.size w6 V → Calls Tryz.prog 20 #[.agg #[.slice A5 sl.length c5, .int .i64 st, .int .i64 cu, .int .i64 fa], .agg #[.slice eA sl.length ec, .int .i64 st, .int .i64 cu, .int .i64 fa]] V fun e V' => e = .returned (.bool true) ∧ Below w6.heap.size w6 V') := fun V hV =>
        (SgaWalkD.rsame_any (s := ⟨sl, st, cu, fa⟩) (s' := ⟨sl, st, cu, fa⟩) c5 ec (hat6.below hV) (HF.out V (HB6.out.trans (hV.mono HB6.out.size))).2.2.2.2.2 true (by simp)).mono fun e V' k => ⟨k.1, hV.trans (k.2.mono hV.size)⟩
      have HR : Hid (∀ V, Below w6.heap.size w6 V → Below w4.heap.size w4 V) := fun V hV => hB.out.trans ((hb56.trans (hV.mono hb56.size)).mono hB.out.size)
      clear hat5 hb5 hb6 hb56 hat6 hX hw6 hg HF HSG HW
      go_wp2_with fail
      rw [HW6.out]
      try rw [HG.out]
      go_region_held3 (fun V => V.cell? ⟨d, 3, none⟩ = some (.slice (some ⟨b2, o2, none⟩) n cI) ∧ V.cell? ⟨d, 4, none⟩ = some (.slice (some ⟨b3, o3, none⟩) n cS) ∧ V.cell? ⟨b2, o2 + j, none⟩ = some (.int .u64 (id : Int)) ∧ V.cell? ⟨b3, o3 + j * 4, none⟩ = some (.slice eA sl.length ec) ∧ V.cell? ⟨b3, o3 + j * 4 + 1, none⟩ = some (.int .i64 st) ∧ V.cell? ⟨b3, o3 + j * 4 + 2, none⟩ = some (.int .i64 cu) ∧ V.cell? ⟨b3, o3 + j * 4 + 3, none⟩ = some (.int .i64 fa) ∧
          V.cell? ⟨g, 0, none⟩ = some (.slice A5 sl.length c5) ∧ V.cell? ⟨g, 1, none⟩ = some (.int .i64 st) ∧ V.cell? ⟨g, 2, none⟩ = some (.int .i64 cu) ∧ V.cell? ⟨g, 3, none⟩ = some (.int .i64 fa))
        (first
          | exact HC.out _ HB6d.out
          | exact HC.out _ HB7.out)
        (first
          | (go_at_call 20
             (with_reducible refine (HSM.out _ HB6d.out).mono ?_)
             rintro en wA ⟨rfl, hA⟩
             have HB7 := Lib.hid hA
             clear hA))
      all_goals clear HC HSM
      all_goals go_wp2
      all_goals
        refine ⟨⟨j + 1, HJ.out, by go_num, HR.out _ HB7.out⟩, ?_⟩
        have := HJ.out
        simp [intOf]
        omega
    · obtain rfl : j = n := by omega
      have HWd : Hid (Below W.heap.size W wr.drew) := HW.out.drew
      clear hjn HR4
      go_wp2_with fail
      go_region_held3 (fun V => V.cell? ⟨d, 2, none⟩ = some (.slice AR nr cR) ∧ d < V.heap.size)
        (first
          | exact ⟨HH.out.c2 _ HWd.out, HD.out _ HWd.out⟩
          | exact ⟨HH.out.c2 _ HB8.out, HD.out _ HB8.out⟩)
        (first
          | (go_at_call 21
             (with_reducible refine (HH.out.sess _ HWd.out).mono ?_)
             rintro en wA ⟨A8, c8, rfl, hA⟩
             have HB8 := Lib.hid hA
             clear hA))
      all_goals go_wp2
      all_goals go_ret
      all_goals exact ⟨rfl, HB8.out⟩
theorem alike_any {w W : World} {p d : Nat} {m : Mc} (h : Tw w W p d m m) (hf : Fit m) :
    Calls Tryz.prog 13 #[.pointer (some ⟨p, 0, none⟩), .pointer (some ⟨d, 0, none⟩)] W fun e W' => e = .returned (.bool true) ∧ Tw w W' p d m m := by
  obtain ⟨n, nr, hs, S, AI, AS, AR, cI, cS, cR, ha⟩ := ans h hf
  exact (alike_lit ha).mono fun e W' k => ⟨k.1, h.below k.2⟩
end Go.Proofs.YthaepkpmpnofgaaGreat.Like
set_option linter.unusedVariables false
set_option linter.unusedSimpArgs false
namespace Go.Proofs.YthaepkpmpnofgaaGreat.LawR
open Go.RowKit Go.Proofs.YthaepkpmpnofgaaGreat.Kit Go.Proofs.YthaepkpmpnofgaaGreat.Blocks Go.Proofs.YthaepkpmpnofgaaGreat.Ses Go.Proofs.YthaepkpmpnofgaaGreat.Rws Go.Proofs.YthaepkpmpnofgaaGreat.Boxs Go.Proofs.YthaepkpmpnofgaaGreat.Mch Go.Proofs.YthaepkpmpnofgaaGreat.SsnWalkA Go.Proofs.YthaepkpmpnofgaaGreat.MatP Go.Proofs.YthaepkpmpnofgaaGreat.Alone Go.Proofs.YthaepkpmpnofgaaGreat.Beg Go.Proofs.YthaepkpmpnofgaaGreat.Twin Go.Proofs.YthaepkpmpnofgaaGreat.Like Go.Proofs.YthaepkpmpnofgaaGreat.Lgt
open Go.Proofs.YthaepkpmpnofgaaGreat.MatD (Hs MD)

theorem md_le {B B' : Nat} {w : World} {p : Nat} {vR vI vS : Value} {m : Mc} {hs : List Hs} (h : MD B w p vR vI vS m hs) (hB : B' ≤ B) : MD B' w p vR vI vS m hs :=
  ⟨tat_le h.tb hB, h.said, own_base h.ids hB, own_base h.sgs hB, h.pi, h.ps, h.ri, h.rs, h.is_, h.steps⟩
theorem tw_new {w W : World} {p : Nat} (h : Al w W p mc0) (hk : ∃ pt q vR, MP w.heap.size W p pt q vR mc0 []) : Calls Tryz.prog 10 #[] W fun e W' => ∃ d, e = .returned (.pointer (some ⟨d, 0, none⟩)) ∧ Tw w W' p d mc0 mc0 := by
  obtain ⟨pt, q, vR, h1⟩ := hk
  refine (MatD.dnew_any W).mono ?_
  rintro e W' ⟨d, rfl, h2, hb⟩
  refine ⟨d, rfl, pt, q, vR, [], _, _, _, [], h1.below hb, md_le h2 h.bel.size, ⟨fun g hg hg2 => ?_, fun r hr => ?_, fun r hr => ?_⟩, h.bel.trans (hb.mono h.bel.size)⟩
  · have := (h1.own_lt hg).2; have := (h2.own_lt hg2).1; omega
  · obtain ⟨x, hx, _⟩ := hr; simp at hx
  · obtain ⟨x, hx, _⟩ := hr; simp at hx
theorem al_mp {w W : World} {p : Nat} (h : Al w W p mc0) : ∃ pt q vR, MP w.heap.size W p pt q vR mc0 [] := by
  obtain ⟨pt, q, vR, ks, h1, _⟩ := h
  have : ks = [] := List.eq_nil_of_length_eq_zero (by have := h1.len; simpa [mc0] using this)
  subst this
  exact ⟨pt, q, vR, h1⟩
set_option maxRecDepth 100000 in
set_option maxHeartbeats 8000000 in
theorem runs_any {w : World} {A : Option Addr} {c : Nat} {L : List ByteArray} (h : Came w A c L) :
    Calls Tryz.prog 3 #[.slice A L.length c] w fun e w' => e = .returned (.bool true) ∧ Below w.heap.size w w' := by
  have HC := Lib.hid h
  have hmax := Nat.le_trans h.fits h.max
  obtain ⟨n, hn⟩ : ∃ n, L.length = n := ⟨_, rfl⟩
  have HN := Lib.hid hn
  have HLT : Hid (∀ W, Below w.heap.size w W → Calls Tryz.prog 8 #[.slice A n c] W fun e W' => ∃ b, e = .returned (.bool b) ∧ Below W.heap.size W W') := fun W hb => by rw [← hn]; exact light_any h hb
  rw [hn] at hmax ⊢
  clear h hn
  go_enter Tryz.func3, Tryz.ntmps3
  go_wp2_with fail
  go_at_call 7
  refine (begun_true w).mono ?_
  rintro e w1 ⟨rfl, hb1⟩
  have HB1 := Lib.hid hb1
  clear hb1
  go_wp2_with fail
  go_at_call 8
  refine (HLT.out _ HB1.out).mono ?_
  rintro e w2 ⟨b, rfl, hb2⟩
  have HB2 := Lib.hid (HB1.out.trans (hb2.mono HB1.out.size))
  clear hb2 HB1 HLT
  cases b with
  | false =>
    go_wp2
    go_ret
    exact ⟨rfl, HB2.out⟩
  | true =>
    go_wp2_with fail
    go_at_call 9
    refine (al_new w HB2.out).mono ?_
    rintro e w3 ⟨p, rfl, hal⟩
    have HAL := Lib.hid hal
    clear hal
    go_wp2_with fail
    go_at_call 10
    refine (tw_new HAL.out (al_mp HAL.out)).mono ?_
    rintro e w4 ⟨d, rfl, htw⟩
    have HT0 := Lib.hid htw
    clear htw HAL
    go_wp2
    go_loopw [16] (fun x wr => ∃ (j : Nat) (m : Mc), j ≤ n ∧ x = .int .i64 (j : Int) ∧ Hid (Tw w wr p d m m ∧ Fit m)) (fun x _ => n - (intOf x).toNat)
    case atStart => exact ⟨0, mc0, by omega, rfl, HT0.out, fit0⟩
    case round =>
      obtain ⟨j, m, hj, rfl, hT⟩ := hrel
      clear HT0
      by_cases hjn : j < n
      · obtain ⟨b, o, s, rfl, hlt, hs, hcell⟩ := txs_at (HC.out.txs.below hT.out.1.bel) (k := j) (by rw [HN.out]; exact hjn)
        have hsz := HC.out.each s (List.mem_of_getElem? hs)
        have hb0 : b < wr.heap.size := Nat.lt_of_lt_of_le hlt hT.out.1.bel.size
        obtain ⟨m', e', hap⟩ : ∃ m' e', ap m s = (m', e') := ⟨_, _, rfl⟩
        obtain ⟨ye, yn, yx⟩ := e'
        have hf' := (ap_fit hT.out.2 s).1
        rw [hap] at hf'
        have HP : Hid (Calls Tryz.prog 11 #[.pointer (some ⟨p, 0, none⟩), .string s] wr fun e W' => e = .returned (.agg #[.int .i64 ye, .int .u64 (yn : Int), .int .u64 (yx : Int)]) ∧ Tw w W' p d m' m) := by
          have := hT.out.1.ap hT.out.2 s hsz (y := ⟨ye, yn, yx⟩) (by rw [hap])
          rw [hap] at this
          exact this
        have HQ : Hid (∀ W, Tw w W p d m' m → Calls Tryz.prog 12 #[.pointer (some ⟨d, 0, none⟩), .string s] W fun e W' => e = .returned (.agg #[.int .i64 ye, .int .u64 (yn : Int), .int .u64 (yx : Int)]) ∧ Tw w W' p d m' m') := fun W hW => by
          have := hW.dap hT.out.2 s hsz (y := ⟨ye, yn, yx⟩) (by rw [hap])
          rw [hap] at this
          exact this
        have HF := Lib.hid hf'
        have HJ := Lib.hid hjn
        clear hT hap hf' hs hlt hsz
        go_wp2_with fail
        go_at_call 11
        refine HP.out.mono ?_
        rintro en w5 ⟨rfl, h5⟩
        have H5 := Lib.hid h5
        clear h5 HP
        go_wp2_with fail
        go_at_call 12
        refine (HQ.out _ H5.out).mono ?_
        rintro en w6 ⟨rfl, h6⟩
        have H6 := Lib.hid h6
        clear h6 HQ H5
        by_cases h4 : j % 4 = 0
        · have h4I : (j : Int) % 4 = 0 := by omega
          have h4T : Int.tmod (j : Int) 4 = 0 := by rw [Int.tmod_eq_emod_of_nonneg (by omega)]; omega
          go_wp2_with fail
          go_at_call 13
          refine (alike_any H6.out HF.out).mono ?_
          rintro en w7 ⟨rfl, h7⟩
          have H7 : Hid (Tw w w7 p d m' m' ∧ Fit m') := ⟨h7, HF.out⟩
          clear h7
          go_wp2
          refine ⟨⟨j + 1, m', HJ.out, by go_num, H7⟩, by have := HJ.out; simp [intOf]; omega⟩
        · have h4I : ¬ (j : Int) % 4 = 0 := by omega
          have h4T : ¬ Int.tmod (j : Int) 4 = 0 := by rw [Int.tmod_eq_emod_of_nonneg (by omega)]; omega
          have H7 : Hid (Tw w w6 p d m' m' ∧ Fit m') := ⟨H6.out, HF.out⟩
          go_wp2
          refine ⟨⟨j + 1, m', HJ.out, by go_num, H7⟩, by have := HJ.out; simp [intOf]; omega⟩
      · obtain rfl : j = n := by omega
        go_wp2_with fail
        go_at_call 13
        refine (alike_any hT.out.1 hT.out.2).mono ?_
        rintro en w7 ⟨rfl, h7⟩
        have HB7 := Lib.hid h7.bel
        clear h7 hT
        go_wp2
        go_ret
        exact ⟨rfl, HB7.out⟩
end Go.Proofs.YthaepkpmpnofgaaGreat.LawR
namespace Go.Proofs.YthaepkpmpnofgaaGreat.Opr
open Go.RowKit Go.Proofs.YthaepkpmpnofgaaGreat.Kit Go.Proofs.YthaepkpmpnofgaaGreat.Opt
theorem runs_walk (A : Option Addr) (n c : Nat) (L : List ByteArray) (w : World) (h : CameT w A n c L) : Calls Tryz.prog 3 #[.slice A n c] w fun e w' => e = .returned (.bool true) ∧ Below w.heap.size w w' := by
  have := LawR.runs_any h.came
  rw [h.len] at this
  exact this
end Go.Proofs.YthaepkpmpnofgaaGreat.Opr
namespace Go.Proofs.YthaepkpmpnofgaaGreat.PMachineRuns
open Go.ChangeShapes Go.WideShapes Go.ChangeAt Go.RowKit Go.Proofs.YthaepkpmpnofgaaGreat.Kit Go.Proofs.YthaepkpmpnofgaaGreat.Frame
set_option linter.unusedVariables false

theorem own : ownKnob Tryz.prog.godebug = none := by kernel_rfl
theorem laidOut : laidOutB Tryz.prog = true := by kernel_rfl

set_option maxRecDepth 100000 in
theorem contract (H : Type) (enc : TypeId × Value → H) (W : World) (base : Nat) (args : Array Value) (ds gs : List (DataW H)) (before : List MemPlace)
    (hval : ∀ (j : Nat) t v, Tryz.f3.params[j]? = some t → args[j]? = some v → Value.okWide Tryz.prog W .any base t v)
    (hW : DataW.Whole enc Tryz.prog Tryz.f3.params.toList Rows.machineRunsSpec.vars false W args.toList ds gs before)
    (hs0 : (DataW.weightsEach Tryz.prog (Tryz.f3.params.toList ++ Rows.machineRunsSpec.plain.varTypes Tryz.prog) (ds ++ gs)).all (· ≤ reachBytes) = true) :
    Calls Tryz.prog 3 args W fun e W' => ∃ v, e = .returned v ∧ Rows.machineRunsSpec.post enc Tryz.prog Tryz.f3 false true false false W args v W' := by
  have hW' := hW
  have hsz : (DataW.weightsEach Tryz.prog (Tryz.f3.params.toList ++ Rows.machineRunsSpec.plain.varTypes Tryz.prog) (ds ++ gs)).all (· ≤ reachBytes) = true := hs0
  obtain ⟨p, q, hA0, hV, rfl, hfz, hnd⟩ := hW
  have hA : DataW.TrodAll enc Tryz.prog W 0 (fun _ => true) true Tryz.f3.params.toList args.toList ds p := hA0
  rw [Tryz.params3] at hA hval hsz
  obtain ⟨v0, vs0, d0, ds0, p0, q0, hargs, rfl, rfl, h0, r0⟩ := trodAll_cons hA
  obtain ⟨rfl, rfl, rfl⟩ := trodAll_nil r0
  obtain rfl : args = #[v0] := by cases args; simp_all
  obtain ⟨rfl, rfl⟩ := trodVars_none hV
  have lt0 : ∀ x ∈ p0, x.block < W.heap.size := by obtain ⟨m, hm⟩ := h0; exact DataW.trod_lt m _ _ _ hm
  obtain ⟨A0, n0, c0, l0, rfl, h0_0⟩ := Opt.arg_texts (hval 0 22 v0 rfl rfl) h0
  clear hA0
  refine (Opr.runs_walk A0 n0 c0 l0 W h0_0).mono fun e W' ⟨he, bel⟩ => ?_
  subst he
  exact ⟨_, rfl, _, _, _, [], _, [], hW', trodAll_mk1 (shut_bool Tryz.underlying4 _), (trodAll_cons_mk (Below.trod laidOut (by kernel_rfl) (of_decide_eq_true (by kernel_rfl)) h0 bel lt0) trodAll_mk0), rfl, bel.frame _, fun h => by cases h⟩

set_option maxRecDepth 100000 in
theorem lifted (os : Os) (started : os.Started) (H : Type) (enc : TypeId × Value → H) :
    ReturnsInHanded {} Tryz.checked os 3 .any (Rows.machineRunsSpec.pre6 enc Tryz.prog Tryz.f3 Rows.machineRunsRow.domain false) (Rows.machineRunsSpec.post enc Tryz.prog Tryz.f3 false true false false) := by
  refine returnsInHanded_of_change_sized (C := Tryz.checked) own started (by kernel_rfl) Tryz.func3
    (ChangeSpec.witness6 (enc := enc) (C := Tryz.checked) false ⟨#[], #[.slice none 0 0], []⟩ 8 (by kernel_rfl) (by kernel_rfl) (by kernel_rfl) (by kernel_rfl)) ?_
  intro W base args ds gs before hval hW _ hs _
  exact contract H enc W base args ds gs before hval hW hs

theorem over : Rows.machineRunsRow.holds Tryz.pinned (OpenSpec.ofChange Rows.machineRunsSpec) :=
  OpenClaim.holds_of_wide 3 Tryz.f3 rfl rfl rfl rfl rfl rfl rfl ⟨rfl, rfl, rfl, rfl, rfl⟩ rfl rfl rfl rfl rfl (by kernel_rfl) Tryz.func3 (by kernel_rfl)
    (of_decide_eq_true (by kernel_rfl)) (by unfold Func.isWrapper; first | (rw [if_pos (by decide +kernel)]; kernel_rfl) | (rw [if_neg (by decide +kernel)]; exact ⟨rfl, rfl⟩))
    (fun os started H enc _ => lifted os started H enc)

theorem proved : Rows.MachineRunsSaid := over
end Go.Proofs.YthaepkpmpnofgaaGreat.PMachineRuns
