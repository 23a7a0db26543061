/- RlogStays, walked. -/
import Derived.Test.YtndehdnffajigaaLawB
set_option linter.unusedVariables false
namespace Go.Proofs.Ytndehdnffajigaa.LawC
open Go.RowKit Go.Proofs.Ytndehdnffajigaa.Kit Go.Proofs.Ytndehdnffajigaa.Blocks Go.Proofs.Ytndehdnffajigaa.Rlog Go.Proofs.Ytndehdnffajigaa.Ents Go.Proofs.Ytndehdnffajigaa.LogAt Go.Proofs.Ytndehdnffajigaa.WalkB Go.Proofs.Ytndehdnffajigaa.WalkD Go.Proofs.Ytndehdnffajigaa.WalkE Go.Proofs.Ytndehdnffajigaa.WalkF Go.Proofs.Ytndehdnffajigaa.WalkH Go.Proofs.Ytndehdnffajigaa.RefA Go.Proofs.Ytndehdnffajigaa.RefB Go.Proofs.Ytndehdnffajigaa.Cals Go.Proofs.Ytndehdnffajigaa.Duos Go.Proofs.Ytndehdnffajigaa.Both Go.Proofs.Ytndehdnffajigaa.Made Go.Proofs.Ytndehdnffajigaa.Light Go.Proofs.Ytndehdnffajigaa.Opens Go.Proofs.Ytndehdnffajigaa.Alike Go.Proofs.Ytndehdnffajigaa.LawB

theorem field0 (w : World) (a b c : Int) (d : ByteArray) : (Instr.field 24 (.agg #[.int .u64 a, .int .u64 b, .int .u64 c, .string d]) 0).run Try.prog w = .ok (.int .u64 a) w := by kernel_rfl
/-- What a log tells, made a new one. -/
theorem again_new {g : G} (f : Fine g) {A : Option Addr} {n c : Nat} {W : World} (hr : RE W W.heap.size A n g.es) (h63 : n * 40 ≤ 140737488355328) : Calls Try.prog 11 #[snapV g.snap, .slice A n c] W (NewLog 70 W g) :=
  pnew_ok f.snap A n c g.es W hr f.ents h63 (by unfold okB; rw [f.cfg, f.runs]; rfl)
theorem get_all2 {B p : Nat} {v : Value} {g : G} {W : World} (h : LP B W p v g) (f : Fine g) (hl : g.es.length ≤ 800) {J : Nat} (hJ : J = (g.snap.idx + 1) % 18446744073709551616) :
    Calls Try.prog 16 #[.pointer (some ⟨p, 0, none⟩), .int .u64 (J : Int), .int .i64 2000] W (Gives W g.es) := by
  have := get_any h (i := J) (n := 2000) (by omega) (by omega) (by omega)
  rwa [get_all f hJ (by omega)] at this
set_option maxRecDepth 100000 in
set_option maxHeartbeats 4000000 in
theorem stays_walk (s : Snap) (A : Option Addr) (n c : Nat) (l : List Ent) (C : Option Addr) (m cc : Nat) (L : List Cal) (w : World) (hs : SnapB s) (hl : CameE w A n c l) (hh : Holds w w.heap.size C m L) (hm : m ≤ 9223372036854775807) (hT : total l L ≤ 1048576) :
    Calls Try.prog 4 #[snapV s, .slice A n c, .slice C m cc] w fun e w' => e = .returned (.bool true) ∧ Below w.heap.size w w' := by
  have hn : l.length = n := RE.len hl.reads
  have hnT : l.length ≤ total l L := by unfold total; omega
  have hbx := Box4.new w (.int .u64 (s.idx : Int)) (.int .u64 (s.term : Int)) (.int .u64 (s.cfg : Int)) (.string s.data) 24
  have hba : Below w.heap.size w (w.alloc (.cells #[.int .u64 (s.idx : Int), .int .u64 (s.term : Int), .int .u64 (s.cfg : Int), .string s.data] 24)) := (Below.refl _ _).alloc (Nat.le_refl _) _
  have hlt := light_of (l := l) (L := L) (by omega)
  have hre : ∀ W, Below w.heap.size w W → RE W W.heap.size A n l := fun W hb => (Kit.Reads.below hl.reads hb).more hb.size
  have hlight : ∀ W, Below w.heap.size w W → Calls Try.prog 10 #[.slice A n c, .slice C m cc] W (TellsB W (lightB l L)) := fun W hb =>
    light_any A n c l C m cc L W (hre W hb) hl.ents (by omega) (hh.below hb hb.size) hm
  have hp1 : okB s l = true → ∀ W, Below w.heap.size w W → Calls Try.prog 11 #[snapV s, .slice A n c] W (NewLog 70 W ⟨s, l⟩) := fun ho W hb => pnew_ok hs A n c l W (hre W hb) hl.ents (by omega) ho
  have hp0 : okB s l = false → ∀ W, Below w.heap.size w W → Calls Try.prog 11 #[snapV s, .slice A n c] W (NoLog W) := fun ho W hb => pnew_no hs A n c l W (hre W hb) hl.ents (by omega) ho
  have hr1 : okB s l = true → ∀ W, Below w.heap.size w W → Calls Try.prog 12 #[snapV s, .slice A n c] W (NewLog 73 W ⟨s, l⟩) := fun ho W hb => rnew_ok hs A n c l W (hre W hb) hl.ents (by omega) ho
  have hr0 : okB s l = false → ∀ W, Below w.heap.size w W → Calls Try.prog 12 #[snapV s, .slice A n c] W (NoLog W) := fun ho W hb => rnew_no hs A n c l W (hre W hb) hl.ents (by omega) ho
  have hfine : okB s l = true → Fine ⟨s, l⟩ := fun ho => fine_ok ho hs hl.ents
  have hsi := hs.idx
  unfold snapV at hp1 hp0 hr1 hr0 ⊢
  have HX := Lib.hid hbx
  have HB := Lib.hid hba
  have HLight := Lib.hid hlight
  have HP1 := Lib.hid hp1
  have HP0 := Lib.hid hp0
  have HR1 := Lib.hid hr1
  have HR0 := Lib.hid hr0
  have HF := Lib.hid hfine
  have HH := Lib.hid hh
  have HLt := Lib.hid hlt
  have HN := Lib.hid hn
  clear hbx hba hlight hp1 hp0 hr1 hr0 hre hfine hh hlt hn hnT hl hs
  go_enter Try.func4, Try.ntmps4
  go_wp2_with fail
  refine (Begun.begun_any _).mono ?_
  rintro e w1 ⟨rfl, hb1⟩
  have HX1 := Lib.hid (HX.out.below hb1)
  have hB1 := HB.out.trans (hb1.mono HB.out.size)
  clear hb1
  go_wp2_with fail
  refine (HLight.out w1 hB1).mono ?_
  rintro e w2 ⟨rfl, hb2⟩
  have hx2 := HX1.out.below hb2
  have HX2 := Lib.hid hx2
  have hB2 := hB1.trans (hb2.mono hB1.size)
  have c0 := hx2.c0
  have c1 := hx2.c1
  have c2 := hx2.c2
  have c3 := hx2.c3
  have hltx := hx2.lt
  clear hb2 hx2
  cases hLB : lightB l L with
  | false =>
    clear hLB
    go_wp2
    go_ret
    exact ⟨rfl, hB2⟩
  | true =>
    have h800 : total l L ≤ 800 := by have := HLt.out; rw [hLB] at this; exact of_decide_eq_true this.symm
    have HG : Hid (∀ k, grown l.length L k ≤ 800) := fun k => Nat.le_trans (grown_le k) h800
    clear hLB
    cases hok : okB s l with
    | false =>
      have HOk := Lib.hid hok
      clear hok
      go_wp2_with fail
      refine (HP0.out HOk.out w2 hB2).mono ?_
      rintro e w3 ⟨rfl, hb3⟩
      have hx3 := HX2.out.below hb3
      have hB3 := hB2.trans (hb3.mono hB2.size)
      have d0 := hx3.c0
      have d1 := hx3.c1
      have d2 := hx3.c2
      have d3 := hx3.c3
      have hltd := hx3.lt
      clear hb3 hx3 c0 c1 c2 c3
      go_wp2_with fail
      refine (HR0.out HOk.out w3 hB3).mono ?_
      rintro e w4 ⟨rfl, hb4⟩
      go_wp2
      go_ret
      exact ⟨rfl, hB3.trans (hb4.mono hB3.size)⟩
    | true =>
      have HOk := Lib.hid hok
      clear hok
      go_wp2_with fail
      refine (HP1.out HOk.out w2 hB2).mono ?_
      rintro e w3 ⟨p, v, rfl, hp, hb3⟩
      have hx3 := HX2.out.below hb3
      have hB3 := hB2.trans (hb3.mono hB2.size)
      have d0 := hx3.c0
      have d1 := hx3.c1
      have d2 := hx3.c2
      have d3 := hx3.c3
      have hltd := hx3.lt
      have HX3 := Lib.hid hx3
      have HPL := Lib.hid hp
      have HS3 := Lib.hid hb3.size
      clear hb3 hx3 c0 c1 c2 c3 hp
      go_wp2_with fail
      refine (HR1.out HOk.out w3 hB3).mono ?_
      rintro e w4 ⟨q, u, rfl, hq, hb4⟩
      have hB4 := hB3.trans (hb4.mono hB3.size)
      have hduo : Duo (fun r => r = w.heap.size) w.heap.size p q ⟨s, l⟩ ⟨s, l⟩ w4 := duo_new HPL.out HS3.out hq hb4 hB2.size (fun r hr => by subst hr; exact hltx)
      have hrun : Run (fun r => r = w.heap.size) w.heap.size p q l.length L w4 0 ⟨s, l⟩ w4 := ⟨HF.out HOk.out, by simp [grown], hduo, Kept.refl _ _ _⟩
      have HX4 := Lib.hid (HX3.out.below hb4)
      have HRun := Lib.hid hrun
      have HB4 := Lib.hid hB4
      clear hb4 hq d0 d1 d2 d3 hduo hrun hB4 hB3 hB2 hB1
      go_wp2_with fail
      go_loopw [44] (fun x wr => ∃ (k : Nat) (g : G), k ≤ m ∧ x = .int .i64 (k : Int) ∧ Hid (Run (fun r => r = w.heap.size) w.heap.size p q l.length L w4 k g wr)) (fun x _ => m - (intOf x).toNat)
      case atStart => exact ⟨0, _, by omega, rfl, HRun⟩
      case round =>
        obtain ⟨k, g, hk, rfl, HR⟩ := hrel
        have hsinB : Below w.heap.size w wr := HB4.out.trans HR.out.kept.since
        by_cases hkm : k < m
        · obtain ⟨x, hx⟩ : ∃ x, L[k]? = some x := ⟨_, List.getElem?_eq_getElem (by rw [HH.out.1]; exact hkm)⟩
          obtain ⟨b, o, rfl, hbl, hten, hcal⟩ := HH.out.2 k x hx
          have ht := hten.below hsinB hbl
          have c0 := ht.c0
          have c1 := ht.c1
          have c2 := ht.c2
          have c3 := ht.c3
          have c4 := ht.c4
          have c5 := ht.c5
          have c6 := ht.c6
          have c7 := ht.c7
          have c8 := ht.c8
          have c9 := ht.c9
          have hbo := HR.out.both hx (hcal.below hsinB (Nat.le_refl _)) (HG.out _)
          unfold callV at hbo
          have HBo := Lib.hid hbo
          have hwh := hcal.w1
          have hix := hcal.idx
          clear ht hten hcal hx hbo hsinB
          go_wp2_with fail
          refine HBo.out.mono ?_
          rintro e w6 ⟨rfl, h6⟩
          have hbox : w6.heap[wr.heap.size]? = _ := (h6.kept.block wr.heap.size (.inr rfl)).trans (heap_alloc_new wr (callO x))
          have hlte := lt_at hbox
          have hlen := Nat.le_trans h6.len (HG.out (k + 1))
          obtain ⟨v6, u6', hdx⟩ := h6.duo.ex
          generalize act g x = g6 at h6 hdx hlen
          have h2 := h6.fine.snap.idx
          obtain ⟨J, hJ⟩ : ∃ J, (g6.snap.idx + 1) % 18446744073709551616 = J := ⟨_, rfl⟩
          have hwJ : IntKind.u64.wrap ((g6.snap.idx : Int) + 1) = (J : Int) := by rw [← hJ]; exact wrap_succ h2
          have hF : ∀ W, Below w6.heap.size w6 W → Calls Try.prog 15 #[.pointer (some ⟨p, 0, none⟩)] W fun e w' => e = .returned (snapV g6.snap) ∧ Below W.heap.size W w' := fun W hb => first_any (hdx.a.below hb)
          have hGt : ∀ W, Below w6.heap.size w6 W → Calls Try.prog 16 #[.pointer (some ⟨p, 0, none⟩), .int .u64 (J : Int), .int .i64 2000] W (Gives W g6.es) := fun W hb => get_all2 (hdx.a.below hb) h6.fine hlen hJ.symm
          have hNw : ∀ W A' c', RE W W.heap.size A' g6.es.length g6.es → Calls Try.prog 11 #[snapV g6.snap, .slice A' g6.es.length c'] W (NewLog 70 W g6) := fun W A' c' hr => again_new h6.fine hr (by omega)
          have hAl : ∀ W W' p' v', Below w6.heap.size w6 W → LP W.heap.size W' p' v' g6 → Below w6.heap.size w6 W' → Calls Try.prog 14 #[.pointer (some ⟨p', 0, none⟩), .pointer (some ⟨q, 0, none⟩), .int .u64 (x.idx : Int), .int .i64 x.what] W' fun e w' => e = .returned (.bool true) ∧ Below W'.heap.size W' w' := fun W W' p' v' hb hp hb' =>
            alike_any (hp.lower (Nat.le_trans hdx.a.base hb.size)) (hdx.b.below hb') h6.fine (by omega) hix x.what hwh
          unfold snapV at hF hNw
          have HFi := Lib.hid hF
          have HGt := Lib.hid hGt
          have HNw := Lib.hid hNw
          have HAl := Lib.hid hAl
          have H6 := Lib.hid h6
          have HBox := Lib.hid hbox
          clear hF hGt hNw hAl h6 hbox hJ hlen hdx
          go_wp2_with fail
          refine (HFi.out w6 (Below.refl _ _)).mono ?_
          rintro e wa ⟨rfl, hba⟩
          go_wp2_with fail
          refine (HFi.out wa hba).mono ?_
          rintro e wb ⟨rfl, hbb⟩
          have hf0 := field0 wb (g6.snap.idx : Int) (g6.snap.term : Int) (g6.snap.cfg : Int) g6.snap.data
          have hBb := hba.trans (hbb.mono hba.size)
          clear hba hbb
          go_wp2_with fail
          refine (HGt.out wb hBb).mono ?_
          rintro e wc ⟨A', c', rfl, hr', hc', h63', hbc, _⟩
          have hBc := hBb.trans (hbc.mono hBb.size)
          clear hbc hf0 hwJ
          go_wp2_with fail
          refine (HNw.out wc A' c' hr').mono ?_
          rintro e wd ⟨p', v', rfl, hp', hbd⟩
          have hBd := hBc.trans (hbd.mono hBc.size)
          have HAk := Lib.hid (HAl.out wc wd p' v' hBc hp' hBd)
          have hbox : wd.heap[wr.heap.size]? = _ := (hBd.block wr.heap.size hlte).trans HBox.out
          have e1 : wd.cell? ⟨wr.heap.size, 1, none⟩ = some (.int .u64 (x.idx : Int)) := by rw [cell_at hbox]; rfl
          have e3 : wd.cell? ⟨wr.heap.size, 3, none⟩ = some (.int .i64 x.what) := by rw [cell_at hbox]; rfl
          have hlted := lt_at hbox
          clear hbd hp' hbox
          go_wp2_with fail
          refine HAk.out.mono ?_
          rintro e w7 ⟨rfl, hb7⟩
          have h7 : Run (fun r => (r = w.heap.size) ∨ r = wr.heap.size) w.heap.size p q l.length L (wr.alloc (callO x)) (k + 1) g6 w7 := by
            obtain ⟨hd, hk⟩ := H6.out.duo.below (hBd.trans (hb7.mono hBd.size))
            exact ⟨H6.out.fine, H6.out.len, hd, H6.out.kept.trans hk⟩
          have HR7 := Lib.hid (HR.out.down h7)
          clear h7
          go_wp2_with fail
          go_roundw
          case rel => exact ⟨k + 1, _, by omega, by go_num, HR7⟩
          case measure => simp [intOf]; omega
        · obtain rfl : k = m := by omega
          go_wp2
          go_ret
          exact ⟨rfl, hsinB⟩
end Go.Proofs.Ytndehdnffajigaa.LawC
