/- RlogRuns, walked. -/
import Derived.Test.YtndehdnffajigaaMade
import Derived.Test.YtndehdnffajigaaBegun
import Derived.Test.YtndehdnffajigaaOpens
set_option linter.unusedVariables false
namespace Go.Proofs.Ytndehdnffajigaa.LawB
open Go.RowKit Go.Proofs.Ytndehdnffajigaa.Kit Go.Proofs.Ytndehdnffajigaa.Blocks Go.Proofs.Ytndehdnffajigaa.Rlog Go.Proofs.Ytndehdnffajigaa.Ents Go.Proofs.Ytndehdnffajigaa.LogAt Go.Proofs.Ytndehdnffajigaa.WalkB Go.Proofs.Ytndehdnffajigaa.WalkD Go.Proofs.Ytndehdnffajigaa.WalkE Go.Proofs.Ytndehdnffajigaa.WalkH Go.Proofs.Ytndehdnffajigaa.RefA Go.Proofs.Ytndehdnffajigaa.RefB Go.Proofs.Ytndehdnffajigaa.Cals Go.Proofs.Ytndehdnffajigaa.Duos Go.Proofs.Ytndehdnffajigaa.Both Go.Proofs.Ytndehdnffajigaa.Made Go.Proofs.Ytndehdnffajigaa.Light Go.Proofs.Ytndehdnffajigaa.Opens Go.Proofs.Ytndehdnffajigaa.Alike

/-- Behind the first calls. -/
structure Run (R : Nat → Prop) (B p q n : Nat) (L : List Cal) (w0 : World) (k : Nat) (g : G) (W : World) : Prop where
  fine : Fine g
  len : g.es.length ≤ grown n L k
  duo : Duo R B p q g g W
  kept : Kept R B w0 W
abbrev callO (x : Cal) : Obj := .cells #[.int .i64 x.kind, .int .u64 (x.idx : Int), .int .u64 (x.term : Int), .int .i64 x.what, .string x.data, .slice x.A x.n x.c, .int .u64 (x.snap.idx : Int), .int .u64 (x.snap.term : Int), .int .u64 (x.snap.cfg : Int), .string x.snap.data] 37
/-- One call of both logs, the call's box laid ahead. -/
theorem Run.both {R : Nat → Prop} {B p q n k : Nat} {L : List Cal} {w0 wr : World} {g : G} {x : Cal} (h : Run R B p q n L w0 k g wr) (hx : L[k]? = some x) (hc : CalB wr B x) (hg : grown n L (k + 1) ≤ 800) :
    Calls Try.prog 13 #[.pointer (some ⟨p, 0, none⟩), .pointer (some ⟨q, 0, none⟩), callV x] (wr.alloc (callO x)) fun e W => e = .returned (.bool true) ∧ Run (fun r => R r ∨ r = wr.heap.size) B p q n L (wr.alloc (callO x)) (k + 1) (act g x) W := by
  obtain ⟨hd, hk⟩ := h.duo.alloc (callO x)
  have hb : Below B wr (wr.alloc (callO x)) := (Below.refl _ _).alloc h.duo.base _
  have h1 := h.len
  rw [grown_next hx] at hg
  have h2 : x.l.length ≤ weigh x := by unfold weigh; omega
  rw [RE.len hc.list] at h2
  refine (both_any hd h.fine (hc.below hb (Nat.le_refl _)) (by omega) (fun _ => by omega)).mono ?_
  rintro e W ⟨he, hd2, hk2⟩
  exact ⟨he, fine_act h.fine hc, act_grown hx h.len, hd2, hk2⟩
/-- What both logs tell, asked behind a call. -/
theorem Run.alike {R : Nat → Prop} {B p q n k : Nat} {L : List Cal} {w0 W : World} {g : G} (h : Run R B p q n L w0 k g W) (hg : grown n L k ≤ 800) {i : Nat} (hi : i < 18446744073709551616) {z : Int} (hz : z ≤ 9223372036854775807) :
    Calls Try.prog 14 #[.pointer (some ⟨p, 0, none⟩), .pointer (some ⟨q, 0, none⟩), .int .u64 (i : Int), .int .i64 z] W fun e W' => e = .returned (.bool true) ∧ Run R B p q n L w0 k g W' := by
  obtain ⟨v, u, hdx⟩ := h.duo.ex
  have := h.len
  refine (alike_any hdx.a hdx.b h.fine (by omega) hi z hz).mono ?_
  rintro e W' ⟨he, hb⟩
  obtain ⟨hd, hk⟩ := h.duo.below hb
  exact ⟨he, h.fine, h.len, hd, h.kept.trans hk⟩
theorem Run.down {R : Nat → Prop} {B p q n k r : Nat} {L : List Cal} {w0 wr W : World} {g g' : G} {o : Obj} (h : Run R B p q n L w0 k g wr) (h2 : Run (fun r' => R r' ∨ r' = r) B p q n L (wr.alloc o) (k + 1) g' W) : Run R B p q n L w0 (k + 1) g' W :=
  ⟨h2.fine, h2.len, h2.duo.less fun _ hr => .inl hr, (h.kept.trans (h.duo.alloc o).2).trans (h2.kept.less fun _ hr => .inl hr)⟩
set_option maxRecDepth 100000 in
set_option maxHeartbeats 4000000 in
theorem runs_walk (s : Snap) (A : Option Addr) (n c : Nat) (l : List Ent) (C : Option Addr) (m cc : Nat) (L : List Cal) (w : World) (hs : SnapB s) (hl : CameE w A n c l) (hh : Holds w w.heap.size C m L) (hm : m ≤ 9223372036854775807) (hT : total l L ≤ 1048576) :
    Calls Try.prog 3 #[snapV s, .slice A n c, .slice C m cc] w fun e w' => e = .returned (.bool true) ∧ Below w.heap.size w w' := by
  have hn : l.length = n := RE.len hl.reads
  have hnT : l.length ≤ total l L := by unfold total; omega
  have hbx := Box4.new w (.int .u64 (s.idx : Int)) (.int .u64 (s.term : Int)) (.int .u64 (s.cfg : Int)) (.string s.data) 24
  have hba : Below w.heap.size w (w.alloc (.cells #[.int .u64 (s.idx : Int), .int .u64 (s.term : Int), .int .u64 (s.cfg : Int), .string s.data] 24)) := (Below.refl _ _).alloc (Nat.le_refl _) _
  have hlt := light_of (l := l) (L := L) (by omega)
  have hre : ∀ W, Below w.heap.size w W → RE W W.heap.size A n l := fun W hb => (Kit.Reads.below hl.reads hb).more hb.size
  have hlight : ∀ W, Below w.heap.size w W → Calls Try.prog 10 #[.slice A n c, .slice C m cc] W (TellsB W (lightB l L)) := fun W hb =>
    light_any A n c l C m cc L W (hre W hb) hl.ents (by omega) (hh.below hb hb.size) hm
  have hp1 : okB s l = true → ∀ W, Below w.heap.size w W → Calls Try.prog 11 #[snapV s, .slice A n c] W (NewLog 70 W ⟨s, l⟩) := fun ho W hb => pnew_ok hs A n c l W (hre W hb) hl.ents (by omega) ho
  have hp0 : okB s l = false → ∀ W, Below w.heap.size w W → Calls Try.prog 11 #[snapV s, .slice A n c] W (NoLog W) := fun ho W hb => pnew_no hs A n c l W (hre W hb) hl.ents (by omega) ho
  have hr1 : okB s l = true → ∀ W, Below w.heap.size w W → Calls Try.prog 12 #[snapV s, .slice A n c] W (NewLog 73 W ⟨s, l⟩) := fun ho W hb => rnew_ok hs A n c l W (hre W hb) hl.ents (by omega) ho
  have hr0 : okB s l = false → ∀ W, Below w.heap.size w W → Calls Try.prog 12 #[snapV s, .slice A n c] W (NoLog W) := fun ho W hb => rnew_no hs A n c l W (hre W hb) hl.ents (by omega) ho
  have hfine : okB s l = true → Fine ⟨s, l⟩ := fun ho => fine_ok ho hs hl.ents
  have hsi := hs.idx
  unfold snapV at hp1 hp0 hr1 hr0 ⊢
  have HX := Lib.hid hbx
  have HB := Lib.hid hba
  have HLight := Lib.hid hlight
  have HP1 := Lib.hid hp1
  have HP0 := Lib.hid hp0
  have HR1 := Lib.hid hr1
  have HR0 := Lib.hid hr0
  have HF := Lib.hid hfine
  have HH := Lib.hid hh
  have HLt := Lib.hid hlt
  have HN := Lib.hid hn
  clear hbx hba hlight hp1 hp0 hr1 hr0 hre hfine hh hlt hn hnT hl hs
  go_enter Try.func3, Try.ntmps3
  go_wp2_with fail
  refine (Begun.begun_any _).mono ?_
  rintro e w1 ⟨rfl, hb1⟩
  have HX1 := Lib.hid (HX.out.below hb1)
  have hB1 := HB.out.trans (hb1.mono HB.out.size)
  clear hb1
  go_wp2_with fail
  refine (HLight.out w1 hB1).mono ?_
  rintro e w2 ⟨rfl, hb2⟩
  have hx2 := HX1.out.below hb2
  have HX2 := Lib.hid hx2
  have hB2 := hB1.trans (hb2.mono hB1.size)
  have c0 := hx2.c0
  have c1 := hx2.c1
  have c2 := hx2.c2
  have c3 := hx2.c3
  have hltx := hx2.lt
  clear hb2 hx2
  cases hLB : lightB l L with
  | false =>
    clear hLB
    go_wp2
    go_ret
    exact ⟨rfl, hB2⟩
  | true =>
    have h800 : total l L ≤ 800 := by have := HLt.out; rw [hLB] at this; exact of_decide_eq_true this.symm
    have HG : Hid (∀ k, grown l.length L k ≤ 800) := fun k => Nat.le_trans (grown_le k) h800
    clear hLB
    cases hok : okB s l with
    | false =>
      have HOk := Lib.hid hok
      clear hok
      go_wp2_with fail
      refine (HP0.out HOk.out w2 hB2).mono ?_
      rintro e w3 ⟨rfl, hb3⟩
      have hx3 := HX2.out.below hb3
      have hB3 := hB2.trans (hb3.mono hB2.size)
      have d0 := hx3.c0
      have d1 := hx3.c1
      have d2 := hx3.c2
      have d3 := hx3.c3
      have hltd := hx3.lt
      clear hb3 hx3 c0 c1 c2 c3
      go_wp2_with fail
      refine (HR0.out HOk.out w3 hB3).mono ?_
      rintro e w4 ⟨rfl, hb4⟩
      go_wp2
      go_ret
      exact ⟨rfl, hB3.trans (hb4.mono hB3.size)⟩
    | true =>
      have HOk := Lib.hid hok
      clear hok
      go_wp2_with fail
      refine (HP1.out HOk.out w2 hB2).mono ?_
      rintro e w3 ⟨p, v, rfl, hp, hb3⟩
      have hx3 := HX2.out.below hb3
      have hB3 := hB2.trans (hb3.mono hB2.size)
      have d0 := hx3.c0
      have d1 := hx3.c1
      have d2 := hx3.c2
      have d3 := hx3.c3
      have hltd := hx3.lt
      have HX3 := Lib.hid hx3
      have HPL := Lib.hid hp
      have HS3 := Lib.hid hb3.size
      clear hb3 hx3 c0 c1 c2 c3 hp
      go_wp2_with fail
      refine (HR1.out HOk.out w3 hB3).mono ?_
      rintro e w4 ⟨q, u, rfl, hq, hb4⟩
      have hB4 := hB3.trans (hb4.mono hB3.size)
      have hduo : Duo (fun r => r = w.heap.size) w.heap.size p q ⟨s, l⟩ ⟨s, l⟩ w4 := duo_new HPL.out HS3.out hq hb4 hB2.size (fun r hr => by subst hr; exact hltx)
      have hrun : Run (fun r => r = w.heap.size) w.heap.size p q l.length L w4 0 ⟨s, l⟩ w4 := ⟨HF.out HOk.out, by simp [grown], hduo, Kept.refl _ _ _⟩
      have HX4 := Lib.hid (HX3.out.below hb4)
      have HRun := Lib.hid hrun
      have HB4 := Lib.hid hB4
      clear hb4 hq d0 d1 d2 d3 hduo hrun hB4 hB3 hB2 hB1
      go_wp2_with fail
      go_loopw [46] (fun x wr => ∃ (k : Nat) (g : G), k ≤ m ∧ x = .int .i64 (k : Int) ∧ Hid (Run (fun r => r = w.heap.size) w.heap.size p q l.length L w4 k g wr)) (fun x _ => m - (intOf x).toNat)
      case atStart => exact ⟨0, _, by omega, rfl, HRun⟩
      case round =>
        obtain ⟨k, g, hk, rfl, HR⟩ := hrel
        have hsinB : Below w.heap.size w wr := HB4.out.trans HR.out.kept.since
        by_cases hkm : k < m
        · obtain ⟨x, hx⟩ : ∃ x, L[k]? = some x := ⟨_, List.getElem?_eq_getElem (by rw [HH.out.1]; exact hkm)⟩
          obtain ⟨b, o, rfl, hbl, hten, hcal⟩ := HH.out.2 k x hx
          have ht := hten.below hsinB hbl
          have c0 := ht.c0
          have c1 := ht.c1
          have c2 := ht.c2
          have c3 := ht.c3
          have c4 := ht.c4
          have c5 := ht.c5
          have c6 := ht.c6
          have c7 := ht.c7
          have c8 := ht.c8
          have c9 := ht.c9
          have hbo := HR.out.both hx (hcal.below hsinB (Nat.le_refl _)) (HG.out _)
          unfold callV at hbo
          have HBo := Lib.hid hbo
          have hwh := hcal.w1
          have hix := hcal.idx
          clear ht hten hcal hx hbo hsinB
          go_wp2_with fail
          refine HBo.out.mono ?_
          rintro e w6 ⟨rfl, h6⟩
          have hbox : w6.heap[wr.heap.size]? = _ := (h6.kept.block wr.heap.size (.inr rfl)).trans (heap_alloc_new wr (callO x))
          have e1 : w6.cell? ⟨wr.heap.size, 1, none⟩ = some (.int .u64 (x.idx : Int)) := by rw [cell_at hbox]; rfl
          have e3 : w6.cell? ⟨wr.heap.size, 3, none⟩ = some (.int .i64 x.what) := by rw [cell_at hbox]; rfl
          have hlte := lt_at hbox
          have HAl := Lib.hid (h6.alike (HG.out _) hix hwh)
          clear hbox h6
          go_wp2_with fail
          refine HAl.out.mono ?_
          rintro e w7 ⟨rfl, h7⟩
          have HR7 := Lib.hid (HR.out.down h7)
          clear h7
          go_wp2_with fail
          go_roundw
          case rel => exact ⟨k + 1, _, by omega, by go_num, HR7⟩
          case measure => simp [intOf]; omega
        · obtain rfl : k = m := by omega
          have hbox : wr.heap[w.heap.size]? = _ := (HR.out.kept.block w.heap.size rfl).trans HX4.out.blk
          have e0 : wr.cell? ⟨w.heap.size, 0, none⟩ = some (.int .u64 (s.idx : Int)) := by rw [cell_at hbox]; rfl
          have hlte := lt_at hbox
          have hal := HR.out.alike (HG.out _) hsi (z := 3) (by decide)
          have HAl := Lib.hid hal
          clear hbox hal hsinB
          go_wp2_with fail
          refine HAl.out.mono ?_
          rintro e w5 ⟨rfl, h5⟩
          go_wp2
          go_ret
          exact ⟨rfl, HB4.out.trans h5.kept.since⟩
end Go.Proofs.Ytndehdnffajigaa.LawB
