/- RlogCompacts, walked. -/
import Derived.Test.YtndehdnffajigaaLawC
import Derived.Test.YtndehdnffajigaaMerged
set_option linter.unusedVariables false
namespace Go.Proofs.Ytndehdnffajigaa.LawD
open Go.Proofs.Ytndehdnffajigaa.Begun (left_below)
open Go.RowKit Go.Proofs.Ytndehdnffajigaa.Kit Go.Proofs.Ytndehdnffajigaa.Blocks Go.Proofs.Ytndehdnffajigaa.Rlog Go.Proofs.Ytndehdnffajigaa.Ents Go.Proofs.Ytndehdnffajigaa.LogAt Go.Proofs.Ytndehdnffajigaa.WalkB Go.Proofs.Ytndehdnffajigaa.WalkC Go.Proofs.Ytndehdnffajigaa.WalkD Go.Proofs.Ytndehdnffajigaa.WalkE Go.Proofs.Ytndehdnffajigaa.WalkF Go.Proofs.Ytndehdnffajigaa.WalkH Go.Proofs.Ytndehdnffajigaa.WalkJ Go.Proofs.Ytndehdnffajigaa.WalkK Go.Proofs.Ytndehdnffajigaa.Cals Go.Proofs.Ytndehdnffajigaa.Made Go.Proofs.Ytndehdnffajigaa.Light Go.Proofs.Ytndehdnffajigaa.Opens Go.Proofs.Ytndehdnffajigaa.Alike Go.Proofs.Ytndehdnffajigaa.RefD Go.Proofs.Ytndehdnffajigaa.Merged

theorem dataW_le {l : List Ent} (h : ∀ e ∈ l, e.data.size ≤ 32768) : dataW l ≤ 327 * l.length := by
  induction l with
  | nil => simp [dataW]
  | cons e l ih =>
    have h1 := ih fun x hx => h x (by simp [hx])
    have h2 := h e (by simp)
    have h3 : dataW (e :: l) = e.data.size / 100 + dataW l := by simp [dataW]
    rw [h3, List.length_cons]
    omega
theorem chained_data {l : List Ent} {i t : Nat} (h : chained l i t = true) : ∀ e ∈ l, e.data.size ≤ 32768 := fun e he => (follow_mem h he).1
theorem ok_chained {s : Snap} {l : List Ent} (h : okB s l = true) : chained l s.idx s.term = true := (Bool.and_eq_true_iff.1 h).2
set_option maxRecDepth 100000 in
set_option maxHeartbeats 4000000 in
theorem compacts_walk (s : Snap) (A : Option Addr) (n c : Nat) (l : List Ent) (z : Int) (w : World) (hs : SnapB s) (hl : CameE w A n c l) (h40 : c * 40 ≤ 140737488351232) (hz : (Lit.int .i64 z).wf = true) :
    Calls Try.prog 8 #[snapV s, .slice A n c, .int .i64 z] w fun e w' => e = .returned (.bool true) ∧ Below w.heap.size w w' := by
  have hzb := i64_wf hz
  have hn : l.length = n := RE.len hl.reads
  have hfit := hl.fits
  have hbx := Box4.new w (.int .u64 (s.idx : Int)) (.int .u64 (s.term : Int)) (.int .u64 (s.cfg : Int)) (.string s.data) 24
  have hba : Below w.heap.size w (w.alloc (.cells #[.int .u64 (s.idx : Int), .int .u64 (s.term : Int), .int .u64 (s.cfg : Int), .string s.data] 24)) := (Below.refl _ _).alloc (Nat.le_refl _) _
  have hre : ∀ W, Below w.heap.size w W → RE W W.heap.size A n l := fun W hb => (Kit.Reads.below hl.reads hb).more hb.size
  have hat : ∀ k, k < n → ∀ W, Below w.heap.size w W → ∃ b o e, A = some ⟨b, o, none⟩ ∧ l[k]? = some e ∧ W.cell? ⟨b, o + k * 4 + 1, none⟩ = some (.int .u64 (e.idx : Int)) := fun k hk W hb => by
    obtain ⟨b, o, e, hA, hbl, he, hf⟩ := RE.at_ hl.reads hk
    exact ⟨b, o, e, hA, he, (Four.below hf hb hbl).c1⟩
  have hlight : ∀ W, Below w.heap.size w W → Calls Try.prog 10 #[.slice A n c, .slice none 0 0] W (TellsB W (lightB l [])) := fun W hb =>
    light_any A n c l none 0 0 [] W (hre W hb) hl.ents (by omega) (Holds.nil _ _ _) (by omega)
  have hp1 : okB s l = true → ∀ W, Below w.heap.size w W → Calls Try.prog 11 #[snapV s, .slice A n c] W (NewLog 70 W ⟨s, l⟩) := fun ho W hb => pnew_ok hs A n c l W (hre W hb) hl.ents (by omega) ho
  have hp0 : okB s l = false → ∀ W, Below w.heap.size w W → Calls Try.prog 11 #[snapV s, .slice A n c] W (NoLog W) := fun ho W hb => pnew_no hs A n c l W (hre W hb) hl.ents (by omega) ho
  have hfine : okB s l = true → Fine ⟨s, l⟩ := fun ho => fine_ok ho hs hl.ents
  unfold snapV at hp1 hp0 ⊢
  have HX := Lib.hid hbx
  have HB := Lib.hid hba
  have HLight := Lib.hid hlight
  have HP1 := Lib.hid hp1
  have HP0 := Lib.hid hp0
  have HF := Lib.hid hfine
  have HN := Lib.hid hn
  have HAt := Lib.hid hat
  have hc63 : n ≤ 3518437208784 := by omega
  have HC := Lib.hid h40
  clear hbx hba hlight hp1 hp0 hre hfine hn hl hs hat hz hfit h40
  go_enter Try.func8, Try.ntmps8
  go_wp2_with fail
  refine (Begun.begun_any _).mono ?_
  rintro e w1 ⟨rfl, hb1⟩
  have hx1 := HX.out.below hb1
  have hB1 := HB.out.trans (hb1.mono HB.out.size)
  have c0 := hx1.c0
  have c1 := hx1.c1
  have c2 := hx1.c2
  have c3 := hx1.c3
  have hltx := hx1.lt
  clear hb1 hx1
  cases hok : okB s l with
  | false =>
    have HOk := Lib.hid hok
    clear hok
    go_wp2_with fail
    refine (HP0.out HOk.out w1 hB1).mono ?_
    rintro e w2 ⟨rfl, hb2⟩
    have hB2 := hB1.trans (hb2.mono hB1.size)
    clear c0 c1 c2 c3 hb2
    go_wp2
    go_ret
    exact ⟨rfl, hB2⟩
  | true =>
    have HOk := Lib.hid hok
    clear hok
    go_wp2_with fail
    refine (HP1.out HOk.out w1 hB1).mono ?_
    rintro e w2 ⟨p, v, rfl, hp, hb2⟩
    have hB2 := hB1.trans (hb2.mono hB1.size)
    have HPL := Lib.hid (hp.lower hB1.size)
    clear c0 c1 c2 c3 hb2 hp
    go_wp2_with fail
    refine (HLight.out w2 hB2).mono ?_
    rintro e w3 ⟨rfl, hb3⟩
    have hB3 := hB2.trans (hb3.mono hB2.size)
    have HP3 := Lib.hid (HPL.out.below hb3)
    clear hb3
    cases hLB : lightB l [] with
    | false =>
      clear hLB
      go_wp2
      go_ret
      exact ⟨rfl, hB3⟩
    | true =>
      have h800 : n ≤ 800 := by
        have h1 := dataW_le (chained_data (ok_chained HOk.out))
        have h2 := light_of (l := l) (L := []) (by unfold total; have := HN.out; simp only [List.length_nil, List.map_nil, List.sum_nil]; omega)
        rw [hLB] at h2
        have h3 := of_decide_eq_true h2.symm
        unfold total at h3
        have := HN.out
        simp only [List.length_nil, List.map_nil, List.sum_nil] at h3
        omega
      clear hLB
      by_cases hn0 : n = 0
      · subst hn0
        go_wp2
        go_ret
        exact ⟨rfl, hB3⟩
      · have hpos : 0 < n := by omega
        have hk0 : 0 ≤ (z.tmod (n : Int) + (n : Int)) % (n : Int) := Int.emod_nonneg _ (by omega)
        have hk1 : (z.tmod (n : Int) + (n : Int)) % (n : Int) < (n : Int) := Int.emod_lt_of_pos _ (by omega)
        have ht0 := Int.lt_tmod_of_pos z (show (0 : Int) < (n : Int) by omega)
        have ht1 := Int.tmod_lt_of_pos z (show (0 : Int) < (n : Int) by omega)
        obtain ⟨j, hj⟩ : ∃ j : Nat, (z.tmod (n : Int) + (n : Int)) % (n : Int) = (j : Int) := ⟨_, (Int.toNat_of_nonneg hk0).symm⟩
        have hjn : j < n := by omega
        obtain ⟨b, o, e, hA, he, hc1⟩ := HAt.out j hjn w3 hB3
        subst hA
        have HE := Lib.hid he
        have hsum0 : 0 ≤ z.tmod (n : Int) + (n : Int) := by omega
        clear he hn0
        go_wp2_with fail
        have hge : (⟨s, l⟩ : G).es[j]? = some e := HE.out
        have hf := HF.out HOk.out
        obtain ⟨g, hg⟩ : ∃ g : G, (⟨s, l⟩ : G) = g := ⟨_, rfl⟩
        have hgl : g.es.length ≤ 800 := by rw [← hg]; show l.length ≤ 800; have := HN.out; omega
        rw [hg] at hge hf
        have HG := Lib.hid hg
        have HP3' : Hid (LP w.heap.size w3 p v g) := by rw [← hg]; exact HP3
        have hat := hf.at_ hge
        have hib := hat.2.1.idx
        have htb := hat.2.1.term
        obtain ⟨J, hJ⟩ : ∃ J, (e.idx + 1) % 18446744073709551616 = J := ⟨_, rfl⟩
        have hJb : J < 18446744073709551616 := by omega
        have hwJ : IntKind.u64.wrap ((e.idx : Int) + 1) = (J : Int) := by rw [← hJ]; exact wrap_succ hib
        have hci := fun d => compact_is hf hge d
        have hct := fun d d2 => compact_twice hf hge d d2
        have hcl := fun d => compact_last hf hge d
        have hcm := compact_members hf hge ⟨#[100, 97, 116, 97]⟩
        have hcg := compact_get hf hge ⟨#[100, 97, 116, 97]⟩ 2000 hJ.symm
        have hcf := fine_compact hf e.idx ⟨#[100, 97, 116, 97]⟩
        have hglen : (Rlog.get g J 2000).length ≤ 800 := Nat.le_trans (get_len g J 2000) hgl
        have hct1 := compact_term hf hge ⟨#[100, 97, 116, 97]⟩
        have hst : (compact g e.idx ⟨#[100, 97, 116, 97]⟩).2.snap = ⟨e.idx, e.term, (members g e.idx).1, ⟨#[100, 97, 116, 97]⟩⟩ := by rw [hci]
        have hlen1 : (compact g e.idx ⟨#[100, 97, 116, 97]⟩).2.es.length ≤ 800 := by rw [hci]; simp only [List.length_drop]; omega
        have hr1 : compact g e.idx ⟨#[100, 97, 116, 97]⟩ = (0, (compact g e.idx ⟨#[100, 97, 116, 97]⟩).2) := by rw [hci]
        have hr2 := hct ⟨#[100, 97, 116, 97]⟩ ⟨#[97, 103, 97, 105, 110]⟩
        have hla := hcl ⟨#[100, 97, 116, 97]⟩
        have hk1' := HP3'.out
        have htm := mem_term hf (List.mem_of_getElem? hge)
        generalize hg1 : (compact g e.idx ⟨#[100, 97, 116, 97]⟩).2 = g1 at *
        obtain ⟨l1, hl1⟩ : ∃ a, (last g).1 = a := ⟨_, rfl⟩
        obtain ⟨l2, hl2⟩ : ∃ a, (last g).2 = a := ⟨_, rfl⟩
        obtain ⟨m1, hm1⟩ : ∃ a, (members g 18446744073709551615).1 = a := ⟨_, rfl⟩
        obtain ⟨m2, hm2⟩ : ∃ a, (members g 18446744073709551615).2 = a := ⟨_, rfl⟩
        obtain ⟨q1, hq1⟩ : ∃ a, (members g e.idx).1 = a := ⟨_, rfl⟩
        obtain ⟨n2, hn2⟩ : ∃ a, (members g1 18446744073709551615).2 = a := ⟨_, rfl⟩
        obtain ⟨GL, hGL⟩ : ∃ a, Rlog.get g J 2000 = a := ⟨_, rfl⟩
        rw [hm1, hm2, hn2] at hcm
        rw [hq1] at hst
        rw [hGL] at hcg hglen
        have HLast : Hid (∀ W v, LP w.heap.size W p v g → Calls Try.prog 21 #[.pointer (some ⟨p, 0, none⟩)] W fun e w' => e = .returned (.tuple #[.int .u64 (l1 : Int), .int .u64 (l2 : Int)]) ∧ Below W.heap.size W w') := fun W v h => by
          have := last_any h hf
          rwa [hl1, hl2] at this
        have HLast1 : Hid (∀ W v, LP w.heap.size W p v g1 → Calls Try.prog 21 #[.pointer (some ⟨p, 0, none⟩)] W fun e w' => e = .returned (.tuple #[.int .u64 (l1 : Int), .int .u64 (l2 : Int)]) ∧ Below W.heap.size W w') := fun W v h => by
          have := last_any h hcf
          rwa [hla, hl1, hl2] at this
        have HMem : Hid (∀ W v, LP w.heap.size W p v g → Calls Try.prog 23 #[.pointer (some ⟨p, 0, none⟩)] W fun e w' => e = .returned (.tuple #[.int .u64 (m1 : Int), .int .u64 (m2 : Int)]) ∧ Below W.heap.size W w') := fun W v h => by
          have := all_members h hf
          rwa [hm1, hm2] at this
        have HMem1 : Hid (∀ W v, LP w.heap.size W p v g1 → Calls Try.prog 23 #[.pointer (some ⟨p, 0, none⟩)] W fun e w' => e = .returned (.tuple #[.int .u64 (m1 : Int), .int .u64 (n2 : Int)]) ∧ Below W.heap.size W w') := fun W v h => by
          have := all_members h hcf
          rwa [hcm.1, hn2] at this
        have HMat : Hid (∀ W v, LP w.heap.size W p v g → ∃ q2 : Nat, Calls Try.prog 24 #[.pointer (some ⟨p, 0, none⟩), .int .u64 (e.idx : Int)] W fun e w' => e = .returned (.tuple #[.int .u64 (q1 : Int), .int .u64 (q2 : Int)]) ∧ Below W.heap.size W w') := fun W v h => by
          have := members_any h hf e.idx
          rw [hq1] at this
          exact ⟨_, this⟩
        have HGet : Hid (∀ W v, LP w.heap.size W p v g → Calls Try.prog 16 #[.pointer (some ⟨p, 0, none⟩), .int .u64 (J : Int), .int .i64 2000] W (Gives W GL)) := fun W v h => by
          have := get_any h (i := J) (n := 2000) hJb (by omega) (by omega)
          rwa [hGL] at this
        have HGet1 : Hid (∀ W v, LP w.heap.size W p v g1 → Calls Try.prog 16 #[.pointer (some ⟨p, 0, none⟩), .int .u64 (J : Int), .int .i64 2000] W (Gives W GL)) := fun W v h => by
          have := get_any h (i := J) (n := 2000) hJb (by omega) (by omega)
          rwa [hcg] at this
        have HTerm : Hid (∀ W v, LP w.heap.size W p v g → Calls Try.prog 19 #[.pointer (some ⟨p, 0, none⟩), .int .u64 (e.idx : Int)] W fun e' w' => e' = .returned (.tuple #[.int .u64 (e.term : Int), .int .i64 0]) ∧ W = w') := fun W v h => term_yes h hf hib htm
        have HTerm1 : Hid (∀ W v, LP w.heap.size W p v g1 → Calls Try.prog 19 #[.pointer (some ⟨p, 0, none⟩), .int .u64 (e.idx : Int)] W fun e' w' => e' = .returned (.tuple #[.int .u64 (e.term : Int), .int .i64 0]) ∧ W = w') := fun W v h => term_yes h hcf hib hct1
        have HCo : Hid (∀ W v, LP w.heap.size W p v g → Calls Try.prog 25 #[.pointer (some ⟨p, 0, none⟩), .int .u64 (e.idx : Int), .string ⟨#[100, 97, 116, 97]⟩] W (Answers 70 w.heap.size W p v (0, g1))) := fun W v h => by
          have := compact_any h hf (i := e.idx) ⟨#[100, 97, 116, 97]⟩ hib (by omega)
          rwa [hr1] at this
        have HCo1 : Hid (∀ W v, LP w.heap.size W p v g1 → Calls Try.prog 25 #[.pointer (some ⟨p, 0, none⟩), .int .u64 (e.idx : Int), .string ⟨#[97, 103, 97, 105, 110]⟩] W (Answers 70 w.heap.size W p v (20, g1))) := fun W v h => by
          have := compact_any h hcf (i := e.idx) ⟨#[97, 103, 97, 105, 110]⟩ hib (by omega)
          rwa [hr2] at this
        have HFi : Hid (∀ W v, LP w.heap.size W p v g1 → Calls Try.prog 15 #[.pointer (some ⟨p, 0, none⟩)] W fun e' w' => e' = .returned (.agg #[.int .u64 (e.idx : Int), .int .u64 (e.term : Int), .int .u64 (q1 : Int), .string ⟨#[100, 97, 116, 97]⟩]) ∧ Below W.heap.size W w') := fun W v h => by
          have := first_any h
          rwa [hst] at this
        have heq := Nones.eq_snap (e.idx : Int) (e.term : Int) (q1 : Int) ⟨#[100, 97, 116, 97]⟩
        have hmid : n2 = m2 ∨ (m2 < e.idx ∧ n2 = e.idx) := by
          by_cases hh : n2 = m2
          · exact .inl hh
          · rcases hcm.2 with hh2 | hh2
            · exact absurd hh2 hh
            · exact .inr ⟨by omega, hh2.2⟩
        have HMid := Lib.hid hmid
        have HW := Lib.hid hwJ
        have HGl := Lib.hid hglen
        have HEq := Lib.hid heq
        clear hg hge hf hat hJ hJb hwJ hci hct hcl hcm hcg hcf hglen hct1 hst hlen1 hr1 hr2 hla hk1' htm hg1 hl1 hl2 hm1 hm2 hq1 hn2 hGL heq hmid HP3 hgl htb
        refine (HLast.out w3 v HP3'.out).mono ?_
        rintro e' w4 ⟨rfl, hb4⟩
        have HP4 := Lib.hid (HP3'.out.below hb4)
        have hB4 := hB3.trans (hb4.mono hB3.size)
        clear hb4
        go_wp2_with fail
        refine (HMem.out w4 v HP4.out).mono ?_
        rintro e' w5 ⟨rfl, hb5⟩
        have HP5 := Lib.hid (HP4.out.below hb5)
        have hB5 := hB4.trans (hb5.mono hB4.size)
        clear hb5
        obtain ⟨q2, hq2⟩ := HMat.out w5 v HP5.out
        have HQ2 := Lib.hid hq2
        clear hq2
        go_wp2_with fail
        refine HQ2.out.mono ?_
        rintro e' w6 ⟨rfl, hb6⟩
        have HP6 := Lib.hid (HP5.out.below hb6)
        have hB6 := hB5.trans (hb6.mono hB5.size)
        have hwJ := HW.out
        clear hb6
        go_wp2_with fail
        refine (HGet.out w6 v HP6.out).mono ?_
        rintro e' w7 ⟨A7, c7, rfl, hr7, hc7, h637, hb7, ho7⟩
        have HP7 := Lib.hid (HP6.out.below hb7)
        have hB7 := hB6.trans (hb7.mono hB6.size)
        have HO7 : Hid (Off (Foot p v) A7 GL.length) := fun hn ad ha hf => ho7 hn ad ha (HP6.out.foot_lt hf).2
        have HR7 := Lib.hid hr7
        clear hb7 hwJ ho7 hr7
        go_wp2_with fail
        refine (HTerm.out w7 v HP7.out).mono ?_
        rintro e' w8 ⟨rfl, rfl⟩
        go_wp2_with fail
        refine (HCo.out w7 v HP7.out).mono ?_
        rintro e' w8 ⟨rfl, v8, h8, o8, f8⟩
        have hB8 := hB7.trans (left_below HP7.out ⟨v8, h8, o8, f8⟩)
        have HP8 := Lib.hid h8
        have HO8 : Hid (Off (Foot p v8) A7 GL.length) := fun hn ad ha hf => by
          obtain ⟨ad', e1, hl', _⟩ := HR7.out.2 hn
          rw [ha] at e1
          cases e1
          rcases hf with hf | hf
          · exact HO7.out hn ad ha (.inl hf)
          · rcases f8 _ hf with h | h
            · exact HO7.out hn ad ha (.inr h)
            · omega
        have HR8 := Lib.hid ((HO7.out.reads o8 HR7.out (Nat.le_refl _)).more o8.size)
        clear h8 o8 f8
        go_wp2_with fail
        refine (HCo1.out w8 v8 HP8.out).mono ?_
        rintro e' w9 ⟨rfl, v9, h9, o9, f9⟩
        have hB9 := hB8.trans (left_below HP8.out ⟨v9, h9, o9, f9⟩)
        have HP9 := Lib.hid h9
        have HR9 := Lib.hid ((HO8.out.reads o9 HR8.out (Nat.le_refl _)).more o9.size)
        clear h9 o9 f9
        go_wp2_with fail
        refine (HLast1.out w9 v9 HP9.out).mono ?_
        rintro e' w10 ⟨rfl, hb10⟩
        have HP10 := Lib.hid (HP9.out.below hb10)
        have HR10 := Lib.hid ((Kit.Reads.below HR9.out hb10).more hb10.size)
        have hB10 := hB9.trans (hb10.mono hB9.size)
        clear hb10
        go_wp2_with fail
        refine (HMem1.out w10 v9 HP10.out).mono ?_
        rintro e' w11 ⟨rfl, hb11⟩
        have HP11 := Lib.hid (HP10.out.below hb11)
        have HR11 := Lib.hid ((Kit.Reads.below HR10.out hb11).more hb11.size)
        have hB11 := hB10.trans (hb11.mono hB10.size)
        clear hb11
        go_wp2_with fail
        refine (HTerm1.out w11 v9 HP11.out).mono ?_
        rintro e' w12 ⟨rfl, rfl⟩
        have heq := HEq.out
        rcases HMid.out with rfl | ⟨hlt, rfl⟩
        · clear HMid
          go_wp2_with fail
          refine (HFi.out w11 v9 HP11.out).mono ?_
          rintro e' w12 ⟨rfl, hb12⟩
          have HP12 := Lib.hid (HP11.out.below hb12)
          have HR12 := Lib.hid ((Kit.Reads.below HR11.out hb12).more hb12.size)
          have hB12 := hB11.trans (hb12.mono hB11.size)
          have hwJ := HW.out
          have hgl9 := HGl.out
          clear hb12
          go_wp2_with fail
          refine (HGet1.out w12 v9 HP12.out).mono ?_
          rintro e' w13 ⟨A13, c13, rfl, hr13, hc13, h6313, hb13, ho13⟩
          have HR13 := Lib.hid ((Kit.Reads.below HR12.out hb13).more hb13.size)
          have HR14 := Lib.hid hr13
          have hB13 := hB12.trans (hb13.mono hB12.size)
          clear hb13 hwJ ho13 hr13
          go_wp2_with fail
          refine (same_any HR14.out HR13.out (by omega)).mono ?_
          rintro e' w14 ⟨rfl, hb14⟩
          go_wp2
          go_ret
          exact ⟨rfl, hB13.trans (hb14.mono hB13.size)⟩
        · have hb1 : ((e.idx : Int) == (m2 : Int)) = false := beq_eq_false_iff_ne.2 (by omega)
          have hb2 : (e.idx == m2) = false := beq_eq_false_iff_ne.2 (by omega)
          have hb3 : decide (m2 ≤ e.idx) = true := decide_eq_true (by omega)
          have hb4 : decide ((m2 : Int) ≤ (e.idx : Int)) = true := decide_eq_true (by omega)
          clear HMid hlt
          go_wp2_with fail
          refine (HFi.out w11 v9 HP11.out).mono ?_
          rintro e' w12 ⟨rfl, hb12⟩
          have HP12 := Lib.hid (HP11.out.below hb12)
          have HR12 := Lib.hid ((Kit.Reads.below HR11.out hb12).more hb12.size)
          have hB12 := hB11.trans (hb12.mono hB11.size)
          have hwJ := HW.out
          have hgl9 := HGl.out
          clear hb12
          go_wp2_with fail
          refine (HGet1.out w12 v9 HP12.out).mono ?_
          rintro e' w13 ⟨A13, c13, rfl, hr13, hc13, h6313, hb13, ho13⟩
          have HR13 := Lib.hid ((Kit.Reads.below HR12.out hb13).more hb13.size)
          have HR14 := Lib.hid hr13
          have hB13 := hB12.trans (hb13.mono hB12.size)
          clear hb13 hwJ ho13 hr13
          go_wp2_with fail
          refine (same_any HR14.out HR13.out (by omega)).mono ?_
          rintro e' w14 ⟨rfl, hb14⟩
          go_wp2
          go_ret
          exact ⟨rfl, hB13.trans (hb14.mono hB13.size)⟩
end Go.Proofs.Ytndehdnffajigaa.LawD
