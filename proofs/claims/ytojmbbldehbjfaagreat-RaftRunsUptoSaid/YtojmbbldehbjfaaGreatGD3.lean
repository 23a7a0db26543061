/- What the document's snapshot leaves, walked. -/
import Derived.Test.YtojmbbldehbjfaaGreatGD2
import Derived.Test.YtojmbbldehbjfaaGreatGX
import Derived.Test.YtojmbbldehbjfaaGreatGY
import Derived.Test.YtojmbbldehbjfaaGreatGR
set_option linter.unusedVariables false
namespace Go.Proofs.YtojmbbldehbjfaaGreat.DWh
open Go.RowKit Go.Proofs.YtojmbbldehbjfaaGreat.Kit Go.Proofs.YtojmbbldehbjfaaGreat.Blocks Go.Proofs.YtojmbbldehbjfaaGreat.Rlog Go.Proofs.YtojmbbldehbjfaaGreat.Ents Go.Proofs.YtojmbbldehbjfaaGreat.LogAt Go.Proofs.YtojmbbldehbjfaaGreat.Nod Go.Proofs.YtojmbbldehbjfaaGreat.NodAt Go.Proofs.YtojmbbldehbjfaaGreat.AppL Go.Proofs.YtojmbbldehbjfaaGreat.DAt Go.Proofs.YtojmbbldehbjfaaGreat.DWa Go.Proofs.YtojmbbldehbjfaaGreat.DWb Go.Proofs.YtojmbbldehbjfaaGreat.DWc Go.Proofs.YtojmbbldehbjfaaGreat.DWd Go.Proofs.YtojmbbldehbjfaaGreat.DWe Go.Proofs.YtojmbbldehbjfaaGreat.DWf Go.Proofs.YtojmbbldehbjfaaGreat.DWg
open Go.Proofs.YtojmbbldehbjfaaGreat.WalkI (change_node)
open Go.Proofs.YtojmbbldehbjfaaGreat.Told (unums)
open Go.Proofs.YtojmbbldehbjfaaGreat.Quorum (mem size need sound maj node has turn change)

/-- What Term tells of an index, beside a term. -/
theorem term_beside (tm : Option Nat) (T : Nat) : ∃ (V : Nat) (E : Int), (∀ w e w', RefB.TermIs w tm e w' → e = .returned (.tuple #[.int .u64 (V : Int), .int .i64 E]) ∧ w = w') ∧
    ((tm = some T ∧ (E != 0) = false ∧ ((V : Int) != (T : Int)) = false) ∨ (tm ≠ some T ∧ ((E != 0) = true ∨ ((E != 0) = false ∧ ((V : Int) != (T : Int)) = true)))) := by
  cases tm with
  | none => exact ⟨0, 20, fun w e w' k => k, .inr ⟨by simp, .inl rfl⟩⟩
  | some t =>
    refine ⟨t, 0, fun w e w' k => k, ?_⟩
    by_cases h : t = T
    · exact .inl ⟨by rw [h], rfl, by simp [h]⟩
    · exact .inr ⟨by simpa using h, .inr ⟨rfl, by simp; omega⟩⟩
/-- What a call that answers a number and an error leaves. -/
def DTells (B : Nat) (w : World) (p : Nat) (z : Seat) (r : (Nat × Int) × Nd) (e : Ending) (w' : World) : Prop := e = .returned (.tuple #[.int .u64 (r.1.1 : Int), .int .i64 r.1.2]) ∧ LeftD B w p z r.2 w'
section
variable {B p N : Nat} {z : Seat} {m : Nd} {w : World}
theorem dchange_no (h : DAt B w p z m) (hr : m.role ≠ 2) (ad : Bool) (i : Int) : Calls Tryz.prog 39 #[.pointer (some ⟨p, 0, none⟩), .bool ad, .int .i64 i] w (DTells B w p z (changes m ad i)) := by
  have c4 := DAt.c4 h
  have hplt := DAt.plt h
  have hp : changes m ad i = ((0, 30), m) := by unfold changes; rw [if_neg hr]
  rw [hp]
  obtain ⟨R, hR⟩ : ∃ R, m.role = R := ⟨_, rfl⟩
  rw [hR] at c4 hr
  have hne : ((R : Int) != 2) = true := by simp; omega
  have H := Lib.hid h
  clear hp h hR
  go_enter Tryz.func39, Tryz.ntmps39
  go_wp2
  go_ret2
  exact ⟨rfl, LeftD.refl H.out⟩
set_option maxRecDepth 100000 in
set_option maxHeartbeats 4000000 in
theorem dchange_lead (h : DAt B w p z m) (f : NdB N m) (hN : N ≤ 800000000) (hr : m.role = 2) (ad : Bool) (i : Int) (hi0 : -9223372036854775808 ≤ i) (hi1 : i ≤ 9223372036854775807) :
    Calls Tryz.prog 39 #[.pointer (some ⟨p, 0, none⟩), .bool ad, .int .i64 i] w (DTells B w p z (changes m ad i)) := by
  have hmem := dmembers_any h f
  obtain ⟨V, E0, hVE, hcs⟩ := term_beside (term m.g m.commit) m.term
  have hterm : ∀ W, Below w.heap.size w W → Calls Tryz.prog 77 #[.pointer (some ⟨z.q, 0, none⟩), .int .u64 (m.commit : Int)] W fun e w' => e = .returned (.tuple #[.int .u64 (V : Int), .int .i64 E0]) ∧ W = w' := fun W hb => by
    obtain ⟨vs, nx, mt, fr, h'⟩ := h.below hb
    exact (RefB.rterm_any h'.log f.fine m.commit).mono fun e w' k => hVE W e w' k
  have hcl := cfg_lt f
  have hch := fun W => Change.rchange_any (cfg m) (by omega) ad i W
  have hcd := change_lt (c := cfg m) (ad := ad) (i := i)
  have hnode := change_node (c := cfg m) (ad := ad) (i := i)
  have hp : changes m ad i = if earlyN m = true then ((0, 31), m) else if (change (cfg m) ad i).2 = 0 then Nod.add (fresh m ad i.toNat) 2 (str (Num.num (change (cfg m) ad i).1)) else ((0, (change (cfg m) ad i).2), m) := by unfold changes; rw [if_pos hr]
  have hE : earlyN m = true ↔ m.commit < since m ∨ term m.g m.commit ≠ some m.term := by
    unfold earlyN ofTerm
    simp
  obtain ⟨⟨D, K⟩, hDK⟩ : ∃ R, change (cfg m) ad i = R := ⟨_, rfl⟩
  rw [hDK] at hp hch hcd hnode
  simp only at hp hcd hnode
  unfold Change.Pair at hch
  simp only at hch
  obtain ⟨A, hA⟩ : ∃ A, cfg m = A := ⟨_, rfl⟩
  obtain ⟨S, hS⟩ : ∃ S, since m = S := ⟨_, rfl⟩
  obtain ⟨C, hC⟩ : ∃ C, m.commit = C := ⟨_, rfl⟩
  obtain ⟨T, hT⟩ : ∃ T, m.term = T := ⟨_, rfl⟩
  rw [hA, hS] at hmem
  rw [hA] at hch
  have hc : ∀ W, Below w.heap.size w W → W.cell? ⟨p, 3, none⟩ = some (.pointer (some ⟨z.q, 0, none⟩)) ∧ W.cell? ⟨p, 6, none⟩ = some (.int .u64 (C : Int)) ∧ W.cell? ⟨p, 4, none⟩ = some (.int .i64 2) ∧ W.cell? ⟨p, 1, none⟩ = some (.int .u64 (T : Int)) ∧ p < W.heap.size := fun W hb => by
    have h' := h.below hb
    refine ⟨DAt.c3 h', by rw [← hC]; exact DAt.c6 h', ?_, by rw [← hT]; exact DAt.c1 h', DAt.plt h'⟩
    have := DAt.c4 h'
    rw [hr] at this
    exact this
  obtain ⟨c3', c6', c4', c1', hp0⟩ := hc w (Below.refl _ _)
  rw [hS, hC, hT] at hE
  rw [hC, hT] at hcs
  rw [hC] at hterm
  obtain ⟨⟨⟨J, E⟩, M⟩, hM⟩ : ∃ R, changes m ad i = R := ⟨_, rfl⟩
  rw [hM] at hp ⊢
  obtain ⟨tm, htm⟩ : ∃ tm, term m.g C = tm := ⟨_, rfl⟩
  rw [htm] at hcs hE
  have H := Lib.hid h
  have F := Lib.hid f
  have HRole := Lib.hid hr
  have HMem := Lib.hid hmem
  have HTm := Lib.hid hterm
  have HCh := Lib.hid hch
  have HCe := Lib.hid hc
  have HP := Lib.hid hp
  have HNode := Lib.hid hnode
  have HE := Lib.hid hE
  have HCs := Lib.hid hcs
  clear hp hmem hterm hA hS hC hT hDK hch hr h f hM hcl hnode hc hE hcs hVE htm c3' c6' c1'
  go_enter Tryz.func39, Tryz.ntmps39
  go_wp2_with fail
  with_reducible refine HMem.out.mono ?_
  rintro e w1 ⟨rfl, hb1⟩
  obtain ⟨c3, c6, _, _, hpl⟩ := HCe.out _ hb1
  have HB1 := Lib.hid hb1
  clear hb1 c4'
  as_aux_lemma =>
  go_wp2_with fail
  go_region_held3 (fun W => W.cell? ⟨p, 3, none⟩ = some (.pointer (some ⟨z.q, 0, none⟩)) ∧ W.cell? ⟨p, 6, none⟩ = some (.int .u64 (C : Int)))
    (first
      | exact ⟨c3, c6⟩
      | (with_reducible exact HKA.out))
    (first
      | (go_at_call 77
         with_reducible refine (HTm.out _ HB1.out.drew).mono ?_
         rintro e wA ⟨rfl, rfl⟩
         have HKA := Lib.hid (And.intro (show w1.drew.cell? ⟨p, 3, none⟩ = _ from c3) (show w1.drew.cell? ⟨p, 6, none⟩ = _ from c6))))
  have HBA : Hid (Below w.heap.size w w1.drew) := HB1.out.drew
  generalize w1.drew = wA at HBA ⊢
  obtain ⟨c3, c6, c4, c1, hpA⟩ := HCe.out _ HBA.out
  by_cases hCS : C < S
  · have hP := HP.out
    rw [if_pos (HE.out.2 (.inl hCS))] at hP
    have e1 : J = 0 ∧ E = 31 ∧ M = m := by cases hP; exact ⟨rfl, rfl, rfl⟩
    have HJ := Lib.hid e1
    clear hP e1
    go_wp2
    go_ret2
    obtain ⟨j1, j2, j3⟩ := HJ.out
    rw [j1, j2, j3]
    exact ⟨rfl, LeftD.of_below H.out HBA.out⟩
  · rcases HCs.out with ⟨htm, hE0, hV0⟩ | ⟨htm, hE0⟩
    · have hP := HP.out
      rw [if_neg (fun e => by rcases HE.out.1 e with e | e; exact hCS e; exact e htm)] at hP
      have HPP := Lib.hid hP
      clear htm hP
      as_aux_lemma =>
      go_wp2_with fail
      with_reducible refine (HCh.out _).mono ?_
      rintro e wB ⟨rfl, hbB⟩
      have HBB := Lib.hid (HBA.out.trans (hbB.mono HBA.out.size))
      clear hbB
      have hP := HPP.out
      clear HPP
      by_cases hK : K = 0
      · subst hK
        rw [if_pos rfl] at hP
        obtain ⟨n0, n7⟩ := HNode.out rfl
        obtain ⟨I, rfl⟩ : ∃ I : Nat, i = (I : Int) := ⟨i.toNat, by omega⟩
        rw [Int.toNat_natCast] at hP
        have hI7 : I < 7 := by omega
        have hcfg := fun W => RlgWalkA.rconfig_any D W hcd
        obtain ⟨X, hX⟩ : ∃ X, str (Num.num D) = X := ⟨_, rfl⟩
        have hX' : PckWalkH.str (Num.num D) = X := hX
        have hXb : X.size ≤ 9223372036854775807 := by rw [← hX]; exact str_num_b D hcd
        rw [hX] at hP
        rw [hX'] at hcfg
        have HCfg := Lib.hid hcfg
        cases ad with
        | false =>
          have hfr : fresh m false I = m := by unfold fresh; rw [if_neg (by simp)]
          rw [hfr] at hP
          have hadd := fun W (hb : Below w.heap.size w W) => dadd_any (H.out.below hb) F.out HRole.out hN 2 X (by decide) (by decide) hXb
          rw [← hP] at hadd
          have HAdd := Lib.hid hadd
          clear hP hX hX' hcfg hadd hfr
          as_aux_lemma =>
          go_wp2_with fail
          with_reducible refine (HCfg.out _).mono ?_
          rintro e w4 ⟨rfl, hb4⟩
          have HB4 := Lib.hid (HBB.out.trans (hb4.mono HBB.out.size))
          clear hb4
          go_wp2_with fail
          with_reducible refine (HAdd.out _ HB4.out).mono ?_
          rintro e w5 ⟨rfl, hl⟩
          have HL := Lib.hid hl
          clear hl
          go_wp2
          go_ret2
          exact ⟨rfl, LeftD.afterBelow HB4.out HL.out⟩
        | true =>
          have hdB := H.out.below HBB.out
          have hlast : Calls Tryz.prog 34 #[.pointer (some ⟨z.q, 0, none⟩)] wB fun e w' => e = .returned (.tuple #[.int .u64 ((last m.g).1 : Int), .int .u64 ((last m.g).2 : Int)]) ∧ Below wB.heap.size wB w' := by
            obtain ⟨vs, nx, mt, fr, h'⟩ := hdB
            exact RefB.rlast_any (NodeAt.log h')
          obtain ⟨e3, _, _, _, hpB⟩ := HCe.out _ HBB.out
          obtain ⟨LI, hLI⟩ : ∃ LI, (last m.g).1 = LI := ⟨_, rfl⟩
          obtain ⟨LT, hLT⟩ : ∃ LT, (last m.g).2 = LT := ⟨_, rfl⟩
          have hlb : LI + 1 < 18446744073709551616 := by have := F.out.top; omega
          have hw1 : IntKind.u64.wrap ((LI : Int) + 1) = ((LI + 1 : Nat) : Int) := by rw [show (LI : Int) + 1 = ((LI + 1 : Nat) : Int) by omega]; exact IntWalk.u64_in _ (by omega)
          rw [hLI, hLT] at hlast
          have HLast := Lib.hid hlast
          have HP2 := Lib.hid hP
          have HLI := Lib.hid hLI
          obtain ⟨U, hU⟩ : ∃ U, LI + 1 = U := ⟨_, rfl⟩
          rw [hU] at hw1
          have HU := Lib.hid hU
          clear hP hX hX' hcfg hdB hlast hLI hLT hU
          as_aux_lemma =>
          go_wp2_with fail
          with_reducible refine HLast.out.mono ?_
          rintro e w4 ⟨rfl, hb4⟩
          have HB4 := Lib.hid (HBB.out.trans (hb4.mono HBB.out.size))
          obtain ⟨vs, nx, mt, fr, h4⟩ := H.out.below HB4.out
          have qn := DN.atN h4 fr hI7
          have kn := NodeAt.free h4 (8 + I)
          have hp4 := NodeAt.plt h4
          obtain ⟨h5, g5⟩ := DN.setTo h4 (8 + I) (.int .u64 (U : Int)) m vs (nx.set I U) mt (dcs_set_nx fr.nl hI7 U) rfl rfl rfl
          have hl5 : (nx.set I U).length = 7 := by rw [List.length_set]; exact fr.nl
          have qm : (w4.setCell ⟨p, 8 + I, none⟩ (.int .u64 (U : Int))).cell? ⟨p, 15 + I, none⟩ = some (.int .u64 (told mt I : Int)) := h5.at_ (dcs_mt hl5 fr.ml hI7)
          have km := NodeAt.free h5 (15 + I)
          have hp5 := NodeAt.plt h5
          have hfr : fresh m true I = { m with next := m.next.set I U, mat := m.mat.set I 0 } := by unfold fresh; rw [if_pos rfl, HLI.out, HU.out]
          obtain ⟨h6, g6⟩ := DN.setTo h5 (15 + I) (.int .u64 ((0 : Nat) : Int)) (fresh m true I) vs (nx.set I U) (mt.set I 0) (by rw [dcs_set_mt hl5 fr.ml hI7 0, hfr]; rfl) (by rw [hfr]) (by rw [hfr]) (by rw [hfr])
          obtain ⟨ff, fr2⟩ := fresh_b F.out HRole.out (by omega) true I
          have hD6 : DAt B ((w4.setCell ⟨p, 8 + I, none⟩ (.int .u64 (U : Int))).setCell ⟨p, 15 + I, none⟩ (.int .u64 0)) p z (fresh m true I) := by
            refine ⟨vs, nx.set I U, mt.set I 0, ⟨fun e => ?_, fun _ => ?_, fun _ => ?_, hl5, by rw [List.length_set]; exact fr.ml⟩, h6⟩
            · rw [fr2] at e; cases e
            · rw [hfr, fr.n HRole.out]
            · rw [hfr, fr.t HRole.out]
          have H6 := Lib.hid hD6
          have G6 : Hid (Grow p z z w ((w4.setCell ⟨p, 8 + I, none⟩ (.int .u64 (U : Int))).setCell ⟨p, 15 + I, none⟩ (.int .u64 0))) := Lib.hid ((Grow.of_below z HB4.out).trans (g5.trans g6))
          obtain ⟨w6, hw6⟩ : ∃ w6, (w4.setCell ⟨p, 8 + I, none⟩ (.int .u64 (U : Int))).setCell ⟨p, 15 + I, none⟩ (.int .u64 0) = w6 := ⟨_, rfl⟩
          rw [hw6] at H6 G6
          have HW6 := Lib.hid hw6
          have hadd := fun W (hb : Below w6.heap.size w6 W) => dadd_any (H6.out.below hb) ff fr2 hN 2 X (by decide) (by decide) hXb
          have hP2 := HP2.out
          rw [← hP2] at hadd
          have HAdd := Lib.hid hadd
          have hkI : (I : Int) < 7 := by omega
          have hkJ : (0 : Int) ≤ (I : Int) := by omega
          clear hb4 h4 h5 h6 g5 g6 hfr hD6 hadd hP2 ff fr2 fr hw6
          as_aux_lemma =>
          go_wp2_with fail
          rw [HW6.out]
          with_reducible refine (HCfg.out _).mono ?_
          rintro e w7 ⟨rfl, hb7⟩
          have HB7 := Lib.hid hb7
          clear hb7
          go_wp2_with fail
          with_reducible refine (HAdd.out _ HB7.out).mono ?_
          rintro e w8 ⟨rfl, hl⟩
          have HL := Lib.hid hl
          clear hl
          go_wp2
          go_ret2
          exact ⟨rfl, LeftD.then G6.out (LeftD.afterBelow HB7.out HL.out)⟩
      · rw [if_neg hK] at hP
        have e1 : J = 0 ∧ E = (K : Int) ∧ M = m := by cases hP; exact ⟨rfl, rfl, rfl⟩
        have HJ := Lib.hid e1
        have hne : ((K : Int) != 0) = true := by simp; omega
        clear hP e1 hK
        go_wp2
        go_ret2
        obtain ⟨j1, j2, j3⟩ := HJ.out
        rw [j1, j2, j3]
        exact ⟨rfl, LeftD.of_below H.out HBB.out⟩
    · have hP := HP.out
      rw [if_pos (HE.out.2 (.inr htm))] at hP
      have e1 : J = 0 ∧ E = 31 ∧ M = m := by cases hP; exact ⟨rfl, rfl, rfl⟩
      have HJ := Lib.hid e1
      clear hP e1 htm
      rcases hE0 with hE0 | ⟨hE0, hV0⟩
      all_goals
        go_wp2
        go_ret2
        obtain ⟨j1, j2, j3⟩ := HJ.out
        rw [j1, j2, j3]
        exact ⟨rfl, LeftD.of_below H.out HBA.out⟩
theorem dchange_any (h : DAt B w p z m) (f : NdB N m) (hN : N ≤ 800000000) (ad : Bool) (i : Int) (hi0 : -9223372036854775808 ≤ i) (hi1 : i ≤ 9223372036854775807) :
    Calls Tryz.prog 39 #[.pointer (some ⟨p, 0, none⟩), .bool ad, .int .i64 i] w (DTells B w p z (changes m ad i)) := by
  by_cases hr : m.role = 2
  · exact dchange_lead h f hN hr ad i hi0 hi1
  · exact dchange_no h hr ad i
end
end Go.Proofs.YtojmbbldehbjfaaGreat.DWh
set_option linter.unusedVariables false
namespace Go.Proofs.YtojmbbldehbjfaaGreat.DWi
open Go.RowKit Go.Proofs.YtojmbbldehbjfaaGreat.Kit Go.Proofs.YtojmbbldehbjfaaGreat.Blocks Go.Proofs.YtojmbbldehbjfaaGreat.Rlog Go.Proofs.YtojmbbldehbjfaaGreat.Ents Go.Proofs.YtojmbbldehbjfaaGreat.LogAt Go.Proofs.YtojmbbldehbjfaaGreat.Nod Go.Proofs.YtojmbbldehbjfaaGreat.NodAt Go.Proofs.YtojmbbldehbjfaaGreat.AppL Go.Proofs.YtojmbbldehbjfaaGreat.DAt Go.Proofs.YtojmbbldehbjfaaGreat.DWa Go.Proofs.YtojmbbldehbjfaaGreat.DWe
open Go.Proofs.YtojmbbldehbjfaaGreat.WalkI (bare bare_mine)
open Go.Proofs.YtojmbbldehbjfaaGreat.WalkJ (voteOk lastOk newNd hbox NoNode)
open Go.Proofs.YtojmbbldehbjfaaGreat.Quorum (mem size need sound maj node has turn change)

section
variable {B q : Nat} {v : Value} {g : G} {w : World}
theorem dnode_new (h : LogAt TE B w q v g) (I t : Nat) (vt : Int) {six : Nat} (hs : g.snap.idx = six) : DAt B (w.alloc (.cells #[.int .i64 (I : Int), .int .u64 (t : Int), .int .i64 vt, .pointer (some ⟨q, 0, none⟩), .int .i64 0, .int .i64 (-1), .int .u64 (six : Int), .int .u64 0, .int .u64 0, .int .u64 0, .int .u64 0, .int .u64 0, .int .u64 0, .int .u64 0, .int .u64 0, .int .u64 0, .int .u64 0, .int .u64 0, .int .u64 0, .int .u64 0, .int .u64 0, .int .u64 0, .slice none 0 0, .bool false, .slice none 0 0, .bool false] 56)) w.heap.size ⟨q, v, .slice none 0 0, .slice none 0 0, [], fun _ => False⟩ (newNd I t vt g) := by
  subst hs
  refine ⟨0, zeros, zeros, ⟨fun _ => rfl, fun _ => rfl, fun _ => rfl, rfl, rfl⟩, ?_⟩
  have hb : Below w.heap.size w (w.alloc (.cells #[.int .i64 (I : Int), .int .u64 (t : Int), .int .i64 vt, .pointer (some ⟨q, 0, none⟩), .int .i64 0, .int .i64 (-1), .int .u64 (g.snap.idx : Int), .int .u64 0, .int .u64 0, .int .u64 0, .int .u64 0, .int .u64 0, .int .u64 0, .int .u64 0, .int .u64 0, .int .u64 0, .int .u64 0, .int .u64 0, .int .u64 0, .int .u64 0, .int .u64 0, .int .u64 0, .slice none 0 0, .bool false, .slice none 0 0, .bool false] 56)) := (Below.refl _ _).alloc (Nat.le_refl _) _
  refine ⟨h.base, heap_alloc_new w _, h.below hb, World.ownsRow_nil _ _ _ _, World.ownsRow_nil _ _ _ _, rfl, by simp, fun k hk => hk.elim, fun e => ?_, by simp [Value.ownBlock], by simp [Value.ownBlock], fun k _ => by simp [Value.ownBlock], fun k _ => by simp [Value.ownBlock], fun k hk => by simp [Value.ownBlock] at hk⟩
  have := (h.foot_lt e).2
  omega
/-- A new node, of a log. -/
def NewD (B : Nat) (w : World) (q : Nat) (v : Value) (g : G) (i : Int) (t : Nat) (vt : Int) (e : Ending) (w' : World) : Prop :=
  ∃ p, e = .returned (.tuple #[.pointer (some ⟨p, 0, none⟩), .int .i64 0]) ∧ w.heap.size ≤ p ∧ DAt B w' p ⟨q, v, .slice none 0 0, .slice none 0 0, [], fun _ => False⟩ (newNd i.toNat t vt g) ∧ Below w.heap.size w w'
set_option maxHeartbeats 1000000 in
theorem dnew_bad (i : Int) (t : Nat) (vt : Int) (Q : Addr) (hx : ¬ (0 ≤ i ∧ i ≤ 6 ∧ -1 ≤ vt ∧ vt ≤ 6)) (w : World) : Calls Tryz.prog 13 #[.int .i64 i, .agg #[.int .u64 (t : Int), .int .i64 vt], .pointer (some Q)] w (NoNode w) := by
  have hcb := heap_alloc_new w (.cells #[.int .u64 (t : Int), .int .i64 vt] 24)
  have HB := Lib.hid (hbox t vt w)
  obtain ⟨w0, hw0⟩ : ∃ w0, w.alloc (.cells #[.int .u64 (t : Int), .int .i64 vt] 24) = w0 := ⟨_, rfl⟩
  rw [hw0] at HB hcb
  have x1 : w0.cell? ⟨w.heap.size, 1, none⟩ = some (.int .i64 vt) := by rw [cell_at hcb]; rfl
  have hlt := lt_at hcb
  have HW0 := Lib.hid hw0
  have hc : i < 0 ∨ (¬ i < 0 ∧ 6 < i) ∨ (¬ i < 0 ∧ ¬ 6 < i ∧ vt < -1) ∨ (¬ i < 0 ∧ ¬ 6 < i ∧ ¬ vt < -1 ∧ 6 < vt) := by omega
  clear hw0 hcb hx
  rcases hc with h1 | ⟨h1, h2⟩ | ⟨h1, h2, h3⟩ | ⟨h1, h2, h3, h4⟩
  all_goals
    go_enter Tryz.func13, Tryz.ntmps13
    go_wp2_with fail
    rw [HW0.out]
    go_wp2
    go_ret2
    exact ⟨rfl, HB.out⟩
set_option maxRecDepth 100000 in
set_option maxHeartbeats 2000000 in
theorem dnew_ok (h : LogAt TE B w q v g) (I t : Nat) (vt : Int) (hi : I ≤ 6) (hv : -1 ≤ vt ∧ vt ≤ 6) (hT : (last g).2 ≤ t) (hI : (last g).1 ≤ 9223372036854775808) : Calls Tryz.prog 13 #[.int .i64 (I : Int), .agg #[.int .u64 (t : Int), .int .i64 vt], .pointer (some ⟨q, 0, none⟩)] w (NewD B w q v g (I : Int) t vt) := by
  have hcb := heap_alloc_new w (.cells #[.int .u64 (t : Int), .int .i64 vt] 24)
  have HB := Lib.hid (hbox t vt w)
  have hlog := LogAt.below h (hbox t vt w)
  have hlast := RefB.rlast_any hlog
  obtain ⟨LI, hLI⟩ : ∃ LI, (last g).1 = LI := ⟨_, rfl⟩
  obtain ⟨LT, hLT⟩ : ∃ LT, (last g).2 = LT := ⟨_, rfl⟩
  rw [hLI, hLT] at hlast
  rw [hLI] at hI
  rw [hLT] at hT
  obtain ⟨w0, hw0⟩ : ∃ w0, w.alloc (.cells #[.int .u64 (t : Int), .int .i64 vt] 24) = w0 := ⟨_, rfl⟩
  rw [hw0] at HB hcb hlast
  have x0 : w0.cell? ⟨w.heap.size, 0, none⟩ = some (.int .u64 (t : Int)) := by rw [cell_at hcb]; rfl
  have x1 : w0.cell? ⟨w.heap.size, 1, none⟩ = some (.int .i64 vt) := by rw [cell_at hcb]; rfl
  have hlt := lt_at hcb
  have HW0 := Lib.hid hw0
  have HLast := Lib.hid hlast
  have H := Lib.hid h
  have hv0 : ¬ vt < -1 := by omega
  have hv6 : ¬ 6 < vt := by omega
  have hi0 : ¬ (I : Int) < 0 := by omega
  have hi6 : ¬ (6 : Int) < (I : Int) := by omega
  obtain ⟨six, hS⟩ : ∃ S, g.snap.idx = S := ⟨_, rfl⟩
  have HS := Lib.hid hS
  have hx3 : decide ((9223372036854775808 : Int) < (LI : Int)) = false := by simp; omega
  have hx4 : ¬ (t : Int) < (LT : Int) := by omega
  clear hw0 hcb hlast hLI hLT hlog h hS hi hv hT hI
  go_enter Tryz.func13, Tryz.ntmps13
  go_wp2_with fail
  rw [HW0.out]
  go_wp2_with fail
  with_reducible refine HLast.out.mono ?_
  rintro e w1 ⟨rfl, hb1⟩
  have y0 := (hb1.cell (p := ⟨w.heap.size, 0, none⟩) hlt).trans x0
  have y1 := (hb1.cell (p := ⟨w.heap.size, 1, none⟩) hlt).trans x1
  have HB1 := Lib.hid (HB.out.trans (hb1.mono HB.out.size))
  have hl1 : w.heap.size < w1.heap.size := Nat.lt_of_lt_of_le hlt hb1.size
  have hg1 := H.out.below HB1.out
  have z0 := hg1.c0
  have hql := hg1.lt
  rw [HS.out] at z0
  clear hb1 x0 x1 hlt hg1
  go_wp2_with fail
  go_region
  all_goals go_wp2
  all_goals go_ret2
  all_goals exact ⟨_, rfl, HB1.out.size, (by
    have hb := HB1.out
    have k := dnode_new (H.out.below hb) I t vt HS.out
    exact k.drew), (HB1.out.alloc HB1.out.size _).drew⟩
set_option maxHeartbeats 2000000 in
theorem dnew_last (h : LogAt TE B w q v g) (I t : Nat) (vt : Int) (hi : I ≤ 6) (hv : -1 ≤ vt ∧ vt ≤ 6) (hx : ¬ ((last g).2 ≤ t ∧ (last g).1 ≤ 9223372036854775808)) : Calls Tryz.prog 13 #[.int .i64 (I : Int), .agg #[.int .u64 (t : Int), .int .i64 vt], .pointer (some ⟨q, 0, none⟩)] w (NoNode w) := by
  have hcb := heap_alloc_new w (.cells #[.int .u64 (t : Int), .int .i64 vt] 24)
  have HB := Lib.hid (hbox t vt w)
  have hlog := LogAt.below h (hbox t vt w)
  have hlast := RefB.rlast_any hlog
  obtain ⟨LI, hLI⟩ : ∃ LI, (last g).1 = LI := ⟨_, rfl⟩
  obtain ⟨LT, hLT⟩ : ∃ LT, (last g).2 = LT := ⟨_, rfl⟩
  rw [hLI, hLT] at hlast
  rw [hLI, hLT] at hx
  obtain ⟨w0, hw0⟩ : ∃ w0, w.alloc (.cells #[.int .u64 (t : Int), .int .i64 vt] 24) = w0 := ⟨_, rfl⟩
  rw [hw0] at HB hcb hlast
  have x0 : w0.cell? ⟨w.heap.size, 0, none⟩ = some (.int .u64 (t : Int)) := by rw [cell_at hcb]; rfl
  have x1 : w0.cell? ⟨w.heap.size, 1, none⟩ = some (.int .i64 vt) := by rw [cell_at hcb]; rfl
  have hlt := lt_at hcb
  have HW0 := Lib.hid hw0
  have HLast := Lib.hid hlast
  have H := Lib.hid h
  have hv0 : ¬ vt < -1 := by omega
  have hv6 : ¬ 6 < vt := by omega
  have hi0 : ¬ (I : Int) < 0 := by omega
  have hi6 : ¬ (6 : Int) < (I : Int) := by omega
  have hc : (t : Int) < (LT : Int) ∨ (¬ (t : Int) < (LT : Int) ∧ decide ((9223372036854775808 : Int) < (LI : Int)) = true) := by
    by_cases hT : LT ≤ t
    · refine .inr ⟨by omega, by simp; omega⟩
    · exact .inl (by omega)
  clear hw0 hcb hlast hLI hLT hlog h hi hv hx
  rcases hc with hc | ⟨hc, hc2⟩
  all_goals
    go_enter Tryz.func13, Tryz.ntmps13
    go_wp2_with fail
    rw [HW0.out]
    go_wp2_with fail
    with_reducible refine HLast.out.mono ?_
    rintro e w1 ⟨rfl, hb1⟩
    have y0 := (hb1.cell (p := ⟨w.heap.size, 0, none⟩) hlt).trans x0
    have y1 := (hb1.cell (p := ⟨w.heap.size, 1, none⟩) hlt).trans x1
    have HB1 := Lib.hid (HB.out.trans (hb1.mono HB.out.size))
    clear hb1 x0 x1 hlt
    go_wp2
    go_ret2
    exact ⟨rfl, HB1.out⟩
theorem dnew_any (h : LogAt TE B w q v g) (i : Int) (t : Nat) (vt : Int) : Calls Tryz.prog 13 #[.int .i64 i, .agg #[.int .u64 (t : Int), .int .i64 vt], .pointer (some ⟨q, 0, none⟩)] w fun e w' =>
    if (node i && (voteOk vt && lastOk t g)) = true then NewD B w q v g i t vt e w' else NoNode w e w' := by
  by_cases hx : 0 ≤ i ∧ i ≤ 6 ∧ -1 ≤ vt ∧ vt ≤ 6
  · have e1 : node i = true := by unfold Quorum.node; exact decide_eq_true (by omega)
    have e2 : voteOk vt = true := by
      unfold voteOk
      by_cases hv : vt = -1
      · rw [decide_eq_true hv]; rfl
      · have : node vt = true := by unfold Quorum.node; exact decide_eq_true (by omega)
        rw [this]; simp
    obtain ⟨I, rfl⟩ : ∃ I : Nat, i = (I : Int) := ⟨i.toNat, by omega⟩
    by_cases hy : (last g).2 ≤ t ∧ (last g).1 ≤ 9223372036854775808
    · have e3 : lastOk t g = true := by unfold lastOk; rw [decide_eq_true hy.1, decide_eq_true hy.2]; rfl
      exact (dnew_ok h I t vt (by omega) hx.2.2 hy.1 hy.2).mono fun e w' k => by rw [if_pos (by rw [e1, e2, e3]; rfl)]; exact k
    · have e3 : lastOk t g = false := by
        unfold lastOk
        by_cases hT : (last g).2 ≤ t
        · rw [decide_eq_true hT, decide_eq_false fun hI => hy ⟨hT, hI⟩]; rfl
        · rw [decide_eq_false hT]; rfl
      exact (dnew_last h I t vt (by omega) hx.2.2 hy).mono fun e w' k => by rw [if_neg (by rw [e3]; simp)]; exact k
  · have e1 : (node i && (voteOk vt && lastOk t g)) = false := by
      cases e1 : node i with
      | false => rfl
      | true =>
        cases e2 : voteOk vt with
        | false => rfl
        | true =>
          exfalso
          apply hx
          have h1 := node_lt e1
          unfold voteOk at e2
          simp only [Bool.or_eq_true, decide_eq_true_eq] at e2
          rcases e2 with e2 | e2
          · omega
          · have := node_lt e2; omega
    rw [e1]
    exact (dnew_bad i t vt ⟨q, 0, none⟩ hx w).mono fun e w' k => by rw [if_neg (by simp)]; exact k
end
section
variable {B p N : Nat} {z : Seat} {m : Nd} {w : World}
theorem dclear_any (h : DAt B w p z m) : Calls Tryz.prog 42 #[.pointer (some ⟨p, 0, none⟩)] w fun e w' => e = .returned (.tuple #[]) ∧ DAt B w' p (bare z) (taken m) ∧ Only (fun q => q = p) w w' := by
  obtain ⟨vs, nx, mt, fr, h⟩ := h
  obtain ⟨Ak, ck, hvk, _, _, _⟩ := own_form h.kept
  obtain ⟨Ao, co, hvo, _, _, _⟩ := own_form h.outs
  have hplt := h.plt
  have ho : Only (fun q => q = p) w ((((w.setCell ⟨p, 22, none⟩ (.slice none 0 0)).setCell ⟨p, 23, none⟩ (.bool false)).setCell ⟨p, 24, none⟩ (.slice none 0 0)).setCell ⟨p, 25, none⟩ (.bool false)) :=
    ((((Only.refl (fun q => q = p) w).setCell (a := ⟨p, 22, none⟩) (.inr rfl) _).setCell (a := ⟨p, 23, none⟩) (.inr rfl) _).setCell (a := ⟨p, 24, none⟩) (.inr rfl) _).setCell (a := ⟨p, 25, none⟩) (.inr rfl) _
  have st {w' : World} {L : List Value} {t : TypeId} (i : Nat) (u : Value) (k : w'.heap[p]? = some (.cells L.toArray t (0, 0))) : (w'.setCell ⟨p, i, none⟩ u).heap[p]? = some (.cells (L.set i u).toArray t (0, 0)) := by rw [set_at k]; simp
  have h1 := st 22 (.slice none 0 0) h.cell
  have h2 := st 23 (.bool false) h1
  have h3 := st 24 (.slice none 0 0) h2
  have h4 := st 25 (.bool false) h3
  have e1 := dcs_set_tl (z := z) (m := m) (vs := vs) fr.nl fr.ml 0 (.slice none 0 0)
  have hcs : ((((dcs z m vs nx mt).set 22 (.slice none 0 0)).set 23 (.bool false)).set 24 (.slice none 0 0)).set 25 (.bool false) = dcs (bare z) (taken m) vs nx mt := by
    match nx, mt, fr.nl, fr.ml with
    | [a, b, c, d, e, f, g], [a', b', c', d', e', f', g'], _, _ => rfl
  rw [hcs] at h4
  have hD : DAt B ((((w.setCell ⟨p, 22, none⟩ (.slice none 0 0)).setCell ⟨p, 23, none⟩ (.bool false)).setCell ⟨p, 24, none⟩ (.slice none 0 0)).setCell ⟨p, 25, none⟩ (.bool false)) p (bare z) (taken m) := by
    refine ⟨vs, nx, mt, ⟨fr.v, fr.n, fr.t, fr.nl, fr.ml⟩, ⟨h.low, h4, h.log.keep ho fun b hb e => h.d1 (e ▸ hb), World.ownsRow_nil _ _ _ _, World.ownsRow_nil _ _ _ _, rfl, by simp [bare], fun b hb => Nat.lt_of_lt_of_le (h.xlt b hb) ho.size, h.d1, by simp [bare, Value.ownBlock], by simp [bare, Value.ownBlock], fun k _ => by simp [bare, Value.ownBlock], fun k _ => by simp [bare, Value.ownBlock], fun k hk => by simp [bare, Value.ownBlock] at hk⟩⟩
  have c22 := DN.c22 h fr
  have f0 := fun i => NodeAt.free h i
  have f1 := fun i => free_at h1 i
  have f2 := fun i => free_at h2 i
  have f3 := fun i => free_at h3 i
  have c23 : (w.setCell ⟨p, 22, none⟩ (.slice none 0 0)).cell? ⟨p, 23, none⟩ = some (.bool m.inst) := by
    rw [cell_at h1]
    match nx, mt, fr.nl, fr.ml with
    | [a, b, c, d, e, f, g], [a', b', c', d', e', f', g'], _, _ => rfl
  have c24 : ((w.setCell ⟨p, 22, none⟩ (.slice none 0 0)).setCell ⟨p, 23, none⟩ (.bool false)).cell? ⟨p, 24, none⟩ = some z.vo := by
    rw [cell_at h2]
    match nx, mt, fr.nl, fr.ml with
    | [a, b, c, d, e, f, g], [a', b', c', d', e', f', g'], _, _ => rfl
  have c25 : (((w.setCell ⟨p, 22, none⟩ (.slice none 0 0)).setCell ⟨p, 23, none⟩ (.bool false)).setCell ⟨p, 24, none⟩ (.slice none 0 0)).cell? ⟨p, 25, none⟩ = some (.bool m.reset) := by
    rw [cell_at h3]
    match nx, mt, fr.nl, fr.ml with
    | [a, b, c, d, e, f, g], [a', b', c', d', e', f', g'], _, _ => rfl
  rw [hvk] at c22
  rw [hvo] at c24
  have HD := Lib.hid hD
  have HO := Lib.hid ho
  clear hD ho h1 h2 h3 h4 hcs e1 st h fr hvk hvo
  go_enter Tryz.func42, Tryz.ntmps42
  go_wp2
  go_end0
  exact ⟨rfl, HD.out, HO.out⟩
end
end Go.Proofs.YtojmbbldehbjfaaGreat.DWi
set_option linter.unusedVariables false
namespace Go.Proofs.YtojmbbldehbjfaaGreat.DWj
open Go.RowKit Go.Proofs.YtojmbbldehbjfaaGreat.Kit Go.Proofs.YtojmbbldehbjfaaGreat.Blocks Go.Proofs.YtojmbbldehbjfaaGreat.Rlog Go.Proofs.YtojmbbldehbjfaaGreat.Ents Go.Proofs.YtojmbbldehbjfaaGreat.LogAt Go.Proofs.YtojmbbldehbjfaaGreat.Nod Go.Proofs.YtojmbbldehbjfaaGreat.NodAt Go.Proofs.YtojmbbldehbjfaaGreat.AppL Go.Proofs.YtojmbbldehbjfaaGreat.DAt Go.Proofs.YtojmbbldehbjfaaGreat.DWa Go.Proofs.YtojmbbldehbjfaaGreat.DWe Go.Proofs.YtojmbbldehbjfaaGreat.DWf
open Go.Proofs.YtojmbbldehbjfaaGreat.WalkM (install_err)
open Go.Proofs.YtojmbbldehbjfaaGreat.Quorum (mem size need sound maj node has turn change)

section
variable {B p N : Nat} {z : Seat} {m : Nd} {w : World}
/-- The document's log takes a snapshot that came. -/
theorem dlog_install (h : DAt B w p z m) (f : NdB N m) (hN : N ≤ 800000000) (x : Msg) (hx : MsgB x) {k : Int} {g' : G} (hr : install m.g (snapOf x) = (k, g')) :
    Calls Tryz.prog 126 #[.pointer (some ⟨z.q, 0, none⟩), .agg #[.int .u64 (x.ix : Int), .int .u64 (x.pv : Int), .int .u64 (x.cm : Int), .string x.d]] w fun e w' =>
      e = .returned (.int .i64 k) ∧ ∃ z', DAt B w' p z' { m with g := g' } ∧ Grow p z z' w w' := by
  obtain ⟨vs, nx, mt, fr, h⟩ := h
  have hge := f.es
  have := RefH.rinstall_any h.log f.fine (snapOf_b hx) (by omega)
  rw [hr] at this
  refine this.mono ?_
  rintro e w' ⟨rfl, hl⟩
  obtain ⟨v', h', g''⟩ := NodeAt.logged h hl
  exact ⟨rfl, _, ⟨vs, nx, mt, ⟨fr.v, fr.n, fr.t, fr.nl, fr.ml⟩, h'⟩, g''⟩
/-- An answer is sent. -/
theorem dreply_any (h : DAt B w p z m) (f : NdB N m) (hN : N ≤ 1000000000) (ft : Int) (ix : Nat) (ok : Bool) :
    Calls Tryz.prog 67 #[.pointer (some ⟨p, 0, none⟩), .agg #[.int .i64 4, .int .i64 0, .int .i64 ft, .int .u64 0, .int .u64 (ix : Int), .int .u64 0, .int .u64 0, .bool ok, .slice none 0 0, .string ⟨#[]⟩]] w (DoesD B w p z (reply m ft ix ok)) :=
  dsend_any h f hN { blankM with k := 4, t := ft, ix := ix, ok := ok } noPl (Fit.none _ _ rfl)
/-- What a snapshot leaves in the cells. -/
theorem DAt.laid (h : DAt B w p z m) (ix : Nat) : ∃ (a : Option Addr) (b c : Nat), w.cell? ⟨p, 6, none⟩ = some (.int .u64 (m.commit : Int)) ∧ w.frozen? ⟨p, 6, none⟩ = false ∧ w.cell? ⟨p, 23, none⟩ = some (.bool m.inst) ∧ w.frozen? ⟨p, 23, none⟩ = false ∧ w.cell? ⟨p, 22, none⟩ = some (.slice a b c) ∧ w.frozen? ⟨p, 22, none⟩ = false ∧
    DAt B (((w.setCell ⟨p, 6, none⟩ (.int .u64 (ix : Int))).setCell ⟨p, 23, none⟩ (.bool true)).setCell ⟨p, 22, none⟩ (.slice none 0 0)) p { z with vk := .slice none 0 0 } { m with commit := ix, inst := true, kept := [] } ∧
    Grow p z { z with vk := .slice none 0 0 } w (((w.setCell ⟨p, 6, none⟩ (.int .u64 (ix : Int))).setCell ⟨p, 23, none⟩ (.bool true)).setCell ⟨p, 22, none⟩ (.slice none 0 0)) := by
  obtain ⟨vs, nx, mt, fr, h⟩ := h
  obtain ⟨Ak, ck, hvk, _, _, _⟩ := own_form h.kept
  have c22 := DN.c22 h fr
  rw [hvk] at c22
  obtain ⟨h1, g1⟩ := DN.setTo h 6 (.int .u64 (ix : Int)) { m with commit := ix } vs nx mt rfl rfl rfl rfl
  obtain ⟨h2, g2⟩ := DN.setTo h1 23 (.bool true) { m with commit := ix, inst := true } vs nx mt (by
    rw [show (23 : Nat) = 22 + 1 from rfl, dcs_set_tl fr.nl fr.ml 1]; rfl) rfl rfl rfl
  obtain ⟨_, h3, g3⟩ := NodeAt.rekept (kept' := []) h2 (Only.refl (fun q => z.vk.ownBlock = some q) _) (v' := .slice none 0 0) (World.ownsRow_nil _ _ _ _) rfl rfl (fun q hq => by simp [Value.ownBlock] at hq) 22
  rw [show (22 : Nat) = 22 + 0 from rfl, dcs_set_tl fr.nl fr.ml 0] at h3
  exact ⟨_, _, _, DN.c6 h, NodeAt.free h 6, DN.c23 h fr, NodeAt.free h 23, c22, NodeAt.free h 22, ⟨vs, nx, mt, ⟨fr.v, fr.n, fr.t, fr.nl, fr.ml⟩, h3⟩, (g1.trans g2).trans g3⟩
set_option maxHeartbeats 4000000 in
theorem dlay_any (h : DAt B w p z m) (f : NdB N m) (hN : N ≤ 700000000) (x : Msg) (a : Pl) (hx : MsgB x) (hix : x.ix ≤ 4611686018427387904) :
    Calls Tryz.prog 104 #[.pointer (some ⟨p, 0, none⟩), ltV x a] w (DoesD B w p z (laysDown m x)) := by
  have hba : Below w.heap.size w (w.alloc (.cells (ltCs x a).toArray 47)) := (Below.refl _ _).alloc (Nat.le_refl _) _
  have hbx := LBox.new w x a
  have hin0 := fun W (hb : Below w.heap.size w W) {k : Int} {g' : G} (hr : install m.g (snapOf x) = (k, g')) => dlog_install (h.below hb) f (by omega) x hx hr
  have hrp := fun W z' (h' : DAt B W p z' m) => dreply_any h' f (by omega) x.f x.ix true
  have hM0 : laysDown m x = if m.commit < x.ix then (if x.tm < x.pv ∨ (install m.g (snapOf x)).1 ≠ 0 then m else reply (installs m x) x.f x.ix true) else reply m x.f x.ix true := rfl
  have f2 := installs_b f hx hix
  have hIE := install_err (g := m.g) (s := snapOf x)
  have hins : installs m x = { m with g := (install m.g (snapOf x)).2, commit := x.ix, inst := true, kept := [] } := rfl
  obtain ⟨⟨k, g'⟩, hR⟩ : ∃ R, install m.g (snapOf x) = R := ⟨_, rfl⟩
  have hin := fun W (hb : Below w.heap.size w W) => hin0 W hb hR
  clear hin0
  rw [hR] at hM0 hIE hins
  simp only at hM0 hIE hins
  obtain ⟨m2, hm2⟩ : ∃ m2, installs m x = m2 := ⟨_, rfl⟩
  rw [hm2] at hM0 f2 hins
  obtain ⟨M, hM⟩ : ∃ M, laysDown m x = M := ⟨_, rfl⟩
  rw [hM] at hM0 ⊢
  obtain ⟨C, hC⟩ : ∃ C, m.commit = C := ⟨_, rfl⟩
  rw [hC] at hM0
  have H := Lib.hid h
  have F2 := Lib.hid f2
  have HIn := Lib.hid hin
  have HRp := Lib.hid hrp
  have HM := Lib.hid hM0
  have HIE := Lib.hid hIE
  have HIns := Lib.hid hins
  have HC := Lib.hid hC
  clear h f f2 hin hrp hM0 hIE hins hx hR hm2 hM hC
  obtain ⟨kd, fr, tt, tm, ix, pv, cm, ok, es, d⟩ := x
  unfold ltV
  simp only [ltCs] at hba hbx HIn HRp HM HIns ⊢
  have x0 := hbx.c0
  have x1 := hbx.c1
  have x2 := hbx.c2
  have x3 := hbx.c3
  have x4 := hbx.c4
  have x5 := hbx.c5
  have x6 := hbx.c6
  have x7 := hbx.c7
  have x8 := hbx.c8
  have x9 := hbx.c9
  have hlt := hbx.lt
  obtain ⟨w0, hw0⟩ : ∃ w0, w.alloc (.cells [.int .i64 kd, .int .i64 fr, .int .i64 tt, .int .u64 (tm : Int), .int .u64 (ix : Int), .int .u64 (pv : Int), .int .u64 (cm : Int), .bool ok, .slice a.A a.n a.c, .string d].toArray 47) = w0 := ⟨_, rfl⟩
  rw [hw0] at hba hbx x0 x1 x2 x3 x4 x5 x6 x7 x8 x9 hlt
  simp only at x0 x1 x2 x3 x4 x5 x6 x7 x8 x9
  have HW0 := Lib.hid hw0
  have HBA := Lib.hid hba
  clear hw0
  have h0 := H.out.below HBA.out
  have c6 := DAt.c6 h0
  have c3 := DAt.c3 h0
  rw [HC.out] at c6
  have hp0 := DAt.plt h0
  clear h0 hba hbx
  by_cases hlt2 : C < ix
  · have hgt : decide ((C : Int) < (ix : Int)) = true := by simp; omega
    by_cases hpv : tm < pv
    · have HM2 : Hid (M = m) := Lib.hid (by rw [HM.out, if_pos hlt2, if_pos (.inl hpv)])
      have hpd : decide ((tm : Int) < (pv : Int)) = true := by simp; omega
      go_enter Tryz.func104, Tryz.ntmps104
      go_wp2_with fail
      rw [HW0.out]
      go_quiet (fail)
      have hbq : Below w.heap.size w (w0.drewN nq) := below_drewN HBA.out nq
      have y3 : (w0.drewN nq).cell? ⟨w.heap.size, 3, none⟩ = some (.int .u64 (tm : Int)) := x3
      have y4 : (w0.drewN nq).cell? ⟨w.heap.size, 4, none⟩ = some (.int .u64 (ix : Int)) := x4
      have y5 : (w0.drewN nq).cell? ⟨w.heap.size, 5, none⟩ = some (.int .u64 (pv : Int)) := x5
      have y6 : (w0.drewN nq).cell? ⟨w.heap.size, 6, none⟩ = some (.int .u64 (cm : Int)) := x6
      have y9 : (w0.drewN nq).cell? ⟨w.heap.size, 9, none⟩ = some (.string d) := x9
      have hlq : w.heap.size < (w0.drewN nq).heap.size := hlt
      generalize w0.drewN nq = wq at hbq y3 y4 y5 y6 y9 hlq ⊢
      have HBQ := Lib.hid hbq
      clear hbq
      go_wp2_with fail
      go_quiet (fail)
      go_wp2
      (try simp only [Exit.inBlock, Exit.then]); refine bodyPost_ret (results_none rfl _ _ _) rfl ?_
      rw [HM2.out]
      exact ⟨rfl, LeftD.of_below H.out (below_drewN HBQ.out _)⟩
    · have hnp : ¬ w.heap.size = p := fun e => by have := DAt.plt H.out; omega
      have hpd : decide ((tm : Int) < (pv : Int)) = false := by simp; omega
      go_enter Tryz.func104, Tryz.ntmps104
      go_wp2_with fail
      rw [HW0.out]
      go_quiet (fail)
      have hbq : Below w.heap.size w (w0.drewN nq) := below_drewN HBA.out nq
      have u1 : (w0.drewN nq).cell? ⟨w.heap.size, 1, none⟩ = some (.int .i64 fr) := x1
      have u3 : (w0.drewN nq).cell? ⟨w.heap.size, 3, none⟩ = some (.int .u64 (tm : Int)) := x3
      have u4 : (w0.drewN nq).cell? ⟨w.heap.size, 4, none⟩ = some (.int .u64 (ix : Int)) := x4
      have u5 : (w0.drewN nq).cell? ⟨w.heap.size, 5, none⟩ = some (.int .u64 (pv : Int)) := x5
      have u6 : (w0.drewN nq).cell? ⟨w.heap.size, 6, none⟩ = some (.int .u64 (cm : Int)) := x6
      have u9 : (w0.drewN nq).cell? ⟨w.heap.size, 9, none⟩ = some (.string d) := x9
      have e3 : (w0.drewN nq).cell? ⟨p, 3, none⟩ = some (.pointer (some ⟨z.q, 0, none⟩)) := c3
      have hls : w.heap.size < (w0.drewN nq).heap.size := hlt
      generalize w0.drewN nq = ws at hbq u1 u3 u4 u5 u6 u9 e3 hls ⊢
      have HBS := Lib.hid hbq
      clear hbq x0 x1 x2 x3 x4 x5 x6 x7 x8 x9 c3 c6
      go_wp2_with fail
      go_region_held3 (fun W => W.cell? ⟨p, 3, none⟩ = some (.pointer (some ⟨z.q, 0, none⟩)) ∧ W.cell? ⟨w.heap.size, 3, none⟩ = some (.int .u64 (tm : Int)) ∧ W.cell? ⟨w.heap.size, 5, none⟩ = some (.int .u64 (pv : Int)) ∧ W.cell? ⟨w.heap.size, 4, none⟩ = some (.int .u64 (ix : Int)) ∧ W.cell? ⟨w.heap.size, 6, none⟩ = some (.int .u64 (cm : Int)) ∧ W.cell? ⟨w.heap.size, 9, none⟩ = some (.string d))
        (first
          | exact ⟨e3, u3, u5, u4, u6, u9⟩
          | (with_reducible exact HKA.out))
        (first
          | (go_at_call 126
             with_reducible refine (HIn.out _ HBS.out.drew).mono ?_
             rintro e wA ⟨rfl, z1, h1, g1⟩
             have hno : ¬ Mine p z w.heap.size := fun e => by have := (DAt.mine_lt H.out e).2; omega
             have K2 : Hid (∀ i u, ws.cell? ⟨w.heap.size, i, none⟩ = some u → wA.cell? ⟨w.heap.size, i, none⟩ = some u) := fun i u hu => (g1.only.cell (p := ⟨w.heap.size, i, none⟩) hls hno).trans hu
             have hq1 : wA.cell? ⟨p, 3, none⟩ = some (.pointer (some ⟨z.q, 0, none⟩)) := by rw [← g1.q]; exact DAt.c3 h1
             have HKA := Lib.hid (And.intro hq1 (And.intro (K2.out _ _ u3) (And.intro (K2.out _ _ u5) (And.intro (K2.out _ _ u4) (And.intro (K2.out _ _ u6) (K2.out _ _ u9))))))
             have H1 := Lib.hid h1
             have G1 := Lib.hid (Grow.afterBelow HBS.out.drew g1)
             have HN1 := Lib.hid (WalkG.Grow.out g1 hno hls)
             have hlA : w.heap.size < wA.heap.size := Nat.lt_of_lt_of_le hls g1.size
             clear h1 g1 hno hq1))
      all_goals
        have z1A := K2.out _ _ u1
        have z4A := K2.out _ _ u4
      by_cases hk : k = 0
      · subst hk
        have HM2 : Hid (M = reply m2 fr ix true) := Lib.hid (by rw [HM.out, if_pos hlt2, if_neg (by rintro (e | e); exact hpv e; exact e rfl)])
        obtain ⟨a0, a1, a2, d6, k6, d23, k23, d22, k22, h4, g4⟩ := DAt.laid H1.out ix
        have hpA := DAt.plt H1.out
        have he : ({ ({ m with g := g' } : Nd) with commit := ix, inst := true, kept := [] } : Nd) = m2 := HIns.out.symm
        rw [he] at h4
        have hrp2 := dreply_any h4 F2.out (by omega) fr ix true
        rw [← HM2.out] at hrp2
        have HRp2 := Lib.hid hrp2
        have G4 := Lib.hid (G1.out.trans g4)
        have hnp2 : ¬ p = w.heap.size := fun e => hnp e.symm
        clear h4 g4 hrp2 he HM HIE HIns
        go_wp2_with fail
        with_reducible refine HRp2.out.mono ?_
        rintro e wD ⟨rfl, hl⟩
        have HL := Lib.hid hl
        clear hl
        go_wp2
        go_end0
        exact ⟨rfl, LeftD.then G4.out HL.out⟩
      · have HM2 : Hid (M = m) := Lib.hid (by rw [HM.out, if_pos hlt2, if_pos (.inr hk)])
        have hg := HIE.out hk
        have h2 : DAt B wA p z1 m := by have := H1.out; rw [hg] at this; exact this
        have H2 := Lib.hid h2
        have hne : (k != 0) = true := by simpa using hk
        clear h2 hg HM HIE HIns
        go_wp2
        (try simp only [Exit.inBlock, Exit.then]); refine bodyPost_ret (results_none rfl _ _ _) rfl ?_
        rw [HM2.out]
        exact ⟨rfl, z1, H2.out, G1.out⟩
  · have hgt : decide ((C : Int) < (ix : Int)) = false := by simp; omega
    have HM2 : Hid (M = reply m fr ix true) := Lib.hid (by rw [HM.out, if_neg hlt2])
    clear HM
    go_enter Tryz.func104, Tryz.ntmps104
    go_wp2_with fail
    rw [HW0.out]
    go_quiet (fail)
    have hbq : Below w.heap.size w (w0.drewN nq) := below_drewN HBA.out nq
    have y1 : (w0.drewN nq).cell? ⟨w.heap.size, 1, none⟩ = some (.int .i64 fr) := x1
    have y4 : (w0.drewN nq).cell? ⟨w.heap.size, 4, none⟩ = some (.int .u64 (ix : Int)) := x4
    generalize w0.drewN nq = wq at hbq y1 y4 ⊢
    have hr := HRp.out wq z (H.out.below hbq)
    rw [← HM2.out] at hr
    have HR := Lib.hid hr
    have HBQ := Lib.hid hbq
    clear hr hbq
    go_wp2_with fail
    with_reducible refine HR.out.mono ?_
    rintro e w2 ⟨rfl, hl⟩
    have HL := Lib.hid hl
    clear hl
    go_wp2
    go_end0
    exact ⟨rfl, LeftD.afterBelow HBQ.out HL.out⟩
end
end Go.Proofs.YtojmbbldehbjfaaGreat.DWj
