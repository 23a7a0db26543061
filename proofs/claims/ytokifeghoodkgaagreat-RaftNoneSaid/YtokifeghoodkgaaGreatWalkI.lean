/- What the program's Change leaves, walked; New, Take, Status. -/
import Derived.Test.YtokifeghoodkgaaGreatWalkH
set_option linter.unusedVariables false
namespace Go.Proofs.YtokifeghoodkgaaGreat.WalkI
open Go.RowKit Go.Proofs.YtokifeghoodkgaaGreat.Kit Go.Proofs.YtokifeghoodkgaaGreat.Blocks Go.Proofs.YtokifeghoodkgaaGreat.Rlog Go.Proofs.YtokifeghoodkgaaGreat.Ents Go.Proofs.YtokifeghoodkgaaGreat.LogAt Go.Proofs.YtokifeghoodkgaaGreat.Nod Go.Proofs.YtokifeghoodkgaaGreat.NodAt Go.Proofs.YtokifeghoodkgaaGreat.AppL Go.Proofs.YtokifeghoodkgaaGreat.WalkA Go.Proofs.YtokifeghoodkgaaGreat.WalkB Go.Proofs.YtokifeghoodkgaaGreat.WalkC Go.Proofs.YtokifeghoodkgaaGreat.WalkD Go.Proofs.YtokifeghoodkgaaGreat.WalkE Go.Proofs.YtokifeghoodkgaaGreat.WalkF Go.Proofs.YtokifeghoodkgaaGreat.WalkG
open Go.Proofs.YtokifeghoodkgaaGreat.Told (unums)
open Go.Proofs.YtokifeghoodkgaaGreat.Quorum (mem size need sound maj node has turn change)

/-- What a call that answers a number and an error leaves. -/
def Tells (B : Nat) (w : World) (p : Nat) (z : Seat) (r : (Nat × Int) × Nd) (e : Ending) (w' : World) : Prop := e = .returned (.tuple #[.int .u64 (r.1.1 : Int), .int .i64 r.1.2]) ∧ LeftP B w p z r.2 w'
section
variable {B p N : Nat} {z : Seat} {m : Nd} {w : World}
theorem change_node {c : Nat} {ad : Bool} {i : Int} (h : (change c ad i).2 = 0) : 0 ≤ i ∧ i < 7 := by
  unfold change at h
  split at h
  · rename_i hc
    exact of_decide_eq_true hc.2
  · cases h
theorem change_no (h : PAt B w p z m) (hr : m.role ≠ 2) (ad : Bool) (i : Int) : Calls Tryz.prog 23 #[.pointer (some ⟨p, 0, none⟩), .bool ad, .int .i64 i] w (Tells B w p z (changes m ad i)) := by
  have c8 := h.c8
  have hp : changes m ad i = ((0, 30), m) := by unfold changes; rw [if_neg hr]
  rw [hp]
  obtain ⟨R, hR⟩ : ∃ R, m.role = R := ⟨_, rfl⟩
  rw [hR] at c8 hr
  have hne : ((R : Int) != 2) = true := by simp; omega
  have H := Lib.hid h
  clear hp h hR
  go_enter Tryz.func23, Tryz.ntmps23
  go_wp2
  go_ret2
  exact ⟨rfl, LeftP.refl H.out⟩
set_option maxHeartbeats 1000000 in
theorem change_early (h : PAt B w p z m) (f : NdB N m) (hN : N ≤ 800000000) (hr : m.role = 2) (he : earlyN m = true) (ad : Bool) (i : Int) : Calls Tryz.prog 23 #[.pointer (some ⟨p, 0, none⟩), .bool ad, .int .i64 i] w (Tells B w p z (changes m ad i)) := by
  have c8 : w.cell? ⟨p, 8, none⟩ = some (.int .i64 2) := by have := h.c8; rw [hr] at this; exact this
  have c7 := h.c7
  have hp : changes m ad i = ((0, 31), m) := by unfold changes; rw [if_pos hr, if_pos he]
  rw [hp]
  have hmem := RlgWalkJ.all_members h.log f.fine
  have hoft := fun W (hb : Below w.heap.size w W) => ofTerm_any (h.below hb) f (i := m.commit) (by have := f.commit; omega)
  have hcm : (members m.g 18446744073709551615).1 = cfg m := rfl
  have hsm : (members m.g 18446744073709551615).2 = since m := rfl
  rw [hcm, hsm] at hmem
  have hx : m.commit < since m ∨ (¬ m.commit < since m ∧ ofTerm m m.commit = false) := by
    unfold earlyN at he
    simp only [Bool.or_eq_true, decide_eq_true_eq, Bool.not_eq_true'] at he
    by_cases hl : m.commit < since m
    · exact .inl hl
    · exact .inr ⟨hl, he.resolve_left hl⟩
  obtain ⟨A, hA⟩ : ∃ A, cfg m = A := ⟨_, rfl⟩
  obtain ⟨S, hS⟩ : ∃ S, since m = S := ⟨_, rfl⟩
  obtain ⟨C, hC⟩ : ∃ C, m.commit = C := ⟨_, rfl⟩
  obtain ⟨b, hb⟩ : ∃ b, ofTerm m C = b := ⟨_, rfl⟩
  rw [hA, hS] at hmem
  simp only [hC] at hoft
  rw [hb] at hoft
  rw [hS, hC, hb] at hx
  have H := Lib.hid h
  have HMem := Lib.hid hmem
  have HOf := Lib.hid hoft
  have HC := Lib.hid hC
  have HX := Lib.hid hx
  clear hp hmem hoft hcm hsm hA hS hC hb hx he hr h f
  go_enter Tryz.func23, Tryz.ntmps23
  go_wp2_with fail
  with_reducible refine HMem.out.mono ?_
  rintro e w1 ⟨rfl, hb1⟩
  have h1 := H.out.below hb1
  have d10 := h1.c10
  rw [HC.out] at d10
  have HB1 := Lib.hid hb1
  clear h1 hb1
  rcases HX.out with hlt | ⟨hlt, rfl⟩
  · go_wp2
    go_ret2
    exact ⟨rfl, LeftP.of_below H.out HB1.out⟩
  · go_wp2_with fail
    with_reducible refine (HOf.out _ HB1.out).mono ?_
    rintro e w2 ⟨rfl, hb2⟩
    go_wp2
    go_ret2
    exact ⟨rfl, LeftP.of_below H.out (HB1.out.trans (hb2.mono HB1.out.size))⟩
set_option maxHeartbeats 2000000 in
theorem change_go (h : PAt B w p z m) (f : NdB N m) (hN : N ≤ 800000000) (hr : m.role = 2) (he : earlyN m = false) (ad : Bool) (i : Int) (hi0 : -9223372036854775808 ≤ i) (hi1 : i ≤ 9223372036854775807) :
    Calls Tryz.prog 23 #[.pointer (some ⟨p, 0, none⟩), .bool ad, .int .i64 i] w (Tells B w p z (changes m ad i)) := by
  have c8 : w.cell? ⟨p, 8, none⟩ = some (.int .i64 2) := by have := h.c8; rw [hr] at this; exact this
  have c7 := h.c7
  have hp : changes m ad i = if (change (cfg m) ad i).2 = 0 then Nod.add (fresh m ad i.toNat) 2 (str (Num.num (change (cfg m) ad i).1)) else ((0, (change (cfg m) ad i).2), m) := by unfold changes; rw [if_pos hr, if_neg (by rw [he]; simp)]
  have hmem := RlgWalkJ.all_members h.log f.fine
  have hoft := fun W (hb : Below w.heap.size w W) => ofTerm_any (h.below hb) f (i := m.commit) (by have := f.commit; omega)
  have hcl := cfg_lt f
  have hch := fun W => Change.change_any (cfg m) (by omega) ad i W
  have hcm : (members m.g 18446744073709551615).1 = cfg m := rfl
  have hsm : (members m.g 18446744073709551615).2 = since m := rfl
  rw [hcm, hsm] at hmem
  have hx : ¬ m.commit < since m ∧ ofTerm m m.commit = true := by
    unfold earlyN at he
    simp only [Bool.or_eq_false_iff, decide_eq_false_iff_not, Bool.not_eq_false'] at he
    exact he
  obtain ⟨hx1, hx2⟩ := hx
  have hcd := change_lt (c := cfg m) (ad := ad) (i := i)
  have hnode := change_node (c := cfg m) (ad := ad) (i := i)
  obtain ⟨⟨D, K⟩, hDK⟩ : ∃ R, change (cfg m) ad i = R := ⟨_, rfl⟩
  rw [hDK] at hp hch hcd hnode
  simp only at hp hcd hnode
  unfold Change.Pair at hch
  simp only at hch
  obtain ⟨A, hA⟩ : ∃ A, cfg m = A := ⟨_, rfl⟩
  obtain ⟨S, hS⟩ : ∃ S, since m = S := ⟨_, rfl⟩
  obtain ⟨C, hC⟩ : ∃ C, m.commit = C := ⟨_, rfl⟩
  rw [hA, hS] at hmem
  rw [hA] at hch
  rw [hC] at hx2
  simp only [hC] at hoft
  rw [hx2] at hoft
  rw [hS, hC] at hx1
  have H := Lib.hid h
  have F := Lib.hid f
  have HRole := Lib.hid hr
  have HMem := Lib.hid hmem
  have HOf := Lib.hid hoft
  have HCh := Lib.hid hch
  have HC := Lib.hid hC
  obtain ⟨⟨⟨J, E⟩, M⟩, hM⟩ : ∃ R, changes m ad i = R := ⟨_, rfl⟩
  rw [hM] at hp ⊢
  have HP := Lib.hid hp
  have HNode := Lib.hid hnode
  clear hp hmem hoft hcm hsm hA hS hC hDK hch he hr h f hM hx2 hcl hnode
  go_enter Tryz.func23, Tryz.ntmps23
  go_wp2_with fail
  with_reducible refine HMem.out.mono ?_
  rintro e w1 ⟨rfl, hb1⟩
  have h1 := H.out.below hb1
  have d10 := h1.c10
  rw [HC.out] at d10
  have HB1 := Lib.hid hb1
  clear h1 hb1
  go_wp2_with fail
  with_reducible refine (HOf.out _ HB1.out).mono ?_
  rintro e w2 ⟨rfl, hb2⟩
  have HB2 := Lib.hid (HB1.out.trans (hb2.mono HB1.out.size))
  clear hb2
  go_wp2_with fail
  with_reducible refine (HCh.out _).mono ?_
  rintro e w3 ⟨rfl, rfl⟩
  by_cases hK : K = 0
  · subst hK
    have hP := HP.out
    rw [if_pos rfl] at hP
    obtain ⟨n0, n7⟩ := HNode.out rfl
    obtain ⟨I, rfl⟩ : ∃ I : Nat, i = (I : Int) := ⟨i.toNat, by omega⟩
    rw [Int.toNat_natCast] at hP
    have hI7 : I < 7 := by omega
    have hcfg := fun W => RlgWalkA.config_any D W hcd
    obtain ⟨X, hX⟩ : ∃ X, str (Num.num D) = X := ⟨_, rfl⟩
    have hX' : PckWalkH.str (Num.num D) = X := hX
    have hXb : X.size ≤ 9223372036854775807 := by rw [← hX]; exact str_num_b D hcd
    rw [hX] at hP
    rw [hX'] at hcfg
    have HCfg := Lib.hid hcfg
    have h2 := H.out.below HB2.out
    cases ad with
    | false =>
      have hfr : fresh m false I = m := by unfold fresh; rw [if_neg (by simp)]
      rw [hfr] at hP
      have hadd := fun W (hb : Below w.heap.size w W) => add_any (H.out.below hb) F.out HRole.out hN 2 X (by decide) (by decide) hXb
      rw [← hP] at hadd
      have HAdd := Lib.hid hadd
      clear hP hX hX' hcfg hadd hfr h2
      go_wp2_with fail
      with_reducible refine (HCfg.out _).mono ?_
      rintro e w4 ⟨rfl, hb4⟩
      have HB4 := Lib.hid (HB2.out.trans (hb4.mono HB2.out.size))
      clear hb4
      go_wp2_with fail
      with_reducible refine (HAdd.out _ HB4.out).mono ?_
      rintro e w5 ⟨rfl, hl⟩
      have HL := Lib.hid hl
      clear hl
      go_wp2
      go_ret2
      exact ⟨rfl, LeftP.afterBelow HB4.out HL.out⟩
    | true =>
      have hlast := RlgWalkE.last_any (NodeAt.log h2) F.out.fine
      have e7 := h2.c7
      obtain ⟨LI, hLI⟩ : ∃ LI, (last m.g).1 = LI := ⟨_, rfl⟩
      obtain ⟨LT, hLT⟩ : ∃ LT, (last m.g).2 = LT := ⟨_, rfl⟩
      have hlb : LI + 1 < 18446744073709551616 := by have := F.out.top; omega
      have hw1 : IntKind.u64.wrap ((LI : Int) + 1) = ((LI + 1 : Nat) : Int) := by rw [show (LI : Int) + 1 = ((LI + 1 : Nat) : Int) by omega]; exact IntWalk.u64_in _ (by omega)
      simp only [hLI, hLT] at hlast
      have HLast := Lib.hid hlast
      have HP2 := Lib.hid hP
      have HLI := Lib.hid hLI
      obtain ⟨V, hV⟩ : ∃ V, LI + 1 = V := ⟨_, rfl⟩
      rw [hV] at hw1
      have HV := Lib.hid hV
      clear hP hX hX' hcfg h2 hlast hLI hLT hV
      go_wp2_with fail
      with_reducible refine HLast.out.mono ?_
      rintro e w4 ⟨rfl, hb4⟩
      have HB4 := Lib.hid (HB2.out.trans (hb4.mono HB2.out.size))
      have h4 := H.out.below HB4.out
      have qn := h4.nx F.out.nl hI7
      have qm := h4.mt F.out.nl F.out.ml hI7
      have kn := NodeAt.free h4 (12 + I)
      have km := NodeAt.free h4 (19 + I)
      have hp4 := NodeAt.plt h4
      obtain ⟨h5, g5⟩ := PAt.setNx h4 F.out.nl hI7 V
      obtain ⟨h6, g6⟩ := PAt.setMt h5 (by simp [F.out.nl]) hI7 0
      have hfr : ({ m with next := m.next.set I V, mat := m.mat.set I 0 } : Nd) = fresh m true I := by unfold fresh; rw [if_pos rfl, HLI.out, HV.out]
      have h6 := h6
      simp only at h6
      rw [hfr] at h6
      have H6 : Hid (PAt B (((w4.setCell ⟨p, 12 + I, none⟩ (.int .u64 (V : Int))).setCell ⟨p, 19 + I, none⟩ (.int .u64 0)).drew) p z (fresh m true I)) := Lib.hid (PAt.drew h6)
      have G6 : Hid (Grow p z z w (((w4.setCell ⟨p, 12 + I, none⟩ (.int .u64 (V : Int))).setCell ⟨p, 19 + I, none⟩ (.int .u64 0)).drew)) := Lib.hid (((Grow.of_below z HB4.out).trans (g5.trans g6)).thenBelow ((Below.refl _ _).drew))
      clear hb4 h4 h5 h6 g5 g6 hfr
      go_wp2_with fail
      go_region
      generalize ((w4.setCell ⟨p, 12 + I, none⟩ (.int .u64 (V : Int))).setCell ⟨p, 19 + I, none⟩ (.int .u64 0)).drew = w6 at H6 G6 ⊢
      obtain ⟨ff, fr2⟩ := fresh_b F.out HRole.out (by omega) true I
      have hadd := fun W (hb : Below w6.heap.size w6 W) => add_any (H6.out.below hb) ff fr2 hN 2 X (by decide) (by decide) hXb
      have hP2 := HP2.out
      rw [← hP2] at hadd
      have HAdd := Lib.hid hadd
      clear hadd hP2 ff fr2
      go_wp2_with fail
      with_reducible refine (HCfg.out _).mono ?_
      rintro e w7 ⟨rfl, hb7⟩
      have HB7 := Lib.hid hb7
      clear hb7
      go_wp2_with fail
      with_reducible refine (HAdd.out _ HB7.out).mono ?_
      rintro e w8 ⟨rfl, hl⟩
      have HL := Lib.hid hl
      clear hl
      go_wp2
      go_ret2
      exact ⟨rfl, LeftP.then G6.out (LeftP.afterBelow HB7.out HL.out)⟩
  · have hP := HP.out
    rw [if_neg hK] at hP
    have e1 : J = 0 ∧ E = (K : Int) ∧ M = m := by cases hP; exact ⟨rfl, rfl, rfl⟩
    have HE := Lib.hid e1
    have hne : ((K : Int) != 0) = true := by simp; omega
    clear hP e1 hK
    go_wp2
    go_ret2
    obtain ⟨j1, j2, j3⟩ := HE.out
    rw [j1, j2, j3]
    exact ⟨rfl, LeftP.of_below H.out HB2.out⟩
theorem change_any (h : PAt B w p z m) (f : NdB N m) (hN : N ≤ 800000000) (ad : Bool) (i : Int) (hi0 : -9223372036854775808 ≤ i) (hi1 : i ≤ 9223372036854775807) :
    Calls Tryz.prog 23 #[.pointer (some ⟨p, 0, none⟩), .bool ad, .int .i64 i] w (Tells B w p z (changes m ad i)) := by
  by_cases hr : m.role = 2
  · cases he : earlyN m with
    | true => exact change_early h f hN hr he ad i
    | false => exact change_go h f hN hr he ad i hi0 hi1
  · exact change_no h hr ad i
/-- Two results, one in a block that is known whole, one more. -/
theorem results_status {P : Program} {fn : Func} {a b c d : Tmp} {ty : TypeId} (h : fn.results = #[.tmp a, .tmp b, .cell c ty, .tmp d]) (tmps : Array Value) (w : World) (g : Nat) (t : TypeId) (cs : Array Value) (fr : Nat × Nat) (ds : TypeDesc)
    (hp : tmps.getD c undef = .pointer (some ⟨g, 0, none⟩)) (hg : w.heap[g]? = some (.cells cs t fr))
    (hu : P.underlying ty = some ds) (hd : (match ds with | .struct _ | .array _ _ => true | _ => false) = true) (hi : (P.info? ty).map (·.size) = some cs.size) :
    (results fn tmps).run P w = .ok (.tuple #[tmps.getD a undef, tmps.getD b undef, .agg cs, tmps.getD d undef]) w := by
  have hp' : tmps[c]?.getD undef = .pointer (some ⟨g, 0, none⟩) := by simpa using hp
  simp [results, h, hp', asAddr, Result.andThen, run_loadVar_row w g t ty cs fr ds hg hu hd hi]
/-- Role, leader, hard state, commit. -/
def StatusV (m : Nd) : Value := .tuple #[.int .i64 (m.role : Int), .int .i64 m.leader, .agg #[.int .u64 (m.term : Int), .int .i64 m.vote], .int .u64 (m.commit : Int)]
set_option maxHeartbeats 1000000 in
theorem status_any (h : PAt B w p z m) : Calls Tryz.prog 15 #[.pointer (some ⟨p, 0, none⟩)] w fun e w' => e = .returned (StatusV m) ∧ Below w.heap.size w w' := by
  have c5 := h.c5
  have c6 := h.c6
  have c8 := h.c8
  have c9 := h.c9
  have c10 := h.c10
  have hplt := h.plt
  unfold StatusV
  clear h
  go_enter Tryz.func15, Tryz.ntmps15
  go_wp2_with fail
  go_region
  go_wp2
  refine bodyPost_ret (results_status rfl _ _ w.heap.size 24 #[.int .u64 (m.term : Int), .int .i64 m.vote] (0, 0) _ rfl (heap_alloc_new w _) Tryz.underlying24 rfl (by kernel_rfl)) rfl ?_
  exact ⟨rfl, ((Below.refl _ w).alloc (Nat.le_refl _) _).drew⟩
theorem status_nil (w : World) : Calls Tryz.prog 15 #[.pointer none] w fun e w' => e = .returned (.tuple #[.int .i64 0, .int .i64 (-1), .agg #[.int .u64 0, .int .i64 (-1)], .int .u64 0]) ∧ Below w.heap.size w w' := by
  go_enter Tryz.func15, Tryz.ntmps15
  go_wp2
  refine bodyPost_ret (results_status rfl _ _ w.heap.size 24 #[.int .u64 0, .int .i64 (-1)] (0, 0) _ rfl (heap_alloc_new w _) Tryz.underlying24 rfl (by kernel_rfl)) rfl ?_
  exact ⟨rfl, (Below.refl _ w).alloc (Nat.le_refl _) _⟩
/-- A node of which all was taken. -/
def bare (z : Seat) : Seat := { z with vk := .slice none 0 0, vo := .slice none 0 0, Z := [] }
theorem PAt.bared (h : PAt B w p z m) : PAt B ((((w.setCell ⟨p, 0, none⟩ (.slice none 0 0)).setCell ⟨p, 1, none⟩ (.slice none 0 0)).setCell ⟨p, 2, none⟩ (.bool false)).setCell ⟨p, 3, none⟩ (.bool false)) p (bare z) (taken m) ∧
    Only (fun q => q = p) w ((((w.setCell ⟨p, 0, none⟩ (.slice none 0 0)).setCell ⟨p, 1, none⟩ (.slice none 0 0)).setCell ⟨p, 2, none⟩ (.bool false)).setCell ⟨p, 3, none⟩ (.bool false)) := by
  have ho : Only (fun q => q = p) w ((((w.setCell ⟨p, 0, none⟩ (.slice none 0 0)).setCell ⟨p, 1, none⟩ (.slice none 0 0)).setCell ⟨p, 2, none⟩ (.bool false)).setCell ⟨p, 3, none⟩ (.bool false)) :=
    ((((Only.refl (fun q => q = p) w).setCell (a := ⟨p, 0, none⟩) (.inr rfl) _).setCell (a := ⟨p, 1, none⟩) (.inr rfl) _).setCell (a := ⟨p, 2, none⟩) (.inr rfl) _).setCell (a := ⟨p, 3, none⟩) (.inr rfl) _
  refine ⟨⟨h.low, ?_, h.log.keep ho fun b hb e => h.d1 (e ▸ hb), World.ownsRow_nil _ _ _ _, World.ownsRow_nil _ _ _ _, rfl, by simp [bare], h.d1, by simp [bare, Value.ownBlock], by simp [bare, Value.ownBlock], fun k _ => by simp [bare, Value.ownBlock], fun k _ => by simp [bare, Value.ownBlock], fun k hk => by simp [bare, Value.ownBlock] at hk⟩, ho⟩
  rw [set_at (set_at (set_at (set_at h.cell _) _) _) _]
  rfl
theorem bare_mine {k : Nat} (h : Mine p (bare z) k) : Mine p z k := by
  rcases h with h | h | h | h
  · exact .inl h
  · exact .inr (.inl h)
  · simp [bare, Value.ownBlock] at h
  · simp [bare, Value.ownBlock] at h
theorem ready_set {W : World} {r : Nat} {a0 a1 a2 a3 a4 a5 a6 : Value} (h : W.heap[r]? = some (.cells #[a0, a1, a2, a3, a4, a5, a6] 70 (0, 0))) (t v : Int) (Ak : Option Addr) (nk ck : Nat) (i : Bool) (Ao : Option Addr) (no co : Nat) (s : Bool) (c : Int) :
    (((((((W.setCell ⟨r, 0, none⟩ (.int .u64 t)).setCell ⟨r, 1, none⟩ (.int .i64 v)).setCell ⟨r, 2, none⟩ (.slice Ak nk ck)).setCell ⟨r, 3, none⟩ (.bool i)).setCell ⟨r, 4, none⟩ (.slice Ao no co)).setCell ⟨r, 5, none⟩ (.bool s)).setCell ⟨r, 6, none⟩ (.int .u64 c)).heap[r]? =
      some (.cells #[.int .u64 t, .int .i64 v, .slice Ak nk ck, .bool i, .slice Ao no co, .bool s, .int .u64 c] 70 (0, 0)) ∧
    Only (fun q => q = r) W (((((((W.setCell ⟨r, 0, none⟩ (.int .u64 t)).setCell ⟨r, 1, none⟩ (.int .i64 v)).setCell ⟨r, 2, none⟩ (.slice Ak nk ck)).setCell ⟨r, 3, none⟩ (.bool i)).setCell ⟨r, 4, none⟩ (.slice Ao no co)).setCell ⟨r, 5, none⟩ (.bool s)).setCell ⟨r, 6, none⟩ (.int .u64 c)) := by
  refine ⟨?_, (((((((Only.refl (fun q => q = r) W).setCell (a := ⟨r, 0, none⟩) (.inr rfl) _).setCell (a := ⟨r, 1, none⟩) (.inr rfl) _).setCell (a := ⟨r, 2, none⟩) (.inr rfl) _).setCell (a := ⟨r, 3, none⟩) (.inr rfl) _).setCell (a := ⟨r, 4, none⟩) (.inr rfl) _).setCell (a := ⟨r, 5, none⟩) (.inr rfl) _).setCell (a := ⟨r, 6, none⟩) (.inr rfl) _⟩
  rw [set_at (set_at (set_at (set_at (set_at (set_at (set_at h _) _) _) _) _) _) _]
  rfl
set_option maxHeartbeats 1000000 in
theorem taken_any (h : PAt B w p z m) : Calls Tryz.prog 61 #[.pointer (some ⟨p, 0, none⟩)] w fun e w' =>
    e = .returned (.agg #[.int .u64 0, .int .i64 0, z.vk, .bool m.inst, z.vo, .bool m.reset, .int .u64 0]) ∧ PAt B w' p (bare z) (taken m) ∧ Only (fun q => q = p) w w' := by
  have c0 := h.c0
  have c1 := h.c1
  have c2 := h.c2
  have c3 := h.c3
  have f0 := NodeAt.free h 0
  have f1 := NodeAt.free h 1
  have f2 := NodeAt.free h 2
  have f3 := NodeAt.free h 3
  have hplt := h.plt
  obtain ⟨Ak, ck, hvk, _, _, _⟩ := own_form h.kept
  obtain ⟨Ao, co, hvo, _, _, _⟩ := own_form h.outs
  obtain ⟨nk, hnk⟩ : ∃ nk, m.kept.length = nk := ⟨_, rfl⟩
  obtain ⟨no, hno⟩ : ∃ no, z.Z.length = no := ⟨_, rfl⟩
  rw [hnk] at hvk
  rw [hno] at hvo
  rw [hvk] at c0
  rw [hvo] at c1
  have H := Lib.hid h
  have HVK := Lib.hid hvk
  have HVO := Lib.hid hvo
  clear h hnk hno hvk hvo
  go_enter Tryz.func61, Tryz.ntmps61
  go_wp2_with fail
  go_region
  have hbA : Below w.heap.size w (((w.alloc (.cells #[.int .u64 0, .int .i64 0, .slice none 0 0, .bool false, .slice none 0 0, .bool false, .int .u64 0] 70)).alloc (.cells #[.int .u64 0, .int .i64 0, .slice Ak nk ck, .bool m.inst, .slice Ao no co, .bool m.reset, .int .u64 0] 70)).drew) := (((Below.refl _ w).alloc (Nat.le_refl _) _).alloc (by simp) _).drew
  have hR1 : (((w.alloc (.cells #[.int .u64 0, .int .i64 0, .slice none 0 0, .bool false, .slice none 0 0, .bool false, .int .u64 0] 70)).alloc (.cells #[.int .u64 0, .int .i64 0, .slice Ak nk ck, .bool m.inst, .slice Ao no co, .bool m.reset, .int .u64 0] 70)).drew).heap[w.heap.size]? = some (.cells #[.int .u64 0, .int .i64 0, .slice none 0 0, .bool false, .slice none 0 0, .bool false, .int .u64 0] 70 (0, 0)) := by
    show ((w.alloc (.cells #[.int .u64 0, .int .i64 0, .slice none 0 0, .bool false, .slice none 0 0, .bool false, .int .u64 0] 70)).alloc (.cells #[.int .u64 0, .int .i64 0, .slice Ak nk ck, .bool m.inst, .slice Ao no co, .bool m.reset, .int .u64 0] 70)).heap[w.heap.size]? = _
    rw [Below.heap_alloc _ _ _ (by simp)]
    exact heap_alloc_new w _
  have hR2 : (((w.alloc (.cells #[.int .u64 0, .int .i64 0, .slice none 0 0, .bool false, .slice none 0 0, .bool false, .int .u64 0] 70)).alloc (.cells #[.int .u64 0, .int .i64 0, .slice Ak nk ck, .bool m.inst, .slice Ao no co, .bool m.reset, .int .u64 0] 70)).drew).heap[w.heap.size + 1]? = some (.cells #[.int .u64 0, .int .i64 0, .slice Ak nk ck, .bool m.inst, .slice Ao no co, .bool m.reset, .int .u64 0] 70 (0, 0)) := by
    have := heap_alloc_new (w.alloc (.cells #[.int .u64 0, .int .i64 0, .slice none 0 0, .bool false, .slice none 0 0, .bool false, .int .u64 0] 70)) (.cells #[.int .u64 0, .int .i64 0, .slice Ak nk ck, .bool m.inst, .slice Ao no co, .bool m.reset, .int .u64 0] 70)
    rw [show (w.alloc (.cells #[.int .u64 0, .int .i64 0, .slice none 0 0, .bool false, .slice none 0 0, .bool false, .int .u64 0] 70)).heap.size = w.heap.size + 1 by simp] at this
    exact this
  generalize ((w.alloc (.cells #[.int .u64 0, .int .i64 0, .slice none 0 0, .bool false, .slice none 0 0, .bool false, .int .u64 0] 70)).alloc (.cells #[.int .u64 0, .int .i64 0, .slice Ak nk ck, .bool m.inst, .slice Ao no co, .bool m.reset, .int .u64 0] 70)).drew = wA at hbA hR1 hR2 ⊢
  have hA := H.out.below hbA
  have q0 := hA.c0
  have q1 := hA.c1
  have q2 := hA.c2
  have q3 := hA.c3
  rw [HVK.out] at q0
  rw [HVO.out] at q1
  have k0 := NodeAt.free hA 0
  have k1 := NodeAt.free hA 1
  have k2 := NodeAt.free hA 2
  have k3 := NodeAt.free hA 3
  obtain ⟨R1, hr1⟩ : ∃ R, w.heap.size = R := ⟨_, rfl⟩
  obtain ⟨R2, hr2⟩ : ∃ R, w.heap.size + 1 = R := ⟨_, rfl⟩
  have hne1 : ¬ p = R1 := by omega
  have hne2 : ¬ p = R2 := by omega
  have hne3 : ¬ R1 = R2 := by omega
  have hpA : p < wA.heap.size := hA.plt
  rw [hr2] at hR2 ⊢
  rw [hr1] at hR1 ⊢
  have hl1 : R1 < wA.heap.size := lt_at hR1
  have hl2 : R2 < wA.heap.size := lt_at hR2
  obtain ⟨hB, hoB⟩ := PAt.bared hA
  have hB1 := hoB.heap hR1 (fun e => hne1 e.symm)
  have hB2 := hoB.heap hR2 (fun e => hne2 e.symm)
  generalize hwB : ((((wA.setCell ⟨p, 0, none⟩ (.slice none 0 0)).setCell ⟨p, 1, none⟩ (.slice none 0 0)).setCell ⟨p, 2, none⟩ (.bool false)).setCell ⟨p, 3, none⟩ (.bool false)) = wB at hB hoB hB1 hB2
  have x0 : wB.cell? ⟨R2, 0, none⟩ = some (.int .u64 0) := cell_at hB2 0
  have x1 : wB.cell? ⟨R2, 1, none⟩ = some (.int .i64 0) := cell_at hB2 1
  have x2 : wB.cell? ⟨R2, 2, none⟩ = some (.slice Ak nk ck) := cell_at hB2 2
  have x3 : wB.cell? ⟨R2, 3, none⟩ = some (.bool m.inst) := cell_at hB2 3
  have x4 : wB.cell? ⟨R2, 4, none⟩ = some (.slice Ao no co) := cell_at hB2 4
  have x5 : wB.cell? ⟨R2, 5, none⟩ = some (.bool m.reset) := cell_at hB2 5
  have x6 : wB.cell? ⟨R2, 6, none⟩ = some (.int .u64 0) := cell_at hB2 6
  have y0 : wB.cell? ⟨R1, 0, none⟩ = some (.int .u64 0) := cell_at hB1 0
  have y1 : wB.cell? ⟨R1, 1, none⟩ = some (.int .i64 0) := cell_at hB1 1
  have y2 : wB.cell? ⟨R1, 2, none⟩ = some (.slice none 0 0) := cell_at hB1 2
  have y3 : wB.cell? ⟨R1, 3, none⟩ = some (.bool false) := cell_at hB1 3
  have y4 : wB.cell? ⟨R1, 4, none⟩ = some (.slice none 0 0) := cell_at hB1 4
  have y5 : wB.cell? ⟨R1, 5, none⟩ = some (.bool false) := cell_at hB1 5
  have y6 : wB.cell? ⟨R1, 6, none⟩ = some (.int .u64 0) := cell_at hB1 6
  have v0 := free_at hB1 0
  have v1 := free_at hB1 1
  have v2 := free_at hB1 2
  have v3 := free_at hB1 3
  have v4 := free_at hB1 4
  have v5 := free_at hB1 5
  have v6 := free_at hB1 6
  have hl1B := lt_at hB1
  have hl2B := lt_at hB2
  have HB := Lib.hid hB
  have HoB := Lib.hid hoB
  have HB1 := Lib.hid hB1
  have HbA := Lib.hid hbA
  have HR1 := Lib.hid hr1
  clear hA hB hoB hbA hR1 hR2 hB1 hB2 hr1 hr2
  go_wp2_with fail
  obtain ⟨s1, s2⟩ := ready_set HB1.out 0 0 Ak nk ck m.inst Ao no co m.reset 0
  generalize (((((((wB.setCell ⟨R1, 0, none⟩ (.int .u64 0)).setCell ⟨R1, 1, none⟩ (.int .i64 0)).setCell ⟨R1, 2, none⟩ (.slice Ak nk ck)).setCell ⟨R1, 3, none⟩ (.bool m.inst)).setCell ⟨R1, 4, none⟩ (.slice Ao no co)).setCell ⟨R1, 5, none⟩ (.bool m.reset)).setCell ⟨R1, 6, none⟩ (.int .u64 0)) = wC at s1 s2 ⊢
  refine bodyPost_ret (results_cell_row (p := 2) (ty := 70) rfl _ _ R1 70 _ (0, 0) _ rfl s1 Tryz.underlying70 rfl (by kernel_rfl)) rfl ?_
  refine ⟨by rw [HVK.out, HVO.out], NodeAt.keep HB.out s2 (fun b hb e => ?_) (by simp [bare]), ?_⟩
  · subst e
    have := (NodeAt.mine_lt H.out (bare_mine hb)).2
    have := HR1.out
    omega
  · exact ((Only.of_below HbA.out).trans HoB.out).trans' s2 fun q hq => .inr (by rw [hq, HR1.out]; exact Nat.le_refl _)
/-- What Take answers. -/
def ReadyV (z : Seat) (m : Nd) : Value := .agg #[.int .u64 (m.term : Int), .int .i64 m.vote, z.vk, .bool m.inst, z.vo, .bool m.reset, .int .u64 (m.commit : Int)]
set_option maxHeartbeats 2000000 in
theorem take_any (h : PAt B w p z m) : Calls Tryz.prog 24 #[.pointer (some ⟨p, 0, none⟩)] w fun e w' =>
    e = .returned (ReadyV z m) ∧ PAt B w' p (bare z) (taken m) ∧ Only (fun q => q = p) w w' := by
  obtain ⟨Ak, ck, hvk, _, _, _⟩ := own_form h.kept
  obtain ⟨Ao, co, hvo, _, _, _⟩ := own_form h.outs
  obtain ⟨nk, hnk⟩ : ∃ nk, m.kept.length = nk := ⟨_, rfl⟩
  obtain ⟨no, hno⟩ : ∃ no, z.Z.length = no := ⟨_, rfl⟩
  rw [hnk] at hvk
  rw [hno] at hvo
  have hb0 : Below w.heap.size w (w.alloc (.cells #[.int .u64 0, .int .i64 0, .slice none 0 0, .bool false, .slice none 0 0, .bool false, .int .u64 0] 70)) := (Below.refl _ w).alloc (Nat.le_refl _) _
  have hr1 := heap_alloc_new w (.cells #[.int .u64 0, .int .i64 0, .slice none 0 0, .bool false, .slice none 0 0, .bool false, .int .u64 0] 70)
  have hplt := h.plt
  have ht := taken_any (h.below hb0)
  rw [hvk, hvo] at ht
  have H := Lib.hid h
  have HT := Lib.hid ht
  have HVK := Lib.hid hvk
  have HVO := Lib.hid hvo
  obtain ⟨R1, hR1⟩ : ∃ R, w.heap.size = R := ⟨_, rfl⟩
  have HB0 := Lib.hid hb0
  have HR := Lib.hid hr1
  have HR1 := Lib.hid hR1
  clear h ht hvk hvo hb0 hr1 hnk hno
  go_enter Tryz.func24, Tryz.ntmps24
  go_wp2_with fail
  with_reducible refine HT.out.mono ?_
  rintro e w1 ⟨rfl, h1, ho1⟩
  have hx1 : w1.heap[R1]? = some (.cells #[.int .u64 0, .int .i64 0, .slice none 0 0, .bool false, .slice none 0 0, .bool false, .int .u64 0] 70 (0, 0)) := by
    rw [← hR1]
    exact ho1.heap HR.out (fun e => by omega)
  have hbo : Only (fun q => q = p) w w1 := (Only.of_below HB0.out).trans ho1
  have c5 := PAt.c5 (NodeAt.drew h1)
  have c6 := PAt.c6 (NodeAt.drew h1)
  have c10 := PAt.c10 (NodeAt.drew h1)
  have hplt1 := NodeAt.plt h1
  go_wp2_with fail
  have hb2 : Below w1.heap.size w1 (w1.alloc (.cells #[.int .u64 0, .int .i64 0, .slice Ak nk ck, .bool m.inst, .slice Ao no co, .bool m.reset, .int .u64 0] 70)) := (Below.refl _ w1).alloc (Nat.le_refl _) _
  have hr3 := heap_alloc_new w1 (.cells #[.int .u64 0, .int .i64 0, .slice Ak nk ck, .bool m.inst, .slice Ao no co, .bool m.reset, .int .u64 0] 70)
  have h2 : PAt B _ p (bare z) (taken m) := NodeAt.below h1 hb2
  have hx2 := (hb2.block R1 (lt_at hx1)).trans hx1
  have ho2 := hbo.thenBelow hb2
  have hR1lt := lt_at hx1
  obtain ⟨R3, hR3⟩ : ∃ R, w1.heap.size = R := ⟨_, rfl⟩
  rw [hR3] at hr3 ⊢
  generalize (w1.alloc (.cells #[.int .u64 0, .int .i64 0, .slice Ak nk ck, .bool m.inst, .slice Ao no co, .bool m.reset, .int .u64 0] 70)) = w2 at hb2 hr3 h2 hx2 ho2 ⊢
  have hne1 : ¬ p = R3 := by omega
  have hne2 : ¬ R1 = R3 := by omega
  have hne3 : ¬ R3 = R1 := by omega
  have d5 := PAt.c5 h2
  have d6 := PAt.c6 h2
  have d10 := PAt.c10 h2
  have e5 : (taken m).term = m.term := rfl
  have e6 : (taken m).vote = m.vote := rfl
  have e10 : (taken m).commit = m.commit := rfl
  rw [e5] at d5
  rw [e6] at d6
  rw [e10] at d10
  have x0 : w2.cell? ⟨R3, 0, none⟩ = some (.int .u64 0) := cell_at hr3 0
  have f0 := free_at hr3 0
  have x1 : w2.cell? ⟨R3, 1, none⟩ = some (.int .i64 0) := cell_at hr3 1
  have f1 := free_at hr3 1
  have x2 : w2.cell? ⟨R3, 2, none⟩ = some (.slice Ak nk ck) := cell_at hr3 2
  have f2 := free_at hr3 2
  have x3 : w2.cell? ⟨R3, 3, none⟩ = some (.bool m.inst) := cell_at hr3 3
  have f3 := free_at hr3 3
  have x4 : w2.cell? ⟨R3, 4, none⟩ = some (.slice Ao no co) := cell_at hr3 4
  have f4 := free_at hr3 4
  have x5 : w2.cell? ⟨R3, 5, none⟩ = some (.bool m.reset) := cell_at hr3 5
  have f5 := free_at hr3 5
  have x6 : w2.cell? ⟨R3, 6, none⟩ = some (.int .u64 0) := cell_at hr3 6
  have f6 := free_at hr3 6
  have hp2 := NodeAt.plt h2
  have hl3 := lt_at hr3
  have hset : Only (fun q => q = R3) w2 (((w2.setCell ⟨R3, 0, none⟩ (.int .u64 (m.term : Int))).setCell ⟨R3, 1, none⟩ (.int .i64 m.vote)).setCell ⟨R3, 6, none⟩ (.int .u64 (m.commit : Int))) :=
    (((Only.refl (fun q => q = R3) w2).setCell (a := ⟨R3, 0, none⟩) (.inr rfl) _).setCell (a := ⟨R3, 1, none⟩) (.inr rfl) _).setCell (a := ⟨R3, 6, none⟩) (.inr rfl) _
  have hr4 : (((w2.setCell ⟨R3, 0, none⟩ (.int .u64 (m.term : Int))).setCell ⟨R3, 1, none⟩ (.int .i64 m.vote)).setCell ⟨R3, 6, none⟩ (.int .u64 (m.commit : Int))).heap[R3]? = some (.cells #[.int .u64 (m.term : Int), .int .i64 m.vote, .slice Ak nk ck, .bool m.inst, .slice Ao no co, .bool m.reset, .int .u64 (m.commit : Int)] 70 (0, 0)) := by
    rw [set_at (set_at (set_at hr3 _) _) _]
    rfl
  have hx4 := hset.heap hx2 hne2
  have h4 : PAt B _ p (bare z) (taken m) := NodeAt.keep h2 hset (fun b hb e => by
    subst e
    have := (NodeAt.mine_lt H.out (bare_mine hb)).2
    have := HR1.out
    have := ho1.size
    have := HB0.out.size
    omega) (by simp [bare])
  have ho4 : Only (fun q => q = p) w _ := ho2.trans' hset fun q hq => .inr (by have := hbo.size; omega)
  have HD : ∀ W : World, Below W.heap.size W W.drew := fun W => (Below.refl _ W).drew
  have hx5 := ((HD _).block R1 (lt_at hx4)).trans hx4
  have hr5 := ((HD _).block R3 (lt_at hr4)).trans hr4
  have h5 := PAt.below h4 (HD _)
  have ho5 := ho4.thenBelow (HD _)
  clear hset hx4 hr4 h4 ho4 hx2 hr3 h2 ho2 hb2 hx1 h1 ho1 hbo c5 c6 c10
  go_region
  generalize (((w2.setCell ⟨R3, 0, none⟩ (.int .u64 (m.term : Int))).setCell ⟨R3, 1, none⟩ (.int .i64 m.vote)).setCell ⟨R3, 6, none⟩ (.int .u64 (m.commit : Int))).drew = w5 at hx5 hr5 h5 ho5 ⊢
  have y0 : w5.cell? ⟨R3, 0, none⟩ = some (.int .u64 (m.term : Int)) := cell_at hr5 0
  have u0 : w5.cell? ⟨R1, 0, none⟩ = some (.int .u64 0) := cell_at hx5 0
  have v0 := free_at hx5 0
  have y1 : w5.cell? ⟨R3, 1, none⟩ = some (.int .i64 m.vote) := cell_at hr5 1
  have u1 : w5.cell? ⟨R1, 1, none⟩ = some (.int .i64 0) := cell_at hx5 1
  have v1 := free_at hx5 1
  have y2 : w5.cell? ⟨R3, 2, none⟩ = some (.slice Ak nk ck) := cell_at hr5 2
  have u2 : w5.cell? ⟨R1, 2, none⟩ = some (.slice none 0 0) := cell_at hx5 2
  have v2 := free_at hx5 2
  have y3 : w5.cell? ⟨R3, 3, none⟩ = some (.bool m.inst) := cell_at hr5 3
  have u3 : w5.cell? ⟨R1, 3, none⟩ = some (.bool false) := cell_at hx5 3
  have v3 := free_at hx5 3
  have y4 : w5.cell? ⟨R3, 4, none⟩ = some (.slice Ao no co) := cell_at hr5 4
  have u4 : w5.cell? ⟨R1, 4, none⟩ = some (.slice none 0 0) := cell_at hx5 4
  have v4 := free_at hx5 4
  have y5 : w5.cell? ⟨R3, 5, none⟩ = some (.bool m.reset) := cell_at hr5 5
  have u5 : w5.cell? ⟨R1, 5, none⟩ = some (.bool false) := cell_at hx5 5
  have v5 := free_at hx5 5
  have y6 : w5.cell? ⟨R3, 6, none⟩ = some (.int .u64 (m.commit : Int)) := cell_at hr5 6
  have u6 : w5.cell? ⟨R1, 6, none⟩ = some (.int .u64 0) := cell_at hx5 6
  have v6 := free_at hx5 6
  have hl5 := lt_at hr5
  have hl6 := lt_at hx5
  have H5 := Lib.hid h5
  have HO5 := Lib.hid ho5
  have HX5 := Lib.hid hx5
  clear h5 ho5 hx5 hr5
  go_wp2_with fail
  obtain ⟨s1, s2⟩ := ready_set HX5.out (m.term : Int) m.vote Ak nk ck m.inst Ao no co m.reset (m.commit : Int)
  generalize (((((((w5.setCell ⟨R1, 0, none⟩ (.int .u64 (m.term : Int))).setCell ⟨R1, 1, none⟩ (.int .i64 m.vote)).setCell ⟨R1, 2, none⟩ (.slice Ak nk ck)).setCell ⟨R1, 3, none⟩ (.bool m.inst)).setCell ⟨R1, 4, none⟩ (.slice Ao no co)).setCell ⟨R1, 5, none⟩ (.bool m.reset)).setCell ⟨R1, 6, none⟩ (.int .u64 (m.commit : Int))) = wC at s1 s2 ⊢
  refine bodyPost_ret (results_cell_row (p := 2) (ty := 70) rfl _ _ R1 70 _ (0, 0) _ rfl s1 Tryz.underlying70 rfl (by kernel_rfl)) rfl ?_
  refine ⟨by unfold ReadyV; rw [HVK.out, HVO.out], NodeAt.keep H5.out s2 (fun b hb e => ?_) (by simp [bare]), ?_⟩
  · subst e
    have := (NodeAt.mine_lt H.out (bare_mine hb)).2
    have := HR1.out
    omega
  · exact HO5.out.trans' s2 fun q hq => .inr (by rw [hq, HR1.out]; exact Nat.le_refl _)
theorem take_nil (w : World) : Calls Tryz.prog 24 #[.pointer none] w fun e w' => e = .returned (.agg #[.int .u64 0, .int .i64 0, .slice none 0 0, .bool false, .slice none 0 0, .bool false, .int .u64 0]) ∧ Below w.heap.size w w' := by
  go_enter Tryz.func24, Tryz.ntmps24
  go_wp2_with fail
  refine bodyPost_ret (results_cell_row (p := 2) (ty := 70) rfl _ _ w.heap.size 70 _ (0, 0) _ rfl (heap_alloc_new w _) Tryz.underlying70 rfl (by kernel_rfl)) rfl ?_
  exact ⟨rfl, (Below.refl _ w).alloc (Nat.le_refl _) _⟩
end
end Go.Proofs.YtokifeghoodkgaaGreat.WalkI
