/- What the document's Merge leaves, walked. -/
import Derived.Test.YtndehdnffajigaaRefH
set_option linter.unusedVariables false
namespace Go.Proofs.Ytndehdnffajigaa.RefI
open Go.RowKit Go.Proofs.Ytndehdnffajigaa.Kit Go.Proofs.Ytndehdnffajigaa.Blocks Go.Proofs.Ytndehdnffajigaa.Rlog Go.Proofs.Ytndehdnffajigaa.Ents Go.Proofs.Ytndehdnffajigaa.LogAt Go.Proofs.Ytndehdnffajigaa.App Go.Proofs.Ytndehdnffajigaa.WalkA Go.Proofs.Ytndehdnffajigaa.WalkB Go.Proofs.Ytndehdnffajigaa.WalkC Go.Proofs.Ytndehdnffajigaa.WalkD Go.Proofs.Ytndehdnffajigaa.WalkF Go.Proofs.Ytndehdnffajigaa.WalkG Go.Proofs.Ytndehdnffajigaa.WalkH Go.Proofs.Ytndehdnffajigaa.WalkI Go.Proofs.Ytndehdnffajigaa.RefB Go.Proofs.Ytndehdnffajigaa.RefC Go.Proofs.Ytndehdnffajigaa.RefD Go.Proofs.Ytndehdnffajigaa.RefG Go.Proofs.Ytndehdnffajigaa.RefH

/-- What a term that was looked up says of an entry's. -/
theorem term_case (r : Option Nat) (T : Nat) : ∃ E V : Nat, (∀ w e w', TermIs w r e w' → e = .returned (.tuple #[.int .u64 (V : Int), .int .i64 (E : Int)]) ∧ w = w') ∧
    ((r = some T ∧ E = 0 ∧ V = T) ∨ (decide (r = some T) = false ∧ ((E : Int) == 0) = false ∧ ((E : Int) != 0) = true) ∨ (decide (r = some T) = false ∧ E = 0 ∧ ((V : Int) == (T : Int)) = false ∧ ((V : Int) != (T : Int)) = true)) := by
  cases r with
  | none => exact ⟨20, 0, fun _ _ _ h => h, .inr (.inl ⟨by simp, by decide, by decide⟩)⟩
  | some t =>
    refine ⟨0, t, fun _ _ _ h => h, ?_⟩
    by_cases ht : t = T
    · subst ht; exact .inl ⟨rfl, rfl, rfl⟩
    · refine .inr (.inr ⟨by simpa using ht, rfl, ?_, ?_⟩) <;> simp <;> omega

section
variable {B p : Nat} {v : Value} {g : G} {w : World} (h : LR B w p v g) (f : Fine g)
include h f
set_option maxRecDepth 100000 in
set_option maxHeartbeats 4000000 in
/-- Whatever comes to be merged. -/
theorem rmerge_any (A : Option Addr) (n c i t : Nat) (l : List Ent) (hr : RE w w.heap.size A n l) (hoff : Off (Foot p v) A n) (hb : ∀ e ∈ l, EntB e) (hnc : n ≤ c) (h63 : c ≤ 9223372036854775807) (hi : i < 18446744073709551616) (hroom : chained l i t = true → (g.es.length + n) * 40 ≤ 140737488355328) :
    Calls Try.prog 34 #[.pointer (some ⟨p, 0, none⟩), .int .u64 (i : Int), .int .u64 (t : Int), .slice A n c] w (Merged 73 B w p v (merge g i t l)) := by
  obtain ⟨R, hRm⟩ : ∃ R, merge g i t l = R := ⟨_, rfl⟩
  rw [hRm]
  have HRm := Lib.hid hRm
  clear hRm
  have hn := RE.len hr
  have HN := Lib.hid hn
  have HB := Lib.hid hb
  have H := Lib.hid h
  have HF := Lib.hid f
  have HRo := Lib.hid hroom
  obtain ⟨S, hS⟩ : ∃ S, g.snap.idx = S := ⟨_, rfl⟩
  have HS := Lib.hid hS
  have h0 : Pos (Foot p v) w l n 0 (.slice A n c) w := ⟨by omega, ⟨A, n, c, rfl, by omega, hr, hnc, h63, hoff⟩, Below.refl _ _⟩
  have HP0 := Lib.hid h0
  have HOff := Lib.hid hoff
  clear hn hb h f hS h0 hoff hroom
  go_enter Try.func34, Try.ntmps34
  go_upto_block 0 with fail
  go_cut [10, 11, 12] from 20 to 44 (fun a b x wx => chained l i t = true ∧ Below w.heap.size w wx)
  case first =>
    go_wp2_with fail
    go_loopw [10, 11, 12] (fun a b x wr => ∃ k I T : Nat, k ≤ n ∧ a = .int .u64 (I : Int) ∧ b = .int .u64 (T : Int) ∧ x = .int .i64 (k : Int) ∧ I < 18446744073709551616 ∧ Hid (lasts (l.take k) i t = (I, T)) ∧ Hid (chained (l.take k) i t = true) ∧ Below w.heap.size w wr) (fun _ _ x _ => n - (intOf x).toNat)
    case atStart => exact ⟨0, i, t, by omega, rfl, rfl, rfl, hi, Lib.hid rfl, Lib.hid rfl, Below.refl _ _⟩
    case round =>
      obtain ⟨k, I, T, hk, rfl, rfl, rfl, hIb, HL, HC, hbel⟩ := hrel
      have hsz := hbel.size
      by_cases hkn : k < n
      · obtain ⟨b, o, e, rfl, hbl, hek, hfour⟩ := RE.at_ hr hkn
        have hfr := Four.below hfour hbel hbl
        have c0 := hfr.c0
        have c1 := hfr.c1
        have c2 := hfr.c2
        have c3 := hfr.c3
        have hep := HB.out e (List.mem_of_getElem? hek)
        have hidb := hep.idx
        obtain ⟨f1, f2⟩ := chained_next hek HC.out HL.out
        obtain ⟨q, hq⟩ : ∃ q, (I + 1) % 18446744073709551616 = q := ⟨_, rfl⟩
        have hwq : IntKind.u64.wrap ((I : Int) + 1) = (q : Int) := by rw [← hq]; exact wrap_succ hIb
        have hmay := fun w => rmay_any (i := I) (t := T) hep w hIb hq.symm
        obtain ⟨tm', ix', kd, d'⟩ := e
        unfold entV at hmay
        simp only at c0 c1 c2 c3 hmay f2 hidb
        obtain ⟨r, hr1⟩ : ∃ r, may ⟨tm', ix', kd, d'⟩ I T = r := ⟨_, rfl⟩
        rw [hr1] at hmay f1
        have HMay := Lib.hid hmay
        have H1 := Lib.hid f1
        have H2 := Lib.hid f2
        clear hmay f1 f2 hr1 hek hfr hfour hq hep
        cases r with
        | false =>
          go_wp2_with fail
          refine (HMay.out _).mono ?_
          rintro e' w1 ⟨rfl, hb1⟩
          obtain rfl : R = (([], false), g) := by rw [← HRm.out]; unfold merge; rw [if_pos (chained_not H1.out)]
          go_wp2
          go_ret2
          exact ⟨none, 0, rfl, RE.nil _ _ _, by simp, by omega, LeftL.of_below H.out (hbel.trans (hb1.mono hsz)), Off.zero _ _⟩
        | true =>
          go_wp2_with fail
          refine (HMay.out _).mono ?_
          rintro e' w1 ⟨rfl, hb1⟩
          have hB1 := hbel.trans (hb1.mono hsz)
          have d0 := (hb1.cell (p := ⟨b, o + k * 4, none⟩) (by show b < _; omega)).trans c0
          have d1 := (hb1.cell (p := ⟨b, o + k * 4 + 1, none⟩) (by show b < _; omega)).trans c1
          clear hb1 c0 c1 c2 c3
          go_wp2_with fail
          go_quiet (fail)
          all_goals go_wp2
          all_goals
            go_roundw
            case rel => exact ⟨k + 1, ix', tm', by omega, rfl, rfl, by go_num, hidb, H2, H1, below_drewN hB1 _⟩
            case measure => simp [intOf]; omega
      · obtain rfl : k = n := by omega
        have hch : chained l i t = true := by
          have := HC.out
          rwa [List.take_of_length_le (by rw [HN.out]; exact Nat.le_refl _)] at this
        have HCh := Lib.hid hch
        clear hch
        go_wp2
        go_meet
        case rel => exact ⟨HCh.out, hbel⟩
  case rest =>
    obtain ⟨hch, hb2⟩ := hcut
    have HC := Lib.hid hch
    have hroom := HRo.out hch
    clear hch
    go_upto_block 2 with fail
    go_cut [1, 2, 3] from 45 to 69 (fun a b s wx => Mid1 (Foot p v) g w l n i t a b s wx)
    case first =>
      go_wp2_with fail
      go_loopw [1, 2, 3] (fun a b s wr => ∃ k I T : Nat, a = .int .u64 (I : Int) ∧ b = .int .u64 (T : Int) ∧ Hid (lasts (l.take k) i t = (I, T)) ∧ Hid (∀ e ∈ l.take k, old g e = true) ∧ Pos (Foot p v) w l n k s wr) (fun _ _ s _ => lenOf s)
      case atStart => exact ⟨0, i, t, rfl, rfl, Lib.hid rfl, Lib.hid (by simp), ⟨by omega, ⟨A, n, c, rfl, by omega, Kit.Reads.below (HP0.out.slice.elim fun A' ⟨m, c', e1, e2, e3, _⟩ => by cases e1; exact e3) hb2, hnc, h63, HOff.out⟩, hb2⟩⟩
      case round =>
        obtain ⟨k, I, T, rfl, rfl, HL, HA, hpos⟩ := hrel
        obtain ⟨hkn, ⟨A', m, c', rfl, hm, hr', hc', h63', hof⟩, hbel⟩ := hpos
        have HOf := Lib.hid hof
        have hr0 := hr'
        have hpr := (H.out.below hbel).c0
        have hpl := (H.out.below hbel).lt
        rw [HS.out] at hpr
        have HR := Lib.hid hr'
        have HM := Lib.hid hm
        by_cases hk : k < n
        · obtain ⟨b, o, e, rfl, hbl, he, hfour⟩ := at0 hr' (by omega)
          have d0 := hfour.c0
          have d1 := hfour.c1
          have hsl : ∀ w, (Instr.slice 25 (.slice (some ⟨b, o, none⟩) m c') (some (.int .i64 1)) none none).run Try.prog w = .ok (.slice (cut4 (some ⟨b, o, none⟩) c' 1) (m - 1) (c' - 1)) w :=
            fun w => run_from4 25 47 Try.underlying25 sz4 (some ⟨b, o, none⟩) m c' 1 (by omega) w
          obtain ⟨A2, hA2⟩ : ∃ A2, cut4 (some ⟨b, o, none⟩) c' 1 = A2 := ⟨_, rfl⟩
          obtain ⟨m2, hm2⟩ : ∃ m2, m - 1 = m2 := ⟨_, rfl⟩
          obtain ⟨c2, hc2⟩ : ∃ c2, c' - 1 = c2 := ⟨_, rfl⟩
          rw [hA2, hm2, hc2] at hsl
          have hpos0 : 0 < m := by omega
          have hpos1 : decide (0 < m) = true := decide_eq_true hpos0
          have hnext : ∀ wy, Below w.heap.size w wy → Below w.heap.size wr wy → Pos (Foot p v) w l n (k + 1) (.slice A2 m2 c2) wy := fun wy h1 h2 => by
            rw [← hA2, ← hm2, ← hc2]
            exact Pos.next hk hm HR.out hc' h63' HOf.out h1 h2
          have HNX := Lib.hid hnext
          have HE := Lib.hid he
          have hmm : m2 < m := by omega
          clear hnext hA2 hm2 hc2 hr' hr0 hfour he hm hof
          obtain ⟨tm, ix, kd, dd⟩ := e
          simp only at d0 d1
          by_cases hold : ix ≤ S
          · have hold1 : decide (ix ≤ S) = true := decide_eq_true hold
            have hoi : Hid (∀ e ∈ l.take (k + 1), old g e = true) := by
              show ∀ e ∈ l.take (k + 1), old g e = true
              rw [take_snoc l k _ HE.out]
              intro e he
              rcases List.mem_append.1 he with he | he
              · exact HA.out e he
              · simp at he
                subst he
                unfold old
                rw [HS.out]
                exact decide_eq_true hold
            have hla : Hid (lasts (l.take (k + 1)) i t = (ix, tm)) := by show _ = _; rw [lasts_take _ _ _ _ _ HE.out]
            go_wp2_with fail
            go_quiet (fail)
            all_goals go_wp2_with fail
            all_goals go_quiet (fail)
            all_goals go_wp2
            all_goals
              go_roundw
              case rel => exact ⟨k + 1, ix, tm, rfl, rfl, hla, hoi, HNX.out _ (below_drewN hbel _) (below_drewN (Below.refl _ _) _)⟩
              case measure => simp [lenOf]; omega
          · have hold1 : decide (ix ≤ S) = false := decide_eq_false hold
            have hw := takeWhile_at (p := old g) (l := l) (k := k) HA.out (fun e he => by
              rw [HE.out] at he
              cases he
              unfold old
              rw [HS.out]
              exact decide_eq_false hold)
            have HW := Lib.hid hw
            clear hw
            go_wp2_with fail
            go_quiet (fail)
            all_goals go_wp2
            all_goals
              go_meet
              case rel => exact ⟨k, I, T, rfl, rfl, HL.out, ⟨hkn, ⟨_, m, c', rfl, HM.out, HR.out, hc', h63', HOf.out⟩, below_drewN hbel _⟩, HW.out.1, HW.out.2⟩
        · obtain rfl : k = n := by omega
          obtain rfl : m = 0 := by omega
          have hw := takeWhile_at (p := old g) (l := l) (k := k) HA.out (fun e he => by
            have := (List.getElem?_eq_some_iff.1 he).1
            have := HN.out
            omega)
          have HW := Lib.hid hw
          clear hw hr' hr0 hm hof
          have hz1 : decide (0 < 0) = false := rfl
          go_wp2_with fail
          go_quiet (fail)
          all_goals go_wp2
          all_goals
            go_meet
            case rel => exact ⟨k, I, T, rfl, rfl, HL.out, ⟨hkn, ⟨_, 0, c', rfl, HM.out, HR.out, hc', h63', HOf.out⟩, below_drewN hbel _⟩, HW.out.1, HW.out.2⟩
    case rest =>
      obtain ⟨k, I, T, rfl, rfl, hla, hpos, e1, e2⟩ := hcut
      have hmg : R = if I < S then (([], true), g) else if has g I T = false then (([], false), g) else lay g ((l.drop k).dropWhile (there g)) := by
        rw [← HRm.out]
        unfold merge
        rw [HC.out, if_neg (by simp), e1, e2, hla, HS.out]
      obtain ⟨hkn, ⟨A', m, c', rfl, hm, hr', hc', h63', hof⟩, hbel⟩ := hpos
      have hwl := H.out.below hbel
      have hpr := hwl.c0
      have hpl := hwl.lt
      rw [HS.out] at hpr
      have HR := Lib.hid hr'
      have HM := Lib.hid hm
      have HOf := Lib.hid hof
      have HMG := Lib.hid hmg
      have HWL := Lib.hid hwl
      clear hmg e1 e2 hr' hm hof hla hwl
      by_cases hI : I < S
      · obtain rfl : R = (([], true), g) := by rw [HMG.out, if_pos hI]
        have hI1 : decide (I < S) = true := decide_eq_true hI
        go_wp2
        go_ret2
        exact ⟨none, 0, rfl, RE.nil _ _ _, by simp, by omega, LeftL.of_below H.out hbel, Off.zero _ _⟩
      have hI1 : decide (I < S) = false := decide_eq_false hI
      have hterm := rterm_any HWL.out HF.out I
      obtain ⟨r, hr1⟩ : ∃ r, term g I = r := ⟨_, rfl⟩
      rw [hr1] at hterm
      have hhas : has g I T = decide (r = some T) := by unfold has; rw [hr1]
      have HH := Lib.hid hhas
      have HTerm := Lib.hid hterm
      clear hhas hr1 hterm
      obtain ⟨E, V, hEV, hcase⟩ := term_case r T
      have HEV := Lib.hid hEV
      clear hEV
      rcases hcase with ⟨hrT, rfl, rfl⟩ | ⟨hrT, hE1, hE2⟩ | ⟨hrT, rfl, hV1, hV2⟩
      · have hRl : R = lay g ((l.drop k).dropWhile (there g)) := by rw [HMG.out, if_neg hI, if_neg (by rw [HH.out, hrT]; simp)]
        have HRL := Lib.hid hRl
        clear hRl hrT
        have hVV : ((V : Int) != (V : Int)) = false := by simp
        go_wp2_with fail
        refine HTerm.out.mono ?_
        intro e w3 he
        obtain ⟨rfl, rfl⟩ := HEV.out _ _ _ he
        clear he
        go_wp2_with fail
        go_loopw [15] (fun x wr => ∃ j : Nat, j ≤ m ∧ x = .int .i64 (j : Int) ∧ Hid (∀ e ∈ (l.drop k).take j, there g e = true) ∧ wr = wc) (fun x _ => m - (intOf x).toNat)
        case atStart => exact ⟨0, by omega, rfl, Lib.hid (by simp), rfl⟩
        case round =>
          obtain ⟨j, hjm, rfl, HT, rfl⟩ := hrel
          by_cases hj : j < m
          · obtain ⟨b, o, e, rfl, hbl, he, hfour⟩ := RE.at_ HR.out hj
            have d0 := hfour.c0
            have d1 := hfour.c1
            have hib := (HB.out _ (List.mem_of_mem_drop (List.mem_of_getElem? he))).idx
            have hterm := rterm_any HWL.out HF.out e.idx
            obtain ⟨r2, hr2⟩ : ∃ r2, term g e.idx = r2 := ⟨_, rfl⟩
            rw [hr2] at hterm
            have hth : there g e = decide (r2 = some e.term) := by unfold there has; rw [hr2]
            have HTerm2 := Lib.hid hterm
            have HE := Lib.hid he
            obtain ⟨E2, V2, hEV2, hcase2⟩ := term_case r2 e.term
            have HEV2 := Lib.hid hEV2
            rcases hcase2 with ⟨hrT, rfl, rfl⟩ | ⟨hrT, hX1, hX2⟩ | ⟨hrT, rfl, hX1, hX2⟩
            · have hth2 : Hid (∀ x ∈ (l.drop k).take (j + 1), there g x = true) := by
                show ∀ x ∈ (l.drop k).take (j + 1), there g x = true
                rw [take_snoc (l.drop k) j e HE.out]
                intro x hx
                rcases List.mem_append.1 hx with hx | hx
                · exact HT.out x hx
                · simp at hx
                  subst hx
                  rw [hth, hrT]
                  simp
              have hVV2 : ((e.term : Int) == (e.term : Int)) = true := by simp
              obtain ⟨ix, hix⟩ : ∃ ix, e.idx = ix := ⟨_, rfl⟩
              obtain ⟨tm, htm⟩ : ∃ tm, e.term = tm := ⟨_, rfl⟩
              rw [hix] at d1 HTerm2
              rw [htm] at d0 hVV2 HEV2
              clear hr2 hterm hth he hfour hEV2 hrT hix htm
              go_wp2_with fail
              refine HTerm2.out.mono ?_
              intro e' w3 he'
              obtain ⟨rfl, rfl⟩ := HEV2.out _ _ _ he'
              clear he'
              go_wp2
              go_roundw
              case rel => exact ⟨j + 1, by omega, by go_num, hth2, by first | rfl | trivial⟩
              case measure => simp [intOf]; omega
            all_goals
              have hdw : (l.drop k).dropWhile (there g) = l.drop (k + j) := by
                rw [(takeWhile_at (p := there g) (l := l.drop k) (k := j) HT.out (fun e' he' => by
                  rw [HE.out] at he'
                  cases he'
                  rw [hth, hrT])).2, List.drop_drop]
              have hee : l[k + j]? = some e := by have := HE.out; rwa [List.getElem?_drop] at this
              have hRR : R = ((l.drop (k + j), true), { g with es := upto g e.idx ++ l.drop (k + j) }) := by
                rw [HRL.out, hdw]
                obtain ⟨hjl, rfl⟩ := List.getElem?_eq_some_iff.1 hee
                rw [List.drop_eq_getElem_cons hjl]
                rfl
              have hfrom := RE.from_ HR.out (k := j) (by omega) hc'
              rw [List.drop_drop] at hfrom
              have hsl : ∀ w, (Instr.slice 25 (.slice (some ⟨b, o, none⟩) m c') (some (.int .i64 (j : Int))) none none).run Try.prog w = .ok (.slice (cut4 (some ⟨b, o, none⟩) c' j) (m - j) (c' - j)) w :=
                fun w => run_from4 25 47 Try.underlying25 sz4 (some ⟨b, o, none⟩) m c' j (by omega) w
              have hoc := HOf.out.cut c' j
              have hdl : (l.drop (k + j)).length = m - j := by rw [List.length_drop, HN.out, HM.out]; omega
              have hnm : m - j ≤ n := by rw [HM.out]; omega
              have hul : (upto g e.idx).length ≤ g.es.length := by
                unfold upto
                cases place g e.idx with
                | none => exact Nat.le_refl _
                | some k => simp only [List.length_take]; omega
              have hcut := RefE.rcut_any HWL.out HF.out e.idx (by omega)
              obtain ⟨m2, hm2⟩ : ∃ m2, m - j = m2 := ⟨_, rfl⟩
              obtain ⟨A2, hA2⟩ : ∃ A2, cut4 (some ⟨b, o, none⟩) c' j = A2 := ⟨_, rfl⟩
              obtain ⟨c2, hc2⟩ : ∃ c2, c' - j = c2 := ⟨_, rfl⟩
              rw [hA2, hm2] at hfrom
              rw [hA2, hm2, hc2] at hsl
              rw [hA2, hm2] at hoc
              rw [hm2] at hdl hnm
              have hroom2 : ((upto g e.idx).length + m2) * 40 ≤ 140737488355328 := by omega
              have hm40 : m2 * 40 ≤ 140737488355328 := by omega
              have hlen : (upto g e.idx).length + m2 = (upto g e.idx ++ l.drop (k + j)).length := by rw [List.length_append, hdl]
              subst hRR
              unfold cut at hcut
              obtain ⟨U, hU⟩ : ∃ U, upto g e.idx = U := ⟨_, rfl⟩
              rw [hU] at hcut hroom2 hlen
              have HCut := Lib.hid hcut
              have HLen := Lib.hid hlen
              have HDL := Lib.hid hdl
              have HU := Lib.hid hU
              have HFrom := Lib.hid hfrom
              have HOc := Lib.hid hoc
              obtain ⟨ix, hix⟩ : ∃ ix, e.idx = ix := ⟨_, rfl⟩
              obtain ⟨tm, htm⟩ : ∃ tm, e.term = tm := ⟨_, rfl⟩
              rw [hix] at d1 HTerm2 HCut
              simp only [htm] at d0 hX1 hX2 HEV2
              clear hr2 hterm hth he hfour hEV2 hrT hix htm hcut hlen hdl hU hfrom hoc hA2 hm2 hc2 hul hdw hee hib
              go_wp2_with fail
              refine HTerm2.out.mono ?_
              intro e' w3 he'
              obtain ⟨rfl, rfl⟩ := HEV2.out _ _ _ he'
              clear he'
              go_wp2_with fail
              refine HCut.out.mono ?_
              rintro e' w3 ⟨rfl, v3, h3, o3, f3⟩
              have hr3 := HOc.out.reads o3 HFrom.out hbel.size
              have d4 := h3.c4
              have hlt3 := h3.lt
              have hbase3 : B ≤ w3.drew.heap.size := h3.base
              obtain ⟨A3, c3, rfl, _, _, _⟩ := h3.form
              have hown3 := h3.drew.own
              simp only at d4 hown3
              obtain ⟨N3, hN3⟩ : ∃ N3, U.length = N3 := ⟨_, rfl⟩
              rw [hN3] at d4 hown3 hroom2
              have HN3 := Lib.hid hN3
              have H3 := Lib.hid h3
              have HO3 := Lib.hid o3
              have HF3 := Lib.hid f3
              have hr3d := Reads.drew hr3
              clear h3 o3 f3 hN3
              go_wp2_with fail
              go_region_law (first
                | (refine step_app (v := .slice A3 N3 c3) _ rfl _ _ rfl B rfl hown3 rfl hr3d (ecells_one _) hroom2 hbase3 ?_
                   intro A4 c4 w4 hown4 hg4 hat4
                   have ho4 := ((Only.refl (fun q => (Value.slice A3 N3 c3).ownBlock = some q) w3).drew).grown hg4 (fun q hq => .inr hq)
                   have hat' : ∀ q, (Value.slice A4 (N3 + m2) c4).ownBlock = some q → (Value.slice A3 U.length c3).ownBlock = some q ∨ w3.heap.size ≤ q := fun q hq => by
                     rcases hat4 with e | e
                     · rw [hq] at e
                       have h := HN3.out
                       subst h
                       exact .inl e.symm
                     · rw [hq] at e; cases e; exact .inr (Nat.le_refl _)
                   obtain ⟨hcell4, hfr4, hleft⟩ := H3.out.rowed (w1 := w4) (v1 := .slice A4 (N3 + m2) c4) (es := U ++ l.drop (k + j)) (ho4.mono fun q _ hq => by have h := HN3.out; subst h; exact hq) hown4 (by rw [← HN3.out]; exact HLen.out) (by rw [ecells_append]) hat'
                   rw [HN3.out] at hcell4
                   have hlt4 : p < w4.heap.size := Nat.lt_of_lt_of_le hlt3 ho4.size
                   have HL := Lib.hid (LeftL.then HO3.out HF3.out hleft)
                   clear hleft hat' hat4 hg4 hown4 ho4))
              all_goals
                generalize w4.setCell ⟨p, 4, none⟩ _ = w5 at HL ⊢
                have ho5 : Only (Foot p v) wr w5 := by obtain ⟨v5, h5, o5, f5⟩ := HL.out; exact o5
                have hr5 : RE w5 w5.heap.size A2 m2 (l.drop (k + j)) := (HOc.out.reads ho5 HFrom.out hbel.size).more (Nat.le_trans hbel.size ho5.size)
                have HR5 := Lib.hid hr5
                have hrefl5 := Nat.le_refl w5.heap.size
                have HSZ := Lib.hid (Nat.le_trans hbel.size ho5.size)
                clear hr3 hr3d hr5 ho5
                go_wp2_with (first
                  | (at_builtin
                     refine wpList_new _ rfl _ _ rfl w5.heap.size rfl rfl HR5.out (ecells_one _) hm40 hrefl5 ?_
                     intro A6 c6 w6 hown6 hb6 hat6))
                have HO6 := Lib.hid hown6
                clear hat6 hown6
                go_ret2
                obtain ⟨A7, c7, hv7, h71, h72, h73⟩ := own_form HO6.out
                cases hv7
                unfold maxLen at h72
                rw [HU.out]
                exact ⟨A6, c6, by simp only [HDL.out]; rfl, by simp only [HDL.out]; exact h73, by simp only [HDL.out]; exact h71, by omega, LeftL.afterBelow hbel (LeftL.thenBelow HL.out hb6), by simp only [HDL.out]; exact (off_own HO6.out).more HSZ.out⟩
          · obtain rfl : j = m := by omega
            have hdw : (l.drop k).dropWhile (there g) = [] := by
              rw [(takeWhile_at (p := there g) (l := l.drop k) (k := j) HT.out (fun e he => by
                have := (List.getElem?_eq_some_iff.1 he).1
                rw [List.length_drop, HN.out, HM.out] at this
                omega)).2]
              exact List.drop_of_length_le (by rw [List.length_drop, HN.out, HM.out]; exact Nat.le_refl _)
            obtain rfl : R = (([], true), g) := by rw [HRL.out, hdw]; rfl
            clear hdw
            go_wp2
            go_ret2
            exact ⟨none, 0, rfl, RE.nil _ _ _, by simp, by omega, LeftL.of_below H.out hbel, Off.zero _ _⟩
      · obtain rfl : R = (([], false), g) := by rw [HMG.out, if_neg hI, if_pos (by rw [HH.out, hrT])]
        clear hrT
        go_wp2_with fail
        refine HTerm.out.mono ?_
        intro e w3 he
        obtain ⟨rfl, rfl⟩ := HEV.out _ _ _ he
        clear he
        go_wp2
        go_ret2
        exact ⟨none, 0, rfl, RE.nil _ _ _, by simp, by omega, LeftL.of_below H.out hbel, Off.zero _ _⟩
      · obtain rfl : R = (([], false), g) := by rw [HMG.out, if_neg hI, if_pos (by rw [HH.out, hrT])]
        clear hrT
        go_wp2_with fail
        refine HTerm.out.mono ?_
        intro e w3 he
        obtain ⟨rfl, rfl⟩ := HEV.out _ _ _ he
        clear he
        go_wp2
        go_ret2
        exact ⟨none, 0, rfl, RE.nil _ _ _, by simp, by omega, LeftL.of_below H.out hbel, Off.zero _ _⟩
end
end Go.Proofs.Ytndehdnffajigaa.RefI
