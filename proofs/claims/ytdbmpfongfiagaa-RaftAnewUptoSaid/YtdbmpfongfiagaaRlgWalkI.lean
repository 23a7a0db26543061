/- What the program's Merge leaves, walked. -/
import Derived.Test.YtdbmpfongfiagaaRlgWalkH
import Derived.Deep.CutRange
import Derived.Deep.CutBlock
set_option linter.unusedVariables false
namespace Go.Proofs.Ytdbmpfongfiagaa.RlgWalkI
open Go.RowKit Go.Proofs.Ytdbmpfongfiagaa.Kit Go.Proofs.Ytdbmpfongfiagaa.Blocks Go.Proofs.Ytdbmpfongfiagaa.Rlog Go.Proofs.Ytdbmpfongfiagaa.Ents Go.Proofs.Ytdbmpfongfiagaa.LogAt Go.Proofs.Ytdbmpfongfiagaa.App Go.Proofs.Ytdbmpfongfiagaa.RlgWalkA Go.Proofs.Ytdbmpfongfiagaa.RlgWalkB Go.Proofs.Ytdbmpfongfiagaa.RlgWalkC Go.Proofs.Ytdbmpfongfiagaa.RlgWalkD Go.Proofs.Ytdbmpfongfiagaa.RlgWalkE Go.Proofs.Ytdbmpfongfiagaa.RlgWalkF Go.Proofs.Ytdbmpfongfiagaa.RlgWalkG Go.Proofs.Ytdbmpfongfiagaa.RlgWalkH

/-- What a call that merges leaves. -/
def Merged (T : TypeId) (B : Nat) (w : World) (p : Nat) (v : Value) (r : (List Ent × Bool) × G) (e : Ending) (w' : World) : Prop :=
  ∃ A c, e = .returned (.tuple #[.slice A r.1.1.length c, .bool r.1.2]) ∧ RE w' w'.heap.size A r.1.1.length r.1.1 ∧ r.1.1.length ≤ c ∧ c ≤ 9223372036854775807 ∧ LeftL T B w p v r.2 w' ∧ Off (fun k => k < w.heap.size) A r.1.1.length
/-- Of the entries that came in all but the first k are left in s. -/
structure Pos (F : Nat → Prop) (w : World) (l : List Ent) (n k : Nat) (s : Value) (wx : World) : Prop where
  le : k ≤ n
  slice : ∃ A m c, s = .slice A m c ∧ m = n - k ∧ RE wx w.heap.size A m (l.drop k) ∧ m ≤ c ∧ c ≤ 9223372036854775807 ∧ Off F A m
  since : Below w.heap.size w wx
theorem Pos.next {F : Nat → Prop} {w wx wy : World} {l : List Ent} {n k m c : Nat} {A : Option Addr} (hk : k < n) (hm : m = n - k) (hr : RE wx w.heap.size A m (l.drop k)) (hc : m ≤ c) (h63 : c ≤ 9223372036854775807) (hf : Off F A m) (hb : Below w.heap.size w wy) (hy : Below w.heap.size wx wy) :
    Pos F w l n (k + 1) (.slice (cut4 A c 1) (m - 1) (c - 1)) wy := by
  have h1 := RE.from_ hr (k := 1) (by omega) hc
  rw [List.drop_drop] at h1
  exact ⟨by omega, ⟨_, _, _, rfl, by omega, Kit.Reads.below h1 hy, by omega, by omega, hf.cut c 1⟩, hb⟩
theorem at0 {w : World} {B m : Nat} {A : Option Addr} {l : List Ent} {k : Nat} (hr : RE w B A m (l.drop k)) (hm : 0 < m) : ∃ b o e, A = some ⟨b, o, none⟩ ∧ b < B ∧ l[k]? = some e ∧ Four w b o e := by
  obtain ⟨b, o, e, hA, hb, he, hf⟩ := RE.at_ hr hm
  rw [Nat.zero_mul, Nat.add_zero] at hf
  rw [List.getElem?_drop, Nat.add_zero] at he
  exact ⟨b, o, e, hA, hb, he, hf⟩
/-- Behind the first loop. -/
def Mid1 (F : Nat → Prop) (g : G) (w : World) (l : List Ent) (n i t : Nat) (a b s : Value) (wx : World) : Prop :=
  ∃ k I T, a = .int .u64 ((I : Nat) : Int) ∧ b = .int .u64 ((T : Nat) : Int) ∧ lasts (l.take k) i t = (I, T) ∧ Pos F w l n k s wx ∧ l.takeWhile (old g) = l.take k ∧ l.dropWhile (old g) = l.drop k

/-- Behind the second loop. -/
def Mid2 (F : Nat → Prop) (g : G) (w : World) (l : List Ent) (n k : Nat) (s : Value) (wx : World) : Prop :=
  ∃ j, k ≤ j ∧ Pos F w l n j s wx ∧ (l.drop k).dropWhile (there g) = l.drop j ∧ ∀ e ∈ (l.drop k).take (j - k), there g e = true
abbrev QuietHas (p ix tm : Nat) (b : Bool) (W : World) (q : Nat) : Prop :=
  Calls Try.prog 71 #[.pointer (some ⟨p, 0, none⟩), .int .u64 (ix : Int), .int .u64 (tm : Int)] (W.drewN q) fun e w'' => e = .returned (.bool b) ∧ ∃ m, w'' = W.drewN m
theorem quietHas {B p : Nat} {v : Value} {g : G} {W : World} (h : LP B W p v g) (f : Fine g) {ix tm : Nat} {b : Bool} (hi : ix < 18446744073709551616) (hb : has g ix tm = b) (q : Nat) : QuietHas p ix tm b W q := by
  have := has_any (h.below (below_drewN (Below.refl _ _) q)) f (i := ix) (t := tm) hi
  rw [hb] at this
  exact Calls.quiet_of_same (this.mono fun _ _ h => ⟨h.1, h.2.symm⟩)
theorem there_next {g : G} {l : List Ent} {k j : Nat} {e : Ent} (hk : k ≤ j) (he : l[j]? = some e) (ha : ∀ e ∈ (l.drop k).take (j - k), there g e = true) (ht : there g e = true) : ∀ e ∈ (l.drop k).take (j + 1 - k), there g e = true := by
  rw [show j + 1 - k = (j - k) + 1 by omega, take_snoc (l.drop k) (j - k) e (by rw [List.getElem?_drop, show k + (j - k) = j by omega]; exact he)]
  intro x hx
  rcases List.mem_append.1 hx with hx | hx
  · exact ha x hx
  · simp at hx
    subst hx
    exact ht
theorem there_end {g : G} {l : List Ent} {k j : Nat} (hk : k ≤ j) (ha : ∀ e ∈ (l.drop k).take (j - k), there g e = true) (ht : ∀ e, l[j]? = some e → there g e = false) : (l.drop k).dropWhile (there g) = l.drop j := by
  have := (takeWhile_at (p := there g) (l := l.drop k) (k := j - k) ha (fun e he => ht e (by rw [List.getElem?_drop, show k + (j - k) = j by omega] at he; exact he))).2
  rw [this, List.drop_drop, show k + (j - k) = j by omega]

section
variable {B p : Nat} {v : Value} {g : G} {w : World} (h : LP B w p v g) (f : Fine g)
include h f
omit f in
set_option maxRecDepth 100000 in
theorem merge_bad (A : Option Addr) (n c i t : Nat) (l : List Ent) (hr : RE w w.heap.size A n l) (hb : ∀ e ∈ l, EntB e) (h63 : n ≤ 9223372036854775807) (hc : chained l i t = false) :
    Calls Try.prog 51 #[.pointer (some ⟨p, 0, none⟩), .int .u64 (i : Int), .int .u64 (t : Int), .slice A n c] w (Merged 61 B w p v (([], false), g)) := by
  have hch := chained_any A n c l i t _ hr hb h63
  rw [hc] at hch
  have HCh := Lib.hid hch
  clear hch hc
  go_enter Try.func51, Try.ntmps51
  go_wp2_with fail
  refine HCh.out.mono ?_
  rintro e w2 ⟨rfl, hb2⟩
  go_wp2
  go_ret2
  exact ⟨none, 0, rfl, RE.nil _ _ _, by simp, by omega, LeftL.of_below h hb2, Off.zero _ _⟩
set_option maxRecDepth 100000 in
set_option maxHeartbeats 2000000 in
theorem merge_fit (A : Option Addr) (n c i t : Nat) (l : List Ent) (hr : RE w w.heap.size A n l) (hoff : Off (Foot p v) A n) (hb : ∀ e ∈ l, EntB e) (hnc : n ≤ c) (h63 : c ≤ 9223372036854775807) (hi : i < 18446744073709551616) (hc : chained l i t = true) (hroom : (g.es.length + n) * 40 ≤ 140737488355328) :
    Calls Try.prog 51 #[.pointer (some ⟨p, 0, none⟩), .int .u64 (i : Int), .int .u64 (t : Int), .slice A n c] w (Merged 61 B w p v (merge g i t l)) := by
  have hch := chained_any A n c l i t _ hr hb (by omega)
  rw [hc] at hch
  obtain ⟨R, hRm⟩ : ∃ R, merge g i t l = R := ⟨_, rfl⟩
  rw [hRm]
  have HRm := Lib.hid hRm
  clear hRm
  have HCh := Lib.hid hch
  have HC := Lib.hid hc
  have hn := RE.len hr
  have HN := Lib.hid hn
  have HB := Lib.hid hb
  have H := Lib.hid h
  have HF := Lib.hid f
  have hsi := f.snap.idx
  obtain ⟨S, hS⟩ : ∃ S, g.snap.idx = S := ⟨_, rfl⟩
  have HS := Lib.hid hS
  have h0 : Pos (Foot p v) w l n 0 (.slice A n c) w := ⟨by omega, ⟨A, n, c, rfl, by omega, hr, hnc, h63, hoff⟩, Below.refl _ _⟩
  have HP0 := Lib.hid h0
  have HOff := Lib.hid hoff
  clear hch hc hn hb h f hS h0 hr hoff
  go_enter Try.func51, Try.ntmps51
  go_wp2_with fail
  refine HCh.out.mono ?_
  rintro e w2 ⟨rfl, hb2⟩
  go_upto_block 0 with fail
  go_cut [1, 2, 3] from 19 to 43 (fun a b s wx => Mid1 (Foot p v) g w l n i t a b s wx)
  case first =>
    go_wp2_with fail
    go_loopw [1, 2, 3] (fun a b s wr => ∃ k I T : Nat, a = .int .u64 (I : Int) ∧ b = .int .u64 (T : Int) ∧ Hid (lasts (l.take k) i t = (I, T)) ∧ Hid (∀ e ∈ l.take k, old g e = true) ∧ Pos (Foot p v) w l n k s wr) (fun _ _ s _ => lenOf s)
    case atStart => exact ⟨0, i, t, rfl, rfl, Lib.hid rfl, Lib.hid (by simp), ⟨by omega, ⟨A, n, c, rfl, by omega, Kit.Reads.below (HP0.out.slice.elim fun A' ⟨m, c', e1, e2, e3, _⟩ => by cases e1; exact e3) hb2, hnc, h63, HOff.out⟩, hb2⟩⟩
    case round =>
      obtain ⟨k, I, T, rfl, rfl, HL, HA, hpos⟩ := hrel
      obtain ⟨hkn, ⟨A', m, c', rfl, hm, hr', hc', h63', hof⟩, hbel⟩ := hpos
      have HOf := Lib.hid hof
      have hr0 := hr'
      have hpr := (H.out.below hbel).c0
      have hpl := (H.out.below hbel).lt
      rw [HS.out] at hpr
      have HR := Lib.hid hr'
      have HM := Lib.hid hm
      by_cases hk : k < n
      · obtain ⟨b, o, e, rfl, hbl, he, hfour⟩ := at0 hr' (by omega)
        have d0 := hfour.c0
        have d1 := hfour.c1
        have hsl : ∀ w, (Instr.slice 27 (.slice (some ⟨b, o, none⟩) m c') (some (.int .i64 1)) none none).run Try.prog w = .ok (.slice (cut4 (some ⟨b, o, none⟩) c' 1) (m - 1) (c' - 1)) w :=
          fun w => run_from4 27 57 Try.underlying27 sz4 (some ⟨b, o, none⟩) m c' 1 (by omega) w
        obtain ⟨A2, hA2⟩ : ∃ A2, cut4 (some ⟨b, o, none⟩) c' 1 = A2 := ⟨_, rfl⟩
        obtain ⟨m2, hm2⟩ : ∃ m2, m - 1 = m2 := ⟨_, rfl⟩
        obtain ⟨c2, hc2⟩ : ∃ c2, c' - 1 = c2 := ⟨_, rfl⟩
        rw [hA2, hm2, hc2] at hsl
        have hpos0 : 0 < m := by omega
        have hpos1 : decide (0 < m) = true := decide_eq_true hpos0
        have hnext : ∀ wy, Below w.heap.size w wy → Below w.heap.size wr wy → Pos (Foot p v) w l n (k + 1) (.slice A2 m2 c2) wy := fun wy h1 h2 => by
          rw [← hA2, ← hm2, ← hc2]
          exact Pos.next hk hm HR.out hc' h63' HOf.out h1 h2
        have HNX := Lib.hid hnext
        have HE := Lib.hid he
        have hmm : m2 < m := by omega
        clear hnext hA2 hm2 hc2 hr' hr0 hfour he hm hof
        obtain ⟨tm, ix, kd, dd⟩ := e
        simp only at d0 d1
        by_cases hold : ix ≤ S
        · have hold1 : decide (ix ≤ S) = true := decide_eq_true hold
          have hoi : Hid (∀ e ∈ l.take (k + 1), old g e = true) := by
            show ∀ e ∈ l.take (k + 1), old g e = true
            rw [take_snoc l k _ HE.out]
            intro e he
            rcases List.mem_append.1 he with he | he
            · exact HA.out e he
            · simp at he
              subst he
              unfold old
              rw [HS.out]
              exact decide_eq_true hold
          have hla : Hid (lasts (l.take (k + 1)) i t = (ix, tm)) := by show _ = _; rw [lasts_take _ _ _ _ _ HE.out]
          go_wp2_with fail
          go_quiet (fail)
          all_goals go_wp2_with fail
          all_goals go_quiet (fail)
          all_goals go_wp2
          all_goals
            go_roundw
            case rel => exact ⟨k + 1, ix, tm, rfl, rfl, hla, hoi, HNX.out _ (below_drewN (below_drewN hbel _) _) (below_drewN (below_drewN (Below.refl _ _) _) _)⟩
            case measure => simp [lenOf]; omega
        · have hold1 : decide (ix ≤ S) = false := decide_eq_false hold
          have hw := takeWhile_at (p := old g) (l := l) (k := k) HA.out (fun e he => by
            rw [HE.out] at he
            cases he
            unfold old
            rw [HS.out]
            exact decide_eq_false hold)
          have HW := Lib.hid hw
          clear hw
          go_wp2_with fail
          go_quiet (fail)
          all_goals go_wp2
          all_goals
            go_meet
            case rel => exact ⟨k, I, T, rfl, rfl, HL.out, ⟨hkn, ⟨_, m, c', rfl, HM.out, HR.out, hc', h63', HOf.out⟩, below_drewN hbel _⟩, HW.out.1, HW.out.2⟩
      · obtain rfl : k = n := by omega
        obtain rfl : m = 0 := by omega
        have hw := takeWhile_at (p := old g) (l := l) (k := k) HA.out (fun e he => by
          have := (List.getElem?_eq_some_iff.1 he).1
          have := HN.out
          omega)
        have HW := Lib.hid hw
        clear hw hr' hr0 hm hof
        have hz1 : decide (0 < 0) = false := rfl
        go_wp2_with fail
        go_quiet (fail)
        all_goals go_wp2
        all_goals
          go_meet
          case rel => exact ⟨k, I, T, rfl, rfl, HL.out, ⟨hkn, ⟨_, 0, c', rfl, HM.out, HR.out, hc', h63', HOf.out⟩, below_drewN hbel _⟩, HW.out.1, HW.out.2⟩
  case rest =>
    obtain ⟨k, I, T, rfl, rfl, hla, hpos, e1, e2⟩ := hcut
    have hmg : R = if I < S then (([], true), g) else if has g I T = false then (([], false), g) else lay g ((l.drop k).dropWhile (there g)) := by
      rw [← HRm.out]
      unfold merge
      rw [HC.out, if_neg (by simp), e1, e2, hla, HS.out]
    obtain ⟨hkn, ⟨A', m, c', rfl, hm, hr', hc', h63', hof⟩, hbel⟩ := hpos
    have hwl := H.out.below hbel
    have hpr := hwl.c0
    have hpl := hwl.lt
    rw [HS.out] at hpr
    have HR := Lib.hid hr'
    have HM := Lib.hid hm
    have HOf := Lib.hid hof
    have HLA := Lib.hid hla
    have hIb : I < 18446744073709551616 := by
      have h1 := (follow_lasts (follow_take HC.out k)).1
      rw [hla] at h1
      by_cases hk0 : k = 0
      · subst hk0; simp at h1; omega
      · have hk1 := List.getElem?_eq_getElem (l := l) (i := k - 1) (by have := HN.out; omega)
        have h2 := lasts_take l i t (k - 1) _ hk1
        rw [show k - 1 + 1 = k by omega, hla] at h2
        have h3 := (HB.out _ (List.mem_of_getElem? hk1)).idx
        injection h2 with h2 _
        omega
    have HMG := Lib.hid hmg
    have HWL := Lib.hid hwl
    clear hmg e1 e2 hr' hm hof hla hwl
    by_cases hI : I < S
    · obtain rfl : R = (([], true), g) := by rw [HMG.out, if_pos hI]
      have hI1 : decide (I < S) = true := decide_eq_true hI
      go_wp2
      go_ret2
      exact ⟨none, 0, rfl, RE.nil _ _ _, by simp, by omega, LeftL.of_below H.out hbel, Off.zero _ _⟩
    have hI1 : decide (I < S) = false := decide_eq_false hI
    have hhas := has_any HWL.out HF.out (i := I) (t := T) hIb
    cases hh : has g I T with
    | false =>
      obtain rfl : R = (([], false), g) := by rw [HMG.out, if_neg hI, if_pos hh]
      rw [hh] at hhas
      have HH := Lib.hid hhas
      clear hhas hh
      go_wp2_with fail
      refine HH.out.mono ?_
      rintro e w3 ⟨rfl, rfl⟩
      go_wp2
      go_ret2
      exact ⟨none, 0, rfl, RE.nil _ _ _, by simp, by omega, LeftL.of_below H.out hbel, Off.zero _ _⟩
    | true =>
      have hRl : R = lay g ((l.drop k).dropWhile (there g)) := by rw [HMG.out, if_neg hI, if_neg (by rw [hh]; simp)]
      have HRL := Lib.hid hRl
      rw [hh] at hhas
      have HH := Lib.hid hhas
      have HHT := Lib.hid hh
      clear hhas hh hRl
      go_wp2_with fail
      refine HH.out.mono ?_
      rintro e w3 ⟨rfl, rfl⟩
      go_upto_block 2 with fail
      go_cut [3] from 56 to 72 (fun s wx => Mid2 (Foot p v) g w l n k s wx)
      case first =>
        go_wp2_with fail
        go_loopw [3] (fun s wr => ∃ j : Nat, k ≤ j ∧ Hid (∀ e ∈ (l.drop k).take (j - k), there g e = true) ∧ Pos (Foot p v) w l n j s wr) (fun s _ => lenOf s)
        case atStart => exact ⟨k, Nat.le_refl _, Lib.hid (by simp), ⟨hkn, ⟨A', m, c', rfl, HM.out, HR.out, hc', h63', HOf.out⟩, hbel⟩⟩
        case round =>
          obtain ⟨j, hkj, HT, hpos⟩ := hrel
          obtain ⟨hjn, ⟨A1, m1, c1, rfl, hm1, hr1, hc1, h631, hof1⟩, hbel1⟩ := hpos
          have hwl1 := H.out.below hbel1
          have hpl1 := hwl1.lt
          have HR1 := Lib.hid hr1
          have HM1 := Lib.hid hm1
          have HOf1 := Lib.hid hof1
          have HWL1 := Lib.hid hwl1
          clear hwl1
          by_cases hj : j < n
          · obtain ⟨b, o, e, rfl, hbl, he, hfour⟩ := at0 hr1 (by omega)
            have d0 := hfour.c0
            have d1 := hfour.c1
            have hpos0 : 0 < m1 := by omega
            have hpos1 : decide (0 < m1) = true := decide_eq_true hpos0
            have hib := (HB.out _ (List.mem_of_getElem? he)).idx
            obtain ⟨bb, hbb⟩ : ∃ bb, has g e.idx e.term = bb := ⟨_, rfl⟩
            have C0 : Hid (∀ q, QuietHas p e.idx e.term bb wr q) := fun q => quietHas HWL1.out HF.out hib hbb q
            have HBB := Lib.hid hbb
            have HE := Lib.hid he
            have hsl : ∀ w, (Instr.slice 27 (.slice (some ⟨b, o, none⟩) m1 c1) (some (.int .i64 1)) none none).run Try.prog w = .ok (.slice (cut4 (some ⟨b, o, none⟩) c1 1) (m1 - 1) (c1 - 1)) w :=
              fun w => run_from4 27 57 Try.underlying27 sz4 (some ⟨b, o, none⟩) m1 c1 1 (by omega) w
            obtain ⟨A2, hA2⟩ : ∃ A2, cut4 (some ⟨b, o, none⟩) c1 1 = A2 := ⟨_, rfl⟩
            obtain ⟨m2, hm2⟩ : ∃ m2, m1 - 1 = m2 := ⟨_, rfl⟩
            obtain ⟨c2, hc2⟩ : ∃ c2, c1 - 1 = c2 := ⟨_, rfl⟩
            rw [hA2, hm2, hc2] at hsl
            have hnext : ∀ wy, Below w.heap.size w wy → Below w.heap.size wr wy → Pos (Foot p v) w l n (j + 1) (.slice A2 m2 c2) wy := fun wy h1 h2 => by
              rw [← hA2, ← hm2, ← hc2]
              exact Pos.next hj hm1 HR1.out hc1 h631 HOf1.out h1 h2
            have HNX := Lib.hid hnext
            have hmm : m2 < m1 := by omega
            obtain ⟨ix, hix⟩ : ∃ ix, e.idx = ix := ⟨_, rfl⟩
            obtain ⟨tm, htm⟩ : ∃ tm, e.term = tm := ⟨_, rfl⟩
            rw [hix] at d1 C0
            rw [htm] at d0 C0
            clear hnext hA2 hm2 hc2 hr1 hfour he hm1 hof1 hbb hix htm hib
            cases bb with
            | true =>
              have hth : Hid (∀ e ∈ (l.drop k).take (j + 1 - k), there g e = true) := there_next hkj HE.out HT.out HBB.out
              go_wp2_with fail
              go_quiet ((go_at_call 71; (with_reducible exact C0.out _)))
              all_goals go_wp2
              all_goals
                go_roundw
                case rel => exact ⟨j + 1, by omega, hth, HNX.out _ (below_drewN hbel1 _) (below_drewN (Below.refl _ _) _)⟩
                case measure => simp [lenOf]; omega
            | false =>
              have hdw := there_end hkj HT.out (fun e' he' => by rw [HE.out] at he'; cases he'; exact HBB.out)
              have HDW := Lib.hid hdw
              clear hdw
              go_wp2_with fail
              go_quiet ((go_at_call 71; (with_reducible exact C0.out _)))
              all_goals go_wp2
              all_goals
                go_meet
                case rel => exact ⟨j, hkj, ⟨hjn, ⟨_, m1, c1, rfl, HM1.out, HR1.out, hc1, h631, HOf1.out⟩, below_drewN hbel1 _⟩, HDW.out, HT.out⟩
          · obtain rfl : j = n := by omega
            obtain rfl : m1 = 0 := by omega
            have hdw := there_end hkj HT.out (fun e' he' => by
              have := (List.getElem?_eq_some_iff.1 he').1
              have := HN.out
              omega)
            have HDW := Lib.hid hdw
            have hz1 : decide (0 < 0) = false := rfl
            clear hdw hr1 hm1 hof1
            go_wp2_with fail
            go_quiet (fail)
            all_goals go_wp2
            all_goals
              go_meet
              case rel => exact ⟨j, hkj, ⟨hjn, ⟨_, 0, c1, rfl, HM1.out, HR1.out, hc1, h631, HOf1.out⟩, below_drewN hbel1 _⟩, HDW.out, HT.out⟩
      case rest =>
        obtain ⟨j, hkj, hpos, hdw, hall⟩ := hcut
        obtain ⟨hjn, ⟨A1, m1, c1, rfl, hm1, hr1, hc1, h631, hof1⟩, hbel1⟩ := hpos
        have hwl1 := H.out.below hbel1
        by_cases hj : j < n
        · obtain ⟨b, o, e, rfl, hbl, he, hfour⟩ := at0 hr1 (by omega)
          have d1 := hfour.c1
          have hib := (HB.out _ (List.mem_of_getElem? he)).idx
          have hcut := cut_any hwl1 (i := e.idx) hib
          have hRR : R = ((l.drop j, true), { g with es := upto g e.idx ++ l.drop j }) := by
            rw [HRL.out, hdw]
            obtain ⟨hjl, rfl⟩ := List.getElem?_eq_some_iff.1 he
            rw [List.drop_eq_getElem_cons hjl]
            rfl
          have hul : (upto g e.idx).length ≤ g.es.length := by
            unfold upto
            cases place g e.idx with
            | none => exact Nat.le_refl _
            | some k => simp only [List.length_take]; omega
          have hroom2 : ((upto g e.idx).length + m1) * 40 ≤ 140737488355328 := by omega
          have hm40 : m1 * 40 ≤ 140737488355328 := by omega
          have hlen : (upto g e.idx).length + m1 = (upto g e.idx ++ l.drop j).length := by rw [List.length_append, List.length_drop, HN.out, hm1]
          have hdl : (l.drop j).length = m1 := by rw [List.length_drop, HN.out, hm1]
          subst hRR
          unfold cut at hcut
          obtain ⟨U, hU⟩ : ∃ U, upto g e.idx = U := ⟨_, rfl⟩
          rw [hU] at hcut hroom2 hlen
          have HCut := Lib.hid hcut
          have HLen := Lib.hid hlen
          have HDL := Lib.hid hdl
          have HU := Lib.hid hU
          have HR1 := Lib.hid hr1
          have HOf1 := Lib.hid hof1
          have HWL1 := Lib.hid hwl1
          have hpos1 : ((m1 : Int) == 0) = false := by simp; omega
          have hpos0 : 0 < m1 := by omega
          obtain ⟨ix, hix⟩ : ∃ ix, e.idx = ix := ⟨_, rfl⟩
          rw [hix] at d1 HCut
          clear hcut hlen hdl hU hr1 hof1 hwl1 hm1 hfour he hib hul hdw hall hix
          go_wp2_with fail
          refine HCut.out.mono ?_
          rintro e' w3 ⟨rfl, v3, h3, o3, f3⟩
          have hr3 := HOf1.out.reads o3 HR1.out hbel1.size
          have d4 := h3.c4
          have hlt3 := h3.lt
          have hbase3 := h3.base
          obtain ⟨A3, c3, rfl, _, _, _⟩ := h3.form
          have hown3 := h3.own
          simp only at d4 hown3
          obtain ⟨N3, hN3⟩ : ∃ N3, U.length = N3 := ⟨_, rfl⟩
          rw [hN3] at d4 hown3 hroom2
          have HN3 := Lib.hid hN3
          have H3 := Lib.hid h3
          have HO3 := Lib.hid o3
          have HF3 := Lib.hid f3
          clear h3 o3 f3 hN3
          go_wp2_with (first
            | (at_builtin
               refine wpList_app (v := .slice A3 N3 c3) _ rfl _ _ rfl B rfl hown3 rfl hr3 (ecells_one _) hroom2 hbase3 ?_
               intro A4 c4 w4 hown4 hg4 hat4
               have ho4 := (Only.refl (fun q => (Value.slice A3 N3 c3).ownBlock = some q) w3).grown hg4 (fun q hq => .inr hq)
               have hat' : ∀ q, (Value.slice A4 (N3 + m1) c4).ownBlock = some q → (Value.slice A3 U.length c3).ownBlock = some q ∨ w3.heap.size ≤ q := fun q hq => by
                 rcases hat4 with e | e
                 · rw [hq] at e
                   have h := HN3.out
                   subst h
                   exact .inl e.symm
                 · rw [hq] at e; cases e; exact .inr (Nat.le_refl _)
               obtain ⟨hcell4, hfr4, hleft⟩ := H3.out.rowed (w1 := w4) (v1 := .slice A4 (N3 + m1) c4) (es := U ++ l.drop j) (ho4.mono fun q _ hq => by have h := HN3.out; subst h; exact hq) hown4 (by rw [← HN3.out]; exact HLen.out) (by rw [ecells_append]) hat'
               rw [HN3.out] at hcell4
               have hlt4 : p < w4.heap.size := Nat.lt_of_lt_of_le hlt3 ho4.size
               have HL := Lib.hid (LeftL.then HO3.out HF3.out hleft)
               clear hleft hat' hat4 hg4 hown4 ho4))
          generalize w4.setCell ⟨p, 4, none⟩ _ = w5 at HL ⊢
          have ho5 : Only (Foot p v) wc w5 := by obtain ⟨v5, h5, o5, f5⟩ := HL.out; exact o5
          have hr5 : RE w5 w5.heap.size (some ⟨b, o, none⟩) m1 (l.drop j) := (HOf1.out.reads ho5 HR1.out hbel1.size).more (Nat.le_trans hbel1.size ho5.size)
          have hcl := clone_any (some ⟨b, o, none⟩) m1 c1 (l.drop j) w5 hr5 hm40
          have HCl := Lib.hid hcl
          have HSZ := Lib.hid (Nat.le_trans hbel1.size ho5.size)
          clear hcl hr5 ho5
          refine HCl.out.mono ?_
          rintro e' w6 ⟨A6, c6, he6, hr6, hc6, h636, hb6, hfr6⟩
          rw [HDL.out] at he6
          subst he6
          have HC6 := Lib.hid hc6
          have HFr6 := Lib.hid hfr6
          clear hc6 hr3 hfr6
          go_wp2
          go_ret2
          rw [HU.out]
          exact ⟨A6, c6, by simp only [HDL.out]; rfl, hr6, HC6.out, h636, LeftL.afterBelow hbel1 (LeftL.thenBelow HL.out hb6), by simp only [HDL.out]; have := HFr6.out; rw [HDL.out] at this; exact this.more HSZ.out⟩
        · obtain rfl : j = n := by omega
          obtain rfl : m1 = 0 := by omega
          obtain rfl : R = (([], true), g) := by
            rw [HRL.out, hdw, List.drop_of_length_le (by rw [HN.out]; exact Nat.le_refl _)]
            rfl
          have hz1 : (((0 : Nat) : Int) == 0) = true := rfl
          clear hdw hall hr1 hm1 hof1 hwl1
          go_wp2
          go_ret2
          exact ⟨none, 0, rfl, RE.nil _ _ _, by simp, by omega, LeftL.of_below H.out hbel1, Off.zero _ _⟩
/-- Whatever comes to be merged. -/
theorem merge_any (A : Option Addr) (n c i t : Nat) (l : List Ent) (hr : RE w w.heap.size A n l) (hoff : Off (Foot p v) A n) (hb : ∀ e ∈ l, EntB e) (hnc : n ≤ c) (h63 : c ≤ 9223372036854775807) (hi : i < 18446744073709551616) (hroom : chained l i t = true → (g.es.length + n) * 40 ≤ 140737488355328) :
    Calls Try.prog 51 #[.pointer (some ⟨p, 0, none⟩), .int .u64 (i : Int), .int .u64 (t : Int), .slice A n c] w (Merged 61 B w p v (merge g i t l)) := by
  cases hc : chained l i t with
  | false =>
    have : merge g i t l = (([], false), g) := by unfold merge; rw [hc, if_pos rfl]
    rw [this]
    exact merge_bad h A n c i t l hr hb (by omega) hc
  | true => exact merge_fit h f A n c i t l hr hoff hb hnc h63 hi hc (hroom hc)
end
end Go.Proofs.Ytdbmpfongfiagaa.RlgWalkI
