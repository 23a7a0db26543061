/- What the document's Merge leaves, walked. -/
import Derived.Test.YtojmbbldehbjfaaGreatGL
import Derived.Test.YtojmbbldehbjfaaGreatHRlgWalkF
import Derived.Test.YtojmbbldehbjfaaGreatHRlgWalkH
import Derived.Test.YtojmbbldehbjfaaGreatHRlgWalkG
import Derived.Test.YtojmbbldehbjfaaGreatGX
set_option linter.unusedVariables false
namespace Go.Proofs.YtojmbbldehbjfaaGreat.RefA
open Go.RowKit Go.Proofs.YtojmbbldehbjfaaGreat.Kit Go.Proofs.YtojmbbldehbjfaaGreat.Blocks Go.Proofs.YtojmbbldehbjfaaGreat.Rlog Go.Proofs.YtojmbbldehbjfaaGreat.Ents Go.Proofs.YtojmbbldehbjfaaGreat.LogAt Go.Proofs.YtojmbbldehbjfaaGreat.App Go.Proofs.YtojmbbldehbjfaaGreat.RlgWalkA Go.Proofs.YtojmbbldehbjfaaGreat.RlgWalkB Go.Proofs.YtojmbbldehbjfaaGreat.RlgWalkC Go.Proofs.YtojmbbldehbjfaaGreat.RlgWalkD
open Go.Proofs.YtojmbbldehbjfaaGreat.Quorum (sound)

section
variable {s : Snap} (hs : SnapB s) (A : Option Addr) (n c : Nat) (l : List Ent) (w : World) (hr : RE w w.heap.size A n l) (hb : ∀ e ∈ l, EntB e)
include hs
set_option maxRecDepth 100000 in
theorem rnew_mad (h : sound s.cfg = false) : Calls Tryz.prog 11 #[snapV s, .slice A n c] w (NoLog w) := by
  have hcf := hs.cfg
  obtain ⟨ix, tm, cf, d⟩ := s
  simp only at *
  have HS := Lib.hid h
  clear h hs
  have hba : Below w.heap.size w (w.alloc (.cells #[.int .u64 (ix : Int), .int .u64 (tm : Int), .int .u64 (cf : Int), .string d] 26)) := (Below.refl _ _).alloc (Nat.le_refl _) _
  unfold snapV
  go_enter Tryz.func11, Tryz.ntmps11
  go_wp2_with fail
  refine (rsound_hid hcf HS _).mono ?_
  rintro e w1 ⟨rfl, rfl⟩
  go_wp2
  go_ret2
  exact ⟨rfl, hba⟩
include hr hb
set_option maxRecDepth 100000 in
set_option maxHeartbeats 2000000 in
theorem rnew_any (h63 : n * 40 ≤ 140737488355328) (h : sound s.cfg = true) : Calls Tryz.prog 11 #[snapV s, .slice A n c] w fun e w' =>
    if chained l s.idx s.term = true then NewLog 60 w ⟨s, l⟩ e w' else NoLog w e w' := by
  have hn := RE.len hr
  have HN := Lib.hid hn
  have hcf := hs.cfg
  have hib := hs.idx
  obtain ⟨ix, tm, cf, d⟩ := s
  simp only at *
  have HS := Lib.hid h
  have hba : Below w.heap.size w (w.alloc (.cells #[.int .u64 (ix : Int), .int .u64 (tm : Int), .int .u64 (cf : Int), .string d] 26)) := (Below.refl _ _).alloc (Nat.le_refl _) _
  have hcb := heap_alloc_new w (.cells #[.int .u64 (ix : Int), .int .u64 (tm : Int), .int .u64 (cf : Int), .string d] 26)
  have hpl : w.heap.size < (w.alloc (.cells #[.int .u64 (ix : Int), .int .u64 (tm : Int), .int .u64 (cf : Int), .string d] 26)).heap.size := by simp
  have HCB := Lib.hid hcb
  have HPl := Lib.hid hpl
  obtain ⟨R, hR⟩ : ∃ R, chained l ix tm = R := ⟨_, rfl⟩
  rw [hR]
  have HR := Lib.hid hR
  clear h hs hn hcb hR hpl
  unfold snapV
  go_enter Tryz.func11, Tryz.ntmps11
  go_wp2_with fail
  refine (rsound_hid hcf HS _).mono ?_
  rintro e w1 ⟨rfl, rfl⟩
  go_wp2_with fail
  go_quiet (fail)
  have hbq := below_drewN hba nq
  have hcq : ((w.alloc (.cells #[.int .u64 (ix : Int), .int .u64 (tm : Int), .int .u64 (cf : Int), .string d] 26)).drewN nq).heap[w.heap.size]? = _ := HCB.out
  generalize (w.alloc (.cells #[.int .u64 (ix : Int), .int .u64 (tm : Int), .int .u64 (cf : Int), .string d] 26)).drewN nq = wq at hbq hcq ⊢
  have HCQ := Lib.hid hcq
  clear hcq hba
  go_wp2_with fail
  go_loopw [6, 7, 8] (fun a b x wr => ∃ k I T : Nat, k ≤ n ∧ a = .int .u64 (I : Int) ∧ b = .int .u64 (T : Int) ∧ x = .int .i64 (k : Int) ∧ I < 18446744073709551616 ∧ Hid (lasts (l.take k) ix tm = (I, T)) ∧ Hid (chained (l.take k) ix tm = true) ∧ Below w.heap.size w wr ∧ wr.heap[w.heap.size]? = some (.cells #[.int .u64 (ix : Int), .int .u64 (tm : Int), .int .u64 (cf : Int), .string d] 26 (0, 0))) (fun _ _ x _ => n - (intOf x).toNat)
  case atStart => exact ⟨0, ix, tm, by omega, rfl, rfl, rfl, hib, Lib.hid rfl, Lib.hid rfl, hbq, HCQ.out⟩
  case round =>
    obtain ⟨k, I, T, hk, rfl, rfl, rfl, hIb, HL, HF, hbel, hcr⟩ := hrel
    have HCR := Lib.hid hcr
    clear hcr
    have hsz := hbel.size
    by_cases hkn : k < n
    · obtain ⟨b, o, e, rfl, hbl, hek, hfour⟩ := RE.at_ hr hkn
      have hfr := Four.below hfour hbel hbl
      have c0 := hfr.c0
      have c1 := hfr.c1
      have c2 := hfr.c2
      have c3 := hfr.c3
      have hep := hb e (List.mem_of_getElem? hek)
      have hidb := hep.idx
      obtain ⟨f1, f2⟩ := chained_next hek HF.out HL.out
      obtain ⟨q, hq⟩ : ∃ q, (I + 1) % 18446744073709551616 = q := ⟨_, rfl⟩
      have hwq : IntKind.u64.wrap ((I : Int) + 1) = (q : Int) := by rw [← hq]; exact wrap_succ hIb
      have hmay := fun w => rmay_any (i := I) (t := T) hep w hIb hq.symm
      obtain ⟨tm', ix', kd, d'⟩ := e
      unfold entV at hmay
      simp only at c0 c1 c2 c3 hmay f2 hidb
      obtain ⟨r, hr1⟩ : ∃ r, may ⟨tm', ix', kd, d'⟩ I T = r := ⟨_, rfl⟩
      rw [hr1] at hmay f1
      have HMay := Lib.hid hmay
      have H1 := Lib.hid f1
      have H2 := Lib.hid f2
      clear hmay f1 f2 hr1 hek hfr hfour hq hep
      cases r with
      | false =>
        go_wp2_with fail
        refine (HMay.out _).mono ?_
        rintro e' w1 ⟨rfl, hb1⟩
        obtain rfl : R = false := by rw [← HR.out]; exact chained_not H1.out
        go_wp2
        go_ret2
        exact ⟨rfl, hbel.trans (hb1.mono hsz)⟩
      | true =>
        go_wp2_with fail
        refine (HMay.out _).mono ?_
        rintro e' w1 ⟨rfl, hb1⟩
        have hB1 := hbel.trans (hb1.mono hsz)
        have d0 := (hb1.cell (p := ⟨b, o + k * 4, none⟩) (by show b < _; omega)).trans c0
        have d1 := (hb1.cell (p := ⟨b, o + k * 4 + 1, none⟩) (by show b < _; omega)).trans c1
        have hcr1 := (hb1.block w.heap.size (lt_at HCR.out)).trans HCR.out
        have HC1 := Lib.hid hcr1
        clear hb1 c0 c1 c2 c3 hcr1
        go_wp2_with fail
        go_quiet (fail)
        all_goals go_wp2
        all_goals
          go_roundw
          case rel => exact ⟨k + 1, ix', tm', by omega, rfl, rfl, by go_num, hidb, H2, H1, below_drewN hB1 _, HC1.out⟩
          case measure => simp [intOf]; omega
    · obtain rfl : k = n := by omega
      obtain rfl : R = true := by
        rw [← HR.out]
        have := HF.out
        rwa [List.take_of_length_le (by rw [HN.out]; exact Nat.le_refl _)] at this
      have c0 : wr.cell? ⟨w.heap.size, 0, none⟩ = some (.int .u64 (ix : Int)) := by rw [cell_at HCR.out]; rfl
      have c1 : wr.cell? ⟨w.heap.size, 1, none⟩ = some (.int .u64 (tm : Int)) := by rw [cell_at HCR.out]; rfl
      have c2 : wr.cell? ⟨w.heap.size, 2, none⟩ = some (.int .u64 (cf : Int)) := by rw [cell_at HCR.out]; rfl
      have c3 : wr.cell? ⟨w.heap.size, 3, none⟩ = some (.string d) := by rw [cell_at HCR.out]; rfl
      have hlt2 := lt_at HCR.out
      have hr2 : RE wr w.heap.size A k l := Kit.Reads.below hr hbel
      go_wp2_with fail
      go_region_law (first
        | (refine step_new _ rfl _ _ rfl w.heap.size rfl rfl (Reads.drew hr2) (ecells_one l) h63 hbel.size ?_
           intro A' c' w3 hown3 hb3 hat3
           have d0 : w3.cell? ⟨w.heap.size, 0, none⟩ = some (.int .u64 (ix : Int)) := (hb3.cell (p := ⟨w.heap.size, 0, none⟩) hlt2).trans c0
           have d1 : w3.cell? ⟨w.heap.size, 1, none⟩ = some (.int .u64 (tm : Int)) := (hb3.cell (p := ⟨w.heap.size, 1, none⟩) hlt2).trans c1
           have d2 : w3.cell? ⟨w.heap.size, 2, none⟩ = some (.int .u64 (cf : Int)) := (hb3.cell (p := ⟨w.heap.size, 2, none⟩) hlt2).trans c2
           have d3 : w3.cell? ⟨w.heap.size, 3, none⟩ = some (.string d) := (hb3.cell (p := ⟨w.heap.size, 3, none⟩) hlt2).trans c3))
      all_goals
        have HL2 := Lib.hid (new_log (T := 60) (ix := ix) (tm := tm) (cf := cf) (d := d) hbel hb3 hown3 HN)
        clear hown3 hat3 hb3 hbel
        go_wp2
        go_ret2
        exact ⟨_, _, rfl, HL2.out.1, HL2.out.2⟩
end
end Go.Proofs.YtojmbbldehbjfaaGreat.RefA
set_option linter.unusedVariables false
namespace Go.Proofs.YtojmbbldehbjfaaGreat.RefB
open Go.RowKit Go.Proofs.YtojmbbldehbjfaaGreat.Kit Go.Proofs.YtojmbbldehbjfaaGreat.Blocks Go.Proofs.YtojmbbldehbjfaaGreat.Rlog Go.Proofs.YtojmbbldehbjfaaGreat.Ents Go.Proofs.YtojmbbldehbjfaaGreat.LogAt Go.Proofs.YtojmbbldehbjfaaGreat.App Go.Proofs.YtojmbbldehbjfaaGreat.RlgWalkA Go.Proofs.YtojmbbldehbjfaaGreat.RlgWalkB Go.Proofs.YtojmbbldehbjfaaGreat.RlgWalkC Go.Proofs.YtojmbbldehbjfaaGreat.RlgWalkD Go.Proofs.YtojmbbldehbjfaaGreat.RlgWalkF

abbrev LR (B : Nat) (w : World) (p : Nat) (v : Value) (g : G) : Prop := LogAt 60 B w p v g
/-- What the document's Term answers. -/
def TermIs (w : World) (r : Option Nat) (e : Ending) (w' : World) : Prop := e = .returned (.tuple #[.int .u64 ((r.getD 0 : Nat) : Int), .int .i64 (if r.isSome then 0 else 20)]) ∧ w = w'
section
variable {B p : Nat} {v : Value} {g : G} {w : World} (h : LR B w p v g) (f : Fine g)
include h
set_option maxRecDepth 100000 in
/-- Index and term of the last one. -/
theorem rlast_any : Calls Tryz.prog 34 #[.pointer (some ⟨p, 0, none⟩)] w fun e w' => e = .returned (.tuple #[.int .u64 ((last g).1 : Int), .int .u64 ((last g).2 : Int)]) ∧ Below w.heap.size w w' := by
  have c0 := h.c0
  have c1 := h.c1
  have c4 := h.c4
  obtain ⟨A, c, rfl, hnc, hcm, hr⟩ := h.form
  by_cases h0 : g.es.length = 0
  · have hl : last g = (g.snap.idx, g.snap.term) := by unfold last; rw [List.eq_nil_of_length_eq_zero h0]; rfl
    rw [hl]
    rw [h0] at c4
    clear hl hr hnc h0
    go_enter Tryz.func34, Tryz.ntmps34
    go_wp2_with fail
    go_quiet (fail)
    all_goals go_wp2
    all_goals go_ret2
    all_goals exact ⟨rfl, below_drewN (Below.refl _ _) _⟩
  · obtain ⟨n, hn⟩ : ∃ n, g.es.length = n + 1 := ⟨g.es.length - 1, by omega⟩
    rw [hn] at hr
    obtain ⟨b, o, e, rfl, hbl, he, hfour⟩ := RE.at_ hr (k := n) (by omega)
    have hl : last g = (e.idx, e.term) := by
      unfold last
      rw [show g.es = g.es.take (n + 1) by rw [List.take_of_length_le (by omega)], lasts_take _ _ _ _ _ he]
    rw [hl]
    have d0 := hfour.c0
    have d1 := hfour.c1
    obtain ⟨tm, ix, kd, d⟩ := e
    simp only at d0 d1 ⊢
    rw [hn] at c4 hnc
    have hw' : IntKind.i64.wrap ((n : Int) + 1 - 1) = (n : Int) := by rw [show (n : Int) + 1 - 1 = (n : Int) by omega]; exact IntWalk.i64_in _ (by omega)
    clear hl hr hfour he hn h0
    go_enter Tryz.func34, Tryz.ntmps34
    go_wp2_with fail
    go_quiet (fail)
    all_goals go_wp2
    all_goals go_ret2
    all_goals exact ⟨rfl, below_drewN (Below.refl _ _) _⟩
include f
set_option maxRecDepth 100000 in
/-- The term of an index; 20, if it has none. -/
theorem rterm_any (i : Nat) : Calls Tryz.prog 77 #[.pointer (some ⟨p, 0, none⟩), .int .u64 (i : Int)] w (TermIs w (term g i)) := by
  have c0 := h.c0
  have c1 := h.c1
  have c4 := h.c4
  obtain ⟨A, c, rfl, hnc, hcm, hr⟩ := h.form
  obtain ⟨n, hn⟩ : ∃ n, g.es.length = n := ⟨_, rfl⟩
  rw [hn] at c4 hnc hr
  obtain ⟨S, hS⟩ : ∃ S, g.snap.idx = S := ⟨_, rfl⟩
  have HN := Lib.hid hn
  have HS := Lib.hid hS
  have HF := Lib.hid f
  rw [hS] at c0
  clear hn hS f
  go_enter Tryz.func77, Tryz.ntmps77
  go_wp2
  go_loopw [6] (fun x wr => ∃ k : Nat, k ≤ n ∧ x = .int .i64 (k : Int) ∧ Hid (∀ j e, j < k → g.es[j]? = some e → e.idx ≠ i) ∧ wr = w) (fun x _ => n - (intOf x).toNat)
  case atStart => exact ⟨0, by omega, rfl, Lib.hid (fun j e hj => absurd hj (by omega)), rfl⟩
  case round =>
    obtain ⟨k, hk, rfl, HA, rfl⟩ := hrel
    by_cases hkn : k < n
    · obtain ⟨b, o, e, rfl, hbl, he, hfour⟩ := RE.at_ hr hkn
      have d0 := hfour.c0
      have d1 := hfour.c1
      have HE := Lib.hid he
      have hterm := term_at HF.out he
      by_cases hi : e.idx = i
      · have ht : term g i = some e.term := by rw [← hi]; exact hterm
        have HT := Lib.hid ht
        have hib : ((e.idx : Int) == (i : Int)) = true := by simp [hi]
        obtain ⟨ix, hix⟩ : ∃ ix, e.idx = ix := ⟨_, rfl⟩
        obtain ⟨tm, htm⟩ : ∃ tm, e.term = tm := ⟨_, rfl⟩
        rw [hix] at d1 hib
        rw [htm] at d0
        have HTM := Lib.hid htm
        clear hterm ht he hfour hi hix htm
        go_wp2
        go_ret2
        exact ⟨by rw [HT.out, ← HTM.out]; rfl, rfl⟩
      · have hib : ((e.idx : Int) == (i : Int)) = false := by simp; omega
        have HA' : Hid (∀ j e, j < k + 1 → g.es[j]? = some e → e.idx ≠ i) := by
          intro j e' hj he'
          by_cases hjk : j = k
          · subst hjk
            rw [HE.out] at he'
            cases he'
            exact hi
          · exact HA.out j e' (by omega) he'
        obtain ⟨ix, hix⟩ : ∃ ix, e.idx = ix := ⟨_, rfl⟩
        rw [hix] at d1 hib
        clear hterm he hfour hi hix
        go_wp2
        go_roundw
        case rel => exact ⟨k + 1, by omega, by go_num, HA', by first | rfl | trivial⟩
        case measure => simp [intOf]; omega
    · obtain rfl : k = n := by omega
      have hpn : i ≠ g.snap.idx → term g i = none := fun hne => by
        cases ht : term g i with
        | none => rfl
        | some t =>
          rcases term_some ht with ⟨h1, _⟩ | ⟨q, e, hp, he, _⟩
          · exact absurd h1 hne
          · obtain ⟨hq1, hq2⟩ := place_lt hp
            exact absurd (by rw [(HF.out.at_ he).1, hq2]) (HA.out q e (by rw [← HN.out]; exact hq1) he)
      by_cases hi : i = S
      · subst hi
        have ht : term g i = some g.snap.term := by rw [← HS.out]; exact term_snap g
        have HT := Lib.hid ht
        have hib : ((i : Int) == (i : Int)) = true := by simp
        clear ht hpn
        go_wp2
        go_ret2
        exact ⟨by rw [HT.out]; rfl, rfl⟩
      · have ht := hpn (by rw [HS.out]; exact hi)
        have HT := Lib.hid ht
        have hib : ((i : Int) == (S : Int)) = false := by simp; omega
        clear ht hpn
        go_wp2
        go_ret2
        exact ⟨by rw [HT.out]; rfl, rfl⟩
end
end Go.Proofs.YtojmbbldehbjfaaGreat.RefB
set_option linter.unusedVariables false
namespace Go.Proofs.YtojmbbldehbjfaaGreat.RefC
open Go.RowKit Go.Proofs.YtojmbbldehbjfaaGreat.Kit Go.Proofs.YtojmbbldehbjfaaGreat.Blocks Go.Proofs.YtojmbbldehbjfaaGreat.Rlog Go.Proofs.YtojmbbldehbjfaaGreat.Ents Go.Proofs.YtojmbbldehbjfaaGreat.LogAt Go.Proofs.YtojmbbldehbjfaaGreat.App Go.Proofs.YtojmbbldehbjfaaGreat.RlgWalkA Go.Proofs.YtojmbbldehbjfaaGreat.RlgWalkB Go.Proofs.YtojmbbldehbjfaaGreat.RlgWalkC Go.Proofs.YtojmbbldehbjfaaGreat.RlgWalkD Go.Proofs.YtojmbbldehbjfaaGreat.RlgWalkF Go.Proofs.YtojmbbldehbjfaaGreat.RlgWalkH Go.Proofs.YtojmbbldehbjfaaGreat.RefB

theorem gives_of {w w' : World} {v : Value} {n : Nat} {l : List Ent} (h : w'.ownsRow w.heap.size 81 4 v n (ecells l)) (hn : n = l.length) (hb : Below w.heap.size w w') : Gives w l (.returned v) w' := by
  subst hn
  obtain ⟨A, c, rfl, h1, h2, h3⟩ := own_form h
  unfold maxLen at h2
  exact ⟨A, c, rfl, h3, h1, by omega, hb, off_own h⟩
/-- A row of the call's own, one entry more. -/
theorem more_own {w wr w1 : World} {o : Obj} {v : Value} {A' : Option Addr} {c' n : Nat} {l : List Ent} {e : Ent} (hown : wr.ownsRow w.heap.size 81 4 v n (ecells l)) (hb : Below w.heap.size w wr)
    (h1 : w1.ownsRow w.heap.size 81 4 (.slice A' (n + 1) c') (n + 1) (ecells l ++ ecells [e])) (hg : (wr.alloc o).grownBy w1 v.ownBlock) :
    w1.ownsRow w.heap.size 81 4 (.slice A' (n + 1) c') (n + 1) (ecells (l ++ [e])) ∧ Below w.heap.size w w1 := by
  rw [ecells_append]
  exact ⟨h1, (hb.alloc hb.size o).grown hg (by have := hb.size; simp; omega) (fun k hk => (hown.lt k hk).1)⟩

section
variable {B p : Nat} {v : Value} {g : G} {w : World} (h : LR B w p v g) (f : Fine g)
include h f
set_option maxRecDepth 100000 in
set_option maxHeartbeats 1000000 in
theorem rget_none {i : Nat} {n : Int} (hp : place g i = none) : Calls Tryz.prog 108 #[.pointer (some ⟨p, 0, none⟩), .int .u64 (i : Int), .int .i64 n] w (Gives w []) := by
  have c4 := h.c4
  have hlt := h.lt
  obtain ⟨A, c, rfl, hnc, hcm, hr⟩ := h.form
  obtain ⟨L, hL⟩ : ∃ L, g.es.length = L := ⟨_, rfl⟩
  rw [hL] at c4 hnc hr
  have HF := Lib.hid f
  have HP := Lib.hid hp
  clear hL f hp
  go_enter Tryz.func108, Tryz.ntmps108
  go_wp2
  go_loopw [7, 8] (fun s x wr => ∃ k : Nat, k ≤ L ∧ s = .slice none 0 0 ∧ x = .int .i64 (k : Int) ∧ Below w.heap.size w wr) (fun _ x _ => L - (intOf x).toNat)
  case atStart => exact ⟨0, by omega, rfl, rfl, Below.refl _ _⟩
  case round =>
    obtain ⟨k, hk, rfl, rfl, hbel⟩ := hrel
    have c4r := (hbel.cell (p := ⟨p, 4, none⟩) hlt).trans c4
    by_cases hkL : k < L
    · by_cases hn : 0 < n
      · obtain ⟨b, o, e, rfl, hbl, he, hfour⟩ := RE.at_ hr hkL
        have d1 := (Four.below hfour hbel hbl).c1
        have hne : e.idx ≠ i := fun hi => by
          have := (HF.out.at_ he).2.2.1
          rw [hi, HP.out] at this
          cases this
        obtain ⟨ix, hix⟩ : ∃ ix, e.idx = ix := ⟨_, rfl⟩
        rw [hix] at d1 hne
        have hne1 : ((ix : Int) == (i : Int)) = false := by simp; omega
        clear he hfour hix hne
        by_cases hge : i ≤ ix
        · go_wp2
          go_roundw
          case rel => exact ⟨k + 1, by omega, rfl, by go_num, hbel⟩
          case measure => simp [intOf]; omega
        · go_wp2
          go_roundw
          case rel => exact ⟨k + 1, by omega, rfl, by go_num, hbel⟩
          case measure => simp [intOf]; omega
      · go_wp2
        go_ret
        exact ⟨none, 0, rfl, RE.nil _ _ _, by simp, by omega, hbel, Off.zero _ _⟩
    · obtain rfl : k = L := by omega
      go_wp2
      go_ret
      exact ⟨none, 0, rfl, RE.nil _ _ _, by simp, by omega, hbel, Off.zero _ _⟩
set_option maxRecDepth 100000 in
set_option maxHeartbeats 2000000 in
theorem rget_some {i q : Nat} {n : Int} (hp : place g i = some q) (hl : g.es.length * 40 ≤ 140737488355328) : Calls Tryz.prog 108 #[.pointer (some ⟨p, 0, none⟩), .int .u64 (i : Int), .int .i64 n] w (Gives w ((g.es.drop q).take n.toNat)) := by
  have c4 := h.c4
  have hlt := h.lt
  obtain ⟨A, c, rfl, hnc, hcm, hr⟩ := h.form
  obtain ⟨hq, hiq⟩ := place_lt hp
  obtain ⟨L, hL⟩ : ∃ L, g.es.length = L := ⟨_, rfl⟩
  rw [hL] at c4 hnc hr hl hq
  have HL := Lib.hid hL
  have HF := Lib.hid f
  have HI := Lib.hid hiq
  clear hL f hp hiq
  go_enter Tryz.func108, Tryz.ntmps108
  go_wp2
  go_loopw [7, 8] (fun s x wr => ∃ k m : Nat, k ≤ L ∧ Hid (m = k - q) ∧ (m : Int) ≤ max n 0 ∧ x = .int .i64 (k : Int) ∧ wr.ownsRow w.heap.size 81 4 s m (ecells ((g.es.drop q).take m)) ∧ Below w.heap.size w wr) (fun _ x _ => L - (intOf x).toNat)
  case atStart => exact ⟨0, 0, by omega, Lib.hid (by omega), by omega, rfl, by simpa [ecells] using World.ownsRow_nil _ _ _ _, Below.refl _ _⟩
  case round =>
    obtain ⟨k, m, hk, HM, hkq, rfl, hown, hbel⟩ := hrel
    have c4r := (hbel.cell (p := ⟨p, 4, none⟩) hlt).trans c4
    obtain ⟨A0, c0, rfl, _, _, _⟩ := own_form hown
    have hm := HM.out
    have hend : Gives w ((g.es.drop q).take m) (.returned (.slice A0 m c0)) wr := gives_of hown (by rw [List.length_take, List.length_drop, HL.out]; omega) hbel
    have HEnd := Lib.hid hend
    have HO := Lib.hid hown
    have hsz := hbel.size
    by_cases hkL : k < L
    · by_cases hn : (m : Int) < n
      · obtain ⟨b, o, e, rfl, hbl, he, hfour⟩ := RE.at_ hr hkL
        have hfr := Four.below hfour hbel hbl
        have d0 := hfr.c0
        have d1 := hfr.c1
        have d2 := hfr.c2
        have d3 := hfr.c3
        have hidx := (HF.out.at_ he).1
        have hI := HI.out
        by_cases hkq2 : k < q
        · obtain rfl : m = 0 := by omega
          have hlt1 : ¬ i ≤ e.idx := by omega
          obtain ⟨ix, hix⟩ : ∃ ix, e.idx = ix := ⟨_, rfl⟩
          rw [hix] at d1 hlt1
          have hm0 : Hid (0 = k + 1 - q) := Lib.hid (by omega)
          clear he hfour hfr hix hm hend hown hI hidx
          go_wp2
          go_roundw
          case rel => exact ⟨k + 1, 0, by omega, hm0, hkq, by go_num, HO.out, hbel⟩
          case measure => simp [intOf]; omega
        · have hge : i ≤ e.idx := by omega
          have hcond : 0 < m ∨ ((e.idx : Int) == (i : Int)) = true := by
            rcases Nat.eq_zero_or_pos m with h0 | h0
            · right; simp; omega
            · exact .inl h0
          have hnext : (g.es.drop q).take (m + 1) = (g.es.drop q).take m ++ [e] := by
            rw [take_snoc (g.es.drop q) m e]
            rw [List.getElem?_drop, show q + m = k by omega]
            exact he
          have hm40 : (m + 1) * 40 ≤ 140737488355328 := by omega
          obtain ⟨tm, ix, kd, d⟩ := e
          simp only at d0 d1 d2 d3 hge hcond
          have hnews : RE (wr.alloc (.cells #[.int .u64 (tm : Int), .int .u64 (ix : Int), .int .i64 kd, .string d] 81)) (wr.heap.size + 1) (some ⟨wr.heap.size, 0, none⟩) 1 [⟨tm, ix, kd, d⟩] := ent_new wr ⟨tm, ix, kd, d⟩ 81
          have hownA : ∀ o, (wr.alloc o).ownsRow w.heap.size 81 4 (.slice A0 m c0) m (ecells ((g.es.drop q).take m)) := fun o => ((Only.refl (fun _ => False) wr).alloc o).own hown (by simp)
          have hba : ∀ o, w.heap.size ≤ (wr.alloc o).heap.size := fun o => by simp; omega
          have HNX := Lib.hid hnext
          have hkm : Hid (m + 1 = k + 1 - q) := Lib.hid (by omega)
          have hm1 : (m : Int) + 1 ≤ max n 0 := by omega
          have hm2 : ((m + 1 : Nat) : Int) ≤ max n 0 := by omega
          have HM2 := Lib.hid hm2
          clear he hfour hfr hm hend hown hI hidx hnext hkq2 hkq hm2
          by_cases hc2 : 0 < m
          · have hc1 : decide (0 < m) = true := decide_eq_true hc2
            go_wp2_with (first
              | (at_builtin
                 refine wpList_app (v := .slice A0 m c0) _ rfl _ _ rfl w.heap.size rfl (hownA _) rfl hnews (ecells_one _) hm40 (hba _) ?_
                 intro A' c' w1 hown1 hg1 hat1
                 obtain ⟨ho1, hb1⟩ := more_own HO.out hbel hown1 hg1
                 clear hown1 hg1 hat1))
            go_roundw
            case rel => exact ⟨k + 1, m + 1, by omega, hkm, HM2.out, by go_num, by rw [HNX.out]; exact ho1, hb1⟩
            case measure => simp [intOf]; omega
          · have hc1 : decide (0 < m) = false := decide_eq_false hc2
            have hc := hcond.resolve_left hc2
            go_wp2_with (first
              | (at_builtin
                 refine wpList_app (v := .slice A0 m c0) _ rfl _ _ rfl w.heap.size rfl (hownA _) rfl hnews (ecells_one _) hm40 (hba _) ?_
                 intro A' c' w1 hown1 hg1 hat1
                 obtain ⟨ho1, hb1⟩ := more_own HO.out hbel hown1 hg1
                 clear hown1 hg1 hat1))
            go_roundw
            case rel => exact ⟨k + 1, m + 1, by omega, hkm, HM2.out, by go_num, by rw [HNX.out]; exact ho1, hb1⟩
            case measure => simp [intOf]; omega
      · have htk : (g.es.drop q).take n.toNat = (g.es.drop q).take m := by congr 1; omega
        have HTK := Lib.hid htk
        clear htk hend hown hm
        go_wp2
        go_ret
        rw [HTK.out]
        exact HEnd.out
    · obtain rfl : k = L := by omega
      have htk : (g.es.drop q).take n.toNat = (g.es.drop q).take m := by
        have hdl : (g.es.drop q).length = m := by rw [List.length_drop, HL.out]; omega
        rw [List.take_of_length_le (l := g.es.drop q) (i := m) (by omega), List.take_of_length_le (by omega)]
      have HTK := Lib.hid htk
      clear htk hend hown hm
      go_wp2
      go_ret
      rw [HTK.out]
      exact HEnd.out
/-- Up to n entries from an index on. -/
theorem rget_any {i : Nat} {n : Int} (hl : g.es.length * 40 ≤ 140737488355328) : Calls Tryz.prog 108 #[.pointer (some ⟨p, 0, none⟩), .int .u64 (i : Int), .int .i64 n] w (Gives w (get g i n)) := by
  unfold Rlog.get
  cases hp : place g i with
  | none => exact rget_none h f hp
  | some k => exact rget_some h f hp hl
end
end Go.Proofs.YtojmbbldehbjfaaGreat.RefC
set_option linter.unusedVariables false
namespace Go.Proofs.YtojmbbldehbjfaaGreat.RefD
open Go.RowKit Go.Proofs.YtojmbbldehbjfaaGreat.Kit Go.Proofs.YtojmbbldehbjfaaGreat.Blocks Go.Proofs.YtojmbbldehbjfaaGreat.Rlog Go.Proofs.YtojmbbldehbjfaaGreat.Ents Go.Proofs.YtojmbbldehbjfaaGreat.LogAt Go.Proofs.YtojmbbldehbjfaaGreat.App Go.Proofs.YtojmbbldehbjfaaGreat.RlgWalkA Go.Proofs.YtojmbbldehbjfaaGreat.RlgWalkB Go.Proofs.YtojmbbldehbjfaaGreat.RlgWalkC Go.Proofs.YtojmbbldehbjfaaGreat.RlgWalkD Go.Proofs.YtojmbbldehbjfaaGreat.RlgWalkF Go.Proofs.YtojmbbldehbjfaaGreat.RefB

theorem neq_ent (a b c : Int) (d : ByteArray) (w : World) : (binOp .neq 81 (.agg #[.int .u64 a, .int .u64 b, .int .i64 c, .string d]) (.agg #[.int .u64 a, .int .u64 b, .int .i64 c, .string d])).run Tryz.prog w = .ok (.bool false) w := by
  simp [binOp, Op.equal, Op.maxDepth, go_sem]
set_option maxRecDepth 100000 in
/-- Slices of the same entries. -/
theorem same_any {w : World} {A C : Option Addr} {n ca cc : Nat} {l : List Ent} (ha : RE w w.heap.size A n l) (hc : RE w w.heap.size C n l) (h63 : n ≤ 9223372036854775807) :
    Calls Tryz.prog 18 #[.slice A n ca, .slice C n cc] w fun e w' => e = .returned (.bool true) ∧ Below w.heap.size w w' := by
  go_enter Tryz.func18, Tryz.ntmps18
  go_wp2
  go_loopw [5] (fun x wr => ∃ k : Nat, k ≤ n ∧ x = .int .i64 (k : Int) ∧ Below w.heap.size w wr) (fun x _ => n - (intOf x).toNat)
  case atStart => exact ⟨0, by omega, rfl, Below.refl _ _⟩
  case round =>
    obtain ⟨k, hk, rfl, hbel⟩ := hrel
    by_cases hkn : k < n
    · obtain ⟨b, o, e, rfl, hbl, he, hfour⟩ := RE.at_ ha hkn
      obtain ⟨b', o', e', rfl, hbl', he', hfour'⟩ := RE.at_ hc hkn
      obtain rfl : e = e' := by rw [he] at he'; exact Option.some.inj he'
      have hfr := Four.below hfour hbel hbl
      have hfr' := Four.below hfour' hbel hbl'
      have c0 := hfr.c0
      have c1 := hfr.c1
      have c2 := hfr.c2
      have c3 := hfr.c3
      have d0 := hfr'.c0
      have d1 := hfr'.c1
      have d2 := hfr'.c2
      have d3 := hfr'.c3
      obtain ⟨tm, ix, kd, d⟩ := e
      simp only at c0 c1 c2 c3 d0 d1 d2 d3
      have hneq := neq_ent (tm : Int) (ix : Int) kd d
      clear hfr hfr' hfour hfour' he he' ha hc
      go_wp2_with fail
      go_quiet (fail)
      all_goals go_wp2
      all_goals
        go_roundw
        case rel => exact ⟨k + 1, by omega, by go_num, below_drewN hbel _⟩
        case measure => simp [intOf]; omega
    · obtain rfl : k = n := by omega
      go_wp2
      go_ret
      exact ⟨rfl, hbel⟩
/-- What a call that only tells a pair leaves. -/
def PairIs (w : World) (a b : Nat) (e : Ending) (w' : World) : Prop := e = .returned (.tuple #[.int .u64 (a : Int), .int .u64 (b : Int)]) ∧ Below w.heap.size w w'
theorem members_step {s : Snap} {es : List Ent} {k i : Nat} {e : Ent} (he : es[k]? = some e) :
    members ⟨s, es.take (k + 1)⟩ i = if e.kind = 2 ∧ e.idx ≤ i then (setOf e.data, e.idx) else members ⟨s, es.take k⟩ i := by
  unfold members
  simp only [take_snoc es k e he, pick_snoc]
  by_cases h : e.kind = 2 ∧ e.idx ≤ i
  · rw [if_pos h, if_pos h]
  · rw [if_neg h, if_neg h]
section
variable {B p : Nat} {v : Value} {g : G} {w : World} (h : LR B w p v g) (f : Fine g)
include h f
set_option maxRecDepth 100000 in
set_option maxHeartbeats 1000000 in
/-- The set that held at an index. -/
theorem rmembers_any (i : Nat) : Calls Tryz.prog 72 #[.pointer (some ⟨p, 0, none⟩), .int .u64 (i : Int)] w (PairIs w (members g i).1 (members g i).2) := by
  have c0 := h.c0
  have c2 := h.c2
  have hlt := h.lt
  have c4 := h.c4
  obtain ⟨A, c, rfl, hnc, hcm, hr⟩ := h.form
  obtain ⟨n, hn⟩ : ∃ n, g.es.length = n := ⟨_, rfl⟩
  rw [hn] at c4 hnc hr
  obtain ⟨R1, hR1⟩ : ∃ R, (members g i).1 = R := ⟨_, rfl⟩
  obtain ⟨R2, hR2⟩ : ∃ R, (members g i).2 = R := ⟨_, rfl⟩
  rw [hR1, hR2]
  have HR1 := Lib.hid hR1
  have HR2 := Lib.hid hR2
  have HN := Lib.hid hn
  have HF := Lib.hid f
  have H0 : Hid (members ⟨g.snap, g.es.take 0⟩ i = (g.snap.cfg, g.snap.idx)) := rfl
  obtain ⟨S, hS⟩ : ∃ S, g.snap.idx = S := ⟨_, rfl⟩
  obtain ⟨C, hC⟩ : ∃ C, g.snap.cfg = C := ⟨_, rfl⟩
  rw [hS] at c0 H0
  rw [hC] at c2 H0
  clear hR1 hR2 hn f hS hC
  go_enter Tryz.func72, Tryz.ntmps72
  go_wp2_with fail
  go_quiet (fail)
  have hbq := below_drewN (Below.refl w.heap.size w) nq
  generalize w.drewN nq = wq at hbq ⊢
  go_wp2_with fail
  go_loopw [6, 7, 8] (fun a b x wr => ∃ k I T : Nat, k ≤ n ∧ a = .int .u64 (I : Int) ∧ b = .int .u64 (T : Int) ∧ x = .int .i64 (k : Int) ∧ Hid (members ⟨g.snap, g.es.take k⟩ i = (I, T)) ∧ Below w.heap.size w wr) (fun _ _ x _ => n - (intOf x).toNat)
  case atStart => exact ⟨0, C, S, by omega, rfl, rfl, rfl, H0, hbq⟩
  case round =>
    obtain ⟨k, I, T, hk, rfl, rfl, rfl, HM, hbel⟩ := hrel
    have c4r := (hbel.cell (p := ⟨p, 4, none⟩) hlt).trans c4
    have hsz := hbel.size
    by_cases hkn : k < n
    · obtain ⟨b, o, e, rfl, hbl, he, hfour⟩ := RE.at_ hr hkn
      have hfr := Four.below hfour hbel hbl
      have d1 := hfr.c1
      have d2 := hfr.c2
      have d3 := hfr.c3
      have hst := members_step (s := g.snap) (i := i) he
      have hsz2 : e.data.size ≤ 9223372036854775807 := ((HF.out.at_ he).2.1).size
      obtain ⟨tm, ix, kd, d⟩ := e
      simp only at d1 d2 d3 hst hsz2
      by_cases h2 : kd = 2
      · subst h2
        by_cases hi : ix ≤ i
        · rw [if_pos ⟨rfl, hi⟩] at hst
          obtain ⟨q, hq⟩ : ∃ q, setOf d = q := ⟨_, rfl⟩
          rw [hq] at hst
          have HST := Lib.hid hst
          have hsaid := said_any d
          rw [hq] at hsaid
          have HSd := Lib.hid hsaid
          clear hsaid hst hq hfr hfour he
          have hib : decide (ix ≤ i) = true := decide_eq_true hi
          go_wp2_with fail
          refine (HSd.out _ hsz2).mono ?_
          rintro e w1 ⟨rfl, hb1⟩
          have hB1 := hbel.trans (hb1.mono hsz)
          have e1 := (hb1.cell (p := ⟨b, o + k * 4 + 1, none⟩) (by show b < _; omega)).trans d1
          have e4 := (hb1.cell (p := ⟨p, 4, none⟩) (by show p < _; omega)).trans c4r
          go_wp2_with fail
          go_roundw
          case rel => exact ⟨k + 1, q, ix, by omega, rfl, rfl, by go_num, HST, hB1⟩
          case measure => simp [intOf]; omega
        · rw [if_neg (by intro h; exact hi h.2)] at hst
          have HST : Hid (members ⟨g.snap, g.es.take (k + 1)⟩ i = (I, T)) := hst.trans HM.out
          clear hst hfr hfour he
          have hib : decide (ix ≤ i) = false := decide_eq_false hi
          go_wp2_with fail
          go_roundw
          case rel => exact ⟨k + 1, I, T, by omega, rfl, rfl, by go_num, HST, hbel⟩
          case measure => simp [intOf]; omega
      · rw [if_neg (by intro h; exact h2 h.1)] at hst
        have HST : Hid (members ⟨g.snap, g.es.take (k + 1)⟩ i = (I, T)) := hst.trans HM.out
        have hkb : (kd == 2) = false := by simpa using h2
        clear hst hfr hfour he h2
        go_wp2_with fail
        go_roundw
        case rel => exact ⟨k + 1, I, T, by omega, rfl, rfl, by go_num, HST, hbel⟩
        case measure => simp [intOf]; omega
    · obtain rfl : k = n := by omega
      have hM := HM.out
      rw [List.take_of_length_le (by rw [HN.out]; exact Nat.le_refl _)] at hM
      obtain rfl : R1 = I := by rw [← HR1.out]; exact congrArg Prod.fst hM
      obtain rfl : R2 = T := by rw [← HR2.out]; exact congrArg Prod.snd hM
      clear hM
      go_wp2_with fail
      go_ret2
      exact ⟨rfl, hbel⟩
end
end Go.Proofs.YtojmbbldehbjfaaGreat.RefD
set_option linter.unusedVariables false
namespace Go.Proofs.YtojmbbldehbjfaaGreat.RefE
open Go.RowKit Go.Proofs.YtojmbbldehbjfaaGreat.Kit Go.Proofs.YtojmbbldehbjfaaGreat.Blocks Go.Proofs.YtojmbbldehbjfaaGreat.Rlog Go.Proofs.YtojmbbldehbjfaaGreat.Ents Go.Proofs.YtojmbbldehbjfaaGreat.LogAt Go.Proofs.YtojmbbldehbjfaaGreat.App Go.Proofs.YtojmbbldehbjfaaGreat.RlgWalkA Go.Proofs.YtojmbbldehbjfaaGreat.RlgWalkB Go.Proofs.YtojmbbldehbjfaaGreat.RlgWalkC Go.Proofs.YtojmbbldehbjfaaGreat.RlgWalkD Go.Proofs.YtojmbbldehbjfaaGreat.RlgWalkF Go.Proofs.YtojmbbldehbjfaaGreat.RlgWalkG Go.Proofs.YtojmbbldehbjfaaGreat.RlgWalkH Go.Proofs.YtojmbbldehbjfaaGreat.RefB Go.Proofs.YtojmbbldehbjfaaGreat.RefC

section
variable {B p : Nat} {v : Value} {g : G} {w : World} (h : LR B w p v g) (f : Fine g)
include h f
set_option maxRecDepth 100000 in
set_option maxHeartbeats 2000000 in
/-- All entries from an index on are gone. -/
theorem rcut_any (i : Nat) (hl : g.es.length * 40 ≤ 140737488355328) : Calls Tryz.prog 127 #[.pointer (some ⟨p, 0, none⟩), .int .u64 (i : Int)] w (Leaves0 60 B w p v (cut g i)) := by
  have c4 := h.c4
  have hlt := h.lt
  have hbase := h.base
  have H := Lib.hid h
  obtain ⟨A, c, rfl, hnc, hcm, hr⟩ := h.form
  obtain ⟨L, hL⟩ : ∃ L, g.es.length = L := ⟨_, rfl⟩
  rw [hL] at c4 hnc hr hl
  obtain ⟨R, hR⟩ : ∃ R, cut g i = R := ⟨_, rfl⟩
  rw [hR]
  have HR := Lib.hid hR
  have HL := Lib.hid hL
  have HF := Lib.hid f
  clear hL f h hR
  go_enter Tryz.func127, Tryz.ntmps127
  go_wp2
  go_loopw [4, 5] (fun s x wr => ∃ k : Nat, k ≤ L ∧ x = .int .i64 (k : Int) ∧ Hid (∀ j e, j < k → g.es[j]? = some e → e.idx ≠ i) ∧ wr.ownsRow w.heap.size 81 4 s k (ecells (g.es.take k)) ∧ Below w.heap.size w wr) (fun _ x _ => L - (intOf x).toNat)
  case atStart => exact ⟨0, by omega, rfl, Lib.hid (fun j e hj => absurd hj (by omega)), by simpa [ecells] using World.ownsRow_nil _ _ _ _, Below.refl _ _⟩
  case round =>
    obtain ⟨k, hk, rfl, HA, hown, hbel⟩ := hrel
    have c4r := (hbel.cell (p := ⟨p, 4, none⟩) hlt).trans c4
    obtain ⟨A0, c0, rfl, _, _, _⟩ := own_form hown
    have HO := Lib.hid hown
    have hsz := hbel.size
    by_cases hkL : k < L
    · obtain ⟨b, o, e, rfl, hbl, he, hfour⟩ := RE.at_ hr hkL
      have hfr := Four.below hfour hbel hbl
      have d0 := hfr.c0
      have d1 := hfr.c1
      have d2 := hfr.c2
      have d3 := hfr.c3
      by_cases hi : e.idx = i
      · have hib : ((e.idx : Int) == (i : Int)) = true := by simp [hi]
        have hcut : cut g i = { g with es := g.es.take k } := by
          unfold cut upto
          rw [← hi, (HF.out.at_ he).2.2.1]
        obtain rfl : R = { g with es := g.es.take k } := by rw [← HR.out]; exact hcut
        obtain ⟨hcell, hfz, hleft⟩ := H.out.rowed (v1 := .slice A0 k c0) (es := g.es.take k) (Only.of_below hbel) (own_base hown hbase) (by rw [List.length_take, HL.out]; omega) rfl (fun q hq => .inr (hown.lt q hq).1)
        have hltr : p < wr.heap.size := by omega
        have HLeft := Lib.hid hleft
        clear hleft hown hfr hfour he hi hcut
        obtain ⟨ix, hix⟩ : ∃ ix, e.idx = ix := ⟨_, rfl⟩
        rw [hix] at d1 hib
        clear hix
        go_wp2
        go_end0
        exact ⟨rfl, HLeft.out⟩
      · have hib : ((e.idx : Int) == (i : Int)) = false := by simp; omega
        have HA' : Hid (∀ j e, j < k + 1 → g.es[j]? = some e → e.idx ≠ i) := by
          intro j e' hj he'
          by_cases hjk : j = k
          · subst hjk
            rw [he] at he'
            cases he'
            exact hi
          · exact HA.out j e' (by omega) he'
        have hnext := take_snoc g.es k e he
        have hm40 : (k + 1) * 40 ≤ 140737488355328 := by omega
        obtain ⟨tm, ix, kd, d⟩ := e
        simp only at d0 d1 d2 d3 hib
        have hnews : RE (wr.alloc (.cells #[.int .u64 (tm : Int), .int .u64 (ix : Int), .int .i64 kd, .string d] 81)) (wr.heap.size + 1) (some ⟨wr.heap.size, 0, none⟩) 1 [⟨tm, ix, kd, d⟩] := ent_new wr ⟨tm, ix, kd, d⟩ 81
        have hownA : ∀ o, (wr.alloc o).ownsRow w.heap.size 81 4 (.slice A0 k c0) k (ecells (g.es.take k)) := fun o => ((Only.refl (fun _ => False) wr).alloc o).own hown (by simp)
        have hba : ∀ o, w.heap.size ≤ (wr.alloc o).heap.size := fun o => by simp; omega
        have HNX := Lib.hid hnext
        clear he hfour hfr hown hnext hi
        go_wp2_with (first
          | (at_builtin
             refine wpList_app (v := .slice A0 k c0) _ rfl _ _ rfl w.heap.size rfl (hownA _) rfl hnews (ecells_one _) hm40 (hba _) ?_
             intro A' c' w1 hown1 hg1 hat1
             obtain ⟨ho1, hb1⟩ := more_own HO.out hbel hown1 hg1
             clear hown1 hg1 hat1))
        go_roundw
        case rel => exact ⟨k + 1, by omega, by go_num, HA', by rw [HNX.out]; exact ho1, hb1⟩
        case measure => simp [intOf]; omega
    · obtain rfl : k = L := by omega
      have hcut : cut g i = g := by
        unfold cut upto
        cases hp : place g i with
        | none => rfl
        | some q =>
          obtain ⟨hq1, hq2⟩ := place_lt hp
          have he := List.getElem?_eq_getElem hq1
          exact absurd (by rw [(HF.out.at_ he).1, hq2]) (HA.out q _ (by rw [← HL.out]; exact hq1) he)
      obtain rfl : R = g := by rw [← HR.out]; exact hcut
      clear hcut hown
      go_wp2
      go_end0
      exact ⟨rfl, LeftL.of_below H.out hbel⟩
end
end Go.Proofs.YtojmbbldehbjfaaGreat.RefE
set_option linter.unusedVariables false
namespace Go.Proofs.YtojmbbldehbjfaaGreat.RefF
open Go.RowKit Go.Proofs.YtojmbbldehbjfaaGreat.Kit Go.Proofs.YtojmbbldehbjfaaGreat.Blocks Go.Proofs.YtojmbbldehbjfaaGreat.Rlog Go.Proofs.YtojmbbldehbjfaaGreat.Ents Go.Proofs.YtojmbbldehbjfaaGreat.LogAt Go.Proofs.YtojmbbldehbjfaaGreat.App Go.Proofs.YtojmbbldehbjfaaGreat.RlgWalkA Go.Proofs.YtojmbbldehbjfaaGreat.RlgWalkB Go.Proofs.YtojmbbldehbjfaaGreat.RlgWalkC Go.Proofs.YtojmbbldehbjfaaGreat.RlgWalkD Go.Proofs.YtojmbbldehbjfaaGreat.RlgWalkF Go.Proofs.YtojmbbldehbjfaaGreat.RlgWalkG Go.Proofs.YtojmbbldehbjfaaGreat.RlgWalkH Go.Proofs.YtojmbbldehbjfaaGreat.RefB Go.Proofs.YtojmbbldehbjfaaGreat.RefC

section
variable {B p : Nat} {v : Value} {g : G} {w : World} (h : LR B w p v g) (f : Fine g) (t : Nat) (kind : Int) (d : ByteArray)
include h f
variable (ht : t < 18446744073709551616) (k0 : -9223372036854775808 ≤ kind) (k1 : kind ≤ 9223372036854775807) (hd : d.size ≤ 9223372036854775807)
include ht k0 k1 hd
set_option maxRecDepth 100000 in
set_option maxHeartbeats 1000000 in
theorem radd_bad {q : Nat} (hq : q = ((last g).1 + 1) % 18446744073709551616) (hm : may ⟨t, q, kind, d⟩ (last g).1 (last g).2 = false) : Calls Tryz.prog 109 #[.pointer (some ⟨p, 0, none⟩), .int .u64 (t : Int), .int .i64 kind, .string d] w (Adds 60 B w p v ((noEnt, 1), g)) := by
  have hba : Below w.heap.size w (w.alloc (.cells #[.int .u64 0, .int .u64 0, .int .i64 0, .string .empty] 81)) := (Below.refl _ _).alloc (Nat.le_refl _) _
  have hla := rlast_any (h.below hba)
  have hlb := f.last_b.1
  have hbe : EntB ⟨t, q, kind, d⟩ := ⟨ht, by show q < _; omega, k0, k1, hd⟩
  have hlie := fun w => rmay_any (i := (last g).1) (t := (last g).2) hbe w hlb hq
  rw [hm] at hlie
  unfold entV at hlie
  simp only at hlie
  have hw : IntKind.u64.wrap (((last g).1 : Int) + 1) = (q : Int) := by rw [hq]; exact wrap_succ hlb
  obtain ⟨I, hI⟩ : ∃ I, (last g).1 = I := ⟨_, rfl⟩
  obtain ⟨L, hL⟩ : ∃ L, (last g).2 = L := ⟨_, rfl⟩
  rw [hI] at hla hw
  rw [hL] at hla hlie
  have HLa := Lib.hid hla
  have HLie := Lib.hid hlie
  have HB := Lib.hid hba
  have HC := Lib.hid (Box4.new w (.int .u64 0) (.int .u64 0) (.int .i64 0) (.string .empty) 81)
  have H := Lib.hid h
  clear hla hL hba h hlie hI hlb hm f hq hbe
  go_enter Tryz.func109, Tryz.ntmps109
  go_wp2_with fail
  refine HLa.out.mono ?_
  rintro e w1 ⟨rfl, hb1⟩
  have hs1 : w.heap.size + 1 ≤ w1.heap.size := by have := hb1.size; simpa using this
  go_wp2_with fail
  refine (HLie.out _).mono ?_
  rintro e w2 ⟨rfl, hb2⟩
  have hb12 : Below w1.heap.size w1 w2 := ((Below.refl _ _).alloc (Nat.le_refl _) _).trans (hb2.mono (by simp))
  have hx := (HC.out.below hb1).below hb12
  have c0 := hx.c0
  have c1 := hx.c1
  have c2 := hx.c2
  have c3 := hx.c3
  have f0 := hx.free 0
  have f1 := hx.free 1
  have f2 := hx.free 2
  have f3 := hx.free 3
  have hlt := hx.lt
  have HX := Lib.hid hx
  have HB1 : Hid (Below w.heap.size w w2) := Lib.hid ((HB.out.trans (hb1.mono (by simp))).trans (hb12.mono (by omega)))
  clear hx hb1 hb2 hb12
  go_wp2
  have hs := HX.out.set (.int .u64 0) (.int .u64 0) (.int .i64 0) (.string .empty)
  refine bodyPost_ret (results_row_tmp (p := 8) (u := 9) (ty := 81) rfl _ _ w.heap.size 81 _ (0, 0) _ rfl hs.1.blk Tryz.underlying81 rfl (by kernel_rfl)) rfl ?_
  exact ⟨rfl, LeftL.of_below H.out (HB1.out.trans (hs.2.below (by have := HX.out.lt; omega) fun q hq => by rw [hq]; exact Nat.le_refl _))⟩
set_option maxRecDepth 100000 in
set_option maxHeartbeats 2000000 in
theorem radd_ok {q : Nat} (hq : q = ((last g).1 + 1) % 18446744073709551616) (hm : may ⟨t, q, kind, d⟩ (last g).1 (last g).2 = true) (hroom : (g.es.length + 1) * 40 ≤ 140737488355328) :
    Calls Tryz.prog 109 #[.pointer (some ⟨p, 0, none⟩), .int .u64 (t : Int), .int .i64 kind, .string d] w (Adds 60 B w p v ((⟨t, q, kind, d⟩, 0), { g with es := g.es ++ [⟨t, q, kind, d⟩] })) := by
  have hba : Below w.heap.size w (w.alloc (.cells #[.int .u64 0, .int .u64 0, .int .i64 0, .string .empty] 81)) := (Below.refl _ _).alloc (Nat.le_refl _) _
  have hla := rlast_any (h.below hba)
  have hlb := f.last_b.1
  have hbe : EntB ⟨t, q, kind, d⟩ := ⟨ht, by show q < _; omega, k0, k1, hd⟩
  have hlie := fun w => rmay_any (i := (last g).1) (t := (last g).2) hbe w hlb hq
  rw [hm] at hlie
  obtain ⟨ne, hne0⟩ : ∃ ne : Ent, ⟨t, q, kind, d⟩ = ne := ⟨_, rfl⟩
  have hnt : ne = ⟨t, q, kind, d⟩ := hne0.symm
  rw [hne0]
  unfold entV at hlie
  simp only at hlie
  have hw : IntKind.u64.wrap (((last g).1 : Int) + 1) = (q : Int) := by rw [hq]; exact wrap_succ hlb
  obtain ⟨I, hI⟩ : ∃ I, (last g).1 = I := ⟨_, rfl⟩
  obtain ⟨L, hL⟩ : ∃ L, (last g).2 = L := ⟨_, rfl⟩
  rw [hI] at hla hw
  rw [hL] at hla hlie
  have HLa := Lib.hid hla
  have HLie := Lib.hid hlie
  have HB := Lib.hid hba
  have HC := Lib.hid (Box4.new w (.int .u64 0) (.int .u64 0) (.int .i64 0) (.string .empty) 81)
  have H := Lib.hid h
  have HE : Hid (entCs ne = [.int .u64 (t : Int), .int .u64 (q : Int), .int .i64 kind, .string d]) := by show _ = _; rw [hnt]; rfl
  have HNT := Lib.hid hnt
  clear hla hL hba h hlie hI hlb hm f hnt hne0 hq hbe
  go_enter Tryz.func109, Tryz.ntmps109
  go_wp2_with fail
  refine HLa.out.mono ?_
  rintro e w1 ⟨rfl, hb1⟩
  have hs1 : w.heap.size + 1 ≤ w1.heap.size := by have := hb1.size; simpa using this
  have hy := Box4.new w1 (.int .u64 (t : Int)) (.int .u64 (q : Int)) (.int .i64 kind) (.string d) 81
  have HY := Lib.hid hy
  clear hy
  go_wp2_with fail
  refine (HLie.out _).mono ?_
  rintro e w2 ⟨rfl, hb2⟩
  have hb12 : Below w1.heap.size w1 w2 := ((Below.refl _ _).alloc (Nat.le_refl _) _).trans (hb2.mono (by simp))
  have hx := (HC.out.below hb1).below hb12
  have hz := HY.out.below hb2
  have hB2 : Below w.heap.size w w2 := (HB.out.trans (hb1.mono (by simp))).trans (hb12.mono (by omega))
  have h2 := H.out.below hB2
  have e0 := hz.c0
  have e1 := hz.c1
  have e2 := hz.c2
  have e3 := hz.c3
  have hd4 : w2.cell? ⟨p, 4, none⟩ = some v := h2.c4
  have hlt2 := h2.lt
  have hltz := hz.lt
  have hown : ∀ o, (w2.alloc o).drew.ownsRow B 81 4 v g.es.length (ecells g.es) := fun o => ((h2.below ((Below.refl _ _).alloc (Nat.le_refl _) o)).drew).own
  have hnews : RE (w2.alloc (.cells #[.int .u64 (t : Int), .int .u64 (q : Int), .int .i64 kind, .string d] 81)).drew (w2.heap.size + 1) (some ⟨w2.heap.size, 0, none⟩) 1 [ne] := by
    have := Reads.drew (ent_new w2 ne 81)
    rwa [HE.out] at this
  obtain ⟨A, c, rfl, _, _, _⟩ := h2.form
  have hbase : ∀ o, B ≤ (w2.alloc o).drew.heap.size := fun o => by have := h2.base; simp; omega
  have HX := Lib.hid hx
  have HZ := Lib.hid hz
  have HB2 := Lib.hid hB2
  have H2 := Lib.hid h2
  have HO := Lib.hid hown
  have HN := Lib.hid hnews
  have HBS := Lib.hid hbase
  clear hx hz hB2 h2 hb1 hb2 hb12 hown hnews hbase
  go_wp2_with fail
  go_region_law (first
    | (refine step_app (v := .slice A g.es.length c) _ rfl _ _ rfl B rfl (HO.out _) rfl HN.out (ecells_one _) hroom (HBS.out _) ?_
       intro A' c' w3 hown3 hg3 hat3
       have ho3 := ((Only.refl (fun q => (Value.slice A g.es.length c).ownBlock = some q) w2).alloc _).drew.grown hg3 (fun q hq => .inr hq)
       have hat' : ∀ q, (Value.slice A' (g.es.length + 1) c').ownBlock = some q → (Value.slice A g.es.length c).ownBlock = some q ∨ w2.heap.size ≤ q := fun q hq => by
         rcases hat3 with e | e
         · exact .inl (e ▸ hq)
         · rw [hq] at e; cases e; exact .inr (by simp)
       obtain ⟨hcell3, hfr3, hleft⟩ := H2.out.rowed (es := g.es ++ [ne]) ho3 hown3 (by simp) (by rw [ecells_append]) hat'
       have hlt3 : p < w3.heap.size := Nat.lt_of_lt_of_le hlt2 ho3.size
       have HO3 := Lib.hid ho3
       have HL := Lib.hid hleft
       clear hleft hat' hat3 hg3 hown3 ho3))
  all_goals
    generalize w3.setCell ⟨p, 4, none⟩ _ = w5 at HL ⊢
    have hol : Only (Foot p (.slice A g.es.length c)) w2 w5 := by obtain ⟨v', h', o', f'⟩ := HL.out; exact o'
    have hz5 := HZ.out.keep hol (fun e => by have := (H.out.foot_lt e).2; omega)
    have hx5 := HX.out.keep hol (fun e => by have := (H.out.foot_lt e).2; omega)
    have q0 := hz5.c0
    have q1 := hz5.c1
    have q2 := hz5.c2
    have q3 := hz5.c3
    have c0 := hx5.c0
    have c1 := hx5.c1
    have c2 := hx5.c2
    have c3 := hx5.c3
    have f0 := hx5.free 0
    have f1 := hx5.free 1
    have f2 := hx5.free 2
    have f3 := hx5.free 3
    have hltx := hx5.lt
    have hltz5 := hz5.lt
    have HX5 := Lib.hid hx5
    clear hx5 hz5 hol
    go_wp2
    have hs := HX5.out.set (.int .u64 (t : Int)) (.int .u64 (q : Int)) (.int .i64 kind) (.string d)
    refine bodyPost_ret (results_row_tmp (p := 8) (u := 9) (ty := 81) rfl _ _ w.heap.size 81 _ (0, 0) _ rfl hs.1.blk Tryz.underlying81 rfl (by kernel_rfl)) rfl ?_
    exact ⟨by rw [HNT.out]; rfl, LeftL.boxed H.out HB2.out HL.out (Nat.le_refl _) (by have := HX.out.lt; exact this) hs.2⟩
/-- Whatever is to be added. -/
theorem radd_any (hroom : (g.es.length + 1) * 40 ≤ 140737488355328) : Calls Tryz.prog 109 #[.pointer (some ⟨p, 0, none⟩), .int .u64 (t : Int), .int .i64 kind, .string d] w (Adds 60 B w p v (add g t kind d)) := by
  have hlb := f.last_b.1
  unfold Rlog.add addOk
  by_cases hl : (last g).1 = 18446744073709551615
  · rw [decide_eq_false (by simpa using hl), Bool.false_and, if_neg (by simp)]
    exact radd_bad h f t kind d ht k0 k1 hd (q := 0) (by rw [hl]) (by unfold may; rw [decide_eq_false (by simp)]; rfl)
  · have hq : (last g).1 + 1 = ((last g).1 + 1) % 18446744073709551616 := by omega
    rw [decide_eq_true hl, Bool.true_and]
    cases hm : may (new g t kind d) (last g).1 (last g).2 with
    | true => rw [if_pos rfl]; exact radd_ok h f t kind d ht k0 k1 hd hq hm hroom
    | false => rw [if_neg (by simp)]; exact radd_bad h f t kind d ht k0 k1 hd hq hm
end
end Go.Proofs.YtojmbbldehbjfaaGreat.RefF
set_option linter.unusedVariables false
namespace Go.Proofs.YtojmbbldehbjfaaGreat.RefG
open Go.RowKit Go.Proofs.YtojmbbldehbjfaaGreat.Kit Go.Proofs.YtojmbbldehbjfaaGreat.Blocks Go.Proofs.YtojmbbldehbjfaaGreat.Rlog Go.Proofs.YtojmbbldehbjfaaGreat.Ents Go.Proofs.YtojmbbldehbjfaaGreat.LogAt Go.Proofs.YtojmbbldehbjfaaGreat.App Go.Proofs.YtojmbbldehbjfaaGreat.RlgWalkA Go.Proofs.YtojmbbldehbjfaaGreat.RlgWalkB Go.Proofs.YtojmbbldehbjfaaGreat.RlgWalkC Go.Proofs.YtojmbbldehbjfaaGreat.RlgWalkD Go.Proofs.YtojmbbldehbjfaaGreat.RlgWalkF Go.Proofs.YtojmbbldehbjfaaGreat.RlgWalkG Go.Proofs.YtojmbbldehbjfaaGreat.RlgWalkH Go.Proofs.YtojmbbldehbjfaaGreat.RlgWalkK Go.Proofs.YtojmbbldehbjfaaGreat.RefB Go.Proofs.YtojmbbldehbjfaaGreat.RefC Go.Proofs.YtojmbbldehbjfaaGreat.RefD

/-- A world with another snapshot laid ahead of a log's entries. -/
abbrev snapAt (w : World) (p : Nat) (a b c : Nat) (d : ByteArray) : World := (((w.setCell ⟨p, 0, none⟩ (.int .u64 (a : Int))).setCell ⟨p, 1, none⟩ (.int .u64 (b : Int))).setCell ⟨p, 2, none⟩ (.int .u64 (c : Int))).setCell ⟨p, 3, none⟩ (.string d)
theorem snapped_at {T : TypeId} {B : Nat} {w : World} {p : Nat} {v : Value} {g : G} (h : LogAt T B w p v g) (s : Snap) :
    LogAt T B (snapAt w p s.idx s.term s.cfg s.data) p v { g with snap := s } ∧ Only (fun q => q = p) w (snapAt w p s.idx s.term s.cfg s.data) := by
  have hk : Only (fun q => q = p) w (snapAt w p s.idx s.term s.cfg s.data) :=
    ((((Only.refl (fun q => q = p) w).setCell (a := ⟨p, 0, none⟩) (.inr rfl) _).setCell (a := ⟨p, 1, none⟩) (.inr rfl) _).setCell (a := ⟨p, 2, none⟩) (.inr rfl) _).setCell (a := ⟨p, 3, none⟩) (.inr rfl) _
  refine ⟨⟨h.low, ?_, hk.own h.own fun q hq e => h.ne (e ▸ hq), h.ne⟩, hk⟩
  rw [set_at (set_at (set_at (set_at h.cell _) _) _) _]
  rfl

section
variable {B p : Nat} {v : Value} {g : G} {w : World} (h : LR B w p v g) (f : Fine g)
include h f
set_option maxRecDepth 100000 in
set_option maxHeartbeats 2000000 in
/-- A snapshot stands for all entries up to an index. -/
theorem rcompact_any (i : Nat) (d : ByteArray) (hl : g.es.length * 40 ≤ 140737488355328) : Calls Tryz.prog 80 #[.pointer (some ⟨p, 0, none⟩), .int .u64 (i : Int), .string d] w (Answers 60 B w p v (compact g i d)) := by
  have c4 := h.c4
  have hlt := h.lt
  have hbase := h.base
  have H := Lib.hid h
  have hmem := rmembers_any h f i
  obtain ⟨M, hM⟩ : ∃ M, (members g i).1 = M := ⟨_, rfl⟩
  obtain ⟨M2, hM2⟩ : ∃ M2, (members g i).2 = M2 := ⟨_, rfl⟩
  rw [hM, hM2] at hmem
  have HMem := Lib.hid hmem
  have HMM := Lib.hid hM
  obtain ⟨A, c, rfl, hnc, hcm, hr⟩ := h.form
  obtain ⟨L, hL⟩ : ∃ L, g.es.length = L := ⟨_, rfl⟩
  rw [hL] at c4 hnc hr hl
  obtain ⟨R, hR⟩ : ∃ R, compact g i d = R := ⟨_, rfl⟩
  rw [hR]
  have HR := Lib.hid hR
  have HL := Lib.hid hL
  have HF := Lib.hid f
  clear hL f h hR hmem hM hM2
  go_enter Tryz.func80, Tryz.ntmps80
  go_wp2
  go_loopw [7] (fun x wr => ∃ k : Nat, k ≤ L ∧ x = .int .i64 (k : Int) ∧ Hid (∀ j e, j < k → g.es[j]? = some e → e.idx ≠ i) ∧ wr = w) (fun x _ => L - (intOf x).toNat)
  case atStart => exact ⟨0, by omega, rfl, Lib.hid (fun j e hj => absurd hj (by omega)), rfl⟩
  case round =>
    obtain ⟨k, hk, rfl, HA, rfl⟩ := hrel
    by_cases hkL : k < L
    · obtain ⟨b, o, e, rfl, hbl, he, hfour⟩ := RE.at_ hr hkL
      have d1 := hfour.c1
      by_cases hi : e.idx = i
      · have hib : ((e.idx : Int) == (i : Int)) = true := by simp [hi]
        have hcp : compact g i d = (0, ⟨⟨i, e.term, M, d⟩, g.es.drop (k + 1)⟩) := by
          unfold compact
          rw [← hi, (HF.out.at_ he).2.2.1]
          simp only [he, Option.map_some, Option.getD_some]
          rw [hi, HMM.out]
        obtain rfl : R = (0, ⟨⟨i, e.term, M, d⟩, g.es.drop (k + 1)⟩) := by rw [← HR.out]; exact hcp
        obtain ⟨tm, htm⟩ : ∃ tm, e.term = tm := ⟨_, rfl⟩
        obtain ⟨ix, hix⟩ : ∃ ix, e.idx = ix := ⟨_, rfl⟩
        rw [hix] at d1 hib
        rw [htm]
        have d0 := hfour.c0
        rw [htm] at d0
        clear he hfour hi hcp hix htm
        go_wp2_with fail
        refine HMem.out.mono ?_
        rintro e2 w1 ⟨rfl, hb1⟩
        have h1 := H.out.below hb1
        have x0 := h1.c0
        have x1 := h1.c1
        have x2 := h1.c2
        have x3 := h1.c3
        have x4 := (hb1.cell (p := ⟨p, 4, none⟩) hlt).trans c4
        have y0 := (hb1.cell (p := ⟨b, o + k * 4, none⟩) hbl).trans d0
        have y1 := (hb1.cell (p := ⟨b, o + k * 4 + 1, none⟩) hbl).trans d1
        have hlt1 := h1.lt
        have f0 := free_at h1.cell 0
        have f1 := free_at h1.cell 1
        have f2 := free_at h1.cell 2
        have f3 := free_at h1.cell 3
        have f4 := free_at h1.cell 4
        obtain ⟨h5, o5⟩ := snapped_at h1 ⟨i, tm, M, d⟩
        simp only at h5 o5
        have z4 := h5.c4
        have zf := free_at h5.cell 4
        have hlt5 := h5.lt
        have hr5 := h5.own
        obtain ⟨A5, c5, hv5, _, _, hre⟩ := h5.form
        cases hv5
        rw [HL.out] at z4 hre
        simp only at hre
        have hfrom := RE.from_ hre (k := k + 1) (by omega) hnc
        have hsl : ∀ W, (Instr.slice 27 (.slice (some ⟨b, o, none⟩) L c) (some (.int .i64 ((k : Int) + 1))) none none).run Tryz.prog W = .ok (.slice (cut4 (some ⟨b, o, none⟩) c (k + 1)) (L - (k + 1)) (c - (k + 1))) W :=
          fun W => run_from4 (P := Tryz.prog) 27 81 Tryz.underlying27 sz4 (some ⟨b, o, none⟩) L c (k + 1) (by omega) W
        have hlen : L - (k + 1) = (g.es.drop (k + 1)).length := by rw [List.length_drop, HL.out]
        obtain ⟨m, hm⟩ : ∃ m, L - (k + 1) = m := ⟨_, rfl⟩
        obtain ⟨A2, hA2⟩ : ∃ A2, cut4 (some ⟨b, o, none⟩) c (k + 1) = A2 := ⟨_, rfl⟩
        obtain ⟨c2, hc2⟩ : ∃ c2, c - (k + 1) = c2 := ⟨_, rfl⟩
        rw [hm] at hlen
        rw [hm, hA2] at hfrom
        have hm40 : m * 40 ≤ 140737488355328 := by omega
        rw [hm, hA2, hc2] at hsl
        have hk63 : (k : Int) + 1 ≤ 9223372036854775807 := by omega
        have H5 := Lib.hid h5
        have O5 := Lib.hid o5
        have HB1 := Lib.hid hb1
        have HLen := Lib.hid hlen
        have hbase5 := h5.base
        clear h5 o5 hb1 h1 hlen hm hA2 hc2 hr5 hre
        go_wp2_with (first
          | (at_builtin
             refine wpList_new _ rfl _ _ rfl B rfl rfl hfrom (ecells_one _) hm40 hbase5 ?_
             intro A' c' w3 hown3 hb3 hat3
             obtain ⟨hcell3, hfr3, hleft⟩ := H5.out.rowed (es := g.es.drop (k + 1)) (Only.of_below hb3) hown3 HLen.out rfl (fun q hq => .inr (hat3 q hq))
             have HL3 := Lib.hid hleft
             have hlt3 : p < w3.heap.size := Nat.lt_of_lt_of_le hlt5 hb3.size
             clear hleft hown3 hat3))
        go_ret
        exact ⟨rfl, LeftL.afterBelow HB1.out (LeftL.then (O5.out.mono fun q _ hq => .inl hq) (fun q hq => .inl hq) HL3.out)⟩
      · have hib : ((e.idx : Int) == (i : Int)) = false := by simp; omega
        have HA' : Hid (∀ j e, j < k + 1 → g.es[j]? = some e → e.idx ≠ i) := by
          intro j e' hj he'
          by_cases hjk : j = k
          · subst hjk
            rw [he] at he'
            cases he'
            exact hi
          · exact HA.out j e' (by omega) he'
        obtain ⟨ix, hix⟩ : ∃ ix, e.idx = ix := ⟨_, rfl⟩
        rw [hix] at d1 hib
        clear he hfour hi hix
        go_wp2
        go_roundw
        case rel => exact ⟨k + 1, by omega, by go_num, HA', by first | rfl | trivial⟩
        case measure => simp [intOf]; omega
    · obtain rfl : k = L := by omega
      have hcp : compact g i d = (20, g) := by
        unfold compact
        cases hp : place g i with
        | none => rfl
        | some q =>
          obtain ⟨hq1, hq2⟩ := place_lt hp
          have he := List.getElem?_eq_getElem hq1
          exact absurd (by rw [(HF.out.at_ he).1, hq2]) (HA.out q _ (by rw [← HL.out]; exact hq1) he)
      obtain rfl : R = (20, g) := by rw [← HR.out]; exact hcp
      clear hcp
      go_wp2
      go_ret
      exact ⟨rfl, LeftL.refl H.out⟩
end
end Go.Proofs.YtojmbbldehbjfaaGreat.RefG
set_option linter.unusedVariables false
namespace Go.Proofs.YtojmbbldehbjfaaGreat.RefH
open Go.RowKit Go.Proofs.YtojmbbldehbjfaaGreat.Kit Go.Proofs.YtojmbbldehbjfaaGreat.Blocks Go.Proofs.YtojmbbldehbjfaaGreat.Rlog Go.Proofs.YtojmbbldehbjfaaGreat.Ents Go.Proofs.YtojmbbldehbjfaaGreat.LogAt Go.Proofs.YtojmbbldehbjfaaGreat.App Go.Proofs.YtojmbbldehbjfaaGreat.RlgWalkA Go.Proofs.YtojmbbldehbjfaaGreat.RlgWalkB Go.Proofs.YtojmbbldehbjfaaGreat.RlgWalkC Go.Proofs.YtojmbbldehbjfaaGreat.RlgWalkD Go.Proofs.YtojmbbldehbjfaaGreat.RlgWalkF Go.Proofs.YtojmbbldehbjfaaGreat.RlgWalkG Go.Proofs.YtojmbbldehbjfaaGreat.RlgWalkH Go.Proofs.YtojmbbldehbjfaaGreat.RlgWalkK Go.Proofs.YtojmbbldehbjfaaGreat.RefB Go.Proofs.YtojmbbldehbjfaaGreat.RefC Go.Proofs.YtojmbbldehbjfaaGreat.RefD Go.Proofs.YtojmbbldehbjfaaGreat.RefG
open Go.Proofs.YtojmbbldehbjfaaGreat.Quorum (sound)

/-- A snapshot, and a row of the call's own behind it, are laid. -/
theorem laid_both {T : TypeId} {B : Nat} {w wr : World} {p n : Nat} {v v1 : Value} {g : G} {es : List Ent} (h : LogAt T B w p v g) (hb : Below w.heap.size w wr) (hown : wr.ownsRow w.heap.size 81 4 v1 n (ecells es)) (hn : n = es.length) (s : Snap) :
    (snapAt wr p s.idx s.term s.cfg s.data).cell? ⟨p, 4, none⟩ = some v ∧ (snapAt wr p s.idx s.term s.cfg s.data).frozen? ⟨p, 4, none⟩ = false ∧
      LeftL T B w p v ⟨s, es⟩ ((snapAt wr p s.idx s.term s.cfg s.data).setCell ⟨p, 4, none⟩ v1) := by
  subst hn
  obtain ⟨h5, o5⟩ := snapped_at (h.below hb) s
  have hset : Only (fun q => q = p) (snapAt wr p s.idx s.term s.cfg s.data) ((snapAt wr p s.idx s.term s.cfg s.data).setCell ⟨p, 4, none⟩ v1) := (Only.refl (fun q => q = p) _).setCell (a := ⟨p, 4, none⟩) (.inr rfl) v1
  have hlt := h.lt
  have hne : ∀ q, v1.ownBlock = some q → q ≠ p := fun q hq => by have := (hown.lt q hq).1; omega
  refine ⟨h5.c4, free_at h5.cell 4, v1, ⟨h.low, by rw [set_at h5.cell]; rfl, ?_, fun e => hne p e rfl⟩, ?_, fun q hq => .inr (hown.lt q hq).1⟩
  · exact hset.own (o5.own (own_base hown h.base) hne) hne
  · exact (Only.of_below (S := Foot p v) hb).trans ((o5.trans hset).mono fun q _ hq => .inl hq)

section
variable {B p : Nat} {v : Value} {g : G} {w : World} (h : LR B w p v g) (f : Fine g)
include h
variable {s : Snap} (hs : SnapB s)
include hs
set_option maxRecDepth 100000 in
theorem rinstall_mad (h1 : sound s.cfg = false) : Calls Tryz.prog 126 #[.pointer (some ⟨p, 0, none⟩), snapV s] w (Answers 60 B w p v (1, g)) := by
  have hcf := hs.cfg
  obtain ⟨ix, tm, cf, d⟩ := s
  simp only at *
  have HS := Lib.hid h1
  clear h1 hs
  have hba : Below w.heap.size w (w.alloc (.cells #[.int .u64 (ix : Int), .int .u64 (tm : Int), .int .u64 (cf : Int), .string d] 26)) := (Below.refl _ _).alloc (Nat.le_refl _) _
  unfold snapV
  go_enter Tryz.func126, Tryz.ntmps126
  go_wp2_with fail
  refine (rsound_hid hcf HS _).mono ?_
  rintro e w1 ⟨rfl, rfl⟩
  go_wp2
  go_ret
  exact ⟨rfl, LeftL.of_below h hba⟩
set_option maxRecDepth 100000 in
theorem rinstall_old (h1 : sound s.cfg = true) (h2 : s.idx ≤ g.snap.idx) : Calls Tryz.prog 126 #[.pointer (some ⟨p, 0, none⟩), snapV s] w (Answers 60 B w p v (20, g)) := by
  have hcf := hs.cfg
  have c0 := h.c0
  have hlt := h.lt
  obtain ⟨S, hS⟩ : ∃ S, g.snap.idx = S := ⟨_, rfl⟩
  rw [hS] at c0 h2
  obtain ⟨ix, tm, cf, d⟩ := s
  simp only at *
  have HS := Lib.hid h1
  have h21 : decide (ix ≤ S) = true := decide_eq_true h2
  clear h1 hs hS
  have hba : Below w.heap.size w (w.alloc (.cells #[.int .u64 (ix : Int), .int .u64 (tm : Int), .int .u64 (cf : Int), .string d] 26)) := (Below.refl _ _).alloc (Nat.le_refl _) _
  unfold snapV
  go_enter Tryz.func126, Tryz.ntmps126
  go_wp2_with fail
  refine (rsound_hid hcf HS _).mono ?_
  rintro e w1 ⟨rfl, rfl⟩
  go_wp2_with fail
  go_quiet (fail)
  all_goals go_wp2
  all_goals go_ret
  all_goals exact ⟨rfl, LeftL.of_below h (below_drewN hba _)⟩
include f
set_option maxRecDepth 100000 in
set_option maxHeartbeats 2000000 in
/-- A newer one whose index hasn't its term in the log. -/
theorem rinstall_no (h1 : sound s.cfg = true) (h2 : ¬ s.idx ≤ g.snap.idx) (h3 : term g s.idx ≠ some s.term) : Calls Tryz.prog 126 #[.pointer (some ⟨p, 0, none⟩), snapV s] w (Answers 60 B w p v (0, ⟨s, []⟩)) := by
  have hcf := hs.cfg
  have hib := hs.idx
  have c0 := h.c0
  have hlt := h.lt
  obtain ⟨S, hS⟩ : ∃ S, g.snap.idx = S := ⟨_, rfl⟩
  rw [hS] at c0 h2
  obtain ⟨ix, tm, cf, d⟩ := s
  simp only at *
  have HS := Lib.hid h1
  have h21 : decide (ix ≤ S) = false := decide_eq_false h2
  have H := Lib.hid h
  have HF := Lib.hid f
  have c4 := h.c4
  obtain ⟨A, c, rfl, hnc, hcm, hr⟩ := h.form
  obtain ⟨n, hn⟩ : ∃ n, g.es.length = n := ⟨_, rfl⟩
  rw [hn] at c4 hnc hr
  have hba : Below w.heap.size w (w.alloc (.cells #[.int .u64 (ix : Int), .int .u64 (tm : Int), .int .u64 (cf : Int), .string d] 26)) := (Below.refl _ _).alloc (Nat.le_refl _) _
  have hbx := Box4.new w (.int .u64 (ix : Int)) (.int .u64 (tm : Int)) (.int .u64 (cf : Int)) (.string d) 26
  obtain ⟨r, hr3⟩ : ∃ r, term g ix = r := ⟨_, rfl⟩
  rw [hr3] at h3
  have HR3 := Lib.hid hr3
  have HBX := Lib.hid hbx
  clear h1 hs hS h hn f hr3 hbx
  unfold snapV
  go_enter Tryz.func126, Tryz.ntmps126
  go_wp2_with fail
  refine (rsound_hid hcf HS _).mono ?_
  rintro e w1 ⟨rfl, rfl⟩
  go_wp2_with fail
  go_quiet (fail)
  have hbq := below_drewN hba nq
  have hxq := HBX.out.below (below_drewN (Below.refl _ _) nq)
  generalize (w.alloc (.cells #[.int .u64 (ix : Int), .int .u64 (tm : Int), .int .u64 (cf : Int), .string d] 26)).drewN nq = wq at hbq hxq ⊢
  have hrt := rterm_any (H.out.below hbq) HF.out ix
  rw [HR3.out] at hrt
  have HRT := Lib.hid hrt
  have x0 := hxq.c0
  have x1 := hxq.c1
  have hltx := hxq.lt
  have HXQ := Lib.hid hxq
  clear hrt hxq
  go_wp2_with fail
  refine HRT.out.mono ?_
  rintro e w1 ⟨rfl, rfl⟩
  obtain ⟨E6, hE6⟩ : ∃ E6 : Int, (if r.isSome then 0 else 20) = E6 := ⟨_, rfl⟩
  obtain ⟨T5, hT5⟩ : ∃ T5, r.getD 0 = T5 := ⟨_, rfl⟩
  rw [hE6, hT5]
  have hcase : (E6 == 0) = false ∨ ((E6 == 0) = true ∧ ((T5 : Int) == (tm : Int)) = false) := by
    cases r with
    | none => left; subst hE6; rfl
    | some t =>
      right
      subst hE6 hT5
      refine ⟨rfl, ?_⟩
      simp
      intro e
      exact h3 (congrArg some (by omega))
  clear hE6 hT5
  go_wp2_with fail
  go_loopw [7, 8] (fun s x wr => ∃ k : Nat, k ≤ n ∧ s = .slice none 0 0 ∧ x = .int .i64 (k : Int) ∧ Below wq.heap.size wq wr) (fun _ x _ => n - (intOf x).toNat)
  case atStart => exact ⟨0, by omega, rfl, rfl, Below.refl _ _⟩
  case round =>
    obtain ⟨k, hk, rfl, rfl, hbel⟩ := hrel
    have hsz := hbel.size
    have hB := hbq.trans (hbel.mono hbq.size)
    have c4r := (hB.cell (p := ⟨p, 4, none⟩) hlt).trans c4
    have hxr := HXQ.out.below hbel
    have y0 := hxr.c0
    have y1 := hxr.c1
    have y2 := hxr.c2
    have y3 := hxr.c3
    have hlty := hxr.lt
    clear hxr
    by_cases hkn : k < n
    · obtain ⟨b, o, e, rfl, hbl, he, hfour⟩ := RE.at_ hr hkn
      have hfr := Four.below hfour hB hbl
      have d1 := hfr.c1
      obtain ⟨ie, hie⟩ : ∃ ie, e.idx = ie := ⟨_, rfl⟩
      rw [hie] at d1
      clear hfr hfour he hie
      by_cases hgt : ix < ie
      · have hg1 : decide (ix < ie) = true := decide_eq_true hgt
        rcases hcase with he6 | ⟨he6, hne⟩
        · go_wp2_with fail
          go_quiet (fail)
          all_goals go_wp2
          all_goals
            go_roundw
            case rel => exact ⟨k + 1, by omega, rfl, by go_num, below_drewN hbel _⟩
            case measure => simp [intOf]; omega
        · go_wp2_with fail
          go_quiet (fail)
          all_goals go_wp2
          all_goals
            go_roundw
            case rel => exact ⟨k + 1, by omega, rfl, by go_num, below_drewN hbel _⟩
            case measure => simp [intOf]; omega
      · have hg1 : decide (ix < ie) = false := decide_eq_false hgt
        go_wp2_with fail
        go_quiet (fail)
        all_goals go_wp2
        all_goals
          go_roundw
          case rel => exact ⟨k + 1, by omega, rfl, by go_num, below_drewN hbel _⟩
          case measure => simp [intOf]; omega
    · obtain rfl : k = n := by omega
      have h1 := H.out.below hB
      have z0 := h1.c0
      have z1 := h1.c1
      have z2 := h1.c2
      have z3 := h1.c3
      have hlt1 := h1.lt
      have f0 := free_at h1.cell 0
      have f1 := free_at h1.cell 1
      have f2 := free_at h1.cell 2
      have f3 := free_at h1.cell 3
      obtain ⟨hc5, hf5, hleft⟩ := laid_both (v1 := .slice none 0 0) (n := 0) (es := []) H.out hB (World.ownsRow_nil _ _ _ _) rfl ⟨ix, tm, cf, d⟩
      have HLeft := Lib.hid hleft
      simp only at hc5 hf5
      clear h1 hleft
      go_wp2_with fail
      go_ret
      exact ⟨rfl, HLeft.out⟩
omit h f hs in
theorem term_is {w w' : World} {e : Ending} {t : Nat} (k : TermIs w (some t) e w') : e = .returned (.tuple #[.int .u64 (t : Int), .int .i64 0]) ∧ w = w' := k
set_option maxRecDepth 100000 in
set_option maxHeartbeats 2000000 in
/-- A newer one whose index has its term in the log. -/
theorem rinstall_yes {q : Nat} {ee : Ent} (h1 : sound s.cfg = true) (h2 : ¬ s.idx ≤ g.snap.idx) (hp : place g s.idx = some q) (hk : g.es[q]? = some ee) (ht : ee.term = s.term) (hl : g.es.length * 40 ≤ 140737488355328) :
    Calls Tryz.prog 126 #[.pointer (some ⟨p, 0, none⟩), snapV s] w (Answers 60 B w p v (0, ⟨s, g.es.drop (q + 1)⟩)) := by
  have hcf := hs.cfg
  have hib := hs.idx
  have c0 := h.c0
  have hlt := h.lt
  have hterm : term g s.idx = some s.term := by
    rw [show s.idx = ee.idx by rw [(f.at_ hk).1]; exact (place_lt hp).2, term_at f hk, ht]
  obtain ⟨hqn, hqi⟩ := place_lt hp
  obtain ⟨S, hS⟩ : ∃ S, g.snap.idx = S := ⟨_, rfl⟩
  rw [hS] at c0 h2
  obtain ⟨Q, hQ⟩ : ∃ Q, q + 1 = Q := ⟨_, rfl⟩
  rw [hQ]
  have hqi2 : s.idx = g.snap.idx + Q := by omega
  obtain ⟨ix, tm, cf, d⟩ := s
  simp only at *
  have HS := Lib.hid h1
  have h21 : decide (ix ≤ S) = false := decide_eq_false h2
  have H := Lib.hid h
  have HF := Lib.hid f
  have HI := Lib.hid hqi2
  have c4 := h.c4
  obtain ⟨A, c, rfl, hnc, hcm, hr⟩ := h.form
  obtain ⟨n, hn⟩ : ∃ n, g.es.length = n := ⟨_, rfl⟩
  rw [hn] at c4 hnc hr hl hqn
  have hQn : Q ≤ n := by omega
  have HN := Lib.hid hn
  have hba : Below w.heap.size w (w.alloc (.cells #[.int .u64 (ix : Int), .int .u64 (tm : Int), .int .u64 (cf : Int), .string d] 26)) := (Below.refl _ _).alloc (Nat.le_refl _) _
  have hbx := Box4.new w (.int .u64 (ix : Int)) (.int .u64 (tm : Int)) (.int .u64 (cf : Int)) (.string d) 26
  have HT := Lib.hid hterm
  have HBX := Lib.hid hbx
  clear h1 hs hS h hn f hbx hp hk ht hqi hqi2 hQ hqn hterm
  unfold snapV
  go_enter Tryz.func126, Tryz.ntmps126
  go_wp2_with fail
  refine (rsound_hid hcf HS _).mono ?_
  rintro e w1 ⟨rfl, rfl⟩
  go_wp2_with fail
  go_quiet (fail)
  have hbq := below_drewN hba nq
  have hxq := HBX.out.below (below_drewN (Below.refl _ _) nq)
  generalize (w.alloc (.cells #[.int .u64 (ix : Int), .int .u64 (tm : Int), .int .u64 (cf : Int), .string d] 26)).drewN nq = wq at hbq hxq ⊢
  have hrt := rterm_any (H.out.below hbq) HF.out ix
  rw [HT.out] at hrt
  have HRT := Lib.hid hrt
  have x0 := hxq.c0
  have x1 := hxq.c1
  have hltx := hxq.lt
  have HXQ := Lib.hid hxq
  clear hrt hxq
  go_wp2_with fail
  refine HRT.out.mono ?_
  intro e w1 hee
  obtain ⟨rfl, rfl⟩ := term_is hee
  clear hee
  go_wp2_with fail
  go_loopw [7, 8] (fun s x wr => ∃ k m : Nat, k ≤ n ∧ Hid (m = k - Q) ∧ x = .int .i64 (k : Int) ∧ wr.ownsRow wq.heap.size 81 4 s m (ecells ((g.es.drop Q).take m)) ∧ Below wq.heap.size wq wr) (fun _ x _ => n - (intOf x).toNat)
  case atStart => exact ⟨0, 0, by omega, Lib.hid (by omega), rfl, by simpa [ecells] using World.ownsRow_nil _ _ _ _, Below.refl _ _⟩
  case round =>
    obtain ⟨k, m, hk, HM, rfl, hown, hbel⟩ := hrel
    have hsz := hbel.size
    have hB := hbq.trans (hbel.mono hbq.size)
    have c4r := (hB.cell (p := ⟨p, 4, none⟩) hlt).trans c4
    have hxr := HXQ.out.below hbel
    have y0 := hxr.c0
    have y1 := hxr.c1
    have y2 := hxr.c2
    have y3 := hxr.c3
    have hlty := hxr.lt
    clear hxr
    obtain ⟨A0, c0', rfl, _, _, _⟩ := own_form hown
    have hm := HM.out
    have HO := Lib.hid hown
    by_cases hkn : k < n
    · obtain ⟨b, o, e, rfl, hbl, he, hfour⟩ := RE.at_ hr hkn
      have hfr := Four.below hfour hB hbl
      have d0 := hfr.c0
      have d1 := hfr.c1
      have d2 := hfr.c2
      have d3 := hfr.c3
      have hidx := (HF.out.at_ he).1
      have hI := HI.out
      have htt : ((tm : Int) == (tm : Int)) = true := by simp
      by_cases hkQ : k < Q
      · obtain rfl : m = 0 := by omega
        have hg1 : decide (ix < e.idx) = false := decide_eq_false (by omega)
        have hm0 : Hid (0 = k + 1 - Q) := Lib.hid (by omega)
        obtain ⟨ie, hie⟩ : ∃ ie, e.idx = ie := ⟨_, rfl⟩
        rw [hie] at d1 hg1
        clear hfr hfour he hie hm hown hidx hI d0 d2 d3
        go_wp2_with fail
        go_quiet (fail)
        all_goals go_wp2
        all_goals
          go_roundw
          case rel => exact ⟨k + 1, 0, by omega, hm0, by go_num, HO.out, below_drewN hbel _⟩
          case measure => simp [intOf]; omega
      · have hg1 : decide (ix < e.idx) = true := decide_eq_true (by omega)
        have hnext : (g.es.drop Q).take (m + 1) = (g.es.drop Q).take m ++ [e] := by
          rw [take_snoc (g.es.drop Q) m e]
          rw [List.getElem?_drop, show Q + m = k by omega]
          exact he
        have hm40 : (m + 1) * 40 ≤ 140737488355328 := by omega
        obtain ⟨te, ie, kd, de⟩ := e
        simp only at d0 d1 d2 d3 hg1
        have hkm : Hid (m + 1 = k + 1 - Q) := Lib.hid (by omega)
        have HNX := Lib.hid hnext
        clear he hfour hfr hm hown hidx hnext hI
        go_wp2_with fail
        go_quiet (fail)
        have e0 : (wr.drewN nq).cell? ⟨b, o + k * 4, none⟩ = _ := d0
        have e1 : (wr.drewN nq).cell? ⟨b, o + k * 4 + 1, none⟩ = _ := d1
        have e2 : (wr.drewN nq).cell? ⟨b, o + k * 4 + 2, none⟩ = _ := d2
        have e3 : (wr.drewN nq).cell? ⟨b, o + k * 4 + 3, none⟩ = _ := d3
        have e4 : (wr.drewN nq).cell? ⟨p, 4, none⟩ = _ := c4r
        have hbelq := below_drewN hbel nq
        have hownq : (wr.drewN nq).ownsRow _ _ _ _ _ _ := ((Only.refl (fun _ => False) wr).drewN nq).own HO.out (by simp)
        generalize wr.drewN nq = wt at e0 e1 e2 e3 e4 hbelq hownq ⊢
        have hszt := hbelq.size
        have hnews : RE (wt.alloc (.cells #[.int .u64 (te : Int), .int .u64 (ie : Int), .int .i64 kd, .string de] 81)) (wt.heap.size + 1) (some ⟨wt.heap.size, 0, none⟩) 1 [⟨te, ie, kd, de⟩] := ent_new wt ⟨te, ie, kd, de⟩ 81
        have hownA : ∀ o, (wt.alloc o).ownsRow wq.heap.size 81 4 (.slice A0 m c0') m (ecells ((g.es.drop Q).take m)) := fun o => ((Only.refl (fun _ => False) wt).alloc o).own hownq (by simp)
        have hbas : ∀ o, wq.heap.size ≤ (wt.alloc o).heap.size := fun o => by simp; omega
        have HOQ := Lib.hid hownq
        clear d0 d1 d2 d3 c4r hownq
        go_wp2_with (first
          | (at_builtin
             refine wpList_app (v := .slice A0 m c0') _ rfl _ _ rfl wq.heap.size rfl (hownA _) rfl hnews (ecells_one _) hm40 (hbas _) ?_
             intro A' c' w1 hown1 hg1 hat1
             obtain ⟨ho1, hb1⟩ := more_own HOQ.out hbelq hown1 hg1
             clear hown1 hg1 hat1))
        go_roundw
        case rel => exact ⟨k + 1, m + 1, by omega, hkm, by go_num, by rw [HNX.out]; exact ho1, hb1⟩
        case measure => simp [intOf]; omega
    · obtain rfl : k = n := by omega
      have htk : (g.es.drop Q).take m = g.es.drop Q := List.take_of_length_le (by rw [List.length_drop, HN.out]; omega)
      rw [htk] at hown
      have hlen : m = (g.es.drop Q).length := by rw [List.length_drop, HN.out]; exact hm
      have h1 := H.out.below hB
      have z0 := h1.c0
      have z1 := h1.c1
      have z2 := h1.c2
      have z3 := h1.c3
      have hlt1 := h1.lt
      have f0 := free_at h1.cell 0
      have f1 := free_at h1.cell 1
      have f2 := free_at h1.cell 2
      have f3 := free_at h1.cell 3
      obtain ⟨hc5, hf5, hleft⟩ := laid_both (H.out.below hbq) hbel hown hlen ⟨ix, tm, cf, d⟩
      have HLeft := Lib.hid hleft
      simp only at hc5 hf5
      clear h1 hleft hown hlen htk HO HM hm
      go_wp2_with fail
      go_ret
      exact ⟨rfl, LeftL.afterBelow hbq HLeft.out⟩
/-- Whatever snapshot comes. -/
theorem rinstall_any (hl : g.es.length * 40 ≤ 140737488355328) : Calls Tryz.prog 126 #[.pointer (some ⟨p, 0, none⟩), snapV s] w (Answers 60 B w p v (install g s)) := by
  unfold install
  cases h1 : sound s.cfg with
  | false => rw [if_pos rfl]; exact rinstall_mad h hs h1
  | true =>
    rw [if_neg (by simp)]
    by_cases h2 : s.idx ≤ g.snap.idx
    · rw [if_pos h2]; exact rinstall_old h hs h1 h2
    · rw [if_neg h2]
      have hne : s.idx ≠ g.snap.idx := by omega
      unfold behind
      cases hp : place g s.idx with
      | none => exact rinstall_no h f hs h1 h2 (by unfold term; rw [if_neg hne, hp]; simp)
      | some k =>
        have hk := List.getElem?_eq_getElem (place_lt hp).1
        simp only [hk, Option.map_some, Option.some.injEq]
        by_cases ht : (g.es[k]'(place_lt hp).1).term = s.term
        · rw [if_pos ht]; exact rinstall_yes h f hs h1 h2 hp hk ht hl
        · rw [if_neg ht]; exact rinstall_no h f hs h1 h2 (by unfold term; rw [if_neg hne, hp]; simpa [hk] using ht)
end
end Go.Proofs.YtojmbbldehbjfaaGreat.RefH
set_option linter.unusedVariables false
namespace Go.Proofs.YtojmbbldehbjfaaGreat.RefI
open Go.RowKit Go.Proofs.YtojmbbldehbjfaaGreat.Kit Go.Proofs.YtojmbbldehbjfaaGreat.Blocks Go.Proofs.YtojmbbldehbjfaaGreat.Rlog Go.Proofs.YtojmbbldehbjfaaGreat.Ents Go.Proofs.YtojmbbldehbjfaaGreat.LogAt Go.Proofs.YtojmbbldehbjfaaGreat.App Go.Proofs.YtojmbbldehbjfaaGreat.RlgWalkA Go.Proofs.YtojmbbldehbjfaaGreat.RlgWalkB Go.Proofs.YtojmbbldehbjfaaGreat.RlgWalkC Go.Proofs.YtojmbbldehbjfaaGreat.RlgWalkD Go.Proofs.YtojmbbldehbjfaaGreat.RlgWalkF Go.Proofs.YtojmbbldehbjfaaGreat.RlgWalkG Go.Proofs.YtojmbbldehbjfaaGreat.RlgWalkH Go.Proofs.YtojmbbldehbjfaaGreat.RlgWalkI Go.Proofs.YtojmbbldehbjfaaGreat.RefB Go.Proofs.YtojmbbldehbjfaaGreat.RefC Go.Proofs.YtojmbbldehbjfaaGreat.RefD Go.Proofs.YtojmbbldehbjfaaGreat.RefG Go.Proofs.YtojmbbldehbjfaaGreat.RefH

/-- What a term that was looked up says of an entry's. -/
theorem term_case (r : Option Nat) (T : Nat) : ∃ E V : Nat, (∀ w e w', TermIs w r e w' → e = .returned (.tuple #[.int .u64 (V : Int), .int .i64 (E : Int)]) ∧ w = w') ∧
    ((r = some T ∧ E = 0 ∧ V = T) ∨ (decide (r = some T) = false ∧ ((E : Int) == 0) = false ∧ ((E : Int) != 0) = true) ∨ (decide (r = some T) = false ∧ E = 0 ∧ ((V : Int) == (T : Int)) = false ∧ ((V : Int) != (T : Int)) = true)) := by
  cases r with
  | none => exact ⟨20, 0, fun _ _ _ h => h, .inr (.inl ⟨by simp, by decide, by decide⟩)⟩
  | some t =>
    refine ⟨0, t, fun _ _ _ h => h, ?_⟩
    by_cases ht : t = T
    · subst ht; exact .inl ⟨rfl, rfl, rfl⟩
    · refine .inr (.inr ⟨by simpa using ht, rfl, ?_, ?_⟩) <;> simp <;> omega

section
variable {B p : Nat} {v : Value} {g : G} {w : World} (h : LR B w p v g) (f : Fine g)
include h f
set_option maxRecDepth 100000 in
set_option maxHeartbeats 4000000 in
/-- Whatever comes to be merged. -/
theorem rmerge_any (A : Option Addr) (n c i t : Nat) (l : List Ent) (hr : RE w w.heap.size A n l) (hoff : Off (Foot p v) A n) (hb : ∀ e ∈ l, EntB e) (hnc : n ≤ c) (h63 : c ≤ 9223372036854775807) (hi : i < 18446744073709551616) (hroom : chained l i t = true → (g.es.length + n) * 40 ≤ 140737488355328) :
    Calls Tryz.prog 105 #[.pointer (some ⟨p, 0, none⟩), .int .u64 (i : Int), .int .u64 (t : Int), .slice A n c] w (Merged 60 B w p v (merge g i t l)) := by
  obtain ⟨R, hRm⟩ : ∃ R, merge g i t l = R := ⟨_, rfl⟩
  rw [hRm]
  have HRm := Lib.hid hRm
  clear hRm
  have hn := RE.len hr
  have HN := Lib.hid hn
  have HB := Lib.hid hb
  have H := Lib.hid h
  have HF := Lib.hid f
  have HRo := Lib.hid hroom
  obtain ⟨S, hS⟩ : ∃ S, g.snap.idx = S := ⟨_, rfl⟩
  have HS := Lib.hid hS
  have h0 : Pos (Foot p v) w l n 0 (.slice A n c) w := ⟨by omega, ⟨A, n, c, rfl, by omega, hr, hnc, h63, hoff⟩, Below.refl _ _⟩
  have HP0 := Lib.hid h0
  have HOff := Lib.hid hoff
  clear hn hb h f hS h0 hoff hroom
  go_enter Tryz.func105, Tryz.ntmps105
  go_upto_block 0 with fail
  go_cut [10, 11, 12] from 20 to 44 (fun a b x wx => chained l i t = true ∧ Below w.heap.size w wx)
  case first =>
    go_wp2_with fail
    go_loopw [10, 11, 12] (fun a b x wr => ∃ k I T : Nat, k ≤ n ∧ a = .int .u64 (I : Int) ∧ b = .int .u64 (T : Int) ∧ x = .int .i64 (k : Int) ∧ I < 18446744073709551616 ∧ Hid (lasts (l.take k) i t = (I, T)) ∧ Hid (chained (l.take k) i t = true) ∧ Below w.heap.size w wr) (fun _ _ x _ => n - (intOf x).toNat)
    case atStart => exact ⟨0, i, t, by omega, rfl, rfl, rfl, hi, Lib.hid rfl, Lib.hid rfl, Below.refl _ _⟩
    case round =>
      obtain ⟨k, I, T, hk, rfl, rfl, rfl, hIb, HL, HC, hbel⟩ := hrel
      have hsz := hbel.size
      by_cases hkn : k < n
      · obtain ⟨b, o, e, rfl, hbl, hek, hfour⟩ := RE.at_ hr hkn
        have hfr := Four.below hfour hbel hbl
        have c0 := hfr.c0
        have c1 := hfr.c1
        have c2 := hfr.c2
        have c3 := hfr.c3
        have hep := HB.out e (List.mem_of_getElem? hek)
        have hidb := hep.idx
        obtain ⟨f1, f2⟩ := chained_next hek HC.out HL.out
        obtain ⟨q, hq⟩ : ∃ q, (I + 1) % 18446744073709551616 = q := ⟨_, rfl⟩
        have hwq : IntKind.u64.wrap ((I : Int) + 1) = (q : Int) := by rw [← hq]; exact wrap_succ hIb
        have hmay := fun w => rmay_any (i := I) (t := T) hep w hIb hq.symm
        obtain ⟨tm', ix', kd, d'⟩ := e
        unfold entV at hmay
        simp only at c0 c1 c2 c3 hmay f2 hidb
        obtain ⟨r, hr1⟩ : ∃ r, may ⟨tm', ix', kd, d'⟩ I T = r := ⟨_, rfl⟩
        rw [hr1] at hmay f1
        have HMay := Lib.hid hmay
        have H1 := Lib.hid f1
        have H2 := Lib.hid f2
        clear hmay f1 f2 hr1 hek hfr hfour hq hep
        cases r with
        | false =>
          go_wp2_with fail
          refine (HMay.out _).mono ?_
          rintro e' w1 ⟨rfl, hb1⟩
          obtain rfl : R = (([], false), g) := by rw [← HRm.out]; unfold merge; rw [if_pos (chained_not H1.out)]
          go_wp2
          go_ret2
          exact ⟨none, 0, rfl, RE.nil _ _ _, by simp, by omega, LeftL.of_below H.out (hbel.trans (hb1.mono hsz)), Off.zero _ _⟩
        | true =>
          go_wp2_with fail
          refine (HMay.out _).mono ?_
          rintro e' w1 ⟨rfl, hb1⟩
          have hB1 := hbel.trans (hb1.mono hsz)
          have d0 := (hb1.cell (p := ⟨b, o + k * 4, none⟩) (by show b < _; omega)).trans c0
          have d1 := (hb1.cell (p := ⟨b, o + k * 4 + 1, none⟩) (by show b < _; omega)).trans c1
          clear hb1 c0 c1 c2 c3
          go_wp2_with fail
          go_quiet (fail)
          all_goals go_wp2
          all_goals
            go_roundw
            case rel => exact ⟨k + 1, ix', tm', by omega, rfl, rfl, by go_num, hidb, H2, H1, below_drewN hB1 _⟩
            case measure => simp [intOf]; omega
      · obtain rfl : k = n := by omega
        have hch : chained l i t = true := by
          have := HC.out
          rwa [List.take_of_length_le (by rw [HN.out]; exact Nat.le_refl _)] at this
        have HCh := Lib.hid hch
        clear hch
        go_wp2
        go_meet
        case rel => exact ⟨HCh.out, hbel⟩
  case rest =>
    obtain ⟨hch, hb2⟩ := hcut
    have HC := Lib.hid hch
    have hroom := HRo.out hch
    clear hch
    go_upto_block 2 with fail
    go_cut [1, 2, 3] from 45 to 69 (fun a b s wx => Mid1 (Foot p v) g w l n i t a b s wx)
    case first =>
      go_wp2_with fail
      go_loopw [1, 2, 3] (fun a b s wr => ∃ k I T : Nat, a = .int .u64 (I : Int) ∧ b = .int .u64 (T : Int) ∧ Hid (lasts (l.take k) i t = (I, T)) ∧ Hid (∀ e ∈ l.take k, old g e = true) ∧ Pos (Foot p v) w l n k s wr) (fun _ _ s _ => lenOf s)
      case atStart => exact ⟨0, i, t, rfl, rfl, Lib.hid rfl, Lib.hid (by simp), ⟨by omega, ⟨A, n, c, rfl, by omega, Kit.Reads.below (HP0.out.slice.elim fun A' ⟨m, c', e1, e2, e3, _⟩ => by cases e1; exact e3) hb2, hnc, h63, HOff.out⟩, hb2⟩⟩
      case round =>
        obtain ⟨k, I, T, rfl, rfl, HL, HA, hpos⟩ := hrel
        obtain ⟨hkn, ⟨A', m, c', rfl, hm, hr', hc', h63', hof⟩, hbel⟩ := hpos
        have HOf := Lib.hid hof
        have hr0 := hr'
        have hpr := (H.out.below hbel).c0
        have hpl := (H.out.below hbel).lt
        rw [HS.out] at hpr
        have HR := Lib.hid hr'
        have HM := Lib.hid hm
        by_cases hk : k < n
        · obtain ⟨b, o, e, rfl, hbl, he, hfour⟩ := at0 hr' (by omega)
          have d0 := hfour.c0
          have d1 := hfour.c1
          have hsl : ∀ w, (Instr.slice 27 (.slice (some ⟨b, o, none⟩) m c') (some (.int .i64 1)) none none).run Tryz.prog w = .ok (.slice (cut4 (some ⟨b, o, none⟩) c' 1) (m - 1) (c' - 1)) w :=
            fun w => run_from4 27 81 Tryz.underlying27 sz4 (some ⟨b, o, none⟩) m c' 1 (by omega) w
          obtain ⟨A2, hA2⟩ : ∃ A2, cut4 (some ⟨b, o, none⟩) c' 1 = A2 := ⟨_, rfl⟩
          obtain ⟨m2, hm2⟩ : ∃ m2, m - 1 = m2 := ⟨_, rfl⟩
          obtain ⟨c2, hc2⟩ : ∃ c2, c' - 1 = c2 := ⟨_, rfl⟩
          rw [hA2, hm2, hc2] at hsl
          have hpos0 : 0 < m := by omega
          have hpos1 : decide (0 < m) = true := decide_eq_true hpos0
          have hnext : ∀ wy, Below w.heap.size w wy → Below w.heap.size wr wy → Pos (Foot p v) w l n (k + 1) (.slice A2 m2 c2) wy := fun wy h1 h2 => by
            rw [← hA2, ← hm2, ← hc2]
            exact Pos.next hk hm HR.out hc' h63' HOf.out h1 h2
          have HNX := Lib.hid hnext
          have HE := Lib.hid he
          have hmm : m2 < m := by omega
          clear hnext hA2 hm2 hc2 hr' hr0 hfour he hm hof
          obtain ⟨tm, ix, kd, dd⟩ := e
          simp only at d0 d1
          by_cases hold : ix ≤ S
          · have hold1 : decide (ix ≤ S) = true := decide_eq_true hold
            have hoi : Hid (∀ e ∈ l.take (k + 1), old g e = true) := by
              show ∀ e ∈ l.take (k + 1), old g e = true
              rw [take_snoc l k _ HE.out]
              intro e he
              rcases List.mem_append.1 he with he | he
              · exact HA.out e he
              · simp at he
                subst he
                unfold old
                rw [HS.out]
                exact decide_eq_true hold
            have hla : Hid (lasts (l.take (k + 1)) i t = (ix, tm)) := by show _ = _; rw [lasts_take _ _ _ _ _ HE.out]
            go_wp2_with fail
            go_quiet (fail)
            all_goals go_wp2_with fail
            all_goals go_quiet (fail)
            all_goals go_wp2
            all_goals
              go_roundw
              case rel => exact ⟨k + 1, ix, tm, rfl, rfl, hla, hoi, HNX.out _ (below_drewN hbel _) (below_drewN (Below.refl _ _) _)⟩
              case measure => simp [lenOf]; omega
          · have hold1 : decide (ix ≤ S) = false := decide_eq_false hold
            have hw := takeWhile_at (p := old g) (l := l) (k := k) HA.out (fun e he => by
              rw [HE.out] at he
              cases he
              unfold old
              rw [HS.out]
              exact decide_eq_false hold)
            have HW := Lib.hid hw
            clear hw
            go_wp2_with fail
            go_quiet (fail)
            all_goals go_wp2
            all_goals
              go_meet
              case rel => exact ⟨k, I, T, rfl, rfl, HL.out, ⟨hkn, ⟨_, m, c', rfl, HM.out, HR.out, hc', h63', HOf.out⟩, below_drewN hbel _⟩, HW.out.1, HW.out.2⟩
        · obtain rfl : k = n := by omega
          obtain rfl : m = 0 := by omega
          have hw := takeWhile_at (p := old g) (l := l) (k := k) HA.out (fun e he => by
            have := (List.getElem?_eq_some_iff.1 he).1
            have := HN.out
            omega)
          have HW := Lib.hid hw
          clear hw hr' hr0 hm hof
          have hz1 : decide (0 < 0) = false := rfl
          go_wp2_with fail
          go_quiet (fail)
          all_goals go_wp2
          all_goals
            go_meet
            case rel => exact ⟨k, I, T, rfl, rfl, HL.out, ⟨hkn, ⟨_, 0, c', rfl, HM.out, HR.out, hc', h63', HOf.out⟩, below_drewN hbel _⟩, HW.out.1, HW.out.2⟩
    case rest =>
      obtain ⟨k, I, T, rfl, rfl, hla, hpos, e1, e2⟩ := hcut
      have hmg : R = if I < S then (([], true), g) else if has g I T = false then (([], false), g) else lay g ((l.drop k).dropWhile (there g)) := by
        rw [← HRm.out]
        unfold merge
        rw [HC.out, if_neg (by simp), e1, e2, hla, HS.out]
      obtain ⟨hkn, ⟨A', m, c', rfl, hm, hr', hc', h63', hof⟩, hbel⟩ := hpos
      have hwl := H.out.below hbel
      have hpr := hwl.c0
      have hpl := hwl.lt
      rw [HS.out] at hpr
      have HR := Lib.hid hr'
      have HM := Lib.hid hm
      have HOf := Lib.hid hof
      have HMG := Lib.hid hmg
      have HWL := Lib.hid hwl
      clear hmg e1 e2 hr' hm hof hla hwl
      by_cases hI : I < S
      · obtain rfl : R = (([], true), g) := by rw [HMG.out, if_pos hI]
        have hI1 : decide (I < S) = true := decide_eq_true hI
        go_wp2
        go_ret2
        exact ⟨none, 0, rfl, RE.nil _ _ _, by simp, by omega, LeftL.of_below H.out hbel, Off.zero _ _⟩
      have hI1 : decide (I < S) = false := decide_eq_false hI
      have hterm := rterm_any HWL.out HF.out I
      obtain ⟨r, hr1⟩ : ∃ r, term g I = r := ⟨_, rfl⟩
      rw [hr1] at hterm
      have hhas : has g I T = decide (r = some T) := by unfold has; rw [hr1]
      have HH := Lib.hid hhas
      have HTerm := Lib.hid hterm
      clear hhas hr1 hterm
      obtain ⟨E, V, hEV, hcase⟩ := term_case r T
      have HEV := Lib.hid hEV
      clear hEV
      rcases hcase with ⟨hrT, rfl, rfl⟩ | ⟨hrT, hE1, hE2⟩ | ⟨hrT, rfl, hV1, hV2⟩
      · have hRl : R = lay g ((l.drop k).dropWhile (there g)) := by rw [HMG.out, if_neg hI, if_neg (by rw [HH.out, hrT]; simp)]
        have HRL := Lib.hid hRl
        clear hRl hrT
        have hVV : ((V : Int) != (V : Int)) = false := by simp
        go_wp2_with fail
        refine HTerm.out.mono ?_
        intro e w3 he
        obtain ⟨rfl, rfl⟩ := HEV.out _ _ _ he
        clear he
        go_wp2_with fail
        go_loopw [15] (fun x wr => ∃ j : Nat, j ≤ m ∧ x = .int .i64 (j : Int) ∧ Hid (∀ e ∈ (l.drop k).take j, there g e = true) ∧ wr = wc) (fun x _ => m - (intOf x).toNat)
        case atStart => exact ⟨0, by omega, rfl, Lib.hid (by simp), rfl⟩
        case round =>
          obtain ⟨j, hjm, rfl, HT, rfl⟩ := hrel
          by_cases hj : j < m
          · obtain ⟨b, o, e, rfl, hbl, he, hfour⟩ := RE.at_ HR.out hj
            have d0 := hfour.c0
            have d1 := hfour.c1
            have hib := (HB.out _ (List.mem_of_mem_drop (List.mem_of_getElem? he))).idx
            have hterm := rterm_any HWL.out HF.out e.idx
            obtain ⟨r2, hr2⟩ : ∃ r2, term g e.idx = r2 := ⟨_, rfl⟩
            rw [hr2] at hterm
            have hth : there g e = decide (r2 = some e.term) := by unfold there has; rw [hr2]
            have HTerm2 := Lib.hid hterm
            have HE := Lib.hid he
            obtain ⟨E2, V2, hEV2, hcase2⟩ := term_case r2 e.term
            have HEV2 := Lib.hid hEV2
            rcases hcase2 with ⟨hrT, rfl, rfl⟩ | ⟨hrT, hX1, hX2⟩ | ⟨hrT, rfl, hX1, hX2⟩
            · have hth2 : Hid (∀ x ∈ (l.drop k).take (j + 1), there g x = true) := by
                show ∀ x ∈ (l.drop k).take (j + 1), there g x = true
                rw [take_snoc (l.drop k) j e HE.out]
                intro x hx
                rcases List.mem_append.1 hx with hx | hx
                · exact HT.out x hx
                · simp at hx
                  subst hx
                  rw [hth, hrT]
                  simp
              have hVV2 : ((e.term : Int) == (e.term : Int)) = true := by simp
              obtain ⟨ix, hix⟩ : ∃ ix, e.idx = ix := ⟨_, rfl⟩
              obtain ⟨tm, htm⟩ : ∃ tm, e.term = tm := ⟨_, rfl⟩
              rw [hix] at d1 HTerm2
              rw [htm] at d0 hVV2 HEV2
              clear hr2 hterm hth he hfour hEV2 hrT hix htm
              go_wp2_with fail
              refine HTerm2.out.mono ?_
              intro e' w3 he'
              obtain ⟨rfl, rfl⟩ := HEV2.out _ _ _ he'
              clear he'
              go_wp2
              go_roundw
              case rel => exact ⟨j + 1, by omega, by go_num, hth2, by first | rfl | trivial⟩
              case measure => simp [intOf]; omega
            all_goals
              have hdw : (l.drop k).dropWhile (there g) = l.drop (k + j) := by
                rw [(takeWhile_at (p := there g) (l := l.drop k) (k := j) HT.out (fun e' he' => by
                  rw [HE.out] at he'
                  cases he'
                  rw [hth, hrT])).2, List.drop_drop]
              have hee : l[k + j]? = some e := by have := HE.out; rwa [List.getElem?_drop] at this
              have hRR : R = ((l.drop (k + j), true), { g with es := upto g e.idx ++ l.drop (k + j) }) := by
                rw [HRL.out, hdw]
                obtain ⟨hjl, rfl⟩ := List.getElem?_eq_some_iff.1 hee
                rw [List.drop_eq_getElem_cons hjl]
                rfl
              have hfrom := RE.from_ HR.out (k := j) (by omega) hc'
              rw [List.drop_drop] at hfrom
              have hsl : ∀ w, (Instr.slice 27 (.slice (some ⟨b, o, none⟩) m c') (some (.int .i64 (j : Int))) none none).run Tryz.prog w = .ok (.slice (cut4 (some ⟨b, o, none⟩) c' j) (m - j) (c' - j)) w :=
                fun w => run_from4 27 81 Tryz.underlying27 sz4 (some ⟨b, o, none⟩) m c' j (by omega) w
              have hoc := HOf.out.cut c' j
              have hdl : (l.drop (k + j)).length = m - j := by rw [List.length_drop, HN.out, HM.out]; omega
              have hnm : m - j ≤ n := by rw [HM.out]; omega
              have hul : (upto g e.idx).length ≤ g.es.length := by
                unfold upto
                cases place g e.idx with
                | none => exact Nat.le_refl _
                | some k => simp only [List.length_take]; omega
              have hcut := RefE.rcut_any HWL.out HF.out e.idx (by omega)
              obtain ⟨m2, hm2⟩ : ∃ m2, m - j = m2 := ⟨_, rfl⟩
              obtain ⟨A2, hA2⟩ : ∃ A2, cut4 (some ⟨b, o, none⟩) c' j = A2 := ⟨_, rfl⟩
              obtain ⟨c2, hc2⟩ : ∃ c2, c' - j = c2 := ⟨_, rfl⟩
              rw [hA2, hm2] at hfrom
              rw [hA2, hm2, hc2] at hsl
              rw [hA2, hm2] at hoc
              rw [hm2] at hdl hnm
              have hroom2 : ((upto g e.idx).length + m2) * 40 ≤ 140737488355328 := by omega
              have hm40 : m2 * 40 ≤ 140737488355328 := by omega
              have hlen : (upto g e.idx).length + m2 = (upto g e.idx ++ l.drop (k + j)).length := by rw [List.length_append, hdl]
              subst hRR
              unfold cut at hcut
              obtain ⟨U, hU⟩ : ∃ U, upto g e.idx = U := ⟨_, rfl⟩
              rw [hU] at hcut hroom2 hlen
              have HCut := Lib.hid hcut
              have HLen := Lib.hid hlen
              have HDL := Lib.hid hdl
              have HU := Lib.hid hU
              have HFrom := Lib.hid hfrom
              have HOc := Lib.hid hoc
              obtain ⟨ix, hix⟩ : ∃ ix, e.idx = ix := ⟨_, rfl⟩
              obtain ⟨tm, htm⟩ : ∃ tm, e.term = tm := ⟨_, rfl⟩
              rw [hix] at d1 HTerm2 HCut
              simp only [htm] at d0 hX1 hX2 HEV2
              clear hr2 hterm hth he hfour hEV2 hrT hix htm hcut hlen hdl hU hfrom hoc hA2 hm2 hc2 hul hdw hee hib
              go_wp2_with fail
              refine HTerm2.out.mono ?_
              intro e' w3 he'
              obtain ⟨rfl, rfl⟩ := HEV2.out _ _ _ he'
              clear he'
              go_wp2_with fail
              refine HCut.out.mono ?_
              rintro e' w3 ⟨rfl, v3, h3, o3, f3⟩
              have hr3 := HOc.out.reads o3 HFrom.out hbel.size
              have d4 := h3.c4
              have hlt3 := h3.lt
              have hbase3 : B ≤ w3.drew.heap.size := h3.base
              obtain ⟨A3, c3, rfl, _, _, _⟩ := h3.form
              have hown3 := h3.drew.own
              simp only at d4 hown3
              obtain ⟨N3, hN3⟩ : ∃ N3, U.length = N3 := ⟨_, rfl⟩
              rw [hN3] at d4 hown3 hroom2
              have HN3 := Lib.hid hN3
              have H3 := Lib.hid h3
              have HO3 := Lib.hid o3
              have HF3 := Lib.hid f3
              have hr3d := Reads.drew hr3
              clear h3 o3 f3 hN3
              go_wp2_with fail
              go_region_law (first
                | (refine step_app (v := .slice A3 N3 c3) _ rfl _ _ rfl B rfl hown3 rfl hr3d (ecells_one _) hroom2 hbase3 ?_
                   intro A4 c4 w4 hown4 hg4 hat4
                   have ho4 := ((Only.refl (fun q => (Value.slice A3 N3 c3).ownBlock = some q) w3).drew).grown hg4 (fun q hq => .inr hq)
                   have hat' : ∀ q, (Value.slice A4 (N3 + m2) c4).ownBlock = some q → (Value.slice A3 U.length c3).ownBlock = some q ∨ w3.heap.size ≤ q := fun q hq => by
                     rcases hat4 with e | e
                     · rw [hq] at e
                       have h := HN3.out
                       subst h
                       exact .inl e.symm
                     · rw [hq] at e; cases e; exact .inr (Nat.le_refl _)
                   obtain ⟨hcell4, hfr4, hleft⟩ := H3.out.rowed (w1 := w4) (v1 := .slice A4 (N3 + m2) c4) (es := U ++ l.drop (k + j)) (ho4.mono fun q _ hq => by have h := HN3.out; subst h; exact hq) hown4 (by rw [← HN3.out]; exact HLen.out) (by rw [ecells_append]) hat'
                   rw [HN3.out] at hcell4
                   have hlt4 : p < w4.heap.size := Nat.lt_of_lt_of_le hlt3 ho4.size
                   have HL := Lib.hid (LeftL.then HO3.out HF3.out hleft)
                   clear hleft hat' hat4 hg4 hown4 ho4))
              all_goals
                generalize w4.setCell ⟨p, 4, none⟩ _ = w5 at HL ⊢
                have ho5 : Only (Foot p v) wr w5 := by obtain ⟨v5, h5, o5, f5⟩ := HL.out; exact o5
                have hr5 : RE w5 w5.heap.size A2 m2 (l.drop (k + j)) := (HOc.out.reads ho5 HFrom.out hbel.size).more (Nat.le_trans hbel.size ho5.size)
                have HR5 := Lib.hid hr5
                have hrefl5 := Nat.le_refl w5.heap.size
                have HSZ := Lib.hid (Nat.le_trans hbel.size ho5.size)
                clear hr3 hr3d hr5 ho5
                go_wp2_with (first
                  | (at_builtin
                     refine wpList_new _ rfl _ _ rfl w5.heap.size rfl rfl HR5.out (ecells_one _) hm40 hrefl5 ?_
                     intro A6 c6 w6 hown6 hb6 hat6))
                have HO6 := Lib.hid hown6
                clear hat6 hown6
                go_ret2
                obtain ⟨A7, c7, hv7, h71, h72, h73⟩ := own_form HO6.out
                cases hv7
                unfold maxLen at h72
                rw [HU.out]
                exact ⟨A6, c6, by simp only [HDL.out]; rfl, by simp only [HDL.out]; exact h73, by simp only [HDL.out]; exact h71, by omega, LeftL.afterBelow hbel (LeftL.thenBelow HL.out hb6), by simp only [HDL.out]; exact (off_own HO6.out).more HSZ.out⟩
          · obtain rfl : j = m := by omega
            have hdw : (l.drop k).dropWhile (there g) = [] := by
              rw [(takeWhile_at (p := there g) (l := l.drop k) (k := j) HT.out (fun e he => by
                have := (List.getElem?_eq_some_iff.1 he).1
                rw [List.length_drop, HN.out, HM.out] at this
                omega)).2]
              exact List.drop_of_length_le (by rw [List.length_drop, HN.out, HM.out]; exact Nat.le_refl _)
            obtain rfl : R = (([], true), g) := by rw [HRL.out, hdw]; rfl
            clear hdw
            go_wp2
            go_ret2
            exact ⟨none, 0, rfl, RE.nil _ _ _, by simp, by omega, LeftL.of_below H.out hbel, Off.zero _ _⟩
      · obtain rfl : R = (([], false), g) := by rw [HMG.out, if_neg hI, if_pos (by rw [HH.out, hrT])]
        clear hrT
        go_wp2_with fail
        refine HTerm.out.mono ?_
        intro e w3 he
        obtain ⟨rfl, rfl⟩ := HEV.out _ _ _ he
        clear he
        go_wp2
        go_ret2
        exact ⟨none, 0, rfl, RE.nil _ _ _, by simp, by omega, LeftL.of_below H.out hbel, Off.zero _ _⟩
      · obtain rfl : R = (([], false), g) := by rw [HMG.out, if_neg hI, if_pos (by rw [HH.out, hrT])]
        clear hrT
        go_wp2_with fail
        refine HTerm.out.mono ?_
        intro e w3 he
        obtain ⟨rfl, rfl⟩ := HEV.out _ _ _ he
        clear he
        go_wp2
        go_ret2
        exact ⟨none, 0, rfl, RE.nil _ _ _, by simp, by omega, LeftL.of_below H.out hbel, Off.zero _ _⟩
end
end Go.Proofs.YtojmbbldehbjfaaGreat.RefI
