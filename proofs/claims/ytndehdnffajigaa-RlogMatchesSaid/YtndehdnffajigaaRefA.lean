/- What the document's New leaves, walked. -/
import Derived.Test.YtndehdnffajigaaWalkD
set_option linter.unusedVariables false
namespace Go.Proofs.Ytndehdnffajigaa.RefA
open Go.RowKit Go.Proofs.Ytndehdnffajigaa.Kit Go.Proofs.Ytndehdnffajigaa.Blocks Go.Proofs.Ytndehdnffajigaa.Rlog Go.Proofs.Ytndehdnffajigaa.Ents Go.Proofs.Ytndehdnffajigaa.LogAt Go.Proofs.Ytndehdnffajigaa.App Go.Proofs.Ytndehdnffajigaa.WalkA Go.Proofs.Ytndehdnffajigaa.WalkB Go.Proofs.Ytndehdnffajigaa.WalkC Go.Proofs.Ytndehdnffajigaa.WalkD
open Go.Proofs.Ytndehdnffajigaa.Quorum (sound)

section
variable {s : Snap} (hs : SnapB s) (A : Option Addr) (n c : Nat) (l : List Ent) (w : World) (hr : RE w w.heap.size A n l) (hb : ∀ e ∈ l, EntB e)
include hs
theorem rnew_mad (h : sound s.cfg = false) : Calls Try.prog 12 #[snapV s, .slice A n c] w (NoLog w) := by
  have hcf := hs.cfg
  obtain ⟨ix, tm, cf, d⟩ := s
  simp only at *
  have HS := Lib.hid h
  clear h hs
  have hba : Below w.heap.size w (w.alloc (.cells #[.int .u64 (ix : Int), .int .u64 (tm : Int), .int .u64 (cf : Int), .string d] 24)) := (Below.refl _ _).alloc (Nat.le_refl _) _
  unfold snapV
  go_enter Try.func12, Try.ntmps12
  go_wp2_with fail
  refine (rsound_hid hcf HS _).mono ?_
  rintro e w1 ⟨rfl, rfl⟩
  go_wp2
  go_ret2
  exact ⟨rfl, hba⟩
include hr hb
set_option maxRecDepth 100000 in
set_option maxHeartbeats 2000000 in
theorem rnew_any (h63 : n * 40 ≤ 140737488355328) (h : sound s.cfg = true) : Calls Try.prog 12 #[snapV s, .slice A n c] w fun e w' =>
    if chained l s.idx s.term = true then NewLog 73 w ⟨s, l⟩ e w' else NoLog w e w' := by
  have hn := RE.len hr
  have HN := Lib.hid hn
  have hcf := hs.cfg
  have hib := hs.idx
  obtain ⟨ix, tm, cf, d⟩ := s
  simp only at *
  have HS := Lib.hid h
  have hba : Below w.heap.size w (w.alloc (.cells #[.int .u64 (ix : Int), .int .u64 (tm : Int), .int .u64 (cf : Int), .string d] 24)) := (Below.refl _ _).alloc (Nat.le_refl _) _
  have hcb := heap_alloc_new w (.cells #[.int .u64 (ix : Int), .int .u64 (tm : Int), .int .u64 (cf : Int), .string d] 24)
  have hpl : w.heap.size < (w.alloc (.cells #[.int .u64 (ix : Int), .int .u64 (tm : Int), .int .u64 (cf : Int), .string d] 24)).heap.size := by simp
  have HCB := Lib.hid hcb
  have HPl := Lib.hid hpl
  obtain ⟨R, hR⟩ : ∃ R, chained l ix tm = R := ⟨_, rfl⟩
  rw [hR]
  have HR := Lib.hid hR
  clear h hs hn hcb hR hpl
  unfold snapV
  go_enter Try.func12, Try.ntmps12
  go_wp2_with fail
  refine (rsound_hid hcf HS _).mono ?_
  rintro e w1 ⟨rfl, rfl⟩
  go_wp2_with fail
  go_quiet (fail)
  have hbq := below_drewN hba nq
  have hcq : ((w.alloc (.cells #[.int .u64 (ix : Int), .int .u64 (tm : Int), .int .u64 (cf : Int), .string d] 24)).drewN nq).heap[w.heap.size]? = _ := HCB.out
  generalize (w.alloc (.cells #[.int .u64 (ix : Int), .int .u64 (tm : Int), .int .u64 (cf : Int), .string d] 24)).drewN nq = wq at hbq hcq ⊢
  have HCQ := Lib.hid hcq
  clear hcq hba
  go_wp2_with fail
  go_loopw [6, 7, 8] (fun a b x wr => ∃ k I T : Nat, k ≤ n ∧ a = .int .u64 (I : Int) ∧ b = .int .u64 (T : Int) ∧ x = .int .i64 (k : Int) ∧ I < 18446744073709551616 ∧ Hid (lasts (l.take k) ix tm = (I, T)) ∧ Hid (chained (l.take k) ix tm = true) ∧ Below w.heap.size w wr ∧ wr.heap[w.heap.size]? = some (.cells #[.int .u64 (ix : Int), .int .u64 (tm : Int), .int .u64 (cf : Int), .string d] 24 (0, 0))) (fun _ _ x _ => n - (intOf x).toNat)
  case atStart => exact ⟨0, ix, tm, by omega, rfl, rfl, rfl, hib, Lib.hid rfl, Lib.hid rfl, hbq, HCQ.out⟩
  case round =>
    obtain ⟨k, I, T, hk, rfl, rfl, rfl, hIb, HL, HF, hbel, hcr⟩ := hrel
    have HCR := Lib.hid hcr
    clear hcr
    have hsz := hbel.size
    by_cases hkn : k < n
    · obtain ⟨b, o, e, rfl, hbl, hek, hfour⟩ := RE.at_ hr hkn
      have hfr := Four.below hfour hbel hbl
      have c0 := hfr.c0
      have c1 := hfr.c1
      have c2 := hfr.c2
      have c3 := hfr.c3
      have hep := hb e (List.mem_of_getElem? hek)
      have hidb := hep.idx
      obtain ⟨f1, f2⟩ := chained_next hek HF.out HL.out
      obtain ⟨q, hq⟩ : ∃ q, (I + 1) % 18446744073709551616 = q := ⟨_, rfl⟩
      have hwq : IntKind.u64.wrap ((I : Int) + 1) = (q : Int) := by rw [← hq]; exact wrap_succ hIb
      have hmay := fun w => rmay_any (i := I) (t := T) hep w hIb hq.symm
      obtain ⟨tm', ix', kd, d'⟩ := e
      unfold entV at hmay
      simp only at c0 c1 c2 c3 hmay f2 hidb
      obtain ⟨r, hr1⟩ : ∃ r, may ⟨tm', ix', kd, d'⟩ I T = r := ⟨_, rfl⟩
      rw [hr1] at hmay f1
      have HMay := Lib.hid hmay
      have H1 := Lib.hid f1
      have H2 := Lib.hid f2
      clear hmay f1 f2 hr1 hek hfr hfour hq hep
      cases r with
      | false =>
        go_wp2_with fail
        refine (HMay.out _).mono ?_
        rintro e' w1 ⟨rfl, hb1⟩
        obtain rfl : R = false := by rw [← HR.out]; exact chained_not H1.out
        go_wp2
        go_ret2
        exact ⟨rfl, hbel.trans (hb1.mono hsz)⟩
      | true =>
        go_wp2_with fail
        refine (HMay.out _).mono ?_
        rintro e' w1 ⟨rfl, hb1⟩
        have hB1 := hbel.trans (hb1.mono hsz)
        have d0 := (hb1.cell (p := ⟨b, o + k * 4, none⟩) (by show b < _; omega)).trans c0
        have d1 := (hb1.cell (p := ⟨b, o + k * 4 + 1, none⟩) (by show b < _; omega)).trans c1
        have hcr1 := (hb1.block w.heap.size (lt_at HCR.out)).trans HCR.out
        have HC1 := Lib.hid hcr1
        clear hb1 c0 c1 c2 c3 hcr1
        go_wp2_with fail
        go_quiet (fail)
        all_goals go_wp2
        all_goals
          go_roundw
          case rel => exact ⟨k + 1, ix', tm', by omega, rfl, rfl, by go_num, hidb, H2, H1, below_drewN hB1 _, HC1.out⟩
          case measure => simp [intOf]; omega
    · obtain rfl : k = n := by omega
      obtain rfl : R = true := by
        rw [← HR.out]
        have := HF.out
        rwa [List.take_of_length_le (by rw [HN.out]; exact Nat.le_refl _)] at this
      have c0 : wr.cell? ⟨w.heap.size, 0, none⟩ = some (.int .u64 (ix : Int)) := by rw [cell_at HCR.out]; rfl
      have c1 : wr.cell? ⟨w.heap.size, 1, none⟩ = some (.int .u64 (tm : Int)) := by rw [cell_at HCR.out]; rfl
      have c2 : wr.cell? ⟨w.heap.size, 2, none⟩ = some (.int .u64 (cf : Int)) := by rw [cell_at HCR.out]; rfl
      have c3 : wr.cell? ⟨w.heap.size, 3, none⟩ = some (.string d) := by rw [cell_at HCR.out]; rfl
      have hlt2 := lt_at HCR.out
      have hr2 : RE wr w.heap.size A k l := Kit.Reads.below hr hbel
      go_wp2_with fail
      go_region_law (first
        | (refine step_new _ rfl _ _ rfl w.heap.size rfl rfl (Reads.drew hr2) (ecells_one l) h63 hbel.size ?_
           intro A' c' w3 hown3 hb3 hat3
           have d0 : w3.cell? ⟨w.heap.size, 0, none⟩ = some (.int .u64 (ix : Int)) := (hb3.cell (p := ⟨w.heap.size, 0, none⟩) hlt2).trans c0
           have d1 : w3.cell? ⟨w.heap.size, 1, none⟩ = some (.int .u64 (tm : Int)) := (hb3.cell (p := ⟨w.heap.size, 1, none⟩) hlt2).trans c1
           have d2 : w3.cell? ⟨w.heap.size, 2, none⟩ = some (.int .u64 (cf : Int)) := (hb3.cell (p := ⟨w.heap.size, 2, none⟩) hlt2).trans c2
           have d3 : w3.cell? ⟨w.heap.size, 3, none⟩ = some (.string d) := (hb3.cell (p := ⟨w.heap.size, 3, none⟩) hlt2).trans c3))
      all_goals
        have HL2 := Lib.hid (new_log (T := 73) (ix := ix) (tm := tm) (cf := cf) (d := d) hbel hb3 hown3 HN)
        clear hown3 hat3 hb3 hbel
        go_wp2
        go_ret2
        exact ⟨_, _, rfl, HL2.out.1, HL2.out.2⟩
end
end Go.Proofs.Ytndehdnffajigaa.RefA
