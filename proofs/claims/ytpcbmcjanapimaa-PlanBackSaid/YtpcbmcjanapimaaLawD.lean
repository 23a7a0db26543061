/- The walk of the statement that what is written of a definition is read as it was, and is one. -/
import Derived.Test.YtpcbmcjanapimaaBegun
import Derived.Test.YtpcbmcjanapimaaOpens
set_option linter.unusedVariables false
set_option linter.unusedSimpArgs false
namespace Go.Proofs.Ytpcbmcjanapimaa.LawD
open Go.RowKit Go.Proofs.Ytpcbmcjanapimaa.Kit Go.Proofs.Ytpcbmcjanapimaa.Rdr Go.Proofs.Ytpcbmcjanapimaa.Stq Go.Proofs.Ytpcbmcjanapimaa.Pln Go.Proofs.Ytpcbmcjanapimaa.Wtr Go.Proofs.Ytpcbmcjanapimaa.WalkA Go.Proofs.Ytpcbmcjanapimaa.WalkB Go.Proofs.Ytpcbmcjanapimaa.WalkC Go.Proofs.Ytpcbmcjanapimaa.WalkD Go.Proofs.Ytpcbmcjanapimaa.Begun Go.Proofs.Ytpcbmcjanapimaa.Opens
open Go.Proofs.Ytpcbmcjanapimaa.State (cell_at free_at lt_at)
open Go.Proofs.Ytpcbmcjanapimaa.PckWalkH (str str_size str_append)

set_option maxHeartbeats 2000000 in
theorem back_walk (A : Option Addr) (n c : Nat) (l : List Sp) (w : World) (h : CameS w A n c l) : Calls Try.prog 6 #[.slice A n c] w fun e w' => e = .returned (.bool true) ∧ Below w.heap.size w w' := by
  have hr := h.reads
  have h63 : n ≤ 9223372036854775807 := Nat.le_trans h.fits h.max
  have hnm : ∀ e ∈ l, e.nm.size ≤ 9223372036854775807 := fun e he => (h.sin e he).n
  obtain ⟨z, hz⟩ : ∃ z, chk l = z := ⟨_, rfl⟩
  have HZ := Lib.hid hz
  by_cases hz0 : z = 0
  · subst hz0
    have hd := chk_def hz
    have hlen := RS.len hr
    have hpl := planB_le hd
    obtain ⟨d1, d2, d3⟩ := isDef_yes hd
    obtain ⟨L, hL⟩ : ∃ L, planB l = L := ⟨_, rfl⟩
    have HL : Hid ([] ++ planB l = L) := by
      have e1 : [] ++ planB l = L := by rw [← hL]; rfl
      exact e1
    obtain ⟨S, hS⟩ : ∃ S, str L = S := ⟨_, rfl⟩
    have HS := Lib.hid hS
    have hg := plan_go hd []
    rw [List.append_nil, hL, hS] at hg
    have HP : Hid (rPlan (q0 S) = l) := hg.1
    have HE : Hid (rEnd (q0 S) = ⟨str [], false⟩) := hg.2
    have hq : (q0 S).s.size ≤ 281474976710656 := by
      show S.size ≤ _
      rw [← hS, str_size, ← hL]
      omega
    have hnms : nms l + n * 27 ≤ 140737488000000 := by
      have : nms l ≤ l.length * 16 := by
        clear hg HP HE HL HS hpl hd d1 d2 hlen hr h hnm hz HZ hL
        induction l with
        | nil => simp [nms]
        | cons e l ih =>
          have := (okS_yes (d3 e List.mem_cons_self)).2.2.2.1
          have := ih fun x hx => d3 x (List.mem_cons_of_mem _ hx)
          rw [nms_cons, List.length_cons]; omega
      omega
    have hw0 : ([] : List UInt8).length + nms l + n * 27 ≤ 140737488000000 := by simp only [List.length_nil]; omega
    obtain ⟨r0, hr0⟩ : ∃ r, (⟨str [], false⟩ : Rd) = r := ⟨_, rfl⟩
    rw [hr0] at HE
    have HD : Hid (r0.done = true) := by
      have e1 : r0.done = true := by rw [← hr0]; rfl
      exact e1
    have HLEN := Lib.hid hlen
    clear h hz hd hpl d1 d2 d3 hL hS hg hnms hr0 hlen
    go_enter Try.func6, Try.ntmps6
    go_wp2_with fail
    refine (begun_true _).mono ?_
    rintro e w1 ⟨rfl, hb1⟩
    have hr1 := rs_later hr hb1
    go_wp2_with fail
    with_reducible refine (check_any hr1 h63 hnm HZ).mono ?_
    rintro e w2 ⟨rfl, hb2⟩
    have hr2 := rs_later hr1 hb2
    have hB2 := hb1.trans (hb2.mono hb1.size)
    have hW := new_wrt w2
    clear hr1 hb1 hb2
    go_wp2_with fail
    with_reducible refine (write_any hW hr2 hw0 HL).mono ?_
    rintro e w3 ⟨rfl, hW3⟩
    clear hW
    go_wp2_with fail
    with_reducible refine (wrt_bytes hW3 HS).mono ?_
    rintro e w4 ⟨rfl, hW4⟩
    have hB4 := hB2.trans (hW4.bel.mono hB2.size)
    have hr4 := rs_later hr2 hW4.bel
    clear hW3 hW4 hr2 hB2
    go_wp2_with fail
    with_reducible refine (from_rp S w4).mono ?_
    rintro e w5 ⟨q, rfl, hP⟩
    go_wp2_with fail
    with_reducible refine (read_any hP hq HP HE).mono ?_
    intro e w6 h6
    obtain ⟨A6, c6, rfl, hre6, hP6, ho6⟩ := h6.slice
    rw [HLEN.out] at hre6 ⊢
    have hr6 := rs_later hr4 hP6.bel
    clear h6 ho6 hP hr4
    go_wp2_with fail
    with_reducible refine (sps_any hre6 hr6 h63 true (by simp)).mono ?_
    rintro e w7 ⟨rfl, hb7⟩
    have hP7 := hP6.below hb7
    clear hre6 hr6 hP6 hb7
    go_wp2_with fail
    with_reducible refine (rp_done hP7 HD).mono ?_
    rintro e w8 ⟨rfl, hP8, _⟩
    have hB8 := hB4.trans (hP8.bel.mono hB4.size)
    go_wp2
    go_ret
    exact ⟨rfl, hB8⟩
  · have hne : (z != 0) = true := by simpa using hz0
    clear hz0 hz h
    go_enter Try.func6, Try.ntmps6
    go_wp2_with fail
    refine (begun_true _).mono ?_
    rintro e w1 ⟨rfl, hb1⟩
    have hr1 := rs_later hr hb1
    go_wp2_with fail
    with_reducible refine (check_any hr1 h63 hnm HZ).mono ?_
    rintro e w2 ⟨rfl, hb2⟩
    go_wp2
    go_ret
    exact ⟨rfl, hb1.trans (hb2.mono hb1.size)⟩
end Go.Proofs.Ytpcbmcjanapimaa.LawD
