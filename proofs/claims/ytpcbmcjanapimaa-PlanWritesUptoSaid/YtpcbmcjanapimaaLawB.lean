/- The walk of the statement that steps are laid as the document has it. -/
import Derived.Test.YtpcbmcjanapimaaBegun
import Derived.Test.YtpcbmcjanapimaaOpens
set_option linter.unusedVariables false
set_option linter.unusedSimpArgs false
namespace Go.Proofs.Ytpcbmcjanapimaa.LawB
open Go.RowKit Go.Proofs.Ytpcbmcjanapimaa.Kit Go.Proofs.Ytpcbmcjanapimaa.Rdr Go.Proofs.Ytpcbmcjanapimaa.Stq Go.Proofs.Ytpcbmcjanapimaa.Pln Go.Proofs.Ytpcbmcjanapimaa.Wtr Go.Proofs.Ytpcbmcjanapimaa.WalkC Go.Proofs.Ytpcbmcjanapimaa.Begun Go.Proofs.Ytpcbmcjanapimaa.Opens
open Go.Proofs.Ytpcbmcjanapimaa.Num (num)
open Go.Proofs.Ytpcbmcjanapimaa.PckWalkH (str str_size str_append)

set_option maxHeartbeats 2000000 in
theorem writes_walk (A : Option Addr) (n c : Nat) (l : List Sp) (x : Nat) (w : World) (h : CameS w A n c l) (hx : x < 18446744073709551616) (hs : l.length + nms l ≤ 1048576) : Calls Try.prog 4 #[.slice A n c, .int .u64 (x : Int)] w fun e w' => e = .returned (.bool true) ∧ Below w.heap.size w w' := by
  have hr := h.reads
  have hlen := RS.len hr
  have hn : n ≤ 1048576 := by omega
  have h9 := num9 hx
  have hpl : (planB l).length ≤ 40000000 := by
    have h1 := spsB_le l (by omega)
    have h2 := num9 (x := l.length) (by omega)
    unfold planB
    rw [List.length_append]
    omega
  obtain ⟨l1, e1⟩ : ∃ a, [] ++ num x = a := ⟨_, rfl⟩
  obtain ⟨l2, e2⟩ : ∃ a, l1 ++ planB l = a := ⟨_, rfl⟩
  obtain ⟨S, hS⟩ : ∃ S, str l2 = S := ⟨_, rfl⟩
  obtain ⟨F1, hF1⟩ : ∃ F, str (num x) = F := ⟨_, rfl⟩
  obtain ⟨F2, hF2⟩ : ∃ F, str (planB l) = F := ⟨_, rfl⟩
  have hsum : F1.size + F2.size ≤ 9223372036854775807 := by rw [← hF1, ← hF2, str_size, str_size]; omega
  have hcat : S = F1 ++ F2 := by rw [← hS, ← e2, ← e1, ← hF1, ← hF2, str_append, List.nil_append]
  have hXX : (S.toList == (F1 ++ F2).toList) = true := by rw [hcat]; simp
  have hb1' : l1.length + nms l + n * 27 ≤ 140737488000000 := by rw [← e1]; simp only [List.nil_append]; omega
  have hb2' : nms l + n * 27 ≤ 140737488000000 := by omega
  have E1 := Lib.hid e1
  have E2 := Lib.hid e2
  have HS := Lib.hid hS
  have HF1 := Lib.hid hF1
  have HF2 := Lib.hid hF2
  clear e1 e2 hS hF1 hF2 hcat h9 hpl hlen h hs
  by_cases h5 : 500 < n
  · have h5' : 500 < (n : Int) := by omega
    go_enter Try.func4, Try.ntmps4
    go_wp2_with fail
    refine (begun_true _).mono ?_
    rintro e w1 ⟨rfl, hb1⟩
    go_wp2
    go_ret
    exact ⟨rfl, hb1⟩
  · have h5' : ¬ 500 < (n : Int) := by omega
    go_enter Try.func4, Try.ntmps4
    go_wp2_with fail
    refine (begun_true _).mono ?_
    rintro e w1 ⟨rfl, hb1⟩
    have hr1 := rs_later hr hb1
    have hW := new_wrt w1
    go_wp2_with fail
    with_reducible refine (wrt_num x hW hx (by decide) E1).mono ?_
    rintro e w2 ⟨rfl, hW2⟩
    clear hW
    go_wp2_with fail
    with_reducible refine (write_any hW2 hr1 hb1' E2).mono ?_
    rintro e w3 ⟨rfl, hW3⟩
    clear hW2
    go_wp2_with fail
    with_reducible refine (wrt_bytes hW3 HS).mono ?_
    rintro e w4 ⟨rfl, hW4⟩
    have hB4 := hb1.trans (hW4.bel.mono hb1.size)
    have hr4 := rs_later hr1 hW4.bel
    clear hW3 hW4 hr1 hb1
    go_wp2_with fail
    with_reducible refine (rnum_hid x _ hx HF1).mono ?_
    rintro e w5 ⟨rfl, hb5⟩
    have hB5 := hB4.trans (hb5.mono hB4.size)
    have hr5 := rs_later hr4 hb5
    clear hB4 hr4 hb5
    go_wp2_with fail
    with_reducible refine (bytes_any hr5 hb2' HF2).mono ?_
    rintro e w6 ⟨rfl, hb6⟩
    go_wp2
    go_ret
    exact ⟨rfl, hB5.trans (hb6.mono hB5.size)⟩
end Go.Proofs.Ytpcbmcjanapimaa.LawB
