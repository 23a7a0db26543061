/- The walk of the statement that any bytes are read as the document has it, and what stands behind is left. -/
import Derived.Test.YtpcbmcjanapimaaBegun
import Derived.Test.YtpcbmcjanapimaaOpens
set_option linter.unusedVariables false
set_option linter.unusedSimpArgs false
namespace Go.Proofs.Ytpcbmcjanapimaa.LawC
open Go.RowKit Go.Proofs.Ytpcbmcjanapimaa.Kit Go.Proofs.Ytpcbmcjanapimaa.Rdr Go.Proofs.Ytpcbmcjanapimaa.Stq Go.Proofs.Ytpcbmcjanapimaa.Pln Go.Proofs.Ytpcbmcjanapimaa.Wtr Go.Proofs.Ytpcbmcjanapimaa.WalkB Go.Proofs.Ytpcbmcjanapimaa.WalkD Go.Proofs.Ytpcbmcjanapimaa.Begun Go.Proofs.Ytpcbmcjanapimaa.Opens
open Go.Proofs.Ytpcbmcjanapimaa.State (cell_at free_at lt_at)

/-- A reader stays where another one's block alone is written. -/
theorem rds_keep {T : TypeId} {w0 W W' : World} {q q' : Nat} {r : Rd} (h : Rds T w0 W q r) (k : State.Only (· = q') W W') (hn : q ≠ q') (hl : w0.heap.size ≤ q') : Rds T w0 W' q r :=
  ⟨h.at_.keep k hn, h.low, h.bel.trans (k.below h.bel.size fun j hj => by rw [hj]; exact hl)⟩

set_option maxHeartbeats 2000000 in
theorem reads_walk (s : ByteArray) (w : World) (hs : s.size ≤ 281474976710656) : Calls Try.prog 5 #[.string s] w fun e w' => e = .returned (.bool true) ∧ Below w.heap.size w w' := by
  obtain ⟨l, hl⟩ : ∃ l, rPlan (q0 s) = l := ⟨_, rfl⟩
  obtain ⟨r, hr⟩ : ∃ r, rEnd (q0 s) = r := ⟨_, rfl⟩
  have HL := Lib.hid hl
  have HR := Lib.hid hr
  have hq : (q0 s).s.size ≤ 281474976710656 := hs
  have h64 : l.length ≤ 9223372036854775807 := by
    rw [← hl]
    unfold rPlan
    split
    · simp
    · rw [rSps_length]; have := rN_le (q0 s); omega
  obtain ⟨m, hm⟩ : ∃ m, r.s.size = m := ⟨_, rfl⟩
  have HM := Lib.hid hm
  clear hl hr hm
  go_enter Try.func5, Try.ntmps5
  go_wp2_with fail
  refine (begun_true _).mono ?_
  rintro e w1 ⟨rfl, hb1⟩
  go_wp2_with fail
  with_reducible refine (from_rp s w1).mono ?_
  rintro e w2 ⟨q, rfl, hP⟩
  have hbo : Below w2.heap.size w2 (w2.alloc (.cells #[.string s, .bool false] 43)) := (Below.refl _ _).alloc (Nat.le_refl _) _
  have hM : Rm w1 (w2.alloc (.cells #[.string s, .bool false] 43)) w2.heap.size (q0 s) := ⟨heap_alloc_new w2 _, hP.bel.size, hP.bel.trans (hbo.mono hP.bel.size)⟩
  have hP1 : Rp w1 (w2.alloc (.cells #[.string s, .bool false] 43)) q (q0 s) := hP.below hbo
  have hqm : q < w2.heap.size := hP.lt
  have hsz3 : w2.heap.size < (w2.alloc (.cells #[.string s, .bool false] 43)).heap.size := by simp
  obtain ⟨w3, hw3⟩ : ∃ w3, w2.alloc (.cells #[.string s, .bool false] 43) = w3 := ⟨_, rfl⟩
  rw [hw3] at hM hP1 hsz3
  have HW3 := Lib.hid hw3
  clear hP hbo hw3
  go_wp2_with fail
  rw [HW3.out]
  with_reducible refine (read_any hP1 hq HL HR).mono ?_
  rintro e w4 ⟨v, rfl, hown4, hP4, ho4⟩
  have hM4 := rds_keep hM ho4 (by omega) hP1.low
  have hm4 : w2.heap.size < w4.heap.size := Nat.lt_of_lt_of_le hsz3 ho4.size
  clear hM hP1
  go_wp2_with fail
  with_reducible refine (rread_any hM4 hq HL HR).mono ?_
  rintro e w5 ⟨v', rfl, hown5', hM5, ho5⟩
  have hP5 := rds_keep hP4 ho5 (by omega) hM4.low
  have hown5 := own_keep ho5 hown4 fun g hg => by have := (hown4.lt g hg).1; omega
  clear hP4 hM4 hown4 ho4 ho5
  obtain ⟨b, hb⟩ : ∃ b, r.bad = b := ⟨_, rfl⟩
  have hb' : (!r.bad) = !b := by rw [hb]
  have HB := Lib.hid hb'
  have HB0 := Lib.hid hb
  clear hb hb'
  go_wp2_with fail
  with_reducible refine (rp_left hP5 HM HB).mono ?_
  rintro e w6 ⟨rfl, hP6, ho6⟩
  have hM6 := rds_keep hM5 ho6 (by omega) hP5.low
  have hown6 := own_keep ho6 hown5 fun g hg => by have := (hown5.lt g hg).1; omega
  have hown6' := own_keep ho6 hown5' fun g hg => by have := (hown5'.lt g hg).1; omega
  obtain ⟨A, c, rfl, _, _, hre⟩ := own_form hown6
  obtain ⟨A', c', rfl, _, _, hre'⟩ := own_form hown6'
  have hB6 := hb1.trans (hP6.bel.mono hb1.size)
  have hleft := hM6.at_.left
  have hflag := hM6.at_.flag
  rw [HB0.out] at hflag
  have hltm := hM6.lt
  clear hP5 hM5 hown5 hown5' hown6 hown6' ho6 hP6 hM6
  go_wp2_with fail
  with_reducible refine (sps_any hre hre' h64 true (by simp)).mono ?_
  rintro e w7 ⟨rfl, hb7⟩
  have hleft7 := (hb7.cell (p := ⟨w2.heap.size, 0, none⟩) hltm).trans hleft
  have hflag7 := (hb7.cell (p := ⟨w2.heap.size, 1, none⟩) hltm).trans hflag
  have hlt7 := Nat.lt_of_lt_of_le hltm hb7.size
  have hB7 := hB6.trans (hb7.mono hB6.size)
  obtain ⟨S, hS⟩ : ∃ S, r.s = S := ⟨_, rfl⟩
  rw [hS] at hleft7
  have hSz : S.size = m := by rw [← hS]; exact HM.out
  have hcmp : ((m : Int) == (S.size : Int)) = true := by rw [hSz]; simp
  have HSZ := Lib.hid hSz
  clear hS hSz hleft hflag hB6 hb7 hre hre'
  cases b
  all_goals
    go_wp2
    go_ret
    exact ⟨rfl, hB7⟩
end Go.Proofs.Ytpcbmcjanapimaa.LawC
