/- The walk of the statement that any bytes are scanned as the document has it, and frames are those that it has. -/
import Derived.Test.YtmimpfccngihiaaDoorBeg
set_option linter.unusedVariables false
set_option linter.unusedSimpArgs false
namespace Go.Proofs.YtmimpfccngihiaaDoor.LawA
open Go.RowKit Go.Proofs.YtmimpfccngihiaaDoor.Kit Go.Proofs.YtmimpfccngihiaaDoor.Blocks Go.Proofs.YtmimpfccngihiaaDoor.Stuff Go.Proofs.YtmimpfccngihiaaDoor.Crc Go.Proofs.YtmimpfccngihiaaDoor.SumB Go.Proofs.YtmimpfccngihiaaDoor.Wal Go.Proofs.YtmimpfccngihiaaDoor.FrA Go.Proofs.YtmimpfccngihiaaDoor.FrC Go.Proofs.YtmimpfccngihiaaDoor.ScA Go.Proofs.YtmimpfccngihiaaDoor.ScB Go.Proofs.YtmimpfccngihiaaDoor.Beg
open Go.Proofs.YtmimpfccngihiaaDoor.DskWalkC (str Got)

/-- A scanning, by a name. -/
theorem scan_lit (s : ByteArray) (w : World) (ht : Tab w) (hs : s.size ≤ 1000000000) {l : List (List UInt8)} {k : Nat} (h : Hid (scan s.data.toList = (l, k))) :
    Calls Tryd.prog 11 #[.string s] w fun e w' => ∃ A n c, e = .returned (.tuple #[.slice A n c, .int .i64 (k : Int)]) ∧ l.length = n ∧ n ≤ 9223372036854775807 ∧ RS w' A n l ∧ Below w.heap.size w w' := by
  refine (scan_any s w ht hs).mono ?_
  rintro e w' ⟨v, rfl, hown, hb⟩
  rw [h.out] at hown ⊢
  obtain ⟨A, c, rfl, h1, h2, h3⟩ := own_form hown
  unfold maxLen at h2
  exact ⟨A, _, c, rfl, rfl, by omega, h3, hb⟩
theorem rscan_lit (s : ByteArray) (w : World) (hs : s.size ≤ 1000000000) {l : List (List UInt8)} {k : Nat} (h : Hid (scan s.data.toList = (l, k))) :
    Calls Tryd.prog 12 #[.string s] w fun e w' => ∃ A n c, e = .returned (.tuple #[.slice A n c, .int .i64 (k : Int)]) ∧ l.length = n ∧ n ≤ 9223372036854775807 ∧ RS w' A n l ∧ Below w.heap.size w w' := by
  refine (rscan_any s w hs).mono ?_
  rintro e w' ⟨v, rfl, hown, hb⟩
  rw [h.out] at hown ⊢
  obtain ⟨A, c, rfl, h1, h2, h3⟩ := own_form hown
  unfold maxLen at h2
  exact ⟨A, _, c, rfl, rfl, by omega, h3, hb⟩
/-- The same texts are told as the same. -/
theorem same_yes (A1 A2 : Option Addr) (n1 n2 c1 c2 : Nat) (l : List (List UInt8)) (w : World) (h1 : RS w A1 n1 l) (h2 : RS w A2 n2 l) (hn : n1 ≤ 9223372036854775807) :
    Calls Tryd.prog 13 #[.slice A1 n1 c1, .slice A2 n2 c2] w fun e w' => e = .returned (.bool true) ∧ Below w.heap.size w w' := by
  have e1 := texts_len h1
  have e2 := texts_len h2
  have := same_any A1 A2 n1 n2 c1 c2 l l w h1 h2 hn (by omega)
  rwa [show decide (l = l) = true by simp] at this
theorem RS.below {w w' : World} {A : Option Addr} {n : Nat} {l : List (List UInt8)} (h : RS w A n l) (k : Below w.heap.size w w') : RS w' A n l := (Kit.Reads.below h k).more k.size

set_option maxRecDepth 100000 in
set_option maxHeartbeats 2000000 in
theorem scans_walk (s x : ByteArray) (w : World) (_ : s.size ≤ maxLen) (_ : x.size ≤ maxLen) (ht : Tab w) :
    Calls Tryd.prog 3 #[.string s, .string x] w fun e w' => e = .returned (.bool true) ∧ Below w.heap.size w w' := by
  have HT := Lib.hid ht
  by_cases hbig : s.size ≤ 20000 ∧ x.size ≤ 20000
  · obtain ⟨h1, h2⟩ := hbig
    obtain ⟨⟨l, k⟩, hsc⟩ : ∃ q, scan s.data.toList = q := ⟨_, rfl⟩
    have HSC := Lib.hid hsc
    obtain ⟨F, hF⟩ : ∃ F, str (frame x.data.toList) = F := ⟨_, rfl⟩
    have HF := Lib.hid hF
    have hFF : (F.toList == F.toList) = true := by simp
    have hkk : ((k : Int) == (k : Int)) = true := by simp
    clear hsc hF ht
    go_enter Tryd.func3, Tryd.ntmps3
    go_wp2_with fail
    refine (begun_any _ HT.out).mono ?_
    rintro e w1 ⟨rfl, hb1⟩
    have ht1 := Tab.next HT.out hb1
    go_wp2_with fail
    refine (scan_lit s w1 ht1 (by omega) HSC).mono ?_
    rintro e w2 ⟨A2, n2, c2, rfl, hl2, hn2, hr2, hb2⟩
    have hb2' := hb1.trans (hb2.mono hb1.size)
    go_wp2_with fail
    refine (rscan_lit s w2 (by omega) HSC).mono ?_
    rintro e w3 ⟨A3, n3, c3, rfl, hl3, hn3, hr3, hb3⟩
    have hb3' := hb2'.trans (hb3.mono hb2'.size)
    have hr23 := RS.below hr2 hb3
    go_wp2_with fail
    refine (same_yes A2 A3 n2 n3 c2 c3 l w3 hr23 hr3 hn2).mono ?_
    rintro e w4 ⟨rfl, hb4⟩
    have hb4' := hb3'.trans (hb4.mono hb3'.size)
    have hc1 := frame_any x w4 (Tab.next HT.out hb4') (by omega)
    rw [HF.out] at hc1
    have HC1 := Lib.hid hc1
    clear hc1
    go_wp2_with fail
    refine HC1.out.mono ?_
    rintro e w5 ⟨rfl, hb5⟩
    have hb5' := hb4'.trans (hb5.mono hb4'.size)
    have hc2 := rframe_any x w5 (by omega)
    rw [HF.out] at hc2
    have HC2 := Lib.hid hc2
    clear hc2
    go_wp2_with fail
    refine HC2.out.mono ?_
    rintro e w6 ⟨rfl, hb6⟩
    go_wp2
    go_ret
    exact ⟨rfl, hb5'.trans (hb6.mono hb5'.size)⟩
  · rcases (show 20000 < s.size ∨ (s.size ≤ 20000 ∧ 20000 < x.size) by omega) with h | ⟨h, h2⟩
    · have hi : (20000 : Int) < (s.size : Int) := by omega
      go_enter Tryd.func3, Tryd.ntmps3
      go_wp2_with fail
      refine (begun_any _ HT.out).mono ?_
      rintro e w1 ⟨rfl, hb1⟩
      go_wp2
      go_ret
      exact ⟨rfl, hb1⟩
    · have hi : ¬ (20000 : Int) < (s.size : Int) := by omega
      have hi2 : (20000 : Int) < (x.size : Int) := by omega
      go_enter Tryd.func3, Tryd.ntmps3
      go_wp2_with fail
      refine (begun_any _ HT.out).mono ?_
      rintro e w1 ⟨rfl, hb1⟩
      go_wp2
      go_ret
      exact ⟨rfl, hb1⟩
end Go.Proofs.YtmimpfccngihiaaDoor.LawA
