/- RlogNone, walked. -/
import Derived.Test.YtndehdnffajigaaNone
set_option linter.unusedVariables false
namespace Go.Proofs.Ytndehdnffajigaa.LawA
open Go.RowKit Go.Proofs.Ytndehdnffajigaa.Kit Go.Proofs.Ytndehdnffajigaa.Blocks Go.Proofs.Ytndehdnffajigaa.Rlog Go.Proofs.Ytndehdnffajigaa.Ents Go.Proofs.Ytndehdnffajigaa.LogAt Go.Proofs.Ytndehdnffajigaa.WalkA Go.Proofs.Ytndehdnffajigaa.WalkH Go.Proofs.Ytndehdnffajigaa.Nones
open Go.Proofs.Ytndehdnffajigaa.Num (num)
open Go.Proofs.Ytndehdnffajigaa.PckWalkH (str)

set_option maxRecDepth 100000 in
set_option maxHeartbeats 2000000 in
theorem none_walk (x n : Int) (a b c : Int) (d : ByteArray) (w : World) (hx : (Lit.int .u64 x).wf = true) : Calls Try.prog 7 #[.int .u64 x, .int .i64 n, .agg #[.int .u64 a, .int .u64 b, .int .u64 c, .string d]] w fun e w' => e = .returned (.bool true) ∧ Below w.heap.size w w' := by
  obtain ⟨i, rfl, hi⟩ : ∃ i : Nat, x = (i : Int) ∧ i < 18446744073709551616 := by
    have hb : 0 ≤ x ∧ x ≤ 18446744073709551615 := by simpa [Lit.wf, IntKind.min, IntKind.max, IntKind.signed, IntKind.bits] using hx
    exact ⟨x.toNat, by omega, by omega⟩
  have hbx := Box4.new w (.int .u64 a) (.int .u64 b) (.int .u64 c) (.string d) 24
  have hba : Below w.heap.size w (w.alloc (.cells #[.int .u64 a, .int .u64 b, .int .u64 c, .string d] 24)) := (Below.refl _ _).alloc (Nat.le_refl _) _
  have hcf := fun w => config_any i w hi
  have hrc := fun w => rconfig_any i w hi
  obtain ⟨s, hs⟩ : ∃ s, str (num i) = s := ⟨_, rfl⟩
  rw [hs] at hcf hrc
  have hss : (s.toList == s.toList) = true := by simp
  have heq := eq_snap 0 0 0 ⟨#[]⟩
  have HX := Lib.hid hbx
  have HB := Lib.hid hba
  have HCf := Lib.hid hcf
  have HRc := Lib.hid hrc
  clear hbx hba hcf hrc hs
  go_enter Try.func7, Try.ntmps7
  go_wp2_with fail
  refine (Begun.begun_any _).mono ?_
  rintro e w1 ⟨rfl, hb1⟩
  have hx1 := HX.out.below hb1
  have hB1 := HB.out.trans (hb1.mono HB.out.size)
  have HX1 := Lib.hid hx1
  clear hb1 hx1
  go_wp2_with fail
  refine (cut_nil i w1).mono ?_
  rintro e w2 ⟨rfl, rfl⟩
  go_wp2_with fail
  refine (last_nil w1).mono ?_
  rintro e w2 ⟨rfl, rfl⟩
  go_wp2_with fail
  refine (all_nil w1).mono ?_
  rintro e w2 ⟨rfl, hb2⟩
  have HX2 := Lib.hid (HX1.out.below hb2)
  have hB2 := hB1.trans (hb2.mono hB1.size)
  clear hb2
  go_wp2_with fail
  refine (members_nil i w2).mono ?_
  rintro e w3 ⟨rfl, hb3⟩
  have HX3 := Lib.hid (HX2.out.below hb3)
  have hB3 := hB2.trans (hb3.mono hB2.size)
  clear hb3
  go_wp2_with fail
  refine (term_nil i w3).mono ?_
  rintro e w4 ⟨rfl, rfl⟩
  go_wp2_with fail
  refine (add_nil i 1 ⟨#[]⟩ w3).mono ?_
  rintro e w4 ⟨rfl, hb4⟩
  have HX4 := Lib.hid (HX3.out.below hb4)
  have hB4 := hB3.trans (hb4.mono hB3.size)
  have ha5 : Below w4.heap.size w4 (w4.alloc (.cells #[.int .u64 0, .int .u64 0, .int .i64 0, .string ⟨#[]⟩] 47)) := (Below.refl _ _).alloc (Nat.le_refl _) _
  clear hb4
  go_wp2_with fail
  generalize w4.alloc (.cells #[.int .u64 0, .int .u64 0, .int .i64 0, .string ⟨#[]⟩] 47) = w5 at ha5 ⊢
  have HX5 := Lib.hid (HX4.out.below ha5)
  have hB5 := hB4.trans (ha5.mono hB4.size)
  clear ha5
  refine (merge_nil i i w5).mono ?_
  rintro e w6 ⟨rfl, rfl⟩
  go_wp2_with fail
  refine (get_nil i n w5).mono ?_
  rintro e w6 ⟨rfl, rfl⟩
  go_wp2_with fail
  refine (first_nil w5).mono ?_
  rintro e w6 ⟨rfl, hb6⟩
  have hx6 := HX5.out.below hb6
  have hB6 := hB5.trans (hb6.mono hB5.size)
  clear hb6
  go_wp2_with fail
  refine (compact_nil i ⟨#[]⟩ w6).mono ?_
  rintro e w7 ⟨rfl, rfl⟩
  have c0 := hx6.c0
  have c1 := hx6.c1
  have c2 := hx6.c2
  have c3 := hx6.c3
  have hltx := hx6.lt
  clear hx6
  go_wp2_with fail
  refine (install_nil a b c d w6).mono ?_
  rintro e w8 ⟨rfl, hb8⟩
  have hB8 := hB6.trans (hb8.mono hB6.size)
  clear hb8
  go_wp2_with fail
  refine (HCf.out w8).mono ?_
  rintro e w9 ⟨rfl, hb9⟩
  have hB9 := hB8.trans (hb9.mono hB8.size)
  clear hb9
  go_wp2_with fail
  refine (HRc.out w9).mono ?_
  rintro e w10 ⟨rfl, hb10⟩
  have hB10 := hB9.trans (hb10.mono hB9.size)
  clear hb10
  go_wp2
  go_ret
  exact ⟨rfl, hB10⟩
theorem none_any (x n : Int) (s : Snap) (w : World) (hx : (Lit.int .u64 x).wf = true) (hn : (Lit.int .i64 n).wf = true) (hs : SnapB s) : Calls Try.prog 7 #[.int .u64 x, .int .i64 n, WalkD.snapV s] w fun e w' => e = .returned (.bool true) ∧ Below w.heap.size w w' :=
  none_walk x n s.idx s.term s.cfg s.data w hx
end Go.Proofs.Ytndehdnffajigaa.LawA
