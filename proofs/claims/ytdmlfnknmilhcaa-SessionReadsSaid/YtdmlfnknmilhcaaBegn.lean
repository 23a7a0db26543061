/- What each statement of layer 15 asks first, walked. No statement is proved here. -/
import Derived.Test.YtdmlfnknmilhcaaCal
set_option linter.unusedVariables false
set_option linter.unusedSimpArgs false
namespace Go.Proofs.Ytdmlfnknmilhcaa.Begn
open Go.RowKit Go.Proofs.Ytdmlfnknmilhcaa.Kit Go.Proofs.Ytdmlfnknmilhcaa.Blocks Go.Proofs.Ytdmlfnknmilhcaa.Ses Go.Proofs.Ytdmlfnknmilhcaa.Rws Go.Proofs.Ytdmlfnknmilhcaa.WalkA Go.Proofs.Ytdmlfnknmilhcaa.Boxs Go.Proofs.Ytdmlfnknmilhcaa.Cal

def y7 : Ry := ⟨0, 7, 0⟩
def t1 : Tb := ⟨0, 2, [⟨1, 0, 0, y0⟩]⟩
def t2 : Tb := ⟨0, 2, [⟨1, 0, 1, y7⟩]⟩
theorem sane1 : Sane t1 := Sane.reg good0
theorem sane2 : Sane t2 := Sane.fin sane1 1 (s := 1) (by decide) (y := y7) ⟨by decide, by decide, by decide, by decide⟩
section
variable {B : Nat} {w : World} {p : Nat} {v : Value}
theorem b1 (h : PT B w p v tb0) : Calls Try.prog 20 #[.pointer (some ⟨p, 0, none⟩)] w fun e w' => e = .returned (.tuple #[.int .u64 1, .int .i64 0]) ∧ PLeft B w p v t1 w' := reg_any (m := tb0) (id := 1) (e0 := 0) h good0 (Lib.hid rfl) (Lib.hid rfl) (Lib.hid rfl)
theorem b2 (h : PT B w p v t1) : Calls Try.prog 21 #[.pointer (some ⟨p, 0, none⟩), .int .u64 1, .int .u64 1] w fun e w' => e = .returned (.tuple #[.agg #[.int .i64 0, .int .u64 0, .int .u64 0], .bool true]) ∧ PLeft B w p v t1 w' := beg_any (m := t1) (y := y0) h sane1 1 (s := 1) (by decide) (Lib.hid rfl) (Lib.hid rfl) (Lib.hid rfl)
theorem b3 (h : PT B w p v t1) : Calls Try.prog 22 #[.pointer (some ⟨p, 0, none⟩), .int .u64 1, .int .u64 1, .agg #[.int .i64 0, .int .u64 7, .int .u64 0]] w fun e w' => e = .returned (.bool true) ∧ PLeft B w p v t2 w' := end_any (m := t1) h 1 (s := 1) (by decide) y7 (Lib.hid rfl) (Lib.hid rfl)
theorem b4 (h : PT B w p v t2) : Calls Try.prog 21 #[.pointer (some ⟨p, 0, none⟩), .int .u64 1, .int .u64 1] w fun e w' => e = .returned (.tuple #[.agg #[.int .i64 0, .int .u64 7, .int .u64 0], .bool false]) ∧ PLeft B w p v t2 w' := beg_any (m := t2) (y := y7) h sane2 1 (s := 1) (by decide) (Lib.hid rfl) (Lib.hid rfl) (Lib.hid rfl)
theorem b5 (h : PT B w p v t2) : Calls Try.prog 21 #[.pointer (some ⟨p, 0, none⟩), .int .u64 9, .int .u64 1] w fun e w' => e = .returned (.tuple #[.agg #[.int .i64 40, .int .u64 0, .int .u64 0], .bool false]) ∧ PLeft B w p v t2 w' := beg_any (m := t2) (y := yE 40) h sane2 9 (s := 1) (by decide) (Lib.hid rfl) (Lib.hid rfl) (Lib.hid rfl)
end
set_option maxRecDepth 100000 in
set_option maxHeartbeats 4000000 in
theorem begun_true (w : World) : Calls Try.prog 9 #[] w fun e w' => e = .returned (.bool true) ∧ Below w.heap.size w w' := by
  have hbo : ∀ (W : World) o, Below W.heap.size W (W.alloc o) := fun W o => (Below.refl _ _).alloc (Nat.le_refl _) o
  have hnew := new_any w
  have HN := Lib.hid hnew
  clear hnew
  go_enter Try.func9, Try.ntmps9
  go_wp2_with fail
  with_reducible refine HN.out.mono ?_
  rintro e w1 ⟨p, v1, rfl, h1, hb1⟩
  have H1 := Lib.hid h1
  have HB1 := Lib.hid hb1
  clear h1 hb1
  go_wp2_with fail
  with_reducible refine (b1 H1.out).mono ?_
  rintro e w2 ⟨rfl, hL2⟩
  have HB2 := Lib.hid (HB1.out.trans (left_below H1.out hL2))
  obtain ⟨v2, h2, o2, f2⟩ := hL2
  have H2 := Lib.hid h2
  clear h2 o2 f2 HB1 H1
  go_wp2_with fail
  with_reducible refine (b2 H2.out).mono ?_
  rintro e w3 ⟨rfl, hL3⟩
  have HB3 := Lib.hid (HB2.out.trans (left_below H2.out hL3))
  obtain ⟨v3, h3, o3, f3⟩ := hL3
  have hs3 := HB3.out.size
  obtain ⟨w4, hw4⟩ : ∃ w4, w3.alloc (.cells #[.int .i64 0, .int .u64 0, .int .u64 0] 33) = w4 := ⟨_, rfl⟩
  have HB4 : Hid (Below w.heap.size w w4) := by rw [← hw4]; exact HB3.out.trans ((hbo _ _).mono hs3)
  have h4 := h3.below (hbo w3 (.cells #[.int .i64 0, .int .u64 0, .int .u64 0] 33))
  rw [hw4] at h4
  have H4 := Lib.hid h4
  have HW4 := Lib.hid hw4
  clear h3 o3 f3 HB2 HB3 H2 h4 hw4
  go_wp2_with fail
  rw [HW4.out]
  go_wp2_with fail
  with_reducible refine (b3 H4.out).mono ?_
  rintro e w5 ⟨rfl, hL5⟩
  have HB5 := Lib.hid (HB4.out.trans (left_below H4.out hL5))
  obtain ⟨v5, h5, o5, f5⟩ := hL5
  have H5 := Lib.hid h5
  clear h5 o5 f5 HB4 H4
  go_wp2_with fail
  with_reducible refine (b4 H5.out).mono ?_
  rintro e w6 ⟨rfl, hL6⟩
  have HB6 := Lib.hid (HB5.out.trans (left_below H5.out hL6))
  obtain ⟨v6, h6, o6, f6⟩ := hL6
  have hs6 := HB6.out.size
  obtain ⟨w7, hw7⟩ : ∃ w7, w6.alloc (.cells #[.int .i64 0, .int .u64 7, .int .u64 0] 33) = w7 := ⟨_, rfl⟩
  have HB7 : Hid (Below w.heap.size w w7) := by rw [← hw7]; exact HB6.out.trans ((hbo _ _).mono hs6)
  have h7 := h6.below (hbo w6 (.cells #[.int .i64 0, .int .u64 7, .int .u64 0] 33))
  have hx7 := Box3.new w6 (.int .i64 0) (.int .u64 7) (.int .u64 0)
  rw [hw7] at h7 hx7
  have hmine : ∀ g, Mine p v6 g → g < w6.heap.size := fun g hg => (h6.mine_lt hg).2
  have H7 := Lib.hid h7
  have HX7 := Lib.hid hx7
  have HMI := Lib.hid hmine
  have HW7 := Lib.hid hw7
  clear h6 o6 f6 HB5 HB6 H5 h7 hw7 hx7 hmine
  go_wp2_with fail
  rw [HW7.out]
  go_wp2_with fail
  with_reducible refine (b5 H7.out).mono ?_
  rintro e w8 ⟨rfl, hL8⟩
  have HB8 := Lib.hid (HB7.out.trans (left_below H7.out hL8))
  obtain ⟨v8, h8, o8, f8⟩ := hL8
  have hx8 := HX7.out.keep o8 (fun e => by have := HMI.out _ e; omega)
  have hs8 := HB8.out.size
  have HB9 := Lib.hid (HB8.out.trans ((hbo w8 (.cells #[.int .i64 40, .int .u64 0, .int .u64 0] 33)).mono hs8))
  have x1 := hx8.c1
  have lx := hx8.lt
  clear h8 o8 f8 hx8 HB7 HB8 H7
  go_wp2
  go_ret
  exact ⟨rfl, HB9.out⟩
end Go.Proofs.Ytdmlfnknmilhcaa.Begn
