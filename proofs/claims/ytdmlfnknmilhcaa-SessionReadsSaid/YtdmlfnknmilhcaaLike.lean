/- Are both tables alike, walked. No statement is proved here. -/
import Derived.Test.YtdmlfnknmilhcaaTwo
import Derived.Test.YtdmlfnknmilhcaaWalkD
import Derived.BigQuiet
import Derived.Deep.QuietTactic
set_option linter.unusedVariables false
set_option linter.unusedSimpArgs false
namespace Go.Proofs.Ytdmlfnknmilhcaa.Like
open Go.RowKit Go.Proofs.Ytdmlfnknmilhcaa.Kit Go.Proofs.Ytdmlfnknmilhcaa.Blocks Go.Proofs.Ytdmlfnknmilhcaa.Ses Go.Proofs.Ytdmlfnknmilhcaa.Rws Go.Proofs.Ytdmlfnknmilhcaa.WalkA Go.Proofs.Ytdmlfnknmilhcaa.Boxs Go.Proofs.Ytdmlfnknmilhcaa.Two

theorem bdn {B : Nat} {a w : World} (h : Below B a w) (n : Nat) : Below B a (w.drewN n) := h.trans ⟨rfl, rfl, rfl, Nat.le_refl _, fun _ _ => rfl⟩
abbrev QuietW (p NW : Nat) (w : World) (k : Nat) : Prop :=
  Calls Try.prog 24 #[.pointer (some ⟨p, 0, none⟩)] (w.drewN k) fun e w' => e = .returned (.int .u64 (NW : Int)) ∧ ∃ m, w' = w.drewN m
set_option maxRecDepth 100000 in
set_option maxHeartbeats 8000000 in
theorem alike_any {B p q : Nat} {w : World} {v u : Value} {m : Tb} (h : Pr B w p v q u m m) (h16 : m.rows.length ≤ 16) :
    Calls Try.prog 12 #[.pointer (some ⟨p, 0, none⟩), .pointer (some ⟨q, 0, none⟩)] w fun e w' => e = .returned (.bool true) ∧ Below w.heap.size w w' := by
  have hbo : ∀ (W : World) o, Below W.heap.size W (W.alloc o) := fun W o => (Below.refl _ _).alloc (Nat.le_refl _) o
  have HC := Lib.hid (WalkD.rows_any h.pt h16)
  obtain ⟨n, hn⟩ : ∃ x, m.rows.length = x := ⟨_, rfl⟩
  obtain ⟨NW, hNW⟩ : ∃ x, m.now = x := ⟨_, rfl⟩
  obtain ⟨L, hL⟩ : ∃ x, m.rows = x := ⟨_, rfl⟩
  have HH := Lib.hid h
  have HN := Lib.hid hn
  have HNW := Lib.hid hNW
  have HLL := Lib.hid hL
  clear h hn hNW hL
  go_enter Try.func12, Try.ntmps12
  go_wp2_with fail
  with_reducible refine HC.out.mono ?_
  rintro e w1 ⟨A1, k1, rfl, hr1, hb1⟩
  have h1 := HH.out.below hb1
  obtain ⟨A, c, hu, hnc, hcm, hr2⟩ := h1.dt.form
  rw [HN.out] at hu hnc hr2 hr1
  rw [HLL.out] at hr2 hr1
  have q0 := h1.dt.c0
  have q2 := h1.dt.c2
  rw [HNW.out] at q0
  rw [hu] at q2
  have hqlt := h1.dt.plt
  have C0 : Hid (∀ k, QuietW p NW w1 k) := fun k => by
    have := now_any (h1.pt.below (bdn (Below.refl _ _) k))
    rw [HNW.out] at this
    exact this.mono fun e w' hh => ⟨hh.1, k, hh.2⟩
  rw [HN.out]
  have HB1 := Lib.hid hb1
  have HR1 := Lib.hid hr1
  have HR2 := Lib.hid hr2
  clear hb1 hr1 hr2 h1 hu HC
  go_wp2_with fail
  go_quiet ((go_at_call 24; with_reducible exact C0.out _))
  go_wp2_with fail
  go_loopw [29] (fun x wr => ∃ j : Nat, j ≤ n ∧ x = .int .i64 (j : Int) ∧ Hid (Below w1.heap.size w1 wr)) (fun x _ => n - (intOf x).toNat)
  case atStart => exact ⟨0, by omega, rfl, bdn (Below.refl _ _) _⟩
  case round =>
    obtain ⟨j, hj, rfl, hbel⟩ := hrel
    by_cases hjn : j < n
    · have HJ := Lib.hid hjn
      obtain ⟨b1, o1, r, rfl, hbl1, hrj1, hsix1⟩ := RR.at_ HR1.out hjn
      obtain ⟨b2, o2, r', rfl, hbl2, hrj2, hsix2⟩ := RR.at_ HR2.out hjn
      obtain rfl : r' = r := by rw [hrj1] at hrj2; cases hrj2; rfl
      obtain ⟨y0, y1, y2, y3, y4, y5⟩ := hsix1.below hbel.out hbl1
      obtain ⟨x0, x1, x2, x3, x4, x5⟩ := hsix2.below hbel.out hbl2
      have hlt1 := Nat.lt_of_lt_of_le hbl1 hbel.out.size
      have hlt2 := Nat.lt_of_lt_of_le hbl2 hbel.out.size
      have e2 := (hbel.out.cell (p := ⟨q, 2, none⟩) hqlt).trans q2
      have hql := Nat.lt_of_lt_of_le hqlt hbel.out.size
      obtain ⟨id, us, sq, ⟨ye, yn, yx⟩⟩ := r'
      simp only at y0 y1 y2 y3 y4 y5 x0 x1 x2 x3 x4 x5
      have HBC : Hid (∀ k o, Below w1.heap.size w1 ((wr.alloc o).drewN k)) := fun k o => bdn (hbel.out.trans ((hbo wr o).mono hbel.out.size)) k
      have hjnI : (j : Int) < (n : Int) := by omega
      clear hsix1 hsix2 hrj1 hrj2
      go_wp2_with fail
      go_quiet (fail)
      go_wp2
      go_roundw
      case rel => exact ⟨j + 1, HJ.out, by go_num, HBC.out _ _⟩
      case measure => have := HJ.out; simp [intOf]; omega
    · obtain rfl : j = n := by omega
      go_wp2
      go_ret
      exact ⟨rfl, HB1.out.trans (hbel.out.mono HB1.out.size)⟩
end Go.Proofs.Ytdmlfnknmilhcaa.Like
