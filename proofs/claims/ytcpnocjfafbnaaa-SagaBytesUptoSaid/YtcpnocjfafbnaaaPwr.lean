/- What plan's Write lays, whatever block the writer has; what saga's Write lays; walked. No statement is proved here. -/
import Derived.Test.YtcpnocjfafbnaaaSgb
import Derived.Test.YtcpnocjfafbnaaaWrq
import Derived.Test.YtcpnocjfafbnaaaPlnWalkC
import Derived.Test.YtcpnocjfafbnaaaSagAt
set_option linter.unusedVariables false
set_option linter.unusedSimpArgs false
namespace Go.Proofs.Ytcpnocjfafbnaaa.Pwr
open Go.RowKit Go.Proofs.Ytcpnocjfafbnaaa.Kit Go.Proofs.Ytcpnocjfafbnaaa.Rdr Go.Proofs.Ytcpnocjfafbnaaa.Stq Go.Proofs.Ytcpnocjfafbnaaa.Pln Go.Proofs.Ytcpnocjfafbnaaa.Sag Go.Proofs.Ytcpnocjfafbnaaa.SagAt Go.Proofs.Ytcpnocjfafbnaaa.Sgb Go.Proofs.Ytcpnocjfafbnaaa.Wrq Go.Proofs.Ytcpnocjfafbnaaa.PlnWalkC
open Go.Proofs.Ytcpnocjfafbnaaa.Num (num)
open Go.Proofs.Ytcpnocjfafbnaaa.State (WV cell_at free_at lt_at)
open Go.Proofs.Ytcpnocjfafbnaaa.PckWalkB (text bit)
open Go.Proofs.Ytcpnocjfafbnaaa.PckWalkH (str str_size str_append)

set_option maxRecDepth 100000 in
set_option maxHeartbeats 4000000 in
/-- The steps lie in a world, off the writer. -/
theorem pwrite_any {w0 W : World} {p : Nat} {u0 : Option Nat} {l0 l' : List UInt8} (h : Wrq w0 W p u0 l0) {A : Option Addr} {n c : Nat} {l : List Sp} (hr : RS w0 w0.heap.size A n l) (hoff : 0 < n → ∀ ad, A = some ad → ad.block ≠ p ∧ u0 ≠ some ad.block) (hb : l0.length + nms l + n * 27 ≤ 140737488000000) (hl : Hid (l0 ++ planB l = l')) :
    Calls Try.prog 37 #[.pointer (some ⟨p, 0, none⟩), .slice A n c] W fun e W' => e = .returned (.tuple #[]) ∧ Wrq w0 W' p u0 l' := by
  have hlen := RS.len hr
  have b0 : n < 18446744073709551616 := by omega
  have h63 : n ≤ 9223372036854775807 := by omega
  have z0 := wrap_u n b0
  obtain ⟨l1, e1⟩ : ∃ a, l0 ++ num n = a := ⟨_, rfl⟩
  have s1 : l1.length ≤ l0.length + 9 := by rw [← e1, List.length_append]; have := num9 b0; omega
  have HALL : Hid (l1 ++ spsB l = l') := by
    have e2 : l1 ++ spsB l = l' := by rw [← hl.out, ← e1]; unfold planB; rw [hlen, List.append_assoc]
    exact e2
  have E1 := Lib.hid e1
  have HLEN := Lib.hid hlen
  clear e1 hl hlen
  go_enter Try.func37, Try.ntmps37
  go_wp2_with fail
  with_reducible refine (wrq_num n h b0 (by omega) E1).mono ?_
  rintro e w1 ⟨rfl, h1⟩
  clear h
  go_wp2
  go_loopw [13] (fun x wr => ∃ j : Nat, j ≤ n ∧ x = .int .i64 (j : Int) ∧ Wrq w0 wr p u0 (l1 ++ spsB (l.take j))) (fun x _ => n - (intOf x).toNat)
  case atStart => exact ⟨0, by omega, rfl, by simpa [spsB] using h1⟩
  case round =>
    obtain ⟨j, hj, rfl, hW⟩ := hrel
    by_cases hjn : j < n
    · have HJ := Lib.hid hjn
      obtain ⟨bk, o, e, rfl, hbl, hej, hthree⟩ := RS.at_ hr hjn
      obtain ⟨hn1, hn2⟩ := hoff (by omega) _ rfl
      have y0 := hW.cell hthree.c0 hbl hn1 hn2
      have y1 := hW.cell hthree.c1 hbl hn1 hn2
      have y2 := hW.cell hthree.c2 hbl hn1 hn2
      have hbl2 := Nat.lt_of_lt_of_le hbl hW.only.size
      have htake := spsB_take hej
      have hnm := nms_at hej
      have hlj := spsB_le (l.take j) (by have := nms_take l j; omega)
      have hltj : (l.take j).length ≤ j := by rw [List.length_take]; omega
      obtain ⟨pt, nm, bg⟩ := e
      simp only at y0 y1 y2 hnm
      have v1 := u64_lt pt
      have v3 := u64_lt bg
      have z1 := u64_wrap pt
      have z3 := u64_wrap bg
      have hspb : spB ⟨pt, nm, bg⟩ = num (u64 pt) ++ (text nm ++ num (u64 bg)) := rfl
      obtain ⟨m1, hm1⟩ : ∃ m, u64 pt = m := ⟨_, rfl⟩
      obtain ⟨m3, hm3⟩ : ∃ m, u64 bg = m := ⟨_, rfl⟩
      rw [hm1] at v1 z1 hspb
      rw [hm3] at v3 z3 hspb
      obtain ⟨a0, x0⟩ : ∃ a, l1 ++ spsB (l.take j) = a := ⟨_, rfl⟩
      have q0 : a0.length ≤ l0.length + 9 + nms (l.take j) + j * 27 := by rw [← x0, List.length_append]; omega
      obtain ⟨a1, x1⟩ : ∃ a, a0 ++ num m1 = a := ⟨_, rfl⟩
      obtain ⟨a2, x2⟩ : ∃ a, a1 ++ text nm = a := ⟨_, rfl⟩
      obtain ⟨a3, x3⟩ : ∃ a, a2 ++ num m3 = a := ⟨_, rfl⟩
      have q1 : a1.length ≤ a0.length + 9 := by rw [← x1, List.length_append]; have := num9 v1; omega
      have q2 : a2.length ≤ a0.length + 18 + nm.size := by rw [← x2, List.length_append]; have := text_length nm (by omega); omega
      have r0 : a0.length ≤ 140737488355000 := by omega
      have r1 : a1.length + nm.size ≤ 140737488355000 := by omega
      have r2 : a2.length ≤ 140737488355000 := by omega
      have hA3 : Hid (l1 ++ spsB (l.take (j + 1)) = a3) := by
        have e1 : l1 ++ spsB (l.take (j + 1)) = a3 := by
          rw [htake, ← List.append_assoc, x0, ← x3, ← x2, ← x1, hspb]
          simp [List.append_assoc]
        exact e1
      rw [x0] at hW
      have X1 := Lib.hid x1
      have X2 := Lib.hid x2
      have X3 := Lib.hid x3
      have hK := (hW.alloc (.cells #[.int .i64 pt, .string nm, .int .i64 bg] 42)).drew
      have t0 := hK.cell rfl 0
      have t1 := hK.cell rfl 1
      have t2 := hK.cell rfl 2
      clear hthree hej htake hlj x0 x1 x2 x3 hltj h1 hm1 hm3 hspb hnm q0 q1 q2 hb s1
      go_wp2_with fail
      go_region_held3 (fun w' => w'.cell? ⟨wr.heap.size, 0, none⟩ = some (.int .i64 pt) ∧ w'.cell? ⟨wr.heap.size, 1, none⟩ = some (.string nm) ∧ w'.cell? ⟨wr.heap.size, 2, none⟩ = some (.int .i64 bg))
        (first
          | exact ⟨t0, t1, t2⟩
          | exact ⟨hWC.cell rfl 0, hWC.cell rfl 1, hWC.cell rfl 2⟩
          | exact ⟨hWB.cell rfl 0, hWB.cell rfl 1, hWB.cell rfl 2⟩
          | exact ⟨hWA.cell rfl 0, hWA.cell rfl 1, hWA.cell rfl 2⟩)
        (first
          | (go_at_call 38
             (with_reducible refine (wrb_num m1 hK v1 r0 X1).mono ?_)
             rintro e wA ⟨rfl, hWA⟩)
          | (go_at_call 46
             (with_reducible refine (wrb_text nm hWA r1 X2).mono ?_)
             rintro e wB ⟨rfl, hWB⟩)
          | (go_at_call 38
             (with_reducible refine (wrb_num m3 hWB v3 r2 X3).mono ?_)
             rintro e wC ⟨rfl, hWC⟩))
      have hWE := hWC.wrq
      rw [← hA3.out] at hWE
      clear hWC hWB hWA hK t0 t1 t2
      go_wp2
      go_roundw
      case rel => exact ⟨j + 1, HJ.out, by go_num, hWE⟩
      case measure => have := HJ.out; simp [intOf]; omega
    · obtain rfl : j = n := by omega
      have hall : l.take j = l := by rw [List.take_of_length_le (by rw [HLEN.out]; exact Nat.le_refl _)]
      rw [hall, HALL.out] at hW
      go_wp2
      go_end0
      exact ⟨rfl, hW⟩

set_option maxRecDepth 100000 in
set_option maxHeartbeats 4000000 in
theorem swrite_any {w : World} {p : Nat} {u : Value} {l0 l' : List UInt8} (hw : WV w p u l0) {A : Option Addr} {c : Nat} {s : Sg} (h : At w A s.l) (hoff : 0 < s.l.length → ∀ ad, A = some ad → ad.block ≠ p ∧ u.ownBlock ≠ some ad.block)
    (hb : l0.length + nms s.l + s.l.length * 27 ≤ 140737480000000) (hl : Hid (l0 ++ sgB s = l')) :
    Calls Try.prog 21 #[.pointer (some ⟨p, 0, none⟩), .agg #[.slice A s.l.length c, .int .i64 s.st, .int .i64 s.cu, .int .i64 s.fa]] w fun e W' => e = .returned (.tuple #[]) ∧ Wrq w W' p u.ownBlock l' := by
  obtain ⟨l, st, cu, fa⟩ := s
  simp only at h hoff hb ⊢
  have hbo : Below w.heap.size w (w.alloc (.cells #[.slice A l.length c, .int .i64 st, .int .i64 cu, .int .i64 fa] 24)) := (Below.refl _ _).alloc (Nat.le_refl _) _
  have hX := Box4.new w (.slice A l.length c) (.int .i64 st) (.int .i64 cu) (.int .i64 fa)
  have hp := hw.lt
  have hrow := hw.row
  obtain ⟨w1, hw1⟩ : ∃ w1, w.alloc (.cells #[.slice A l.length c, .int .i64 st, .int .i64 cu, .int .i64 fa] 24) = w1 := ⟨_, rfl⟩
  obtain ⟨G, hG⟩ : ∃ G, w.heap.size = G := ⟨_, rfl⟩
  rw [hw1] at hbo hX
  rw [hG] at hX hp hrow
  have h1 := h.below hbo
  have hu1 := hw.below hbo
  have g1 : G ≠ p := by omega
  have g2 : u.ownBlock ≠ some G := fun e => by have := (hrow G e).2; omega
  obtain ⟨a1, x1⟩ : ∃ a, l0 ++ planB l = a := ⟨_, rfl⟩
  have v1 := u64_lt st
  have v2 := u64_lt cu
  have v3 := u64_lt fa
  have z1 := u64_wrap st
  have z2 := u64_wrap cu
  have z3 := u64_wrap fa
  have hl' : a1 ++ (num (u64 st) ++ (num (u64 cu) ++ num (u64 fa))) = l' := by rw [← hl.out, ← x1]; unfold sgB; simp [List.append_assoc]
  obtain ⟨m1, hm1⟩ : ∃ x, u64 st = x := ⟨_, rfl⟩
  obtain ⟨m2, hm2⟩ : ∃ x, u64 cu = x := ⟨_, rfl⟩
  obtain ⟨m3, hm3⟩ : ∃ x, u64 fa = x := ⟨_, rfl⟩
  rw [hm1] at v1 z1 hl'
  rw [hm2] at v2 z2 hl'
  rw [hm3] at v3 z3 hl'
  obtain ⟨a2, x2⟩ : ∃ a, a1 ++ num m1 = a := ⟨_, rfl⟩
  obtain ⟨a3, x3⟩ : ∃ a, a2 ++ num m2 = a := ⟨_, rfl⟩
  obtain ⟨a4, x4⟩ : ∃ a, a3 ++ num m3 = a := ⟨_, rfl⟩
  have hsp := spsB_le l (by omega)
  have h9 := num9 (x := l.length) (by omega)
  have q1 : a1.length ≤ 140737481000000 := by rw [← x1, List.length_append]; unfold planB; rw [List.length_append]; omega
  have q2 : a2.length ≤ a1.length + 9 := by rw [← x2, List.length_append]; have := num9 v1; omega
  have q3 : a3.length ≤ a2.length + 9 := by rw [← x3, List.length_append]; have := num9 v2; omega
  have e1 : a1.length ≤ 140737488355000 := by omega
  have e2 : a2.length ≤ 140737488355000 := by omega
  have e3 : a3.length ≤ 140737488355000 := by omega
  have HL : Hid (a4 = l') := by
    have : a4 = l' := by rw [← hl', ← x4, ← x3, ← x2]; simp [List.append_assoc]
    exact this
  have HPW := Lib.hid (pwrite_any (c := c) (Wrq.new hu1) h1.rs hoff (by omega) (Lib.hid x1))
  have X2 := Lib.hid x2
  have X3 := Lib.hid x3
  have X4 := Lib.hid x4
  have HW1 := Lib.hid hw1
  have HBO := Lib.hid hbo
  have HX := Lib.hid hX
  clear hw h hbo hX hw1 h1 hu1 x1 x2 x3 x4 hl' hsp h9 q1 q2 q3 hm1 hm2 hm3 hl hrow
  go_enter Try.func21, Try.ntmps21
  go_wp2_with fail
  rw [HW1.out]
  go_wp2_with fail
  with_reducible refine HPW.out.mono ?_
  rintro e w2 ⟨rfl, hW2⟩
  have hW := hW2.drew
  have hGl : G < w1.heap.size := HX.out.lt
  have b1 := HX.out.c1
  have b2 := HX.out.c2
  have b3 := HX.out.c3
  have t1 := hW.cell b1 hGl g1 g2
  have t2 := hW.cell b2 hGl g1 g2
  have t3 := hW.cell b3 hGl g1 g2
  clear HPW hW2
  go_wp2_with fail
  go_region_held3 (fun w' => w'.cell? ⟨G, 1, none⟩ = some (.int .i64 st) ∧ w'.cell? ⟨G, 2, none⟩ = some (.int .i64 cu) ∧ w'.cell? ⟨G, 3, none⟩ = some (.int .i64 fa))
    (first
      | exact ⟨t1, t2, t3⟩
      | exact ⟨hWC.cell b1 hGl g1 g2, hWC.cell b2 hGl g1 g2, hWC.cell b3 hGl g1 g2⟩
      | exact ⟨hWB.cell b1 hGl g1 g2, hWB.cell b2 hGl g1 g2, hWB.cell b3 hGl g1 g2⟩
      | exact ⟨hWA.cell b1 hGl g1 g2, hWA.cell b2 hGl g1 g2, hWA.cell b3 hGl g1 g2⟩)
    (first
      | (go_at_call 38
         (with_reducible refine (wrq_num m1 hW v1 e1 X2).mono ?_)
         rintro e wA ⟨rfl, hWA⟩)
      | (go_at_call 38
         (with_reducible refine (wrq_num m2 hWA v2 e2 X3).mono ?_)
         rintro e wB ⟨rfl, hWB⟩)
      | (go_at_call 38
         (with_reducible refine (wrq_num m3 hWB v3 e3 X4).mono ?_)
         rintro e wC ⟨rfl, hWC⟩))
  rw [HL.out] at hWC
  obtain ⟨u5, hu5, hs5⟩ := hWC.ex
  have HF : Hid (Wrq w wC p u.ownBlock l') := ⟨⟨u5, hu5, State.Step.trans ⟨State.Only.of_below HBO.out, .inl rfl⟩ hs5⟩⟩
  clear hWC hWB hWA hW t1 t2 t3 hu5 hs5
  go_wp2
  go_end0
  exact ⟨rfl, HF.out⟩
end Go.Proofs.Ytcpnocjfafbnaaa.Pwr
