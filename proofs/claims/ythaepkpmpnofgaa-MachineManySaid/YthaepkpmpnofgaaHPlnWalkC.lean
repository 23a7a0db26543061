/- What Write lays, and what the document's Bytes are, walked. No statement is proved here. -/
import Derived.Test.YthaepkpmpnofgaaHPln
import Derived.Test.YthaepkpmpnofgaaHWtr
import Derived.BigRegion
import Derived.BigQuiet
import Derived.Deep.QuietTactic
set_option linter.unusedVariables false
set_option linter.unusedSimpArgs false
namespace Go.Proofs.Ythaepkpmpnofgaa.PlnWalkC
open Go.RowKit Go.Proofs.Ythaepkpmpnofgaa.Kit Go.Proofs.Ythaepkpmpnofgaa.Rdr Go.Proofs.Ythaepkpmpnofgaa.Stq Go.Proofs.Ythaepkpmpnofgaa.Pln Go.Proofs.Ythaepkpmpnofgaa.Wtr
open Go.Proofs.Ythaepkpmpnofgaa.Num (num)
open Go.Proofs.Ythaepkpmpnofgaa.State (cell_at free_at lt_at)
open Go.Proofs.Ythaepkpmpnofgaa.PckWalkB (text bit)
open Go.Proofs.Ythaepkpmpnofgaa.PckWalkH (str str_size str_append)

theorem wrap_u (n : Nat) (h : n < 18446744073709551616) : IntKind.u64.wrap (n : Int) = (n : Int) := by rw [IntKind.wrap_u64]; omega

set_option maxRecDepth 100000 in
set_option maxHeartbeats 4000000 in
/-- The steps lie in a world ahead of the writer. -/
theorem write_any {w0 W : World} {p : Nat} {l0 l' : List UInt8} (h : Wrt w0 W p l0) {A : Option Addr} {n c : Nat} {l : List Sp} (hr : RS w0 w0.heap.size A n l) (hb : l0.length + nms l + n * 27 ≤ 140737488000000) (hl : Hid (l0 ++ planB l = l')) :
    Calls Try.prog 51 #[.pointer (some ⟨p, 0, none⟩), .slice A n c] W fun e W' => e = .returned (.tuple #[]) ∧ Wrt w0 W' p l' := by
  have hlen := RS.len hr
  have b0 : n < 18446744073709551616 := by omega
  have h63 : n ≤ 9223372036854775807 := by omega
  have z0 := wrap_u n b0
  obtain ⟨l1, e1⟩ : ∃ a, l0 ++ num n = a := ⟨_, rfl⟩
  have s1 : l1.length ≤ l0.length + 9 := by rw [← e1, List.length_append]; have := num9 b0; omega
  have HALL : Hid (l1 ++ spsB l = l') := by
    have e2 : l1 ++ spsB l = l' := by rw [← hl.out, ← e1]; unfold planB; rw [hlen, List.append_assoc]
    exact e2
  have E1 := Lib.hid e1
  have HLEN := Lib.hid hlen
  clear e1 hl hlen
  go_enter Try.func51, Try.ntmps51
  go_wp2_with fail
  with_reducible refine (wrt_num n h b0 (by omega) E1).mono ?_
  rintro e w1 ⟨rfl, h1⟩
  clear h
  go_wp2
  go_loopw [13] (fun x wr => ∃ j : Nat, j ≤ n ∧ x = .int .i64 (j : Int) ∧ Wrt w0 wr p (l1 ++ spsB (l.take j))) (fun x _ => n - (intOf x).toNat)
  case atStart => exact ⟨0, by omega, rfl, by simpa [spsB] using h1⟩
  case round =>
    obtain ⟨j, hj, rfl, hW⟩ := hrel
    by_cases hjn : j < n
    · have HJ := Lib.hid hjn
      obtain ⟨bk, o, e, rfl, hbl, hej, hthree⟩ := RS.at_ hr hjn
      have hfr := Three.below hthree hW.bel hbl
      have y0 := hfr.c0
      have y1 := hfr.c1
      have y2 := hfr.c2
      have htake := spsB_take hej
      have hnm := nms_at hej
      have hlj := spsB_le (l.take j) (by have := nms_take l j; omega)
      have hltj : (l.take j).length ≤ j := by rw [List.length_take]; omega
      obtain ⟨pt, nm, bg⟩ := e
      simp only at y0 y1 y2 hnm
      have v1 := u64_lt pt
      have v3 := u64_lt bg
      have z1 := u64_wrap pt
      have z3 := u64_wrap bg
      have hspb : spB ⟨pt, nm, bg⟩ = num (u64 pt) ++ (text nm ++ num (u64 bg)) := rfl
      obtain ⟨m1, hm1⟩ : ∃ m, u64 pt = m := ⟨_, rfl⟩
      obtain ⟨m3, hm3⟩ : ∃ m, u64 bg = m := ⟨_, rfl⟩
      rw [hm1] at v1 z1 hspb
      rw [hm3] at v3 z3 hspb
      obtain ⟨a0, x0⟩ : ∃ a, l1 ++ spsB (l.take j) = a := ⟨_, rfl⟩
      have q0 : a0.length ≤ l0.length + 9 + nms (l.take j) + j * 27 := by rw [← x0, List.length_append]; omega
      obtain ⟨a1, x1⟩ : ∃ a, a0 ++ num m1 = a := ⟨_, rfl⟩
      obtain ⟨a2, x2⟩ : ∃ a, a1 ++ text nm = a := ⟨_, rfl⟩
      obtain ⟨a3, x3⟩ : ∃ a, a2 ++ num m3 = a := ⟨_, rfl⟩
      have q1 : a1.length ≤ a0.length + 9 := by rw [← x1, List.length_append]; have := num9 v1; omega
      have q2 : a2.length ≤ a0.length + 18 + nm.size := by rw [← x2, List.length_append]; have := text_length nm (by omega); omega
      have r0 : a0.length ≤ 140737488355000 := by omega
      have r1 : a1.length + nm.size ≤ 140737488355000 := by omega
      have r2 : a2.length ≤ 140737488355000 := by omega
      have hA3 : Hid (l1 ++ spsB (l.take (j + 1)) = a3) := by
        have e1 : l1 ++ spsB (l.take (j + 1)) = a3 := by
          rw [htake, ← List.append_assoc, x0, ← x3, ← x2, ← x1, hspb]
          simp [List.append_assoc]
        exact e1
      rw [x0] at hW
      have X1 := Lib.hid x1
      have X2 := Lib.hid x2
      have X3 := Lib.hid x3
      have hK := (wrk_new hW (.cells #[.int .i64 pt, .string nm, .int .i64 bg] 44)).drew
      have t0 := hK.cell 0
      have t1 := hK.cell 1
      have t2 := hK.cell 2
      clear hfr hthree hej htake hlj x0 x1 x2 x3 hltj h1 hm1 hm3 hspb hnm q0 q1 q2 hb s1
      go_wp2_with fail
      go_region_held3 (fun w' => w'.cell? ⟨wr.heap.size, 0, none⟩ = some (.int .i64 pt) ∧ w'.cell? ⟨wr.heap.size, 1, none⟩ = some (.string nm) ∧ w'.cell? ⟨wr.heap.size, 2, none⟩ = some (.int .i64 bg))
        (first
          | exact ⟨t0, t1, t2⟩
          | exact ⟨hWC.cell 0, hWC.cell 1, hWC.cell 2⟩
          | exact ⟨hWB.cell 0, hWB.cell 1, hWB.cell 2⟩
          | exact ⟨hWA.cell 0, hWA.cell 1, hWA.cell 2⟩)
        (first
          | (go_at_call 24
             (with_reducible refine (wrk_num m1 hK v1 r0 X1).mono ?_)
             rintro e wA ⟨rfl, hWA⟩)
          | (go_at_call 75
             (with_reducible refine (wrk_text nm hWA r1 X2).mono ?_)
             rintro e wB ⟨rfl, hWB⟩)
          | (go_at_call 24
             (with_reducible refine (wrk_num m3 hWB v3 r2 X3).mono ?_)
             rintro e wC ⟨rfl, hWC⟩))
      have hWE := hWC.wrt
      rw [← hA3.out] at hWE
      clear hWC hWB hWA hK t0 t1 t2
      go_wp2
      go_roundw
      case rel => exact ⟨j + 1, HJ.out, by go_num, hWE⟩
      case measure => have := HJ.out; simp [intOf]; omega
    · obtain rfl : j = n := by omega
      have hall : l.take j = l := by rw [List.take_of_length_le (by rw [HLEN.out]; exact Nat.le_refl _)]
      rw [hall, HALL.out] at hW
      go_wp2
      go_end0
      exact ⟨rfl, hW⟩

/-! ### The document's -/
theorem rnum_hid (x : Nat) (w : World) (hx : x < 18446744073709551616) {F : ByteArray} (hF : Hid (str (num x) = F)) :
    Calls Try.prog 53 #[.int .u64 (x : Int)] w fun e w' => e = .returned (.string F) ∧ Below w.heap.size w w' :=
  (PckWalkH.num_any x w hx).mono fun _ _ k => ⟨by rw [← hF.out]; exact k.1, k.2⟩
theorem rtext_hid (s : ByteArray) (w : World) (hs : s.size ≤ 140737488355000) {F : ByteArray} (hF : Hid (str (text s) = F)) :
    Calls Try.prog 54 #[.string s] w fun e w' => e = .returned (.string F) ∧ Below w.heap.size w w' :=
  (PckWalkH.text_any s w hs).mono fun _ _ k => ⟨by rw [← hF.out]; exact k.1, k.2⟩
set_option maxRecDepth 100000 in
set_option maxHeartbeats 4000000 in
theorem bytes_any {w : World} {A : Option Addr} {n c : Nat} {l : List Sp} (hr : RS w w.heap.size A n l) (hb : nms l + n * 27 ≤ 140737488000000) {S : ByteArray} (hS : Hid (str (planB l) = S)) :
    Calls Try.prog 30 #[.slice A n c] w fun e w' => e = .returned (.string S) ∧ Below w.heap.size w w' := by
  have hlen := RS.len hr
  have b0 : n < 18446744073709551616 := by omega
  have h63 : n ≤ 9223372036854775807 := by omega
  have z0 := wrap_u n b0
  obtain ⟨F, hF⟩ : ∃ F, str (num n) = F := ⟨_, rfl⟩
  have hFs : F = str (num n ++ spsB (l.take 0)) := by rw [← hF]; simp [spsB]
  have HF := Lib.hid hF
  have HFS := Lib.hid hFs
  have HALL : Hid (str (num n ++ spsB l) = S) := by
    have e2 : str (num n ++ spsB l) = S := by rw [← hS.out]; unfold planB; rw [hlen]
    exact e2
  have HLEN := Lib.hid hlen
  have h9 := num9 b0
  clear hlen hF hFs hS
  go_enter Try.func30, Try.ntmps30
  go_wp2_with fail
  with_reducible refine (rnum_hid n _ b0 HF).mono ?_
  rintro e w1 ⟨rfl, h1⟩
  go_wp2
  go_loopw [3, 4] (fun s x wr => ∃ j : Nat, j ≤ n ∧ x = .int .i64 (j : Int) ∧ s = .string (str (num n ++ spsB (l.take j))) ∧ Below w.heap.size w wr) (fun _ x _ => n - (intOf x).toNat)
  case atStart => exact ⟨0, by omega, rfl, by rw [HFS.out], h1⟩
  case round =>
    obtain ⟨j, hj, rfl, rfl, hbel⟩ := hrel
    clear h1
    by_cases hjn : j < n
    · have HJ := Lib.hid hjn
      obtain ⟨bk, o, e, rfl, hbl, hej, hthree⟩ := RS.at_ hr hjn
      have hfr := Three.below hthree hbel hbl
      have y0 := hfr.c0
      have y1 := hfr.c1
      have y2 := hfr.c2
      have htake := spsB_take hej
      have hnm := nms_at hej
      have hlj := spsB_le (l.take j) (by have := nms_take l j; omega)
      have hltj : (l.take j).length ≤ j := by rw [List.length_take]; omega
      obtain ⟨pt, nm, bg⟩ := e
      simp only at y0 y1 y2 hnm
      have v1 := u64_lt pt
      have v3 := u64_lt bg
      have z1 := u64_wrap pt
      have z3 := u64_wrap bg
      have hspb : spB ⟨pt, nm, bg⟩ = num (u64 pt) ++ (text nm ++ num (u64 bg)) := rfl
      obtain ⟨m1, hm1⟩ : ∃ m, u64 pt = m := ⟨_, rfl⟩
      obtain ⟨m3, hm3⟩ : ∃ m, u64 bg = m := ⟨_, rfl⟩
      rw [hm1] at v1 z1 hspb
      rw [hm3] at v3 z3 hspb
      obtain ⟨P, hP⟩ : ∃ P, str (num n ++ spsB (l.take j)) = P := ⟨_, rfl⟩
      obtain ⟨F1, hF1⟩ : ∃ F, str (num m1) = F := ⟨_, rfl⟩
      obtain ⟨F2, hF2⟩ : ∃ F, str (text nm) = F := ⟨_, rfl⟩
      obtain ⟨F3, hF3⟩ : ∃ F, str (num m3) = F := ⟨_, rfl⟩
      have hPs : P.size ≤ 140737488000009 := by rw [← hP, str_size, List.length_append]; omega
      have hs1 : F1.size ≤ 9 := by rw [← hF1, str_size]; exact num9 v1
      have hs3 : F3.size ≤ 9 := by rw [← hF3, str_size]; exact num9 v3
      have hs2 : F2.size ≤ 140737488000009 := by rw [← hF2, str_size]; have := text_length nm (by omega); omega
      have hn2 : nm.size ≤ 140737488355000 := by omega
      have u1 : ¬ 9223372036854775807 < F1.size + F2.size := by omega
      have u2 : ¬ 9223372036854775807 < F1.size + F2.size + F3.size := by omega
      have u4 : ¬ 9223372036854775807 < P.size + (F1.size + F2.size + F3.size) := by omega
      have HN : Hid (P ++ (F1 ++ F2 ++ F3) = str (num n ++ spsB (l.take (j + 1)))) := by
        have e1 : P ++ (F1 ++ F2 ++ F3) = str (num n ++ spsB (l.take (j + 1))) := by
          rw [← hP, ← hF1, ← hF2, ← hF3, str_append, str_append, str_append, htake, hspb]
          simp [List.append_assoc]
        exact e1
      have HF1 := Lib.hid hF1
      have HF2 := Lib.hid hF2
      have HF3 := Lib.hid hF3
      have hlt : bk < wr.heap.size := Nat.lt_of_lt_of_le hbl hbel.size
      have hji : (j : Int) < (n : Int) := by omega
      have hj0 : (0 : Int) ≤ (j : Int) := by omega
      rw [hP]
      clear hfr hthree hej htake hlj hltj hP hF1 hF2 hF3 hm1 hm3 hspb hnm hPs hs1 hs2 hs3 hb h9
      go_wp2_with fail
      go_region_held3 (fun w' => w'.cell? ⟨bk, o + j * 3, none⟩ = some (.int .i64 pt) ∧ w'.cell? ⟨bk, o + j * 3 + 1, none⟩ = some (.string nm) ∧ w'.cell? ⟨bk, o + j * 3 + 2, none⟩ = some (.int .i64 bg))
        (first
          | exact ⟨y0, y1, y2⟩
          | exact ⟨(hbC.cell (p := ⟨bk, o + j * 3, none⟩) hlt).trans y0, (hbC.cell (p := ⟨bk, o + j * 3 + 1, none⟩) hlt).trans y1, (hbC.cell (p := ⟨bk, o + j * 3 + 2, none⟩) hlt).trans y2⟩
          | exact ⟨(hbB.cell (p := ⟨bk, o + j * 3, none⟩) hlt).trans y0, (hbB.cell (p := ⟨bk, o + j * 3 + 1, none⟩) hlt).trans y1, (hbB.cell (p := ⟨bk, o + j * 3 + 2, none⟩) hlt).trans y2⟩
          | exact ⟨(hbA.cell (p := ⟨bk, o + j * 3, none⟩) hlt).trans y0, (hbA.cell (p := ⟨bk, o + j * 3 + 1, none⟩) hlt).trans y1, (hbA.cell (p := ⟨bk, o + j * 3 + 2, none⟩) hlt).trans y2⟩)
        (first
          | (go_at_call 53
             (with_reducible refine (rnum_hid m1 _ v1 HF1).mono ?_)
             rintro e wA ⟨rfl, hA⟩
             have hbA : Below wr.heap.size wr wA := ((Below.refl _ wr).drew).trans hA)
          | (go_at_call 54
             (with_reducible refine (rtext_hid nm _ hn2 HF2).mono ?_)
             rintro e wB ⟨rfl, hB⟩
             have hbB : Below wr.heap.size wr wB := hbA.trans (hB.mono hbA.size))
          | (go_at_call 53
             (with_reducible refine (rnum_hid m3 _ v3 HF3).mono ?_)
             rintro e wC ⟨rfl, hC⟩
             have hbC : Below wr.heap.size wr wC := hbB.trans (hC.mono hbB.size)))
      have HBN : Hid (Below w.heap.size w wC) := hbel.trans (hbC.mono hbel.size)
      clear hbC hbB hbA
      go_wp2
      go_roundw
      case rel => exact ⟨j + 1, HJ.out, by go_num, by rw [HN.out], HBN.out⟩
      case measure => have := HJ.out; simp [intOf]; omega
    · obtain rfl : j = n := by omega
      have hall : l.take j = l := List.take_of_length_le (by rw [HLEN.out]; exact Nat.le_refl _)
      rw [hall, HALL.out]
      go_wp2
      go_ret
      exact ⟨rfl, hbel⟩
end Go.Proofs.Ythaepkpmpnofgaa.PlnWalkC
