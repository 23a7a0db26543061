/- What the document's Bytes are, walked. No statement is proved here. -/
import Derived.Test.YtdmlfnknmilhcaaSesB
import Derived.Test.YtdmlfnknmilhcaaWalkA
import Derived.Test.YtdmlfnknmilhcaaWtr
import Derived.Deep.RegionHeld3
set_option linter.unusedVariables false
set_option linter.unusedSimpArgs false
namespace Go.Proofs.Ytdmlfnknmilhcaa.RefE
open Go.RowKit Go.Proofs.Ytdmlfnknmilhcaa.Kit Go.Proofs.Ytdmlfnknmilhcaa.Rdr Go.Proofs.Ytdmlfnknmilhcaa.Ses Go.Proofs.Ytdmlfnknmilhcaa.Rws Go.Proofs.Ytdmlfnknmilhcaa.SesB Go.Proofs.Ytdmlfnknmilhcaa.WalkA
open Go.Proofs.Ytdmlfnknmilhcaa.Num (num)
open Go.Proofs.Ytdmlfnknmilhcaa.PckWalkH (str str_size str_append)

theorem rnum_hid (x : Nat) (w : World) (hx : x < 18446744073709551616) {F : ByteArray} (hF : Hid (str (num x) = F)) :
    Calls Try.prog 30 #[.int .u64 (x : Int)] w fun e w' => e = .returned (.string F) ∧ Below w.heap.size w w' :=
  (PckWalkH.num_any x w hx).mono fun _ _ k => ⟨by rw [← hF.out]; exact k.1, k.2⟩
theorem nm (x : Nat) (hx : x < 18446744073709551616) : ∃ F : ByteArray, Hid (str (num x) = F) ∧ F.size ≤ 9 := ⟨_, Lib.hid rfl, by rw [str_size]; exact num9 hx⟩
set_option maxRecDepth 100000 in
set_option maxHeartbeats 8000000 in
theorem bytes_any {B q : Nat} {w : World} {u : Value} {m : Tb} (h : DT B w q u m) (hU : U m.now ∧ U m.next) (hf : ∀ r ∈ m.rows, Fine r) (h16 : m.rows.length ≤ 16) {S : ByteArray} (hS : Hid (str (tbB m) = S)) :
    Calls Try.prog 15 #[.pointer (some ⟨q, 0, none⟩)] w fun e w' => e = .returned (.string S) ∧ Below w.heap.size w w' := by
  have hbo : ∀ (W : World) o, Below W.heap.size W (W.alloc o) := fun W o => (Below.refl _ _).alloc (Nat.le_refl _) o
  have c0 := h.c0
  have c1 := h.c1
  have c2 := h.c2
  have hp := h.plt
  obtain ⟨A, c, rfl, hnc, hcm, hr⟩ := h.form
  obtain ⟨n, hn⟩ : ∃ n, m.rows.length = n := ⟨_, rfl⟩
  rw [hn] at c2 hnc hr h16
  have hS' := hS.out
  unfold tbB at hS'
  rw [hn] at hS'
  obtain ⟨NW, NX, L⟩ := m
  simp only at c0 c1 c2 hU hf hn hr hS'
  obtain ⟨hU1, hU2⟩ := hU
  have hU3 : n < 18446744073709551616 := by omega
  have z0 := wrap_u n hU3
  obtain ⟨F1, HF1, s1⟩ := nm NW hU1
  obtain ⟨F2, HF2, s2⟩ := nm NX hU2
  obtain ⟨F3, HF3, s3⟩ := nm n hU3
  have a1 : ¬ 9223372036854775807 < F1.size + F2.size := by omega
  have a2 : ¬ 9223372036854775807 < F1.size + F2.size + F3.size := by omega
  have hd0 := (Below.refl w.heap.size w).drew
  obtain ⟨H0, hH0⟩ : ∃ l, num NW ++ (num NX ++ num n) = l := ⟨_, rfl⟩
  have h0l : H0.length ≤ 27 := by rw [← hH0]; simp only [List.length_append]; have := num9 hU1; have := num9 hU2; have := num9 hU3; omega
  have HST : Hid (F1 ++ F2 ++ F3 = str (H0 ++ rwsB (L.take 0))) := by
    have : F1 ++ F2 ++ F3 = str (H0 ++ rwsB (L.take 0)) := by rw [← HF1.out, ← HF2.out, ← HF3.out, str_append, str_append, ← hH0]; simp [rwsB, List.append_assoc]
    exact this
  have HALL : Hid (str (H0 ++ rwsB L) = S) := by
    have : str (H0 ++ rwsB L) = S := by rw [← hS', ← hH0]; simp [List.append_assoc]
    exact this
  have HN := Lib.hid hn
  have HR := Lib.hid hr
  have HF := Lib.hid hf
  have t0 : w.drew.cell? ⟨q, 0, none⟩ = some (.int .u64 (NW : Int)) := c0
  have t1 : w.drew.cell? ⟨q, 1, none⟩ = some (.int .u64 (NX : Int)) := c1
  have t2 : w.drew.cell? ⟨q, 2, none⟩ = some (.slice A n c) := c2
  clear h hr hf hn hS' hH0
  go_enter Try.func15, Try.ntmps15
  go_wp2_with fail
  go_region_held3 (fun w' => w'.cell? ⟨q, 0, none⟩ = some (.int .u64 (NW : Int)) ∧ w'.cell? ⟨q, 1, none⟩ = some (.int .u64 (NX : Int)) ∧ w'.cell? ⟨q, 2, none⟩ = some (.slice A n c))
    (first
      | exact ⟨t0, t1, t2⟩
      | exact ⟨(hbC.cell (p := ⟨q, 0, none⟩) hp).trans c0, (hbC.cell (p := ⟨q, 1, none⟩) hp).trans c1, (hbC.cell (p := ⟨q, 2, none⟩) hp).trans c2⟩
      | exact ⟨(hbB.cell (p := ⟨q, 0, none⟩) hp).trans c0, (hbB.cell (p := ⟨q, 1, none⟩) hp).trans c1, (hbB.cell (p := ⟨q, 2, none⟩) hp).trans c2⟩
      | exact ⟨(hbA.cell (p := ⟨q, 0, none⟩) hp).trans c0, (hbA.cell (p := ⟨q, 1, none⟩) hp).trans c1, (hbA.cell (p := ⟨q, 2, none⟩) hp).trans c2⟩)
    (first
      | (go_at_call 30
         (with_reducible refine (rnum_hid NW _ hU1 HF1).mono ?_)
         rintro e wA ⟨rfl, hA⟩
         have hbA : Below w.heap.size w wA := hd0.trans hA)
      | (go_at_call 30
         (with_reducible refine (rnum_hid NX _ hU2 HF2).mono ?_)
         rintro e wB ⟨rfl, hB⟩
         have hbB : Below w.heap.size w wB := hbA.trans (hB.mono hbA.size))
      | (go_at_call 30
         (with_reducible refine (rnum_hid n _ hU3 HF3).mono ?_)
         rintro e wC ⟨rfl, hC⟩
         have hbC : Below w.heap.size w wC := hbB.trans (hC.mono hbB.size)))
  have HBC := Lib.hid hbC
  clear hbC hbB hbA hC hB hA t0 t1 t2 a1 a2 s1 s2 s3
  go_wp2_with fail
  go_loopw [3, 4] (fun s x wr => ∃ j : Nat, j ≤ n ∧ x = .int .i64 (j : Int) ∧ s = .string (str (H0 ++ rwsB (L.take j))) ∧ Hid (Below w.heap.size w wr)) (fun _ x _ => n - (intOf x).toNat)
  case atStart => exact ⟨0, by omega, rfl, by rw [HST.out], HBC.out⟩
  case round =>
    obtain ⟨j, hj, rfl, rfl, hbel⟩ := hrel
    clear HBC
    have e2 := (hbel.out.cell (p := ⟨q, 2, none⟩) hp).trans c2
    have hpl := Nat.lt_of_lt_of_le hp hbel.out.size
    by_cases hjn : j < n
    · have HJ := Lib.hid hjn
      obtain ⟨bk, o, r, rfl, hbl, hrj, hsix⟩ := RR.at_ HR.out hjn
      obtain ⟨y0, y1, y2, y3, y4, y5⟩ := hsix.below hbel.out hbl
      have hlt := Nat.lt_of_lt_of_le hbl hbel.out.size
      have htake := rwsB_take hrj
      have hfr := HF.out r (List.mem_of_getElem? hrj)
      have hlj := rwsB_le (l := L.take j) fun x hx => HF.out x (List.mem_of_mem_take hx)
      have hltj : (L.take j).length ≤ j := by rw [List.length_take]; omega
      have z3 := u64_wrap r.y.err
      have v3 := u64_lt r.y.err
      obtain ⟨v0, v1, v2, v4, v5⟩ := hfr
      obtain ⟨me, hme⟩ : ∃ x, SesB.u64 r.y.err = x := ⟨_, rfl⟩
      have hrwb : rwB r = num r.id ++ (num r.used ++ (num r.seq ++ (num me ++ (num r.y.num ++ num r.y.ext)))) := by rw [← hme]; rfl
      rw [hme] at z3 v3
      obtain ⟨P, hP⟩ : ∃ P, str (H0 ++ rwsB (L.take j)) = P := ⟨_, rfl⟩
      have hPs : P.size ≤ 1000 := by rw [← hP, str_size, List.length_append]; omega
      obtain ⟨G1, K1, g1⟩ := nm r.id v0
      obtain ⟨G2, K2, g2⟩ := nm r.used v1
      obtain ⟨G3, K3, g3⟩ := nm r.seq v2
      obtain ⟨G4, K4, g4⟩ := nm me v3
      obtain ⟨G5, K5, g5⟩ := nm r.y.num v4
      obtain ⟨G6, K6, g6⟩ := nm r.y.ext v5
      have b1 : ¬ 9223372036854775807 < G1.size + G2.size := by omega
      have b2 : ¬ 9223372036854775807 < G1.size + G2.size + G3.size := by omega
      have b3 : ¬ 9223372036854775807 < G1.size + G2.size + G3.size + G4.size := by omega
      have b4 : ¬ 9223372036854775807 < G1.size + G2.size + G3.size + G4.size + G5.size := by omega
      have b5 : ¬ 9223372036854775807 < G1.size + G2.size + G3.size + G4.size + G5.size + G6.size := by omega
      have b6 : ¬ 9223372036854775807 < P.size + (G1.size + G2.size + G3.size + G4.size + G5.size + G6.size) := by omega
      have HNX : Hid (P ++ (G1 ++ G2 ++ G3 ++ G4 ++ G5 ++ G6) = str (H0 ++ rwsB (L.take (j + 1)))) := by
        have : P ++ (G1 ++ G2 ++ G3 ++ G4 ++ G5 ++ G6) = str (H0 ++ rwsB (L.take (j + 1))) := by
          rw [← hP, ← K1.out, ← K2.out, ← K3.out, ← K4.out, ← K5.out, ← K6.out, str_append, str_append, str_append, str_append, str_append, str_append, htake, hrwb]
          simp [List.append_assoc]
        exact this
      obtain ⟨id, us, sq, ⟨ye, yn, yx⟩⟩ := r
      simp only at y0 y1 y2 y3 y4 y5 z3 v0 v1 v2 v4 v5 K1 K2 K3 K5 K6
      have hba := hbo wr (.cells #[.int .u64 (id : Int), .int .u64 (us : Int), .int .u64 (sq : Int), .int .i64 ye, .int .u64 (yn : Int), .int .u64 (yx : Int)] 75)
      have hnew := heap_alloc_new wr (.cells #[.int .u64 (id : Int), .int .u64 (us : Int), .int .u64 (sq : Int), .int .i64 ye, .int .u64 (yn : Int), .int .u64 (yx : Int)] 75)
      obtain ⟨w0, hw0⟩ : ∃ w0, (wr.alloc (.cells #[.int .u64 (id : Int), .int .u64 (us : Int), .int .u64 (sq : Int), .int .i64 ye, .int .u64 (yn : Int), .int .u64 (yx : Int)] 75)) = w0 := ⟨_, rfl⟩
      obtain ⟨G, hG⟩ : ∃ G, wr.heap.size = G := ⟨_, rfl⟩
      rw [hw0] at hba hnew
      rw [hG] at hnew
      have hGl : G < w0.heap.size := State.lt_at hnew
      have x0 := State.cell_at hnew 0
      have x1 := State.cell_at hnew 1
      have x2 := State.cell_at hnew 2
      have x3 := State.cell_at hnew 3
      have x4 := State.cell_at hnew 4
      have x5 := State.cell_at hnew 5
      simp only [List.getElem?_toArray, List.getElem?_cons_zero, List.getElem?_cons_succ] at x0 x1 x2 x3 x4 x5
      have hB0 := hbel.out.trans (hba.mono hbel.out.size)
      have X : Hid (∀ W, Below w0.heap.size w0 W → W.cell? ⟨G, 0, none⟩ = some (.int .u64 (id : Int)) ∧ W.cell? ⟨G, 1, none⟩ = some (.int .u64 (us : Int)) ∧ W.cell? ⟨G, 2, none⟩ = some (.int .u64 (sq : Int)) ∧ W.cell? ⟨G, 3, none⟩ = some (.int .i64 ye) ∧ W.cell? ⟨G, 4, none⟩ = some (.int .u64 (yn : Int)) ∧ W.cell? ⟨G, 5, none⟩ = some (.int .u64 (yx : Int))) := fun W hb =>
        ⟨(hb.cell (p := ⟨G, 0, none⟩) hGl).trans x0, (hb.cell (p := ⟨G, 1, none⟩) hGl).trans x1, (hb.cell (p := ⟨G, 2, none⟩) hGl).trans x2, (hb.cell (p := ⟨G, 3, none⟩) hGl).trans x3, (hb.cell (p := ⟨G, 4, none⟩) hGl).trans x4, (hb.cell (p := ⟨G, 5, none⟩) hGl).trans x5⟩
      have HD0 := Lib.hid ((Below.refl w0.heap.size w0).drew)
      have HB0 := Lib.hid hB0
      have HW0 := Lib.hid hw0
      rw [hP]
      clear hsix htake hlj hltj hme hrwb hP hPs g1 g2 g3 g4 g5 g6 hrj hba hnew hw0 hB0 x0 x1 x2 x3 x4 x5
      go_wp2_with fail
      rw [HW0.out]
      go_region_held3 (fun W => W.cell? ⟨G, 0, none⟩ = some (.int .u64 (id : Int)) ∧ W.cell? ⟨G, 1, none⟩ = some (.int .u64 (us : Int)) ∧ W.cell? ⟨G, 2, none⟩ = some (.int .u64 (sq : Int)) ∧ W.cell? ⟨G, 3, none⟩ = some (.int .i64 ye) ∧ W.cell? ⟨G, 4, none⟩ = some (.int .u64 (yn : Int)) ∧ W.cell? ⟨G, 5, none⟩ = some (.int .u64 (yx : Int)))
        (first
          | exact X.out _ HD0.out
          | exact X.out _ hF
          | exact X.out _ hE
          | exact X.out _ hDD
          | exact X.out _ hC
          | exact X.out _ hB
          | exact X.out _ hA)
        (first
          | (go_at_call 30
             (with_reducible refine (rnum_hid id _ v0 K1).mono ?_)
             rintro e wA ⟨rfl, hx⟩
             have hA := HD0.out.trans hx)
          | (go_at_call 30
             (with_reducible refine (rnum_hid us _ v1 K2).mono ?_)
             rintro e wB ⟨rfl, hx⟩
             have hB := hA.trans (hx.mono hA.size))
          | (go_at_call 30
             (with_reducible refine (rnum_hid sq _ v2 K3).mono ?_)
             rintro e wC ⟨rfl, hx⟩
             have hC := hB.trans (hx.mono hB.size))
          | (go_at_call 30
             (with_reducible refine (rnum_hid me _ v3 K4).mono ?_)
             rintro e wD ⟨rfl, hx⟩
             have hDD := hC.trans (hx.mono hC.size))
          | (go_at_call 30
             (with_reducible refine (rnum_hid yn _ v4 K5).mono ?_)
             rintro e wE ⟨rfl, hx⟩
             have hE := hDD.trans (hx.mono hDD.size))
          | (go_at_call 30
             (with_reducible refine (rnum_hid yx _ v5 K6).mono ?_)
             rintro e wF ⟨rfl, hx⟩
             have hF := hE.trans (hx.mono hE.size)))
      have HBF := Lib.hid (HB0.out.trans (hF.mono HB0.out.size))
      clear hF hE hDD hC hB hA
      go_wp2
      go_roundw
      case rel => exact ⟨j + 1, HJ.out, by go_num, by rw [HNX.out], HBF.out⟩
      case measure => have := HJ.out; simp [intOf]; omega
    · obtain rfl : j = n := by omega
      have hall : L.take j = L := List.take_of_length_le (by rw [HN.out]; exact Nat.le_refl _)
      rw [hall, HALL.out]
      go_wp2
      go_ret
      exact ⟨rfl, hbel.out⟩
end Go.Proofs.Ytdmlfnknmilhcaa.RefE
