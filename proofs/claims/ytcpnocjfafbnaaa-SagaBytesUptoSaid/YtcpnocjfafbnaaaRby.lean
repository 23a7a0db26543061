/- What the document's Bytes of a saga are, walked. No statement is proved here. -/
import Derived.Test.YtcpnocjfafbnaaaSgb
import Derived.Test.YtcpnocjfafbnaaaPlnWalkC
import Derived.Test.YtcpnocjfafbnaaaSagAt
import Derived.Deep.RegionHeld3
set_option linter.unusedVariables false
set_option linter.unusedSimpArgs false
namespace Go.Proofs.Ytcpnocjfafbnaaa.Rby
open Go.RowKit Go.Proofs.Ytcpnocjfafbnaaa.Kit Go.Proofs.Ytcpnocjfafbnaaa.Rdr Go.Proofs.Ytcpnocjfafbnaaa.Stq Go.Proofs.Ytcpnocjfafbnaaa.Pln Go.Proofs.Ytcpnocjfafbnaaa.Sag Go.Proofs.Ytcpnocjfafbnaaa.SagAt Go.Proofs.Ytcpnocjfafbnaaa.Sgb Go.Proofs.Ytcpnocjfafbnaaa.PlnWalkC
open Go.Proofs.Ytcpnocjfafbnaaa.Num (num)
open Go.Proofs.Ytcpnocjfafbnaaa.PckWalkH (str str_size str_append)

set_option maxRecDepth 100000 in
set_option maxHeartbeats 4000000 in
theorem sbytes_any {w : World} {A : Option Addr} {c : Nat} {s : Sg} (h : At w A s.l) (hb : nms s.l + s.l.length * 27 ≤ 140737480000000) {S : ByteArray} (hS : Hid (str (sgB s) = S)) :
    Calls Try.prog 23 #[.agg #[.slice A s.l.length c, .int .i64 s.st, .int .i64 s.cu, .int .i64 s.fa]] w fun e w' => e = .returned (.string S) ∧ Below w.heap.size w w' := by
  obtain ⟨l, st, cu, fa⟩ := s
  simp only at h hb ⊢
  have hbo : Below w.heap.size w (w.alloc (.cells #[.slice A l.length c, .int .i64 st, .int .i64 cu, .int .i64 fa] 24)) := (Below.refl _ _).alloc (Nat.le_refl _) _
  have hX := Box4.new w (.slice A l.length c) (.int .i64 st) (.int .i64 cu) (.int .i64 fa)
  obtain ⟨w1, hw1⟩ : ∃ w1, w.alloc (.cells #[.slice A l.length c, .int .i64 st, .int .i64 cu, .int .i64 fa] 24) = w1 := ⟨_, rfl⟩
  obtain ⟨G, hG⟩ : ∃ G, w.heap.size = G := ⟨_, rfl⟩
  rw [hw1] at hbo hX
  rw [hG] at hX
  have h1 := (h.below hbo).below ((Below.refl _ _).drew)
  have v1 := u64_lt st
  have v2 := u64_lt cu
  have v3 := u64_lt fa
  have z1 := u64_wrap st
  have z2 := u64_wrap cu
  have z3 := u64_wrap fa
  have hS' : str (planB l ++ (num (u64 st) ++ (num (u64 cu) ++ num (u64 fa)))) = S := hS.out
  obtain ⟨m1, hm1⟩ : ∃ x, u64 st = x := ⟨_, rfl⟩
  obtain ⟨m2, hm2⟩ : ∃ x, u64 cu = x := ⟨_, rfl⟩
  obtain ⟨m3, hm3⟩ : ∃ x, u64 fa = x := ⟨_, rfl⟩
  rw [hm1] at v1 z1 hS'
  rw [hm2] at v2 z2 hS'
  rw [hm3] at v3 z3 hS'
  obtain ⟨F0, hF0⟩ : ∃ x, str (planB l) = x := ⟨_, rfl⟩
  obtain ⟨F1, hF1⟩ : ∃ x, str (num m1) = x := ⟨_, rfl⟩
  obtain ⟨F2, hF2⟩ : ∃ x, str (num m2) = x := ⟨_, rfl⟩
  obtain ⟨F3, hF3⟩ : ∃ x, str (num m3) = x := ⟨_, rfl⟩
  have hsp := spsB_le l (by omega)
  have h9 := num9 (x := l.length) (by omega)
  have q0 : F0.size ≤ 140737481000000 := by rw [← hF0, str_size]; unfold planB; rw [List.length_append]; omega
  have q1 : F1.size ≤ 9 := by rw [← hF1, str_size]; exact num9 v1
  have q2 : F2.size ≤ 9 := by rw [← hF2, str_size]; exact num9 v2
  have q3 : F3.size ≤ 9 := by rw [← hF3, str_size]; exact num9 v3
  have u1 : ¬ 9223372036854775807 < F0.size + F1.size := by omega
  have u2 : ¬ 9223372036854775807 < F0.size + F1.size + F2.size := by omega
  have u3 : ¬ 9223372036854775807 < F0.size + F1.size + F2.size + F3.size := by omega
  have HSS : Hid (F0 ++ F1 ++ F2 ++ F3 = S) := by
    have : F0 ++ F1 ++ F2 ++ F3 = S := by rw [← hS', ← hF0, ← hF1, ← hF2, ← hF3, str_append, str_append, str_append]; simp [List.append_assoc]
    exact this
  have HBY := Lib.hid (bytes_any (c := c) h1.rs (by omega) (Lib.hid hF0))
  have HF1 := Lib.hid hF1
  have HF2 := Lib.hid hF2
  have HF3 := Lib.hid hF3
  have HW1 := Lib.hid hw1
  have HBO := Lib.hid hbo
  have hGl : G < w1.heap.size := hX.lt
  have b0 := hX.c0
  have b1 := hX.c1
  have b2 := hX.c2
  have b3 := hX.c3
  have HX : Hid (∀ W, Below w1.heap.size w1 W → W.cell? ⟨G, 0, none⟩ = some (.slice A l.length c) ∧ W.cell? ⟨G, 1, none⟩ = some (.int .i64 st) ∧ W.cell? ⟨G, 2, none⟩ = some (.int .i64 cu) ∧ W.cell? ⟨G, 3, none⟩ = some (.int .i64 fa)) := fun W k => ⟨(k.cell (p := ⟨G, 0, none⟩) hGl).trans b0, (k.cell (p := ⟨G, 1, none⟩) hGl).trans b1, (k.cell (p := ⟨G, 2, none⟩) hGl).trans b2, (k.cell (p := ⟨G, 3, none⟩) hGl).trans b3⟩
  have HD := Lib.hid ((Below.refl w1.heap.size w1).drew)
  clear h hbo hX hw1 h1 hS' hF0 hF1 hF2 hF3 hsp h9 q0 q1 q2 q3 hm1 hm2 hm3 b0 b1 b2 b3
  go_enter Try.func23, Try.ntmps23
  go_wp2_with fail
  rw [HW1.out]
  go_region_held3 (fun W => W.cell? ⟨G, 0, none⟩ = some (.slice A l.length c) ∧ W.cell? ⟨G, 1, none⟩ = some (.int .i64 st) ∧ W.cell? ⟨G, 2, none⟩ = some (.int .i64 cu) ∧ W.cell? ⟨G, 3, none⟩ = some (.int .i64 fa))
    (first
      | exact HX.out _ HD.out
      | exact HX.out _ hD
      | exact HX.out _ hC
      | exact HX.out _ hB
      | exact HX.out _ hA)
    (first
      | (go_at_call 39
         (with_reducible refine HBY.out.mono ?_)
         rintro e wA ⟨rfl, hx⟩
         have hA := HD.out.trans hx)
      | (go_at_call 40
         (with_reducible refine (rnum_hid m1 _ v1 HF1).mono ?_)
         rintro e wB ⟨rfl, hx⟩
         have hB := hA.trans (hx.mono hA.size))
      | (go_at_call 40
         (with_reducible refine (rnum_hid m2 _ v2 HF2).mono ?_)
         rintro e wC ⟨rfl, hx⟩
         have hC := hB.trans (hx.mono hB.size))
      | (go_at_call 40
         (with_reducible refine (rnum_hid m3 _ v3 HF3).mono ?_)
         rintro e wD ⟨rfl, hx⟩
         have hD := hC.trans (hx.mono hC.size)))
  have HBD := Lib.hid (HBO.out.trans (hD.mono HBO.out.size))
  clear hD hC hB hA
  go_wp2
  go_ret
  exact ⟨by rw [HSS.out]; rfl, HBD.out⟩
end Go.Proofs.Ytcpnocjfafbnaaa.Rby
