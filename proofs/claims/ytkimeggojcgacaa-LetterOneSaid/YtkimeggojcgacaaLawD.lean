/- The walk of the statement that bytes which say a letter are the only ones that say it. -/
import Derived.Test.YtkimeggojcgacaaBegun
import Derived.Test.YtkimeggojcgacaaSame
set_option linter.unusedVariables false
set_option linter.unusedSimpArgs false
namespace Go.Proofs.Ytkimeggojcgacaa.LawD
open Go.RowKit Go.Proofs.Ytkimeggojcgacaa.Kit Go.Proofs.Ytkimeggojcgacaa.Ltr Go.Proofs.Ytkimeggojcgacaa.Lmt Go.Proofs.Ytkimeggojcgacaa.Wr Go.Proofs.Ytkimeggojcgacaa.Dk Go.Proofs.Ytkimeggojcgacaa.WalkA Go.Proofs.Ytkimeggojcgacaa.WalkB Go.Proofs.Ytkimeggojcgacaa.WalkC Go.Proofs.Ytkimeggojcgacaa.Begun
open Go.Proofs.Ytkimeggojcgacaa.State (cell_at free_at lt_at)
open Go.Proofs.Ytkimeggojcgacaa.PckWalkH (str str_size str_list str_back str_append)
open Go.Proofs.Ytkimeggojcgacaa.Same

set_option maxRecDepth 100000 in
set_option maxHeartbeats 4000000 in
theorem one_walk (s : ByteArray) (w : World) (hs : s.size ≤ 281474976710656) : Calls Try.prog 6 #[.string s] w fun e w' => e = .returned (.bool true) ∧ Below w.heap.size w w' := by
  go_enter Try.func6, Try.ntmps6
  go_wp2_with fail
  with_reducible refine (begun_true w).mono ?_
  rintro e w2 ⟨rfl, hb2⟩
  go_wp2_with fail
  with_reducible refine (dec_any s hs w2).mono ?_
  rintro e w3 ⟨x, z, rfl, hx, hb3, hcx⟩
  have hB3 := hb2.trans (hb3.mono hb2.size)
  rcases hcx with ⟨g, rfl, hsaid⟩ | ⟨g, rfl, rfl⟩
  · simp only [Lt.said, Prod.mk.injEq] at hsaid
    obtain ⟨e1, e2⟩ := hsaid
    have hm : May x.h x.es := by rw [e1, e2]; exact g.2
    have hbytes : str (lmtB x.h x.es) = s := by rw [e1, e2]; exact (back s g.1).symm
    clear e1 e2
    have tenx := ten_new w3 x
    have hbx : Below w3.heap.size w3 (w3.alloc (.cells (ltCs x).toArray 25)) := (Below.refl _ _).alloc (Nat.le_refl _) _
    have hltx : w3.heap.size < (w3.alloc (.cells (ltCs x).toArray 25)).heap.size := by simp
    obtain ⟨w4, hw4⟩ : ∃ w4, w3.alloc (.cells (ltCs x).toArray 25) = w4 := ⟨_, rfl⟩
    rw [hw4] at tenx hbx hltx
    have HX := hx.below hbx
    have henc := enc_yes HX hm
    rw [hbytes] at henc
    have hmay := fun w' (hb : Below w4.heap.size w4 w') => may_any (HX.below hb) true (by simp [hm])
    obtain ⟨⟨kx, fx, tx, tmx, ixx, pvx, cmx, okx, dx⟩, Ax, nx, cx, esx⟩ := x
    have c0 := tenx.c0
    have c1 := tenx.c1
    have c2 := tenx.c2
    have c3 := tenx.c3
    have c4 := tenx.c4
    have c5 := tenx.c5
    have c6 := tenx.c6
    have c7 := tenx.c7
    have c8 := tenx.c8
    have c9 := tenx.c9
    rw [Nat.zero_add] at c1 c2 c3 c4 c5 c6 c7 c8 c9
    simp only [ltCs] at hw4 c0 c1 c2 c3 c4 c5 c6 c7 c8 c9
    unfold ltV at henc hmay ⊢
    simp only at henc hmay ⊢
    have HW4 := Lib.hid hw4
    have HE := Lib.hid henc
    have HM := Lib.hid hmay
    have HB4 := Lib.hid (hB3.trans (hbx.mono hB3.size))
    have hss : (s.toList == s.toList) = true := by simp
    clear hw4 tenx hx hb2 hb3 hbx henc hmay hbytes hm HX hB3 g
    go_wp2_with fail
    rw [HW4.out]
    with_reducible refine HE.out.mono ?_
    rintro e w5 ⟨rfl, hb5⟩
    have d0 := (hb5.cell (p := ⟨w3.heap.size, 0, none⟩) hltx).trans c0
    have d1 := (hb5.cell (p := ⟨w3.heap.size, 1, none⟩) hltx).trans c1
    have d2 := (hb5.cell (p := ⟨w3.heap.size, 2, none⟩) hltx).trans c2
    have d3 := (hb5.cell (p := ⟨w3.heap.size, 3, none⟩) hltx).trans c3
    have d4 := (hb5.cell (p := ⟨w3.heap.size, 4, none⟩) hltx).trans c4
    have d5 := (hb5.cell (p := ⟨w3.heap.size, 5, none⟩) hltx).trans c5
    have d6 := (hb5.cell (p := ⟨w3.heap.size, 6, none⟩) hltx).trans c6
    have d7 := (hb5.cell (p := ⟨w3.heap.size, 7, none⟩) hltx).trans c7
    have d8 := (hb5.cell (p := ⟨w3.heap.size, 8, none⟩) hltx).trans c8
    have d9 := (hb5.cell (p := ⟨w3.heap.size, 9, none⟩) hltx).trans c9
    clear c0 c1 c2 c3 c4 c5 c6 c7 c8 c9
    have hlt5 := Nat.lt_of_lt_of_le hltx hb5.size
    go_wp2_with fail
    with_reducible refine (HM.out _ hb5).mono ?_
    rintro e w6 ⟨rfl, hb6⟩
    go_wp2
    go_ret
    exact ⟨rfl, (HB4.out.trans (hb5.mono HB4.out.size)).trans (hb6.mono (HB4.out.trans (hb5.mono HB4.out.size)).size)⟩
  · have hbx : Below w3.heap.size w3 (w3.alloc (.cells (ltCs zeroL).toArray 25)) := (Below.refl _ _).alloc (Nat.le_refl _) _
    have hsame := same_any (LAt.zero (w3.alloc (.cells (ltCs zeroL).toArray 25))) (LAt.zero _) true (by simp)
    obtain ⟨w4, hw4⟩ : ∃ w4, w3.alloc (.cells (ltCs zeroL).toArray 25) = w4 := ⟨_, rfl⟩
    rw [hw4] at hsame hbx
    have HW4 : Hid (w3.alloc (.cells #[.int .i64 0, .int .i64 0, .int .i64 0, .int .u64 0, .int .u64 0, .int .u64 0, .int .u64 0, .bool false, .slice none 0 0, .string ⟨#[]⟩] 25) = w4) := hw4
    have HS : Hid (Calls Try.prog 14 #[.agg #[.int .i64 0, .int .i64 0, .int .i64 0, .int .u64 0, .int .u64 0, .int .u64 0, .int .u64 0, .bool false, .slice none 0 0, .string ⟨#[]⟩], .agg #[.int .i64 0, .int .i64 0, .int .i64 0, .int .u64 0, .int .u64 0, .int .u64 0, .int .u64 0, .bool false, .slice none 0 0, .string ⟨#[]⟩]] w4 fun e w' => e = .returned (.bool true) ∧ Below w4.heap.size w4 w') := hsame
    have HB4 := Lib.hid (hB3.trans (hbx.mono hB3.size))
    unfold ltV zeroL zeroH
    simp only
    clear hw4 hsame hx hb2 hb3 hbx hB3 g
    go_wp2_with fail
    rw [HW4.out]
    with_reducible refine HS.out.mono ?_
    rintro e w5 ⟨rfl, hb5⟩
    go_wp2
    go_ret
    exact ⟨rfl, HB4.out.trans (hb5.mono HB4.out.size)⟩
end Go.Proofs.Ytkimeggojcgacaa.LawD
