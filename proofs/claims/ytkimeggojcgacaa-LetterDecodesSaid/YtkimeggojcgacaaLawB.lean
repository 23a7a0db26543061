/- The walk of the statement that any bytes are decoded as the document has it. -/
import Derived.Test.YtkimeggojcgacaaBegun
import Derived.Test.YtkimeggojcgacaaWalkF
import Derived.Test.YtkimeggojcgacaaSame
set_option linter.unusedVariables false
set_option linter.unusedSimpArgs false
namespace Go.Proofs.Ytkimeggojcgacaa.LawB
open Go.RowKit Go.Proofs.Ytkimeggojcgacaa.Kit Go.Proofs.Ytkimeggojcgacaa.Ltr Go.Proofs.Ytkimeggojcgacaa.Lmt Go.Proofs.Ytkimeggojcgacaa.Wr Go.Proofs.Ytkimeggojcgacaa.Dk Go.Proofs.Ytkimeggojcgacaa.WalkA Go.Proofs.Ytkimeggojcgacaa.WalkB Go.Proofs.Ytkimeggojcgacaa.WalkC Go.Proofs.Ytkimeggojcgacaa.Begun
open Go.Proofs.Ytkimeggojcgacaa.State (cell_at free_at lt_at)
open Go.Proofs.Ytkimeggojcgacaa.PckWalkH (str str_size str_list str_back str_append)
open Go.Proofs.Ytkimeggojcgacaa.WalkF Go.Proofs.Ytkimeggojcgacaa.Same

set_option maxRecDepth 100000 in
set_option maxHeartbeats 4000000 in
theorem decodes_walk (s : ByteArray) (w : World) (hs : s.size ≤ 281474976710656) : Calls Try.prog 4 #[.string s] w fun e w' => e = .returned (.bool true) ∧ Below w.heap.size w w' := by
  by_cases hlong : 100000 < (s.size : Int)
  · go_enter Try.func4, Try.ntmps4
    go_wp2_with fail
    with_reducible refine (begun_true w).mono ?_
    rintro e w2 ⟨rfl, hb2⟩
    go_wp2
    go_ret
    exact ⟨rfl, hb2⟩
  · go_enter Try.func4, Try.ntmps4
    go_wp2_with fail
    with_reducible refine (begun_true w).mono ?_
    rintro e w2 ⟨rfl, hb2⟩
    go_wp2_with fail
    with_reducible refine (dec_any s hs w2).mono ?_
    rintro e w3 ⟨x, z, rfl, hx, hb3, hcx⟩
    have tenx := ten_new w3 x
    have hbx : Below w3.heap.size w3 (w3.alloc (.cells (ltCs x).toArray 25)) := (Below.refl _ _).alloc (Nat.le_refl _) _
    have hltx : w3.heap.size < (w3.alloc (.cells (ltCs x).toArray 25)).heap.size := by simp
    obtain ⟨w4, hw4⟩ : ∃ w4, w3.alloc (.cells (ltCs x).toArray 25) = w4 := ⟨_, rfl⟩
    rw [hw4] at tenx hbx hltx
    have HX := hx.below hbx
    obtain ⟨⟨kx, fx, tx, tmx, ixx, pvx, cmx, okx, dx⟩, Ax, nx, cx, esx⟩ := x
    have c0 := tenx.c0
    have c1 := tenx.c1
    have c2 := tenx.c2
    have c3 := tenx.c3
    have c4 := tenx.c4
    have c5 := tenx.c5
    have c6 := tenx.c6
    have c7 := tenx.c7
    have c8 := tenx.c8
    have c9 := tenx.c9
    rw [Nat.zero_add] at c1 c2 c3 c4 c5 c6 c7 c8 c9
    simp only [ltCs] at hw4 c0 c1 c2 c3 c4 c5 c6 c7 c8 c9
    have HW4 := Lib.hid hw4
    have HCX := Lib.hid hcx
    have HBX := Lib.hid ((hb2.trans (hb3.mono hb2.size)).trans (hbx.mono (hb2.trans (hb3.mono hb2.size)).size))
    unfold ltV
    simp only
    clear hw4 hcx tenx hx hb2 hb3 hbx
    go_wp2_with fail
    rw [HW4.out]
    with_reducible refine (rdec_any s hs w4).mono ?_
    rintro e w5 ⟨y, z', rfl, hy, hb5, hcy⟩
    have teny := ten_new w5 y
    have hby : Below w5.heap.size w5 (w5.alloc (.cells (ltCs y).toArray 25)) := (Below.refl _ _).alloc (Nat.le_refl _) _
    have hlty : w5.heap.size < (w5.alloc (.cells (ltCs y).toArray 25)).heap.size := by simp
    obtain ⟨w6, hw6⟩ : ∃ w6, w5.alloc (.cells (ltCs y).toArray 25) = w6 := ⟨_, rfl⟩
    rw [hw6] at teny hby hlty
    have hb6 := hb5.trans (hby.mono hb5.size)
    have HY := hy.below hby
    have HX6 := HX.below hb6
    obtain ⟨⟨ky, fy, ty, tmy, ixy, pvy, cmy, oky, dy⟩, Ay, ny, cy, esy⟩ := y
    have e0 := (hb5.cell (p := ⟨w3.heap.size, 0, none⟩) hltx).trans c0
    have e1 := (hb5.cell (p := ⟨w3.heap.size, 1, none⟩) hltx).trans c1
    have e2 := (hb5.cell (p := ⟨w3.heap.size, 2, none⟩) hltx).trans c2
    have e3 := (hb5.cell (p := ⟨w3.heap.size, 3, none⟩) hltx).trans c3
    have e4 := (hb5.cell (p := ⟨w3.heap.size, 4, none⟩) hltx).trans c4
    have e5 := (hb5.cell (p := ⟨w3.heap.size, 5, none⟩) hltx).trans c5
    have e6 := (hb5.cell (p := ⟨w3.heap.size, 6, none⟩) hltx).trans c6
    have e7 := (hb5.cell (p := ⟨w3.heap.size, 7, none⟩) hltx).trans c7
    have e8 := (hb5.cell (p := ⟨w3.heap.size, 8, none⟩) hltx).trans c8
    have e9 := (hb5.cell (p := ⟨w3.heap.size, 9, none⟩) hltx).trans c9
    have hlt5 := Nat.lt_of_lt_of_le hltx hb5.size
    simp only [ltCs] at hw6
    have hsaid : z = z' ∧ Lt.said ⟨⟨kx, fx, tx, tmx, ixx, pvx, cmx, okx, dx⟩, Ax, nx, cx, esx⟩ = Lt.said ⟨⟨ky, fy, ty, tmy, ixy, pvy, cmy, oky, dy⟩, Ay, ny, cy, esy⟩ := by
      rcases HCX.out with ⟨g, hz, hx⟩ | ⟨g, hz, hx⟩
      · rcases hcy with ⟨g', hz', hy⟩ | ⟨g', hz', hy⟩
        · exact ⟨hz.trans hz'.symm, hx.trans hy.symm⟩
        · exact absurd g g'
      · rcases hcy with ⟨g', hz', hy⟩ | ⟨g', hz', hy⟩
        · exact absurd g' g
        · exact ⟨hz.trans hz'.symm, by rw [hx, hy]⟩
    obtain ⟨rfl, hsd⟩ := hsaid
    have hsame := same_any HX6 HY true (by simp [hsd])
    unfold ltV at hsame ⊢
    simp only at hsame ⊢
    have HS := Lib.hid hsame
    have HW6 := Lib.hid hw6
    have HB6 := Lib.hid (HBX.out.trans (hb6.mono HBX.out.size))
    clear hw6 hsd hsame hcy teny hy hb5 hby hb6 HX HX6 HY HCX HBX
    clear c0 c1 c2 c3 c4 c5 c6 c7 c8 c9
    go_wp2_with fail
    rw [HW6.out]
    with_reducible refine HS.out.mono ?_
    rintro e w7 ⟨rfl, hb7⟩
    go_wp2
    go_ret
    exact ⟨rfl, HB6.out.trans (hb7.mono HB6.out.size)⟩
end Go.Proofs.Ytkimeggojcgacaa.LawB
