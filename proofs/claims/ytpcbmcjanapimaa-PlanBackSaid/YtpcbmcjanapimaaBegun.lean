/- What each statement of layer 13 asks first, walked. No statement is proved here. -/
import Derived.Test.YtpcbmcjanapimaaWalkA
import Derived.Test.YtpcbmcjanapimaaWalkB
import Derived.Test.YtpcbmcjanapimaaWalkC
import Derived.Test.YtpcbmcjanapimaaWalkD
set_option linter.unusedVariables false
set_option linter.unusedSimpArgs false
namespace Go.Proofs.Ytpcbmcjanapimaa.Begun
open Go.RowKit Go.Proofs.Ytpcbmcjanapimaa.Kit Go.Proofs.Ytpcbmcjanapimaa.Rdr Go.Proofs.Ytpcbmcjanapimaa.Stq Go.Proofs.Ytpcbmcjanapimaa.Pln Go.Proofs.Ytpcbmcjanapimaa.Wtr Go.Proofs.Ytpcbmcjanapimaa.WalkA Go.Proofs.Ytpcbmcjanapimaa.WalkC
open Go.Proofs.Ytpcbmcjanapimaa.State (cell_at free_at lt_at)
open Go.Proofs.Ytpcbmcjanapimaa.Num (num wide)
open Go.Proofs.Ytpcbmcjanapimaa.PckWalkB (text bit)
open Go.Proofs.Ytpcbmcjanapimaa.PckWalkH (str str_list str_size)

def pay : Sp := ⟨2, ⟨#[112, 97, 121]⟩, 3⟩
theorem pay_bytes : planB [pay] = [1, 1, 1, 2, 1, 3, 112, 97, 121, 1, 3] := by
  have h1 : num 1 = [1, 1] := by simp [num, wide, Num.dig]
  have h2 : num 2 = [1, 2] := by simp [num, wide, Num.dig]
  have h3 : num 3 = [1, 3] := by simp [num, wide, Num.dig]
  have g1 : ([pay] : List Sp).length = 1 := rfl
  have g2 : u64 pay.pt = 2 := by decide
  have g3 : u64 pay.bg = 3 := by decide
  have g4 : pay.nm.size = 3 := rfl
  simp only [planB, spsB, List.flatMap_cons, List.flatMap_nil, spB, text, g1, g2, g3, g4, h1, h2, h3]
  rfl
theorem pay_chk : chk [pay] = 0 := by decide
theorem nil_chk : chk [] = 44 := by decide
/-- A list that lies in a world, in a later one. -/
theorem rs_later {w w' : World} {A : Option Addr} {n : Nat} {l : List Sp} (h : RS w w.heap.size A n l) (k : Below w.heap.size w w') : RS w' w'.heap.size A n l := (Kit.Reads.below h k).more k.size
set_option maxRecDepth 100000 in
set_option maxHeartbeats 1000000 in
theorem begun_true (w : World) : Calls Try.prog 8 #[] w fun e w' => e = .returned (.bool true) ∧ Below w.heap.size w w' := by
  have hrs : RS (w.alloc (.cells (spCs pay).toArray 52)) (w.heap.size + 1) (some ⟨w.heap.size, 0, none⟩) 1 [pay] := sp_new w pay 52
  have hb1 : Below w.heap.size w (w.alloc (.cells (spCs pay).toArray 52)) := (Below.refl _ _).alloc (Nat.le_refl _) _
  obtain ⟨w1, hw1⟩ : ∃ w1, w.alloc (.cells (spCs pay).toArray 52) = w1 := ⟨_, rfl⟩
  have hs1 : w.heap.size + 1 = w1.heap.size := by rw [← hw1]; simp
  rw [hw1, hs1] at hrs
  rw [hw1] at hb1
  have HW1 : Hid (w.alloc (.cells #[.int .i64 2, .string ⟨#[112, 97, 121]⟩, .int .i64 3] 52) = w1) := hw1
  have HS1 := Lib.hid hs1
  have hW := new_wrt w1
  obtain ⟨w2, hw2⟩ : ∃ w2, w1.alloc (.cells #[.slice none 0 0] 32) = w2 := ⟨_, rfl⟩
  rw [hw2] at hW
  have HW2 := Lib.hid hw2
  obtain ⟨L, hL⟩ : ∃ L, planB [pay] = L := ⟨_, rfl⟩
  have HL : Hid ([] ++ planB [pay] = L) := by
    have e1 : [] ++ planB [pay] = L := by rw [← hL]; rfl
    exact e1
  obtain ⟨S, hS⟩ : ∃ S, str L = S := ⟨_, rfl⟩
  have hsaid : (S.toList == [1, 1, 1, 2, 1, 3, 112, 97, 121, 1, 3]) = true := by rw [← hS, ← hL, pay_bytes, Lib.toList_data]; decide
  have HS := Lib.hid hS
  have hn1 : ∀ e ∈ [pay], e.nm.size ≤ 9223372036854775807 := by intro e he; rw [List.mem_singleton.1 he]; decide
  have hn0 : ∀ e ∈ ([] : List Sp), e.nm.size ≤ 9223372036854775807 := by intro e he; cases he
  have hc1 := Lib.hid pay_chk
  have hc0 := Lib.hid nil_chk
  clear hw1 hw2 hL hS
  go_enter Try.func8, Try.ntmps8
  go_wp2_with fail
  rw [HW1.out, HW2.out]
  try rw [HS1.out]
  with_reducible refine (write_any hW hrs (by decide) HL).mono ?_
  rintro e w3 ⟨rfl, hW3⟩
  have hr3 := rs_later hrs hW3.bel
  clear hW hrs
  go_wp2_with fail
  with_reducible refine (check_any hr3 (by decide) hn1 hc1).mono ?_
  rintro e w4 ⟨rfl, hb4⟩
  obtain ⟨v, hv⟩ := hW3.ex
  have hW4 : Wrt w1 w4 w1.heap.size L := ⟨⟨v, hv.below hb4⟩, Nat.le_refl _, hW3.bel.trans (hb4.mono hW3.bel.size)⟩
  clear hW3 hr3 hb4 hv
  go_wp2_with fail
  with_reducible refine (wrt_bytes hW4 HS).mono ?_
  rintro e w5 ⟨rfl, hW5⟩
  clear hW4
  go_wp2_with fail
  with_reducible refine (check_any (A := none) (n := 0) (l := []) (RS.nil _ _ _) (by decide) hn0 hc0).mono ?_
  rintro e w6 ⟨rfl, hb6⟩
  go_wp2
  go_ret
  exact ⟨rfl, (hb1.trans (hW5.bel.mono hb1.size)).trans (hb6.mono (by have := hb1.size; have := hW5.bel.size; omega))⟩
end Go.Proofs.Ytpcbmcjanapimaa.Begun
