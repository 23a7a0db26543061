/- What Check answers, the program's and the document's, walked. No statement is proved here. -/
import Derived.Test.YthaepkpmpnofgaaHPln
import Derived.Test.YthaepkpmpnofgaaHWtr
set_option linter.unusedVariables false
set_option linter.unusedSimpArgs false
namespace Go.Proofs.Ythaepkpmpnofgaa.PlnWalkA
open Go.RowKit Go.Proofs.Ythaepkpmpnofgaa.Kit Go.Proofs.Ythaepkpmpnofgaa.Stq Go.Proofs.Ythaepkpmpnofgaa.Pln
open Go.Proofs.Ythaepkpmpnofgaa.State (cell_at free_at lt_at)

set_option maxRecDepth 100000 in
set_option maxHeartbeats 1000000 in
theorem sound_any (pt : Int) (nm : ByteArray) (bg : Int) (hn : nm.size ≤ 9223372036854775807) (w : World) : Calls Try.prog 87 #[.agg #[.int .i64 pt, .string nm, .int .i64 bg]] w fun e w' => e = .returned (.bool (okS ⟨pt, nm, bg⟩)) ∧ Below w.heap.size w w' := by
  obtain ⟨b, hb⟩ : ∃ b, okS ⟨pt, nm, bg⟩ = b := ⟨_, rfl⟩
  have hd : (b = true ∧ 0 ≤ pt ∧ pt < 4 ∧ 1 ≤ (nm.size : Int) ∧ (nm.size : Int) ≤ 16 ∧ 1 ≤ bg ∧ bg ≤ 9) ∨ (b = false ∧ (pt < 0 ∨ (0 ≤ pt ∧ 4 ≤ pt) ∨ (0 ≤ pt ∧ pt < 4 ∧ ¬ 1 ≤ (nm.size : Int)) ∨ (0 ≤ pt ∧ pt < 4 ∧ 1 ≤ (nm.size : Int) ∧ ¬ (nm.size : Int) ≤ 16) ∨ (0 ≤ pt ∧ pt < 4 ∧ 1 ≤ (nm.size : Int) ∧ (nm.size : Int) ≤ 16 ∧ ¬ 1 ≤ bg) ∨ (0 ≤ pt ∧ pt < 4 ∧ 1 ≤ (nm.size : Int) ∧ (nm.size : Int) ≤ 16 ∧ 1 ≤ bg ∧ ¬ bg ≤ 9))) := by
    unfold okS at hb
    simp only at hb
    cases b
    · have := of_decide_eq_false hb
      right
      refine ⟨rfl, ?_⟩
      omega
    · have := of_decide_eq_true hb
      left
      refine ⟨rfl, ?_⟩
      omega
  rw [hb]
  clear hb
  have hbo : ∀ o, Below w.heap.size w (w.alloc o) := fun o => (Below.refl _ _).alloc (Nat.le_refl _) o
  rcases hd with ⟨rfl, h1, h2, h3, h4, h5, h6⟩ | ⟨rfl, h | ⟨h1, h2⟩ | ⟨h1, h2, h3⟩ | ⟨h1, h2, h3, h4⟩ | ⟨h1, h2, h3, h4, h5⟩ | ⟨h1, h2, h3, h4, h5, h6⟩⟩
  all_goals
    go_enter Try.func87, Try.ntmps87
    go_wp2
    go_ret
    exact ⟨rfl, hbo _⟩

set_option maxRecDepth 100000 in
set_option maxHeartbeats 1000000 in
theorem check_any {w : World} {A : Option Addr} {n c : Nat} {l : List Sp} (hr : RS w w.heap.size A n l) (h63 : n ≤ 9223372036854775807) (hnm : ∀ e ∈ l, e.nm.size ≤ 9223372036854775807) {z : Int} (hz : Hid (chk l = z)) :
    Calls Try.prog 61 #[.slice A n c] w fun e w' => e = .returned (.int .i64 z) ∧ Below w.heap.size w w' := by
  have hl := RS.len hr
  by_cases h1 : n < 1
  · obtain rfl : z = 44 := hz.out.symm.trans (chk_many (by omega))
    have h1' : (n : Int) < 1 := by omega
    clear hz hl
    go_enter Try.func61, Try.ntmps61
    go_wp2
    go_ret
    exact ⟨rfl, Below.refl _ _⟩
  · by_cases h64 : 64 < n
    · obtain rfl : z = 44 := hz.out.symm.trans (chk_many (by omega))
      have h1' : ¬ (n : Int) < 1 := by omega
      have h64' : 64 < (n : Int) := by omega
      clear hz hl
      go_enter Try.func61, Try.ntmps61
      go_wp2
      go_ret
      exact ⟨rfl, Below.refl _ _⟩
    · have h1' : ¬ (n : Int) < 1 := by omega
      have h64' : ¬ 64 < (n : Int) := by omega
      have HL := Lib.hid hl
      have HN := Lib.hid hnm
      clear hl hnm
      go_enter Try.func61, Try.ntmps61
      go_wp2
      go_loopw [15] (fun x wr => ∃ j : Nat, j ≤ n ∧ x = .int .i64 (j : Int) ∧ Below w.heap.size w wr ∧ Hid (∀ i, i < j → ∀ x, l[i]? = some x → okS x = true)) (fun x _ => n - (intOf x).toNat)
      case atStart => exact ⟨0, by omega, rfl, Below.refl _ _, fun i hi => absurd hi (by omega)⟩
      case round =>
        obtain ⟨j, hj, rfl, hbel, hall⟩ := hrel
        by_cases hjn : j < n
        · obtain ⟨bk, o, e, rfl, hbl, he, hthree⟩ := RS.at_ hr hjn
          have hfr := Three.below hthree hbel hbl
          have c0 := hfr.c0
          have c1 := hfr.c1
          have c2 := hfr.c2
          have hsz := HN.out e (List.mem_of_getElem? he)
          obtain ⟨pt, nm, bg⟩ := e
          simp only at c0 c1 c2 hsz
          have HE := Lib.hid he
          have HJ := Lib.hid hjn
          clear hfr hthree he
          have hbo : ∀ o, Below w.heap.size w (wr.alloc o) := fun o => hbel.alloc hbel.size _
          go_wp2_with fail
          with_reducible refine (sound_any pt nm bg hsz _).mono ?_
          rintro e w1 ⟨rfl, hb1⟩
          obtain ⟨b, hb⟩ : ∃ b, okS ⟨pt, nm, bg⟩ = b := ⟨_, rfl⟩
          have hB1 := (hbo (.cells #[.int .i64 pt, .string nm, .int .i64 bg] 44)).trans (hb1.mono (by simp; have := hbel.size; omega))
          rw [hb]
          have HB := Lib.hid hb
          clear hb hb1
          cases b
          · obtain rfl : z = 44 := hz.out.symm.trans (chk_one HE.out HB.out)
            go_wp2
            go_ret
            exact ⟨rfl, hB1⟩
          · go_wp2
            go_roundw
            case rel => exact ⟨j + 1, HJ.out, by go_num, hB1, first_more HE.out hall.out HB.out⟩
            case measure => have := HJ.out; simp [intOf]; omega
        · obtain rfl : j = n := by omega
          obtain rfl : z = 0 := hz.out.symm.trans (chk_all (by rw [HL.out]; omega) (by rw [HL.out]; omega) (by rw [HL.out]; exact hall.out))
          go_wp2
          go_ret
          exact ⟨rfl, hbel⟩
end Go.Proofs.Ythaepkpmpnofgaa.PlnWalkA
