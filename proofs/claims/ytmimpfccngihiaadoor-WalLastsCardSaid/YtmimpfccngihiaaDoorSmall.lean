/- What the statements of layer 5 ask first, walked: texts that aren't too long in all; a record that is there behind a crash. -/
import Derived.Test.YtmimpfccngihiaaDoorSolo
import Derived.Test.YtmimpfccngihiaaDoorLogB
import Derived.Test.YtmimpfccngihiaaDoorLogC
set_option linter.unusedVariables false
set_option linter.unusedSimpArgs false
namespace Go.Proofs.YtmimpfccngihiaaDoor.Small
open Go.RowKit Go.Proofs.YtmimpfccngihiaaDoor.Kit Go.Proofs.YtmimpfccngihiaaDoor.Blocks Go.Proofs.YtmimpfccngihiaaDoor.Stuff Go.Proofs.YtmimpfccngihiaaDoor.Crc Go.Proofs.YtmimpfccngihiaaDoor.SumB Go.Proofs.YtmimpfccngihiaaDoor.Wal Go.Proofs.YtmimpfccngihiaaDoor.FrA Go.Proofs.YtmimpfccngihiaaDoor.FrC Go.Proofs.YtmimpfccngihiaaDoor.ScA Go.Proofs.YtmimpfccngihiaaDoor.ScB Go.Proofs.YtmimpfccngihiaaDoor.Frm Go.Proofs.YtmimpfccngihiaaDoor.Model Go.Proofs.YtmimpfccngihiaaDoor.Disk Go.Proofs.YtmimpfccngihiaaDoor.Ops Go.Proofs.YtmimpfccngihiaaDoor.Log Go.Proofs.YtmimpfccngihiaaDoor.LogB Go.Proofs.YtmimpfccngihiaaDoor.LogC Go.Proofs.YtmimpfccngihiaaDoor.Solo
open Go.Proofs.YtmimpfccngihiaaDoor.DskWalkC (str Got)

/-- Texts that aren't too long in all. -/
def Fair (l : List (List UInt8)) : Prop := weigh l ≤ 20000 ∧ l.length ≤ 200
instance (l : List (List UInt8)) : Decidable (Fair l) := inferInstanceAs (Decidable (_ ∧ _))
theorem Fair.recs {l : List (List UInt8)} (h : Fair l) : Recs l := fun x hx => by have := weigh_mem hx; have := h.1; omega
theorem Fair.frames {l : List (List UInt8)} (h : Fair l) : (Wal.frames l).length ≤ 21300 := by have := frames_short l; have := h.1; have := h.2; omega
theorem weigh_succ {l : List (List UInt8)} {k : Nat} (hk : k < l.length) : weigh (l.take (k + 1)) = weigh (l.take k) + l[k].length := by
  rw [List.take_succ_eq_append_getElem hk, weigh_append]
  simp [weigh]
theorem weigh_few {l : List (List UInt8)} (hx : ∀ x ∈ l, x.length ≤ 140737488355328) : ∀ k, k ≤ l.length → weigh (l.take k) ≤ 140737488355328 * k
  | 0, _ => by simp [weigh]
  | k + 1, h => by
    have h1 := weigh_few hx k (by omega)
    have h2 := hx _ (List.getElem_mem (show k < l.length by omega))
    rw [weigh_succ (by omega)]
    omega

set_option maxRecDepth 100000 in
set_option maxHeartbeats 1000000 in
theorem small_any (A : Option Addr) (n c : Nat) (l : List (List UInt8)) (w : World) (h : RS w A n l) (hn : n ≤ 9223372036854775807) (hx : ∀ x ∈ l, x.length ≤ 140737488355328) :
    Calls Tryd.prog 16 #[.slice A n c] w fun e w' => e = .returned (.bool (decide (Fair l))) ∧ w = w' := by
  have hl := texts_len h
  obtain ⟨b0, hb0⟩ : ∃ b0, decide (Fair l) = b0 := ⟨_, rfl⟩
  rw [hb0]
  have HB := Lib.hid hb0
  have HL := Lib.hid hl
  have HF := Lib.hid (weigh_few hx)
  clear hb0 hl
  go_enter Tryd.func16, Tryd.ntmps16
  go_wp2
  go_loop [3, 8] (fun s i => ∃ (k : Nat) (v : Int), k ≤ n ∧ i = .int .i64 (k : Int) ∧ s = .int .i64 v ∧ -9223372036854775808 ≤ v ∧ v ≤ 9223372036854775807 ∧ Hid (k ≤ 200 → v = (weigh (l.take k) : Int))) (fun _ i => n - (intOf i).toNat)
  case atStart => exact ⟨0, 0, by omega, rfl, rfl, by omega, by omega, fun _ => by simp [weigh]⟩
  case round =>
    obtain ⟨k, v, hk, rfl, rfl, hv0, hv1, hv⟩ := hrel
    by_cases hkn : k < n
    · have hkl : k < l.length := by rw [HL.out]; exact hkn
      obtain ⟨b, o, rfl, hb, hc⟩ := Reads.text h hkn hkl
      obtain ⟨x, hx'⟩ : ∃ x, l[k] = x := ⟨_, rfl⟩
      have hxl : x.length ≤ 140737488355328 := by rw [← hx']; exact hx _ (List.getElem_mem hkl)
      rw [hx'] at hc
      have hxs : (str x).size = x.length := rfl
      obtain ⟨X, hX⟩ : ∃ X, str x = X := ⟨_, rfl⟩
      rw [hX] at hc hxs
      have hbs := weigh_succ hkl
      rw [hx'] at hbs
      have HBS := Lib.hid hbs
      obtain ⟨v', hv'⟩ : ∃ v', wrap64 (v + (X.size : Int)) = v' := ⟨_, rfl⟩
      have hr : -9223372036854775808 ≤ v' ∧ v' ≤ 9223372036854775807 := by rw [← hv']; unfold wrap64; omega
      have hnext : Hid (k + 1 ≤ 200 → v' = (weigh (l.take (k + 1)) : Int)) := fun hk2 => by
        have h1 := hv.out (by omega)
        have h2 := HF.out k (by omega)
        rw [← hv', HBS.out, h1, hxs]
        unfold wrap64
        have : (weigh (l.take k) : Int) ≤ 140737488355328 * 200 := by omega
        omega
      have hr0 := hr.1
      have hr1 := hr.2
      clear hx' hX hbs hr
      go_wp2
      go_round
      case rel => exact ⟨k + 1, v', by omega, by go_num, by rw [← hv', hxs], hr0, hr1, hnext⟩
      case measure => simp [intOf]; omega
    · obtain rfl : k = n := by omega
      have hfull : l.take k = l := List.take_of_length_le (by rw [HL.out]; omega)
      by_cases h200 : k ≤ 200
      · have hvv : v = (weigh l : Int) := by
          have := hv.out h200
          rwa [hfull] at this
        have hki : (k : Int) ≤ 200 := by omega
        by_cases h2 : weigh l ≤ 20000
        · have hbt : b0 = true := by rw [← HB.out]; exact decide_eq_true ⟨h2, by rw [HL.out]; exact h200⟩
          have hvi : v ≤ 20000 := by omega
          subst hbt
          clear hvv h2 hv
          go_wp2
          go_ret
          exact ⟨rfl, rfl⟩
        · have hbf : b0 = false := by rw [← HB.out]; exact decide_eq_false fun k => h2 k.1
          have hvi : ¬ v ≤ 20000 := by omega
          subst hbf
          clear hvv h2 hv
          go_wp2
          go_ret
          exact ⟨rfl, rfl⟩
      · have hbf : b0 = false := by rw [← HB.out]; exact decide_eq_false fun k => h200 (by rw [← HL.out]; exact k.2)
        have hki : ¬ (k : Int) ≤ 200 := by omega
        subst hbf
        by_cases hvi : v ≤ 20000
        · go_wp2
          go_ret
          exact ⟨rfl, rfl⟩
        · go_wp2
          go_ret
          exact ⟨rfl, rfl⟩
end Go.Proofs.YtmimpfccngihiaaDoor.Small
