/- What the document's Sync, Replace and Remove leave, walked. -/
import Derived.Test.YtmimpfccngihiaaDoorRefC
namespace Go.Proofs.YtmimpfccngihiaaDoor.RefD
open Go.RowKit Go.Proofs.YtmimpfccngihiaaDoor.Kit Go.Proofs.YtmimpfccngihiaaDoor.Blocks Go.Proofs.YtmimpfccngihiaaDoor.Model Go.Proofs.YtmimpfccngihiaaDoor.DskWalkA Go.Proofs.YtmimpfccngihiaaDoor.DskWalkC Go.Proofs.YtmimpfccngihiaaDoor.DskWalkD Go.Proofs.YtmimpfccngihiaaDoor.Ref Go.Proofs.YtmimpfccngihiaaDoor.RefB Go.Proofs.YtmimpfccngihiaaDoor.RefC

section
variable {w : World} {q : Nat} {m : M}
set_option maxRecDepth 100000 in
theorem rsync_off (n : Int) (h : RefAt w q m) (hoff : m.off = true) : Calls Tryd.prog 49 #[.pointer (some ⟨q, 0, none⟩), .int .i64 n] w (DoneR w q (10, m)) := by
  have hc := h.off
  have hlt := h.lt
  rw [hoff] at hc
  clear hoff
  go_enter Tryd.func49, Tryd.ntmps49
  go_wp2
  go_ret
  exact ⟨rfl, h, Only.refl _ _⟩
set_option maxRecDepth 100000 in
theorem rsync_none (n : Int) (h : RefAt w q m) (hoff : m.off = false) (hn : m.has n = false) : Calls Tryd.prog 49 #[.pointer (some ⟨q, 0, none⟩), .int .i64 n] w (DoneR w q (12, m)) := by
  have hc := h.off
  have hlt := h.lt
  rw [hoff] at hc
  have HN := Lib.hid hn
  clear hoff hn
  go_enter Tryd.func49, Tryd.ntmps49
  go_wp2_with fail
  refine (rhas_lit n h HN).mono ?_
  rintro e w1 ⟨rfl, rfl⟩
  go_wp2
  go_ret
  exact ⟨rfl, h, Only.refl _ _⟩
set_option maxRecDepth 100000 in
theorem rsync_dry (n : Int) (h : RefAt w q m) (hoff : m.off = false) (hn : m.has n = true) (h0 : m.fuel = 0) : Calls Tryd.prog 49 #[.pointer (some ⟨q, 0, none⟩), .int .i64 n] w (DoneR w q (10, m.dead)) := by
  have hc := h.off
  have hlt := h.lt
  rw [hoff] at hc
  have HN := Lib.hid hn
  have H0 := Lib.hid h0
  clear hoff hn h0
  go_enter Tryd.func49, Tryd.ntmps49
  go_wp2_with fail
  refine (rhas_lit n h HN).mono ?_
  rintro e w1 ⟨rfl, rfl⟩
  go_wp2_with fail
  refine (rstep_dry h H0.out).mono ?_
  rintro e w2 ⟨rfl, h2, ho2⟩
  go_wp2
  go_ret
  exact ⟨rfl, h2, ho2⟩
set_option maxRecDepth 100000 in
set_option maxHeartbeats 1000000 in
theorem rsync_ok (i : Nat) (h : RefAt w q m) (g : Fine m) (hi : i < 16) (hoff : m.off = false) (hn : m.has (i : Int) = true) (h0 : ¬ m.fuel = 0) : Calls Tryd.prog 49 #[.pointer (some ⟨q, 0, none⟩), .int .i64 (i : Int)] w (DoneR w q (0, m.burnt.set i (m.all i) [] true)) := by
  have hc := h.off
  have hlt := h.lt
  rw [hoff] at hc
  have HN := Lib.hid hn
  have H0 := Lib.hid h0
  have hthere := (has_in hn).2
  have hab : str (m.firm i) ++ str (m.soft i) = str (m.all i) := str_append _ _
  have hal := all_le g i
  have hsz : (str (m.firm i)).size + (str (m.soft i)).size ≤ 1048576 := by rw [str_size, str_size, ← List.length_append]; exact hal
  obtain ⟨a, ha⟩ : ∃ a, str (m.firm i) = a := ⟨_, rfl⟩
  obtain ⟨b, hb⟩ : ∃ b, str (m.soft i) = b := ⟨_, rfl⟩
  rw [ha, hb] at hab hsz
  have HA := Lib.hid ha
  have HB := Lib.hid hb
  have HAB := Lib.hid hab
  have HT := Lib.hid hthere
  have hnb : ¬ 9223372036854775807 < a.size + b.size := by omega
  clear hoff hn h0 ha hb hab hal hthere
  go_enter Tryd.func49, Tryd.ntmps49
  go_wp2_with fail
  refine (rhas_lit (i : Int) h HN).mono ?_
  rintro e w1 ⟨rfl, rfl⟩
  go_wp2_with fail
  refine (rstep_wet h g H0.out).mono ?_
  rintro e w2 ⟨rfl, h2, ho2⟩
  have hf2 := h2.firm hi
  have hs2 := h2.soft hi
  have hff := h2.free i
  have hfs := h2.free (16 + i)
  have hl2 := h2.lt
  have hba : str (m.burnt.firm i) = a := HA.out
  have hbb : str (m.burnt.soft i) = b := HB.out
  rw [hba] at hf2
  rw [hbb] at hs2
  clear hba hbb
  go_wp2_with fail
  go_region
  all_goals go_wp2
  all_goals go_ret
  all_goals (refine ⟨rfl, ?_, ho2.trans ((only_set w2 q _ _).trans (only_set _ q _ _)).drew⟩)
  all_goals
    rw [HAB.out]
    have h4 := RefAt.drew (RefAt.setSoft (RefAt.setFirm h2 hi (m.all i)) hi [])
    rw [set_set, set_firm, set_there] at h4
    rw [show m.burnt.there i = true from HT.out] at h4
    exact h4
theorem rsync_any (n : Int) (h : RefAt w q m) (g : Fine m) : Calls Tryd.prog 49 #[.pointer (some ⟨q, 0, none⟩), .int .i64 n] w (DoneR w q (m.sync n)) := by
  unfold M.sync
  by_cases hoff : m.off = true
  · rw [if_pos hoff]
    exact rsync_off n h hoff
  · rw [if_neg hoff]
    have hoff' : m.off = false := by simpa using hoff
    by_cases hn : m.has n = false
    · rw [if_pos hn]
      exact rsync_none n h hoff' hn
    · rw [if_neg hn]
      have hn' : m.has n = true := by simpa using hn
      by_cases hf : m.fuel = 0
      · rw [if_pos hf]
        exact rsync_dry n h hoff' hn' hf
      · rw [if_neg hf]
        have hin := (has_in hn').1
        have hni : ((n.toNat : Nat) : Int) = n := by omega
        have := rsync_ok n.toNat h g (by omega) hoff' (by rw [hni]; exact hn') hf
        rwa [hni] at this

/-! ### Remove -/
end
end Go.Proofs.YtmimpfccngihiaaDoor.RefD
