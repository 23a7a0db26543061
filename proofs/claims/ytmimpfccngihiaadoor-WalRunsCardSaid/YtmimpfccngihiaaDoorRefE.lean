/- What the document's Replace leaves, walked. -/
import Derived.Test.YtmimpfccngihiaaDoorRefD
namespace Go.Proofs.YtmimpfccngihiaaDoor.RefE
open Go.RowKit Go.Proofs.YtmimpfccngihiaaDoor.Kit Go.Proofs.YtmimpfccngihiaaDoor.Blocks Go.Proofs.YtmimpfccngihiaaDoor.Model Go.Proofs.YtmimpfccngihiaaDoor.DskWalkA Go.Proofs.YtmimpfccngihiaaDoor.DskWalkC Go.Proofs.YtmimpfccngihiaaDoor.DskWalkD Go.Proofs.YtmimpfccngihiaaDoor.Ref Go.Proofs.YtmimpfccngihiaaDoor.RefB Go.Proofs.YtmimpfccngihiaaDoor.RefC

section
variable {w : World} {q : Nat} {m : M}
set_option maxRecDepth 100000 in
theorem rreplace_no (n : Int) (s : ByteArray) (h : RefAt w q m) (hn : ¬ (0 ≤ n ∧ n < 16)) : Calls Tryd.prog 20 #[.pointer (some ⟨q, 0, none⟩), .int .i64 n, .string s] w (DoneR w q (1, m)) := by
  go_enter Tryd.func20, Tryd.ntmps20
  go_wp2_with fail
  refine (rno_yes n _ hn).mono ?_
  rintro e w1 ⟨rfl, rfl⟩
  go_wp2
  go_ret
  exact ⟨rfl, h, Only.refl _ _⟩
set_option maxRecDepth 100000 in
theorem rreplace_off (n : Int) (s : ByteArray) (h : RefAt w q m) (hn : 0 ≤ n ∧ n < 16) (hoff : m.off = true) : Calls Tryd.prog 20 #[.pointer (some ⟨q, 0, none⟩), .int .i64 n, .string s] w (DoneR w q (10, m)) := by
  have hc := h.off
  have hlt := h.lt
  rw [hoff] at hc
  clear hoff
  go_enter Tryd.func20, Tryd.ntmps20
  go_wp2_with fail
  refine (rno_no n _ hn).mono ?_
  rintro e w1 ⟨rfl, rfl⟩
  go_wp2
  go_ret
  exact ⟨rfl, h, Only.refl _ _⟩
set_option maxRecDepth 100000 in
set_option maxHeartbeats 2000000 in
theorem rreplace_full (i : Nat) (s : ByteArray) (h : RefAt w q m) (g : Fine m) (hi : i < 16) (hoff : m.off = false) (hsz : s.size ≤ 281474976710656) (hf : m.room + m.len i < m.used + s.size) : Calls Tryd.prog 20 #[.pointer (some ⟨q, 0, none⟩), .int .i64 (i : Int), .string s] w (DoneR w q (11, m)) := by
  have hc := h.off
  have hlt := h.lt
  have hrm := h.room
  have hu := g.used
  have hr := g.room
  have hl := len_le_used m hi
  have hn : 0 ≤ (i : Int) ∧ (i : Int) < 16 := by omega
  have HN := Lib.hid hn
  have hfi := h.firm hi
  have hso := h.soft hi
  have hab : (str (m.firm i)).size + (str (m.soft i)).size = m.len i := by rw [str_size, str_size]; rfl
  rw [hoff] at hc
  have hused := rused_any (h.below ((Below.refl w.heap.size w).drew)) g
  obtain ⟨R, hR⟩ : ∃ R, m.room = R := ⟨_, rfl⟩
  obtain ⟨U, hU⟩ : ∃ U, m.used = U := ⟨_, rfl⟩
  obtain ⟨a, ha⟩ : ∃ a, str (m.firm i) = a := ⟨_, rfl⟩
  obtain ⟨b, hb⟩ : ∃ b, str (m.soft i) = b := ⟨_, rfl⟩
  rw [ha, hb] at hab
  rw [hR, hU, ← hab] at hf
  rw [hU, ← hab] at hl
  rw [hR, hU] at hu
  rw [hR] at hrm hr
  rw [hU] at hused
  rw [ha] at hfi
  rw [hb] at hso
  have hgb : decide ((R : Int) < (U : Int) - (a.size : Int) - (b.size : Int) + (s.size : Int)) = true := decide_eq_true (by omega)
  have hw1 : IntKind.i64.wrap ((U : Int) - (a.size : Int)) = (U : Int) - (a.size : Int) := IntWalk.i64_in _ (by omega)
  have hw2 : IntKind.i64.wrap ((U : Int) - (a.size : Int) - (b.size : Int)) = (U : Int) - (a.size : Int) - (b.size : Int) := IntWalk.i64_in _ (by omega)
  have hw3 : IntKind.i64.wrap ((U : Int) - (a.size : Int) - (b.size : Int) + (s.size : Int)) = (U : Int) - (a.size : Int) - (b.size : Int) + (s.size : Int) := IntWalk.i64_in _ (by omega)
  have HU := Lib.hid hused
  have HG := Lib.hid hgb
  have hi0 : (0 : Int) ≤ (i : Int) := by omega
  have hi1 : (i : Int) < 16 := by omega
  clear hused hgb hR hU ha hb hab hoff hf hu hr hl hsz hn
  go_enter Tryd.func20, Tryd.ntmps20
  go_wp2_with fail
  refine (rno_no (i : Int) _ HN.out).mono ?_
  rintro e w1 ⟨rfl, rfl⟩
  go_wp2_with fail
  go_region_held3 (fun w' => w'.cell? ⟨q, 48, none⟩ = some (.int .i64 (R : Int)) ∧ w'.cell? ⟨q, i, none⟩ = some (.string a) ∧ w'.cell? ⟨q, 16 + i, none⟩ = some (.string b))
    (first
      | exact ⟨hrm, hfi, hso⟩
      | exact ⟨(hBb.cell (p := ⟨q, 48, none⟩) hlt).trans hrm, (hBb.cell (p := ⟨q, i, none⟩) hlt).trans hfi, (hBb.cell (p := ⟨q, 16 + i, none⟩) hlt).trans hso⟩)
    (first
      | (go_at_call 46
         refine HU.out.mono ?_
         rintro e wA ⟨rfl, hBb⟩))
  all_goals have hgt := of_decide_eq_true HG.out
  all_goals go_wp2
  all_goals go_ret
  all_goals (have hb1 := ((Below.refl w.heap.size w).drew).trans hBb)
  all_goals exact ⟨rfl, h.below hb1, Only.of_below hb1⟩
set_option maxRecDepth 100000 in
set_option maxHeartbeats 2000000 in
theorem rreplace_dry (i : Nat) (s : ByteArray) (h : RefAt w q m) (g : Fine m) (hi : i < 16) (hoff : m.off = false) (hsz : s.size ≤ 281474976710656) (hf : ¬ m.room + m.len i < m.used + s.size) (h0 : m.fuel = 0) : Calls Tryd.prog 20 #[.pointer (some ⟨q, 0, none⟩), .int .i64 (i : Int), .string s] w (DoneR w q (10, m.dead)) := by
  have H0 := Lib.hid h0
  clear h0
  have hc := h.off
  have hlt := h.lt
  have hrm := h.room
  have hu := g.used
  have hr := g.room
  have hl := len_le_used m hi
  have hn : 0 ≤ (i : Int) ∧ (i : Int) < 16 := by omega
  have HN := Lib.hid hn
  have hfi := h.firm hi
  have hso := h.soft hi
  have hab : (str (m.firm i)).size + (str (m.soft i)).size = m.len i := by rw [str_size, str_size]; rfl
  rw [hoff] at hc
  have hused := rused_any (h.below ((Below.refl w.heap.size w).drew)) g
  obtain ⟨R, hR⟩ : ∃ R, m.room = R := ⟨_, rfl⟩
  obtain ⟨U, hU⟩ : ∃ U, m.used = U := ⟨_, rfl⟩
  obtain ⟨a, ha⟩ : ∃ a, str (m.firm i) = a := ⟨_, rfl⟩
  obtain ⟨b, hb⟩ : ∃ b, str (m.soft i) = b := ⟨_, rfl⟩
  rw [ha, hb] at hab
  rw [hR, hU, ← hab] at hf
  rw [hU, ← hab] at hl
  rw [hR, hU] at hu
  rw [hR] at hrm hr
  rw [hU] at hused
  rw [ha] at hfi
  rw [hb] at hso
  have hgb : decide ((R : Int) < (U : Int) - (a.size : Int) - (b.size : Int) + (s.size : Int)) = false := decide_eq_false (by omega)
  have hw1 : IntKind.i64.wrap ((U : Int) - (a.size : Int)) = (U : Int) - (a.size : Int) := IntWalk.i64_in _ (by omega)
  have hw2 : IntKind.i64.wrap ((U : Int) - (a.size : Int) - (b.size : Int)) = (U : Int) - (a.size : Int) - (b.size : Int) := IntWalk.i64_in _ (by omega)
  have hw3 : IntKind.i64.wrap ((U : Int) - (a.size : Int) - (b.size : Int) + (s.size : Int)) = (U : Int) - (a.size : Int) - (b.size : Int) + (s.size : Int) := IntWalk.i64_in _ (by omega)
  have HU := Lib.hid hused
  have HG := Lib.hid hgb
  have hi0 : (0 : Int) ≤ (i : Int) := by omega
  have hi1 : (i : Int) < 16 := by omega
  clear hused hgb hR hU ha hb hab hoff hf hu hr hl hsz hn
  go_enter Tryd.func20, Tryd.ntmps20
  go_wp2_with fail
  refine (rno_no (i : Int) _ HN.out).mono ?_
  rintro e w1 ⟨rfl, rfl⟩
  go_wp2_with fail
  go_region_held3 (fun w' => w'.cell? ⟨q, 48, none⟩ = some (.int .i64 (R : Int)) ∧ w'.cell? ⟨q, i, none⟩ = some (.string a) ∧ w'.cell? ⟨q, 16 + i, none⟩ = some (.string b))
    (first
      | exact ⟨hrm, hfi, hso⟩
      | exact ⟨(hBb.cell (p := ⟨q, 48, none⟩) hlt).trans hrm, (hBb.cell (p := ⟨q, i, none⟩) hlt).trans hfi, (hBb.cell (p := ⟨q, 16 + i, none⟩) hlt).trans hso⟩)
    (first
      | (go_at_call 46
         refine HU.out.mono ?_
         rintro e wA ⟨rfl, hBb⟩))
  all_goals have hgt := of_decide_eq_false HG.out
  all_goals go_wp2_with fail
  all_goals (have hb1 := ((Below.refl w.heap.size w).drew).trans hBb)
  all_goals (refine (rstep_dry (h.below hb1) H0.out).mono ?_)
  all_goals rintro e w2 ⟨rfl, h2, ho2⟩
  all_goals go_wp2
  all_goals go_ret
  all_goals exact ⟨rfl, h2, (Only.of_below hb1).trans ho2⟩
set_option maxRecDepth 100000 in
set_option maxHeartbeats 2000000 in
theorem rreplace_ok (i : Nat) (s : ByteArray) (h : RefAt w q m) (g : Fine m) (hi : i < 16) (hoff : m.off = false) (hsz : s.size ≤ 281474976710656) (hf : ¬ m.room + m.len i < m.used + s.size) (h0 : ¬ m.fuel = 0) : Calls Tryd.prog 20 #[.pointer (some ⟨q, 0, none⟩), .int .i64 (i : Int), .string s] w (DoneR w q (0, m.burnt.set i s.data.toList [] true)) := by
  have H0 := Lib.hid h0
  clear h0
  have hc := h.off
  have hlt := h.lt
  have hrm := h.room
  have hu := g.used
  have hr := g.room
  have hl := len_le_used m hi
  have hn : 0 ≤ (i : Int) ∧ (i : Int) < 16 := by omega
  have HN := Lib.hid hn
  have hfi := h.firm hi
  have hso := h.soft hi
  have hab : (str (m.firm i)).size + (str (m.soft i)).size = m.len i := by rw [str_size, str_size]; rfl
  rw [hoff] at hc
  have hused := rused_any (h.below ((Below.refl w.heap.size w).drew)) g
  obtain ⟨R, hR⟩ : ∃ R, m.room = R := ⟨_, rfl⟩
  obtain ⟨U, hU⟩ : ∃ U, m.used = U := ⟨_, rfl⟩
  obtain ⟨a, ha⟩ : ∃ a, str (m.firm i) = a := ⟨_, rfl⟩
  obtain ⟨b, hb⟩ : ∃ b, str (m.soft i) = b := ⟨_, rfl⟩
  rw [ha, hb] at hab
  rw [hR, hU, ← hab] at hf
  rw [hU, ← hab] at hl
  rw [hR, hU] at hu
  rw [hR] at hrm hr
  rw [hU] at hused
  rw [ha] at hfi
  rw [hb] at hso
  have hgb : decide ((R : Int) < (U : Int) - (a.size : Int) - (b.size : Int) + (s.size : Int)) = false := decide_eq_false (by omega)
  have hw1 : IntKind.i64.wrap ((U : Int) - (a.size : Int)) = (U : Int) - (a.size : Int) := IntWalk.i64_in _ (by omega)
  have hw2 : IntKind.i64.wrap ((U : Int) - (a.size : Int) - (b.size : Int)) = (U : Int) - (a.size : Int) - (b.size : Int) := IntWalk.i64_in _ (by omega)
  have hw3 : IntKind.i64.wrap ((U : Int) - (a.size : Int) - (b.size : Int) + (s.size : Int)) = (U : Int) - (a.size : Int) - (b.size : Int) + (s.size : Int) := IntWalk.i64_in _ (by omega)
  have HU := Lib.hid hused
  have HG := Lib.hid hgb
  have hi0 : (0 : Int) ≤ (i : Int) := by omega
  have hi1 : (i : Int) < 16 := by omega
  clear hused hgb hR hU ha hb hab hoff hf hu hr hl hsz hn
  go_enter Tryd.func20, Tryd.ntmps20
  go_wp2_with fail
  refine (rno_no (i : Int) _ HN.out).mono ?_
  rintro e w1 ⟨rfl, rfl⟩
  go_wp2_with fail
  go_region_held3 (fun w' => w'.cell? ⟨q, 48, none⟩ = some (.int .i64 (R : Int)) ∧ w'.cell? ⟨q, i, none⟩ = some (.string a) ∧ w'.cell? ⟨q, 16 + i, none⟩ = some (.string b))
    (first
      | exact ⟨hrm, hfi, hso⟩
      | exact ⟨(hBb.cell (p := ⟨q, 48, none⟩) hlt).trans hrm, (hBb.cell (p := ⟨q, i, none⟩) hlt).trans hfi, (hBb.cell (p := ⟨q, 16 + i, none⟩) hlt).trans hso⟩)
    (first
      | (go_at_call 46
         refine HU.out.mono ?_
         rintro e wA ⟨rfl, hBb⟩))
  all_goals have hgt := of_decide_eq_false HG.out
  all_goals go_wp2_with fail
  all_goals (have hb1 := ((Below.refl w.heap.size w).drew).trans hBb)
  all_goals (refine (rstep_wet (h.below hb1) g H0.out).mono ?_)
  all_goals rintro e w2 ⟨rfl, h2, ho2⟩
  all_goals have hf2 := h2.firm hi
  all_goals have hs2 := h2.soft hi
  all_goals have ht2 := h2.there hi
  all_goals have hff := h2.free i
  all_goals have hfs := h2.free (16 + i)
  all_goals have hft := h2.free (32 + i)
  all_goals have hl2 := h2.lt
  all_goals clear hw1 hw2 hw3
  all_goals go_wp2
  all_goals go_ret
  all_goals (refine ⟨rfl, ?_, (Only.of_below hb1).trans (ho2.trans (((only_set w2 q _ _).trans (only_set _ q _ _)).trans (only_set _ q _ _)))⟩)
  all_goals
    have h4 := RefAt.setThere (RefAt.setSoft (RefAt.setFirm h2 hi s.data.toList) hi []) hi true
    rw [set_set, set_set, set_firm, set_soft, set_firm, str_self] at h4
    exact h4
theorem rreplace_any (n : Int) (s : ByteArray) (h : RefAt w q m) (g : Fine m) (hsz : s.size ≤ 281474976710656) : Calls Tryd.prog 20 #[.pointer (some ⟨q, 0, none⟩), .int .i64 n, .string s] w (DoneR w q (m.replace n s.data.toList)) := by
  have hs : s.data.toList.length = s.size := by rw [Lib.size_eq]
  unfold M.replace
  rw [hs]
  by_cases hn : 0 ≤ n ∧ n < 16
  · rw [if_neg (by simpa using hn)]
    have hni : ((n.toNat : Nat) : Int) = n := by omega
    by_cases hoff : m.off = true
    · rw [if_pos hoff]
      exact rreplace_off n s h hn hoff
    · rw [if_neg hoff]
      have hoff' : m.off = false := by simpa using hoff
      by_cases hf : m.room + m.len n.toNat < m.used + s.size
      · rw [if_pos hf]
        have := rreplace_full n.toNat s h g (by omega) hoff' hsz hf
        rwa [hni] at this
      · rw [if_neg hf]
        by_cases h0 : m.fuel = 0
        · rw [if_pos h0]
          have := rreplace_dry n.toNat s h g (by omega) hoff' hsz hf h0
          rwa [hni] at this
        · rw [if_neg h0]
          have := rreplace_ok n.toNat s h g (by omega) hoff' hsz hf h0
          rwa [hni] at this
  · rw [if_pos hn]
    exact rreplace_no n s h hn
end
end Go.Proofs.YtmimpfccngihiaaDoor.RefE
