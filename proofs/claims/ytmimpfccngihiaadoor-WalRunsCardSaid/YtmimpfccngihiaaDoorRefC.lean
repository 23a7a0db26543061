/- What the document's Append leaves, walked. -/
import Derived.Test.YtmimpfccngihiaaDoorRefB
import Derived.Deep.RegionHeld3
import Derived.BigRegion
namespace Go.Proofs.YtmimpfccngihiaaDoor.RefC
open Go.RowKit Go.Proofs.YtmimpfccngihiaaDoor.Kit Go.Proofs.YtmimpfccngihiaaDoor.Blocks Go.Proofs.YtmimpfccngihiaaDoor.Model Go.Proofs.YtmimpfccngihiaaDoor.DskWalkA Go.Proofs.YtmimpfccngihiaaDoor.DskWalkC Go.Proofs.YtmimpfccngihiaaDoor.DskWalkD Go.Proofs.YtmimpfccngihiaaDoor.Ref Go.Proofs.YtmimpfccngihiaaDoor.RefB

theorem set_set (m : M) (i : Nat) (a a' b b' : List UInt8) (t t' : Bool) : (m.set i a b t).set i a' b' t' = m.set i a' b' t' := by
  simp only [M.set, M.mk.injEq, true_and]
  refine ⟨?_, ?_, ?_⟩ <;> (funext j; split <;> rfl)
theorem set_firm (m : M) (i : Nat) (a b : List UInt8) (t : Bool) : (m.set i a b t).firm i = a := by simp [M.set]
theorem set_soft (m : M) (i : Nat) (a b : List UInt8) (t : Bool) : (m.set i a b t).soft i = b := by simp [M.set]
theorem set_there (m : M) (i : Nat) (a b : List UInt8) (t : Bool) : (m.set i a b t).there i = t := by simp [M.set]
section
variable {w w' : World} {q : Nat} {m : M}
theorem RefAt.drew (h : RefAt w q m) : RefAt w.drew q m := h
theorem RefAt.setFirm (h : RefAt w q m) {i : Nat} (hi : i < 16) (a : List UInt8) : RefAt (w.setCell ⟨q, i, none⟩ (.string (str a))) q (m.set i a (m.soft i) (m.there i)) := by
  refine h.set i _ _ (by unfold cellOf; simp [hi, M.set]) fun k hk hne => ?_
  unfold cellOf M.set
  simp only [hne, if_false]
  repeat' split
  all_goals first | rfl | omega | (rename_i e; simp only [e])
theorem RefAt.setSoft (h : RefAt w q m) {i : Nat} (hi : i < 16) (b : List UInt8) : RefAt (w.setCell ⟨q, 16 + i, none⟩ (.string (str b))) q (m.set i (m.firm i) b (m.there i)) := by
  refine h.set (16 + i) _ _ (by unfold cellOf; rw [if_neg (by omega), if_pos (by omega), Nat.add_sub_cancel_left]; simp [M.set]) fun k hk hne => ?_
  unfold cellOf M.set
  simp only []
  repeat' split
  all_goals first | rfl | omega | (rename_i e; simp only [e])
theorem RefAt.setThere (h : RefAt w q m) {i : Nat} (hi : i < 16) (t : Bool) : RefAt (w.setCell ⟨q, 32 + i, none⟩ (.bool t)) q (m.set i (m.firm i) (m.soft i) t) := by
  refine h.set (32 + i) _ _ (by unfold cellOf; rw [if_neg (by omega), if_neg (by omega), if_pos (by omega), Nat.add_sub_cancel_left]; simp [M.set]) fun k hk hne => ?_
  unfold cellOf M.set
  simp only []
  repeat' split
  all_goals first | rfl | omega | (rename_i e; simp only [e])
end

/-- What a call on the document's disk leaves. -/
def DoneR (w : World) (q : Nat) (r : Int × M) (e : Ending) (w' : World) : Prop := e = .returned (.int .i64 r.1) ∧ RefAt w' q r.2 ∧ Only (fun k => k = q) w w'
section
variable {w : World} {q : Nat} {m : M}
set_option maxRecDepth 100000 in
theorem rappend_no (n : Int) (s : ByteArray) (h : RefAt w q m) (hn : ¬ (0 ≤ n ∧ n < 16)) : Calls Tryd.prog 52 #[.pointer (some ⟨q, 0, none⟩), .int .i64 n, .string s] w (DoneR w q (1, m)) := by
  go_enter Tryd.func52, Tryd.ntmps52
  go_wp2_with fail
  refine (rno_yes n _ hn).mono ?_
  rintro e w1 ⟨rfl, rfl⟩
  go_wp2
  go_ret
  exact ⟨rfl, h, Only.refl _ _⟩
set_option maxRecDepth 100000 in
theorem rappend_off (n : Int) (s : ByteArray) (h : RefAt w q m) (hn : 0 ≤ n ∧ n < 16) (hoff : m.off = true) : Calls Tryd.prog 52 #[.pointer (some ⟨q, 0, none⟩), .int .i64 n, .string s] w (DoneR w q (10, m)) := by
  have hc := h.off
  have hlt := h.lt
  rw [hoff] at hc
  clear hoff
  go_enter Tryd.func52, Tryd.ntmps52
  go_wp2_with fail
  refine (rno_no n _ hn).mono ?_
  rintro e w1 ⟨rfl, rfl⟩
  go_wp2
  go_ret
  exact ⟨rfl, h, Only.refl _ _⟩
set_option maxRecDepth 100000 in
set_option maxHeartbeats 1000000 in
theorem rappend_full (n : Int) (s : ByteArray) (h : RefAt w q m) (g : Fine m) (hn : 0 ≤ n ∧ n < 16) (hoff : m.off = false) (hsz : s.size ≤ 281474976710656) (hf : m.room < m.used + s.size) : Calls Tryd.prog 52 #[.pointer (some ⟨q, 0, none⟩), .int .i64 n, .string s] w (DoneR w q (11, m)) := by
  have hc := h.off
  have hlt := h.lt
  have hrm := h.room
  have hu := g.used
  have hr := g.room
  rw [hoff] at hc
  have hgb : decide ((m.room : Int) < (m.used : Int) + (s.size : Int)) = true := decide_eq_true (by omega)
  have hw1 : IntKind.i64.wrap ((m.used : Int) + (s.size : Int)) = (m.used : Int) + (s.size : Int) := IntWalk.i64_in _ (by omega)
  have hused := rused_any (h.below ((Below.refl w.heap.size w).drew)) g
  obtain ⟨R, hR⟩ : ∃ R, m.room = R := ⟨_, rfl⟩
  obtain ⟨U, hU⟩ : ∃ U, m.used = U := ⟨_, rfl⟩
  rw [hR] at hrm hgb
  rw [hU] at hgb hw1 hused
  have HU := Lib.hid hused
  have HG := Lib.hid hgb
  clear hused hgb hR hU hoff hf hu hr hsz
  go_enter Tryd.func52, Tryd.ntmps52
  go_wp2_with fail
  refine (rno_no n _ hn).mono ?_
  rintro e w1 ⟨rfl, rfl⟩
  go_wp2_with fail
  go_region_held3 (fun w' => w'.cell? ⟨q, 48, none⟩ = some (.int .i64 (R : Int)))
    (first
      | exact hrm
      | exact (hBb.cell (p := ⟨q, 48, none⟩) hlt).trans hrm)
    (first
      | (go_at_call 46
         refine HU.out.mono ?_
         rintro e wA ⟨rfl, hBb⟩))
  all_goals have hgt := of_decide_eq_true HG.out
  all_goals go_wp2
  all_goals go_ret
  all_goals (have hb1 := ((Below.refl w.heap.size w).drew).trans hBb)
  all_goals exact ⟨rfl, h.below hb1, Only.of_below hb1⟩
set_option maxRecDepth 100000 in
set_option maxHeartbeats 1000000 in
theorem rappend_dry (n : Int) (s : ByteArray) (h : RefAt w q m) (g : Fine m) (hn : 0 ≤ n ∧ n < 16) (hoff : m.off = false) (hsz : s.size ≤ 281474976710656) (hf : ¬ m.room < m.used + s.size) (h0 : m.fuel = 0) : Calls Tryd.prog 52 #[.pointer (some ⟨q, 0, none⟩), .int .i64 n, .string s] w (DoneR w q (10, m.dead)) := by
  have H0 := Lib.hid h0
  clear h0
  have hc := h.off
  have hlt := h.lt
  have hrm := h.room
  have hu := g.used
  have hr := g.room
  rw [hoff] at hc
  have hgb : decide ((m.room : Int) < (m.used : Int) + (s.size : Int)) = false := decide_eq_false (by omega)
  have hw1 : IntKind.i64.wrap ((m.used : Int) + (s.size : Int)) = (m.used : Int) + (s.size : Int) := IntWalk.i64_in _ (by omega)
  have hused := rused_any (h.below ((Below.refl w.heap.size w).drew)) g
  obtain ⟨R, hR⟩ : ∃ R, m.room = R := ⟨_, rfl⟩
  obtain ⟨U, hU⟩ : ∃ U, m.used = U := ⟨_, rfl⟩
  rw [hR] at hrm hgb
  rw [hU] at hgb hw1 hused
  have HU := Lib.hid hused
  have HG := Lib.hid hgb
  clear hused hgb hR hU hoff hf hu hr hsz
  go_enter Tryd.func52, Tryd.ntmps52
  go_wp2_with fail
  refine (rno_no n _ hn).mono ?_
  rintro e w1 ⟨rfl, rfl⟩
  go_wp2_with fail
  go_region_held3 (fun w' => w'.cell? ⟨q, 48, none⟩ = some (.int .i64 (R : Int)))
    (first
      | exact hrm
      | exact (hBb.cell (p := ⟨q, 48, none⟩) hlt).trans hrm)
    (first
      | (go_at_call 46
         refine HU.out.mono ?_
         rintro e wA ⟨rfl, hBb⟩))
  all_goals have hgt := of_decide_eq_false HG.out
  all_goals go_wp2_with fail
  all_goals (have hb1 := ((Below.refl w.heap.size w).drew).trans hBb)
  all_goals (refine (rstep_dry (h.below hb1) H0.out).mono ?_)
  all_goals rintro e w2 ⟨rfl, h2, ho2⟩
  all_goals go_wp2
  all_goals go_ret
  all_goals exact ⟨rfl, h2, (Only.of_below hb1).trans ho2⟩
set_option maxRecDepth 100000 in
set_option maxHeartbeats 2000000 in
theorem rappend_ok (i : Nat) (s : ByteArray) (h : RefAt w q m) (g : Fine m) (hi : i < 16) (hoff : m.off = false) (hsz : s.size ≤ 281474976710656) (hf : ¬ m.room < m.used + s.size) (h0 : ¬ m.fuel = 0) : Calls Tryd.prog 52 #[.pointer (some ⟨q, 0, none⟩), .int .i64 (i : Int), .string s] w (DoneR w q (0, m.burnt.set i (m.firm i) (m.soft i ++ s.data.toList) true)) := by
  have H0 := Lib.hid h0
  have hn : 0 ≤ (i : Int) ∧ (i : Int) < 16 := by omega
  have HN := Lib.hid hn
  have hl1 := len_le_used m hi
  have hbs : (str (m.soft i)).size + s.size ≤ 1048576 := by rw [str_size]; have := g.room; unfold M.len at hl1; omega
  have hap : str (m.soft i) ++ s = str (m.soft i ++ s.data.toList) := by
    conv => lhs; rw [← str_self s]
    exact str_append _ _
  obtain ⟨b, hb⟩ : ∃ b, str (m.soft i) = b := ⟨_, rfl⟩
  rw [hb] at hbs hap
  have HB := Lib.hid hb
  have HAP := Lib.hid hap
  have hnb : ¬ 9223372036854775807 < b.size + s.size := by omega
  clear h0 hn hl1 hb hap
  have hc := h.off
  have hlt := h.lt
  have hrm := h.room
  have hu := g.used
  have hr := g.room
  rw [hoff] at hc
  have hgb : decide ((m.room : Int) < (m.used : Int) + (s.size : Int)) = false := decide_eq_false (by omega)
  have hw1 : IntKind.i64.wrap ((m.used : Int) + (s.size : Int)) = (m.used : Int) + (s.size : Int) := IntWalk.i64_in _ (by omega)
  have hused := rused_any (h.below ((Below.refl w.heap.size w).drew)) g
  obtain ⟨R, hR⟩ : ∃ R, m.room = R := ⟨_, rfl⟩
  obtain ⟨U, hU⟩ : ∃ U, m.used = U := ⟨_, rfl⟩
  rw [hR] at hrm hgb
  rw [hU] at hgb hw1 hused
  have HU := Lib.hid hused
  have HG := Lib.hid hgb
  clear hused hgb hR hU hoff hf hu hr hsz
  go_enter Tryd.func52, Tryd.ntmps52
  go_wp2_with fail
  refine (rno_no (i : Int) _ HN.out).mono ?_
  rintro e w1 ⟨rfl, rfl⟩
  go_wp2_with fail
  go_region_held3 (fun w' => w'.cell? ⟨q, 48, none⟩ = some (.int .i64 (R : Int)))
    (first
      | exact hrm
      | exact (hBb.cell (p := ⟨q, 48, none⟩) hlt).trans hrm)
    (first
      | (go_at_call 46
         refine HU.out.mono ?_
         rintro e wA ⟨rfl, hBb⟩))
  all_goals have hgt := of_decide_eq_false HG.out
  all_goals go_wp2_with fail
  all_goals (have hb1 := ((Below.refl w.heap.size w).drew).trans hBb)
  all_goals (refine (rstep_wet (h.below hb1) g H0.out).mono ?_)
  all_goals rintro e w2 ⟨rfl, h2, ho2⟩
  all_goals have hs2 := h2.soft hi
  all_goals have ht2 := h2.there hi
  all_goals have hfs := h2.free (16 + i)
  all_goals have hft := h2.free (32 + i)
  all_goals have hl2 := h2.lt
  all_goals (have hbb : str (m.burnt.soft i) = b := HB.out)
  all_goals rw [hbb] at hs2
  all_goals clear hbb
  all_goals go_wp2_with fail
  all_goals go_region
  all_goals go_wp2
  all_goals go_ret
  all_goals (refine ⟨rfl, ?_, (Only.of_below hb1).trans (ho2.trans ((only_set w2 q _ _).trans (only_set _ q _ _)).drew)⟩)
  all_goals
    rw [HAP.out]
    have h4 := RefAt.drew (RefAt.setThere (RefAt.setSoft h2 hi (m.soft i ++ s.data.toList)) hi true)
    rw [set_set, set_firm, set_soft] at h4
    exact h4
theorem rappend_any (n : Int) (s : ByteArray) (h : RefAt w q m) (g : Fine m) (hsz : s.size ≤ 281474976710656) : Calls Tryd.prog 52 #[.pointer (some ⟨q, 0, none⟩), .int .i64 n, .string s] w (DoneR w q (m.append n s.data.toList)) := by
  have hs : s.data.toList.length = s.size := by rw [Lib.size_eq]
  unfold M.append
  rw [hs]
  by_cases hn : 0 ≤ n ∧ n < 16
  · rw [if_neg (by simpa using hn)]
    by_cases hoff : m.off = true
    · rw [if_pos hoff]
      exact rappend_off n s h hn hoff
    · rw [if_neg hoff]
      have hoff' : m.off = false := by simpa using hoff
      by_cases hf : m.room < m.used + s.size
      · rw [if_pos hf]
        exact rappend_full n s h g hn hoff' hsz hf
      · rw [if_neg hf]
        by_cases h0 : m.fuel = 0
        · rw [if_pos h0]
          exact rappend_dry n s h g hn hoff' hsz hf h0
        · rw [if_neg h0]
          have hi := rappend_ok n.toNat s h g (by omega) hoff' hsz hf h0
          rwa [show ((n.toNat : Nat) : Int) = n by omega] at hi
  · rw [if_pos hn]
    exact rappend_no n s h hn
end
end Go.Proofs.YtmimpfccngihiaaDoor.RefC
