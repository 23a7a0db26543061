/- What the document's own decoding answers, walked; and that what each statement asks first is true. -/
import Derived.Test.YtamncdpeklbhlaaGreatDoorStuWalkF
import Derived.Deep.QuietTactic
import Derived.BigQuiet
import Derived.Deep.RegionWith
import Derived.WalkSmall
namespace Go.Proofs.YtamncdpeklbhlaaGreatDoor.StuWalkG
open Go.RowKit Go.Proofs.YtamncdpeklbhlaaGreatDoor.Kit Go.Proofs.YtamncdpeklbhlaaGreatDoor.Stuff Go.Proofs.YtamncdpeklbhlaaGreatDoor.StuWalkA Go.Proofs.YtamncdpeklbhlaaGreatDoor.StuWalkD Go.Proofs.YtamncdpeklbhlaaGreatDoor.StuWalkF

theorem conv (W : World) (B : Nat) (A : Option Addr) (n c : Nat) (l : List UInt8) (h : Reads W B 1 A n (vals l)) : (convert 111 9 (.slice A n c)).run Tryz.prog W = .ok (.string ⟨l.toArray⟩) W :=
  run_string (P := Tryz.prog) 111 5 9 Tryz.underlying111 Tryz.underlying5 Tryz.underlying9 W B A n c l h

set_option maxRecDepth 100000 in
set_option maxHeartbeats 1000000 in
theorem decode_no (A : Option Addr) (n c : Nat) (l : List UInt8) (w : World) (h : RB w A n l) (hnc : n ≤ c) (hc : c ≤ 9223372036854775807) (hE : n ≤ 70368744177664)
    (hp : ∀ r, plain true true l ≠ some (r, true)) :
    Calls Tryz.prog 120 #[.slice A n c] w (Deco w (unstuff l)) := by
  have hd : unstuff l = none := by
    cases hd : unstuff l with
    | none => rfl
    | some r => exact absurd (by simpa using plain_of true true l r hd) (hp r)
  rw [hd]
  have hcon := plain_any A n c l w h hnc hc hE
  have hcon2 : Calls Tryz.prog 128 #[.slice A n c] w fun e w' => ∃ v, e = .returned (.tuple #[v, .bool false]) ∧ Below w.heap.size w w' := by
    refine hcon.mono fun e w' hh => ?_
    cases hpl : plain true true l with
    | none =>
      rw [hpl] at hh
      exact ⟨_, hh.1, hh.2⟩
    | some x =>
      obtain ⟨r, b⟩ := x
      rw [hpl] at hh
      cases b with
      | true => exact absurd hpl (hp r)
      | false =>
        obtain ⟨v, he, _, hb⟩ := hh
        exact ⟨v, he, hb⟩
  have HC := Lib.hid hcon2
  clear hcon hcon2 hp hd
  go_enter Tryz.func120, Tryz.ntmps120
  go_wp2_with fail
  refine HC.out.mono ?_
  rintro e w1 ⟨v, rfl, hb⟩
  go_wp2_with fail
  go_quiet (fail)
  go_wp2_with fail
  go_ret2
  exact ⟨rfl, below_drewN hb _⟩

set_option maxRecDepth 100000 in
set_option maxHeartbeats 2000000 in
theorem decode_yes (A : Option Addr) (n c : Nat) (l r : List UInt8) (w : World) (h : RB w A n l) (hnc : n ≤ c) (hc : c ≤ 9223372036854775807) (hE : n ≤ 70368744177664)
    (hp : plain true true l = some (r, true)) (he : (encode r == l) = true) :
    Calls Tryz.prog 120 #[.slice A n c] w (Deco w (unstuff l)) := by
  have hcon := plain_any A n c l w h hnc hc hE
  rw [hp] at hcon
  have HC := Lib.hid hcon
  have hlen := reads_len h
  have hsh := plain_short _ _ _ _ _ hp
  have hes := encode_short r
  have hEr : (encode r).length ≤ 140737488355328 := by omega
  have HP := Lib.hid hp
  have HEQ := Lib.hid he
  have hconvB : ∀ W, Reads W w.heap.size 1 A n (vals l) → (convert 111 9 (.slice A n c)).run Tryz.prog W = .ok (.string ⟨l.toArray⟩) W := fun W hW => conv W _ A n c l hW
  clear hcon hlen hsh hes hp
  go_enter Tryz.func120, Tryz.ntmps120
  go_wp2_with fail
  refine HC.out.mono ?_
  rintro e w1 ⟨v, rfl, hown, hb⟩
  obtain ⟨A1, c1, rfl, hnc1, hcm1, hr1⟩ := own_form hown
  unfold maxLen at hcm1
  have hB1 : Reads w1 w.heap.size 1 A n (vals l) := h.below hb
  have hB1d : Reads w1.drew w.heap.size 1 A n (vals l) := h.below hb.drew
  go_wp2_with fail
  go_region_with ((go_at_call 56; refine (StuWalkE.encode_any A1 _ c1 r _ ?_ hnc1 hcm1 hEr).mono ?_; exact hr1; rintro e w2 ⟨v2, rfl, hown2, hb2⟩; obtain ⟨A2, c2, rfl, hnc2, hcm2, hr2⟩ := own_form hown2; have hB2 : Reads w2 w.heap.size 1 A n (vals l) := (hB1d.below (hb2.mono hb.size)); have hv2 := conv w2 _ A2 _ c2 (encode r) hr2))
  all_goals go_wp2
  all_goals go_ret2
  all_goals
    have e1 : encode r = l := by simpa using HEQ.out
    have e2 : unstuff l = some r := by rw [← e1, back]
    rw [e2]
    have hown' := own_below (w := w1.drew) hown hb2
    exact made2 hown' rfl rfl (hb.drew.trans (hb2.mono hb.size))
set_option maxRecDepth 100000 in
set_option maxHeartbeats 2000000 in
theorem decode_not (A : Option Addr) (n c : Nat) (l r : List UInt8) (w : World) (h : RB w A n l) (hnc : n ≤ c) (hc : c ≤ 9223372036854775807) (hE : n ≤ 70368744177664)
    (hp : plain true true l = some (r, true)) (he : (encode r == l) = false) :
    Calls Tryz.prog 120 #[.slice A n c] w (Deco w (unstuff l)) := by
  have hcon := plain_any A n c l w h hnc hc hE
  rw [hp] at hcon
  have HC := Lib.hid hcon
  have hlen := reads_len h
  have hsh := plain_short _ _ _ _ _ hp
  have hes := encode_short r
  have hEr : (encode r).length ≤ 140737488355328 := by omega
  have HP := Lib.hid hp
  have HEQ := Lib.hid he
  have hconvB : ∀ W, Reads W w.heap.size 1 A n (vals l) → (convert 111 9 (.slice A n c)).run Tryz.prog W = .ok (.string ⟨l.toArray⟩) W := fun W hW => conv W _ A n c l hW
  clear hcon hlen hsh hes hp
  go_enter Tryz.func120, Tryz.ntmps120
  go_wp2_with fail
  refine HC.out.mono ?_
  rintro e w1 ⟨v, rfl, hown, hb⟩
  obtain ⟨A1, c1, rfl, hnc1, hcm1, hr1⟩ := own_form hown
  unfold maxLen at hcm1
  have hB1 : Reads w1 w.heap.size 1 A n (vals l) := h.below hb
  have hB1d : Reads w1.drew w.heap.size 1 A n (vals l) := h.below hb.drew
  go_wp2_with fail
  go_region_with ((go_at_call 56; refine (StuWalkE.encode_any A1 _ c1 r _ ?_ hnc1 hcm1 hEr).mono ?_; exact hr1; rintro e w2 ⟨v2, rfl, hown2, hb2⟩; obtain ⟨A2, c2, rfl, hnc2, hcm2, hr2⟩ := own_form hown2; have hB2 : Reads w2 w.heap.size 1 A n (vals l) := (hB1d.below (hb2.mono hb.size)); have hv2 := conv w2 _ A2 _ c2 (encode r) hr2))
  all_goals go_wp2
  all_goals go_ret2
  all_goals
    have e1 : encode r ≠ l := by simpa using HEQ.out
    have e2 : unstuff l = none := by
      cases hd : unstuff l with
      | none => rfl
      | some q =>
        have h1 := plain_of true true l q hd
        have h2 := HP.out
        rw [h1] at h2
        simp at h2
        subst h2
        exact absurd (one l q hd) e1
    rw [e2]
    exact ⟨rfl, hb.drew.trans (hb2.mono hb.size)⟩
theorem decode_any (A : Option Addr) (n c : Nat) (l : List UInt8) (w : World) (h : RB w A n l) (hnc : n ≤ c) (hc : c ≤ 9223372036854775807) (hE : n ≤ 70368744177664) :
    Calls Tryz.prog 120 #[.slice A n c] w (Deco w (unstuff l)) := by
  by_cases hp : ∃ r, plain true true l = some (r, true)
  · obtain ⟨r, hr⟩ := hp
    cases he : (encode r == l) with
    | true => exact decode_yes A n c l r w h hnc hc hE hr he
    | false => exact decode_not A n c l r w h hnc hc hE hr he
  · exact decode_no A n c l w h hnc hc hE fun r hr => hp ⟨r, hr⟩
end Go.Proofs.YtamncdpeklbhlaaGreatDoor.StuWalkG
