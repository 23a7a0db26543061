/- The walk of the statement that a taking back may fail as often as its budget less one. -/
import Derived.Test.YtbppfndlfonoiaaBegun
import Derived.Test.YtbppfndlfonoiaaLit
import Derived.Test.YtbppfndlfonoiaaOpn
set_option linter.unusedVariables false
set_option linter.unusedSimpArgs false
namespace Go.Proofs.Ytbppfndlfonoiaa.LawC
open Go.RowKit Go.Proofs.Ytbppfndlfonoiaa.Kit Go.Proofs.Ytbppfndlfonoiaa.Stq Go.Proofs.Ytbppfndlfonoiaa.Pln Go.Proofs.Ytbppfndlfonoiaa.Sag Go.Proofs.Ytbppfndlfonoiaa.SagAt Go.Proofs.Ytbppfndlfonoiaa.Ways Go.Proofs.Ytbppfndlfonoiaa.WalkA Go.Proofs.Ytbppfndlfonoiaa.WalkB Go.Proofs.Ytbppfndlfonoiaa.WalkC Go.Proofs.Ytbppfndlfonoiaa.WalkD Go.Proofs.Ytbppfndlfonoiaa.NewS Go.Proofs.Ytbppfndlfonoiaa.Begun Go.Proofs.Ytbppfndlfonoiaa.Opens Go.Proofs.Ytbppfndlfonoiaa.Opn Go.Proofs.Ytbppfndlfonoiaa.Lit
open Go.Proofs.Ytbppfndlfonoiaa.State (Only cell_at free_at lt_at)

section
variable {l : List Sp} (hc : chk l = 0)
include hc
theorem run_snd {k : Nat} (hk : k < l.length) : Snd ⟨l, 1, (k : Int), 0⟩ := ⟨hc, .inl ⟨rfl, ⟨by show (0 : Int) ≤ (k : Int); omega, by show (k : Int) < (l.length : Int); omega⟩, rfl⟩⟩
theorem run_step {k : Nat} (hk : k + 1 < l.length) : takes ⟨l, 1, (k : Int), 0⟩ (k : Int) false 0 true = true ∧ outc ⟨l, 1, (k : Int), 0⟩ (k : Int) false 0 true = ⟨l, 1, (k : Int) + 1, 0⟩ := by
  have h1 : takes ⟨l, 1, (k : Int), 0⟩ (k : Int) false 0 true = true := by
    unfold takes opn
    rw [sound_mk (run_snd hc (by omega))]
    simp
  refine ⟨h1, ?_⟩
  unfold outc
  rw [h1]
  show fwd _ = _
  unfold fwd
  rw [if_neg (by simp only; omega)]
theorem run_abort {k : Nat} (hk : k < l.length) : aborts ⟨l, 1, (k : Int), 0⟩ = true ∧ abort ⟨l, 1, (k : Int), 0⟩ = ⟨l, 2, (k : Int), 0⟩ := by
  have h1 : aborts ⟨l, 1, (k : Int), 0⟩ = true := by unfold aborts; rw [sound_mk (run_snd hc hk)]; rfl
  refine ⟨h1, ?_⟩
  unfold abort
  rw [h1]
  show back _ (k : Int) = _
  unfold back
  rw [if_neg (by omega)]
theorem two_snd {k : Nat} (hk : k < l.length) {f : Int} (h0 : 0 ≤ f) (h1 : f < bud l (k : Int)) : Snd ⟨l, 2, (k : Int), f⟩ := ⟨hc, .inr (.inl ⟨rfl, ⟨by show (0 : Int) ≤ (k : Int); omega, by show (k : Int) < (l.length : Int); omega⟩, h0, h1⟩)⟩
theorem stuck_snd {k : Nat} (hk : k < l.length) : Snd ⟨l, 5, (k : Int), bud l (k : Int)⟩ := ⟨hc, .inr (.inr (.inr (.inr ⟨rfl, ⟨by show (0 : Int) ≤ (k : Int); omega, by show (k : Int) < (l.length : Int); omega⟩, rfl⟩)))⟩
/-- What a taking back that failed j times is. -/
def failed (l : List Sp) (a : Nat) (j : Nat) : Int × Int := if (j : Int) < bud l (a : Int) then (2, (j : Int)) else (5, bud l (a : Int))
theorem fail_step {a : Nat} (ha : a < l.length) (j : Nat) : takes ⟨l, (failed l a j).1, (a : Int), (failed l a j).2⟩ (a : Int) true (j : Int) false = decide ((j : Int) < bud l (a : Int)) ∧
    outc ⟨l, (failed l a j).1, (a : Int), (failed l a j).2⟩ (a : Int) true (j : Int) false = ⟨l, (failed l a (j + 1)).1, (a : Int), (failed l a (j + 1)).2⟩ := by
  by_cases hj : (j : Int) < bud l (a : Int)
  · have e : failed l a j = (2, (j : Int)) := by unfold failed; rw [if_pos hj]
    rw [e]
    have h1 : takes ⟨l, 2, (a : Int), (j : Int)⟩ (a : Int) true (j : Int) false = true := by
      unfold takes opn
      rw [sound_mk (two_snd hc ha (by omega) hj)]
      simp
    refine ⟨by rw [h1]; simp [hj], ?_⟩
    show outc ⟨l, 2, (a : Int), (j : Int)⟩ (a : Int) true (j : Int) false = _
    unfold outc
    rw [h1]
    show fail _ = _
    unfold fail failed
    simp only
    by_cases hb : (j : Int) + 1 = bud l (a : Int)
    · rw [if_pos hb, if_neg (by omega), hb]
    · rw [if_neg hb, if_pos (by omega)]
      rfl
  · have e : failed l a j = (5, bud l (a : Int)) := by unfold failed; rw [if_neg hj]
    have e' : failed l a (j + 1) = (5, bud l (a : Int)) := by unfold failed; rw [if_neg (by omega)]
    rw [e, e']
    have h1 : takes ⟨l, 5, (a : Int), bud l (a : Int)⟩ (a : Int) true (j : Int) false = false := by
      unfold takes opn
      simp
    refine ⟨by rw [h1]; simp [hj], ?_⟩
    show outc ⟨l, 5, (a : Int), bud l (a : Int)⟩ (a : Int) true (j : Int) false = _
    unfold outc
    rw [h1]
    rfl
/-- What a taking back that went on down to k is. -/
theorem down_step {k : Nat} (hk : k < l.length) {f : Int} (h0 : 0 ≤ f) (h1 : f < bud l (k : Int)) : takes ⟨l, 2, (k : Int), f⟩ (k : Int) true 7 true = true ∧ outc ⟨l, 2, (k : Int), f⟩ (k : Int) true 7 true = back ⟨l, 2, (k : Int), f⟩ ((k : Int) - 1) := by
  have h2 : takes ⟨l, 2, (k : Int), f⟩ (k : Int) true 7 true = true := by
    unfold takes opn
    rw [sound_mk (two_snd hc hk h0 h1)]
    simp
  refine ⟨h2, ?_⟩
  unfold outc
  rw [h2]
  rfl
end
/-- An int, brought into 0 to m - 1. -/
theorem mod_in (z : Int) (m : Nat) (h0 : 1 ≤ m) (h1 : m ≤ 1000) : ∃ a : Nat, a < m ∧ (wrap64 (z.tmod (m : Int) + (m : Int))).tmod (m : Int) = (a : Int) ∧ (z.tmod (m : Int) + (m : Int)).tmod (m : Int) = (a : Int) := by
  have h2 := Int.tmod_lt_of_pos z (show (0 : Int) < (m : Int) by omega)
  have h3 : -(m : Int) < z.tmod (m : Int) := Int.lt_tmod_of_pos z (by omega)
  have h4 : wrap64 (z.tmod (m : Int) + (m : Int)) = z.tmod (m : Int) + (m : Int) := by unfold wrap64; omega
  rw [h4]
  obtain ⟨q, hq⟩ := Int.eq_ofNat_of_zero_le (show 0 ≤ z.tmod (m : Int) + (m : Int) by omega)
  rw [hq]
  exact ⟨q % m, Nat.mod_lt _ (by omega), rfl, rfl⟩

set_option maxRecDepth 100000 in
set_option maxHeartbeats 8000000 in
theorem budgets_walk (A : Option Addr) (c : Nat) (l : List Sp) (z y : Int) (w : World) (h : CameS w A l.length c l) (hr : l.length * 32 ≤ 140737488355328) (hz : -9223372036854775808 ≤ z ∧ z ≤ 9223372036854775807) (hy : -9223372036854775808 ≤ y ∧ y ≤ 9223372036854775807) :
    Calls Try.prog 8 #[.slice A l.length c, .int .i64 z, .int .i64 y] w fun e w' => e = .returned (.bool true) ∧ Below w.heap.size w w' := by
  have hat := came_at h hr
  rcases chk_or l with hc | hc
  · have HC := Lib.hid hc
    have HAT := Lib.hid hat
    have hlen := len_def hc
    obtain ⟨a, ha, ha1, ha2⟩ := mod_in z l.length hlen.1 (by omega)
    obtain ⟨f, hf, hf1, hf2⟩ := mod_in y 12 (by decide) (by decide)
    simp only [show ((12 : Nat) : Int) = 12 from rfl] at hf1 hf2
    have hnz : ¬ l.length = 0 := by omega
    have hnb : (l.length : Int) ≤ 64 := by omega
    have hai : (a : Int) < (l.length : Int) := by omega
    have ha0 : (0 : Int) ≤ (a : Int) := by omega
    have HHA : Hid ((wrap64 (z.tmod (l.length : Int) + (l.length : Int))).tmod (l.length : Int) = (a : Int)) := ha1
    have HHF : Hid ((wrap64 (y.tmod 12 + 12)).tmod 12 = (f : Int)) := hf1
    clear ha1 ha2 hf1 hf2
    clear h hat hc hz hy
    go_enter Try.func8, Try.ntmps8
    go_wp2_with fail
    refine (begun_true _).mono ?_
    rintro e w1 ⟨rfl, hb1⟩
    have ha1' := HAT.out.below hb1
    have HB1 := Lib.hid hb1
    clear hb1
    go_wp2_with fail
    with_reducible refine (new_yes c ha1' HC).mono ?_
    rintro e w2 ⟨A2, k2, rfl, ha2', hf2', hb2⟩
    have hs2 : SB w1 (w2.alloc (.cells #[.slice A2 l.length k2, .int .i64 1, .int .i64 0, .int .i64 0] 24)) w2.heap.size A2 k2 ⟨l, 1, 0, 0⟩ := sb_new (s := ⟨l, 1, 0, 0⟩) hb2 ha2'
    obtain ⟨w3, hw3⟩ : ∃ w3, w2.alloc (.cells #[.slice A2 l.length k2, .int .i64 1, .int .i64 0, .int .i64 0] 24) = w3 := ⟨_, rfl⟩
    obtain ⟨p, hp⟩ : ∃ p, w2.heap.size = p := ⟨_, rfl⟩
    rw [hw3] at hs2
    rw [hp] at hs2
    have HS3 := Lib.hid hs2
    have HW3 := Lib.hid hw3
    have HP := Lib.hid hp
    clear hs2 hw3 hp ha1' ha2' hf2' hb2
    go_wp2_with fail
    try rw [HW3.out]
    try rw [HP.out]
    rw [HHA.out, HHF.out]
    have h39 : Hid (SB w1 w3 p A2 k2 ⟨l, 1, ((0 : Nat) : Int), 0⟩) := HS3
    clear HW3 HP HS3
    go_loopw [39] (fun x wr => ∃ (j : Nat) (A3 : Option Addr) (k3 : Nat), x = .int .i64 (j : Int) ∧ j ≤ a ∧ Hid (SB w1 wr p A3 k3 ⟨l, 1, (j : Int), 0⟩)) (fun x _ => a - (intOf x).toNat)
    case atStart => exact ⟨0, A2, k2, rfl, by omega, h39⟩
    case round =>
      obtain ⟨j, A3, k3, rfl, hja, HS⟩ := hrel
      clear h39
      have hx := HS.out.box
      have t0 := hx.c0
      have t1 := hx.c1
      have t2 := hx.c2
      have t3 := hx.c3
      have tf0 := hx.free 0
      have tf1 := hx.free 1
      have tf2 := hx.free 2
      have tf3 := hx.free 3
      have tlt := hx.lt
      simp only at t0 t1 t2 t3
      clear hx
      by_cases hj : j < a
      · have hs := run_step HC.out (k := j) (by omega)
        have HTK := Lib.hid hs.1
        have HOU := Lib.hid hs.2
        have HJ := Lib.hid hj
        have hj' : (j : Int) < (a : Int) := by omega
        clear hs
        go_wp2_with fail
        with_reducible refine (outcome_lit k3 HS.out.at_ (j : Int) false 0 true HOU HTK).mono ?_
        rintro e w4 ⟨A5, k5, rfl, ha5, hf5, hb5⟩
        obtain ⟨w6, hw6, h6⟩ := HS.out.put (s' := ⟨l, 1, ((j : Int) + 1), 0⟩) (c' := k5) hb5 ha5 hf5
        have hx := HS.out.box.below hb5
        clear t0 t1 t2 t3 tf0 tf1 tf2 tf3 tlt
        have t0 := hx.c0
        have t1 := hx.c1
        have t2 := hx.c2
        have t3 := hx.c3
        have tf0 := hx.free 0
        have tf1 := hx.free 1
        have tf2 := hx.free 2
        have tf3 := hx.free 3
        have tlt := hx.lt
        simp only at t0 t1 t2 t3
        have HW6 : Hid ((((w4.setCell ⟨p, 0, none⟩ (.slice A5 l.length k5)).setCell ⟨p, 1, none⟩ (.int .i64 1)).setCell ⟨p, 2, none⟩ (.int .i64 ((j : Int) + 1))).setCell ⟨p, 3, none⟩ (.int .i64 0) = w6) := hw6
        have HS6 := Lib.hid h6
        have HB5 := Lib.hid ((HS.out.below hb5).bel)
        clear hw6 h6 hx ha5 hf5 hb5
        go_wp2
        rw [HW6.out]
        go_roundw
        case rel => exact ⟨j + 1, A5, k5, by go_num, HJ.out, HS6⟩
        case measure => have := HJ.out; simp [intOf]; omega
      · obtain rfl : j = a := by omega
        have hab := run_abort HC.out ha
        have HAQ := Lib.hid hab.1
        have HAB := Lib.hid hab.2
        clear hab hj hja
        go_wp2_with fail
        with_reducible refine (abort_lit k3 HS.out.at_ HAB HAQ).mono ?_
        rintro e w4 ⟨A5, k5, rfl, ha5, hf5, hb5⟩
        obtain ⟨w6, hw6, h6⟩ := HS.out.put (s' := ⟨l, 2, (j : Int), 0⟩) (c' := k5) hb5 ha5 hf5
        have hx := HS.out.box.below hb5
        clear t0 t1 t2 t3 tf0 tf1 tf2 tf3 tlt
        have t0 := hx.c0
        have t1 := hx.c1
        have t2 := hx.c2
        have t3 := hx.c3
        have tf0 := hx.free 0
        have tf1 := hx.free 1
        have tf2 := hx.free 2
        have tf3 := hx.free 3
        have tlt := hx.lt
        simp only at t0 t1 t2 t3
        have HW6 : Hid ((((w4.setCell ⟨p, 0, none⟩ (.slice A5 l.length k5)).setCell ⟨p, 1, none⟩ (.int .i64 2)).setCell ⟨p, 2, none⟩ (.int .i64 (j : Int))).setCell ⟨p, 3, none⟩ (.int .i64 0) = w6) := hw6
        have HS6 := Lib.hid h6
        have HB5 := Lib.hid ((HS.out.below hb5).bel)
        clear hw6 h6 hx ha5 hf5 hb5
        obtain ⟨bk, o, ev, rfl, hbl, hev, hthree⟩ := RS.at_ HAT.out.rs ha
        have hbu := bud_at hev
        have u2 := (hthree.below (HB1.out.trans (HB5.out.mono HB1.out.size)) hbl).c2
        have hlow := HS6.out.low
        have hle := HB1.out.size
        have hne1 : ¬ bk = p := by omega
        have hne2 : ¬ p = bk := by omega
        have hbl' : bk < w4.heap.size := by have := HB5.out.size; omega
        have hb19 := bud_def HC.out (k := (j : Int)) (by omega) (by omega)
        obtain ⟨pt, nm, bg⟩ := ev
        simp only at hbu u2
        rw [hbu] at hb19
        have HBU := Lib.hid hbu
        clear hthree hev hbu hlow hle
        have hb1 : (1 : Int) ≤ bg := hb19.1
        have hb9 : bg ≤ 9 := hb19.2
        have hjj : (j : Int) < (l.length : Int) := by omega
        have hHS : Hid (SB w1 w6 p A5 k5 ⟨l, 2, (j : Int), ((0 : Nat) : Int)⟩) := HS6
        have hfd : Hid (failed l j 0 = (2, ((0 : Nat) : Int))) := by
          have e : failed l j 0 = (2, ((0 : Nat) : Int)) := by unfold failed; rw [HBU.out, if_pos (by omega)]
          exact e
        clear hb19
        go_wp2_with fail
        rw [HW6.out]
        clear HW6 HB5 HS6 t0 t1 t2 t3 tf0 tf1 tf2 tf3 tlt u2 HS HAQ HAB hbl'
        go_loopw [60] (fun x wr => ∃ (i : Nat) (A6 : Option Addr) (k6 : Nat) (q1 q2 : Int), x = .int .i64 (i : Int) ∧ i ≤ f ∧ Hid (failed l j i = (q1, q2)) ∧ Hid (SB w1 wr p A6 k6 ⟨l, q1, (j : Int), q2⟩)) (fun x _ => f - (intOf x).toNat)
        case atStart => exact ⟨0, A5, k5, 2, 0, rfl, by omega, hfd, hHS⟩
        case round =>
          obtain ⟨i, A6, k6, q1, q2, rfl, hif, HFD, HS7⟩ := hrel
          clear hfd hHS
          have hx := HS7.out.box
          have t0 := hx.c0
          have t1 := hx.c1
          have t2 := hx.c2
          have t3 := hx.c3
          have tf0 := hx.free 0
          have tf1 := hx.free 1
          have tf2 := hx.free 2
          have tf3 := hx.free 3
          have tlt := hx.lt
          simp only at t0 t1 t2 t3
          clear hx
          by_cases hi : i < f
          · have hs := fail_step HC.out ha i
            obtain ⟨⟨r1, r2⟩, hrr⟩ : ∃ r, failed l j (i + 1) = r := ⟨_, rfl⟩
            rw [HFD.out, hrr] at hs
            simp only at hs
            rw [HBU.out] at hs
            have HRR := Lib.hid hrr
            have HOU := Lib.hid hs.2
            have HJ := Lib.hid hi
            have hi' : (i : Int) < (f : Int) := by omega
            by_cases hib : (i : Int) < bg
            · have htk : takes ⟨l, q1, (j : Int), q2⟩ (j : Int) true (i : Int) false = true := by rw [hs.1]; simp [hib]
              have HTK := Lib.hid htk
              clear hs hrr htk hi
              go_wp2_with fail
              with_reducible refine (outcome_lit k6 HS7.out.at_ (j : Int) true (i : Int) false HOU HTK).mono ?_
              rintro e w4 ⟨A5, k5, rfl, ha5, hf5, hb5⟩
              obtain ⟨w6, hw6, h6⟩ := HS7.out.put (s' := ⟨l, r1, (j : Int), r2⟩) (c' := k5) hb5 ha5 hf5
              have hx := HS7.out.box.below hb5
              clear t0 t1 t2 t3 tf0 tf1 tf2 tf3 tlt
              have t0 := hx.c0
              have t1 := hx.c1
              have t2 := hx.c2
              have t3 := hx.c3
              have tf0 := hx.free 0
              have tf1 := hx.free 1
              have tf2 := hx.free 2
              have tf3 := hx.free 3
              have tlt := hx.lt
              simp only at t0 t1 t2 t3
              have HW6 : Hid ((((w4.setCell ⟨p, 0, none⟩ (.slice A5 l.length k5)).setCell ⟨p, 1, none⟩ (.int .i64 r1)).setCell ⟨p, 2, none⟩ (.int .i64 (j : Int))).setCell ⟨p, 3, none⟩ (.int .i64 r2) = w6) := hw6
              have HS6 := Lib.hid h6
              have HB5 := Lib.hid ((HS7.out.below hb5).bel)
              clear hw6 h6 hx ha5 hf5 hb5
              go_wp2
              rw [HW6.out]
              go_roundw
              case rel => exact ⟨i + 1, A5, k5, r1, r2, by go_num, HJ.out, HRR, HS6⟩
              case measure => have := HJ.out; simp [intOf]; omega
            · have htk : takes ⟨l, q1, (j : Int), q2⟩ (j : Int) true (i : Int) false = false := by rw [hs.1]; exact decide_eq_false hib
              have HTK := Lib.hid htk
              clear hs hrr htk hi
              go_wp2_with fail
              with_reducible refine (outcome_lit k6 HS7.out.at_ (j : Int) true (i : Int) false HOU HTK).mono ?_
              rintro e w4 ⟨A5, k5, rfl, ha5, hf5, hb5⟩
              obtain ⟨w6, hw6, h6⟩ := HS7.out.put (s' := ⟨l, r1, (j : Int), r2⟩) (c' := k5) hb5 ha5 hf5
              have hx := HS7.out.box.below hb5
              clear t0 t1 t2 t3 tf0 tf1 tf2 tf3 tlt
              have t0 := hx.c0
              have t1 := hx.c1
              have t2 := hx.c2
              have t3 := hx.c3
              have tf0 := hx.free 0
              have tf1 := hx.free 1
              have tf2 := hx.free 2
              have tf3 := hx.free 3
              have tlt := hx.lt
              simp only at t0 t1 t2 t3
              have HW6 : Hid ((((w4.setCell ⟨p, 0, none⟩ (.slice A5 l.length k5)).setCell ⟨p, 1, none⟩ (.int .i64 r1)).setCell ⟨p, 2, none⟩ (.int .i64 (j : Int))).setCell ⟨p, 3, none⟩ (.int .i64 r2) = w6) := hw6
              have HS6 := Lib.hid h6
              have HB5 := Lib.hid ((HS7.out.below hb5).bel)
              clear hw6 h6 hx ha5 hf5 hb5
              go_wp2
              rw [HW6.out]
              go_roundw
              case rel => exact ⟨i + 1, A5, k5, r1, r2, by go_num, HJ.out, HRR, HS6⟩
              case measure => have := HJ.out; simp [intOf]; omega
          · obtain rfl : i = f := by omega
            have hBW := HB1.out.trans (HS7.out.bel.mono HB1.out.size)
            have hq : (bg ≤ (i : Int) ∧ q1 = 5) ∨ (¬ bg ≤ (i : Int) ∧ q1 = 2 ∧ q2 = (i : Int)) := by
              have h1 := HFD.out
              unfold failed at h1
              rw [HBU.out] at h1
              split at h1
              · simp only [Prod.mk.injEq] at h1
                exact .inr ⟨by omega, h1.1.symm, h1.2.symm⟩
              · simp only [Prod.mk.injEq] at h1
                exact .inl ⟨by omega, h1.1.symm⟩
            clear hi hif HFD
            rcases hq with ⟨hfb, rfl⟩ | ⟨hfb, rfl, rfl⟩
            · go_wp2
              go_ret
              exact ⟨rfl, hBW⟩
            · have hP0 : Hid (((j : Int) = -1 ∧ (2 : Int) = 4) ∨ (0 ≤ (j : Int) ∧ (2 : Int) = 2 ∧ (j : Int) = (j : Int) ∧ 0 ≤ (i : Int) ∧ (i : Int) < bud l (j : Int))) := by
                have e : ((j : Int) = -1 ∧ (2 : Int) = 4) ∨ (0 ≤ (j : Int) ∧ (2 : Int) = 2 ∧ (j : Int) = (j : Int) ∧ 0 ≤ (i : Int) ∧ (i : Int) < bud l (j : Int)) := .inr ⟨by omega, rfl, rfl, by omega, by rw [HBU.out]; omega⟩
                exact e
              go_wp2_with fail
              clear t0 t1 t2 t3 tf0 tf1 tf2 tf3 tlt
              go_loopw [14] (fun x wr => ∃ (v : Int) (A8 : Option Addr) (k8 : Nat) (c1 c2 c3 : Int), x = .int .i64 v ∧ v ≤ (j : Int) ∧ Hid (SB w1 wr p A8 k8 ⟨l, c1, c2, c3⟩) ∧ Hid ((v = -1 ∧ c1 = 4) ∨ (0 ≤ v ∧ c1 = 2 ∧ c2 = v ∧ 0 ≤ c3 ∧ c3 < bud l c2))) (fun x _ => (intOf x + 1).toNat)
              case atStart => exact ⟨(j : Int), A6, k6, 2, (j : Int), (i : Int), rfl, by omega, HS7, Lib.hid (.inr ⟨by omega, rfl, rfl, by omega, by rw [HBU.out]; omega⟩)⟩
              case round =>
                obtain ⟨v, A8, k8, c1, c2, c3, rfl, hvj, HS8, HP8⟩ := hrel
                clear HS7 hP0
                have hx := HS8.out.box
                have t0 := hx.c0
                have t1 := hx.c1
                have t2 := hx.c2
                have t3 := hx.c3
                have tf0 := hx.free 0
                have tf1 := hx.free 1
                have tf2 := hx.free 2
                have tf3 := hx.free 3
                have tlt := hx.lt
                simp only at t0 t1 t2 t3
                clear hx
                have hBW8 := HB1.out.trans (HS8.out.bel.mono HB1.out.size)
                rcases HP8.out with ⟨rfl, rfl⟩ | ⟨hv0, rfl, rfl, hc0, hc1⟩
                · clear HP8
                  go_wp2
                  go_ret
                  exact ⟨rfl, hBW8⟩
                · obtain ⟨m, rfl⟩ := Int.eq_ofNat_of_zero_le hv0
                  have hml : m < l.length := by omega
                  have hs := down_step HC.out hml hc0 hc1
                  obtain ⟨⟨dl, d1, d2, d3⟩, hd⟩ : ∃ t, back ⟨l, 2, (m : Int), c3⟩ ((m : Int) - 1) = t := ⟨_, rfl⟩
                  have hdl : dl = l := by have := back_l ⟨l, 2, (m : Int), c3⟩ ((m : Int) - 1); rw [hd] at this; exact this
                  subst hdl
                  rw [hd] at hs
                  have hP9 : Hid (((m : Int) - 1 = -1 ∧ d1 = 4) ∨ (0 ≤ (m : Int) - 1 ∧ d1 = 2 ∧ d2 = (m : Int) - 1 ∧ 0 ≤ d3 ∧ d3 < bud dl d2)) := by
                    have e : ((m : Int) - 1 = -1 ∧ d1 = 4) ∨ (0 ≤ (m : Int) - 1 ∧ d1 = 2 ∧ d2 = (m : Int) - 1 ∧ 0 ≤ d3 ∧ d3 < bud dl d2) := by
                      unfold back at hd
                      split at hd
                      · simp only [Sg.mk.injEq, true_and] at hd
                        exact .inl ⟨by omega, hd.1.symm⟩
                      · simp only [Sg.mk.injEq, true_and] at hd
                        obtain ⟨e1, e2, e3⟩ := hd
                        have hbb := bud_def HC.out (k := (m : Int) - 1) (by omega) (by omega)
                        exact .inr ⟨by omega, e1.symm, e2.symm, by omega, by rw [← e2, ← e3]; omega⟩
                    exact e
                  have HTK := Lib.hid hs.1
                  have HOU := Lib.hid hs.2
                  have hm64 : (m : Int) ≤ 64 := by omega
                  clear HP8 hs hd hc0 hc1 hBW8
                  go_wp2_with fail
                  with_reducible refine (outcome_lit k8 HS8.out.at_ (m : Int) true 7 true HOU HTK).mono ?_
                  rintro e w4 ⟨A5, k5, rfl, ha5, hf5, hb5⟩
                  obtain ⟨w6, hw6, h6⟩ := HS8.out.put (s' := ⟨dl, d1, d2, d3⟩) (c' := k5) hb5 ha5 hf5
                  have hx := HS8.out.box.below hb5
                  clear t0 t1 t2 t3 tf0 tf1 tf2 tf3 tlt
                  have t0 := hx.c0
                  have t1 := hx.c1
                  have t2 := hx.c2
                  have t3 := hx.c3
                  have tf0 := hx.free 0
                  have tf1 := hx.free 1
                  have tf2 := hx.free 2
                  have tf3 := hx.free 3
                  have tlt := hx.lt
                  simp only at t0 t1 t2 t3
                  have HW6 : Hid ((((w4.setCell ⟨p, 0, none⟩ (.slice A5 dl.length k5)).setCell ⟨p, 1, none⟩ (.int .i64 d1)).setCell ⟨p, 2, none⟩ (.int .i64 d2)).setCell ⟨p, 3, none⟩ (.int .i64 d3) = w6) := hw6
                  have HS6 := Lib.hid h6
                  have HB5 := Lib.hid ((HS8.out.below hb5).bel)
                  clear hw6 h6 hx ha5 hf5 hb5
                  go_wp2
                  rw [HW6.out]
                  go_roundw
                  case rel => exact ⟨(m : Int) - 1, A5, k5, d1, d2, d3, rfl, by omega, HS6, hP9⟩
                  case measure => first | (simp [intOf]; done) | (simp [intOf]; omega)
  · have HC := Lib.hid hc
    have HAT := Lib.hid hat
    clear h hat hc hz hy
    go_enter Try.func8, Try.ntmps8
    go_wp2_with fail
    refine (begun_true _).mono ?_
    rintro e w1 ⟨rfl, hb1⟩
    have ha1 := HAT.out.below hb1
    go_wp2_with fail
    with_reducible refine (new_no c ha1 HC).mono ?_
    rintro e w2 ⟨rfl, hb2⟩
    have hB := hb1.trans (hb2.mono hb1.size)
    go_wp2
    go_ret
    exact ⟨rfl, hB.trans ((bo1 _ _).mono hB.size)⟩
end Go.Proofs.Ytbppfndlfonoiaa.LawC
