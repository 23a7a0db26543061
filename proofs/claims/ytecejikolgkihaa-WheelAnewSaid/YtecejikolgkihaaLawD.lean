/- The walk of the statement that a timer that is set anew is due by its newest delay alone; one that is stopped never. -/
import Derived.Test.YtecejikolgkihaaLawC
set_option linter.unusedVariables false
namespace Go.Proofs.Ytecejikolgkihaa.LawD
open Go.RowKit Go.Proofs.Ytecejikolgkihaa.Kit Go.Proofs.Ytecejikolgkihaa.Blocks Go.Proofs.Ytecejikolgkihaa.Whl Go.Proofs.Ytecejikolgkihaa.WalkD Go.Proofs.Ytecejikolgkihaa.WalkE Go.Proofs.Ytecejikolgkihaa.WalkF Go.Proofs.Ytecejikolgkihaa.WalkG Go.Proofs.Ytecejikolgkihaa.WalkI Go.Proofs.Ytecejikolgkihaa.Sol Go.Proofs.Ytecejikolgkihaa.Begun Go.Proofs.Ytecejikolgkihaa.LawC

/-- What is left behind i units. -/
def sv (L i : Nat) : List Tm := if i < L then [(3, L)] else []
theorem sv_none {L i : Nat} (h : i + 1 ≠ L) : dueD i (sv L i) = [] ∧ left i (sv L i) = sv L (i + 1) := by
  unfold dueD left sv
  by_cases h1 : i < L
  · have e : (L == i + 1) = false := by simp; omega
    have e' : (L != i + 1) = true := by simp; omega
    rw [if_pos h1, if_pos (by omega)]
    simp [e, e']
  · rw [if_neg h1, if_neg (by omega)]
    simp
theorem sv_due {L i : Nat} (h : i + 1 = L) : dueD i (sv L i) = [3] ∧ left i (sv L i) = sv L (i + 1) := by
  unfold dueD left sv
  have e : (L == i + 1) = true := by simp; omega
  have e' : (L != i + 1) = false := by simp; omega
  rw [if_pos (by omega), if_neg (by omega)]
  simp [e, e']
/-- The timer, once it was set. -/
def one (D : List Tm) (la : Nat) : Prop := D = [] ∧ la = 0 ∨ 1 ≤ la ∧ D = [(3, la)]
theorem set_again {D : List Tm} {la L : Nat} (h : one D la) (h0 : 1 ≤ L) (h1 : L ≤ 400) : setc 0 D 3 (L : Int) = 0 ∧ setd 0 D 3 (L : Int) = [(3, L)] := by
  have e1 : setc 0 D 3 (L : Int) = 0 := by
    unfold setc
    rw [if_neg (by omega), if_neg]
    rcases h with ⟨rfl, _⟩ | ⟨_, rfl⟩ <;> simp
  refine ⟨e1, ?_⟩
  unfold setd
  rw [if_pos e1, Int.toNat_natCast, Nat.zero_add]
  rcases h with ⟨rfl, _⟩ | ⟨_, rfl⟩ <;> simp [del]
set_option maxRecDepth 100000 in
set_option maxHeartbeats 4000000 in
theorem anew_any (A : Option Addr) (n c : Nat) (zs : List Int) (stop : Bool) (w : World) (hr : Reads w w.heap.size 1 A n (ivals zs)) (h63 : n ≤ 9223372036854775807) :
    Calls Try.prog 6 #[.slice A n c, .bool stop] w fun e w' => e = .returned (.bool true) ∧ Below w.heap.size w w' := by
  have HR := Lib.hid hr
  clear hr
  go_enter Try.func6, Try.ntmps6
  go_wp2_with fail
  with_reducible refine (begun_true _).mono ?_
  rintro e w1 ⟨rfl, hb1⟩
  by_cases hn : n = 0
  · subst hn
    go_wp2
    go_ret
    exact ⟨rfl, hb1⟩
  · have hn0 : ((n : Int) == 0) = false := by simp; omega
    by_cases hn5 : 50 < n
    · have hn5I : (50 : Int) < (n : Int) := by omega
      go_wp2
      go_ret
      exact ⟨rfl, hb1⟩
    · have hn5I : ¬ (50 : Int) < (n : Int) := by omega
      go_wp2_with fail
      with_reducible refine (new_S (B := w.heap.size) _ hb1.size).mono ?_
      rintro e w2 ⟨p, rfl, hw2, hb2⟩
      have HB := Lib.hid (hb1.trans hb2)
      have HW2 := Lib.hid hw2
      clear hb1 hb2 hw2
      go_wp2
      go_loopw [6, 24] (fun la i wr => ∃ (k l : Nat) (D : List Tm), k ≤ n ∧ i = .int .i64 (k : Int) ∧ la = .int .i64 (l : Int) ∧ l ≤ 400 ∧ (0 < k → 1 ≤ l) ∧ one D l ∧ Hid (Ws w.heap.size wr p 0 D) ∧ Below w.heap.size w wr) (fun _ i _ => n - (intOf i).toNat)
      case atStart => exact ⟨0, 0, [], by omega, rfl, rfl, by omega, by omega, .inl ⟨rfl, rfl⟩, HW2.out, HB.out⟩
      case round =>
        obtain ⟨k, l, D, hk, rfl, rfl, hl, hl0, hone, hws, hbw⟩ := hrel
        by_cases hlt : k < n
        · obtain ⟨b, o, z, rfl, hbl, hz, hc⟩ := Reads.int (HR.out.below hbw) hlt
          have hbl2 : b < wr.heap.size := Nat.lt_of_lt_of_le hbl hbw.size
          obtain ⟨M, hM, hM4⟩ := modk 400 z (by decide) (by decide)
          have HM : Hid ((wrap64 (z.tmod 400 + 400)).tmod 400 = (M : Int)) := hM
          obtain ⟨L, hL⟩ : ∃ L, M + 1 = L := ⟨_, rfl⟩
          have HL : Hid (wrap64 ((M : Int) + 1) = (L : Int)) := by show _ = _; unfold wrap64; omega
          have hkI : (k : Int) < (n : Int) := by omega
          obtain ⟨e1, e2⟩ := set_again hone (L := L) (by omega) (by omega)
          have HS := Lib.hid (set_lit hws.out (by decide) e1 e2)
          have hLL : 1 ≤ L ∧ L ≤ 400 := by omega
          clear hM hL e1 e2 hone hz
          go_wp2_with fail
          simp only [HM.out, HL.out]
          with_reducible refine HS.out.mono ?_
          rintro e w3 ⟨rfl, hw3, hb3⟩
          have HW3 := Lib.hid hw3
          clear hw3
          go_wp2
          exact ⟨⟨k + 1, L, _, by omega, by simp, rfl, hLL.2, fun _ => hLL.1, .inr ⟨hLL.1, rfl⟩, HW3.out, hbw.trans hb3⟩, by simp [intOf]; omega⟩
        · obtain rfl : k = n := by omega
          have hl1 : 1 ≤ l := hl0 (by omega)
          obtain rfl : D = [(3, l)] := by
            rcases hone with ⟨_, h⟩ | ⟨_, h⟩
            · omega
            · exact h
          clear hone hl0
          cases stop with
          | false =>
            have HW4 : Hid (Ws w.heap.size wr p 0 (sv l 0)) := by
              show Ws _ _ _ _ _
              have e : sv l 0 = [(3, l)] := by unfold sv; rw [if_pos (by omega)]
              rw [e]
              exact hws.out
            go_wp2
            go_loopw [43] (fun i wr => ∃ j : Nat, j ≤ 500 ∧ i = .int .i64 (j : Int) ∧ Hid (Ws w.heap.size wr p j (sv l j)) ∧ Below w.heap.size w wr) (fun i _ => 500 - (intOf i).toNat)
            case atStart => exact ⟨0, by omega, rfl, HW4.out, hbw⟩
            case round =>
              obtain ⟨j, hj, rfl, hws2, hbw2⟩ := hrel
              by_cases hlt2 : j < 500
              · have hjI : (j : Int) < 500 := by omega
                by_cases hdu : j + 1 = l
                · obtain ⟨e1, e2⟩ := sv_due hdu
                  have hduB : ((j : Int) + 1 == (l : Int)) = true := by simp; omega
                  have E1 := Lib.hid e1
                  have E2 := Lib.hid e2
                  clear e1 e2
                  have HT := Lib.hid (tick_one hws2.out (by omega) E1.out E2.out)
                  go_wp2_with fail
                  with_reducible refine HT.out.mono ?_
                  rintro e w5 ⟨⟨b5, o5, c5, rfl, hc5, hl5⟩, hw5, hb5⟩
                  have HW5 := Lib.hid hw5
                  clear hw5
                  go_wp2
                  exact ⟨⟨j + 1, by omega, by simp, HW5.out, hbw2.trans hb5⟩, by simp [intOf]; omega⟩
                · obtain ⟨e1, e2⟩ := sv_none hdu
                  have hduB : ((j : Int) + 1 == (l : Int)) = false := by simp; omega
                  have E1 := Lib.hid e1
                  have E2 := Lib.hid e2
                  clear e1 e2
                  have HT := Lib.hid (tick_none hws2.out (by omega) E1.out E2.out)
                  go_wp2_with fail
                  with_reducible refine HT.out.mono ?_
                  rintro e w5 ⟨⟨A5, c5, rfl⟩, hw5, hb5⟩
                  have HW5 := Lib.hid hw5
                  clear hw5
                  go_wp2
                  exact ⟨⟨j + 1, by omega, by simp, HW5.out, hbw2.trans hb5⟩, by simp [intOf]; omega⟩
              · obtain rfl : j = 500 := by omega
                have e1 : sv l 500 = [] := by unfold sv; rw [if_neg (by omega)]
                have hw4 := hws2.out
                rw [e1] at hw4
                have HLn := Lib.hid (len_S hw4)
                clear hw4 e1
                go_wp2_with fail
                with_reducible refine HLn.out.mono ?_
                rintro e w4 ⟨rfl, hw4, hb4⟩
                have HSt := Lib.hid (stop_S hw4 3)
                clear hw4
                go_wp2_with fail
                with_reducible refine HSt.out.mono ?_
                rintro e w5 ⟨rfl, hw5, hb5⟩
                have hin : isIn [] 3 = false := rfl
                clear hw5
                go_wp2
                go_ret
                exact ⟨rfl, (hbw2.trans hb4).trans hb5⟩
          | true =>
            have HSt0 := Lib.hid (stop_S hws.out 3)
            have hin0 : isIn [(3, l)] 3 = true := by simp [isIn]
            have hdel0 : del [(3, l)] 3 = [] := by simp [del]
            rw [hin0, hdel0] at HSt0
            clear hin0 hdel0
            go_wp2_with fail
            with_reducible refine HSt0.out.mono ?_
            rintro e w3 ⟨rfl, hw3, hb3⟩
            have HW4 : Hid (Ws w.heap.size w3 p 0 (sv 0 0)) := hw3
            have hB3 := hbw.trans hb3
            clear hw3 hb3 hbw
            go_wp2
            go_loopw [43] (fun i wr => ∃ j : Nat, j ≤ 500 ∧ i = .int .i64 (j : Int) ∧ Hid (Ws w.heap.size wr p j (sv 0 j)) ∧ Below w.heap.size w wr) (fun i _ => 500 - (intOf i).toNat)
            case atStart => exact ⟨0, by omega, rfl, HW4.out, hB3⟩
            case round =>
              obtain ⟨j, hj, rfl, hws2, hbw2⟩ := hrel
              by_cases hlt2 : j < 500
              · have hjI : (j : Int) < 500 := by omega
                obtain ⟨e1, e2⟩ := sv_none (L := 0) (i := j) (by omega)
                have E1 := Lib.hid e1
                have E2 := Lib.hid e2
                clear e1 e2
                have HT := Lib.hid (tick_none hws2.out (by omega) E1.out E2.out)
                go_wp2_with fail
                with_reducible refine HT.out.mono ?_
                rintro e w5 ⟨⟨A5, c5, rfl⟩, hw5, hb5⟩
                have HW5 := Lib.hid hw5
                clear hw5
                go_wp2
                exact ⟨⟨j + 1, by omega, by simp, HW5.out, hbw2.trans hb5⟩, by simp [intOf]; omega⟩
              · obtain rfl : j = 500 := by omega
                have e1 : sv 0 500 = [] := by unfold sv; rw [if_neg (by omega)]
                have hw4 := hws2.out
                rw [e1] at hw4
                have HLn := Lib.hid (len_S hw4)
                clear hw4 e1
                go_wp2_with fail
                with_reducible refine HLn.out.mono ?_
                rintro e w4 ⟨rfl, hw4, hb4⟩
                have HSt := Lib.hid (stop_S hw4 3)
                clear hw4
                go_wp2_with fail
                with_reducible refine HSt.out.mono ?_
                rintro e w5 ⟨rfl, hw5, hb5⟩
                have hin : isIn [] 3 = false := rfl
                clear hw5
                go_wp2
                go_ret
                exact ⟨rfl, (hbw2.trans hb4).trans hb5⟩
end Go.Proofs.Ytecejikolgkihaa.LawD
