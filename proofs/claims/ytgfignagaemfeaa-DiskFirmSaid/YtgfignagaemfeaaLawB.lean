/- The walk of the statement that with fuel for so many steps just so many are done. -/
import Derived.Test.YtgfignagaemfeaaBegun
import Derived.Lib.MinMax
namespace Go.Proofs.Ytgfignagaemfeaa.LawB
open Go.RowKit Go.Proofs.Ytgfignagaemfeaa.Kit Go.Proofs.Ytgfignagaemfeaa.Blocks Go.Proofs.Ytgfignagaemfeaa.Model Go.Proofs.Ytgfignagaemfeaa.Disk Go.Proofs.Ytgfignagaemfeaa.WalkC Go.Proofs.Ytgfignagaemfeaa.WalkD Go.Proofs.Ytgfignagaemfeaa.WalkJ Go.Proofs.Ytgfignagaemfeaa.Ops Go.Proofs.Ytgfignagaemfeaa.Begun

/-- Behind i tries, with fuel for f steps. -/
structure Tried (f i : Nat) (m : M) : Prop where
  room : m.room = 1000
  used : m.used = min i f
  off : m.off = decide (f < i)
  fuel : m.fuel = ((f - i : Nat) : Int)
theorem tried_new (f : Nat) (hf : f < 50) : Tried f 0 ((M.new 1000).fuelled (f : Int)) :=
  ⟨rfl, by rw [used_fuelled]; simp; rfl, by simp [M.fuelled, M.new], by simp only [M.fuelled]; omega⟩
theorem tried_step {f i : Nat} {m : M} (h : Tried f i m) (hi : i < 80) (hf : f < 50) : (m.append ((i : Int) % 16) [120]).1 = (if i < f then 0 else 10) ∧ Tried f (i + 1) (m.append ((i : Int) % 16) [120]).2 := by
  obtain ⟨h1, h2, h3, h4⟩ := h
  have hr : 0 ≤ (i : Int) % 16 ∧ (i : Int) % 16 < 16 := by omega
  unfold M.append
  rw [if_neg (by simpa using hr)]
  by_cases hlt : f < i
  · have hoff : m.off = true := by rw [h3]; exact decide_eq_true hlt
    rw [if_pos hoff, if_neg (by omega)]
    exact ⟨rfl, h1, show m.used = _ by omega, show m.off = _ by rw [hoff]; exact (decide_eq_true (by omega)).symm, show m.fuel = _ by omega⟩
  · have hoff : m.off = false := by rw [h3]; exact decide_eq_false hlt
    rw [if_neg (by rw [hoff]; decide), if_neg (by rw [h1, h2]; simp only [List.length_singleton]; omega)]
    by_cases he : i = f
    · rw [if_pos (by omega), if_neg (by omega)]
      exact ⟨rfl, h1, by rw [used_dead]; omega, (decide_eq_true (by omega)).symm, by simp only [M.dead]; omega⟩
    · rw [if_neg (by omega), if_pos (by omega)]
      refine ⟨rfl, h1, ?_, ?_, ?_⟩
      · show (m.burnt.set _ _ _ _).used = _
        have hu := used_set m.burnt (i := ((i : Int) % 16).toNat) (by omega) (m.firm ((i : Int) % 16).toNat) (m.soft ((i : Int) % 16).toNat ++ [120]) true
        rw [used_burnt] at hu
        have hl : m.burnt.len ((i : Int) % 16).toNat = (m.firm ((i : Int) % 16).toNat).length + (m.soft ((i : Int) % 16).toNat).length := rfl
        rw [hl, List.length_append] at hu
        simp only [List.length_singleton] at hu
        omega
      · show m.off = _
        rw [hoff]
        exact (decide_eq_false (by omega)).symm
      · simp only [M.set, M.burnt]
        split <;> omega
theorem off_lit {B : Nat} {L : List Nat} {w : World} {p N : Nat} {m : M} (h : Has B L w p N m) {b : Bool} (hb : Hid (m.off = b)) : Calls Try.prog 15 #[.pointer (some ⟨p, 0, none⟩)] w fun e w' => e = .returned (.bool b) ∧ w = w' := by
  have := off_has h
  rwa [hb.out] at this
def ex : ByteArray := ⟨#[120]⟩

set_option maxHeartbeats 2000000 in
theorem fuel_walk (a b : Int) (w : World) (_ha : (Lit.int .i64 a).wf = true) (_hb : (Lit.int .i64 b).wf = true) : Calls Try.prog 5 #[.int .i64 a, .int .i64 b] w fun e w' => e = .returned (.bool true) ∧ Below w.heap.size w w' := by
  have t1 := Int.tmod_lt_of_pos a (b := 50) (by decide)
  have t2 := Int.lt_tmod_of_pos a (b := 50) (by decide)
  have t3 := Int.tmod_lt_of_pos b (b := 80) (by decide)
  have t4 := Int.lt_tmod_of_pos b (b := 80) (by decide)
  obtain ⟨f, hN⟩ : ∃ f : Nat, (a.tmod 50 + 50) % 50 = (f : Int) := ⟨((a.tmod 50 + 50) % 50).toNat, by omega⟩
  obtain ⟨T, hZ⟩ : ∃ T : Nat, (b.tmod 80 + 80) % 80 = (T : Int) := ⟨((b.tmod 80 + 80) % 80).toNat, by omega⟩
  have hf : f < 50 := by omega
  have hT : T < 80 := by omega
  go_enter Try.func5, Try.ntmps5
  go_wp2_with fail
  refine (begun_true _).mono ?_
  rintro e w1 ⟨rfl, hb1⟩
  go_wp2_with fail
  refine (new_has (B := w.heap.size) 1000 (by decide) hb1.size).mono ?_
  rintro e w2 ⟨p, rfl, h2, _, hb2⟩
  have hb2' := hb1.trans (hb2.mono hb1.size)
  clear hb1 hb2
  go_wp2_with fail
  refine (fuel_has (f : Int) h2 (by omega) (by omega)).mono ?_
  rintro e w3 ⟨rfl, h3, k3⟩
  have hb3 := hb2'.trans (k3.below h2.low)
  have hin0 := tried_new f hf
  obtain ⟨m0, q0⟩ : ∃ m0, (M.new 1000).fuelled (f : Int) = m0 := ⟨_, rfl⟩
  rw [q0] at h3 hin0
  have HI0 := Lib.hid hin0
  have hmf : min (0 : Nat) f = 0 := by omega
  have HMF := Lib.hid hmf
  clear hin0 q0 h2 k3 hb2' hN hZ t1 t2 t3 t4 hmf
  go_wp2
  go_loopw [7, 27] (fun d i wr => ∃ (k : Nat) (m : M), k ≤ T ∧ i = .int .i64 (k : Int) ∧ d = .int .i64 ((min k f : Nat) : Int) ∧ Has w.heap.size [] wr p k m ∧ Hid (Tried f k m) ∧ Below w.heap.size w wr) (fun _ i _ => T - (intOf i).toNat)
  case atStart => exact ⟨0, m0, by omega, rfl, by rw [HMF.out]; rfl, h3, HI0, hb3⟩
  case round =>
    obtain ⟨k, m, hk, rfl, rfl, hh, HI, hbel⟩ := hrel
    by_cases hlt : k < T
    · by_cases h1 : k < f
      · have hmin : min k f = k := by omega
        rw [hmin]
        clear hmin
        have hoff : m.off = false := by rw [HI.out.off]; exact decide_eq_false (by omega)
        have HO := Lib.hid hoff
        have hst := tried_step HI.out (show k < 80 by omega) hf
        rw [if_pos h1] at hst
        have E1 := Lib.hid hst.1
        obtain ⟨m', q'⟩ : ∃ m', (m.append ((k : Int) % 16) [120]).2 = m' := ⟨_, rfl⟩
        have h2' := hst.2
        rw [q'] at h2'
        have HI' := Lib.hid h2'
        have Q1 := Lib.hid q'
        have hD : ((min (k + 1) f : Nat) : Int) = (k : Int) + 1 := by omega
        have HD := Lib.hid hD
        have hlow := hh.low
        clear hoff hst q' h2' hD
        go_wp2_with fail
        refine (off_lit hh HO).mono ?_
        rintro e w4 ⟨rfl, rfl⟩
        go_wp2_with fail
        refine (append_has ((k : Int) % 16) ex hh (by omega)).mono ?_
        intro e w5 hd
        obtain ⟨rfl, h5, k5⟩ := Done.lit hd E1 Q1
        clear hd
        have hb5 := hbel.trans (k5.below hlow)
        go_wp2
        go_roundw
        case rel => exact ⟨k + 1, m', by omega, by go_num, by rw [HD.out], h5, HI', hb5⟩
        case measure => simp [intOf]; omega
      · have hmin : min k f = f := by omega
        rw [hmin]
        clear hmin
        by_cases h2 : f < k
        · have hoff : m.off = true := by rw [HI.out.off]; exact decide_eq_true h2
          have HO := Lib.hid hoff
          have hst := tried_step HI.out (show k < 80 by omega) hf
          rw [if_neg h1] at hst
          have E1 := Lib.hid hst.1
          obtain ⟨m', q'⟩ : ∃ m', (m.append ((k : Int) % 16) [120]).2 = m' := ⟨_, rfl⟩
          have h2' := hst.2
          rw [q'] at h2'
          have HI' := Lib.hid h2'
          have Q1 := Lib.hid q'
          have hD : ((min (k + 1) f : Nat) : Int) = (f : Int) := by omega
          have HD := Lib.hid hD
          have hlow := hh.low
          clear hoff hst q' h2' hD
          go_wp2_with fail
          refine (off_lit hh HO).mono ?_
          rintro e w4 ⟨rfl, rfl⟩
          go_wp2_with fail
          refine (append_has ((k : Int) % 16) ex hh (by omega)).mono ?_
          intro e w5 hd
          obtain ⟨rfl, h5, k5⟩ := Done.lit hd E1 Q1
          clear hd
          have hb5 := hbel.trans (k5.below hlow)
          go_wp2
          go_roundw
          case rel => exact ⟨k + 1, m', by omega, by go_num, by rw [HD.out], h5, HI', hb5⟩
          case measure => simp [intOf]; omega
        · have hoff : m.off = false := by rw [HI.out.off]; exact decide_eq_false h2
          have HO := Lib.hid hoff
          have hst := tried_step HI.out (show k < 80 by omega) hf
          rw [if_neg h1] at hst
          have E1 := Lib.hid hst.1
          obtain ⟨m', q'⟩ : ∃ m', (m.append ((k : Int) % 16) [120]).2 = m' := ⟨_, rfl⟩
          have h2' := hst.2
          rw [q'] at h2'
          have HI' := Lib.hid h2'
          have Q1 := Lib.hid q'
          have hD : ((min (k + 1) f : Nat) : Int) = (f : Int) := by omega
          have HD := Lib.hid hD
          have hlow := hh.low
          clear hoff hst q' h2' hD
          go_wp2_with fail
          refine (off_lit hh HO).mono ?_
          rintro e w4 ⟨rfl, rfl⟩
          go_wp2_with fail
          refine (append_has ((k : Int) % 16) ex hh (by omega)).mono ?_
          intro e w5 hd
          obtain ⟨rfl, h5, k5⟩ := Done.lit hd E1 Q1
          clear hd
          have hb5 := hbel.trans (k5.below hlow)
          go_wp2
          go_roundw
          case rel => exact ⟨k + 1, m', by omega, by go_num, by rw [HD.out], h5, HI', hb5⟩
          case measure => simp [intOf]; omega
    · obtain rfl : k = T := by omega
      obtain ⟨D, hDD⟩ : ∃ D, min k f = D := ⟨_, rfl⟩
      have hmn : min (f : Int) (k : Int) = (D : Int) := by omega
      have hus : (m.used : Int) = (D : Int) := by rw [HI.out.used, hDD]
      have HU := Lib.hid hus
      rw [hDD]
      clear hDD hus
      by_cases h2 : f < k
      · have hoff : m.off = true := by rw [HI.out.off]; exact decide_eq_true h2
        have HO := Lib.hid hoff
        clear hoff
        go_wp2_with fail
        refine (used_has hh).mono ?_
        intro e w4 hd
        obtain ⟨rfl, hb4⟩ := TellsD.lit hd HU
        clear hd
        go_wp2_with fail
        refine (off_lit (hh.below hb4) HO).mono ?_
        rintro e w5 ⟨rfl, rfl⟩
        go_wp2
        go_ret
        exact ⟨rfl, hbel.trans (hb4.mono hbel.size)⟩
      · have hoff : m.off = false := by rw [HI.out.off]; exact decide_eq_false h2
        have HO := Lib.hid hoff
        clear hoff
        go_wp2_with fail
        refine (used_has hh).mono ?_
        intro e w4 hd
        obtain ⟨rfl, hb4⟩ := TellsD.lit hd HU
        clear hd
        go_wp2_with fail
        refine (off_lit (hh.below hb4) HO).mono ?_
        rintro e w5 ⟨rfl, rfl⟩
        go_wp2
        go_ret
        exact ⟨rfl, hbel.trans (hb4.mono hbel.size)⟩
end Go.Proofs.Ytgfignagaemfeaa.LawB
