/- What the record of a frame is, walked: the program's own unframing. -/
import Derived.Test.YtamncdpeklbhlaaGreatDoorFrA
set_option linter.unusedVariables false
set_option linter.unusedSimpArgs false
namespace Go.Proofs.YtamncdpeklbhlaaGreatDoor.FrB
open Go.RowKit Go.Proofs.YtamncdpeklbhlaaGreatDoor.Kit Go.Proofs.YtamncdpeklbhlaaGreatDoor.Blocks Go.Proofs.YtamncdpeklbhlaaGreatDoor.Stuff Go.Proofs.YtamncdpeklbhlaaGreatDoor.Crc Go.Proofs.YtamncdpeklbhlaaGreatDoor.SumA Go.Proofs.YtamncdpeklbhlaaGreatDoor.SumB Go.Proofs.YtamncdpeklbhlaaGreatDoor.Wal Go.Proofs.YtamncdpeklbhlaaGreatDoor.StuWalkA Go.Proofs.YtamncdpeklbhlaaGreatDoor.StuWalkD Go.Proofs.YtamncdpeklbhlaaGreatDoor.StuWalkG Go.Proofs.YtamncdpeklbhlaaGreatDoor.FrA
open Go.Proofs.YtamncdpeklbhlaaGreatDoor.DskWalkC (str)

/-- What an unframing leaves. -/
def Unf (w : World) (o : Option (List UInt8)) (e : Ending) (w' : World) : Prop :=
  match o with
  | some x => e = .returned (.tuple #[.string (str x), .bool true]) ∧ Below w.heap.size w w'
  | none => e = .returned (.tuple #[.string (str []), .bool false]) ∧ Below w.heap.size w w'

set_option maxRecDepth 100000 in
set_option maxHeartbeats 1000000 in
theorem unframe_bad (s : ByteArray) (w : World) (hs : s.size ≤ 1000000000) (hu : unstuff s.data.toList = none) :
    Calls Tryz.prog 100 #[.string s] w fun e w' => e = .returned (.tuple #[.string (str []), .bool false]) ∧ Below w.heap.size w w' := by
  obtain ⟨c1, w1, hcv1, hrow1, hbel1, hc11, hc12, hr1⟩ := bytes_of s w hs
  have hd := StuWalkD.decode_any _ s.size c1 s.data.toList w1 hr1 hc11 hc12 (by omega)
  rw [hu] at hd
  have HD := Lib.hid hd
  clear hd hrow1 hr1
  go_enter Tryz.func100, Tryz.ntmps100
  go_wp2_with fail
  refine HD.out.mono ?_
  rintro e w2 ⟨rfl, hb2⟩
  go_wp2_with fail
  go_ret2
  exact ⟨rfl, hbel1.trans (hb2.mono hbel1.size)⟩

theorem drop_reads {w : World} {B n c : Nat} {A : Option Addr} {l : List UInt8} {k : Nat} (h : Reads w B 1 A n (vals l)) (hk : k ≤ n) (hc : n ≤ c) : Reads w B 1 (cutA A c k) (n - k) (vals (l.drop k)) := h.bytes_from hk hc

set_option maxRecDepth 100000 in
set_option maxHeartbeats 2000000 in
theorem unframe_few (s : ByteArray) (b : List UInt8) (w : World) (hs : s.size ≤ 1000000000) (hu : unstuff s.data.toList = some b) (hb : ¬ (4 ≤ b.length ∧ b.length ≤ 65540)) :
    Calls Tryz.prog 100 #[.string s] w fun e w' => e = .returned (.tuple #[.string (str []), .bool false]) ∧ Below w.heap.size w w' := by
  obtain ⟨c1, w1, hcv1, hrow1, hbel1, hc11, hc12, hr1⟩ := bytes_of s w hs
  have hd := StuWalkD.decode_any _ s.size c1 s.data.toList w1 hr1 hc11 hc12 (by omega)
  rw [hu] at hd
  have HD := Lib.hid hd
  obtain ⟨n, hn⟩ : ∃ n, b.length = n := ⟨_, rfl⟩
  have hn2 : n < 4 ∨ 65540 < n := by omega
  have HN := Lib.hid hn
  have hbl := decode_short _ _ hu
  have hbl2 : n < s.size := by rw [← hn]; exact hbl
  clear hd hrow1 hr1 hn hu hb hbl
  go_enter Tryz.func100, Tryz.ntmps100
  go_wp2_with fail
  refine HD.out.mono ?_
  rintro e w2 ⟨v, rfl, hown, hb2⟩
  rw [HN.out] at hown
  obtain ⟨A2, c2, rfl, hc21, hc22, hr2⟩ := own_form hown
  clear hown hr2 HD
  rcases hn2 with h | h
  · go_wp2_with fail
    go_ret2
    exact ⟨rfl, hbel1.trans (hb2.mono hbel1.size)⟩
  · have h4 : ¬ ((n : Int) - 4 < 0) := by omega
    go_wp2_with fail
    go_ret2
    exact ⟨rfl, hbel1.trans (hb2.mono hbel1.size)⟩

set_option maxRecDepth 100000 in
set_option maxHeartbeats 2000000 in
theorem unframe_sum (s : ByteArray) (x t : List UInt8) (w : World) (ht : Tab w) (hs : s.size ≤ 1000000000) (hu : unstuff s.data.toList = some (x ++ t)) (hx : x.length ≤ 65536) (h4 : t.length = 4) :
    Calls Tryz.prog 100 #[.string s] w (Unf w (if t = four (add 0 x) then some x else none)) := by
  obtain ⟨c1, w1, hcv1, hrow1, hbel1, hc11, hc12, hr1⟩ := bytes_of s w hs
  have hd := StuWalkD.decode_any _ s.size c1 s.data.toList w1 hr1 hc11 hc12 (by omega)
  rw [hu] at hd
  have HD := Lib.hid hd
  obtain ⟨k, hk⟩ : ∃ k, x.length = k := ⟨_, rfl⟩
  have hl : (x ++ t).length = k + 4 := by rw [List.length_append, hk, h4]
  have HL := Lib.hid hl
  obtain ⟨r, hr⟩ : ∃ r, add 0 x = r := ⟨_, rfl⟩
  have hr32 : r < 2 ^ 32 := by rw [← hr]; exact add_lt (by decide) _
  have HR := Lib.hid hr
  have hk2 : k ≤ 65536 := by omega
  have hiff := num_four t h4 r hr32
  have hnl := num_lt t 0 0 (by decide)
  rw [h4] at hnl
  rw [hr]
  have HI := Lib.hid hiff
  obtain ⟨z, hz⟩ : ∃ z, num 0 t = z := ⟨_, rfl⟩
  rw [hz] at hnl
  have HZ := Lib.hid hz
  have HK := Lib.hid hk
  have H4 := Lib.hid h4
  obtain ⟨O, hO⟩ : ∃ O, (if t = four r then some x else none) = O := ⟨_, rfl⟩
  rw [hO]
  have HO := Lib.hid hO
  clear hO
  clear hd hrow1 hr1 hu hx hl hr hiff hz hk h4
  go_enter Tryz.func100, Tryz.ntmps100
  go_wp2_with fail
  refine HD.out.mono ?_
  rintro e w2 ⟨v, rfl, hown, hb2⟩
  rw [HL.out] at hown
  obtain ⟨A2, c2, rfl, hc21, hc22, hr2⟩ := own_form hown
  unfold maxLen at hc22
  have hbel2 : Below w.heap.size w w2 := hbel1.trans (hb2.mono hbel1.size)
  have ht2 := Tab.next ht hbel2
  have hpre : RB w2 A2 k x := by
    have := hr2.bytes_upto (m := k) (by omega)
    rwa [show (x ++ t).take k = x by rw [← HK.out]; simp] at this
  have hsuf : RB w2 (cutA A2 c2 k) 4 t := by
    have := hr2.bytes_from (k := k) (cap := c2) (by omega) hc21
    rw [show (x ++ t).drop k = t by rw [← HK.out]; simp] at this
    rwa [show k + 4 - k = 4 by omega] at this
  obtain ⟨b4, o4, hA4, hb4, _⟩ := hsuf.byte (k := 0) (by omega) (by rw [H4.out]; omega)
  rw [hA4] at hsuf
  have hcut := run_from (P := Tryz.prog) 111 5 Tryz.underlying111 sz A2 (k + 4) c2 k (by omega)
  rw [hA4, show k + 4 - k = 4 by omega] at hcut
  have HT := Lib.hid ht2
  clear hown HD ht2 hr2
  go_wp2_with fail
  go_loop [7, 9, 33] (fun y c i => ∃ (j v : Nat), j ≤ 4 ∧ i = .int .i64 (j : Int) ∧ y = .int .u32 (v : Int) ∧ Hid (v = num 0 (t.take j)) ∧ v < 256 ^ j) (fun _ _ i => 4 - (intOf i).toNat)
  case atStart => exact ⟨0, 0, by omega, rfl, rfl, rfl, by decide⟩
  case round =>
    obtain ⟨j, v, hj, rfl, rfl, hv, hvl⟩ := hrel
    by_cases hj4 : j < 4
    · have hjl : j < t.length := by rw [H4.out]; exact hj4
      obtain ⟨b5, o5, hA5, _, hcell⟩ := hsuf.byte hj4 hjl
      injection hA5 with hA5
      injection hA5 with e1 e2
      subst e1 e2
      obtain ⟨c, hc⟩ : ∃ c, t[j] = c := ⟨_, rfl⟩
      rw [hc] at hcell
      have hcl := c.toNat_lt
      have hp : (256 : Nat) ^ j ≤ 256 ^ 3 := Nat.pow_le_pow_right (by omega) (by omega)
      have hv3 : v < 16777216 := by have e : (256 : Nat) ^ 3 = 16777216 := by decide
                                    omega
      have hor : bits .or .u32 ((v : Int) * 256) (c.toNat : Int) = ((v * 256 + c.toNat : Nat) : Int) := by
        have := u32_or_nat (v * 256) c.toNat (by omega) (by omega)
        rw [show ((v * 256 : Nat) : Int) = (v : Int) * 256 by omega] at this
        rw [this]
        congr 1
        have := Nat.two_pow_add_eq_or_of_lt (i := 8) (b := c.toNat) (by simpa using hcl) v
        rw [show v * 256 = 2 ^ 8 * v by omega, this]
      obtain ⟨v', hv'⟩ : ∃ v', v * 256 + c.toNat = v' := ⟨_, rfl⟩
      rw [hv'] at hor
      have HC := Lib.hid hc
      have HV' := Lib.hid hv'
      clear hc hv'
      go_wp2
      go_round
      case rel =>
        have e1 : t.take (j + 1) = t.take j ++ [c] := by rw [List.take_succ_eq_append_getElem hjl, HC.out]
        have e2 : v' = num 0 (t.take (j + 1)) := by
          rw [e1, num_append, ← hv.out]
          exact HV'.out.symm
        have e3 : v' < 256 ^ (j + 1) := by
          have := HV'.out
          rw [Nat.pow_succ]
          omega
        exact ⟨j + 1, v', by omega, by go_num, rfl, e2, e3⟩
      case measure => simp [intOf]; omega
    · obtain rfl : j = 4 := by omega
      have hvz : v = z := by rw [hv.out, ← HZ.out, ← H4.out, List.take_length]
      subst hvz
      clear hv hvl
      go_wp2_with fail
      refine (sum_hid A2 k c2 r x w2 hpre HT.out (by omega) (by omega) HR).mono ?_
      rintro e w' ⟨rfl, rfl⟩
      have hcv := conv w2 _ A2 k c2 x hpre
      by_cases hvr : v = r
      · have hO : O = some x := by rw [← HO.out, if_pos (HI.out.1 (HZ.out.trans hvr))]
        subst hvr
        go_wp2
        go_ret2
        rw [hO]
        exact ⟨rfl, hbel2⟩
      · have hO : O = none := by rw [← HO.out, if_neg fun h => hvr (HZ.out.symm.trans (HI.out.2 h))]
        have hvi : ¬ ((v : Int) = (r : Int)) := by omega
        have hvb : ((v : Int) != (r : Int)) = true := bne_iff_ne.2 hvi
        go_wp2
        go_ret2
        rw [hO]
        exact ⟨rfl, hbel2⟩

theorem unframe_any (s : ByteArray) (w : World) (ht : Tab w) (hs : s.size ≤ 1000000000) : Calls Tryz.prog 100 #[.string s] w (Unf w (unframe s.data.toList)) := by
  cases hu : unstuff s.data.toList with
  | none => rw [unframe_none hu]; exact unframe_bad s w hs hu
  | some b =>
    rw [unframe_some hu]
    by_cases hb : 4 ≤ b.length ∧ b.length ≤ 65540
    · have e : b = b.take (b.length - 4) ++ b.drop (b.length - 4) := (List.take_append_drop _ _).symm
      have := unframe_sum s (b.take (b.length - 4)) (b.drop (b.length - 4)) w ht hs (by rw [← e]; exact hu) (by simp; omega) (by simp; omega)
      by_cases h3 : b.drop (b.length - 4) = four (add 0 (b.take (b.length - 4)))
      · rw [if_pos h3] at this
        rw [if_pos ⟨hb.1, hb.2, h3⟩]
        exact this
      · rw [if_neg h3] at this
        rw [if_neg fun h => h3 h.2.2]
        exact this
    · rw [if_neg fun h => hb ⟨h.1, h.2.1⟩]
      exact unframe_few s b w hs hu hb
end Go.Proofs.YtamncdpeklbhlaaGreatDoor.FrB
