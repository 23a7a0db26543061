/- CrcBursts walked: a burst of up to 32 turned bits changes the sum. -/
import Derived.Test.YtokfkihcofpfpaaDoorLawD
import Derived.Test.YtokfkihcofpfpaaDoorMatA
namespace Go.Proofs.YtokfkihcofpfpaaDoor.LawE
open Go.RowKit Go.Proofs.YtokfkihcofpfpaaDoor.MatA Go.Proofs.YtokfkihcofpfpaaDoor.Kit Go.Proofs.YtokfkihcofpfpaaDoor.Crc Go.Proofs.YtokfkihcofpfpaaDoor.SumA Go.Proofs.YtokfkihcofpfpaaDoor.SumB Go.Proofs.YtokfkihcofpfpaaDoor.Begun Go.Proofs.YtokfkihcofpfpaaDoor.LawA Go.Proofs.YtokfkihcofpfpaaDoor.LawC Go.Proofs.YtokfkihcofpfpaaDoor.LawD

set_option maxHeartbeats 400000 in
theorem bursts_empty (A : Option Addr) (c b : Nat) (x : Int) (w : World) (ht : Tab w) :
    Calls Tryd.prog 6 #[.slice A 0 c, .int .i64 x, .int .u32 (b : Int)] w fun e w' => e = .returned (.bool true) ∧ Below w.heap.size w w' := by
  have HT := Lib.hid ht
  clear ht
  go_enter Tryd.func6, Tryd.ntmps6
  go_wp2_with fail
  refine (begun_any _ HT.out).mono ?_
  rintro e w1 ⟨rfl, hb1⟩
  go_wp2
  go_ret
  exact ⟨rfl, hb1⟩

set_option maxHeartbeats 400000 in
theorem bursts_zero (A : Option Addr) (n c : Nat) (x : Int) (w : World) (hn : 0 < n) (ht : Tab w) :
    Calls Tryd.prog 6 #[.slice A n c, .int .i64 x, .int .u32 0] w fun e w' => e = .returned (.bool true) ∧ Below w.heap.size w w' := by
  have HT := Lib.hid ht
  clear ht
  have hne : ((n : Int) == 0) = false := by simp; omega
  go_enter Tryd.func6, Tryd.ntmps6
  go_wp2_with fail
  refine (begun_any _ HT.out).mono ?_
  rintro e w1 ⟨rfl, hb1⟩
  go_wp2
  go_ret
  exact ⟨rfl, hb1⟩

set_option maxRecDepth 100000 in
set_option maxHeartbeats 1000000 in
theorem bursts_some (A : Option Addr) (n c : Nat) (l : List UInt8) (x : Int) (b P : Nat) (w : World) (h : RB w A n l) (hnc : n ≤ c) (hc : c ≤ 9223372036854775807) (hn : n ≤ 140737488351232) (hn0 : 0 < n) (hb : b < 2 ^ 32) (hb0 : 0 < b)
    (hx : Hid ((wrap64 (x.tmod (8 * (n : Int)) + 8 * (n : Int))).tmod (8 * (n : Int)) = (P : Int))) (hP : P < 8 * n) (ht : Tab w) :
    Calls Tryd.prog 6 #[.slice A n c, .int .i64 x, .int .u32 (b : Int)] w fun e w' => e = .returned (.bool true) ∧ Below w.heap.size w w' := by
  obtain ⟨i0, hi0, hi1, hi2, hi3⟩ := info_parts info8
  have HT := Lib.hid ht
  have hne1 : ((n : Int) == 0) = false := by simp; omega
  have hne2 : ((b : Int) == 0) = false := by simp; omega
  have hm1 : 0 + n ≤ maxLen := by unfold maxLen; omega
  have hs1 : (0 + n) * 1 ≤ 140737488355328 := by rw [Nat.mul_one]; omega
  clear ht
  go_enter Tryd.func6, Tryd.ntmps6
  go_wp2_with fail
  refine (begun_any _ HT.out).mono ?_
  rintro e w1 ⟨rfl, hb1⟩
  have hB1 := hb1.size
  have hr1 : Reads w1 w.heap.size 1 A n (vals l) := h.below hb1
  go_wp2_with (at_builtin
               refine wpList_append_any _ rfl (.const (.slice none 0 0)) (.tmp 30) _ rfl w.heap.size 5 i0 _ 1 1 Tryd.underlying23 hi0 hi1 hi2 hi3 rfl (by decide) _ 0 [] rfl (World.ownsRow_nil _ _ _ _)
                 w.heap.size A n _ (vals l) rfl hr1 (vals_one _) hm1 hs1 hB1 ?_
               intro v2 w2 hown2 hg2 hat2
               clear hat2
               obtain ⟨hbel2, hB2, hkeep2⟩ := behind_old (World.ownsRow_nil _ _ 5 1) hb1 hB1 hg2
               have hr2 := hkeep2 hr1
               obtain ⟨X, cx, rfl, hxc, hxm, _⟩ := own_form hown2
               clear hg2)
  rw [hx.out]
  have hlen := reads_len h
  have HLEN := Lib.hid hlen
  rw [Nat.zero_add] at hown2
  have hown2' : w2.ownsRow w.heap.size 5 1 (.slice X n cx) n (vals (burstOn l P b 0)) := hown2
  obtain ⟨g, hX, hgB⟩ : ∃ g, X = some ⟨g, 0, none⟩ ∧ w.heap.size ≤ g := by
    obtain ⟨g, cap, hv, hg, _⟩ := hown2'.form hn0
    exact ⟨g, by injection hv, hg⟩
  subst hX
  clear hown2 hlen hm1 hs1
  go_loopw [9, 32] (fun u i wr => ∃ q : Nat, q ≤ 32 ∧ i = .int .i64 q ∧ u = .bool (turned (8 * n) P b q) ∧ wr.ownsRow w.heap.size 5 1 (.slice (some ⟨g, 0, none⟩) n cx) n (vals (burstOn l P b q)) ∧ Below w.heap.size w wr)
    (fun _ i _ => 32 - (intOf i).toNat)
  case atStart => exact ⟨0, by omega, rfl, rfl, hown2', hbel2⟩
  case round =>
    obtain ⟨q, hq, rfl, rfl, hown, hbel⟩ := hrel
    clear hown2' hbel2
    by_cases hlt : q < 32
    · have hbit := bit_eq b q hb
      by_cases h1 : b / 2 ^ q % 2 = 1
      · rw [h1] at hbit
        by_cases hin : P + q < 8 * n
        · have HOWN := Lib.hid hown
          have hin' : (P : Int) + q < 8 * n := by omega
          have H1 := Lib.hid h1
          have HIN := Lib.hid hin
          have hly : (burstOn l P b q).length = n := by rw [burstOn_length, HLEN.out]
          have hnext : burstOn l P b (q + 1) = turn (burstOn l P b q) (P + q) := by
            show (if b / 2 ^ q % 2 = 1 ∧ P + q < 8 * l.length then _ else _) = _
            rw [if_pos ⟨h1, by rw [HLEN.out]; exact hin⟩]
          have hturned : turned (8 * n) P b (q + 1) = true := by
            show (if b / 2 ^ q % 2 = 1 ∧ P + q < 8 * n then _ else _) = _
            rw [if_pos ⟨h1, hin⟩]
          have hJ : (P + q) / 8 < n := by omega
          have hR : (P + q) % 8 < 8 := by omega
          have eJ : ((P : Int) + q) / 8 = (((P + q) / 8 : Nat) : Int) := by omega
          have eR : ((P : Int) + q) % 8 = (((P + q) % 8 : Nat) : Int) := by omega
          unfold turn at hnext
          generalize (P + q) / 8 = J at hJ eJ hnext
          generalize (P + q) % 8 = R at hR eR hnext
          generalize burstOn l P b q = y at hown hly hnext
          have hJy : J < y.length := by omega
          have hcell : wr.cell? ⟨g, J, none⟩ = some (.int .u8 (y[J].toNat : Int)) := by rw [hown.cellAt J (by omega), vals_get y J hJy]
          have hfr : wr.frozen? ⟨g, J, none⟩ = false := hown.frozenAt J
          rw [List.getD_eq_getElem?_getD, List.getElem?_eq_getElem hJy, Option.getD_some] at hnext
          have hpow : (2 : Int) ^ R % 256 = ((UInt8.ofNat (2 ^ R)).toNat : Int) := by
            have : 2 ^ R < 2 ^ 8 := Nat.pow_lt_pow_right (by decide) hR
            have e : ((2 : Int) ^ R) = ((2 ^ R : Nat) : Int) := by simp
            rw [e, UInt8.toNat_ofNat']
            omega
          have hxo := xor8 y[J] (UInt8.ofNat (2 ^ R))
          obtain ⟨v, hv⟩ : ∃ v, v = y[J] ^^^ UInt8.ofNat (2 ^ R) := ⟨_, rfl⟩
          rw [← hv] at hxo hnext
          have hvl := v.toNat_lt
          generalize UInt8.ofNat (2 ^ R) = D at hpow hxo hv
          have hDl := D.toNat_lt
          have hst := hown.stored J (.int .u8 (v.toNat : Int))
          have hset : (vals y).set J (.int .u8 (v.toNat : Int)) = vals (burstOn l P b (q + 1)) := by rw [hnext]; simp [vals, List.map_set]
          rw [hset] at hst
          generalize y[J] = z at *
          have hzl := z.toNat_lt
          have HST := Lib.hid hst
          have HTU := Lib.hid hturned
          clear h1 hown hin hly hnext hturned hJy hv hst hset
          go_wp2
          go_region
          go_wp2
          go_roundw
          case rel => exact ⟨q + 1, by omega, by go_num, by rw [HTU.out], HST.out.1, (hbel.setCell (show w.heap.size ≤ g from hgB) _).drew⟩
          case measure => simp [intOf]; omega
        · have hin' : ¬ ((P : Int) + q < 8 * n) := by omega
          have hnext : burstOn l P b (q + 1) = burstOn l P b q := by
            show (if b / 2 ^ q % 2 = 1 ∧ P + q < 8 * l.length then _ else _) = _
            rw [if_neg (by rw [HLEN.out]; exact fun e => hin e.2)]
          have hturned : turned (8 * n) P b (q + 1) = turned (8 * n) P b q := by
            show (if b / 2 ^ q % 2 = 1 ∧ P + q < 8 * n then _ else _) = _
            rw [if_neg (fun e => hin e.2)]
          rw [← hnext] at hown
          have HTU := Lib.hid hturned
          have H1 := Lib.hid h1
          clear hnext hturned h1 hin
          go_wp2
          go_roundw
          case rel => exact ⟨q + 1, by omega, by go_num, by rw [HTU.out], hown, hbel⟩
          case measure => simp [intOf]; omega
      · have h0 : b / 2 ^ q % 2 = 0 := by omega
        rw [h0] at hbit
        have hnext : burstOn l P b (q + 1) = burstOn l P b q := by
          show (if b / 2 ^ q % 2 = 1 ∧ P + q < 8 * l.length then _ else _) = _
          rw [if_neg (by rw [HLEN.out]; exact fun e => h1 e.1)]
        have hturned : turned (8 * n) P b (q + 1) = turned (8 * n) P b q := by
          show (if b / 2 ^ q % 2 = 1 ∧ P + q < 8 * n then _ else _) = _
          rw [if_neg (fun e => h1 e.1)]
        rw [← hnext] at hown
        have HTU := Lib.hid hturned
        clear hnext hturned h1 h0
        go_wp2
        go_roundw
        case rel => exact ⟨q + 1, by omega, by go_num, by rw [HTU.out], hown, hbel⟩
        case measure => simp [intOf]; omega
    · have hq' : q = 32 := by omega
      subst hq'
      have hfin := burst_sum l P b (by rw [HLEN.out]; exact hP)
      rw [HLEN.out] at hfin
      have hBr := hbel.size
      have HT3 := Lib.hid (Tab.below HT.out hbel)
      have hxr : RB wr (some ⟨g, 0, none⟩) n (burstOn l P b 32) := Reads.of_own hown
      have har : RB wr A n l := (h.below hbel).more hBr
      generalize turned (8 * n) P b 32 = tb at hfin
      generalize burstOn l P b 32 = y at hfin hxr
      obtain ⟨s0, h0⟩ : ∃ s, add 0 y = s := ⟨_, rfl⟩
      obtain ⟨s1, h1⟩ : ∃ s, add 0 l = s := ⟨_, rfl⟩
      rw [h0, h1] at hfin
      have HS0 := Lib.hid h0
      have HS1 := Lib.hid h1
      have hcx : cx ≤ 9223372036854775807 := by have := hxm; unfold maxLen at this; omega
      have hncx : n ≤ cx := by omega
      clear h0 h1 hown hxm hxc
      by_cases hs : s0 = s1
      · subst hs
        have htb : tb = false := by rw [← hfin]; simp
        subst htb
        clear hfin
        go_wp2_with fail
        refine (sum_hid _ n cx s0 y _ hxr HT3.out hncx hcx HS0).mono ?_
        rintro e w' ⟨rfl, rfl⟩
        go_wp2_with fail
        refine (sum_hid A n c s0 l _ har HT3.out hnc hc HS1).mono ?_
        rintro e w' ⟨rfl, rfl⟩
        go_wp2
        go_ret
        exact ⟨rfl, hbel⟩
      · have htb : tb = true := by rw [← hfin]; simp [hs]
        subst htb
        have hsne : ((s0 : Int) != (s1 : Int)) = true := by simp; omega
        clear hfin hs
        go_wp2_with fail
        refine (sum_hid _ n cx s0 y _ hxr HT3.out hncx hcx HS0).mono ?_
        rintro e w' ⟨rfl, rfl⟩
        go_wp2_with fail
        refine (sum_hid A n c s1 l _ har HT3.out hnc hc HS1).mono ?_
        rintro e w' ⟨rfl, rfl⟩
        go_wp2
        go_ret
        exact ⟨rfl, hbel⟩

theorem bursts_walk (A : Option Addr) (n c : Nat) (l : List UInt8) (x z : Int) (w : World) (h : RB w A n l) (hnc : n ≤ c) (hc : c ≤ 9223372036854775807) (hn : n ≤ 140737488351232)
    (_hx : (Lit.int .i64 x).wf = true) (hz : (Lit.int .u32 z).wf = true) (ht : Tab w) :
    Calls Tryd.prog 6 #[.slice A n c, .int .i64 x, .int .u32 z] w fun e w' => e = .returned (.bool true) ∧ Below w.heap.size w w' := by
  obtain ⟨b, rfl, hb⟩ := u32_nat hz
  rcases Nat.eq_zero_or_pos n with rfl | hn0
  · exact bursts_empty A c b x w ht
  · rcases Nat.eq_zero_or_pos b with rfl | hb0
    · exact bursts_zero A n c x w hn0 ht
    · have hk : (0 : Int) < 8 * (n : Int) := by omega
      have h1 := Int.tmod_lt_of_pos x hk
      have h2 := Int.lt_tmod_of_pos x hk
      have hw : wrap64 (x.tmod (8 * (n : Int)) + 8 * (n : Int)) = x.tmod (8 * (n : Int)) + 8 * (n : Int) := by
        unfold wrap64
        omega
      have h3 : 0 ≤ x.tmod (8 * (n : Int)) + 8 * (n : Int) := by omega
      have h4 := Int.tmod_nonneg (8 * (n : Int)) h3
      have h5 := Int.tmod_lt_of_pos (x.tmod (8 * (n : Int)) + 8 * (n : Int)) hk
      exact bursts_some A n c l x b ((x.tmod (8 * (n : Int)) + 8 * (n : Int)).tmod (8 * (n : Int))).toNat w h hnc hc hn hn0 hb hb0 (by show _ = _; rw [hw]; omega) (by omega) ht
end Go.Proofs.YtokfkihcofpfpaaDoor.LawE
