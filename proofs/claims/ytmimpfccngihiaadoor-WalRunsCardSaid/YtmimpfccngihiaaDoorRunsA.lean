/- How an argument that is a slice of texts is opened, and one that is a slice of slices of texts. No statement is proved here. -/
import Derived.Test.YtmimpfccngihiaaDoorSolo
import Derived.Test.YtmimpfccngihiaaDoorLogB
import Derived.Test.YtmimpfccngihiaaDoorLogC
import Derived.Test.YtmimpfccngihiaaDoorScA
import Derived.Test.YtmimpfccngihiaaDoorFrame
import Derived.Test.YtmimpfccngihiaaDoorDskWalkJ
import Derived.WideKeyPair
import Derived.Deep.Slices
import Derived.Deep.Strs
set_option linter.unusedVariables false
set_option linter.unusedSimpArgs false
namespace Go.Proofs.YtmimpfccngihiaaDoor.Small
open Go.RowKit Go.Proofs.YtmimpfccngihiaaDoor.Kit Go.Proofs.YtmimpfccngihiaaDoor.Blocks Go.Proofs.YtmimpfccngihiaaDoor.Stuff Go.Proofs.YtmimpfccngihiaaDoor.Crc Go.Proofs.YtmimpfccngihiaaDoor.SumB Go.Proofs.YtmimpfccngihiaaDoor.Wal Go.Proofs.YtmimpfccngihiaaDoor.FrA Go.Proofs.YtmimpfccngihiaaDoor.FrC Go.Proofs.YtmimpfccngihiaaDoor.ScA Go.Proofs.YtmimpfccngihiaaDoor.ScB Go.Proofs.YtmimpfccngihiaaDoor.Frm Go.Proofs.YtmimpfccngihiaaDoor.Model Go.Proofs.YtmimpfccngihiaaDoor.Disk Go.Proofs.YtmimpfccngihiaaDoor.Ops Go.Proofs.YtmimpfccngihiaaDoor.Log Go.Proofs.YtmimpfccngihiaaDoor.LogB Go.Proofs.YtmimpfccngihiaaDoor.LogC Go.Proofs.YtmimpfccngihiaaDoor.Solo
open Go.Proofs.YtmimpfccngihiaaDoor.DskWalkC (str Got)

/-- Texts that aren't too long in all. -/
def Fair (l : List (List UInt8)) : Prop := weigh l ≤ 20000 ∧ l.length ≤ 200
instance (l : List (List UInt8)) : Decidable (Fair l) := inferInstanceAs (Decidable (_ ∧ _))
theorem Fair.recs {l : List (List UInt8)} (h : Fair l) : Recs l := fun x hx => by have := weigh_mem hx; have := h.1; omega
theorem Fair.frames {l : List (List UInt8)} (h : Fair l) : (Wal.frames l).length ≤ 21300 := by have := frames_short l; have := h.1; have := h.2; omega
theorem weigh_succ {l : List (List UInt8)} {k : Nat} (hk : k < l.length) : weigh (l.take (k + 1)) = weigh (l.take k) + l[k].length := by
  rw [List.take_succ_eq_append_getElem hk, weigh_append]
  simp [weigh]
theorem weigh_few {l : List (List UInt8)} (hx : ∀ x ∈ l, x.length ≤ 140737488355328) : ∀ k, k ≤ l.length → weigh (l.take k) ≤ 140737488355328 * k
  | 0, _ => by simp [weigh]
  | k + 1, h => by
    have h1 := weigh_few hx k (by omega)
    have h2 := hx _ (List.getElem_mem (show k < l.length by omega))
    rw [weigh_succ (by omega)]
    omega

set_option maxRecDepth 100000 in
set_option maxHeartbeats 1000000 in
theorem small_any (A : Option Addr) (n c : Nat) (l : List (List UInt8)) (w : World) (h : RS w A n l) (hn : n ≤ 9223372036854775807) (hx : ∀ x ∈ l, x.length ≤ 140737488355328) :
    Calls Tryd.prog 16 #[.slice A n c] w fun e w' => e = .returned (.bool (decide (Fair l))) ∧ w = w' := by
  have hl := texts_len h
  obtain ⟨b0, hb0⟩ : ∃ b0, decide (Fair l) = b0 := ⟨_, rfl⟩
  rw [hb0]
  have HB := Lib.hid hb0
  have HL := Lib.hid hl
  have HF := Lib.hid (weigh_few hx)
  clear hb0 hl
  go_enter Tryd.func16, Tryd.ntmps16
  go_wp2
  go_loop [3, 8] (fun s i => ∃ (k : Nat) (v : Int), k ≤ n ∧ i = .int .i64 (k : Int) ∧ s = .int .i64 v ∧ -9223372036854775808 ≤ v ∧ v ≤ 9223372036854775807 ∧ Hid (k ≤ 200 → v = (weigh (l.take k) : Int))) (fun _ i => n - (intOf i).toNat)
  case atStart => exact ⟨0, 0, by omega, rfl, rfl, by omega, by omega, fun _ => by simp [weigh]⟩
  case round =>
    obtain ⟨k, v, hk, rfl, rfl, hv0, hv1, hv⟩ := hrel
    by_cases hkn : k < n
    · have hkl : k < l.length := by rw [HL.out]; exact hkn
      obtain ⟨b, o, rfl, hb, hc⟩ := Reads.text h hkn hkl
      obtain ⟨x, hx'⟩ : ∃ x, l[k] = x := ⟨_, rfl⟩
      have hxl : x.length ≤ 140737488355328 := by rw [← hx']; exact hx _ (List.getElem_mem hkl)
      rw [hx'] at hc
      have hxs : (str x).size = x.length := rfl
      obtain ⟨X, hX⟩ : ∃ X, str x = X := ⟨_, rfl⟩
      rw [hX] at hc hxs
      have hbs := weigh_succ hkl
      rw [hx'] at hbs
      have HBS := Lib.hid hbs
      obtain ⟨v', hv'⟩ : ∃ v', wrap64 (v + (X.size : Int)) = v' := ⟨_, rfl⟩
      have hr : -9223372036854775808 ≤ v' ∧ v' ≤ 9223372036854775807 := by rw [← hv']; unfold wrap64; omega
      have hnext : Hid (k + 1 ≤ 200 → v' = (weigh (l.take (k + 1)) : Int)) := fun hk2 => by
        have h1 := hv.out (by omega)
        have h2 := HF.out k (by omega)
        rw [← hv', HBS.out, h1, hxs]
        unfold wrap64
        have : (weigh (l.take k) : Int) ≤ 140737488355328 * 200 := by omega
        omega
      have hr0 := hr.1
      have hr1 := hr.2
      clear hx' hX hbs hr
      go_wp2
      go_round
      case rel => exact ⟨k + 1, v', by omega, by go_num, by rw [← hv', hxs], hr0, hr1, hnext⟩
      case measure => simp [intOf]; omega
    · obtain rfl : k = n := by omega
      have hfull : l.take k = l := List.take_of_length_le (by rw [HL.out]; omega)
      by_cases h200 : k ≤ 200
      · have hvv : v = (weigh l : Int) := by
          have := hv.out h200
          rwa [hfull] at this
        have hki : (k : Int) ≤ 200 := by omega
        by_cases h2 : weigh l ≤ 20000
        · have hbt : b0 = true := by rw [← HB.out]; exact decide_eq_true ⟨h2, by rw [HL.out]; exact h200⟩
          have hvi : v ≤ 20000 := by omega
          subst hbt
          clear hvv h2 hv
          go_wp2
          go_ret
          exact ⟨rfl, rfl⟩
        · have hbf : b0 = false := by rw [← HB.out]; exact decide_eq_false fun k => h2 k.1
          have hvi : ¬ v ≤ 20000 := by omega
          subst hbf
          clear hvv h2 hv
          go_wp2
          go_ret
          exact ⟨rfl, rfl⟩
      · have hbf : b0 = false := by rw [← HB.out]; exact decide_eq_false fun k => h200 (by rw [← HL.out]; exact k.2)
        have hki : ¬ (k : Int) ≤ 200 := by omega
        subst hbf
        by_cases hvi : v ≤ 20000
        · go_wp2
          go_ret
          exact ⟨rfl, rfl⟩
        · go_wp2
          go_ret
          exact ⟨rfl, rfl⟩
end Go.Proofs.YtmimpfccngihiaaDoor.Small
set_option linter.unusedVariables false
set_option linter.unusedSimpArgs false
namespace Go.Proofs.YtmimpfccngihiaaDoor.Beg
open Go.RowKit Go.Proofs.YtmimpfccngihiaaDoor.Kit Go.Proofs.YtmimpfccngihiaaDoor.Blocks Go.Proofs.YtmimpfccngihiaaDoor.Stuff Go.Proofs.YtmimpfccngihiaaDoor.Crc Go.Proofs.YtmimpfccngihiaaDoor.SumB Go.Proofs.YtmimpfccngihiaaDoor.Wal Go.Proofs.YtmimpfccngihiaaDoor.FrA Go.Proofs.YtmimpfccngihiaaDoor.FrC Go.Proofs.YtmimpfccngihiaaDoor.ScA Go.Proofs.YtmimpfccngihiaaDoor.ScB Go.Proofs.YtmimpfccngihiaaDoor.Frm Go.Proofs.YtmimpfccngihiaaDoor.Model Go.Proofs.YtmimpfccngihiaaDoor.Disk Go.Proofs.YtmimpfccngihiaaDoor.Ops Go.Proofs.YtmimpfccngihiaaDoor.Log Go.Proofs.YtmimpfccngihiaaDoor.LogB Go.Proofs.YtmimpfccngihiaaDoor.LogC Go.Proofs.YtmimpfccngihiaaDoor.Solo Go.Proofs.YtmimpfccngihiaaDoor.Small
open Go.Proofs.YtmimpfccngihiaaDoor.DskWalkC (str Got)
open Go.Proofs.YtmimpfccngihiaaDoor.DskWalkJ (inums)

/-- An opening that goes well. -/
theorem open_ok {B : Nat} {L : List Nat} {w : World} {p N : Nat} {m m' : M} {rl : List (List UInt8)} (n : Int) (h : Has B L w p N m) (ht : Tab w) (hgB : 0 < B) (hN : N < 900000) (ho : Hid (wopen m n = ((0, rl), m'))) :
    Calls Tryd.prog 22 #[.pointer (some ⟨p, 0, none⟩), .int .i64 n] w fun e w' => ∃ b A k c, e = .returned (.tuple #[.pointer (some ⟨b, 0, none⟩), .slice A k c, .int .i64 0]) ∧ rl.length = k ∧ LogAt w' b p n ∧ RS w' A k rl ∧ Has B (b :: L) w' p (N + 2) m' ∧ Keeps B L w w' ∧ w.heap.size ≤ b := by
  refine (open_any n h ht hgB hN).mono ?_
  intro e w' hh
  rw [ho.out] at hh
  rcases hh with ⟨h0, _⟩ | ⟨_, b, A, c, he, h1, h2, h3, h4, h5⟩
  · exact absurd rfl h0
  · exact ⟨b, A, _, c, he, rfl, h1, h2, h3, h4, h5⟩
/-- Writing, by a name. -/
theorem write_lit {B : Nat} {L : List Nat} {w : World} {b p N : Nat} {m m' : M} {n r : Int} (A : Option Addr) (k c : Nat) (l : List (List UInt8)) (hlog : LogAt w b p n) (h : Has B L w p N m) (hb : b ∈ L) (hl : RS w A k l) (ht : Tab w) (hk : k ≤ 1000000) (hN : N < 900000) (h0 : -9223372036854775808 ≤ n) (h1 : n ≤ 9223372036854775807) (hw : Hid (wappend m n l = (r, m'))) :
    Calls Tryd.prog 26 #[.pointer (some ⟨b, 0, none⟩), .slice A k c] w fun e w' => e = .returned (.int .i64 r) ∧ LS B L w b p (N + 2) n m' w' := by
  refine (append_any A k c l hlog h hb hl ht hk hN h0 h1).mono ?_
  intro e w' hh
  unfold Wrote at hh
  rw [hw.out] at hh
  exact hh
theorem anew_lit {B : Nat} {L : List Nat} {w : World} {b p N : Nat} {m m' : M} {n r : Int} (A : Option Addr) (k c : Nat) (l : List (List UInt8)) (hlog : LogAt w b p n) (h : Has B L w p N m) (hb : b ∈ L) (hl : RS w A k l) (ht : Tab w) (hk : k ≤ 1000000) (hN : N < 900000) (hw : Hid (wanew m n l = (r, m'))) :
    Calls Tryd.prog 24 #[.pointer (some ⟨b, 0, none⟩), .slice A k c] w fun e w' => e = .returned (.int .i64 r) ∧ LS B L w b p (N + 2) n m' w' := by
  refine (anew_any A k c l hlog h hb hl ht hk hN).mono ?_
  intro e w' hh
  unfold Wrote at hh
  rw [hw.out] at hh
  exact hh
theorem frame_nil : frame [] = [1, 1, 1, 1, 1, 0] := by
  have h0 : four (add 0 []) = [0, 0, 0, 0] := by rw [add_nil]; decide
  have e1 : encode [0, 0, 0, 0] = [1, 1, 1, 1, 1] := by
    rw [encode_zero [0, 0, 0, 0] (by decide) (by decide), encode_zero _ (by decide) (by decide), encode_zero _ (by decide) (by decide), encode_zero _ (by decide) (by decide), encode_last _ (by decide) (by decide)]
    decide
  unfold frame body
  rw [h0]
  show encode [0, 0, 0, 0] ++ [0] = _
  rw [e1]
  rfl
def ab : List UInt8 := [97, 98]
theorem recs_ab : Recs [ab] := fun x hx => by simp only [List.mem_singleton] at hx; subst hx; decide
theorem frames_ab : (frames [ab]).length ≤ 8 := by
  have h1 := frames_short [ab]
  have h2 : weigh [ab] = 2 := rfl
  have h3 : [ab].length = 1 := rfl
  omega

set_option maxRecDepth 100000 in
set_option maxHeartbeats 4000000 in
theorem begun_any (w : World) (ht : Tab w) : Calls Tryd.prog 10 #[] w fun e w' => e = .returned (.bool true) ∧ Below w.heap.size w w' := by
  have hg := Tab.lt ht
  have HT := Lib.hid ht
  obtain ⟨m0, hm0⟩ : ∃ m0, M.new 100 = m0 := ⟨_, rfl⟩
  have hN0 : M.new 100 = solo 100 (-1) false 0 [] [] false (fun _ => false) := new_solo 100 0
  obtain ⟨m1, hm1⟩ : ∃ m1, solo 100 (-1) false 0 [] [] true (fun _ => false) = m1 := ⟨_, rfl⟩
  obtain ⟨m2, hm2⟩ : ∃ m2, solo 100 (-1) false 0 (frames [ab]) [] true (fun _ => false) = m2 := ⟨_, rfl⟩
  have ho1 : wopen m0 ((0 : Nat) : Int) = ((0, []), m1) := by
    rw [← hm0, hN0, ← hm1]
    exact solo_open_new (i := 0) (by omega) rfl
  have ha1 : wappend m1 ((0 : Nat) : Int) [ab] = (0, m2) := by
    rw [← hm1, solo_wappend_free (i := 0) (by omega) _ recs_ab (by have := frames_ab; simp; omega), List.nil_append, ← hm2]
  have ho2 : ∃ m4, wopen (m2.crash []) ((0 : Nat) : Int) = ((0, [ab]), m4) := by
    rw [← hm2]
    obtain ⟨t', e⟩ := solo_again (R := 100) (f := -1) (o := false) (i := 0) (F := frames [ab]) (S := []) (T := fun _ => false) (by omega) (by have := frames_ab; simp; omega) []
    rw [e, List.take_nil, List.append_nil, scan_all _ recs_ab]
    exact ⟨_, rfl⟩
  obtain ⟨m4, ho2⟩ := ho2
  obtain ⟨m3, hm3⟩ : ∃ m3, m2.crash [] = m3 := ⟨_, rfl⟩
  rw [hm3] at ho2
  have HO1 := Lib.hid ho1
  have HA1 := Lib.hid ha1
  have HO2 := Lib.hid ho2
  have HM3 := Lib.hid hm3
  have HM0 := Lib.hid hm0
  have hfn : (ByteArray.toList (str (frame []))) = [1, 1, 1, 1, 1, 0] := by rw [Lib.toList_data, str_list, frame_nil]
  obtain ⟨F0, hF0⟩ : ∃ F0, str (frame (ByteArray.mk #[]).data.toList) = F0 := ⟨_, rfl⟩
  have hF1 : (F0.toList == [1, 1, 1, 1, 1, 0]) = true := by
    rw [← hF0, beq_iff_eq]
    exact hfn
  have HF0 := Lib.hid hF0
  have HF1 := Lib.hid hF1
  clear hN0 hm1 hm2 ho1 ha1 ho2 hm3 hfn ht hm0 hF0 hF1
  go_enter Tryd.func10, Tryd.ntmps10
  go_wp2_with fail
  refine (new_has (B := w.heap.size) 100 (by omega) (Nat.le_refl _)).mono ?_
  rintro e w1 ⟨p, rfl, hD1, hp, hb1⟩
  rw [HM0.out] at hD1
  have ht1 := Tab.next HT.out hb1
  go_wp2_with fail
  refine (open_ok 0 hD1 ht1 hg (by omega) HO1).mono ?_
  rintro e w2 ⟨b, A, k, c, rfl, hk, hlog, hrs, hD2, k2, hbb⟩
  have hb2 : Below w.heap.size w w2 := hb1.trans (k2.below hD1.low)
  have ht2 := Tab.next HT.out hb2
  obtain rfl : k = 0 := hk.symm
  clear k2
  have hl2 : Below w2.heap.size w2 (w2.alloc (.cells #[.string ⟨#[97, 98]⟩] 9)) := (Below.refl _ _).alloc (Nat.le_refl _) _
  have hrd : RS (w2.alloc (.cells #[.string ⟨#[97, 98]⟩] 9)) (some ⟨w2.heap.size, 0, none⟩) 1 [ab] := (reads_one w2 (.string ⟨#[97, 98]⟩) 9).more (by simp)
  go_wp2_with fail
  refine (write_lit _ 1 1 [ab] (hlog.below hl2) (hD2.below hl2) (by simp) hrd (Tab.next ht2 hl2) (by omega) (by omega) (by omega) (by omega) HA1).mono ?_
  rintro e w3 ⟨rfl, hS3⟩
  have hb3 : Below w.heap.size w w3 := (hb2.trans (hl2.mono hb2.size)).trans (hS3.kept.below (Nat.le_trans hb2.size hl2.size))
  have ht3 := Tab.next HT.out hb3
  have hD3 := hS3.disk
  clear hS3 hrs hlog
  go_wp2_with fail
  refine (crash_has none 0 0 [] hD3 Reads.none_).mono ?_
  rintro e w4 ⟨p', rfl, hD4, _, hp', hb4⟩
  rw [HM3.out] at hD4
  have hb4' : Below w.heap.size w w4 := hb3.trans (hb4.mono hb3.size)
  have ht4 := Tab.next HT.out hb4'
  go_wp2_with fail
  refine (open_ok 0 hD4 ht4 hg (by omega) HO2).mono ?_
  rintro e w5 ⟨b', A5, k5, c5, rfl, hk5, hlog5, hrs5, hD5, k5', hbb5⟩
  obtain rfl : k5 = 1 := hk5.symm
  have hb5 : Below w.heap.size w w5 := hb4'.trans (k5'.below hD4.low)
  have ht5 := Tab.next HT.out hb5
  obtain ⟨x5, o5, rfl, _, hc5⟩ := Reads.text hrs5 (k := 0) (by omega) (by simp)
  have hc5' : w5.cell? ⟨x5, o5, none⟩ = some (.string ⟨#[97, 98]⟩) := hc5
  have hsaid : ((⟨#[97, 98]⟩ : ByteArray).toList == [97, 98]) = true := by rw [Lib.toList_data]; decide
  clear hc5 hrs5
  go_wp2_with fail
  have hcall := frame_any ⟨#[]⟩ w5 ht5 (by decide)
  rw [HF0.out] at hcall
  refine hcall.mono ?_
  rintro e w6 ⟨rfl, hb6⟩
  have hF1 := HF1.out
  go_wp2
  go_ret
  exact ⟨rfl, hb5.trans (hb6.mono hb5.size)⟩
end Go.Proofs.YtmimpfccngihiaaDoor.Beg
set_option linter.unusedVariables false
set_option linter.unusedSimpArgs false
namespace Go.Proofs.YtmimpfccngihiaaDoor.LawA
open Go.RowKit Go.Proofs.YtmimpfccngihiaaDoor.Kit Go.Proofs.YtmimpfccngihiaaDoor.Blocks Go.Proofs.YtmimpfccngihiaaDoor.Stuff Go.Proofs.YtmimpfccngihiaaDoor.Crc Go.Proofs.YtmimpfccngihiaaDoor.SumB Go.Proofs.YtmimpfccngihiaaDoor.Wal Go.Proofs.YtmimpfccngihiaaDoor.FrA Go.Proofs.YtmimpfccngihiaaDoor.FrC Go.Proofs.YtmimpfccngihiaaDoor.ScA Go.Proofs.YtmimpfccngihiaaDoor.ScB Go.Proofs.YtmimpfccngihiaaDoor.Beg
open Go.Proofs.YtmimpfccngihiaaDoor.DskWalkC (str Got)

/-- A scanning, by a name. -/
theorem scan_lit (s : ByteArray) (w : World) (ht : Tab w) (hs : s.size ≤ 1000000000) {l : List (List UInt8)} {k : Nat} (h : Hid (scan s.data.toList = (l, k))) :
    Calls Tryd.prog 11 #[.string s] w fun e w' => ∃ A n c, e = .returned (.tuple #[.slice A n c, .int .i64 (k : Int)]) ∧ l.length = n ∧ n ≤ 9223372036854775807 ∧ RS w' A n l ∧ Below w.heap.size w w' := by
  refine (scan_any s w ht hs).mono ?_
  rintro e w' ⟨v, rfl, hown, hb⟩
  rw [h.out] at hown ⊢
  obtain ⟨A, c, rfl, h1, h2, h3⟩ := own_form hown
  unfold maxLen at h2
  exact ⟨A, _, c, rfl, rfl, by omega, h3, hb⟩
theorem rscan_lit (s : ByteArray) (w : World) (hs : s.size ≤ 1000000000) {l : List (List UInt8)} {k : Nat} (h : Hid (scan s.data.toList = (l, k))) :
    Calls Tryd.prog 12 #[.string s] w fun e w' => ∃ A n c, e = .returned (.tuple #[.slice A n c, .int .i64 (k : Int)]) ∧ l.length = n ∧ n ≤ 9223372036854775807 ∧ RS w' A n l ∧ Below w.heap.size w w' := by
  refine (rscan_any s w hs).mono ?_
  rintro e w' ⟨v, rfl, hown, hb⟩
  rw [h.out] at hown ⊢
  obtain ⟨A, c, rfl, h1, h2, h3⟩ := own_form hown
  unfold maxLen at h2
  exact ⟨A, _, c, rfl, rfl, by omega, h3, hb⟩
/-- The same texts are told as the same. -/
theorem same_yes (A1 A2 : Option Addr) (n1 n2 c1 c2 : Nat) (l : List (List UInt8)) (w : World) (h1 : RS w A1 n1 l) (h2 : RS w A2 n2 l) (hn : n1 ≤ 9223372036854775807) :
    Calls Tryd.prog 13 #[.slice A1 n1 c1, .slice A2 n2 c2] w fun e w' => e = .returned (.bool true) ∧ Below w.heap.size w w' := by
  have e1 := texts_len h1
  have e2 := texts_len h2
  have := same_any A1 A2 n1 n2 c1 c2 l l w h1 h2 hn (by omega)
  rwa [show decide (l = l) = true by simp] at this
theorem RS.below {w w' : World} {A : Option Addr} {n : Nat} {l : List (List UInt8)} (h : RS w A n l) (k : Below w.heap.size w w') : RS w' A n l := (Kit.Reads.below h k).more k.size

set_option maxRecDepth 100000 in
set_option maxHeartbeats 2000000 in
theorem scans_walk (s x : ByteArray) (w : World) (_ : s.size ≤ maxLen) (_ : x.size ≤ maxLen) (ht : Tab w) :
    Calls Tryd.prog 3 #[.string s, .string x] w fun e w' => e = .returned (.bool true) ∧ Below w.heap.size w w' := by
  have HT := Lib.hid ht
  by_cases hbig : s.size ≤ 20000 ∧ x.size ≤ 20000
  · obtain ⟨h1, h2⟩ := hbig
    obtain ⟨⟨l, k⟩, hsc⟩ : ∃ q, scan s.data.toList = q := ⟨_, rfl⟩
    have HSC := Lib.hid hsc
    obtain ⟨F, hF⟩ : ∃ F, str (frame x.data.toList) = F := ⟨_, rfl⟩
    have HF := Lib.hid hF
    have hFF : (F.toList == F.toList) = true := by simp
    have hkk : ((k : Int) == (k : Int)) = true := by simp
    clear hsc hF ht
    go_enter Tryd.func3, Tryd.ntmps3
    go_wp2_with fail
    refine (begun_any _ HT.out).mono ?_
    rintro e w1 ⟨rfl, hb1⟩
    have ht1 := Tab.next HT.out hb1
    go_wp2_with fail
    refine (scan_lit s w1 ht1 (by omega) HSC).mono ?_
    rintro e w2 ⟨A2, n2, c2, rfl, hl2, hn2, hr2, hb2⟩
    have hb2' := hb1.trans (hb2.mono hb1.size)
    go_wp2_with fail
    refine (rscan_lit s w2 (by omega) HSC).mono ?_
    rintro e w3 ⟨A3, n3, c3, rfl, hl3, hn3, hr3, hb3⟩
    have hb3' := hb2'.trans (hb3.mono hb2'.size)
    have hr23 := RS.below hr2 hb3
    go_wp2_with fail
    refine (same_yes A2 A3 n2 n3 c2 c3 l w3 hr23 hr3 hn2).mono ?_
    rintro e w4 ⟨rfl, hb4⟩
    have hb4' := hb3'.trans (hb4.mono hb3'.size)
    have hc1 := frame_any x w4 (Tab.next HT.out hb4') (by omega)
    rw [HF.out] at hc1
    have HC1 := Lib.hid hc1
    clear hc1
    go_wp2_with fail
    refine HC1.out.mono ?_
    rintro e w5 ⟨rfl, hb5⟩
    have hb5' := hb4'.trans (hb5.mono hb4'.size)
    have hc2 := rframe_any x w5 (by omega)
    rw [HF.out] at hc2
    have HC2 := Lib.hid hc2
    clear hc2
    go_wp2_with fail
    refine HC2.out.mono ?_
    rintro e w6 ⟨rfl, hb6⟩
    go_wp2
    go_ret
    exact ⟨rfl, hb5'.trans (hb6.mono hb5'.size)⟩
  · rcases (show 20000 < s.size ∨ (s.size ≤ 20000 ∧ 20000 < x.size) by omega) with h | ⟨h, h2⟩
    · have hi : (20000 : Int) < (s.size : Int) := by omega
      go_enter Tryd.func3, Tryd.ntmps3
      go_wp2_with fail
      refine (begun_any _ HT.out).mono ?_
      rintro e w1 ⟨rfl, hb1⟩
      go_wp2
      go_ret
      exact ⟨rfl, hb1⟩
    · have hi : ¬ (20000 : Int) < (s.size : Int) := by omega
      have hi2 : (20000 : Int) < (x.size : Int) := by omega
      go_enter Tryd.func3, Tryd.ntmps3
      go_wp2_with fail
      refine (begun_any _ HT.out).mono ?_
      rintro e w1 ⟨rfl, hb1⟩
      go_wp2
      go_ret
      exact ⟨rfl, hb1⟩
end Go.Proofs.YtmimpfccngihiaaDoor.LawA
set_option linter.unusedVariables false
set_option linter.unusedSimpArgs false
namespace Go.Proofs.YtmimpfccngihiaaDoor.LawB
open Go.RowKit Go.Proofs.YtmimpfccngihiaaDoor.Kit Go.Proofs.YtmimpfccngihiaaDoor.Blocks Go.Proofs.YtmimpfccngihiaaDoor.Stuff Go.Proofs.YtmimpfccngihiaaDoor.Crc Go.Proofs.YtmimpfccngihiaaDoor.SumB Go.Proofs.YtmimpfccngihiaaDoor.Wal Go.Proofs.YtmimpfccngihiaaDoor.StuWalkA Go.Proofs.YtmimpfccngihiaaDoor.FrA Go.Proofs.YtmimpfccngihiaaDoor.FrC Go.Proofs.YtmimpfccngihiaaDoor.ScA Go.Proofs.YtmimpfccngihiaaDoor.ScB Go.Proofs.YtmimpfccngihiaaDoor.Frm Go.Proofs.YtmimpfccngihiaaDoor.Small Go.Proofs.YtmimpfccngihiaaDoor.Beg Go.Proofs.YtmimpfccngihiaaDoor.LawA
open Go.Proofs.YtmimpfccngihiaaDoor.DskWalkC (str Got)

/-- Where the frames of the first k records end. -/
noncomputable def ends (l : List (List UInt8)) (k : Nat) : List Int := (List.range k).map fun i => ((frames (l.take (i + 1))).length : Int)
def ivals (l : List Int) : List Value := l.map fun z => .int .i64 z
theorem ends_length (l : List (List UInt8)) (k : Nat) : (ends l k).length = k := by simp [ends]
theorem ends_succ (l : List (List UInt8)) (k : Nat) : ends l (k + 1) = ends l k ++ [((frames (l.take (k + 1))).length : Int)] := by simp [ends, List.range_succ]
theorem ivals_length (l : List Int) : (ivals l).length = l.length := by simp [ivals]
theorem ivals_one (l : List Int) : ∀ u ∈ ivals l, u.oneCell' = true := by
  intro u hu
  obtain ⟨_, _, rfl⟩ := List.mem_map.1 hu
  rfl
theorem ends_get (l : List (List UInt8)) (n k : Nat) (h : k < n) : (ivals (ends l n))[k]? = some (.int .i64 ((frames (l.take (k + 1))).length : Int)) := by
  simp [ivals, ends, h]
theorem info3 : (Tryd.prog.info? 3).map (fun i => (i.zero, i.size, i.bytes)) = some (some (.int .i64 0), 1, 8) := by kernel_rfl
theorem small_lit (A : Option Addr) (n c : Nat) (l : List (List UInt8)) (w : World) (h : RS w A n l) (hn : n ≤ 9223372036854775807) (hx : ∀ x ∈ l, x.length ≤ 140737488355328) {b : Bool} (hb : Hid (decide (Small.Fair l) = b)) :
    Calls Tryd.prog 16 #[.slice A n c] w fun e w' => e = .returned (.bool b) ∧ w = w' := by
  have := small_any A n c l w h hn hx
  rwa [hb.out] at this
theorem recs_take {l : List (List UInt8)} (h : Recs l) (k : Nat) : Recs (l.take k) := fun x hx => h x (List.mem_of_mem_take hx)
theorem frames_take_le (l : List (List UInt8)) (k : Nat) : (frames (l.take k)).length ≤ (frames l).length := by
  conv => rhs; rw [← List.take_append_drop k l, frames_append]
  simp
/-- A cell that is read. -/
theorem Reads.lit {w : World} {B n k : Nat} {A : Option Addr} {xs : List Value} {u : Value} (h : Reads w B 1 A n xs) (hk : k < n) (hx : xs[k]? = some u) : ∃ b o, A = some ⟨b, o, none⟩ ∧ b < B ∧ w.cell? ⟨b, o + k, none⟩ = some u := by
  obtain ⟨ad, u', rfl, hb, hx', hc⟩ := h.at_ hk
  have hs := h.spot (by omega)
  rw [hx] at hx'
  cases hx'
  refine ⟨ad.block, ad.off, by rw [← hs], hb, ?_⟩
  rw [hs, Addr.add_lit] at hc
  exact hc
theorem Reads.lits {w : World} {B n : Nat} {A : Option Addr} {xs : List Value} (h : Reads w B 1 A n xs) (hn : 0 < n) : ∃ b o, A = some ⟨b, o, none⟩ ∧ b < B ∧ ∀ k u, xs[k]? = some u → w.cell? ⟨b, o + k, none⟩ = some u := by
  obtain ⟨ad, rfl, hb, hc⟩ := h.2 hn
  have hs := h.spot hn
  refine ⟨ad.block, ad.off, by rw [← hs], hb, fun k u hu => ?_⟩
  have := hc k u hu
  rw [hs, Addr.add_lit] at this
  exact this
/-- The place of a cut, as the walk spells it. -/
theorem cut_at (N : Int) (tot : Nat) (ht : tot ≤ 21300) : ∃ q : Nat, q ≤ tot ∧ (wrap64 (wrap64 (N.tmod ((tot : Int) + 1) + (tot : Int)) + 1)).tmod ((tot : Int) + 1) = (q : Int) := by
  have h1 := Int.lt_tmod_of_pos N (show (0 : Int) < (tot : Int) + 1 by omega)
  have h2 := Int.tmod_lt_of_pos N (show (0 : Int) < (tot : Int) + 1 by omega)
  have e : wrap64 (wrap64 (N.tmod ((tot : Int) + 1) + (tot : Int)) + 1) = N.tmod ((tot : Int) + 1) + (tot : Int) + 1 := by unfold wrap64; omega
  rw [e]
  have h3 := Int.tmod_nonneg ((tot : Int) + 1) (show (0 : Int) ≤ N.tmod ((tot : Int) + 1) + (tot : Int) + 1 by omega)
  have h4 := Int.tmod_lt_of_pos (N.tmod ((tot : Int) + 1) + (tot : Int) + 1) (show (0 : Int) < (tot : Int) + 1 by omega)
  exact ⟨((N.tmod ((tot : Int) + 1) + (tot : Int) + 1).tmod ((tot : Int) + 1)).toNat, by omega, by omega⟩
/-- The first texts of a slice of texts. -/
theorem RS.upto {w : World} {A : Option Addr} {n m : Nat} {l : List (List UInt8)} (h : RS w A n l) (hm : m ≤ n) : RS w A m (l.take m) := by
  have := Kit.Reads.upto h hm
  have e : (strs l).take m = strs (l.take m) := by simp [strs, List.map_take]
  rwa [e] at this

set_option maxRecDepth 100000 in
set_option maxHeartbeats 2000000 in
theorem back_long (A : Option Addr) (n c : Nat) (l : List (List UInt8)) (N : Int) (w : World) (h : RS w A n l) (hn : n ≤ c) (hc : c ≤ 9223372036854775807) (hx : ∀ x ∈ l, x.length ≤ 140737488355328) (ht : Tab w) (hf : ¬ Small.Fair l) :
    Calls Tryd.prog 4 #[.slice A n c, .int .i64 N] w fun e w' => e = .returned (.bool true) ∧ Below w.heap.size w w' := by
  have HT := Lib.hid ht
  have HF := Lib.hid (decide_eq_false hf)
  clear ht hf
  go_enter Tryd.func4, Tryd.ntmps4
  go_wp2_with fail
  refine (begun_any _ HT.out).mono ?_
  rintro e w1 ⟨rfl, hb1⟩
  go_wp2_with fail
  refine (small_lit A n c l w1 (RS.below h hb1) (by omega) hx HF).mono ?_
  rintro e w2 ⟨rfl, rfl⟩
  go_wp2
  go_ret
  exact ⟨rfl, hb1⟩

set_option maxRecDepth 100000 in
set_option maxHeartbeats 8000000 in
theorem back_fair (A : Option Addr) (n c : Nat) (l : List (List UInt8)) (N : Int) (w : World) (h : RS w A n l) (hn : n ≤ c) (hc : c ≤ 9223372036854775807) (hx : ∀ x ∈ l, x.length ≤ 140737488355328) (hN0 : -9223372036854775808 ≤ N) (hN1 : N ≤ 9223372036854775807) (ht : Tab w) (hf : Small.Fair l) :
    Calls Tryd.prog 4 #[.slice A n c, .int .i64 N] w fun e w' => e = .returned (.bool true) ∧ Below w.heap.size w w' := by
  obtain ⟨i0, hi0, hz0, hz1, hz2⟩ := info_parts info3
  have HT := Lib.hid ht
  have hgb := Tab.lt ht
  have hll := texts_len h
  have hn200 : n ≤ 200 := by have := hf.2; omega
  have HL := Lib.hid hll
  have hrec := hf.recs
  have htot := hf.frames
  have HF := Lib.hid (decide_eq_true hf)
  have HREC := Lib.hid hrec
  obtain ⟨tot, htt⟩ : ∃ tot, (frames l).length = tot := ⟨_, rfl⟩
  rw [htt] at htot
  have HTT := Lib.hid htt
  have HX := Lib.hid hx
  clear ht hll hf hrec htt hx
  go_enter Tryd.func4, Tryd.ntmps4
  go_wp2_with fail
  refine (begun_any _ HT.out).mono ?_
  rintro e w1 ⟨rfl, hb1⟩
  go_wp2_with fail
  refine (small_lit A n c l w1 (RS.below h hb1) (by omega) HX.out HF).mono ?_
  rintro e w2 ⟨rfl, rfl⟩
  go_wp2_with fail
  go_loopw [5, 6, 19] (fun s v i wr => ∃ (k : Nat) (S : ByteArray), k ≤ n ∧ i = .int .i64 (k : Int) ∧ s = .string S ∧ Hid (S = str (frames (l.take k))) ∧ wr.ownsRow w.heap.size 3 1 v k (ivals (ends l k)) ∧ Below w.heap.size w wr) (fun _ _ i _ => n - (intOf i).toNat)
  case atStart => exact ⟨0, _, by omega, rfl, rfl, rfl, World.ownsRow_nil _ _ _ _, hb1⟩
  case round =>
    obtain ⟨k, S, hk, rfl, rfl, hS, hown, hbel⟩ := hrel
    have hB := hbel.size
    by_cases hkn : k < n
    · have hkl : k < l.length := by rw [HL.out]; exact hkn
      have hr := RS.below h hbel
      obtain ⟨b, o, rfl, hb, hc1⟩ := Reads.text hr hkn hkl
      obtain ⟨x, hx⟩ : ∃ x, l[k] = x := ⟨_, rfl⟩
      rw [hx] at hc1
      obtain ⟨X, hX⟩ : ∃ X, str x = X := ⟨_, rfl⟩
      have hxs : X.size ≤ 65536 := by
        have h1 := HREC.out _ (List.getElem_mem hkl)
        rw [hx] at h1
        rw [← hX]
        exact h1
      rw [hX] at hc1
      have hfs := frames_succ hkl
      rw [hx] at hfs
      have hcall := frame_any X wr (Tab.below HT.out hgb hbel) (by omega)
      obtain ⟨F, hF⟩ : ∃ F, str (frame X.data.toList) = F := ⟨_, rfl⟩
      obtain ⟨S', hS'⟩ : ∃ S', S ++ F = S' := ⟨_, rfl⟩
      have hnext : Hid (S' = str (frames (l.take (k + 1)))) := by
        show _ = _
        rw [← hS', hfs, hS.out]
        apply ByteArray.ext
        rw [← hF, ← hX]
        simp [str]
      have hle := frames_take_le l (k + 1)
      rw [HTT.out] at hle
      have hSsz : S'.size = (frames (l.take (k + 1))).length := by rw [hnext.out]; rfl
      have hadd : S.size + F.size = S'.size := by rw [← hS']; simp
      have hsz : ¬ 9223372036854775807 < S.size + F.size := by omega
      rw [hF] at hcall
      have HC := Lib.hid hcall
      have HSS := Lib.hid hSsz
      have hm1 : k + 1 ≤ maxLen := by unfold maxLen; omega
      have hs1 : (k + 1) * 8 ≤ 140737488355328 := by omega
      clear hx hX hfs hcall hF hSsz
      go_wp2_with fail
      refine HC.out.mono ?_
      rintro e w3 ⟨rfl, hb3⟩
      have hbel3 := hbel.trans (hb3.mono hB)
      have hown3 := own_below hown hb3
      have hB3 := hbel3.size
      have hBo : ∀ o : Obj, w.heap.size ≤ (w3.alloc o).heap.size := fun o => by simp; omega
      go_wp2_with
        (at_builtin
         refine wpList_append_any _ rfl (.tmp 27) (.tmp 30) _ rfl w.heap.size 3 i0 _ 1 8 Tryd.underlying30 hi0 hz0 hz1 hz2 rfl (by decide) _ k (ivals (ends l k)) rfl (hown3.alloc _)
           (w3.heap.size + 1) _ 1 1 [.int .i64 (S'.size : Int)] rfl (reads_one _ _ _) (by simp [Value.oneCell']) hm1 hs1 (hBo _) ?_
         intro v4 w4 hown4 hg4 hat4
         clear hat4
         obtain ⟨hbel4, hB4, _⟩ := behind_new hown3 hbel3 hB3 hg4
         clear hg4)
      go_roundw
      case rel => exact ⟨k + 1, S', by omega, by go_num, rfl, hnext, by rw [ends_succ, ← HSS.out]; exact own_cast hown4 rfl (by simp [ivals]), hbel4⟩
      case measure => simp [intOf]; omega
    · obtain rfl : k = n := by omega
      have hfull : l.take k = l := List.take_of_length_le (by rw [HL.out]; omega)
      rw [hfull] at hS
      have hSl : S.data.toList = frames l := by rw [hS.out]; rfl
      have hSs : S.size = tot := by rw [← HTT.out, ← hSl]; rfl
      have HSC : Hid (scan S.data.toList = (l, tot)) := by
        show _ = _
        rw [hSl, scan_all l HREC.out, HTT.out]
      have HSL := Lib.hid hSl
      obtain ⟨A6, c6, rfl, hc61, hc62, hr6⟩ := own_form hown
      clear hSl hfull
      go_wp2_with fail
      refine (scan_lit S wr (Tab.below HT.out hgb hbel) (by omega) HSC).mono ?_
      rintro e w3 ⟨A3, n3, c3, rfl, hl3, hn3, hr3, hb3⟩
      have hbel3 := hbel.trans (hb3.mono hB)
      have hl3w := RS.below h hbel3
      have hneq : ((tot : Int) != (tot : Int)) = false := by simp
      go_wp2_with fail
      refine (same_yes A A3 k n3 c c3 l w3 hl3w hr3 (by omega)).mono ?_
      rintro e w4 ⟨rfl, hb4⟩
      have hbel4 := hbel3.trans (hb4.mono hbel3.size)
      have hr6' := (Kit.Reads.below hr6 (hb3.trans (hb4.mono hb3.size))).more (Nat.le_trans hb3.size hb4.size)
      clear hr3 hl3w hr6 hown
      obtain ⟨q, hq, hqe⟩ := cut_at N tot htot
      obtain ⟨C, hC⟩ : ∃ C, cut l q = C := ⟨_, rfl⟩
      have hCk : C ≤ k := by have := cut_le l q; rw [hC, HL.out] at this; exact this
      have HC := Lib.hid hC
      have HQ := Lib.hid hqe
      obtain ⟨E2, hE2⟩ : ∃ E2, (frames (l.take C)).length = E2 := ⟨_, rfl⟩
      have HE2 := Lib.hid hE2
      obtain ⟨T, hT⟩ : ∃ T, S.extract 0 q = T := ⟨_, rfl⟩
      have hTl : T.data.toList = (frames l).take q := by rw [← hT, extract_list, HSL.out]; simp
      have hTs : T.size ≤ 1000000000 := by rw [← hT]; simp; omega
      have HSC2 : Hid (scan T.data.toList = (l.take C, E2)) := by
        show _ = _
        rw [hTl, scan_take l q HREC.out, hC, hE2]
      have hqi : (q : Int) ≤ (S.size : Int) := by omega
      clear hC hqe hE2 hTl
      rcases Nat.eq_zero_or_pos k with hk0 | hk0
      · subst hk0
        obtain rfl : C = 0 := by omega
        have hE0 : E2 = 0 := by rw [← HE2.out]; simp [frames]
        subst hE0
        have hj5 : 0 ≤ 0 := Nat.le_refl 0
        go_wp2_with fail
        rw [HQ.out]
        go_loop [11] (fun i => i = .int .i64 ((0 : Nat) : Int)) (fun i => 0)
        case atStart => rfl
        case round =>
          subst hrel
          obtain ⟨j, hj⟩ : ∃ j, j = 0 := ⟨0, rfl⟩
          go_wp2_with fail
          refine (scan_lit T w4 (Tab.below HT.out hgb hbel4) hTs HSC2).mono ?_
          rintro e w5 ⟨A5, n5, c5, rfl, hl5, hn5, hr5, hb5⟩
          obtain rfl : n5 = 0 := by rw [← hl5, List.length_take]; omega
          have hbel5 := hbel4.trans (hb5.mono hbel4.size)
          have hlw := RS.upto (RS.below h hbel5) hj5
          have heq : (((0 : Nat) : Int) == ((0 : Nat) : Int)) = true := by simp
          go_wp2_with fail
          refine (same_yes A5 A 0 0 c5 c (l.take 0) w5 hr5 hlw (by omega)).mono ?_
          rintro e w6 ⟨rfl, hb6⟩
          have hbel6 := hbel5.trans (hb6.mono hbel5.size)
          go_wp2
          go_ret
          exact ⟨rfl, hbel6⟩
      · obtain ⟨b, o, rfl, hbb, hcells⟩ := Reads.lits hr6' hk0
        have hce : ∀ i, i < k → w4.cell? ⟨b, o + i, none⟩ = some (.int .i64 ((frames (l.take (i + 1))).length : Int)) := fun i hi => hcells i _ (ends_get l k i hi)
        have HCE := Lib.hid hce
        clear hcells hr6' hce
        go_wp2_with fail
        rw [HQ.out]
        go_loop [11] (fun i => ∃ (j : Nat), j ≤ C ∧ i = .int .i64 (j : Int)) (fun i => k - (intOf i).toNat)
        case atStart => exact ⟨0, by omega, rfl⟩
        case round =>
          obtain ⟨j, hj, rfl⟩ := hrel
          by_cases hjC : j < C
          · have hjk : j < k := by omega
            have hc5 := HCE.out j hjk
            have hin := cut_in l q j (by rw [HC.out]; exact hjC)
            obtain ⟨z, hz⟩ : ∃ z, (frames (l.take (j + 1))).length = z := ⟨_, rfl⟩
            rw [hz] at hc5 hin
            have hzi : (z : Int) ≤ (q : Int) := by omega
            clear hz
            go_wp2
            go_round
            case rel => exact ⟨j + 1, by omega, by go_num⟩
            case measure => simp [intOf]; omega
          · obtain rfl : j = C := by omega
            have hj5 : j ≤ k := hCk
            by_cases hCf : j < k
            · have hc5 := HCE.out j hCf
              have hout := cut_out l q (by rw [HC.out, HL.out]; exact hCf)
              rw [HC.out] at hout
              obtain ⟨z, hz⟩ : ∃ z, (frames (l.take (j + 1))).length = z := ⟨_, rfl⟩
              rw [hz] at hc5 hout
              have hzi : ¬ (z : Int) ≤ (q : Int) := by omega
              clear hz
              go_wp2_with fail
              refine (scan_lit T w4 (Tab.below HT.out hgb hbel4) hTs HSC2).mono ?_
              rintro e w5 ⟨A5, n5, c5, rfl, hl5, hn5, hr5, hb5⟩
              obtain rfl : n5 = j := by rw [← hl5, List.length_take, HL.out]; omega
              have hbel5 := hbel4.trans (hb5.mono hbel4.size)
              have hlw := RS.upto (RS.below h hbel5) hj5
              have heq : ((n5 : Int) == (n5 : Int)) = true := by simp
              go_wp2_with fail
              refine (same_yes A5 A n5 n5 c5 c (l.take n5) w5 hr5 hlw (by omega)).mono ?_
              rintro e w6 ⟨rfl, hb6⟩
              have hbel6 := hbel5.trans (hb6.mono hbel5.size)
              by_cases hj0 : n5 = 0
              · subst hj0
                have hE0 : E2 = 0 := by rw [← HE2.out]; simp [frames]
                subst hE0
                go_wp2
                go_ret
                exact ⟨rfl, hbel6⟩
              · obtain ⟨i, rfl⟩ : ∃ i, n5 = i + 1 := ⟨n5 - 1, by omega⟩
                have hc6 := ((hb5.trans (hb6.mono hb5.size)).cell (p := ⟨b, o + i, none⟩) hbb).trans (HCE.out i (by omega))
                rw [HE2.out] at hc6
                have hi0 : (((i + 1 : Nat) : Int) == 0) = false := by simp; omega
                have hi1 : (0 : Int) < ((i + 1 : Nat) : Int) := by omega
                have hee : ((E2 : Int) == (E2 : Int)) = true := by simp
                go_wp2
                go_ret
                exact ⟨rfl, hbel6⟩
            · have hCi : ¬ ((j : Int) < (k : Int)) := by omega
              go_wp2_with fail
              refine (scan_lit T w4 (Tab.below HT.out hgb hbel4) hTs HSC2).mono ?_
              rintro e w5 ⟨A5, n5, c5, rfl, hl5, hn5, hr5, hb5⟩
              obtain rfl : n5 = j := by rw [← hl5, List.length_take, HL.out]; omega
              have hbel5 := hbel4.trans (hb5.mono hbel4.size)
              have hlw := RS.upto (RS.below h hbel5) hj5
              have heq : ((n5 : Int) == (n5 : Int)) = true := by simp
              go_wp2_with fail
              refine (same_yes A5 A n5 n5 c5 c (l.take n5) w5 hr5 hlw (by omega)).mono ?_
              rintro e w6 ⟨rfl, hb6⟩
              have hbel6 := hbel5.trans (hb6.mono hbel5.size)
              by_cases hj0 : n5 = 0
              · subst hj0
                have hE0 : E2 = 0 := by rw [← HE2.out]; simp [frames]
                subst hE0
                go_wp2
                go_ret
                exact ⟨rfl, hbel6⟩
              · obtain ⟨i, rfl⟩ : ∃ i, n5 = i + 1 := ⟨n5 - 1, by omega⟩
                have hc6 := ((hb5.trans (hb6.mono hb5.size)).cell (p := ⟨b, o + i, none⟩) hbb).trans (HCE.out i (by omega))
                rw [HE2.out] at hc6
                have hi0 : (((i + 1 : Nat) : Int) == 0) = false := by simp; omega
                have hi1 : (0 : Int) < ((i + 1 : Nat) : Int) := by omega
                have hee : ((E2 : Int) == (E2 : Int)) = true := by simp
                go_wp2
                go_ret
                exact ⟨rfl, hbel6⟩
theorem i64_of {z : Int} (h : (Lit.int .i64 z).wf = true) : -9223372036854775808 ≤ z ∧ z ≤ 9223372036854775807 := by
  simpa [Lit.wf, IntKind.min, IntKind.max, IntKind.signed, IntKind.bits] using h
theorem back_walk (A : Option Addr) (n c : Nat) (l : List (List UInt8)) (N : Int) (w : World) (h : RS w A n l) (hn : n ≤ c) (hc : c ≤ 9223372036854775807) (hx : ∀ x ∈ l, x.length ≤ 140737488355328) (hN : (Lit.int .i64 N).wf = true) (ht : Tab w) :
    Calls Tryd.prog 4 #[.slice A n c, .int .i64 N] w fun e w' => e = .returned (.bool true) ∧ Below w.heap.size w w' := by
  obtain ⟨h0, h1⟩ := i64_of hN
  by_cases hf : Small.Fair l
  · exact back_fair A n c l N w h hn hc hx h0 h1 ht hf
  · exact back_long A n c l N w h hn hc hx ht hf
end Go.Proofs.YtmimpfccngihiaaDoor.LawB
set_option linter.unusedVariables false
set_option linter.unusedSimpArgs false
namespace Go.Proofs.YtmimpfccngihiaaDoor.LawD
open Go.RowKit Go.Proofs.YtmimpfccngihiaaDoor.Kit Go.Proofs.YtmimpfccngihiaaDoor.Blocks Go.Proofs.YtmimpfccngihiaaDoor.Stuff Go.Proofs.YtmimpfccngihiaaDoor.Crc Go.Proofs.YtmimpfccngihiaaDoor.SumB Go.Proofs.YtmimpfccngihiaaDoor.Wal Go.Proofs.YtmimpfccngihiaaDoor.StuWalkA Go.Proofs.YtmimpfccngihiaaDoor.FrA Go.Proofs.YtmimpfccngihiaaDoor.FrC Go.Proofs.YtmimpfccngihiaaDoor.ScA Go.Proofs.YtmimpfccngihiaaDoor.ScB Go.Proofs.YtmimpfccngihiaaDoor.Frm Go.Proofs.YtmimpfccngihiaaDoor.Model Go.Proofs.YtmimpfccngihiaaDoor.Disk Go.Proofs.YtmimpfccngihiaaDoor.Ops Go.Proofs.YtmimpfccngihiaaDoor.Log Go.Proofs.YtmimpfccngihiaaDoor.LogB Go.Proofs.YtmimpfccngihiaaDoor.LogC Go.Proofs.YtmimpfccngihiaaDoor.Solo Go.Proofs.YtmimpfccngihiaaDoor.Small Go.Proofs.YtmimpfccngihiaaDoor.Beg Go.Proofs.YtmimpfccngihiaaDoor.LawA Go.Proofs.YtmimpfccngihiaaDoor.LawB
open Go.Proofs.YtmimpfccngihiaaDoor.DskWalkC (str Got)
open Go.Proofs.YtmimpfccngihiaaDoor.DskWalkJ (inums)

/-- What becomes of the log, in plain words. -/
theorem anew_plain (la lb : List (List UInt8)) (x y : Int) (ha : Small.Fair la) (hb : Small.Fair lb) : ∃ m1 m2 m4 m6 r rl, wopen (M.new 1048576) ((0 : Nat) : Int) = ((0, []), m1) ∧ wappend m1 ((0 : Nat) : Int) la = (0, m2) ∧
    wanew (m2.fuelled x) ((0 : Nat) : Int) lb = (r, m4) ∧ wopen (m4.crash [y]) ((0 : Nat) : Int) = ((0, rl), m6) ∧ ((x = 0 ∧ r = 10 ∧ rl = la) ∨ (x ≠ 0 ∧ r = 0 ∧ rl = lb)) := by
  have hfa := ha.frames
  have hfb := hb.frames
  refine ⟨solo 1048576 (-1) false 0 [] [] true (fun _ => false), solo 1048576 (-1) false 0 (frames la) [] true (fun _ => false), ?_⟩
  have e1 : wopen (M.new 1048576) ((0 : Nat) : Int) = ((0, []), solo 1048576 (-1) false 0 [] [] true (fun _ => false)) := by
    rw [new_solo 1048576 0]
    exact solo_open_new (by omega) rfl
  have e2 : wappend (solo 1048576 (-1) false 0 [] [] true (fun _ => false)) ((0 : Nat) : Int) la = (0, solo 1048576 (-1) false 0 (frames la) [] true (fun _ => false)) := by
    have := solo_wappend_free (R := 1048576) (i := 0) (F := []) (T := fun _ => false) (by omega) la ha.recs (by simp only [List.length_nil]; omega)
    rwa [List.nil_append] at this
  have e3 := solo_wanew (R := 1048576) (f := max x (-1)) (i := 0) (F := frames la) (S := []) (t := true) (T := fun _ => false) (by omega) lb hb.recs (by omega)
  rw [← solo_fuelled (f := -1)] at e3
  by_cases hx : x = 0
  · rw [if_pos (by omega)] at e3
    obtain ⟨t', e4⟩ := solo_again (R := 1048576) (f := max x (-1)) (o := true) (i := 0) (F := frames la) (S := []) (T := fun _ => false) (by omega) (by simp only [List.length_nil]; omega) [y]
    rw [List.take_nil, List.append_nil, scan_all la ha.recs] at e4
    exact ⟨_, _, 10, la, e1, e2, e3, e4, .inl ⟨hx, rfl, rfl⟩⟩
  · rw [if_neg (by omega)] at e3
    obtain ⟨t', e4⟩ := solo_again (R := 1048576) (f := burn (max x (-1))) (o := false) (i := 0) (F := frames lb) (S := []) (T := fun _ => false) (by omega) (by simp only [List.length_nil]; omega) [y]
    rw [List.take_nil, List.append_nil, scan_all lb hb.recs] at e4
    exact ⟨_, _, 0, lb, e1, e2, e3, e4, .inr ⟨hx, rfl, rfl⟩⟩
theorem fuel_ls {B : Nat} {L : List Nat} {w W : World} {b p N : Nat} {n f : Int} {m m' : M} (h : LS B L w b p N n m W) (hb : b ∈ L) (h0 : -9223372036854775808 ≤ f) (h1 : f ≤ 9223372036854775807) (hm : Hid (m.fuelled f = m')) :
    Calls Tryd.prog 21 #[.pointer (some ⟨p, 0, none⟩), .int .i64 f] W fun e W' => e = .returned (.tuple #[]) ∧ LS B L w b p N n m' W' := by
  refine (fuel_has f h.disk h0 h1).mono ?_
  rintro e W' ⟨rfl, hd, hk⟩
  rw [hm.out] at hd
  exact ⟨rfl, h.log.keeps hk hb, hd, h.kept.trans hk⟩
theorem crash_lit {B : Nat} {L : List Nat} {w : World} {p N : Nat} {m m' : M} (KA : Option Addr) (kn kc : Nat) (keep : List Int) (h : Has B L w p N m) (hk : Reads w w.heap.size 1 KA kn (inums keep)) (hm : Hid (m.crash keep = m')) :
    Calls Tryd.prog 28 #[.pointer (some ⟨p, 0, none⟩), .slice KA kn kc] w fun e w' => ∃ p', e = .returned (.pointer (some ⟨p', 0, none⟩)) ∧ Has B L w' p' 16 m' ∧ Below w.heap.size w w' := by
  refine (crash_has KA kn kc keep h hk).mono ?_
  rintro e w' ⟨p', rfl, h1, _, _, h2⟩
  rw [hm.out] at h1
  exact ⟨p', rfl, h1, h2⟩

set_option maxRecDepth 100000 in
set_option maxHeartbeats 2000000 in
theorem anew_long (A1 A2 : Option Addr) (n1 c1 n2 c2 : Nat) (la lb : List (List UInt8)) (x y : Int) (w : World) (h1 : RS w A1 n1 la) (h2 : RS w A2 n2 lb) (hn1 : n1 ≤ 9223372036854775807) (hn2 : n2 ≤ 9223372036854775807)
    (hxa : ∀ z ∈ la, z.length ≤ 140737488355328) (hxb : ∀ z ∈ lb, z.length ≤ 140737488355328) (ht : Tab w) (hf : ¬ (Small.Fair la ∧ Small.Fair lb)) :
    Calls Tryd.prog 7 #[.slice A1 n1 c1, .slice A2 n2 c2, .agg #[.int .i64 x, .int .i64 y]] w fun e w' => e = .returned (.bool true) ∧ Below w.heap.size w w' := by
  have HT := Lib.hid ht
  have hb0 : Below w.heap.size w (w.alloc (.cells #[.int .i64 x, .int .i64 y] 32)) := (Below.refl _ _).alloc (Nat.le_refl _) _
  by_cases hfa : Small.Fair la
  · have hfb : ¬ Small.Fair lb := fun h => hf ⟨hfa, h⟩
    have HFA := Lib.hid (decide_eq_true hfa)
    have HFB := Lib.hid (decide_eq_false hfb)
    clear ht hf hfa hfb
    go_enter Tryd.func7, Tryd.ntmps7
    go_wp2_with fail
    go_quiet (fail)
    have hbW := below_drewN hb0 nq
    revert hbW
    generalize World.drewN _ nq = W0
    intro hbW
    go_wp2_with fail
    refine (begun_any _ (Tab.next HT.out hbW)).mono ?_
    rintro e w1 ⟨rfl, hb1⟩
    have hbel1 := hbW.trans (hb1.mono hbW.size)
    have hr1 := RS.below h1 hbel1
    have hr2 := RS.below h2 hbel1
    go_wp2_with fail
    refine (small_lit A1 n1 c1 la w1 hr1 hn1 hxa HFA).mono ?_
    rintro e w2 ⟨rfl, rfl⟩
    go_wp2_with fail
    refine (small_lit A2 n2 c2 lb w1 hr2 hn2 hxb HFB).mono ?_
    rintro e w2 ⟨rfl, rfl⟩
    go_wp2
    go_ret
    exact ⟨rfl, hbel1⟩
  · have HFA := Lib.hid (decide_eq_false hfa)
    clear ht hf hfa
    go_enter Tryd.func7, Tryd.ntmps7
    go_wp2_with fail
    go_quiet (fail)
    have hbW := below_drewN hb0 nq
    revert hbW
    generalize World.drewN _ nq = W0
    intro hbW
    go_wp2_with fail
    refine (begun_any _ (Tab.next HT.out hbW)).mono ?_
    rintro e w1 ⟨rfl, hb1⟩
    have hbel1 := hbW.trans (hb1.mono hbW.size)
    have hr1 := RS.below h1 hbel1
    have hr2 := RS.below h2 hbel1
    go_wp2_with fail
    refine (small_lit A1 n1 c1 la w1 hr1 hn1 hxa HFA).mono ?_
    rintro e w2 ⟨rfl, rfl⟩
    go_wp2
    go_ret
    exact ⟨rfl, hbel1⟩

set_option maxRecDepth 100000 in
set_option maxHeartbeats 8000000 in
theorem anew_fair (A1 A2 : Option Addr) (n1 c1 n2 c2 : Nat) (la lb : List (List UInt8)) (x y : Int) (w : World) (h1 : RS w A1 n1 la) (h2 : RS w A2 n2 lb) (hn1 : n1 ≤ 9223372036854775807) (hn2 : n2 ≤ 9223372036854775807)
    (hxa : ∀ z ∈ la, z.length ≤ 140737488355328) (hxb : ∀ z ∈ lb, z.length ≤ 140737488355328) (hx0 : -9223372036854775808 ≤ x) (hx1 : x ≤ 9223372036854775807) (ht : Tab w) (hfa : Small.Fair la) (hfb : Small.Fair lb) :
    Calls Tryd.prog 7 #[.slice A1 n1 c1, .slice A2 n2 c2, .agg #[.int .i64 x, .int .i64 y]] w fun e w' => e = .returned (.bool true) ∧ Below w.heap.size w w' := by
  have HT := Lib.hid ht
  have hb0 : Below w.heap.size w (w.alloc (.cells #[.int .i64 x, .int .i64 y] 32)) := (Below.refl _ _).alloc (Nat.le_refl _) _
  have hgb := Tab.lt ht
  have HFA := Lib.hid (decide_eq_true hfa)
  have HFB := Lib.hid (decide_eq_true hfb)
  have hl1 := texts_len h1
  have hl2 := texts_len h2
  have hk1 : n1 ≤ 200 := by have := hfa.2; omega
  have hk2 : n2 ≤ 200 := by have := hfb.2; omega
  obtain ⟨m1, m2, m4, m6, r, rl, e1, e2, e3, e4, hway⟩ := anew_plain la lb x y hfa hfb
  obtain ⟨m0, hm0⟩ : ∃ m0, M.new 1048576 = m0 := ⟨_, rfl⟩
  obtain ⟨m3, hm3⟩ : ∃ m3, m2.fuelled x = m3 := ⟨_, rfl⟩
  obtain ⟨m5, hm5⟩ : ∃ m5, m4.crash [y] = m5 := ⟨_, rfl⟩
  rw [hm0] at e1
  rw [hm3] at e3
  rw [hm5] at e4
  have HM0 := Lib.hid hm0
  have HM3 := Lib.hid hm3
  have HM5 := Lib.hid hm5
  have HE1 := Lib.hid e1
  have HE2 := Lib.hid e2
  have HE3 := Lib.hid e3
  have HE4 := Lib.hid e4
  have HWAY := Lib.hid hway
  clear ht hfa hfb hl1 hl2 hm0 hm3 hm5 e1 e2 e3 e4 hway
  go_enter Tryd.func7, Tryd.ntmps7
  go_wp2_with fail
  go_quiet (fail)
  have hbW := below_drewN hb0 nq
  revert hbW
  generalize World.drewN _ nq = W0
  intro hbW
  go_wp2_with fail
  refine (begun_any _ (Tab.next HT.out hbW)).mono ?_
  rintro e w1 ⟨rfl, hb1⟩
  have hbel1 := hbW.trans (hb1.mono hbW.size)
  have hr1 := RS.below h1 hbel1
  have hr2 := RS.below h2 hbel1
  go_wp2_with fail
  refine (small_lit A1 n1 c1 la w1 hr1 hn1 hxa HFA).mono ?_
  rintro e w2 ⟨rfl, rfl⟩
  go_wp2_with fail
  refine (small_lit A2 n2 c2 lb w1 hr2 hn2 hxb HFB).mono ?_
  rintro e w2 ⟨rfl, rfl⟩
  clear hr1 hr2
  go_wp2_with fail
  refine (new_has (B := w.heap.size) 1048576 (by omega) hbel1.size).mono ?_
  rintro e w2 ⟨p, rfl, hD2, hp, hb2⟩
  rw [HM0.out] at hD2
  have hbel2 := hbel1.trans (hb2.mono hbel1.size)
  go_wp2_with fail
  refine (open_ok 0 hD2 (Tab.next HT.out hbel2) hgb (by omega) HE1).mono ?_
  rintro e w3 ⟨b, A, k, c, rfl, hk, hlog, hrs, hD3, k3, hbb⟩
  have hbel3 := hbel2.trans (k3.below hD2.low)
  clear hrs k3
  go_wp2_with fail
  refine (write_lit A1 n1 c1 la hlog hD3 (by simp) (RS.below h1 hbel3) (Tab.next HT.out hbel3) (by omega) (by omega) (by omega) (by omega) HE2).mono ?_
  rintro e w4 ⟨rfl, hS4⟩
  have hbel4 := hbel3.trans (hS4.kept.below hbel3.size)
  go_wp2_with fail
  refine (fuel_ls hS4 (by simp) hx0 hx1 HM3).mono ?_
  rintro e w5 ⟨rfl, hS5⟩
  have hbel5 := hbel3.trans (hS5.kept.below hbel3.size)
  go_wp2_with fail
  refine (anew_lit A2 n2 c2 lb hS5.log hS5.disk (by simp) (RS.below h2 hbel5) (Tab.next HT.out hbel5) (by omega) (by omega) HE3).mono ?_
  rintro e w6 ⟨rfl, hS6⟩
  have hbel6 := hbel5.trans (hS6.kept.below hbel5.size)
  have hl6 : Below w6.heap.size w6 (w6.alloc (.cells #[.int .i64 y] 3)) := (Below.refl _ _).alloc (Nat.le_refl _) _
  have hrd : Reads (w6.alloc (.cells #[.int .i64 y] 3)) (w6.alloc (.cells #[.int .i64 y] 3)).heap.size 1 (some ⟨w6.heap.size, 0, none⟩) 1 (inums [y]) := (reads_one w6 (.int .i64 y) 3).more (by simp)
  have hD6 := hS6.disk.below hl6
  have hbel7 := hbel6.trans (hl6.mono hbel6.size)
  clear hS4 hS5 hS6
  go_wp2_with fail
  refine (crash_lit _ 1 1 [y] hD6 hrd HM5).mono ?_
  rintro e w8 ⟨p', rfl, hD8, hb8⟩
  have hbel8 := hbel7.trans (hb8.mono hbel7.size)
  go_wp2_with fail
  refine (open_ok 0 hD8 (Tab.next HT.out hbel8) hgb (by omega) HE4).mono ?_
  rintro e w9 ⟨b9, A9, k9, c9, rfl, hk9, hlog9, hrs9, hD9, k9', hbb9⟩
  have hbel9 := hbel8.trans (k9'.below hD8.low)
  clear hD6 hrd hD8 hlog9 hD9 k9'
  have hk9b : k9 ≤ 9223372036854775807 := by
    rcases HWAY.out with ⟨_, _, h⟩ | ⟨_, _, h⟩ <;> (rw [← hk9, h]; have := texts_len h1; have := texts_len h2; omega)
  by_cases hx : x = 0
  · obtain ⟨hr, hrl⟩ : r = 10 ∧ rl = la := by
      rcases HWAY.out with ⟨_, h⟩ | ⟨h, _⟩
      · exact h
      · exact absurd hx h
    clear HWAY HE3 HE4
    subst hr hrl hx
    go_wp2_with fail
    refine (same_yes A9 A1 k9 n1 c9 c1 rl w9 hrs9 (RS.below h1 hbel9) hk9b).mono ?_
    rintro e w10 ⟨rfl, hb10⟩
    go_wp2
    go_ret
    exact ⟨rfl, hbel9.trans (hb10.mono hbel9.size)⟩
  · obtain ⟨hr, hrl⟩ : r = 0 ∧ rl = lb := by
      rcases HWAY.out with ⟨h, _⟩ | ⟨_, h⟩
      · exact absurd h hx
      · exact h
    clear HWAY HE3 HE4
    subst hr hrl
    go_wp2_with fail
    refine (same_yes A9 A2 k9 n2 c9 c2 rl w9 hrs9 (RS.below h2 hbel9) hk9b).mono ?_
    rintro e w10 ⟨rfl, hb10⟩
    go_wp2
    go_ret
    exact ⟨rfl, hbel9.trans (hb10.mono hbel9.size)⟩
theorem anew_walk (A1 : Option Addr) (n1 c1 : Nat) (la : List (List UInt8)) (A2 : Option Addr) (n2 c2 : Nat) (lb : List (List UInt8)) (x y : Int) (w : World) (h1 : RS w A1 n1 la) (hn1 : n1 ≤ c1) (hc1 : c1 ≤ 9223372036854775807) (hxa : ∀ z ∈ la, z.length ≤ 140737488355328)
    (h2 : RS w A2 n2 lb) (hn2 : n2 ≤ c2) (hc2 : c2 ≤ 9223372036854775807) (hxb : ∀ z ∈ lb, z.length ≤ 140737488355328) (hx : (Lit.int .i64 x).wf = true) (_hy : (Lit.int .i64 y).wf = true) (ht : Tab w) :
    Calls Tryd.prog 7 #[.slice A1 n1 c1, .slice A2 n2 c2, .agg #[.int .i64 x, .int .i64 y]] w fun e w' => e = .returned (.bool true) ∧ Below w.heap.size w w' := by
  obtain ⟨h3, h4⟩ := i64_of hx
  by_cases hf : Small.Fair la ∧ Small.Fair lb
  · exact anew_fair A1 A2 n1 c1 n2 c2 la lb x y w h1 h2 (by omega) (by omega) hxa hxb h3 h4 ht hf.1 hf.2
  · exact anew_long A1 A2 n1 c1 n2 c2 la lb x y w h1 h2 (by omega) (by omega) hxa hxb ht hf
end Go.Proofs.YtmimpfccngihiaaDoor.LawD
set_option linter.unusedVariables false
set_option linter.unusedSimpArgs false
namespace Go.Proofs.YtmimpfccngihiaaDoor.LawF
open Go.RowKit Go.Proofs.YtmimpfccngihiaaDoor.Kit Go.Proofs.YtmimpfccngihiaaDoor.Blocks Go.Proofs.YtmimpfccngihiaaDoor.Stuff Go.Proofs.YtmimpfccngihiaaDoor.Crc Go.Proofs.YtmimpfccngihiaaDoor.SumB Go.Proofs.YtmimpfccngihiaaDoor.Wal Go.Proofs.YtmimpfccngihiaaDoor.StuWalkA Go.Proofs.YtmimpfccngihiaaDoor.FrA Go.Proofs.YtmimpfccngihiaaDoor.FrC Go.Proofs.YtmimpfccngihiaaDoor.ScA Go.Proofs.YtmimpfccngihiaaDoor.ScB Go.Proofs.YtmimpfccngihiaaDoor.Frm Go.Proofs.YtmimpfccngihiaaDoor.Model Go.Proofs.YtmimpfccngihiaaDoor.Disk Go.Proofs.YtmimpfccngihiaaDoor.Ops Go.Proofs.YtmimpfccngihiaaDoor.Log Go.Proofs.YtmimpfccngihiaaDoor.LogB Go.Proofs.YtmimpfccngihiaaDoor.LogC Go.Proofs.YtmimpfccngihiaaDoor.Solo Go.Proofs.YtmimpfccngihiaaDoor.Small Go.Proofs.YtmimpfccngihiaaDoor.Beg Go.Proofs.YtmimpfccngihiaaDoor.LawA Go.Proofs.YtmimpfccngihiaaDoor.LawB Go.Proofs.YtmimpfccngihiaaDoor.LawD
open Go.Proofs.YtmimpfccngihiaaDoor.DskWalkC (str Got)
open Go.Proofs.YtmimpfccngihiaaDoor.DskWalkJ (inums)
open Go.Proofs.YtmimpfccngihiaaDoor.Model.M (kept)

def half : List UInt8 := [104, 97, 108, 102]
/-- A disk on which file 4 is opened as these records. -/
def Gro (l : List (List UInt8)) (m : M) : Prop := wopen m ((4 : Nat) : Int) = ((0, l), solo 1048576 (-1) false 4 (frames l) [] true (fun _ => false))
theorem gro_new : Gro [] (M.new 1048576) := by
  unfold Gro
  rw [new_solo 1048576 4]
  exact solo_open_new (by omega) rfl
theorem crash_there {R : Nat} {f : Int} {o : Bool} {i : Nat} {F S : List UInt8} {T : Nat → Bool} (hi : i < 16) (hR : F.length + S.length ≤ R) (keep : List Int) :
    wopen ((solo R f o i F S true T).crash keep) i = ((0, (scan (F ++ S.take (kept keep i S.length))).1), solo R (-1) false i ((F ++ S.take (kept keep i S.length)).take (scan (F ++ S.take (kept keep i S.length))).2) [] true T) := by
  rw [solo_crash]
  have hk := kept_le keep i S.length
  obtain ⟨C, hC⟩ : ∃ C, F ++ S.take (kept keep i S.length) = C := ⟨_, rfl⟩
  have hCl : C.length ≤ R := by rw [← hC, List.length_append, List.length_take]; omega
  rw [hC]
  cases ht : (true && (!C.isEmpty || S.isEmpty)) with
  | true =>
    have := solo_open_old (R := R) (f := -1) (i := i) (F := C) (S := []) (T := T) hi (by decide) (by simpa using hCl)
    rw [List.append_nil] at this
    rw [this]
    rfl
  | false =>
    have hCe : C = [] := by
      simp only [Bool.true_and, Bool.or_eq_false_iff, Bool.not_eq_false', List.isEmpty_iff] at ht
      exact ht.1
    subst hCe
    rw [solo_open_new hi rfl, scan_nil]
    rfl
theorem half_free : ∀ c ∈ half, c ≠ 0 := by decide
/-- One round: a record more. -/
theorem gro_next (l : List (List UInt8)) (x : List UInt8) (kk : Int) (hl : Recs (l ++ [x])) (hs : (frames (l ++ [x])).length ≤ 21300) : ∃ m2 r m3,
    wappend (solo 1048576 (-1) false 4 (frames l) [] true (fun _ => false)) ((4 : Nat) : Int) [x] = (0, m2) ∧ m2.append ((4 : Nat) : Int) half = (r, m3) ∧ Gro (l ++ [x]) (m3.crash [0, 0, 0, 0, kk]) := by
  have hx : Recs [x] := fun y hy => hl y (by simp only [List.mem_singleton] at hy; simp [hy])
  have hfs : frames (l ++ [x]) = frames l ++ frames [x] := frames_append l [x]
  have hfl : (frames l).length + (frames [x]).length ≤ 21300 := by rw [hfs, List.length_append] at hs; exact hs
  refine ⟨_, 0, solo 1048576 (-1) false 4 (frames (l ++ [x])) half true (fun _ => false), solo_wappend_free (by omega) [x] hx (by omega), ?_, ?_⟩
  · rw [← hfs, solo_append (by omega), if_neg (by have : half.length = 4 := rfl; simp only [List.length_nil]; omega), if_neg (by decide)]
    rfl
  · unfold Gro
    have e := crash_there (R := 1048576) (f := -1) (o := false) (i := 4) (F := frames (l ++ [x])) (S := half) (T := fun _ => false) (by omega) (by have : half.length = 4 := rfl; omega) [0, 0, 0, 0, kk]
    rw [half_scan (l ++ [x]) _ hl (fun c hc => half_free c (List.mem_of_mem_take hc))] at e
    rw [e]
    simp

set_option maxRecDepth 100000 in
set_option maxHeartbeats 2000000 in
theorem grows_long (A1 A2 : Option Addr) (n1 c1 n2 c2 : Nat) (l : List (List UInt8)) (w : World) (h1 : RS w A1 n1 l) (hn1 : n1 ≤ 9223372036854775807) (hx : ∀ z ∈ l, z.length ≤ 140737488355328) (ht : Tab w) (hf : ¬ (Small.Fair l ∧ n1 ≤ 60)) :
    Calls Tryd.prog 9 #[.slice A1 n1 c1, .slice A2 n2 c2] w fun e w' => e = .returned (.bool true) ∧ Below w.heap.size w w' := by
  have HT := Lib.hid ht
  by_cases hfa : Small.Fair l
  · have h60 : ¬ n1 ≤ 60 := fun h => hf ⟨hfa, h⟩
    have h60i : (60 : Int) < (n1 : Int) := by omega
    have HFA := Lib.hid (decide_eq_true hfa)
    clear ht hf hfa
    go_enter Tryd.func9, Tryd.ntmps9
    go_wp2_with fail
    refine (begun_any _ HT.out).mono ?_
    rintro e w1 ⟨rfl, hb1⟩
    go_wp2_with fail
    refine (small_lit A1 n1 c1 l w1 (RS.below h1 hb1) hn1 hx HFA).mono ?_
    rintro e w2 ⟨rfl, rfl⟩
    go_wp2
    go_ret
    exact ⟨rfl, hb1⟩
  · have HFA := Lib.hid (decide_eq_false hfa)
    clear ht hf hfa
    go_enter Tryd.func9, Tryd.ntmps9
    go_wp2_with fail
    refine (begun_any _ HT.out).mono ?_
    rintro e w1 ⟨rfl, hb1⟩
    go_wp2_with fail
    refine (small_lit A1 n1 c1 l w1 (RS.below h1 hb1) hn1 hx HFA).mono ?_
    rintro e w2 ⟨rfl, rfl⟩
    go_wp2
    go_ret
    exact ⟨rfl, hb1⟩

theorem open_gro {B : Nat} {w : World} {p : Nat} {m : M} {l : List (List UInt8)} (h : Has B [] w p 16 m) (ht : Tab w) (hgB : 0 < B) (hg : Hid (Gro l m)) :
    Calls Tryd.prog 22 #[.pointer (some ⟨p, 0, none⟩), .int .i64 4] w fun e w' => ∃ b A k c, e = .returned (.tuple #[.pointer (some ⟨b, 0, none⟩), .slice A k c, .int .i64 0]) ∧ l.length = k ∧ LogAt w' b p 4 ∧ RS w' A k l ∧ Has B [b] w' p 18 (solo 1048576 (-1) false 4 (frames l) [] true (fun _ => false)) ∧ Keeps B [] w w' ∧ w.heap.size ≤ b :=
  open_ok 4 h ht hgB (by omega) hg.out

theorem half_append {B : Nat} {L : List Nat} {w : World} {p N : Nat} {m m' : M} {r : Int} (h : Has B L w p N m) (hN : N < 1000000) (hr : Hid (m.append ((4 : Nat) : Int) half = (r, m'))) :
    Calls Tryd.prog 33 #[.pointer (some ⟨p, 0, none⟩), .int .i64 4, .string ⟨#[104, 97, 108, 102]⟩] w fun e w' => e = .returned (.int .i64 r) ∧ Has B L w' p (N + 1) m' ∧ Keeps B L w w' := by
  refine (append_has 4 ⟨#[104, 97, 108, 102]⟩ h hN).mono ?_
  intro e w' hd
  have e1 : m.append 4 (ByteArray.mk #[104, 97, 108, 102]).data.toList = (r, m') := hr.out
  obtain ⟨h1, h2, h3⟩ := hd
  rw [e1] at h1 h2
  exact ⟨h1, h2, h3⟩

set_option maxRecDepth 100000 in
set_option maxHeartbeats 16000000 in
theorem grows_fair (A1 A2 : Option Addr) (n1 c1 n2 c2 : Nat) (l : List (List UInt8)) (kl : List Int) (w : World) (h1 : RS w A1 n1 l) (h2 : Reads w w.heap.size 1 A2 n2 (inums kl)) (hn1 : n1 ≤ 60) (hc1 : n1 ≤ c1) (hn2 : n2 ≤ 9223372036854775807) (hx : ∀ z ∈ l, z.length ≤ 140737488355328) (ht : Tab w) (hfa : Small.Fair l) :
    Calls Tryd.prog 9 #[.slice A1 n1 c1, .slice A2 n2 c2] w fun e w' => e = .returned (.bool true) ∧ Below w.heap.size w w' := by
  have HT := Lib.hid ht
  have hgb := Tab.lt ht
  have HFA := Lib.hid (decide_eq_true hfa)
  have HL := Lib.hid (texts_len h1)
  have HREC := Lib.hid hfa.recs
  have HFR := Lib.hid hfa.frames
  have HX := Lib.hid hx
  obtain ⟨m0, hm0⟩ : ∃ m0, M.new 1048576 = m0 := ⟨_, rfl⟩
  have HM0 := Lib.hid hm0
  have h60 : ¬ (60 : Int) < (n1 : Int) := by omega
  have hkl2 : kl.length = n2 := by have := h2.len; simpa [inums] using this
  have HKL := Lib.hid hkl2
  clear hkl2
  have HG0 : Hid (Gro [] m0) := by rw [← hm0]; exact gro_new
  clear ht hfa hm0 hx
  go_enter Tryd.func9, Tryd.ntmps9
  go_wp2_with fail
  refine (begun_any _ HT.out).mono ?_
  rintro e w1 ⟨rfl, hb1⟩
  go_wp2_with fail
  refine (small_lit A1 n1 c1 l w1 (RS.below h1 hb1) (by omega) HX.out HFA).mono ?_
  rintro e w2 ⟨rfl, rfl⟩
  go_wp2_with fail
  refine (new_has (B := w.heap.size) 1048576 (by omega) hb1.size).mono ?_
  rintro e w2 ⟨p0, rfl, hD0, hp0, hb2⟩
  rw [HM0.out] at hD0
  have hbel2 := hb1.trans (hb2.mono hb1.size)
  have hD0' := hD0.more (show 0 ≤ 16 by omega)
  clear hD0
  go_wp2_with fail
  go_loopw [5, 32] (fun d i wr => ∃ (k p : Nat) (m : M), k ≤ n1 ∧ i = .int .i64 (k : Int) ∧ d = .pointer (some ⟨p, 0, none⟩) ∧ Has w.heap.size [] wr p 16 m ∧ Hid (Gro (l.take k) m) ∧ Below w.heap.size w wr) (fun _ i _ => n1 - (intOf i).toNat)
  case atStart => exact ⟨0, p0, m0, by omega, rfl, rfl, hD0', by simpa using HG0, hbel2⟩
  case round =>
    obtain ⟨k, p, m, hk, rfl, rfl, hD, hG, hbel⟩ := hrel
    have hB := hbel.size
    by_cases hkn : k < n1
    · have hkl : k < l.length := by rw [HL.out]; exact hkn
      have hr := RS.below h1 hbel
      obtain ⟨b, o, hA1, hb, hc⟩ := Reads.text hr hkn hkl
      subst hA1
      obtain ⟨x, hx'⟩ : ∃ x, l[k] = x := ⟨_, rfl⟩
      rw [hx'] at hc
      have hsn : l.take (k + 1) = l.take k ++ [x] := by rw [List.take_succ_eq_append_getElem hkl, hx']
      have HSN := Lib.hid hsn
      have hlt : (l.take k).length = k := by rw [List.length_take, HL.out]; omega
      have HLT := Lib.hid hlt
      clear hx' hsn hlt
      go_wp2_with fail
      refine (open_gro hD (Tab.next HT.out hbel) hgb hG).mono ?_
      rintro e w3 ⟨bl, A3, k3, c3, rfl, hk3, hlog, hrs3, hD3, kk3, hbb3⟩
      obtain rfl : k3 = k := by rw [← hk3]; exact HLT.out
      have hbel3 := hbel.trans (kk3.below hD.low)
      have hup := RS.upto (RS.below h1 hbel3) hk
      have hkc : k3 ≤ c1 := by omega
      obtain ⟨kk, hkk⟩ : ∃ kk : Int, kk = if h : k3 < kl.length then kl[k3] else 0 := ⟨_, rfl⟩
      have hrecn : Recs (l.take k3 ++ [x]) := by rw [← HSN.out]; exact recs_take HREC.out (k3 + 1)
      have hfrn : (frames (l.take k3 ++ [x])).length ≤ 21300 := by rw [← HSN.out]; have := frames_take_le l (k3 + 1); have := HFR.out; omega
      obtain ⟨m2, r4, m4, g1, g2, g3⟩ := gro_next (l.take k3) x kk hrecn hfrn
      rw [← HSN.out] at g3
      obtain ⟨m5, hm5⟩ : ∃ m5, m4.crash [0, 0, 0, 0, kk] = m5 := ⟨_, rfl⟩
      rw [hm5] at g3
      obtain ⟨M3, hM3⟩ : ∃ M3, solo 1048576 (-1) false 4 (frames (l.take k3)) [] true (fun _ => false) = M3 := ⟨_, rfl⟩
      rw [hM3] at hD3 g1
      have HG1 := Lib.hid g1
      have HG2 := Lib.hid g2
      have HG3 := Lib.hid g3
      have HM5 := Lib.hid hm5
      have HKK := Lib.hid hkk
      clear g1 g2 g3 hm5 hM3 hkk hrecn hfrn hr hc
      go_wp2_with fail
      refine (same_yes A3 _ k3 k3 c3 c1 (l.take k3) w3 hrs3 hup (by omega)).mono ?_
      rintro e w4 ⟨rfl, hb4⟩
      have hbel4 := hbel3.trans (hb4.mono hbel3.size)
      have hl4 : Below w4.heap.size w4 (w4.alloc (.cells #[.string (str x)] 9)) := (Below.refl _ _).alloc (Nat.le_refl _) _
      have hrd4 : RS (w4.alloc (.cells #[.string (str x)] 9)) (some ⟨w4.heap.size, 0, none⟩) 1 [x] := (reads_one w4 (.string (str x)) 9).more (by simp)
      have hbel5 := hbel4.trans (hl4.mono hbel4.size)
      go_wp2_with fail
      refine (write_lit _ 1 1 [x] ((hlog.below hb4).below hl4) ((hD3.below hb4).below hl4) (by simp) hrd4 (Tab.next HT.out hbel5) (by omega) (by omega) (by omega) (by omega) HG1).mono ?_
      rintro e w6 ⟨rfl, hS6⟩
      have hbel6 := hbel5.trans (hS6.kept.below (Nat.le_trans hbel4.size hl4.size))
      have hD6 := hS6.disk
      clear hrs3 hup hrd4 hlog hD3 hS6
      by_cases hk2 : k3 < n2
      · have hkk2 : k3 < kl.length := by rw [HKL.out]; exact hk2
        have hkke : kk = kl[k3] := by rw [HKK.out, dif_pos hkk2]
        have h2r := (Kit.Reads.below h2 hbel6).more hbel6.size
        obtain ⟨b7, o7, hA2, _, hc7⟩ := LawB.Reads.lit h2r hk2 (u := .int .i64 kk) (by rw [hkke]; simp [inums, List.getElem?_eq_getElem hkk2])
        subst hA2
        clear h2r hkke
        go_wp2_with fail
        refine (half_append hD6 (by omega) HG2).mono ?_
        rintro e w7 ⟨rfl, hD7, hk7⟩
        have hbel7 := hbel6.trans (hk7.below hD6.low)
        have hl7 : Below w7.heap.size w7 (w7.alloc (.cells #[.int .i64 0, .int .i64 0, .int .i64 0, .int .i64 0, .int .i64 kk] 3)) := (Below.refl _ _).alloc (Nat.le_refl _) _
        have hrd7 : Reads (w7.alloc (.cells #[.int .i64 0, .int .i64 0, .int .i64 0, .int .i64 0, .int .i64 kk] 3)) (w7.alloc (.cells #[.int .i64 0, .int .i64 0, .int .i64 0, .int .i64 0, .int .i64 kk] 3)).heap.size 1 (some ⟨w7.heap.size, 0, none⟩) 5 (inums [0, 0, 0, 0, kk]) := (reads_new w7 (inums [0, 0, 0, 0, kk]) 3).more (by simp)
        have hbel8 := hbel7.trans (hl7.mono hbel7.size)
        go_wp2_with fail
        refine (crash_lit _ 5 5 [0, 0, 0, 0, kk] (hD7.below hl7) hrd7 HM5).mono ?_
        rintro e w9 ⟨p9, rfl, hD9, hb9⟩
        have hbel9 := hbel8.trans (hb9.mono hbel8.size)
        have hD9' := hD9.fewer (L' := []) (by simp)
        clear hD9 hD7 hrd7 hk7
        go_wp2
        go_roundw
        case rel => exact ⟨k3 + 1, p9, m5, by omega, by go_num, rfl, hD9', HG3, hbel9⟩
        case measure => simp [intOf]; omega
      · have hkk0 : kk = 0 := by rw [HKK.out, dif_neg (by rw [HKL.out]; exact hk2)]
        clear HKK
        subst hkk0
        go_wp2_with fail
        refine (half_append hD6 (by omega) HG2).mono ?_
        rintro e w7 ⟨rfl, hD7, hk7⟩
        have hbel7 := hbel6.trans (hk7.below hD6.low)
        have hl7 : Below w7.heap.size w7 (w7.alloc (.cells #[.int .i64 0, .int .i64 0, .int .i64 0, .int .i64 0, .int .i64 0] 3)) := (Below.refl _ _).alloc (Nat.le_refl _) _
        have hrd7 : Reads (w7.alloc (.cells #[.int .i64 0, .int .i64 0, .int .i64 0, .int .i64 0, .int .i64 0] 3)) (w7.alloc (.cells #[.int .i64 0, .int .i64 0, .int .i64 0, .int .i64 0, .int .i64 0] 3)).heap.size 1 (some ⟨w7.heap.size, 0, none⟩) 5 (inums [0, 0, 0, 0, 0]) := (reads_new w7 (inums [0, 0, 0, 0, 0]) 3).more (by simp)
        have hbel8 := hbel7.trans (hl7.mono hbel7.size)
        go_wp2_with fail
        refine (crash_lit _ 5 5 [0, 0, 0, 0, 0] (hD7.below hl7) hrd7 HM5).mono ?_
        rintro e w9 ⟨p9, rfl, hD9, hb9⟩
        have hbel9 := hbel8.trans (hb9.mono hbel8.size)
        have hD9' := hD9.fewer (L' := []) (by simp)
        clear hD9 hD7 hrd7 hk7
        go_wp2
        go_roundw
        case rel => exact ⟨k3 + 1, p9, m5, by omega, by go_num, rfl, hD9', HG3, hbel9⟩
        case measure => simp [intOf]; omega
    · obtain rfl : k = n1 := by omega
      have hfull : l.take k = l := List.take_of_length_le (by rw [HL.out]; omega)
      rw [hfull] at hG
      clear hfull
      go_wp2_with fail
      refine (open_gro hD (Tab.next HT.out hbel) hgb hG).mono ?_
      rintro e w3 ⟨bl, A3, k3, c3, rfl, hk3, hlog, hrs3, hD3, kk3, hbb3⟩
      have hbel3 := hbel.trans (kk3.below hD.low)
      clear hlog hD3 kk3
      go_wp2_with fail
      refine (same_yes A3 A1 k3 k c3 c1 l w3 hrs3 (RS.below h1 hbel3) (by rw [← hk3, HL.out]; omega)).mono ?_
      rintro e w4 ⟨rfl, hb4⟩
      go_wp2
      go_ret
      exact ⟨rfl, hbel3.trans (hb4.mono hbel3.size)⟩
theorem grows_walk (A1 : Option Addr) (n1 c1 : Nat) (l : List (List UInt8)) (A2 : Option Addr) (n2 c2 : Nat) (kl : List Int) (w : World) (h1 : RS w A1 n1 l) (hn1 : n1 ≤ c1) (hc1 : c1 ≤ 9223372036854775807) (hx : ∀ z ∈ l, z.length ≤ 140737488355328)
    (h2 : Reads w w.heap.size 1 A2 n2 (inums kl)) (hn2 : n2 ≤ c2) (hc2 : c2 ≤ 9223372036854775807) (_hz : ∀ z ∈ kl, -9223372036854775808 ≤ z ∧ z ≤ 9223372036854775807) (ht : Tab w) :
    Calls Tryd.prog 9 #[.slice A1 n1 c1, .slice A2 n2 c2] w fun e w' => e = .returned (.bool true) ∧ Below w.heap.size w w' := by
  by_cases hf : Small.Fair l ∧ n1 ≤ 60
  · exact grows_fair A1 A2 n1 c1 n2 c2 l kl w h1 h2 hf.2 hn1 (by omega) hx ht hf.1
  · exact grows_long A1 A2 n1 c1 n2 c2 l w h1 (by omega) hx ht hf
end Go.Proofs.YtmimpfccngihiaaDoor.LawF
set_option linter.unusedVariables false
set_option linter.unusedSimpArgs false
namespace Go.Proofs.YtmimpfccngihiaaDoor.Opens
open Go.ChangeShapes Go.WideShapes Go.ChangeAt Go.RowKit Go.Deep Go.Proofs.YtmimpfccngihiaaDoor.Kit Go.Proofs.YtmimpfccngihiaaDoor.ScA
open Go.Proofs.YtmimpfccngihiaaDoor.DskWalkC (str)

theorem weights_in {H : Type} {P : Program} {e : TypeId} : ∀ {l : List (DataW H)} {d : DataW H}, d ∈ l → ∀ n ∈ d.weights P e, n ∈ DataW.weightsAll P e l
  | x :: l, d, h, n, hn => by
    simp only [DataW.weightsAll, List.mem_append]
    rcases List.mem_cons.1 h with rfl | h
    · exact .inl hn
    · exact .inr (weights_in h n hn)
/-- A slice of texts that came in. -/
structure Came (w : World) (a : Option Addr) (len cap : Nat) (l : List (List UInt8)) : Prop where
  reads : RS w a len l
  fits : len ≤ cap
  max : cap ≤ 9223372036854775807
section
variable {H : Type} {enc : TypeId × Value → H} {P : Program} {w : World}
theorem reads_of {y : Addr} {len : Nat} {Sx : Nat → ByteArray} (h : ∀ i, i < len → w.cell? (y.add i) = some (.string (Sx i))) : RS w (some y) len ((List.range len).map fun i => (Sx i).data.toList) := by
  refine ⟨by simp [ScA.strs], fun hn => ?_⟩
  have h0 := h 0 (by omega)
  rw [add_zero] at h0
  refine ⟨y, rfl, World.block_lt_of_cell? _ _ h0, fun j u hj => ?_⟩
  have hjl : j < len := by
    have := (List.getElem?_eq_some_iff.1 hj).1
    simpa [ScA.strs] using this
  rw [h j hjl, ← hj]
  simp [ScA.strs, hjl]
  rfl
theorem open_texts {t e : TypeId} {fuel len cap : Nat} {a0 : Option Addr} {x : DataW H × List MemPlace} (ht : P.underlying t = some (.slice e)) (he : P.underlying e = some .string) (hc : P.cellsOf e = 1)
    (h : DataW.trod enc P w 0 (fun _ => true) true fuel t [Value.slice a0 len cap] = some x) : ∃ l, Came w a0 len cap l ∧ ((∀ n ∈ x.1.weights P t, n ≤ reachBytes) → ∀ y ∈ l, y.length ≤ 140737488355328) := by
  rcases open_strs ht he hc h with ⟨hcs, hx⟩ | ⟨y, l, c, m, Sx, hcs, _, hl, hm, hmm, hx, hcell⟩
  · simp at hcs
    obtain ⟨rfl, rfl, rfl⟩ := hcs
    exact ⟨[], ⟨Reads.none_, by omega, by omega⟩, fun _ y hy => by simp at hy⟩
  · simp at hcs
    obtain ⟨rfl, rfl, rfl⟩ := hcs
    unfold maxLen at hm
    simp only [if_true] at hmm
    refine ⟨_, ⟨reads_of fun i hi => (hcell i (by omega)).1, hl, by omega⟩, fun hw y hy => ?_⟩
    subst hx
    obtain ⟨i, hi, rfl⟩ := List.mem_map.1 hy
    have hil := List.mem_range.1 hi
    have : (Sx i).data.toList.length ≤ reachBytes := hw _ (by
      simp only [DataW.weights, ht, List.mem_cons, List.mem_append]
      refine .inr (.inl (weights_in (d := .lit (.string (Sx i).data.toList)) (List.mem_map.2 ⟨i, hi, rfl⟩) _ ?_))
      simp [DataW.weights])
    have h2 := reachBytes_lt
    omega
/-- A slice of slices of texts. -/
def Holds (w : World) (a : Option Addr) (n : Nat) (L : List (List (List UInt8))) : Prop :=
  L.length = n ∧ ∀ k (hk : k < L.length), ∃ b o A m c, a = some ⟨b, o, none⟩ ∧ b < w.heap.size ∧ w.cell? ⟨b, o + k, none⟩ = some (.slice A m c) ∧ Came w A m c L[k]
theorem Holds.at_ {w' : World} {a : Option Addr} {n : Nat} {L : List (List (List UInt8))} (h : Holds w a n L) (hb : Below w.heap.size w w') (k : Nat) (hk : k < L.length) :
    ∃ b o A m c, a = some ⟨b, o, none⟩ ∧ w'.cell? ⟨b, o + k, none⟩ = some (.slice A m c) ∧ RS w' A m L[k] ∧ m ≤ c ∧ c ≤ 9223372036854775807 := by
  obtain ⟨b, o, A, m, c, rfl, hlt, hc, hr⟩ := h.2 k hk
  exact ⟨b, o, A, m, c, rfl, (hb.cell (p := ⟨b, o + k, none⟩) hlt).trans hc, (Kit.Reads.below hr.reads hb).more hb.size, hr.fits, hr.max⟩
theorem open_textss {t q e : TypeId} {fuel len cap : Nat} {a0 : Option Addr} {x : DataW H × List MemPlace} (ht : P.underlying t = some (.slice q)) (hq : P.underlying q = some (.slice e)) (he : P.underlying e = some .string) (cq : P.cellsOf q = 1) (hc : P.cellsOf e = 1)
    (h : DataW.trod enc P w 0 (fun _ => true) true fuel t [Value.slice a0 len cap] = some x) : ∃ L, Holds w a0 len L ∧ len ≤ cap ∧ cap ≤ 9223372036854775807 ∧ ((∀ n ∈ x.1.weights P t, n ≤ reachBytes) → ∀ l ∈ L, ∀ y ∈ l, y.length ≤ 140737488355328) := by
  rcases open_slice1 ht cq h with ⟨hcs, hx⟩ | ⟨y, l, c, m, n, V, D, Pl, hcs, _, hl, hm, hmm, hx, hcell⟩
  · simp at hcs
    obtain ⟨rfl, rfl, rfl⟩ := hcs
    exact ⟨[], ⟨rfl, fun k hk => absurd hk (by simp)⟩, by omega, by omega, fun _ y hy => by simp at hy⟩
  · simp at hcs
    obtain ⟨rfl, rfl, rfl⟩ := hcs
    unfold maxLen at hm
    simp only [if_true] at hmm
    have each : ∀ i, i < len → ∃ r : List (List UInt8), ∃ A m' c', V i = .slice A m' c' ∧ Came w A m' c' r ∧ ((∀ n ∈ (D i).weights P q, n ≤ reachBytes) → ∀ y ∈ r, y.length ≤ 140737488355328) := fun i hi => by
      obtain ⟨h1, h2⟩ := hcell i (by omega)
      obtain ⟨A, m', c', hv⟩ : ∃ A m' c', V i = .slice A m' c' := by
        rcases open_strs hq he hc h2 with ⟨hcs, _⟩ | ⟨y, l, c, m, Sx, hcs, _⟩
        · simp at hcs; exact ⟨_, _, _, hcs⟩
        · simp at hcs; exact ⟨_, _, _, hcs⟩
      rw [hv] at h2
      obtain ⟨r, hr1, hr2⟩ := open_texts hq he hc h2
      exact ⟨r, A, m', c', hv, hr1, hr2⟩
    obtain ⟨f, hf⟩ := choose_lt each
    have hsp : 0 < len → y = ⟨y.block, y.off, none⟩ := fun hp => by
      have g0 := (hcell 0 (by omega)).1
      rw [add_zero] at g0
      have hs := World.cell?_spot g0
      obtain ⟨b, o, s⟩ := y
      have : s = none := hs
      subst this
      rfl
    refine ⟨(List.range len).map f, ⟨by simp, fun k hk => ?_⟩, hl, by omega, fun hw r hr z hz => ?_⟩
    · have hkl : k < len := by simpa using hk
      obtain ⟨A, m', c', hv, hr1, _⟩ := hf k hkl
      have g := (hcell k (by omega)).1
      have hy := hsp (by omega)
      rw [hv, hy, Addr.add_lit] at g
      refine ⟨y.block, y.off, A, m', c', by rw [← hy], World.block_lt_of_cell? w (⟨y.block, y.off + k, none⟩ : Addr) g, g, ?_⟩
      simpa using hr1
    · obtain ⟨i, hi, rfl⟩ := List.mem_map.1 hr
      have hil := List.mem_range.1 hi
      obtain ⟨A, m', c', hv, _, hr2⟩ := hf i hil
      refine hr2 (fun n hn => hw n ?_) z hz
      subst hx
      simp only [DataW.weights, ht, List.mem_cons, List.mem_append]
      exact .inr (.inl (weights_in (d := D i) (List.mem_map.2 ⟨i, hi, rfl⟩) n hn))
/-- A slice of numbers that came in. -/
theorem open_nums {t e : TypeId} {fuel len cap : Nat} {a0 : Option Addr} {x : DataW H × List MemPlace} (ht : P.underlying t = some (.slice e)) (he : P.underlying e = some (.int .i64)) (hc : P.cellsOf e = 1)
    (h : DataW.trod enc P w 0 (fun _ => true) true fuel t [Value.slice a0 len cap] = some x) : ∃ l, Reads w w.heap.size 1 a0 len (DskWalkJ.inums l) ∧ len ≤ cap ∧ cap ≤ 9223372036854775807 ∧ ∀ z ∈ l, -9223372036854775808 ≤ z ∧ z ≤ 9223372036854775807 := by
  rcases open_ints ht he hc h with ⟨hcs, hx⟩ | ⟨y, l, c, zs, hcs, _, hl, hm, hz, hx, hcell, hwz⟩
  · simp at hcs
    obtain ⟨rfl, rfl, rfl⟩ := hcs
    exact ⟨[], Reads.none_, by omega, by omega, fun _ hz => by simp at hz⟩
  · simp at hcs
    obtain ⟨rfl, rfl, rfl⟩ := hcs
    simp only [if_true] at hz
    unfold maxLen at hm
    refine ⟨zs.take len, ⟨by simp [DskWalkJ.inums]; omega, fun hn => ?_⟩, hl, by omega, fun z hz => ?_⟩
    · have h0 := hcell 0 (by omega)
      rw [add_zero] at h0
      refine ⟨y, rfl, World.block_lt_of_cell? _ _ h0, fun j u hj => ?_⟩
      have hjl : j < len := by
        have := (List.getElem?_eq_some_iff.1 hj).1
        simp [DskWalkJ.inums] at this
        omega
      rw [hcell j (by omega), ← hj]
      simp [DskWalkJ.inums, hjl, List.getD, List.getElem?_eq_getElem (show j < zs.length by omega)]
    · have := hwz z (List.mem_of_mem_take hz)
      simpa [Lit.wf, IntKind.min, IntKind.max, IntKind.signed, IntKind.bits] using this
/-- What the form's own reach says of one argument. -/
theorem each_of {ts : List TypeId} {ds : List (DataW H)} {j : Nat} {t : TypeId} {d : DataW H} (hs : (DataW.weightsEach P ts ds).all (· ≤ reachBytes) = true) (ht : ts[j]? = some t) (hd : ds[j]? = some d) : ∀ n ∈ d.weights P t, n ≤ reachBytes := fun n hn => by
  have := List.all_eq_true.1 hs n (DataW.weights_mem_each ht hd n hn)
  simpa using this
end
end Go.Proofs.YtmimpfccngihiaaDoor.Opens
