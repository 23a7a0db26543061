/- What each statement of layer 5 asks first, walked: a record is there behind a crash. -/
import Derived.Test.YtmimpfccngihiaaDoorSmall
set_option linter.unusedVariables false
set_option linter.unusedSimpArgs false
namespace Go.Proofs.YtmimpfccngihiaaDoor.Beg
open Go.RowKit Go.Proofs.YtmimpfccngihiaaDoor.Kit Go.Proofs.YtmimpfccngihiaaDoor.Blocks Go.Proofs.YtmimpfccngihiaaDoor.Stuff Go.Proofs.YtmimpfccngihiaaDoor.Crc Go.Proofs.YtmimpfccngihiaaDoor.SumB Go.Proofs.YtmimpfccngihiaaDoor.Wal Go.Proofs.YtmimpfccngihiaaDoor.FrA Go.Proofs.YtmimpfccngihiaaDoor.FrC Go.Proofs.YtmimpfccngihiaaDoor.ScA Go.Proofs.YtmimpfccngihiaaDoor.ScB Go.Proofs.YtmimpfccngihiaaDoor.Frm Go.Proofs.YtmimpfccngihiaaDoor.Model Go.Proofs.YtmimpfccngihiaaDoor.Disk Go.Proofs.YtmimpfccngihiaaDoor.Ops Go.Proofs.YtmimpfccngihiaaDoor.Log Go.Proofs.YtmimpfccngihiaaDoor.LogB Go.Proofs.YtmimpfccngihiaaDoor.LogC Go.Proofs.YtmimpfccngihiaaDoor.Solo Go.Proofs.YtmimpfccngihiaaDoor.Small
open Go.Proofs.YtmimpfccngihiaaDoor.DskWalkC (str Got)
open Go.Proofs.YtmimpfccngihiaaDoor.DskWalkJ (inums)

/-- An opening that goes well. -/
theorem open_ok {B : Nat} {L : List Nat} {w : World} {p N : Nat} {m m' : M} {rl : List (List UInt8)} (n : Int) (h : Has B L w p N m) (ht : Tab w) (hgB : 0 < B) (hN : N < 900000) (ho : Hid (wopen m n = ((0, rl), m'))) :
    Calls Tryd.prog 22 #[.pointer (some ⟨p, 0, none⟩), .int .i64 n] w fun e w' => ∃ b A k c, e = .returned (.tuple #[.pointer (some ⟨b, 0, none⟩), .slice A k c, .int .i64 0]) ∧ rl.length = k ∧ LogAt w' b p n ∧ RS w' A k rl ∧ Has B (b :: L) w' p (N + 2) m' ∧ Keeps B L w w' ∧ w.heap.size ≤ b := by
  refine (open_any n h ht hgB hN).mono ?_
  intro e w' hh
  rw [ho.out] at hh
  rcases hh with ⟨h0, _⟩ | ⟨_, b, A, c, he, h1, h2, h3, h4, h5⟩
  · exact absurd rfl h0
  · exact ⟨b, A, _, c, he, rfl, h1, h2, h3, h4, h5⟩
/-- Writing, by a name. -/
theorem write_lit {B : Nat} {L : List Nat} {w : World} {b p N : Nat} {m m' : M} {n r : Int} (A : Option Addr) (k c : Nat) (l : List (List UInt8)) (hlog : LogAt w b p n) (h : Has B L w p N m) (hb : b ∈ L) (hl : RS w A k l) (ht : Tab w) (hk : k ≤ 1000000) (hN : N < 900000) (h0 : -9223372036854775808 ≤ n) (h1 : n ≤ 9223372036854775807) (hw : Hid (wappend m n l = (r, m'))) :
    Calls Tryd.prog 26 #[.pointer (some ⟨b, 0, none⟩), .slice A k c] w fun e w' => e = .returned (.int .i64 r) ∧ LS B L w b p (N + 2) n m' w' := by
  refine (append_any A k c l hlog h hb hl ht hk hN h0 h1).mono ?_
  intro e w' hh
  unfold Wrote at hh
  rw [hw.out] at hh
  exact hh
theorem anew_lit {B : Nat} {L : List Nat} {w : World} {b p N : Nat} {m m' : M} {n r : Int} (A : Option Addr) (k c : Nat) (l : List (List UInt8)) (hlog : LogAt w b p n) (h : Has B L w p N m) (hb : b ∈ L) (hl : RS w A k l) (ht : Tab w) (hk : k ≤ 1000000) (hN : N < 900000) (hw : Hid (wanew m n l = (r, m'))) :
    Calls Tryd.prog 24 #[.pointer (some ⟨b, 0, none⟩), .slice A k c] w fun e w' => e = .returned (.int .i64 r) ∧ LS B L w b p (N + 2) n m' w' := by
  refine (anew_any A k c l hlog h hb hl ht hk hN).mono ?_
  intro e w' hh
  unfold Wrote at hh
  rw [hw.out] at hh
  exact hh
theorem frame_nil : frame [] = [1, 1, 1, 1, 1, 0] := by
  have h0 : four (add 0 []) = [0, 0, 0, 0] := by rw [add_nil]; decide
  have e1 : encode [0, 0, 0, 0] = [1, 1, 1, 1, 1] := by
    rw [encode_zero [0, 0, 0, 0] (by decide) (by decide), encode_zero _ (by decide) (by decide), encode_zero _ (by decide) (by decide), encode_zero _ (by decide) (by decide), encode_last _ (by decide) (by decide)]
    decide
  unfold frame body
  rw [h0]
  show encode [0, 0, 0, 0] ++ [0] = _
  rw [e1]
  rfl
def ab : List UInt8 := [97, 98]
theorem recs_ab : Recs [ab] := fun x hx => by simp only [List.mem_singleton] at hx; subst hx; decide
theorem frames_ab : (frames [ab]).length ≤ 8 := by
  have h1 := frames_short [ab]
  have h2 : weigh [ab] = 2 := rfl
  have h3 : [ab].length = 1 := rfl
  omega

set_option maxRecDepth 100000 in
set_option maxHeartbeats 4000000 in
theorem begun_any (w : World) (ht : Tab w) : Calls Tryd.prog 10 #[] w fun e w' => e = .returned (.bool true) ∧ Below w.heap.size w w' := by
  have hg := Tab.lt ht
  have HT := Lib.hid ht
  obtain ⟨m0, hm0⟩ : ∃ m0, M.new 100 = m0 := ⟨_, rfl⟩
  have hN0 : M.new 100 = solo 100 (-1) false 0 [] [] false (fun _ => false) := new_solo 100 0
  obtain ⟨m1, hm1⟩ : ∃ m1, solo 100 (-1) false 0 [] [] true (fun _ => false) = m1 := ⟨_, rfl⟩
  obtain ⟨m2, hm2⟩ : ∃ m2, solo 100 (-1) false 0 (frames [ab]) [] true (fun _ => false) = m2 := ⟨_, rfl⟩
  have ho1 : wopen m0 ((0 : Nat) : Int) = ((0, []), m1) := by
    rw [← hm0, hN0, ← hm1]
    exact solo_open_new (i := 0) (by omega) rfl
  have ha1 : wappend m1 ((0 : Nat) : Int) [ab] = (0, m2) := by
    rw [← hm1, solo_wappend_free (i := 0) (by omega) _ recs_ab (by have := frames_ab; simp; omega), List.nil_append, ← hm2]
  have ho2 : ∃ m4, wopen (m2.crash []) ((0 : Nat) : Int) = ((0, [ab]), m4) := by
    rw [← hm2]
    obtain ⟨t', e⟩ := solo_again (R := 100) (f := -1) (o := false) (i := 0) (F := frames [ab]) (S := []) (T := fun _ => false) (by omega) (by have := frames_ab; simp; omega) []
    rw [e, List.take_nil, List.append_nil, scan_all _ recs_ab]
    exact ⟨_, rfl⟩
  obtain ⟨m4, ho2⟩ := ho2
  obtain ⟨m3, hm3⟩ : ∃ m3, m2.crash [] = m3 := ⟨_, rfl⟩
  rw [hm3] at ho2
  have HO1 := Lib.hid ho1
  have HA1 := Lib.hid ha1
  have HO2 := Lib.hid ho2
  have HM3 := Lib.hid hm3
  have HM0 := Lib.hid hm0
  have hfn : (ByteArray.toList (str (frame []))) = [1, 1, 1, 1, 1, 0] := by rw [Lib.toList_data, str_list, frame_nil]
  obtain ⟨F0, hF0⟩ : ∃ F0, str (frame (ByteArray.mk #[]).data.toList) = F0 := ⟨_, rfl⟩
  have hF1 : (F0.toList == [1, 1, 1, 1, 1, 0]) = true := by
    rw [← hF0, beq_iff_eq]
    exact hfn
  have HF0 := Lib.hid hF0
  have HF1 := Lib.hid hF1
  clear hN0 hm1 hm2 ho1 ha1 ho2 hm3 hfn ht hm0 hF0 hF1
  go_enter Tryd.func10, Tryd.ntmps10
  go_wp2_with fail
  refine (new_has (B := w.heap.size) 100 (by omega) (Nat.le_refl _)).mono ?_
  rintro e w1 ⟨p, rfl, hD1, hp, hb1⟩
  rw [HM0.out] at hD1
  have ht1 := Tab.next HT.out hb1
  go_wp2_with fail
  refine (open_ok 0 hD1 ht1 hg (by omega) HO1).mono ?_
  rintro e w2 ⟨b, A, k, c, rfl, hk, hlog, hrs, hD2, k2, hbb⟩
  have hb2 : Below w.heap.size w w2 := hb1.trans (k2.below hD1.low)
  have ht2 := Tab.next HT.out hb2
  obtain rfl : k = 0 := hk.symm
  clear k2
  have hl2 : Below w2.heap.size w2 (w2.alloc (.cells #[.string ⟨#[97, 98]⟩] 9)) := (Below.refl _ _).alloc (Nat.le_refl _) _
  have hrd : RS (w2.alloc (.cells #[.string ⟨#[97, 98]⟩] 9)) (some ⟨w2.heap.size, 0, none⟩) 1 [ab] := (reads_one w2 (.string ⟨#[97, 98]⟩) 9).more (by simp)
  go_wp2_with fail
  refine (write_lit _ 1 1 [ab] (hlog.below hl2) (hD2.below hl2) (by simp) hrd (Tab.next ht2 hl2) (by omega) (by omega) (by omega) (by omega) HA1).mono ?_
  rintro e w3 ⟨rfl, hS3⟩
  have hb3 : Below w.heap.size w w3 := (hb2.trans (hl2.mono hb2.size)).trans (hS3.kept.below (Nat.le_trans hb2.size hl2.size))
  have ht3 := Tab.next HT.out hb3
  have hD3 := hS3.disk
  clear hS3 hrs hlog
  go_wp2_with fail
  refine (crash_has none 0 0 [] hD3 Reads.none_).mono ?_
  rintro e w4 ⟨p', rfl, hD4, _, hp', hb4⟩
  rw [HM3.out] at hD4
  have hb4' : Below w.heap.size w w4 := hb3.trans (hb4.mono hb3.size)
  have ht4 := Tab.next HT.out hb4'
  go_wp2_with fail
  refine (open_ok 0 hD4 ht4 hg (by omega) HO2).mono ?_
  rintro e w5 ⟨b', A5, k5, c5, rfl, hk5, hlog5, hrs5, hD5, k5', hbb5⟩
  obtain rfl : k5 = 1 := hk5.symm
  have hb5 : Below w.heap.size w w5 := hb4'.trans (k5'.below hD4.low)
  have ht5 := Tab.next HT.out hb5
  obtain ⟨x5, o5, rfl, _, hc5⟩ := Reads.text hrs5 (k := 0) (by omega) (by simp)
  have hc5' : w5.cell? ⟨x5, o5, none⟩ = some (.string ⟨#[97, 98]⟩) := hc5
  have hsaid : ((⟨#[97, 98]⟩ : ByteArray).toList == [97, 98]) = true := by rw [Lib.toList_data]; decide
  clear hc5 hrs5
  go_wp2_with fail
  have hcall := frame_any ⟨#[]⟩ w5 ht5 (by decide)
  rw [HF0.out] at hcall
  refine hcall.mono ?_
  rintro e w6 ⟨rfl, hb6⟩
  have hF1 := HF1.out
  go_wp2
  go_ret
  exact ⟨rfl, hb5.trans (hb6.mono hb5.size)⟩
end Go.Proofs.YtmimpfccngihiaaDoor.Beg
