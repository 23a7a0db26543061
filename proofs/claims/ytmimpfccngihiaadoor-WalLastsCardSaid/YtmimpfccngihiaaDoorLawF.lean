/- The walk of the statement that a log that is opened, written and crashed again and again has all records that were answered. -/
import Derived.Test.YtmimpfccngihiaaDoorLawD
set_option linter.unusedVariables false
set_option linter.unusedSimpArgs false
namespace Go.Proofs.YtmimpfccngihiaaDoor.LawF
open Go.RowKit Go.Proofs.YtmimpfccngihiaaDoor.Kit Go.Proofs.YtmimpfccngihiaaDoor.Blocks Go.Proofs.YtmimpfccngihiaaDoor.Stuff Go.Proofs.YtmimpfccngihiaaDoor.Crc Go.Proofs.YtmimpfccngihiaaDoor.SumB Go.Proofs.YtmimpfccngihiaaDoor.Wal Go.Proofs.YtmimpfccngihiaaDoor.StuWalkA Go.Proofs.YtmimpfccngihiaaDoor.FrA Go.Proofs.YtmimpfccngihiaaDoor.FrC Go.Proofs.YtmimpfccngihiaaDoor.ScA Go.Proofs.YtmimpfccngihiaaDoor.ScB Go.Proofs.YtmimpfccngihiaaDoor.Frm Go.Proofs.YtmimpfccngihiaaDoor.Model Go.Proofs.YtmimpfccngihiaaDoor.Disk Go.Proofs.YtmimpfccngihiaaDoor.Ops Go.Proofs.YtmimpfccngihiaaDoor.Log Go.Proofs.YtmimpfccngihiaaDoor.LogB Go.Proofs.YtmimpfccngihiaaDoor.LogC Go.Proofs.YtmimpfccngihiaaDoor.Solo Go.Proofs.YtmimpfccngihiaaDoor.Small Go.Proofs.YtmimpfccngihiaaDoor.Beg Go.Proofs.YtmimpfccngihiaaDoor.LawA Go.Proofs.YtmimpfccngihiaaDoor.LawB Go.Proofs.YtmimpfccngihiaaDoor.LawD
open Go.Proofs.YtmimpfccngihiaaDoor.DskWalkC (str Got)
open Go.Proofs.YtmimpfccngihiaaDoor.DskWalkJ (inums)
open Go.Proofs.YtmimpfccngihiaaDoor.Model.M (kept)

def half : List UInt8 := [104, 97, 108, 102]
/-- A disk on which file 4 is opened as these records. -/
def Gro (l : List (List UInt8)) (m : M) : Prop := wopen m ((4 : Nat) : Int) = ((0, l), solo 1048576 (-1) false 4 (frames l) [] true (fun _ => false))
theorem gro_new : Gro [] (M.new 1048576) := by
  unfold Gro
  rw [new_solo 1048576 4]
  exact solo_open_new (by omega) rfl
theorem crash_there {R : Nat} {f : Int} {o : Bool} {i : Nat} {F S : List UInt8} {T : Nat → Bool} (hi : i < 16) (hR : F.length + S.length ≤ R) (keep : List Int) :
    wopen ((solo R f o i F S true T).crash keep) i = ((0, (scan (F ++ S.take (kept keep i S.length))).1), solo R (-1) false i ((F ++ S.take (kept keep i S.length)).take (scan (F ++ S.take (kept keep i S.length))).2) [] true T) := by
  rw [solo_crash]
  have hk := kept_le keep i S.length
  obtain ⟨C, hC⟩ : ∃ C, F ++ S.take (kept keep i S.length) = C := ⟨_, rfl⟩
  have hCl : C.length ≤ R := by rw [← hC, List.length_append, List.length_take]; omega
  rw [hC]
  cases ht : (true && (!C.isEmpty || S.isEmpty)) with
  | true =>
    have := solo_open_old (R := R) (f := -1) (i := i) (F := C) (S := []) (T := T) hi (by decide) (by simpa using hCl)
    rw [List.append_nil] at this
    rw [this]
    rfl
  | false =>
    have hCe : C = [] := by
      simp only [Bool.true_and, Bool.or_eq_false_iff, Bool.not_eq_false', List.isEmpty_iff] at ht
      exact ht.1
    subst hCe
    rw [solo_open_new hi rfl, scan_nil]
    rfl
theorem half_free : ∀ c ∈ half, c ≠ 0 := by decide
/-- One round: a record more. -/
theorem gro_next (l : List (List UInt8)) (x : List UInt8) (kk : Int) (hl : Recs (l ++ [x])) (hs : (frames (l ++ [x])).length ≤ 21300) : ∃ m2 r m3,
    wappend (solo 1048576 (-1) false 4 (frames l) [] true (fun _ => false)) ((4 : Nat) : Int) [x] = (0, m2) ∧ m2.append ((4 : Nat) : Int) half = (r, m3) ∧ Gro (l ++ [x]) (m3.crash [0, 0, 0, 0, kk]) := by
  have hx : Recs [x] := fun y hy => hl y (by simp only [List.mem_singleton] at hy; simp [hy])
  have hfs : frames (l ++ [x]) = frames l ++ frames [x] := frames_append l [x]
  have hfl : (frames l).length + (frames [x]).length ≤ 21300 := by rw [hfs, List.length_append] at hs; exact hs
  refine ⟨_, 0, solo 1048576 (-1) false 4 (frames (l ++ [x])) half true (fun _ => false), solo_wappend_free (by omega) [x] hx (by omega), ?_, ?_⟩
  · rw [← hfs, solo_append (by omega), if_neg (by have : half.length = 4 := rfl; simp only [List.length_nil]; omega), if_neg (by decide)]
    rfl
  · unfold Gro
    have e := crash_there (R := 1048576) (f := -1) (o := false) (i := 4) (F := frames (l ++ [x])) (S := half) (T := fun _ => false) (by omega) (by have : half.length = 4 := rfl; omega) [0, 0, 0, 0, kk]
    rw [half_scan (l ++ [x]) _ hl (fun c hc => half_free c (List.mem_of_mem_take hc))] at e
    rw [e]
    simp

set_option maxRecDepth 100000 in
set_option maxHeartbeats 2000000 in
theorem grows_long (A1 A2 : Option Addr) (n1 c1 n2 c2 : Nat) (l : List (List UInt8)) (w : World) (h1 : RS w A1 n1 l) (hn1 : n1 ≤ 9223372036854775807) (hx : ∀ z ∈ l, z.length ≤ 140737488355328) (ht : Tab w) (hf : ¬ (Small.Fair l ∧ n1 ≤ 60)) :
    Calls Tryd.prog 9 #[.slice A1 n1 c1, .slice A2 n2 c2] w fun e w' => e = .returned (.bool true) ∧ Below w.heap.size w w' := by
  have HT := Lib.hid ht
  by_cases hfa : Small.Fair l
  · have h60 : ¬ n1 ≤ 60 := fun h => hf ⟨hfa, h⟩
    have h60i : (60 : Int) < (n1 : Int) := by omega
    have HFA := Lib.hid (decide_eq_true hfa)
    clear ht hf hfa
    go_enter Tryd.func9, Tryd.ntmps9
    go_wp2_with fail
    refine (begun_any _ HT.out).mono ?_
    rintro e w1 ⟨rfl, hb1⟩
    go_wp2_with fail
    refine (small_lit A1 n1 c1 l w1 (RS.below h1 hb1) hn1 hx HFA).mono ?_
    rintro e w2 ⟨rfl, rfl⟩
    go_wp2
    go_ret
    exact ⟨rfl, hb1⟩
  · have HFA := Lib.hid (decide_eq_false hfa)
    clear ht hf hfa
    go_enter Tryd.func9, Tryd.ntmps9
    go_wp2_with fail
    refine (begun_any _ HT.out).mono ?_
    rintro e w1 ⟨rfl, hb1⟩
    go_wp2_with fail
    refine (small_lit A1 n1 c1 l w1 (RS.below h1 hb1) hn1 hx HFA).mono ?_
    rintro e w2 ⟨rfl, rfl⟩
    go_wp2
    go_ret
    exact ⟨rfl, hb1⟩

theorem open_gro {B : Nat} {w : World} {p : Nat} {m : M} {l : List (List UInt8)} (h : Has B [] w p 16 m) (ht : Tab w) (hgB : 0 < B) (hg : Hid (Gro l m)) :
    Calls Tryd.prog 22 #[.pointer (some ⟨p, 0, none⟩), .int .i64 4] w fun e w' => ∃ b A k c, e = .returned (.tuple #[.pointer (some ⟨b, 0, none⟩), .slice A k c, .int .i64 0]) ∧ l.length = k ∧ LogAt w' b p 4 ∧ RS w' A k l ∧ Has B [b] w' p 18 (solo 1048576 (-1) false 4 (frames l) [] true (fun _ => false)) ∧ Keeps B [] w w' ∧ w.heap.size ≤ b :=
  open_ok 4 h ht hgB (by omega) hg.out

theorem half_append {B : Nat} {L : List Nat} {w : World} {p N : Nat} {m m' : M} {r : Int} (h : Has B L w p N m) (hN : N < 1000000) (hr : Hid (m.append ((4 : Nat) : Int) half = (r, m'))) :
    Calls Tryd.prog 33 #[.pointer (some ⟨p, 0, none⟩), .int .i64 4, .string ⟨#[104, 97, 108, 102]⟩] w fun e w' => e = .returned (.int .i64 r) ∧ Has B L w' p (N + 1) m' ∧ Keeps B L w w' := by
  refine (append_has 4 ⟨#[104, 97, 108, 102]⟩ h hN).mono ?_
  intro e w' hd
  have e1 : m.append 4 (ByteArray.mk #[104, 97, 108, 102]).data.toList = (r, m') := hr.out
  obtain ⟨h1, h2, h3⟩ := hd
  rw [e1] at h1 h2
  exact ⟨h1, h2, h3⟩

set_option maxRecDepth 100000 in
set_option maxHeartbeats 16000000 in
theorem grows_fair (A1 A2 : Option Addr) (n1 c1 n2 c2 : Nat) (l : List (List UInt8)) (kl : List Int) (w : World) (h1 : RS w A1 n1 l) (h2 : Reads w w.heap.size 1 A2 n2 (inums kl)) (hn1 : n1 ≤ 60) (hc1 : n1 ≤ c1) (hn2 : n2 ≤ 9223372036854775807) (hx : ∀ z ∈ l, z.length ≤ 140737488355328) (ht : Tab w) (hfa : Small.Fair l) :
    Calls Tryd.prog 9 #[.slice A1 n1 c1, .slice A2 n2 c2] w fun e w' => e = .returned (.bool true) ∧ Below w.heap.size w w' := by
  have HT := Lib.hid ht
  have hgb := Tab.lt ht
  have HFA := Lib.hid (decide_eq_true hfa)
  have HL := Lib.hid (texts_len h1)
  have HREC := Lib.hid hfa.recs
  have HFR := Lib.hid hfa.frames
  have HX := Lib.hid hx
  obtain ⟨m0, hm0⟩ : ∃ m0, M.new 1048576 = m0 := ⟨_, rfl⟩
  have HM0 := Lib.hid hm0
  have h60 : ¬ (60 : Int) < (n1 : Int) := by omega
  have hkl2 : kl.length = n2 := by have := h2.len; simpa [inums] using this
  have HKL := Lib.hid hkl2
  clear hkl2
  have HG0 : Hid (Gro [] m0) := by rw [← hm0]; exact gro_new
  clear ht hfa hm0 hx
  go_enter Tryd.func9, Tryd.ntmps9
  go_wp2_with fail
  refine (begun_any _ HT.out).mono ?_
  rintro e w1 ⟨rfl, hb1⟩
  go_wp2_with fail
  refine (small_lit A1 n1 c1 l w1 (RS.below h1 hb1) (by omega) HX.out HFA).mono ?_
  rintro e w2 ⟨rfl, rfl⟩
  go_wp2_with fail
  refine (new_has (B := w.heap.size) 1048576 (by omega) hb1.size).mono ?_
  rintro e w2 ⟨p0, rfl, hD0, hp0, hb2⟩
  rw [HM0.out] at hD0
  have hbel2 := hb1.trans (hb2.mono hb1.size)
  have hD0' := hD0.more (show 0 ≤ 16 by omega)
  clear hD0
  go_wp2_with fail
  go_loopw [5, 32] (fun d i wr => ∃ (k p : Nat) (m : M), k ≤ n1 ∧ i = .int .i64 (k : Int) ∧ d = .pointer (some ⟨p, 0, none⟩) ∧ Has w.heap.size [] wr p 16 m ∧ Hid (Gro (l.take k) m) ∧ Below w.heap.size w wr) (fun _ i _ => n1 - (intOf i).toNat)
  case atStart => exact ⟨0, p0, m0, by omega, rfl, rfl, hD0', by simpa using HG0, hbel2⟩
  case round =>
    obtain ⟨k, p, m, hk, rfl, rfl, hD, hG, hbel⟩ := hrel
    have hB := hbel.size
    by_cases hkn : k < n1
    · have hkl : k < l.length := by rw [HL.out]; exact hkn
      have hr := RS.below h1 hbel
      obtain ⟨b, o, hA1, hb, hc⟩ := Reads.text hr hkn hkl
      subst hA1
      obtain ⟨x, hx'⟩ : ∃ x, l[k] = x := ⟨_, rfl⟩
      rw [hx'] at hc
      have hsn : l.take (k + 1) = l.take k ++ [x] := by rw [List.take_succ_eq_append_getElem hkl, hx']
      have HSN := Lib.hid hsn
      have hlt : (l.take k).length = k := by rw [List.length_take, HL.out]; omega
      have HLT := Lib.hid hlt
      clear hx' hsn hlt
      go_wp2_with fail
      refine (open_gro hD (Tab.next HT.out hbel) hgb hG).mono ?_
      rintro e w3 ⟨bl, A3, k3, c3, rfl, hk3, hlog, hrs3, hD3, kk3, hbb3⟩
      obtain rfl : k3 = k := by rw [← hk3]; exact HLT.out
      have hbel3 := hbel.trans (kk3.below hD.low)
      have hup := RS.upto (RS.below h1 hbel3) hk
      have hkc : k3 ≤ c1 := by omega
      obtain ⟨kk, hkk⟩ : ∃ kk : Int, kk = if h : k3 < kl.length then kl[k3] else 0 := ⟨_, rfl⟩
      have hrecn : Recs (l.take k3 ++ [x]) := by rw [← HSN.out]; exact recs_take HREC.out (k3 + 1)
      have hfrn : (frames (l.take k3 ++ [x])).length ≤ 21300 := by rw [← HSN.out]; have := frames_take_le l (k3 + 1); have := HFR.out; omega
      obtain ⟨m2, r4, m4, g1, g2, g3⟩ := gro_next (l.take k3) x kk hrecn hfrn
      rw [← HSN.out] at g3
      obtain ⟨m5, hm5⟩ : ∃ m5, m4.crash [0, 0, 0, 0, kk] = m5 := ⟨_, rfl⟩
      rw [hm5] at g3
      obtain ⟨M3, hM3⟩ : ∃ M3, solo 1048576 (-1) false 4 (frames (l.take k3)) [] true (fun _ => false) = M3 := ⟨_, rfl⟩
      rw [hM3] at hD3 g1
      have HG1 := Lib.hid g1
      have HG2 := Lib.hid g2
      have HG3 := Lib.hid g3
      have HM5 := Lib.hid hm5
      have HKK := Lib.hid hkk
      clear g1 g2 g3 hm5 hM3 hkk hrecn hfrn hr hc
      go_wp2_with fail
      refine (same_yes A3 _ k3 k3 c3 c1 (l.take k3) w3 hrs3 hup (by omega)).mono ?_
      rintro e w4 ⟨rfl, hb4⟩
      have hbel4 := hbel3.trans (hb4.mono hbel3.size)
      have hl4 : Below w4.heap.size w4 (w4.alloc (.cells #[.string (str x)] 9)) := (Below.refl _ _).alloc (Nat.le_refl _) _
      have hrd4 : RS (w4.alloc (.cells #[.string (str x)] 9)) (some ⟨w4.heap.size, 0, none⟩) 1 [x] := (reads_one w4 (.string (str x)) 9).more (by simp)
      have hbel5 := hbel4.trans (hl4.mono hbel4.size)
      go_wp2_with fail
      refine (write_lit _ 1 1 [x] ((hlog.below hb4).below hl4) ((hD3.below hb4).below hl4) (by simp) hrd4 (Tab.next HT.out hbel5) (by omega) (by omega) (by omega) (by omega) HG1).mono ?_
      rintro e w6 ⟨rfl, hS6⟩
      have hbel6 := hbel5.trans (hS6.kept.below (Nat.le_trans hbel4.size hl4.size))
      have hD6 := hS6.disk
      clear hrs3 hup hrd4 hlog hD3 hS6
      by_cases hk2 : k3 < n2
      · have hkk2 : k3 < kl.length := by rw [HKL.out]; exact hk2
        have hkke : kk = kl[k3] := by rw [HKK.out, dif_pos hkk2]
        have h2r := (Kit.Reads.below h2 hbel6).more hbel6.size
        obtain ⟨b7, o7, hA2, _, hc7⟩ := LawB.Reads.lit h2r hk2 (u := .int .i64 kk) (by rw [hkke]; simp [inums, List.getElem?_eq_getElem hkk2])
        subst hA2
        clear h2r hkke
        go_wp2_with fail
        refine (half_append hD6 (by omega) HG2).mono ?_
        rintro e w7 ⟨rfl, hD7, hk7⟩
        have hbel7 := hbel6.trans (hk7.below hD6.low)
        have hl7 : Below w7.heap.size w7 (w7.alloc (.cells #[.int .i64 0, .int .i64 0, .int .i64 0, .int .i64 0, .int .i64 kk] 3)) := (Below.refl _ _).alloc (Nat.le_refl _) _
        have hrd7 : Reads (w7.alloc (.cells #[.int .i64 0, .int .i64 0, .int .i64 0, .int .i64 0, .int .i64 kk] 3)) (w7.alloc (.cells #[.int .i64 0, .int .i64 0, .int .i64 0, .int .i64 0, .int .i64 kk] 3)).heap.size 1 (some ⟨w7.heap.size, 0, none⟩) 5 (inums [0, 0, 0, 0, kk]) := (reads_new w7 (inums [0, 0, 0, 0, kk]) 3).more (by simp)
        have hbel8 := hbel7.trans (hl7.mono hbel7.size)
        go_wp2_with fail
        refine (crash_lit _ 5 5 [0, 0, 0, 0, kk] (hD7.below hl7) hrd7 HM5).mono ?_
        rintro e w9 ⟨p9, rfl, hD9, hb9⟩
        have hbel9 := hbel8.trans (hb9.mono hbel8.size)
        have hD9' := hD9.fewer (L' := []) (by simp)
        clear hD9 hD7 hrd7 hk7
        go_wp2
        go_roundw
        case rel => exact ⟨k3 + 1, p9, m5, by omega, by go_num, rfl, hD9', HG3, hbel9⟩
        case measure => simp [intOf]; omega
      · have hkk0 : kk = 0 := by rw [HKK.out, dif_neg (by rw [HKL.out]; exact hk2)]
        clear HKK
        subst hkk0
        go_wp2_with fail
        refine (half_append hD6 (by omega) HG2).mono ?_
        rintro e w7 ⟨rfl, hD7, hk7⟩
        have hbel7 := hbel6.trans (hk7.below hD6.low)
        have hl7 : Below w7.heap.size w7 (w7.alloc (.cells #[.int .i64 0, .int .i64 0, .int .i64 0, .int .i64 0, .int .i64 0] 3)) := (Below.refl _ _).alloc (Nat.le_refl _) _
        have hrd7 : Reads (w7.alloc (.cells #[.int .i64 0, .int .i64 0, .int .i64 0, .int .i64 0, .int .i64 0] 3)) (w7.alloc (.cells #[.int .i64 0, .int .i64 0, .int .i64 0, .int .i64 0, .int .i64 0] 3)).heap.size 1 (some ⟨w7.heap.size, 0, none⟩) 5 (inums [0, 0, 0, 0, 0]) := (reads_new w7 (inums [0, 0, 0, 0, 0]) 3).more (by simp)
        have hbel8 := hbel7.trans (hl7.mono hbel7.size)
        go_wp2_with fail
        refine (crash_lit _ 5 5 [0, 0, 0, 0, 0] (hD7.below hl7) hrd7 HM5).mono ?_
        rintro e w9 ⟨p9, rfl, hD9, hb9⟩
        have hbel9 := hbel8.trans (hb9.mono hbel8.size)
        have hD9' := hD9.fewer (L' := []) (by simp)
        clear hD9 hD7 hrd7 hk7
        go_wp2
        go_roundw
        case rel => exact ⟨k3 + 1, p9, m5, by omega, by go_num, rfl, hD9', HG3, hbel9⟩
        case measure => simp [intOf]; omega
    · obtain rfl : k = n1 := by omega
      have hfull : l.take k = l := List.take_of_length_le (by rw [HL.out]; omega)
      rw [hfull] at hG
      clear hfull
      go_wp2_with fail
      refine (open_gro hD (Tab.next HT.out hbel) hgb hG).mono ?_
      rintro e w3 ⟨bl, A3, k3, c3, rfl, hk3, hlog, hrs3, hD3, kk3, hbb3⟩
      have hbel3 := hbel.trans (kk3.below hD.low)
      clear hlog hD3 kk3
      go_wp2_with fail
      refine (same_yes A3 A1 k3 k c3 c1 l w3 hrs3 (RS.below h1 hbel3) (by rw [← hk3, HL.out]; omega)).mono ?_
      rintro e w4 ⟨rfl, hb4⟩
      go_wp2
      go_ret
      exact ⟨rfl, hbel3.trans (hb4.mono hbel3.size)⟩
theorem grows_walk (A1 : Option Addr) (n1 c1 : Nat) (l : List (List UInt8)) (A2 : Option Addr) (n2 c2 : Nat) (kl : List Int) (w : World) (h1 : RS w A1 n1 l) (hn1 : n1 ≤ c1) (hc1 : c1 ≤ 9223372036854775807) (hx : ∀ z ∈ l, z.length ≤ 140737488355328)
    (h2 : Reads w w.heap.size 1 A2 n2 (inums kl)) (hn2 : n2 ≤ c2) (hc2 : c2 ≤ 9223372036854775807) (_hz : ∀ z ∈ kl, -9223372036854775808 ≤ z ∧ z ≤ 9223372036854775807) (ht : Tab w) :
    Calls Tryd.prog 9 #[.slice A1 n1 c1, .slice A2 n2 c2] w fun e w' => e = .returned (.bool true) ∧ Below w.heap.size w w' := by
  by_cases hf : Small.Fair l ∧ n1 ≤ 60
  · exact grows_fair A1 A2 n1 c1 n2 c2 l kl w h1 h2 hf.2 hn1 (by omega) hx ht hf.1
  · exact grows_long A1 A2 n1 c1 n2 c2 l w h1 (by omega) hx ht hf
end Go.Proofs.YtmimpfccngihiaaDoor.LawF
