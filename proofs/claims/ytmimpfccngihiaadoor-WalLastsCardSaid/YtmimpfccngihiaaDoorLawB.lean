/- The walk of the statement that records framed one behind the other are scanned as they were, and what is cut off without the last ones. -/
import Derived.Test.YtmimpfccngihiaaDoorLawA
set_option linter.unusedVariables false
set_option linter.unusedSimpArgs false
namespace Go.Proofs.YtmimpfccngihiaaDoor.LawB
open Go.RowKit Go.Proofs.YtmimpfccngihiaaDoor.Kit Go.Proofs.YtmimpfccngihiaaDoor.Blocks Go.Proofs.YtmimpfccngihiaaDoor.Stuff Go.Proofs.YtmimpfccngihiaaDoor.Crc Go.Proofs.YtmimpfccngihiaaDoor.SumB Go.Proofs.YtmimpfccngihiaaDoor.Wal Go.Proofs.YtmimpfccngihiaaDoor.StuWalkA Go.Proofs.YtmimpfccngihiaaDoor.FrA Go.Proofs.YtmimpfccngihiaaDoor.FrC Go.Proofs.YtmimpfccngihiaaDoor.ScA Go.Proofs.YtmimpfccngihiaaDoor.ScB Go.Proofs.YtmimpfccngihiaaDoor.Frm Go.Proofs.YtmimpfccngihiaaDoor.Small Go.Proofs.YtmimpfccngihiaaDoor.Beg Go.Proofs.YtmimpfccngihiaaDoor.LawA
open Go.Proofs.YtmimpfccngihiaaDoor.DskWalkC (str Got)

/-- Where the frames of the first k records end. -/
noncomputable def ends (l : List (List UInt8)) (k : Nat) : List Int := (List.range k).map fun i => ((frames (l.take (i + 1))).length : Int)
def ivals (l : List Int) : List Value := l.map fun z => .int .i64 z
theorem ends_length (l : List (List UInt8)) (k : Nat) : (ends l k).length = k := by simp [ends]
theorem ends_succ (l : List (List UInt8)) (k : Nat) : ends l (k + 1) = ends l k ++ [((frames (l.take (k + 1))).length : Int)] := by simp [ends, List.range_succ]
theorem ivals_length (l : List Int) : (ivals l).length = l.length := by simp [ivals]
theorem ivals_one (l : List Int) : ∀ u ∈ ivals l, u.oneCell' = true := by
  intro u hu
  obtain ⟨_, _, rfl⟩ := List.mem_map.1 hu
  rfl
theorem ends_get (l : List (List UInt8)) (n k : Nat) (h : k < n) : (ivals (ends l n))[k]? = some (.int .i64 ((frames (l.take (k + 1))).length : Int)) := by
  simp [ivals, ends, h]
theorem info3 : (Tryd.prog.info? 3).map (fun i => (i.zero, i.size, i.bytes)) = some (some (.int .i64 0), 1, 8) := by kernel_rfl
theorem small_lit (A : Option Addr) (n c : Nat) (l : List (List UInt8)) (w : World) (h : RS w A n l) (hn : n ≤ 9223372036854775807) (hx : ∀ x ∈ l, x.length ≤ 140737488355328) {b : Bool} (hb : Hid (decide (Small.Fair l) = b)) :
    Calls Tryd.prog 16 #[.slice A n c] w fun e w' => e = .returned (.bool b) ∧ w = w' := by
  have := small_any A n c l w h hn hx
  rwa [hb.out] at this
theorem recs_take {l : List (List UInt8)} (h : Recs l) (k : Nat) : Recs (l.take k) := fun x hx => h x (List.mem_of_mem_take hx)
theorem frames_take_le (l : List (List UInt8)) (k : Nat) : (frames (l.take k)).length ≤ (frames l).length := by
  conv => rhs; rw [← List.take_append_drop k l, frames_append]
  simp
/-- A cell that is read. -/
theorem Reads.lit {w : World} {B n k : Nat} {A : Option Addr} {xs : List Value} {u : Value} (h : Reads w B 1 A n xs) (hk : k < n) (hx : xs[k]? = some u) : ∃ b o, A = some ⟨b, o, none⟩ ∧ b < B ∧ w.cell? ⟨b, o + k, none⟩ = some u := by
  obtain ⟨ad, u', rfl, hb, hx', hc⟩ := h.at_ hk
  have hs := h.spot (by omega)
  rw [hx] at hx'
  cases hx'
  refine ⟨ad.block, ad.off, by rw [← hs], hb, ?_⟩
  rw [hs, Addr.add_lit] at hc
  exact hc
theorem Reads.lits {w : World} {B n : Nat} {A : Option Addr} {xs : List Value} (h : Reads w B 1 A n xs) (hn : 0 < n) : ∃ b o, A = some ⟨b, o, none⟩ ∧ b < B ∧ ∀ k u, xs[k]? = some u → w.cell? ⟨b, o + k, none⟩ = some u := by
  obtain ⟨ad, rfl, hb, hc⟩ := h.2 hn
  have hs := h.spot hn
  refine ⟨ad.block, ad.off, by rw [← hs], hb, fun k u hu => ?_⟩
  have := hc k u hu
  rw [hs, Addr.add_lit] at this
  exact this
/-- The place of a cut, as the walk spells it. -/
theorem cut_at (N : Int) (tot : Nat) (ht : tot ≤ 21300) : ∃ q : Nat, q ≤ tot ∧ (wrap64 (wrap64 (N.tmod ((tot : Int) + 1) + (tot : Int)) + 1)).tmod ((tot : Int) + 1) = (q : Int) := by
  have h1 := Int.lt_tmod_of_pos N (show (0 : Int) < (tot : Int) + 1 by omega)
  have h2 := Int.tmod_lt_of_pos N (show (0 : Int) < (tot : Int) + 1 by omega)
  have e : wrap64 (wrap64 (N.tmod ((tot : Int) + 1) + (tot : Int)) + 1) = N.tmod ((tot : Int) + 1) + (tot : Int) + 1 := by unfold wrap64; omega
  rw [e]
  have h3 := Int.tmod_nonneg ((tot : Int) + 1) (show (0 : Int) ≤ N.tmod ((tot : Int) + 1) + (tot : Int) + 1 by omega)
  have h4 := Int.tmod_lt_of_pos (N.tmod ((tot : Int) + 1) + (tot : Int) + 1) (show (0 : Int) < (tot : Int) + 1 by omega)
  exact ⟨((N.tmod ((tot : Int) + 1) + (tot : Int) + 1).tmod ((tot : Int) + 1)).toNat, by omega, by omega⟩
/-- The first texts of a slice of texts. -/
theorem RS.upto {w : World} {A : Option Addr} {n m : Nat} {l : List (List UInt8)} (h : RS w A n l) (hm : m ≤ n) : RS w A m (l.take m) := by
  have := Kit.Reads.upto h hm
  have e : (strs l).take m = strs (l.take m) := by simp [strs, List.map_take]
  rwa [e] at this

set_option maxRecDepth 100000 in
set_option maxHeartbeats 2000000 in
theorem back_long (A : Option Addr) (n c : Nat) (l : List (List UInt8)) (N : Int) (w : World) (h : RS w A n l) (hn : n ≤ c) (hc : c ≤ 9223372036854775807) (hx : ∀ x ∈ l, x.length ≤ 140737488355328) (ht : Tab w) (hf : ¬ Small.Fair l) :
    Calls Tryd.prog 4 #[.slice A n c, .int .i64 N] w fun e w' => e = .returned (.bool true) ∧ Below w.heap.size w w' := by
  have HT := Lib.hid ht
  have HF := Lib.hid (decide_eq_false hf)
  clear ht hf
  go_enter Tryd.func4, Tryd.ntmps4
  go_wp2_with fail
  refine (begun_any _ HT.out).mono ?_
  rintro e w1 ⟨rfl, hb1⟩
  go_wp2_with fail
  refine (small_lit A n c l w1 (RS.below h hb1) (by omega) hx HF).mono ?_
  rintro e w2 ⟨rfl, rfl⟩
  go_wp2
  go_ret
  exact ⟨rfl, hb1⟩

set_option maxRecDepth 100000 in
set_option maxHeartbeats 8000000 in
theorem back_fair (A : Option Addr) (n c : Nat) (l : List (List UInt8)) (N : Int) (w : World) (h : RS w A n l) (hn : n ≤ c) (hc : c ≤ 9223372036854775807) (hx : ∀ x ∈ l, x.length ≤ 140737488355328) (hN0 : -9223372036854775808 ≤ N) (hN1 : N ≤ 9223372036854775807) (ht : Tab w) (hf : Small.Fair l) :
    Calls Tryd.prog 4 #[.slice A n c, .int .i64 N] w fun e w' => e = .returned (.bool true) ∧ Below w.heap.size w w' := by
  obtain ⟨i0, hi0, hz0, hz1, hz2⟩ := info_parts info3
  have HT := Lib.hid ht
  have hgb := Tab.lt ht
  have hll := texts_len h
  have hn200 : n ≤ 200 := by have := hf.2; omega
  have HL := Lib.hid hll
  have hrec := hf.recs
  have htot := hf.frames
  have HF := Lib.hid (decide_eq_true hf)
  have HREC := Lib.hid hrec
  obtain ⟨tot, htt⟩ : ∃ tot, (frames l).length = tot := ⟨_, rfl⟩
  rw [htt] at htot
  have HTT := Lib.hid htt
  have HX := Lib.hid hx
  clear ht hll hf hrec htt hx
  go_enter Tryd.func4, Tryd.ntmps4
  go_wp2_with fail
  refine (begun_any _ HT.out).mono ?_
  rintro e w1 ⟨rfl, hb1⟩
  go_wp2_with fail
  refine (small_lit A n c l w1 (RS.below h hb1) (by omega) HX.out HF).mono ?_
  rintro e w2 ⟨rfl, rfl⟩
  go_wp2_with fail
  go_loopw [5, 6, 19] (fun s v i wr => ∃ (k : Nat) (S : ByteArray), k ≤ n ∧ i = .int .i64 (k : Int) ∧ s = .string S ∧ Hid (S = str (frames (l.take k))) ∧ wr.ownsRow w.heap.size 3 1 v k (ivals (ends l k)) ∧ Below w.heap.size w wr) (fun _ _ i _ => n - (intOf i).toNat)
  case atStart => exact ⟨0, _, by omega, rfl, rfl, rfl, World.ownsRow_nil _ _ _ _, hb1⟩
  case round =>
    obtain ⟨k, S, hk, rfl, rfl, hS, hown, hbel⟩ := hrel
    have hB := hbel.size
    by_cases hkn : k < n
    · have hkl : k < l.length := by rw [HL.out]; exact hkn
      have hr := RS.below h hbel
      obtain ⟨b, o, rfl, hb, hc1⟩ := Reads.text hr hkn hkl
      obtain ⟨x, hx⟩ : ∃ x, l[k] = x := ⟨_, rfl⟩
      rw [hx] at hc1
      obtain ⟨X, hX⟩ : ∃ X, str x = X := ⟨_, rfl⟩
      have hxs : X.size ≤ 65536 := by
        have h1 := HREC.out _ (List.getElem_mem hkl)
        rw [hx] at h1
        rw [← hX]
        exact h1
      rw [hX] at hc1
      have hfs := frames_succ hkl
      rw [hx] at hfs
      have hcall := frame_any X wr (Tab.below HT.out hgb hbel) (by omega)
      obtain ⟨F, hF⟩ : ∃ F, str (frame X.data.toList) = F := ⟨_, rfl⟩
      obtain ⟨S', hS'⟩ : ∃ S', S ++ F = S' := ⟨_, rfl⟩
      have hnext : Hid (S' = str (frames (l.take (k + 1)))) := by
        show _ = _
        rw [← hS', hfs, hS.out]
        apply ByteArray.ext
        rw [← hF, ← hX]
        simp [str]
      have hle := frames_take_le l (k + 1)
      rw [HTT.out] at hle
      have hSsz : S'.size = (frames (l.take (k + 1))).length := by rw [hnext.out]; rfl
      have hadd : S.size + F.size = S'.size := by rw [← hS']; simp
      have hsz : ¬ 9223372036854775807 < S.size + F.size := by omega
      rw [hF] at hcall
      have HC := Lib.hid hcall
      have HSS := Lib.hid hSsz
      have hm1 : k + 1 ≤ maxLen := by unfold maxLen; omega
      have hs1 : (k + 1) * 8 ≤ 140737488355328 := by omega
      clear hx hX hfs hcall hF hSsz
      go_wp2_with fail
      refine HC.out.mono ?_
      rintro e w3 ⟨rfl, hb3⟩
      have hbel3 := hbel.trans (hb3.mono hB)
      have hown3 := own_below hown hb3
      have hB3 := hbel3.size
      have hBo : ∀ o : Obj, w.heap.size ≤ (w3.alloc o).heap.size := fun o => by simp; omega
      go_wp2_with
        (at_builtin
         refine wpList_append_any _ rfl (.tmp 27) (.tmp 30) _ rfl w.heap.size 3 i0 _ 1 8 Tryd.underlying30 hi0 hz0 hz1 hz2 rfl (by decide) _ k (ivals (ends l k)) rfl (hown3.alloc _)
           (w3.heap.size + 1) _ 1 1 [.int .i64 (S'.size : Int)] rfl (reads_one _ _ _) (by simp [Value.oneCell']) hm1 hs1 (hBo _) ?_
         intro v4 w4 hown4 hg4 hat4
         clear hat4
         obtain ⟨hbel4, hB4, _⟩ := behind_new hown3 hbel3 hB3 hg4
         clear hg4)
      go_roundw
      case rel => exact ⟨k + 1, S', by omega, by go_num, rfl, hnext, by rw [ends_succ, ← HSS.out]; exact own_cast hown4 rfl (by simp [ivals]), hbel4⟩
      case measure => simp [intOf]; omega
    · obtain rfl : k = n := by omega
      have hfull : l.take k = l := List.take_of_length_le (by rw [HL.out]; omega)
      rw [hfull] at hS
      have hSl : S.data.toList = frames l := by rw [hS.out]; rfl
      have hSs : S.size = tot := by rw [← HTT.out, ← hSl]; rfl
      have HSC : Hid (scan S.data.toList = (l, tot)) := by
        show _ = _
        rw [hSl, scan_all l HREC.out, HTT.out]
      have HSL := Lib.hid hSl
      obtain ⟨A6, c6, rfl, hc61, hc62, hr6⟩ := own_form hown
      clear hSl hfull
      go_wp2_with fail
      refine (scan_lit S wr (Tab.below HT.out hgb hbel) (by omega) HSC).mono ?_
      rintro e w3 ⟨A3, n3, c3, rfl, hl3, hn3, hr3, hb3⟩
      have hbel3 := hbel.trans (hb3.mono hB)
      have hl3w := RS.below h hbel3
      have hneq : ((tot : Int) != (tot : Int)) = false := by simp
      go_wp2_with fail
      refine (same_yes A A3 k n3 c c3 l w3 hl3w hr3 (by omega)).mono ?_
      rintro e w4 ⟨rfl, hb4⟩
      have hbel4 := hbel3.trans (hb4.mono hbel3.size)
      have hr6' := (Kit.Reads.below hr6 (hb3.trans (hb4.mono hb3.size))).more (Nat.le_trans hb3.size hb4.size)
      clear hr3 hl3w hr6 hown
      obtain ⟨q, hq, hqe⟩ := cut_at N tot htot
      obtain ⟨C, hC⟩ : ∃ C, cut l q = C := ⟨_, rfl⟩
      have hCk : C ≤ k := by have := cut_le l q; rw [hC, HL.out] at this; exact this
      have HC := Lib.hid hC
      have HQ := Lib.hid hqe
      obtain ⟨E2, hE2⟩ : ∃ E2, (frames (l.take C)).length = E2 := ⟨_, rfl⟩
      have HE2 := Lib.hid hE2
      obtain ⟨T, hT⟩ : ∃ T, S.extract 0 q = T := ⟨_, rfl⟩
      have hTl : T.data.toList = (frames l).take q := by rw [← hT, extract_list, HSL.out]; simp
      have hTs : T.size ≤ 1000000000 := by rw [← hT]; simp; omega
      have HSC2 : Hid (scan T.data.toList = (l.take C, E2)) := by
        show _ = _
        rw [hTl, scan_take l q HREC.out, hC, hE2]
      have hqi : (q : Int) ≤ (S.size : Int) := by omega
      clear hC hqe hE2 hTl
      rcases Nat.eq_zero_or_pos k with hk0 | hk0
      · subst hk0
        obtain rfl : C = 0 := by omega
        have hE0 : E2 = 0 := by rw [← HE2.out]; simp [frames]
        subst hE0
        have hj5 : 0 ≤ 0 := Nat.le_refl 0
        go_wp2_with fail
        rw [HQ.out]
        go_loop [11] (fun i => i = .int .i64 ((0 : Nat) : Int)) (fun i => 0)
        case atStart => rfl
        case round =>
          subst hrel
          obtain ⟨j, hj⟩ : ∃ j, j = 0 := ⟨0, rfl⟩
          go_wp2_with fail
          refine (scan_lit T w4 (Tab.below HT.out hgb hbel4) hTs HSC2).mono ?_
          rintro e w5 ⟨A5, n5, c5, rfl, hl5, hn5, hr5, hb5⟩
          obtain rfl : n5 = 0 := by rw [← hl5, List.length_take]; omega
          have hbel5 := hbel4.trans (hb5.mono hbel4.size)
          have hlw := RS.upto (RS.below h hbel5) hj5
          have heq : (((0 : Nat) : Int) == ((0 : Nat) : Int)) = true := by simp
          go_wp2_with fail
          refine (same_yes A5 A 0 0 c5 c (l.take 0) w5 hr5 hlw (by omega)).mono ?_
          rintro e w6 ⟨rfl, hb6⟩
          have hbel6 := hbel5.trans (hb6.mono hbel5.size)
          go_wp2
          go_ret
          exact ⟨rfl, hbel6⟩
      · obtain ⟨b, o, rfl, hbb, hcells⟩ := Reads.lits hr6' hk0
        have hce : ∀ i, i < k → w4.cell? ⟨b, o + i, none⟩ = some (.int .i64 ((frames (l.take (i + 1))).length : Int)) := fun i hi => hcells i _ (ends_get l k i hi)
        have HCE := Lib.hid hce
        clear hcells hr6' hce
        go_wp2_with fail
        rw [HQ.out]
        go_loop [11] (fun i => ∃ (j : Nat), j ≤ C ∧ i = .int .i64 (j : Int)) (fun i => k - (intOf i).toNat)
        case atStart => exact ⟨0, by omega, rfl⟩
        case round =>
          obtain ⟨j, hj, rfl⟩ := hrel
          by_cases hjC : j < C
          · have hjk : j < k := by omega
            have hc5 := HCE.out j hjk
            have hin := cut_in l q j (by rw [HC.out]; exact hjC)
            obtain ⟨z, hz⟩ : ∃ z, (frames (l.take (j + 1))).length = z := ⟨_, rfl⟩
            rw [hz] at hc5 hin
            have hzi : (z : Int) ≤ (q : Int) := by omega
            clear hz
            go_wp2
            go_round
            case rel => exact ⟨j + 1, by omega, by go_num⟩
            case measure => simp [intOf]; omega
          · obtain rfl : j = C := by omega
            have hj5 : j ≤ k := hCk
            by_cases hCf : j < k
            · have hc5 := HCE.out j hCf
              have hout := cut_out l q (by rw [HC.out, HL.out]; exact hCf)
              rw [HC.out] at hout
              obtain ⟨z, hz⟩ : ∃ z, (frames (l.take (j + 1))).length = z := ⟨_, rfl⟩
              rw [hz] at hc5 hout
              have hzi : ¬ (z : Int) ≤ (q : Int) := by omega
              clear hz
              go_wp2_with fail
              refine (scan_lit T w4 (Tab.below HT.out hgb hbel4) hTs HSC2).mono ?_
              rintro e w5 ⟨A5, n5, c5, rfl, hl5, hn5, hr5, hb5⟩
              obtain rfl : n5 = j := by rw [← hl5, List.length_take, HL.out]; omega
              have hbel5 := hbel4.trans (hb5.mono hbel4.size)
              have hlw := RS.upto (RS.below h hbel5) hj5
              have heq : ((n5 : Int) == (n5 : Int)) = true := by simp
              go_wp2_with fail
              refine (same_yes A5 A n5 n5 c5 c (l.take n5) w5 hr5 hlw (by omega)).mono ?_
              rintro e w6 ⟨rfl, hb6⟩
              have hbel6 := hbel5.trans (hb6.mono hbel5.size)
              by_cases hj0 : n5 = 0
              · subst hj0
                have hE0 : E2 = 0 := by rw [← HE2.out]; simp [frames]
                subst hE0
                go_wp2
                go_ret
                exact ⟨rfl, hbel6⟩
              · obtain ⟨i, rfl⟩ : ∃ i, n5 = i + 1 := ⟨n5 - 1, by omega⟩
                have hc6 := ((hb5.trans (hb6.mono hb5.size)).cell (p := ⟨b, o + i, none⟩) hbb).trans (HCE.out i (by omega))
                rw [HE2.out] at hc6
                have hi0 : (((i + 1 : Nat) : Int) == 0) = false := by simp; omega
                have hi1 : (0 : Int) < ((i + 1 : Nat) : Int) := by omega
                have hee : ((E2 : Int) == (E2 : Int)) = true := by simp
                go_wp2
                go_ret
                exact ⟨rfl, hbel6⟩
            · have hCi : ¬ ((j : Int) < (k : Int)) := by omega
              go_wp2_with fail
              refine (scan_lit T w4 (Tab.below HT.out hgb hbel4) hTs HSC2).mono ?_
              rintro e w5 ⟨A5, n5, c5, rfl, hl5, hn5, hr5, hb5⟩
              obtain rfl : n5 = j := by rw [← hl5, List.length_take, HL.out]; omega
              have hbel5 := hbel4.trans (hb5.mono hbel4.size)
              have hlw := RS.upto (RS.below h hbel5) hj5
              have heq : ((n5 : Int) == (n5 : Int)) = true := by simp
              go_wp2_with fail
              refine (same_yes A5 A n5 n5 c5 c (l.take n5) w5 hr5 hlw (by omega)).mono ?_
              rintro e w6 ⟨rfl, hb6⟩
              have hbel6 := hbel5.trans (hb6.mono hbel5.size)
              by_cases hj0 : n5 = 0
              · subst hj0
                have hE0 : E2 = 0 := by rw [← HE2.out]; simp [frames]
                subst hE0
                go_wp2
                go_ret
                exact ⟨rfl, hbel6⟩
              · obtain ⟨i, rfl⟩ : ∃ i, n5 = i + 1 := ⟨n5 - 1, by omega⟩
                have hc6 := ((hb5.trans (hb6.mono hb5.size)).cell (p := ⟨b, o + i, none⟩) hbb).trans (HCE.out i (by omega))
                rw [HE2.out] at hc6
                have hi0 : (((i + 1 : Nat) : Int) == 0) = false := by simp; omega
                have hi1 : (0 : Int) < ((i + 1 : Nat) : Int) := by omega
                have hee : ((E2 : Int) == (E2 : Int)) = true := by simp
                go_wp2
                go_ret
                exact ⟨rfl, hbel6⟩
theorem i64_of {z : Int} (h : (Lit.int .i64 z).wf = true) : -9223372036854775808 ≤ z ∧ z ≤ 9223372036854775807 := by
  simpa [Lit.wf, IntKind.min, IntKind.max, IntKind.signed, IntKind.bits] using h
theorem back_walk (A : Option Addr) (n c : Nat) (l : List (List UInt8)) (N : Int) (w : World) (h : RS w A n l) (hn : n ≤ c) (hc : c ≤ 9223372036854775807) (hx : ∀ x ∈ l, x.length ≤ 140737488355328) (hN : (Lit.int .i64 N).wf = true) (ht : Tab w) :
    Calls Tryd.prog 4 #[.slice A n c, .int .i64 N] w fun e w' => e = .returned (.bool true) ∧ Below w.heap.size w w' := by
  obtain ⟨h0, h1⟩ := i64_of hN
  by_cases hf : Small.Fair l
  · exact back_fair A n c l N w h hn hc hx h0 h1 ht hf
  · exact back_long A n c l N w h hn hc hx ht hf
end Go.Proofs.YtmimpfccngihiaaDoor.LawB
