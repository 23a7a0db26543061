/- SessionNone, walked: a table that is none has no sessions; one that is full takes no more. No statement is proved here. -/
import Derived.Test.YtdmlfnknmilhcaaBegn
import Derived.Test.YtdmlfnknmilhcaaOpn
import Derived.Lib.MinMax
set_option linter.unusedVariables false
set_option linter.unusedSimpArgs false
namespace Go.Proofs.Ytdmlfnknmilhcaa.LawA
open Go.RowKit Go.Proofs.Ytdmlfnknmilhcaa.Kit Go.Proofs.Ytdmlfnknmilhcaa.Blocks Go.Proofs.Ytdmlfnknmilhcaa.Ses Go.Proofs.Ytdmlfnknmilhcaa.Rws Go.Proofs.Ytdmlfnknmilhcaa.WalkA Go.Proofs.Ytdmlfnknmilhcaa.Boxs Go.Proofs.Ytdmlfnknmilhcaa.Cal Go.Proofs.Ytdmlfnknmilhcaa.Begn

theorem modk (z : Int) (k : Nat) (hk : 0 < k) (hk2 : k < 10000) : ∃ j : Nat, (wrap64 (z.tmod k + k)).tmod k = (j : Int) ∧ j < k := by
  have h1 := Int.tmod_lt_of_pos z (show (0 : Int) < k by omega)
  have h2 := Int.lt_tmod_of_pos z (show (0 : Int) < k by omega)
  have h3 : wrap64 (z.tmod k + k) = z.tmod k + k := by unfold wrap64; omega
  rw [h3, Int.tmod_eq_emod_of_nonneg (by omega)]
  have h4 := Int.emod_nonneg (z.tmod k + k) (show (k : Int) ≠ 0 by omega)
  have h5 := Int.emod_lt_of_pos (z.tmod k + k) (show (0 : Int) < k by omega)
  exact ⟨((z.tmod k + k) % k).toNat, by omega, by omega⟩
theorem write_none (x : Value) (w : World) : Calls Try.prog 13 #[.pointer none, x] w fun e w' => e = .returned (.tuple #[]) ∧ w' = w := by
  go_enter Try.func13, Try.ntmps13
  go_wp2
  refine bodyPost_ret (results_none rfl _ _ _) rfl ?_
  exact ⟨rfl, rfl⟩
theorem end_none40 (id s : Nat) (w : World) : Calls Try.prog 22 #[.pointer none, .int .u64 (id : Int), .int .u64 (s : Int), .agg #[.int .i64 40, .int .u64 0, .int .u64 0]] w fun e w' => e = .returned (.bool false) ∧ Below w.heap.size w w' := WalkC.end_none id s (yE 40) w
/-- So many are registered. -/
def regN : Nat → Tb
  | 0 => tb0
  | k + 1 => regT (regN k)
theorem regN_sane : ∀ k, Sane (regN k)
  | 0 => good0
  | k + 1 => (regN_sane k).reg
theorem regN_len : ∀ k, (regN k).rows.length = min k 16 ∧ (regN k).next = min k 16 + 1
  | 0 => ⟨rfl, rfl⟩
  | k + 1 => by
    obtain ⟨h1, h2⟩ := regN_len k
    unfold regN regT canReg
    split
    · rename_i hc
      simp only [Bool.and_eq_true, decide_eq_true_eq] at hc
      simp only [List.length_append, List.length_singleton]
      omega
    · rename_i hc
      simp only [Bool.and_eq_true, decide_eq_true_eq] at hc
      omega
theorem regN_yes {k : Nat} (h : k < 16) : regId (regN k) = k + 1 ∧ regE (regN k) = 0 := by
  obtain ⟨h1, h2⟩ := regN_len k
  have hc : canReg (regN k) = true := by unfold canReg; simp only [Bool.and_eq_true, decide_eq_true_eq]; omega
  unfold regId regE
  rw [if_pos hc, if_pos hc]
  exact ⟨by omega, rfl⟩
theorem regN_no {k : Nat} (h : 16 ≤ k) : regId (regN k) = 0 ∧ regE (regN k) = 11 := by
  obtain ⟨h1, h2⟩ := regN_len k
  have hc : ¬ canReg (regN k) = true := by unfold canReg; simp only [Bool.and_eq_true, decide_eq_true_eq]; omega
  unfold regId regE
  rw [if_neg hc, if_neg hc]
  exact ⟨rfl, rfl⟩
set_option maxRecDepth 100000 in
set_option maxHeartbeats 4000000 in
theorem none_walk (id seq : Nat) (more : Int) (w : World) (hid : U id) (hseq : U seq) (hmore : -9223372036854775808 ≤ more ∧ more ≤ 9223372036854775807) :
    Calls Try.prog 7 #[.int .u64 (id : Int), .int .u64 (seq : Int), .int .i64 more] w fun e w' => e = .returned (.bool true) ∧ Below w.heap.size w w' := by
  have hbo : ∀ (W : World) o, Below W.heap.size W (W.alloc o) := fun W o => (Below.refl _ _).alloc (Nat.le_refl _) o
  obtain ⟨n, hn, hn50⟩ := modk more 50 (by decide) (by decide)
  have HN : Hid ((wrap64 (more.tmod 50 + 50)).tmod 50 = (n : Int)) := hn
  clear hn
  go_enter Try.func7, Try.ntmps7
  go_wp2_with fail
  with_reducible refine (begun_true _).mono ?_
  rintro e w1 ⟨rfl, hb1⟩
  go_wp2_with fail
  with_reducible refine (WalkG.clock_none _ _).mono ?_
  rintro e w2 ⟨rfl, hb2⟩
  have hB2 := hb1.trans (hb2.mono hb1.size)
  have hB3 := hB2.trans ((hbo w2 (.cells #[.slice none 0 0] 41)).mono hB2.size)
  clear hb1 hb2
  go_wp2_with fail
  with_reducible refine (write_none _ _).mono ?_
  rintro e w3 ⟨rfl, rfl⟩
  go_wp2_with fail
  with_reducible refine (WalkB.reg_none _).mono ?_
  rintro e w3 ⟨rfl, rfl⟩
  go_wp2_with fail
  with_reducible refine (WalkC.begin_none _ _ _).mono ?_
  rintro e w4 ⟨rfl, hb4⟩
  have hB4 := hB3.trans (hb4.mono hB3.size)
  clear hb4 hB3 hB2
  unfold ryV yE
  go_wp2_with fail
  with_reducible refine (now_none _).mono ?_
  rintro e w5 ⟨rfl, rfl⟩
  have hB5 := hB4.trans ((hbo w4 (.cells #[.int .i64 40, .int .u64 0, .int .u64 0] 33)).mono hB4.size)
  clear hB4
  go_wp2_with fail
  with_reducible refine (end_none40 _ _ _).mono ?_
  rintro e w6 ⟨rfl, hb6⟩
  have hB6 := hB5.trans (hb6.mono hB5.size)
  clear hB5 hb6
  go_wp2_with fail
  with_reducible refine (WalkD.rows_none _).mono ?_
  rintro e w7 ⟨A7, c7, rfl, _, hb7⟩
  have hB7 := hB6.trans (hb7.mono hB6.size)
  clear hB6 hb7
  go_wp2_with fail
  with_reducible refine (new_any _).mono ?_
  rintro e w8 ⟨p, v8, rfl, h8, hb8⟩
  have hB8 := hB7.trans (hb8.mono hB7.size)
  have HSZ := Lib.hid hB7.size
  clear hB7 hb8
  go_wp2_with fail
  rw [HN.out]
  go_loopw [70] (fun i wr => ∃ (k : Nat) (v : Value), k ≤ n ∧ i = .int .i64 (k : Int) ∧ Hid (PT w7.heap.size wr p v (regN k)) ∧ Below w.heap.size w wr) (fun i _ => n - (intOf i).toNat)
  case atStart => exact ⟨0, v8, by omega, rfl, h8, hB8⟩
  case round =>
    obtain ⟨k, v, hk, rfl, hp, hbel⟩ := hrel
    by_cases hkn : k < n
    · have HJ := Lib.hid hkn
      obtain ⟨m', hm'⟩ : ∃ m', regT (regN k) = m' := ⟨_, rfl⟩
      have hreg : regN (k + 1) = m' := hm'
      have HS : Hid (w7.heap.size ≤ wr.heap.size) := hp.out.base
      have hBw : Below w.heap.size w wr := hbel
      by_cases h16 : k < 16
      · obtain ⟨q1, q2⟩ := regN_yes h16
        have hcall := reg_any hp.out (regN_sane k) (Lib.hid hm') (Lib.hid q1) (Lib.hid q2)
        have HC := Lib.hid hcall
        have hkI : (k : Int) < 16 := by omega
        have hw : IntKind.u64.wrap ((k : Int) + 1) = ((k + 1 : Nat) : Int) := by rw [show (k : Int) + 1 = ((k + 1 : Nat) : Int) by omega]; exact IntWalk.u64_in _ ⟨by omega, by omega⟩
        have HREG := Lib.hid hreg
        clear hcall q1 q2 hm' hreg
        go_wp2_with fail
        with_reducible refine HC.out.mono ?_
        rintro e w9 ⟨rfl, hL⟩
        have HB9 := Lib.hid (hBw.trans ((left_below hp.out hL).mono HSZ.out))
        obtain ⟨v', h9, o9, f9⟩ := hL
        have HP9 := Lib.hid h9
        clear h9 o9 f9
        go_wp2
        go_roundw
        case rel => exact ⟨k + 1, v', HJ.out, by go_num, by rw [HREG.out]; exact HP9.out, HB9.out⟩
        case measure => have := HJ.out; simp [intOf]; omega
      · obtain ⟨q1, q2⟩ := regN_no (k := k) (by omega)
        have hcall := reg_any hp.out (regN_sane k) (Lib.hid hm') (Lib.hid q1) (Lib.hid q2)
        have HC := Lib.hid hcall
        have hkI : ¬ (k : Int) < 16 := by omega
        have HREG := Lib.hid hreg
        clear hcall q1 q2 hm' hreg
        go_wp2_with fail
        with_reducible refine HC.out.mono ?_
        rintro e w9 ⟨rfl, hL⟩
        have HB9 := Lib.hid (hBw.trans ((left_below hp.out hL).mono HSZ.out))
        obtain ⟨v', h9, o9, f9⟩ := hL
        have HP9 := Lib.hid h9
        clear h9 o9 f9
        go_wp2
        go_roundw
        case rel => exact ⟨k + 1, v', HJ.out, by go_num, by rw [HREG.out]; exact HP9.out, HB9.out⟩
        case measure => have := HJ.out; simp [intOf]; omega
    · obtain rfl : k = n := by omega
      have hlen := (regN_len k).1
      have hrows := WalkD.rows_any hp.out (by omega)
      obtain ⟨l, hl⟩ : ∃ l, (regN k).rows = l := ⟨_, rfl⟩
      rw [hl] at hrows hlen
      have HR := Lib.hid hrows
      have HB := Lib.hid hbel
      obtain ⟨q, hq⟩ : ∃ q, l.length = q := ⟨_, rfl⟩
      have hmin : min (k : Int) 16 = (q : Int) := by omega
      clear hrows
      go_wp2_with fail
      with_reducible refine HR.out.mono ?_
      rintro e w9 ⟨A9, c9, rfl, _, hb9⟩
      have HB9 := Lib.hid (HB.out.trans (hb9.mono HB.out.size))
      rw [hq]
      clear hb9
      go_wp2
      go_ret
      exact ⟨rfl, HB9.out⟩
end Go.Proofs.Ytdmlfnknmilhcaa.LawA
