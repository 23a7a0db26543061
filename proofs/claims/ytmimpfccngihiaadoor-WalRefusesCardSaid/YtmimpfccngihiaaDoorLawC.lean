/- The walk of the statement that what is no record is refused, and so is a file that is none, and a log that is none. -/
import Derived.Test.YtmimpfccngihiaaDoorLawB
set_option linter.unusedVariables false
set_option linter.unusedSimpArgs false
namespace Go.Proofs.YtmimpfccngihiaaDoor.LawC
open Go.RowKit Go.Proofs.YtmimpfccngihiaaDoor.Kit Go.Proofs.YtmimpfccngihiaaDoor.Blocks Go.Proofs.YtmimpfccngihiaaDoor.Stuff Go.Proofs.YtmimpfccngihiaaDoor.Crc Go.Proofs.YtmimpfccngihiaaDoor.SumB Go.Proofs.YtmimpfccngihiaaDoor.Wal Go.Proofs.YtmimpfccngihiaaDoor.StuWalkA Go.Proofs.YtmimpfccngihiaaDoor.FrA Go.Proofs.YtmimpfccngihiaaDoor.FrC Go.Proofs.YtmimpfccngihiaaDoor.ScA Go.Proofs.YtmimpfccngihiaaDoor.ScB Go.Proofs.YtmimpfccngihiaaDoor.Frm Go.Proofs.YtmimpfccngihiaaDoor.Model Go.Proofs.YtmimpfccngihiaaDoor.Disk Go.Proofs.YtmimpfccngihiaaDoor.Ops Go.Proofs.YtmimpfccngihiaaDoor.Log Go.Proofs.YtmimpfccngihiaaDoor.LogB Go.Proofs.YtmimpfccngihiaaDoor.LogC Go.Proofs.YtmimpfccngihiaaDoor.Solo Go.Proofs.YtmimpfccngihiaaDoor.Small Go.Proofs.YtmimpfccngihiaaDoor.Beg Go.Proofs.YtmimpfccngihiaaDoor.LawA Go.Proofs.YtmimpfccngihiaaDoor.LawB
open Go.Proofs.YtmimpfccngihiaaDoor.DskWalkC (str Got)
open Go.Proofs.YtmimpfccngihiaaDoor.DskWalkD (TellsD)

/-- So many zeros. -/
def zeros (n : Nat) : List UInt8 := List.replicate n 0
def none1 : Nat → Bool := fun _ => false
/-- The greatest disk, new, behind an opening of any file. -/
theorem first_open (n : Int) : (¬ (0 ≤ n ∧ n < 16) ∧ wopen (M.new 1048576) n = ((1, []), M.new 1048576)) ∨
    (∃ i T, i < 16 ∧ n = (i : Nat) ∧ wopen (M.new 1048576) n = ((0, []), solo 1048576 (-1) false i [] [] true T)) := by
  by_cases h : 0 ≤ n ∧ n < 16
  · refine .inr ⟨n.toNat, fun _ => false, by omega, by omega, ?_⟩
    have e : n = ((n.toNat : Nat) : Int) := by omega
    rw [new_solo 1048576 n.toNat]
    conv => lhs; rw [e]
    exact solo_open_new (by omega) rfl
  · exact .inl ⟨h, wopen_arg h⟩
/-- And behind a second one, of file 1: it is there, and nothing has bytes. -/
theorem second_open (n : Int) : ∃ T, wopen (wopen (M.new 1048576) n).2 ((1 : Nat) : Int) = ((0, []), solo 1048576 (-1) false 1 [] [] true T) := by
  rcases first_open n with ⟨_, e⟩ | ⟨i, T, hi, rfl, e⟩
  · rw [e]
    refine ⟨fun _ => false, ?_⟩
    show wopen (M.new 1048576) ((1 : Nat) : Int) = _
    rw [new_solo 1048576 1]
    exact solo_open_new (by omega) rfl
  · rw [e]
    show ∃ T', wopen (solo 1048576 (-1) false i [] [] true T) ((1 : Nat) : Int) = _
    rw [solo_move 1]
    refine ⟨fun k => if k = i then true else T k, ?_⟩
    cases ht : (if 1 = i then true else T 1) with
    | false => exact solo_open_new (by omega) rfl
    | true =>
      have := solo_open_old (R := 1048576) (f := -1) (i := 1) (F := []) (S := []) (T := fun k => if k = i then true else T k) (by omega) (by decide) (by simp)
      rw [this]
      simp only [List.append_nil, scan_nil, List.take_nil]
      rfl
/-- Opening a file, of the greatest disk, new: what it answers. -/
theorem first_err (n : Int) : ((wopen (M.new 1048576) n).1.1 = 1 ↔ ¬ (0 ≤ n ∧ n < 16)) ∧ ((wopen (M.new 1048576) n).1.1 = 0 ∨ (wopen (M.new 1048576) n).1.1 = 1) := by
  rcases first_open n with ⟨h, e⟩ | ⟨i, T, hi, rfl, e⟩
  · rw [e]; exact ⟨⟨fun _ => h, fun _ => rfl⟩, .inr rfl⟩
  · rw [e]
    refine ⟨⟨fun h => ?_, fun h => absurd ⟨by omega, by omega⟩ h⟩, .inl rfl⟩
    exact absurd (show (0 : Int) = 1 from h) (by decide)
/-- Two records, one of them of so many zeros. -/
def two (k : Nat) : List (List UInt8) := [[97], zeros k]
theorem two_recs {k : Nat} (h : k ≤ 65536) : Recs (two k) := fun x hx => by
  simp only [two, List.mem_cons, List.not_mem_nil, or_false] at hx
  rcases hx with rfl | rfl
  · simp
  · simpa [zeros] using h
theorem two_long {k : Nat} (h : 65536 < k) : ¬ Recs (two k) := fun hr => by
  have := hr (zeros k) (by simp [two])
  simp [zeros] at this
  omega
theorem one_recs {k : Nat} (h : k ≤ 65536) : Recs [zeros k] := fun x hx => by
  simp only [List.mem_singleton] at hx
  subst hx
  simpa [zeros] using h
theorem one_long {k : Nat} (h : 65536 < k) : ¬ Recs [zeros k] := fun hr => by
  have := hr (zeros k) (by simp)
  simp [zeros] at this
  omega
theorem two_frames {k : Nat} (h : k ≤ 65536) : (frames (two k)).length ≤ 70000 := by
  have := frames_short (two k)
  simp [weigh, two, zeros] at this
  simp only [two, zeros]
  omega
theorem one_frames {k : Nat} (h : k ≤ 65536) : (frames [zeros k]).length ≤ 70000 := by
  have := frames_short [zeros k]
  simp [weigh, zeros] at this
  simp only [zeros]
  omega

/-- A slice of zeros that was just made, as a text. -/
theorem made_zeros (w : World) (k : Nat) (hk : k ≤ 100000) : ∃ w', (Instr.makeSlice 65 (.int .i64 (k : Int)) (.int .i64 (k : Int))).run Tryd.prog w = .ok (.slice (some ⟨w.heap.size, 0, none⟩) k k) w' ∧
    (convert 65 9 (.slice (some ⟨w.heap.size, 0, none⟩) k k)).run Tryd.prog w' = .ok (.string (str (zeros k))) w' ∧ Below w.heap.size w w' := by
  obtain ⟨i0, hi0, hz0, hz1, hz2⟩ := info_parts info8
  obtain ⟨w', h1, h2, h3⟩ := run_makeSlice_full (P := Tryd.prog) w w.heap.size 65 5 i0 _ 1 Tryd.underlying65 hi0 hz0 hz1 .i64 .i64 k (by omega) (by rw [hz2]; omega) (by unfold maxLen; omega) (Nat.le_refl _)
  have e : (madeCells (Value.int IntKind.u8 0).cells (k * 1)).toList = vals (zeros k) := by
    show (madeCells #[Value.int IntKind.u8 0] (k * 1)).toList = _
    rw [toList_madeCells_one, Nat.mul_one]
    simp [vals, zeros]
  rw [e] at h2
  exact ⟨w', h1, StuWalkG.conv w' _ _ k k (zeros k) (Reads.of_own h2), (Below.refl _ _).grown h3 (Nat.le_refl _) (by simp)⟩
/-- What an opening leaves, whatever it answers. -/
theorem open_err {B : Nat} {L : List Nat} {w w' : World} {p N : Nat} {n : Int} {e1 : Int} {l1 : List (List UInt8)} {m1 : M} {e : Ending} (h : Opened B L w p N n ((e1, l1), m1) e w') :
    ∃ P S, e = .returned (.tuple #[P, S, .int .i64 e1]) ∧ Has B L w' p N m1 ∧ Keeps B L w w' := by
  rcases h with ⟨_, h1, h2, h3⟩ | ⟨h0, b, A, c, h1, _, _, h2, h3, _⟩
  · exact ⟨_, _, h1, h2, h3⟩
  · exact ⟨_, _, by rw [h1]; simp only at h0; rw [h0], h2.fewer fun y hy => List.mem_cons_of_mem _ hy, h3⟩
theorem used_lit {B : Nat} {L : List Nat} {w : World} {p N : Nat} {m : M} (h : Has B L w p N m) (hu : Hid (m.used = 0)) :
    Calls Tryd.prog 32 #[.pointer (some ⟨p, 0, none⟩)] w fun e w' => e = .returned (.int .i64 0) ∧ Below w.heap.size w w' := by
  have := used_has h
  rw [hu.out] at this
  exact this

set_option maxRecDepth 100000 in
set_option maxHeartbeats 16000000 in
theorem refuses_mid (n : Int) (x : Int) (ex : Nat) (w : World) (hn0 : -9223372036854775808 ≤ n) (hn1 : n ≤ 9223372036854775807) (hex : ex < 4) (hx : (wrap64 (x.tmod 4 + 4)).tmod 4 = (ex : Int)) (ht : Tab w) :
    Calls Tryd.prog 8 #[.int .i64 n, .int .i64 x] w fun e w' => e = .returned (.bool true) ∧ Below w.heap.size w w' := by
  have HT := Lib.hid ht
  have hgb := Tab.lt ht
  obtain ⟨m0, hm0⟩ : ∃ m0, M.new 1048576 = m0 := ⟨_, rfl⟩
  have he := first_err n
  obtain ⟨T, he2⟩ := second_open n
  rw [hm0] at he he2
  obtain ⟨⟨⟨e1, l1⟩, m1⟩, hw1⟩ : ∃ q, wopen m0 n = q := ⟨_, rfl⟩
  rw [hw1] at he he2
  simp only at he he2
  obtain ⟨M1, hM1⟩ : ∃ M1, solo 1048576 (-1) false 1 [] [] true T = M1 := ⟨_, rfl⟩
  rw [hM1] at he2
  have hu : M1.used = 0 := by rw [← hM1, solo_used (by omega)]; rfl
  obtain ⟨K, hK⟩ : ∃ K, 65535 + ex = K := ⟨_, rfl⟩
  obtain ⟨r, m2, hw2⟩ : ∃ r m2, wappend M1 ((1 : Nat) : Int) (two K) = (r, m2) := ⟨_, _, rfl⟩
  obtain ⟨m3, hw3⟩ : ∃ m3, wanew m2 ((1 : Nat) : Int) [zeros K] = (r, m3) ∧ (1 < ex → r = 3 ∧ m3.used = 0) ∧ (¬ 1 < ex → r = 0) := by
    by_cases h1 : 1 < ex
    · have e1 : wappend M1 ((1 : Nat) : Int) (two K) = (3, M1) := if_neg (two_long (by omega))
      rw [e1] at hw2
      injection hw2 with a b
      subst a b
      exact ⟨M1, if_neg (one_long (by omega)), fun _ => ⟨rfl, hu⟩, fun h => absurd h1 h⟩
    · have e1 : wappend M1 ((1 : Nat) : Int) (two K) = (0, solo 1048576 (-1) false 1 ([] ++ frames (two K)) [] true T) := by
        rw [← hM1]
        exact solo_wappend_free (by omega) _ (two_recs (by omega)) (by have := two_frames (k := K) (by omega); simp; omega)
      rw [e1] at hw2
      injection hw2 with a b
      subst a b
      have e2 := solo_wanew (R := 1048576) (f := -1) (i := 1) (F := [] ++ frames (two K)) (S := []) (t := true) (T := T) (by omega) [zeros K] (one_recs (by omega)) (by have := one_frames (k := K) (by omega); omega)
      rw [if_neg (by decide)] at e2
      exact ⟨_, e2, fun h => absurd h h1, fun _ => rfl⟩
  obtain ⟨hw3, hlong, hshort⟩ := hw3
  have HW1 := Lib.hid hw1
  have HM0 := Lib.hid hm0
  have HO2 := Lib.hid he2
  have HU := Lib.hid hu
  have HW2 := Lib.hid hw2
  have HW3 := Lib.hid hw3
  have HLG := Lib.hid hlong
  have HSH := Lib.hid hshort
  have HXE := Lib.hid hx
  have HKI : Hid (wrap64 ((65535 : Int) + (ex : Int)) = (K : Int)) := by show _ = _; unfold wrap64; omega
  have HKS : Hid (K ≤ 100000) := by show _ ≤ _; omega
  clear hK
  clear ht hm0 hw1 he2 hM1 hu hw2 hw3 hlong hshort hx
  go_enter Tryd.func8, Tryd.ntmps8
  go_wp2_with fail
  refine (begun_any _ HT.out).mono ?_
  rintro e w1 ⟨rfl, hb1⟩
  go_wp2_with fail
  refine (new_has (B := w.heap.size) 1048576 (by omega) hb1.size).mono ?_
  rintro e w2 ⟨p, rfl, hD2, hp, hb2⟩
  rw [HM0.out] at hD2
  have hbel2 := hb1.trans (hb2.mono hb1.size)
  go_wp2_with fail
  refine (open_any n hD2 (Tab.below HT.out hgb hbel2) hgb (by omega)).mono ?_
  intro e w3 ho
  rw [HW1.out] at ho
  obtain ⟨P3, S3, rfl, hD3, k3⟩ := open_err ho
  have hbel3 := hbel2.trans (k3.below hD2.low)
  clear ho k3
  have hways : (n < 0 ∧ (e1 == 1) = true) ∨ (¬ n < 0 ∧ 16 ≤ n ∧ (e1 == 1) = true) ∨ (¬ n < 0 ∧ ¬ 16 ≤ n ∧ (e1 == 1) = false) := by
    by_cases h1 : e1 = 1
    · have h2 := he.1.1 h1
      rcases (show n < 0 ∨ (¬ n < 0 ∧ 16 ≤ n) by omega) with h3 | h3
      · exact .inl ⟨h3, by simpa using h1⟩
      · exact .inr (.inl ⟨h3.1, h3.2, by simpa using h1⟩)
    · have h2 : 0 ≤ n ∧ n < 16 := by
        rcases Decidable.em (0 ≤ n ∧ n < 16) with h | h
        · exact h
        · exact absurd (he.1.2 h) h1
      exact .inr (.inr ⟨by omega, by omega, by simpa using h1⟩)
  clear he
  rcases hways with ⟨hw1, hw3⟩ | ⟨hw1, hw2, hw3⟩ | ⟨hw1, hw2, hw3⟩
  all_goals go_wp2_with fail
  all_goals refine (open_ok 1 hD3 (Tab.below HT.out hgb hbel3) hgb (by omega) HO2).mono ?_
  all_goals rintro e w4 ⟨b, A, k, c, rfl, hk, hlog, hrs, hD4, k4, hbb⟩
  all_goals have hbel4 := hbel3.trans (k4.below hD3.low)
  all_goals clear hrs k4
  all_goals obtain ⟨w5, hmk, hcv, hb5⟩ := made_zeros w4 K HKS.out
  all_goals go_wp2_with fail
  all_goals rw [HXE.out, HKI.out, hmk]
  all_goals simp only [Result.andThen]
  all_goals rw [Oper.upon_value]
  all_goals have hbel5 := hbel4.trans (hb5.mono hbel4.size)
  all_goals have hlog5 := hlog.below hb5
  all_goals have hD5 := hD4.below hb5
  all_goals clear hlog hD4
  all_goals go_wp2_with fail
  all_goals refine (used_lit hD5 HU.out).mono ?_
  all_goals rintro e w6 ⟨rfl, hb6⟩
  all_goals have hbel6 := hbel5.trans (hb6.mono hbel5.size)
  all_goals have hl6 : Below w6.heap.size w6 (w6.alloc (.cells #[.string ⟨#[97]⟩, .string (str (zeros K))] 9)) := (Below.refl _ _).alloc (Nat.le_refl _) _
  all_goals have hrd : RS (w6.alloc (.cells #[.string ⟨#[97]⟩, .string (str (zeros K))] 9)) (some ⟨w6.heap.size, 0, none⟩) 2 (two K) := (reads_new w6 [.string ⟨#[97]⟩, .string (str (zeros K))] 9).more (by simp)
  all_goals have hbel7 := hbel6.trans (hl6.mono hbel6.size)
  all_goals go_wp2_with fail
  all_goals refine (write_lit _ 2 2 (two K) ((hlog5.below hb6).below hl6) ((hD5.below hb6).below hl6) (by simp) hrd (Tab.below HT.out hgb hbel7) (by omega) (by omega) (by omega) (by omega) HW2).mono ?_
  all_goals rintro e w8 ⟨rfl, hS8⟩
  all_goals have hbel8 := hbel7.trans (hS8.kept.below (Nat.le_trans hbel6.size hl6.size))
  all_goals have hl8 : Below w8.heap.size w8 (w8.alloc (.cells #[.string (str (zeros K))] 9)) := (Below.refl _ _).alloc (Nat.le_refl _) _
  all_goals have hrd8 : RS (w8.alloc (.cells #[.string (str (zeros K))] 9)) (some ⟨w8.heap.size, 0, none⟩) 1 [zeros K] := (reads_one w8 (.string (str (zeros K))) 9).more (by simp)
  all_goals have hbel9 := hbel8.trans (hl8.mono hbel8.size)
  all_goals go_wp2_with fail
  all_goals refine (anew_lit _ 1 1 [zeros K] (hS8.log.below hl8) (hS8.disk.below hl8) (by simp) hrd8 (Tab.below HT.out hgb hbel9) (by omega) (by omega) HW3).mono ?_
  all_goals rintro e w10 ⟨rfl, hS10⟩
  all_goals have hbel10 := hbel9.trans (hS10.kept.below (Nat.le_trans hbel8.size hl8.size))
  all_goals clear hrd hrd8 hS8 hlog5 hD5 hD3 hD2
  all_goals by_cases hex1 : 1 < ex
  all_goals first
    | (have hr : (r == 3) = true := by simpa using (HLG.out hex1).1
       have hexi : (1 : Int) < (ex : Int) := by omega
       have HU3 : Hid (_ = 0) := (HLG.out hex1).2
       go_wp2_with fail
       refine (used_lit hS10.disk HU3).mono ?_
       rintro e w11 ⟨rfl, hb11⟩
       have HBB := Lib.hid (hbel10.trans (hb11.mono hbel10.size))
       go_wp2_with fail
       refine (open_none 1 _ (by omega)).mono ?_
       rintro e w12 ⟨rfl, hb12⟩
       have hbel12 := HBB.out.trans (hb12.mono HBB.out.size)
       go_wp2_with fail
       refine (append_none _ 1 1 _).mono ?_
       rintro e w13 ⟨rfl, rfl⟩
       go_wp2_with fail
       refine (anew_none _ 0 0 _).mono ?_
       rintro e w14 ⟨rfl, rfl⟩
       go_wp2
       go_ret
       exact ⟨rfl, hbel12.alloc hbel12.size _⟩)
    | (have hr : (r == 3) = false := by rw [HSH.out hex1]; rfl
       have hexi : ¬ (1 : Int) < (ex : Int) := by omega
       have HBB := Lib.hid hbel10
       go_wp2_with fail
       refine (open_none 1 _ (by omega)).mono ?_
       rintro e w12 ⟨rfl, hb12⟩
       have hbel12 := HBB.out.trans (hb12.mono HBB.out.size)
       go_wp2_with fail
       refine (append_none _ 1 1 _).mono ?_
       rintro e w13 ⟨rfl, rfl⟩
       go_wp2_with fail
       refine (anew_none _ 0 0 _).mono ?_
       rintro e w14 ⟨rfl, rfl⟩
       go_wp2
       go_ret
       exact ⟨rfl, hbel12.alloc hbel12.size _⟩)
theorem refuses_walk (n x : Int) (w : World) (hn : (Lit.int .i64 n).wf = true) (hx : (Lit.int .i64 x).wf = true) (ht : Tab w) :
    Calls Tryd.prog 8 #[.int .i64 n, .int .i64 x] w fun e w' => e = .returned (.bool true) ∧ Below w.heap.size w w' := by
  obtain ⟨h0, h1⟩ := i64_of hn
  have h2 := Int.lt_tmod_of_pos x (show (0 : Int) < 4 by omega)
  have h3 := Int.tmod_lt_of_pos x (show (0 : Int) < 4 by omega)
  have e : wrap64 (x.tmod 4 + 4) = x.tmod 4 + 4 := by unfold wrap64; omega
  have h4 := Int.tmod_nonneg 4 (show (0 : Int) ≤ x.tmod 4 + 4 by omega)
  have h5 := Int.tmod_lt_of_pos (x.tmod 4 + 4) (show (0 : Int) < 4 by omega)
  exact refuses_mid n x ((x.tmod 4 + 4).tmod 4).toNat w h0 h1 (by omega) (by rw [e]; omega) ht
end Go.Proofs.YtmimpfccngihiaaDoor.LawC
