/- The walk of the statement that what is at its limit is read, what is one past it isn't. -/
import Derived.Test.YtdainmpedhohnaaReads
namespace Go.Proofs.Ytdainmpedhohnaa.LawD
open Go.RowKit Go.Proofs.Ytdainmpedhohnaa.Kit Go.Proofs.Ytdainmpedhohnaa.Num Go.Proofs.Ytdainmpedhohnaa.State Go.Proofs.Ytdainmpedhohnaa.WalkA Go.Proofs.Ytdainmpedhohnaa.WalkB Go.Proofs.Ytdainmpedhohnaa.WalkC Go.Proofs.Ytdainmpedhohnaa.WalkD Go.Proofs.Ytdainmpedhohnaa.WalkE Go.Proofs.Ytdainmpedhohnaa.WalkH Go.Proofs.Ytdainmpedhohnaa.Begun Go.Proofs.Ytdainmpedhohnaa.LawB Go.Proofs.Ytdainmpedhohnaa.Reads

theorem keep_step {t : TypeId} {w w' : World} {p q : Nat} {o o' : Option Nat} {s : ByteArray} {bad : Bool} (h : RV t w q s bad) (k : Step p o o' w w') (hq : q ≠ p) (ho : o ≠ some q) : RV t w' q s bad :=
  h.keep k.only (by rintro (e | e); · exact hq e
                    · exact ho e)
theorem keep_only {t : TypeId} {w w' : World} {p q : Nat} {s : ByteArray} {bad : Bool} (h : RV t w q s bad) (k : Only (· = p) w w') (hq : q ≠ p) : RV t w' q s bad := h.keep k hq
theorem below_took {w w1 w2 : World} {B q : Nat} (h : Below B w w1) (k : Only (· = q) w1 w2) (hB : B ≤ w.heap.size) (hq : B ≤ q) : Below B w w2 := below_only h k hB (by rintro k rfl; exact hq)

theorem long_walk (x : Int) (s : ByteArray) (less : Bool) (w : World) (hs : s.size ≤ 9223372036854775807) (hl : 10000 < s.size) :
    Calls Try.prog 8 #[.int .u64 x, .string s, .bool less] w fun e w' => e = .returned (.bool true) ∧ Below w.heap.size w w' := by
  have hl' : (10000 : Int) < (s.size : Int) := by omega
  go_enter Try.func8, Try.ntmps8
  go_wp2_with fail
  refine (begun_true _).mono ?_
  rintro e w1 ⟨rfl, hb1⟩
  go_wp2
  go_ret
  exact ⟨rfl, hb1⟩

set_option maxRecDepth 100000 in
set_option maxHeartbeats 2000000 in
theorem exact_walk (x : Int) (y : Nat) (s : ByteArray) (w : World) (hl : s.size ≤ 10000) (hx0 : 0 ≤ x) (hx1 : x ≤ 18446744073709551615) (hxy : x / 2 = (y : Int)) :
    Calls Try.prog 8 #[.int .u64 x, .string s, .bool false] w fun e w' => e = .returned (.bool true) ∧ Below w.heap.size w w' := by
  have hy : (y : Int) ≤ 9223372036854775807 := by omega
  have hy64 : y < 18446744073709551616 := by omega
  have hs64 : s.size < 18446744073709551616 := by omega
  have hle : ¬ (10000 : Int) < (s.size : Int) := by omega
  have he : (ByteArray.empty.toList == []) = true := by rw [Lib.toList_data]; decide
  have he2 : ByteArray.empty.toList = [] := by rw [Lib.toList_data]; decide
  have e1 : [] ++ num y ++ num 7 = num y ++ (num 7 ++ []) := by simp
  have e2 : [] ++ text s ++ num 7 = text s ++ (num 7 ++ []) := by simp
  have e7 : (num 7 ++ []) = num 7 := by simp
  obtain ⟨P, hP⟩ : ∃ P, str ([] ++ num y ++ num 7) = P := ⟨_, rfl⟩
  obtain ⟨T, hT⟩ : ∃ T, str ([] ++ text s ++ num 7) = T := ⟨_, rfl⟩
  obtain ⟨Z, hZ⟩ : ∃ Z, str (num 7 ++ []) = Z := ⟨_, rfl⟩
  have hZs : Z.size ≤ 9223372036854775807 := by rw [← hZ, e7, str_size, num_length]; have := wide_le8 (x := 7) (by decide); omega
  have hPs : P.size ≤ 9223372036854775807 := by rw [← hP, e1, e7, str_size, List.length_append, num_length, num_length]; have := wide_le8 (x := 7) (by decide); have := wide_le8 hy64; omega
  have hTs : T.size ≤ 281474976710656 := by rw [← hT, e2, e7, str_size, List.length_append, num_length]; unfold text; rw [List.length_append, num_length, ← Lib.size_eq]; have := wide_le8 (x := 7) (by decide); have := wide_le8 hs64; omega
  have hn9 : ([] ++ num y).length ≤ 140737488355000 := by rw [List.nil_append, num_length]; have := wide_le8 hy64; omega
  have ht9 : ([] ++ text s).length ≤ 140737488355000 := by rw [List.nil_append]; unfold text; rw [List.length_append, num_length, ← Lib.size_eq]; have := wide_le8 hs64; omega
  have ht0 : ([] : List UInt8).length + s.size ≤ 140737488355000 := by simp; omega
  have h1 : upV P (y : Int) = y := by rw [← hP, e1]; exact upV_laid hy64 _ (by omega)
  have h2 : upR P (y : Int) = Z := by rw [← hP, e1, ← hZ]; exact upR_laid hy64 _ (by omega)
  have h3 : upB P false (y : Int) = false := by rw [← hP, e1]; exact upB_laid hy64 _ (by omega) _
  have h4 : textV T (s.size : Int) = s := by rw [← hT, e2]; exact textV_laid hs64 _ (by omega)
  have h5 : textR T (s.size : Int) = Z := by rw [← hT, e2, ← hZ]; exact textR_laid hs64 _ (by omega)
  have h6 : textB T false (s.size : Int) = false := by rw [← hT, e2]; exact textB_laid hs64 _ (by omega) _
  have hss : (s.toList == s.toList) = true := by simp
  have h7 : gotB Z = 7 := by rw [← hZ]; exact got_laid (by decide) _
  have h8 : restB Z = ByteArray.empty := by rw [← hZ]; exact rest_laid (by decide) _
  have h9 : badB Z false = false := by rw [← hZ]; exact bad_laid (by decide) _ _
  have H1 := Lib.hid h1
  have H2 := Lib.hid h2
  have H3 := Lib.hid h3
  have H4 := Lib.hid h4
  have H5 := Lib.hid h5
  have H6 := Lib.hid h6
  have H7 := Lib.hid h7
  have H8 := Lib.hid h8
  have H9 := Lib.hid h9
  have HP := Lib.hid hP
  have HT := Lib.hid hT
  have HZ := Lib.hid hZ
  clear h1 h2 h3 h4 h5 h6 h7 h8 h9 hP hT hZ e1 e2 e7 hl
  go_enter Try.func8, Try.ntmps8
  go_wp2_with fail
  refine (begun_true _).mono ?_
  rintro e w1 ⟨rfl, hb1⟩
  have hz1 := hb1.size
  have hn1 := new_writer w1
  go_wp2_with fail
  refine (WalkA.num_any _ _ _ y _ hn1 hy64 (by decide)).mono ?_
  rintro e w2 ⟨rfl, v2, hw2, hs2⟩
  go_wp2_with fail
  refine (WalkA.num_any _ _ _ 7 _ hw2 (by decide) hn9).mono ?_
  rintro e w3 ⟨rfl, v3, hw3, hs3⟩
  have hs13 := hs2.trans hs3
  have hB3 : Below w.heap.size w w3 := (hb1.alloc hz1 _).trans (hs13.below (by simp; omega) hz1 (by simp [Value.ownBlock]))
  have hz3 := hB3.size
  clear hs2 hs3 hs13 hn1 hw2
  go_wp2_with fail
  refine (bytes_hid _ _ _ P _ hw3 HP).mono ?_
  rintro e w3' ⟨rfl, rfl⟩
  clear hw3
  go_wp2_with fail
  refine (from_any P _).mono ?_
  rintro e w4 ⟨rfl, hr4, hb4⟩
  have hB4 := hB3.trans (hb4.mono hz3)
  have hz4 := hB4.size
  have hq4 := hr4.lt
  have hn4 := new_writer w4
  have hr4a : R (w4.alloc (.cells #[.slice none 0 0] 27)) w3.heap.size P false := hr4.below ((Below.refl _ _).alloc (Nat.le_refl _) _)
  go_wp2_with fail
  refine (WalkB.text_any _ _ _ s _ hn4 ht0).mono ?_
  rintro e w5 ⟨rfl, v5, hw5, hs5⟩
  go_wp2_with fail
  refine (WalkA.num_any _ _ _ 7 _ hw5 (by decide) ht9).mono ?_
  rintro e w6 ⟨rfl, v6, hw6, hs6⟩
  have hs46 := hs5.trans hs6
  have hB6 : Below w.heap.size w w6 := (hB4.alloc hz4 _).trans (hs46.below (by simp; omega) hz4 (by simp [Value.ownBlock]))
  have hr6 : R w6 w3.heap.size P false := keep_step hr4a hs46 (by omega) (by simp [Value.ownBlock])
  have hz6 := hB6.size
  have hq6 := hr6.lt
  clear hs5 hs6 hs46 hn4 hw5 hr4a
  go_wp2_with fail
  refine (bytes_hid _ _ _ T _ hw6 HT).mono ?_
  rintro e w6' ⟨rfl, rfl⟩
  clear hw6
  go_wp2_with fail
  refine (from_any T _).mono ?_
  rintro e w7 ⟨rfl, ht7, hb7⟩
  have hB7 := hB6.trans (hb7.mono hz6)
  have hr7 := hr6.below hb7
  obtain ⟨q, hq⟩ : ∃ q, w3.heap.size = q := ⟨_, rfl⟩
  obtain ⟨p, hp⟩ : ∃ p, w6.heap.size = p := ⟨_, rfl⟩
  rw [hq] at hr7 hq6 hz3 ⊢
  rw [hp] at ht7 hq6 hz6 ⊢
  clear hr6 hr4 hb7 hb4 hB6 hB4 hB3 hq hp hq4 hz4
  go_wp2_with fail
  refine (up_hid q y P Z false false (y : Int) _ hr7 hPs (by omega) H1 H2 H3).mono ?_
  rintro e w8 ⟨rfl, hr8, ho8⟩
  have ht8 := keep_only ht7 ho8 (by omega)
  have hB8 := below_took hB7 ho8 (Nat.le_refl _) hz3
  go_wp2_with fail
  refine (text_hid p T s Z false false (s.size : Int) _ ht8 hTs (by omega) H4 H5 H6).mono ?_
  rintro e w9 ⟨rfl, ht9', ho9⟩
  have hr9 := keep_only hr8 ho9 (by omega)
  have hB9 := below_took hB8 ho9 (Nat.le_refl _) hz6
  go_wp2_with fail
  refine (left_hid q _ _ _ true _ hr9 rfl rfl).mono ?_
  rintro e w10 ⟨rfl, hr10, ho10⟩
  have ht10 := keep_only ht9' ho10 (by omega)
  have hB10 := below_took hB9 ho10 (Nat.le_refl _) hz3
  go_wp2_with fail
  refine (left_hid p _ _ _ true _ ht10 rfl rfl).mono ?_
  rintro e w11 ⟨rfl, ht11, ho11⟩
  have hr11 := keep_only hr10 ho11 (by omega)
  have hB11 := below_took hB10 ho11 (Nat.le_refl _) hz6
  clear hr7 ht7 hr8 ht8 hr9 ht9' hr10 ht10 hB7 hB8 hB9 hB10 ho8 ho9 ho10 ho11
  go_wp2_with fail
  refine (WalkE.num_hid q 7 Z _ _ false _ hr11 hZs H7 H8 H9).mono ?_
  rintro e w12 ⟨rfl, hr12, ho12⟩
  have ht12 := keep_only ht11 ho12 (by omega)
  have hB12 := below_took hB11 ho12 (Nat.le_refl _) hz3
  go_wp2_with fail
  refine (WalkE.num_hid p 7 Z _ _ false _ ht12 hZs H7 H8 H9).mono ?_
  rintro e w13 ⟨rfl, ht13, ho13⟩
  have hr13 := keep_only hr12 ho13 (by omega)
  have hB13 := below_took hB12 ho13 (Nat.le_refl _) hz6
  go_wp2_with fail
  refine (done_hid q _ _ true _ hr13 done_known).mono ?_
  rintro e w14 ⟨rfl, hr14, ho14⟩
  have ht14 := keep_only ht13 ho14 (by omega)
  have hB14 := below_took hB13 ho14 (Nat.le_refl _) hz3
  go_wp2_with fail
  refine (done_hid p _ _ true _ ht14 done_known).mono ?_
  rintro e w15 ⟨rfl, ht15, ho15⟩
  have hB15 := below_took hB14 ho15 (Nat.le_refl _) hz6
  go_wp2
  go_ret
  exact ⟨rfl, hB15⟩

set_option maxRecDepth 100000 in
set_option maxHeartbeats 2000000 in
theorem over_walk (x : Int) (y : Nat) (s : ByteArray) (w : World) (hl : s.size ≤ 10000) (hx0 : 0 ≤ x) (hx1 : x ≤ 18446744073709551615) (hxy : x / 2 = (y : Int)) :
    Calls Try.prog 8 #[.int .u64 x, .string s, .bool true] w fun e w' => e = .returned (.bool true) ∧ Below w.heap.size w w' := by
  have hy : (y : Int) ≤ 9223372036854775807 := by omega
  have hy64 : y < 18446744073709551616 := by omega
  have hs64 : s.size < 18446744073709551616 := by omega
  have hle : ¬ (10000 : Int) < (s.size : Int) := by omega
  have he : (ByteArray.empty.toList == []) = true := by rw [Lib.toList_data]; decide
  have he2 : ByteArray.empty.toList = [] := by rw [Lib.toList_data]; decide
  have e1 : [] ++ num y ++ num 7 = num y ++ (num 7 ++ []) := by simp
  have e2 : [] ++ text s ++ num 7 = text s ++ (num 7 ++ []) := by simp
  have e7 : (num 7 ++ []) = num 7 := by simp
  obtain ⟨P, hP⟩ : ∃ P, str ([] ++ num y ++ num 7) = P := ⟨_, rfl⟩
  obtain ⟨T, hT⟩ : ∃ T, str ([] ++ text s ++ num 7) = T := ⟨_, rfl⟩
  obtain ⟨Z, hZ⟩ : ∃ Z, str (num 7 ++ []) = Z := ⟨_, rfl⟩
  have hZs : Z.size ≤ 9223372036854775807 := by rw [← hZ, e7, str_size, num_length]; have := wide_le8 (x := 7) (by decide); omega
  have hPs : P.size ≤ 9223372036854775807 := by rw [← hP, e1, e7, str_size, List.length_append, num_length, num_length]; have := wide_le8 (x := 7) (by decide); have := wide_le8 hy64; omega
  have hTs : T.size ≤ 281474976710656 := by rw [← hT, e2, e7, str_size, List.length_append, num_length]; unfold text; rw [List.length_append, num_length, ← Lib.size_eq]; have := wide_le8 (x := 7) (by decide); have := wide_le8 hs64; omega
  have hn9 : ([] ++ num y).length ≤ 140737488355000 := by rw [List.nil_append, num_length]; have := wide_le8 hy64; omega
  have ht9 : ([] ++ text s).length ≤ 140737488355000 := by rw [List.nil_append]; unfold text; rw [List.length_append, num_length, ← Lib.size_eq]; have := wide_le8 hs64; omega
  have ht0 : ([] : List UInt8).length + s.size ≤ 140737488355000 := by simp; omega
  have h1 : upV P ((y : Int) - 1) = 0 := by rw [← hP, e1]; exact upV_over hy64 _ (by omega)
  have h2 : upR P ((y : Int) - 1) = ByteArray.empty := by rw [← hP, e1]; exact upR_over hy64 _ (by omega)
  have h3 : upB P false ((y : Int) - 1) = true := by rw [← hP, e1]; exact upB_over hy64 _ (by omega) _
  have h4 : textV T ((s.size : Int) - 1) = ByteArray.empty := by rw [← hT, e2]; exact textV_over hs64 _ (by omega)
  have h5 : textR T ((s.size : Int) - 1) = ByteArray.empty := by rw [← hT, e2]; exact textR_over hs64 _ (by omega)
  have h6 : textB T false ((s.size : Int) - 1) = true := by rw [← hT, e2]; exact textB_over hs64 _ (by omega) _
  have H1 := Lib.hid h1
  have H2 := Lib.hid h2
  have H3 := Lib.hid h3
  have H4 := Lib.hid h4
  have H5 := Lib.hid h5
  have H6 := Lib.hid h6
  have HP := Lib.hid hP
  have HT := Lib.hid hT
  have HZ := Lib.hid hZ
  clear h1 h2 h3 h4 h5 h6 hP hT hZ e1 e2 e7 hl
  go_enter Try.func8, Try.ntmps8
  go_wp2_with fail
  refine (begun_true _).mono ?_
  rintro e w1 ⟨rfl, hb1⟩
  have hz1 := hb1.size
  have hn1 := new_writer w1
  go_wp2_with fail
  refine (WalkA.num_any _ _ _ y _ hn1 hy64 (by decide)).mono ?_
  rintro e w2 ⟨rfl, v2, hw2, hs2⟩
  go_wp2_with fail
  refine (WalkA.num_any _ _ _ 7 _ hw2 (by decide) hn9).mono ?_
  rintro e w3 ⟨rfl, v3, hw3, hs3⟩
  have hs13 := hs2.trans hs3
  have hB3 : Below w.heap.size w w3 := (hb1.alloc hz1 _).trans (hs13.below (by simp; omega) hz1 (by simp [Value.ownBlock]))
  have hz3 := hB3.size
  clear hs2 hs3 hs13 hn1 hw2
  go_wp2_with fail
  refine (bytes_hid _ _ _ P _ hw3 HP).mono ?_
  rintro e w3' ⟨rfl, rfl⟩
  clear hw3
  go_wp2_with fail
  refine (from_any P _).mono ?_
  rintro e w4 ⟨rfl, hr4, hb4⟩
  have hB4 := hB3.trans (hb4.mono hz3)
  have hz4 := hB4.size
  have hq4 := hr4.lt
  have hn4 := new_writer w4
  have hr4a : R (w4.alloc (.cells #[.slice none 0 0] 27)) w3.heap.size P false := hr4.below ((Below.refl _ _).alloc (Nat.le_refl _) _)
  go_wp2_with fail
  refine (WalkB.text_any _ _ _ s _ hn4 ht0).mono ?_
  rintro e w5 ⟨rfl, v5, hw5, hs5⟩
  go_wp2_with fail
  refine (WalkA.num_any _ _ _ 7 _ hw5 (by decide) ht9).mono ?_
  rintro e w6 ⟨rfl, v6, hw6, hs6⟩
  have hs46 := hs5.trans hs6
  have hB6 : Below w.heap.size w w6 := (hB4.alloc hz4 _).trans (hs46.below (by simp; omega) hz4 (by simp [Value.ownBlock]))
  have hr6 : R w6 w3.heap.size P false := keep_step hr4a hs46 (by omega) (by simp [Value.ownBlock])
  have hz6 := hB6.size
  have hq6 := hr6.lt
  clear hs5 hs6 hs46 hn4 hw5 hr4a
  go_wp2_with fail
  refine (bytes_hid _ _ _ T _ hw6 HT).mono ?_
  rintro e w6' ⟨rfl, rfl⟩
  clear hw6
  go_wp2_with fail
  refine (from_any T _).mono ?_
  rintro e w7 ⟨rfl, ht7, hb7⟩
  have hB7 := hB6.trans (hb7.mono hz6)
  have hr7 := hr6.below hb7
  obtain ⟨q, hq⟩ : ∃ q, w3.heap.size = q := ⟨_, rfl⟩
  obtain ⟨p, hp⟩ : ∃ p, w6.heap.size = p := ⟨_, rfl⟩
  rw [hq] at hr7 hq6 hz3 ⊢
  rw [hp] at ht7 hq6 hz6 ⊢
  clear hr6 hr4 hb7 hb4 hB6 hB4 hB3 hq hp hq4 hz4
  go_wp2_with fail
  refine (up_hid q 0 P ByteArray.empty false true ((y : Int) - 1) _ hr7 hPs (by omega) H1 H2 H3).mono ?_
  rintro e w8 ⟨rfl, hr8, ho8⟩
  have ht8 := keep_only ht7 ho8 (by omega)
  have hB8 := below_took hB7 ho8 (Nat.le_refl _) hz3
  go_wp2_with fail
  refine (text_hid p T ByteArray.empty ByteArray.empty false true ((s.size : Int) - 1) _ ht8 hTs (by omega) H4 H5 H6).mono ?_
  rintro e w9 ⟨rfl, ht9', ho9⟩
  have hr9 := keep_only hr8 ho9 (by omega)
  have hB9 := below_took hB8 ho9 (Nat.le_refl _) hz6
  go_wp2_with fail
  refine (left_hid q _ _ _ false _ hr9 rfl rfl).mono ?_
  rintro e w10 ⟨rfl, hr10, ho10⟩
  have ht10 := keep_only ht9' ho10 (by omega)
  have hB10 := below_took hB9 ho10 (Nat.le_refl _) hz3
  go_wp2_with fail
  refine (left_hid p _ _ _ false _ ht10 rfl rfl).mono ?_
  rintro e w11 ⟨rfl, ht11, ho11⟩
  have hr11 := keep_only hr10 ho11 (by omega)
  have hB11 := below_took hB10 ho11 (Nat.le_refl _) hz6
  clear hr7 ht7 hr8 ht8 hr9 ht9' hr10 ht10 hB7 hB8 hB9 hB10 ho8 ho9 ho10 ho11
  go_wp2_with fail
  refine (WalkE.num_hid q 0 _ _ _ true _ hr11 (by decide) got_empty rest_empty (bad_empty _)).mono ?_
  rintro e w12 ⟨rfl, hr12, ho12⟩
  have ht12 := keep_only ht11 ho12 (by omega)
  have hB12 := below_took hB11 ho12 (Nat.le_refl _) hz3
  go_wp2_with fail
  refine (WalkE.num_hid p 0 _ _ _ true _ ht12 (by decide) got_empty rest_empty (bad_empty _)).mono ?_
  rintro e w13 ⟨rfl, ht13, ho13⟩
  have hB13 := below_took hB12 ho13 (Nat.le_refl _) hz6
  go_wp2
  go_ret
  exact ⟨rfl, hB13⟩

theorem limits_walk (x : Int) (s : ByteArray) (less : Bool) (w : World) (hx : (Lit.int .u64 x).wf = true) (hs : s.size ≤ 9223372036854775807) :
    Calls Try.prog 8 #[.int .u64 x, .string s, .bool less] w fun e w' => e = .returned (.bool true) ∧ Below w.heap.size w w' := by
  have hb : 0 ≤ x ∧ x ≤ 18446744073709551615 := by simpa [Lit.wf, IntKind.min, IntKind.max, IntKind.signed, IntKind.bits] using hx
  obtain ⟨h0, h1⟩ := hb
  by_cases hl : 10000 < s.size
  · exact long_walk x s less w hs hl
  · obtain ⟨y, hy⟩ : ∃ y : Nat, x / 2 = (y : Int) := ⟨(x / 2).toNat, by omega⟩
    cases less
    · exact exact_walk x y s w (by omega) h0 h1 hy
    · exact over_walk x y s w (by omega) h0 h1 hy
end Go.Proofs.Ytdainmpedhohnaa.LawD
