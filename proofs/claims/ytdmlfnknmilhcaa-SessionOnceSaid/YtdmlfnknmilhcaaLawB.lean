/- SessionLives, walked: a session lives just as long as it is used within its time. No statement is proved here. -/
import Derived.Test.YtdmlfnknmilhcaaLawA
set_option linter.unusedVariables false
set_option linter.unusedSimpArgs false
namespace Go.Proofs.Ytdmlfnknmilhcaa.LawB
open Go.RowKit Go.Proofs.Ytdmlfnknmilhcaa.Kit Go.Proofs.Ytdmlfnknmilhcaa.Blocks Go.Proofs.Ytdmlfnknmilhcaa.Ses Go.Proofs.Ytdmlfnknmilhcaa.Rws Go.Proofs.Ytdmlfnknmilhcaa.WalkA Go.Proofs.Ytdmlfnknmilhcaa.Boxs Go.Proofs.Ytdmlfnknmilhcaa.Cal Go.Proofs.Ytdmlfnknmilhcaa.Begn Go.Proofs.Ytdmlfnknmilhcaa.Opn Go.Proofs.Ytdmlfnknmilhcaa.LawA

def md (u t j : Nat) : Tb := ⟨t, 2, [⟨1, u, j, y0⟩]⟩
def mg (t : Nat) : Tb := ⟨t, 2, []⟩
theorem md_sane {u t j : Nat} (ht : U t) (hj : U j) (h1 : u ≤ t) (h2 : t - u ≤ 1000) : Sane (md u t j) :=
  ⟨ht, (by decide : U 2), by show 0 < 2; decide, by show 1 ≤ 16; decide, ⟨by show 0 < 1; decide, by show 1 < 2; decide, trivial⟩, fun r hr => by
    simp only [md, List.mem_singleton] at hr
    subst hr
    exact ⟨h1, h2, hj, y0_ok⟩⟩
theorem mg_sane {t : Nat} (ht : U t) : Sane (mg t) := ⟨ht, (by decide : U 2), by show 0 < 2; decide, by show 0 ≤ 16; decide, trivial, fun r hr => by simp [mg] at hr⟩
theorem clk_yes (u j k : Nat) (h : k ≤ 1000) : clock (md u u j) (u + k) = md u (u + k) j := by
  unfold clock
  split
  · rename_i h0
    have h0' : u + k ≤ u := h0
    have : k = 0 := by omega
    subst this
    rfl
  · show (⟨u + k, 2, List.filter (kept (u + k)) [⟨1, u, j, y0⟩]⟩ : Tb) = _
    have hk : kept (u + k) ⟨1, u, j, y0⟩ = true := by unfold kept; simp only; exact decide_eq_true (by omega)
    rw [List.filter_cons, if_pos hk]
    rfl
theorem clk_no (u j k : Nat) (h : 1000 < k) : clock (md u u j) (u + k) = mg (u + k) := by
  unfold clock
  split
  · rename_i h0
    have h0' : u + k ≤ u := h0
    omega
  · show (⟨u + k, 2, List.filter (kept (u + k)) [⟨1, u, j, y0⟩]⟩ : Tb) = _
    have hk : ¬ kept (u + k) ⟨1, u, j, y0⟩ = true := by unfold kept; simp only; rw [decide_eq_false (by omega)]; decide
    rw [List.filter_cons, if_neg hk]
    rfl
theorem next_md (u j : Nat) : isNext ⟨1, u, j, y0⟩ (j + 1) = true := by unfold isNext; simp
theorem reg0 (w : World) {B p : Nat} {v : Value} (h : PT B w p v tb0) : Calls Try.prog 20 #[.pointer (some ⟨p, 0, none⟩)] w fun e w' => e = .returned (.tuple #[.int .u64 1, .int .i64 0]) ∧ PLeft B w p v (md 0 0 0) w' := b1 h
section
variable {B : Nat} {w : World} {p : Nat} {v : Value}
theorem clock_md {u k j : Nat} (h : PT B w p v (md u u j)) (hu : U (u + k)) (hj : U j) (hk : k ≤ 1000) {n : Nat} (hn : Hid (u + k = n)) : Calls Try.prog 19 #[.pointer (some ⟨p, 0, none⟩), .int .u64 (n : Int)] w fun e w' => e = .returned (.tuple #[]) ∧ PLeft B w p v (md u n j) w' := by
  rw [← hn.out]; exact clock_any h (md_sane (by omega) hj (Nat.le_refl _) (by omega)) hu (Lib.hid (clk_yes u j k hk))
theorem clock_mg {u k j : Nat} (h : PT B w p v (md u u j)) (hu : U (u + k)) (hj : U j) (hk : 1000 < k) {n : Nat} (hn : Hid (u + k = n)) : Calls Try.prog 19 #[.pointer (some ⟨p, 0, none⟩), .int .u64 (n : Int)] w fun e w' => e = .returned (.tuple #[]) ∧ PLeft B w p v (mg n) w' := by
  rw [← hn.out]; exact clock_any h (md_sane (by omega) hj (Nat.le_refl _) (by omega)) hu (Lib.hid (clk_no u j k hk))
theorem beg_md {u t j : Nat} (h : PT B w p v (md u t j)) (ht : U t) (hj : U (j + 1)) (h1 : u ≤ t) (h2 : t - u ≤ 1000) {n : Nat} (hn : Hid (j + 1 = n)) : Calls Try.prog 21 #[.pointer (some ⟨p, 0, none⟩), .int .u64 1, .int .u64 (n : Int)] w fun e w' => e = .returned (.tuple #[.agg #[.int .i64 0, .int .u64 0, .int .u64 0], .bool true]) ∧ PLeft B w p v (md t t j) w' := by
  rw [← hn.out]
  exact beg_any (y := y0) (b := true) h (md_sane ht (by omega) h1 h2) 1 hj (Lib.hid rfl) (Lib.hid (by show (if isNext ⟨1, u, j, y0⟩ (j + 1) then y0 else _) = y0; rw [if_pos (next_md u j)])) (Lib.hid (next_md u j))
theorem beg_mg {t : Nat} (h : PT B w p v (mg t)) (ht : U t) {n : Nat} (hn : U n) : Calls Try.prog 21 #[.pointer (some ⟨p, 0, none⟩), .int .u64 1, .int .u64 (n : Int)] w fun e w' => e = .returned (.tuple #[.agg #[.int .i64 40, .int .u64 0, .int .u64 0], .bool false]) ∧ PLeft B w p v (mg t) w' :=
  beg_any (y := yE 40) (b := false) h (mg_sane ht) 1 hn (Lib.hid rfl) (Lib.hid rfl) (Lib.hid rfl)
theorem end_md {t j : Nat} (h : PT B w p v (md t t j)) (hj : U (j + 1)) {n : Nat} (hn : Hid (j + 1 = n)) : Calls Try.prog 22 #[.pointer (some ⟨p, 0, none⟩), .int .u64 1, .int .u64 (n : Int), .agg #[.int .i64 0, .int .u64 0, .int .u64 0]] w fun e w' => e = .returned (.bool true) ∧ PLeft B w p v (md t t n) w' := by
  rw [← hn.out]
  exact end_any (b := true) h 1 hj y0 (Lib.hid (by show (if isNext ⟨1, t, j, y0⟩ (j + 1) then _ else _) = _; rw [if_pos (next_md t j)]; rfl)) (Lib.hid (next_md t j))
end
theorem ints_at {w : World} {B n k : Nat} {A : Option Addr} {l : List Int} (h : Reads w B 1 A n (ivals l)) (hk : k < n) : ∃ b o z, A = some ⟨b, o, none⟩ ∧ b < B ∧ w.cell? ⟨b, o + k, none⟩ = some (.int .i64 z) := by
  obtain ⟨ad, u, rfl, hb, hx, hc⟩ := h.at_ hk
  have hs := h.spot (by omega)
  unfold ivals at hx
  rw [List.getElem?_map] at hx
  obtain ⟨z, _, rfl⟩ := Option.map_eq_some_iff.1 hx
  refine ⟨ad.block, ad.off, z, by rw [← hs], hb, ?_⟩
  rw [hs, Addr.add_lit] at hc
  exact hc
set_option maxRecDepth 100000 in
set_option maxHeartbeats 4000000 in
theorem lives_walk (A : Option Addr) (n c : Nat) (l : List Int) (w : World) (hr : Reads w w.heap.size 1 A n (ivals l)) (hm : n ≤ 9223372036854775807) :
    Calls Try.prog 6 #[.slice A n c] w fun e w' => e = .returned (.bool true) ∧ Below w.heap.size w w' := by
  have hbo : ∀ (W : World) o, Below W.heap.size W (W.alloc o) := fun W o => (Below.refl _ _).alloc (Nat.le_refl _) o
  have HR := Lib.hid hr
  clear hr
  go_enter Try.func6, Try.ntmps6
  go_wp2_with fail
  with_reducible refine (begun_true _).mono ?_
  rintro e w1 ⟨rfl, hb1⟩
  go_wp2_with fail
  with_reducible refine (new_any _).mono ?_
  rintro e w2 ⟨p, v2, rfl, h2, hb2⟩
  have HB2 := Lib.hid (hb1.trans (hb2.mono hb1.size))
  have HSZ := Lib.hid hb1.size
  have H2 := Lib.hid h2
  clear hb1 hb2 h2
  go_wp2_with fail
  with_reducible refine (reg0 _ H2.out).mono ?_
  rintro e w3 ⟨rfl, hL⟩
  have HB3 := Lib.hid (HB2.out.trans ((left_below H2.out hL).mono HSZ.out))
  obtain ⟨v3, h3, o3, f3⟩ := hL
  have H3 := Lib.hid h3
  clear HB2 H2 h3 o3 f3
  go_wp2_with fail
  go_loopw [6, 7, 22] (fun x y i wr => ∃ (u j : Nat) (v : Value), j ≤ n ∧ j ≤ 200 ∧ u ≤ 1500 * j ∧ x = .int .u64 (u : Int) ∧ y = .int .u64 (j : Int) ∧ i = .int .i64 (j : Int) ∧ Hid (PT w1.heap.size wr p v (md u u j)) ∧ Hid (Below w.heap.size w wr)) (fun _ _ i _ => n - (intOf i).toNat)
  case atStart => exact ⟨0, 0, v3, by omega, by omega, by omega, rfl, rfl, rfl, H3.out, HB3.out⟩
  case round =>
    obtain ⟨u, j, v, hjn, hj2, hu, rfl, rfl, rfl, hp, hbel⟩ := hrel
    by_cases hlast : j < n ∧ j ≠ 200
    · obtain ⟨hjn', hj200⟩ := hlast
      have HJ := Lib.hid hjn'
      obtain ⟨b, o, z, rfl, hb, hc0⟩ := ints_at HR.out hjn'
      have hc := (hbel.out.cell (p := ⟨b, o + j, none⟩) hb).trans hc0
      have hbw := Nat.lt_of_lt_of_le hb hbel.out.size
      have h200I : ¬ (j : Int) = 200 := by omega
      have h200B : ((j : Int) == 200) = false := by simp; omega
      obtain ⟨k, hk, hk15⟩ := modk z 1500 (by decide) (by decide)
      have hk' : (wrap64 (z.tmod 1500 + 1500)).tmod 1500 = (k : Int) := hk
      have hw1 : IntKind.u64.wrap (k : Int) = (k : Int) := IntWalk.u64_in _ ⟨by omega, by omega⟩
      have hw2 : IntKind.u64.wrap ((u : Int) + (k : Int)) = ((u + k : Nat) : Int) := by rw [show (u : Int) + (k : Int) = ((u + k : Nat) : Int) by omega]; exact IntWalk.u64_in _ ⟨by omega, by omega⟩
      have hw3 : IntKind.u64.wrap ((j : Int) + 1) = ((j + 1 : Nat) : Int) := by rw [show (j : Int) + 1 = ((j + 1 : Nat) : Int) by omega]; exact IntWalk.u64_in _ ⟨by omega, by omega⟩
      obtain ⟨N, hN⟩ : ∃ N, u + k = N := ⟨_, rfl⟩
      obtain ⟨J, hJ⟩ : ∃ J, j + 1 = J := ⟨_, rfl⟩
      have hN15 : N ≤ 1500 * J := by omega
      rw [hN] at hw2
      rw [hJ] at hw3
      have HN := Lib.hid hN
      have HJJ := Lib.hid hJ
      have hUN : U N := by show N < _; omega
      have hUJ : U J := by show J < _; omega
      by_cases h1000 : k ≤ 1000
      · have h1000I : ¬ (1000 : Int) < (k : Int) := by omega
        have hcl := clock_md hp.out (by rw [hN]; exact hUN) (by show j < _; omega) h1000 HN
        have HCL := Lib.hid hcl
        clear hcl hc0 hk hN hJ
        go_wp2_with fail
        with_reducible refine HCL.out.mono ?_
        rintro e w4 ⟨rfl, hL⟩
        have HB4 := Lib.hid (hbel.out.trans ((left_below hp.out hL).mono HSZ.out))
        obtain ⟨v4, h4, o4, f4⟩ := hL
        have H4 := Lib.hid h4
        have HBG := Lib.hid (beg_md h4 hUN (by rw [HJJ.out]; exact hUJ) (by have := HN.out; omega) (by have := HN.out; omega) HJJ)
        clear h4 o4 f4 HCL
        go_wp2_with fail
        with_reducible refine HBG.out.mono ?_
        rintro e w5 ⟨rfl, hL⟩
        have HB5 := Lib.hid (HB4.out.trans ((left_below H4.out hL).mono HSZ.out))
        obtain ⟨v5, h5, o5, f5⟩ := hL
        obtain ⟨w6, hw6⟩ : ∃ w6, w5.alloc (.cells #[.int .i64 0, .int .u64 0, .int .u64 0] 33) = w6 := ⟨_, rfl⟩
        have h6 := h5.below (hbo w5 (.cells #[.int .i64 0, .int .u64 0, .int .u64 0] 33))
        have HB6 := Lib.hid (HB5.out.trans ((hbo w5 (.cells #[.int .i64 0, .int .u64 0, .int .u64 0] 33)).mono HB5.out.size))
        rw [hw6] at h6 HB6
        have H6 := Lib.hid h6
        have HW6 := Lib.hid hw6
        have HEN := Lib.hid (end_md h6 (by rw [HJJ.out]; exact hUJ) HJJ)
        clear h5 o5 f5 HBG HB4 H4 hw6 h6 HB5
        go_wp2_with fail
        rw [HW6.out]
        go_wp2_with fail
        with_reducible refine HEN.out.mono ?_
        rintro e w7 ⟨rfl, hL⟩
        have HB7 := Lib.hid (HB6.out.trans ((left_below H6.out hL).mono HSZ.out))
        obtain ⟨v7, h7, o7, f7⟩ := hL
        have H7 := Lib.hid h7
        clear h7 o7 f7 HEN HB6 H6
        go_wp2
        go_roundw
        case rel => exact ⟨N, J, v7, by have := HJJ.out; have := HJ.out; omega, by have := HJJ.out; omega, hN15, rfl, rfl, by have := HJJ.out; go_num, H7.out, HB7.out⟩
        case measure => have := HJ.out; simp [intOf]; omega
      · have h1000I : (1000 : Int) < (k : Int) := by omega
        have hcl := clock_mg hp.out (by rw [hN]; exact hUN) (by show j < _; omega) (by omega) HN
        have HCL := Lib.hid hcl
        clear hcl hc0 hk hN hJ
        go_wp2_with fail
        with_reducible refine HCL.out.mono ?_
        rintro e w4 ⟨rfl, hL⟩
        have HB4 := Lib.hid (hbel.out.trans ((left_below hp.out hL).mono HSZ.out))
        obtain ⟨v4, h4, o4, f4⟩ := hL
        have H4 := Lib.hid h4
        have HBG := Lib.hid (beg_mg h4 hUN hUJ)
        clear h4 o4 f4 HCL
        go_wp2_with fail
        with_reducible refine HBG.out.mono ?_
        rintro e w5 ⟨rfl, hL⟩
        have HB5 := Lib.hid (HB4.out.trans ((left_below H4.out hL).mono HSZ.out))
        obtain ⟨v5, h5, o5, f5⟩ := hL
        have h6 := h5.below (hbo w5 (.cells #[.int .i64 40, .int .u64 0, .int .u64 0] 33))
        have HB6 := Lib.hid (HB5.out.trans ((hbo w5 (.cells #[.int .i64 40, .int .u64 0, .int .u64 0] 33)).mono HB5.out.size))
        have HRW : Hid (Calls Try.prog 23 #[.pointer (some ⟨p, 0, none⟩)] (w5.alloc (.cells #[.int .i64 40, .int .u64 0, .int .u64 0] 33)) fun e w' => ∃ A c, e = .returned (.slice A 0 c) ∧ Below w.heap.size w w') := (WalkD.rows_any h6 (by show 0 ≤ 16; decide)).mono fun e w' k => by
          obtain ⟨A, c, rfl, _, hb⟩ := k
          exact ⟨A, c, rfl, HB6.out.trans (hb.mono HB6.out.size)⟩
        clear h5 o5 f5 HBG HB4 H4 h6 HB5
        go_wp2_with fail
        with_reducible refine HRW.out.mono ?_
        rintro e w9 ⟨A9, c9, rfl, hb9⟩
        have HB9 := Lib.hid hb9
        clear hb9
        go_wp2
        go_ret
        exact ⟨rfl, HB9.out⟩
    · have hrows := WalkD.rows_any hp.out (by show 1 ≤ 16; decide)
      have HRW : Hid (Calls Try.prog 23 #[.pointer (some ⟨p, 0, none⟩)] wr fun e w' => ∃ A c, e = .returned (.slice A 1 c) ∧ Below wr.heap.size wr w') := hrows.mono fun e w' k => by
        obtain ⟨A, c, rfl, _, hb⟩ := k
        exact ⟨A, c, rfl, hb⟩
      clear hrows
      by_cases hjn' : j = n
      · subst hjn'
        go_wp2_with fail
        with_reducible refine HRW.out.mono ?_
        rintro e w9 ⟨A9, c9, rfl, hb9⟩
        have HB9 := Lib.hid (hbel.out.trans (hb9.mono hbel.out.size))
        clear hb9
        go_wp2
        go_ret
        exact ⟨rfl, HB9.out⟩
      · have hj200 : j = 200 := by omega
        have hj200I : (j : Int) = 200 := by omega
        have hjn2 : j < n := by omega
        have hjn3 : (200 : Int) < (n : Int) := by omega
        obtain ⟨b, o, z, rfl, hb, hc0⟩ := ints_at HR.out hjn2
        have hc := (hbel.out.cell (p := ⟨b, o + j, none⟩) hb).trans hc0
        have hbw := Nat.lt_of_lt_of_le hb hbel.out.size
        rw [hj200] at hc
        clear hc0
        go_wp2_with fail
        with_reducible refine HRW.out.mono ?_
        rintro e w9 ⟨A9, c9, rfl, hb9⟩
        have HB9 := Lib.hid (hbel.out.trans (hb9.mono hbel.out.size))
        clear hb9
        go_wp2
        go_ret
        exact ⟨rfl, HB9.out⟩
end Go.Proofs.Ytdmlfnknmilhcaa.LawB
