/- The walk of the statement that numbers, truths and texts are laid as the document has it. -/
import Derived.Test.YtdainmpedhohnaaHolds
import Derived.Deep.RegionHeld3
namespace Go.Proofs.Ytdainmpedhohnaa.LawF
open Go.RowKit Go.Proofs.Ytdainmpedhohnaa.Kit Go.Proofs.Ytdainmpedhohnaa.Num Go.Proofs.Ytdainmpedhohnaa.State Go.Proofs.Ytdainmpedhohnaa.WalkA Go.Proofs.Ytdainmpedhohnaa.WalkB Go.Proofs.Ytdainmpedhohnaa.WalkH Go.Proofs.Ytdainmpedhohnaa.Begun Go.Proofs.Ytdainmpedhohnaa.Things Go.Proofs.Ytdainmpedhohnaa.Holds

theorem kinds (k : Int) : (k == 0) = true ∨ ((k == 0) = false ∧ (k == 1) = true) ∨ ((k == 0) = false ∧ (k == 1) = false ∧ (k == 2) = true) ∨ ((k == 0) = false ∧ (k == 1) = false ∧ (k == 2) = false) := by
  simp only [beq_iff_eq, beq_eq_false_iff_ne, ne_eq]
  omega

theorem wrap_eq (x : Int) : IntKind.i64.wrap x = wrap64 x := by rw [IntKind.wrap_i64]; unfold wrap64; omega
theorem cat_fits {l d : List UInt8} (h1 : l.length ≤ 202000) (h2 : d.length ≤ 1010) : ¬ 9223372036854775807 < (str l).size + (str d).size := by rw [str_size, str_size]; omega
theorem rel_next {w W : World} {p B n k : Nat} {x : Thing} {l d : List UInt8} (hS : St w p B x (l ++ d) W) (hk : k < n) (hk2 : k < 200) (hll : l.length ≤ k * 1010) (hd : d.length ≤ 1010) :
    ∃ (k' : Nat) (l' : List UInt8) (v : Value), k' ≤ n ∧ k' ≤ 200 ∧ Value.pointer (some ⟨p, 0, none⟩) = .pointer (some ⟨p, 0, none⟩) ∧ Value.string (str l ++ str d) = .string (str l') ∧ Value.int .i64 ((k : Int) + 1) = .int .i64 k' ∧
      l'.length ≤ k' * 1010 ∧ WV W p v l' ∧ Below w.heap.size w W := by
  obtain ⟨v, hv, _⟩ := hS.wv
  exact ⟨k + 1, l ++ d, v, by omega, by omega, rfl, by rw [str_append], by go_num, by rw [List.length_append]; omega, hv, hS.below⟩

set_option maxRecDepth 100000 in
set_option maxHeartbeats 4000000 in
theorem lays_walk (a : Option Addr) (n c : Nat) (L : List Thing) (w : World) (h : Things w a n L) (_hnc : n ≤ c) (_hc : c ≤ 9223372036854775807) :
    Calls Try.prog 3 #[.slice a n c] w fun e w' => e = .returned (.bool true) ∧ Below w.heap.size w w' := by
  go_enter Try.func3, Try.ntmps3
  go_wp2_with fail
  refine (begun_true _).mono ?_
  rintro e w1 ⟨rfl, hb1⟩
  have hz1 := hb1.size
  have hn1 := new_writer w1
  have hB1 := hb1.alloc hz1 (.cells #[.slice none 0 0] 27)
  go_wp2_with fail
  generalize w1.alloc (.cells #[.slice none 0 0] 27) = w2 at hn1 hB1 ⊢
  obtain ⟨p, hp⟩ : ∃ p, w1.heap.size = p := ⟨_, rfl⟩
  rw [hp] at hn1 hz1 ⊢
  clear hp hb1
  go_loopw [3, 4, 12] (fun q t i wr => ∃ (k : Nat) (l : List UInt8) (v : Value), k ≤ n ∧ k ≤ 200 ∧ q = .pointer (some ⟨p, 0, none⟩) ∧ t = .string (str l) ∧ i = .int .i64 k ∧ l.length ≤ k * 1010 ∧ WV wr p v l ∧ Below w.heap.size w wr) (fun _ _ i _ => n - (intOf i).toNat)
  case atStart => exact ⟨0, [], _, Nat.zero_le _, Nat.zero_le _, rfl, rfl, rfl, by simp, hn1, hB1⟩
  case round =>
    obtain ⟨k, l, v, hk, hk200, rfl, rfl, rfl, hll, hv, hB⟩ := hrel
    have hz := hB.size
    have hXX : ((str l).toList == (str l).toList) = true := by simp
    have HL := Lib.hid hll
    clear hll
    by_cases hkn : k < n
    · obtain ⟨x, b, o, -, rfl, hlt, c0, c1, c2, k0, k1, hx, hxs⟩ := h.at_ hB k hkn
      have hst : St w p wr.heap.size x l (wr.alloc (.cells #[.int .i64 x.kind, .int .u64 x.num, .string x.text] 30)) := St.first hB hv hz1
      by_cases h200 : k = 200
      · subst h200
        simp only [Nat.reduceMul] at c0 c1 c2
        go_wp2_with fail
        obtain ⟨v', hv', _⟩ := hst.wv
        refine (bytes_hid _ _ _ (str l) _ hv' rfl).mono ?_
        rintro e w' ⟨rfl, rfl⟩
        go_wp2
        go_ret
        exact ⟨rfl, hst.below⟩
      · have hk2 : ((k : Int) == 200) = false := by simp; omega
        by_cases hlen : 1000 < x.text.size
        · have hlen' : (1000 : Int) < (x.text.size : Int) := by omega
          go_wp2_with fail
          obtain ⟨v', hv', _⟩ := hst.wv
          refine (bytes_hid _ _ _ (str l) _ hv' rfl).mono ?_
          rintro e w' ⟨rfl, rfl⟩
          go_wp2
          go_ret
          exact ⟨rfl, hst.below⟩
        · have hlen' : ¬ (1000 : Int) < (x.text.size : Int) := by omega
          have hl63 : l.length ≤ 202000 := by have := HL.out; omega
          have hst4 := hst.drew
          have hk2' : k < 200 := by omega
          have hlB : l.length ≤ 140737488355000 := by omega
          have hlT : l.length + x.text.size ≤ 140737488355000 := by omega
          have hlX : x.text.size ≤ 140737488355000 := by omega
          rcases kinds x.kind with e0 | ⟨e0, e1⟩ | ⟨e0, e1, e2⟩ | ⟨e0, e1, e2⟩
          · have hn9 : (num x.num).length ≤ 1010 := by rw [num_length]; have := wide_le8 (x := x.num) (by omega); omega
            have hcat : ¬ 9223372036854775807 < (str l).size + (str (num x.num)).size := cat_fits hl63 hn9
            go_wp2_with fail
            go_region_held3 (fun w' => w'.cell? ⟨wr.heap.size, 1, none⟩ = some (.int .u64 x.num))
              (first
                | exact St.num hst4
                | exact St.num hSA
                | exact St.num hSB)
              (first
                | (go_at_call 10
                   refine (st_num w _ p _ x l x.num (by assumption) hx hlB).mono ?_
                   rintro e wA ⟨rfl, hSA⟩)
                | (go_at_call 11
                   refine (doc_num w _ p _ x _ x.num (by assumption) hx).mono ?_
                   rintro e wB ⟨rfl, hSB⟩))
            all_goals go_wp2
            all_goals
              go_roundw
              case rel => first | exact rel_next hSB hkn hk2' HL.out hn9 | exact rel_next hSA hkn hk2' HL.out hn9
              case measure => simp [intOf]; omega
          · have hY0 : -9223372036854775808 ≤ wrap64 (x.num : Int) := by unfold wrap64; omega
            have hY1 : wrap64 (x.num : Int) ≤ 9223372036854775807 := by unfold wrap64; omega
            obtain ⟨Y, hY⟩ : ∃ Y, wrap64 (x.num : Int) = Y := ⟨_, rfl⟩
            rw [hY] at hY0 hY1
            have hn9 : (num (twice Y)).length ≤ 1010 := by rw [num_length]; have := wide_le8 (twice_lt hY0 hY1); omega
            have hYw : IntKind.i64.wrap (x.num : Int) = Y := (wrap_eq _).trans hY

            have hcat : ¬ 9223372036854775807 < (str l).size + (str (num (twice Y))).size := cat_fits hl63 hn9
            go_wp2_with fail
            go_region_held3 (fun w' => w'.cell? ⟨wr.heap.size, 1, none⟩ = some (.int .u64 x.num))
              (first
                | exact St.num hst4
                | exact St.num hSA
                | exact St.num hSB)
              (first
                | (go_at_call 12
                   refine (st_int w _ p _ x l Y (by assumption) hY0 hY1 hlB).mono ?_
                   rintro e wA ⟨rfl, hSA⟩)
                | (go_at_call 13
                   refine (doc_int w _ p _ x _ Y (by assumption) hY0 hY1).mono ?_
                   rintro e wB ⟨rfl, hSB⟩))
            all_goals go_wp2
            all_goals
              go_roundw
              case rel => first | exact rel_next hSB hkn hk2' HL.out hn9 | exact rel_next hSA hkn hk2' HL.out hn9
              case measure => simp [intOf]; omega
          · rcases Nat.mod_two_eq_zero_or_one x.num with h2 | h2
            · have ha : bits .and .u64 (x.num : Int) 1 = 0 := by rw [WalkE.and_one x.num hx, h2]; rfl
              have hn9 : (num 0).length ≤ 1010 := by rw [num_length]; have := wide_le8 (x := 0) (by omega); omega
              have H2 := Lib.hid h2
              clear h2
              have hcat : ¬ 9223372036854775807 < (str l).size + (str (num 0)).size := cat_fits hl63 hn9
              go_wp2_with fail
              go_region_held3 (fun w' => w'.cell? ⟨wr.heap.size, 1, none⟩ = some (.int .u64 x.num))
                (first
                  | exact St.num hst4
                  | exact St.num hSA
                  | exact St.num hSB)
                (first
                  | (go_at_call 14
                     refine (st_bool w _ p _ x l false (by assumption) hlB).mono ?_
                     rintro e wA ⟨rfl, hSA⟩)
                  | (go_at_call 11
                     refine (doc_num w _ p _ x _ 0 (by assumption) (by decide)).mono ?_
                     rintro e wB ⟨rfl, hSB⟩))
              all_goals go_wp2
              all_goals
                go_roundw
                case rel => first | exact rel_next hSB hkn hk2' HL.out hn9 | exact rel_next hSA hkn hk2' HL.out hn9
                case measure => simp [intOf]; omega
            · have ha : bits .and .u64 (x.num : Int) 1 = 1 := by rw [WalkE.and_one x.num hx, h2]; rfl
              have hn9 : (num 1).length ≤ 1010 := by rw [num_length]; have := wide_le8 (x := 1) (by omega); omega
              have H2 := Lib.hid h2
              clear h2
              have hcat : ¬ 9223372036854775807 < (str l).size + (str (num 1)).size := cat_fits hl63 hn9
              go_wp2_with fail
              go_region_held3 (fun w' => w'.cell? ⟨wr.heap.size, 1, none⟩ = some (.int .u64 x.num))
                (first
                  | exact St.num hst4
                  | exact St.num hSA
                  | exact St.num hSB)
                (first
                  | (go_at_call 14
                     refine (st_bool w _ p _ x l true (by assumption) hlB).mono ?_
                     rintro e wA ⟨rfl, hSA⟩)
                  | (go_at_call 11
                     refine (doc_num w _ p _ x _ 1 (by assumption) (by decide)).mono ?_
                     rintro e wB ⟨rfl, hSB⟩))
              all_goals go_wp2
              all_goals
                go_roundw
                case rel => first | exact rel_next hSB hkn hk2' HL.out hn9 | exact rel_next hSA hkn hk2' HL.out hn9
                case measure => simp [intOf]; omega
          · have hn9 : (text x.text).length ≤ 1010 := by unfold text; rw [List.length_append, num_length, ← Lib.size_eq]; have := wide_le8 (x := x.text.size) (by omega); omega
            have hcat : ¬ 9223372036854775807 < (str l).size + (str (text x.text)).size := cat_fits hl63 hn9
            go_wp2_with fail
            go_region_held3 (fun w' => w'.cell? ⟨wr.heap.size, 2, none⟩ = some (.string x.text))
              (first
                | exact St.text hst4
                | exact St.text hSA
                | exact St.text hSB)
              (first
                | (go_at_call 15
                   refine (st_text w _ p _ x l x.text (by assumption) hlT).mono ?_
                   rintro e wA ⟨rfl, hSA⟩)
                | (go_at_call 16
                   refine (doc_text w _ p _ x _ x.text (by assumption) hlX).mono ?_
                   rintro e wB ⟨rfl, hSB⟩))
            all_goals go_wp2
            all_goals
              go_roundw
              case rel => first | exact rel_next hSB hkn hk2' HL.out hn9 | exact rel_next hSA hkn hk2' HL.out hn9
              case measure => simp [intOf]; omega
    · go_wp2_with fail
      refine (bytes_hid _ _ _ (str l) _ hv rfl).mono ?_
      rintro e w' ⟨rfl, rfl⟩
      go_wp2
      go_ret
      exact ⟨rfl, hB⟩
end Go.Proofs.Ytdainmpedhohnaa.LawF
