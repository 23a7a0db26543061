/- The walk of the statement that what is laid is read as it was. -/
import Derived.Test.YtdainmpedhohnaaLawF
import Derived.Test.YtdainmpedhohnaaLawE
import Derived.Test.YtdainmpedhohnaaReads
namespace Go.Proofs.Ytdainmpedhohnaa.LawG
open Go.RowKit Go.Proofs.Ytdainmpedhohnaa.Kit Go.Proofs.Ytdainmpedhohnaa.Num Go.Proofs.Ytdainmpedhohnaa.State Go.Proofs.Ytdainmpedhohnaa.WalkA Go.Proofs.Ytdainmpedhohnaa.WalkB Go.Proofs.Ytdainmpedhohnaa.WalkC Go.Proofs.Ytdainmpedhohnaa.WalkD Go.Proofs.Ytdainmpedhohnaa.WalkE Go.Proofs.Ytdainmpedhohnaa.WalkH Go.Proofs.Ytdainmpedhohnaa.Begun Go.Proofs.Ytdainmpedhohnaa.Things Go.Proofs.Ytdainmpedhohnaa.Holds
open Go.Proofs.Ytdainmpedhohnaa.LawF (wrap_eq)
open Go.Proofs.Ytdainmpedhohnaa.LawE (rint_hid bool_hid)
open Go.Proofs.Ytdainmpedhohnaa.Reads

/-- A number as one with a sign; whether it is odd. -/
def signed (x : Nat) : Int := wrap64 (x : Int)
def odd (x : Nat) : Bool := decide (x % 2 = 1)
theorem signed_bounds (x : Nat) : -9223372036854775808 ≤ signed x ∧ signed x ≤ 9223372036854775807 := by unfold signed wrap64; omega
/-- The bytes of a thing, and of many. -/
def bytesOf (x : Thing) : List UInt8 := num x.num ++ (num (twice (signed x.num)) ++ (num (bit (odd x.num)) ++ text x.text))
def all (l : List Thing) : List UInt8 := l.flatMap bytesOf
theorem all_nil : all [] = [] := rfl
theorem all_snoc (l : List Thing) (x : Thing) : all (l ++ [x]) = all l ++ num x.num ++ num (twice (signed x.num)) ++ num (bit (odd x.num)) ++ text x.text := by simp [all, bytesOf]
theorem all_take (L : List Thing) (k : Nat) (x : Thing) (h : L[k]? = some x) : all (L.take (k + 1)) = all (L.take k) ++ num x.num ++ num (twice (signed x.num)) ++ num (bit (odd x.num)) ++ text x.text := by
  obtain ⟨hk, rfl⟩ := List.getElem?_eq_some_iff.1 h
  rw [List.take_succ_eq_append_getElem hk, all_snoc]
theorem all_drop (L : List Thing) (k : Nat) (x : Thing) (h : L[k]? = some x) : all (L.drop k) = num x.num ++ (num (twice (signed x.num)) ++ (num (bit (odd x.num)) ++ (text x.text ++ all (L.drop (k + 1))))) := by
  obtain ⟨hk, rfl⟩ := List.getElem?_eq_some_iff.1 h
  unfold all
  rw [List.drop_eq_getElem_cons hk, List.flatMap_cons]
  simp only [bytesOf, List.append_assoc]
theorem all_drop_le (L : List Thing) (k : Nat) : (all (L.drop k)).length ≤ (all L).length := by
  conv => rhs; rw [← List.take_append_drop k L]
  unfold all
  rw [List.flatMap_append, List.length_append]
  omega
theorem bit_lt (b : Bool) : bit b < 18446744073709551616 := by cases b <;> decide
theorem num9 {x : Nat} (h : x < 18446744073709551616) : (num x).length ≤ 9 := by rw [num_length]; have := wide_le8 h; omega
theorem text_len {s : ByteArray} (h : s.size < 18446744073709551616) : (text s).length ≤ s.size + 9 := by unfold text; rw [List.length_append, ← Lib.size_eq]; have := num9 h; omega

/-! ### A reader beside a thing -/
structure Rt (w : World) (q B : Nat) (x : Thing) (s : ByteArray) (W : World) : Prop where
  r : R W q s false
  below : Below w.heap.size w W
  thing : W.heap[B]? = some (.cells #[.int .i64 x.kind, .int .u64 x.num, .string x.text] 30 (0, 0))
  old : w.heap.size ≤ q
  apart : q ≠ B
section
variable {w W W' : World} {q B : Nat} {x : Thing} {s s' : ByteArray}
theorem Rt.num (h : Rt w q B x s W) : W.cell? ⟨B, 1, none⟩ = some (.int .u64 x.num) := by rw [cell_at h.thing]; rfl
theorem Rt.text (h : Rt w q B x s W) : W.cell? ⟨B, 2, none⟩ = some (.string x.text) := by rw [cell_at h.thing]; rfl
theorem Rt.drew (h : Rt w q B x s W) : Rt w q B x s W.drew := ⟨h.r, h.below.drew, h.thing, h.old, h.apart⟩
theorem Rt.first (hb : Below w.heap.size w W) (h : R W q s false) (hq : w.heap.size ≤ q) : Rt w q W.heap.size x s (W.alloc (.cells #[.int .i64 x.kind, .int .u64 x.num, .string x.text] 30)) := by
  have hal : Below W.heap.size W (W.alloc (.cells #[.int .i64 x.kind, .int .u64 x.num, .string x.text] 30)) := (Below.refl _ _).alloc (Nat.le_refl _) _
  exact ⟨h.below hal, hb.trans (hal.mono hb.size), heap_alloc_new W _, hq, by have := h.lt; omega⟩
theorem Rt.took {r : Value} {e : Ending} (h : Rt w q B x s W) (k : TookR q s' false r W e W') : e = .returned r ∧ Rt w q B x s' W' := by
  obtain ⟨rfl, hr, ho⟩ := k
  exact ⟨rfl, hr, h.below.trans (ho.below h.below.size (by rintro k rfl; exact h.old)), (ho.block B (lt_at h.thing) (fun e => h.apart e.symm)).trans h.thing, h.old, h.apart⟩
end
section
variable (w W : World) (q B : Nat) (x : Thing) (s r : ByteArray)
theorem rt_num (g : Nat) (h : Rt w q B x s W) (hs : s.size ≤ 9223372036854775807) (hg : Hid (gotB s = g)) (hr : Hid (restB s = r)) (hb : Hid (badB s false = false)) :
    Calls Try.prog 19 #[.pointer (some ⟨q, 0, none⟩)] W fun e W' => e = .returned (.int .u64 g) ∧ Rt w q B x r W' :=
  (WalkE.num_hid q g s r false false W h.r hs hg hr hb).mono fun _ _ k => h.took k
theorem rt_int (g : Int) (h : Rt w q B x s W) (hs : s.size ≤ 9223372036854775807) (hg : Hid (half (gotB s) = g)) (hr : Hid (restB s = r)) (hb : Hid (badB s false = false)) :
    Calls Try.prog 21 #[.pointer (some ⟨q, 0, none⟩)] W fun e W' => e = .returned (.int .i64 g) ∧ Rt w q B x r W' :=
  (rint_hid q g s r false false W h.r hs hg hr hb).mono fun _ _ k => h.took k
theorem rt_bool (g : Bool) (h : Rt w q B x s W) (hs : s.size ≤ 9223372036854775807) (hg : Hid (truth s = g)) (hr : Hid (upR s 1 = r)) (hb : Hid (upB s false 1 = false)) :
    Calls Try.prog 23 #[.pointer (some ⟨q, 0, none⟩)] W fun e W' => e = .returned (.bool g) ∧ Rt w q B x r W' :=
  (bool_hid q g s r false false W h.r hs hg hr hb).mono fun _ _ k => h.took k
theorem rt_text (v : ByteArray) (limit : Int) (h : Rt w q B x s W) (hs : s.size ≤ 281474976710656) (hlim : limit ≤ 9223372036854775807) (hv : Hid (textV s limit = v)) (hr : Hid (textR s limit = r)) (hb : Hid (textB s false limit = false)) :
    Calls Try.prog 25 #[.pointer (some ⟨q, 0, none⟩), .int .i64 limit] W fun e W' => e = .returned (.string v) ∧ Rt w q B x r W' :=
  (text_hid q s v r false false limit W h.r hs hlim hv hr hb).mono fun _ _ k => h.took k
end

theorem rel_next {w W : World} {p B n k : Nat} {x : Thing} {L : List Thing} (hS : St w p B x (all (L.take k) ++ num x.num ++ num (twice (signed x.num)) ++ num (bit (odd x.num)) ++ text x.text) W) (hx : L[k]? = some x) (hk : k < n) (hk2 : k < 200)
    (hll : (all (L.take k)).length ≤ k * 1040) (hn : x.num < 18446744073709551616) (ht : x.text.size ≤ 1000) :
    ∃ (k' : Nat) (v : Value), k' ≤ n ∧ k' ≤ 200 ∧ Value.int .i64 ((k : Int) + 1) = .int .i64 k' ∧ Value.int .i64 ((k : Int) + 1) = .int .i64 k' ∧ (all (L.take k')).length ≤ k' * 1040 ∧ WV W p v (all (L.take k')) ∧ Below w.heap.size w W := by
  obtain ⟨v, hv, _⟩ := hS.wv
  refine ⟨k + 1, v, by omega, by omega, by go_num, by go_num, ?_, by rw [all_take L k x hx]; exact hv, hS.below⟩
  have h1 := num9 hn
  have h2 := num9 (twice_lt (signed_bounds x.num).1 (signed_bounds x.num).2)
  have h3 := num9 (bit_lt (odd x.num))
  have h4 := text_len (s := x.text) (by omega)
  rw [all_take L k x hx]
  simp only [List.length_append]
  omega

set_option maxRecDepth 100000 in
set_option maxHeartbeats 4000000 in
theorem back_walk (a : Option Addr) (n c : Nat) (L : List Thing) (w : World) (h : Things w a n L) (_hnc : n ≤ c) (_hc : c ≤ 9223372036854775807) :
    Calls Try.prog 5 #[.slice a n c] w fun e w' => e = .returned (.bool true) ∧ Below w.heap.size w w' := by
  go_enter Try.func5, Try.ntmps5
  go_wp2_with fail
  refine (begun_true _).mono ?_
  rintro e w1 ⟨rfl, hb1⟩
  have hz1 := hb1.size
  have hn1 := new_writer w1
  have hB1 := hb1.alloc hz1 (.cells #[.slice none 0 0] 27)
  go_wp2_with fail
  generalize w1.alloc (.cells #[.slice none 0 0] 27) = w2 at hn1 hB1 ⊢
  obtain ⟨p, hp⟩ : ∃ p, w1.heap.size = p := ⟨_, rfl⟩
  rw [hp] at hn1 hz1 ⊢
  clear hp hb1
  go_loopw [4, 15] (fun m i wr => ∃ (k : Nat) (v : Value), k ≤ n ∧ k ≤ 200 ∧ m = .int .i64 k ∧ i = .int .i64 k ∧ (all (L.take k)).length ≤ k * 1040 ∧ WV wr p v (all (L.take k)) ∧ Below w.heap.size w wr) (fun _ i _ => n - (intOf i).toNat)
  case atStart => exact ⟨0, _, Nat.zero_le _, Nat.zero_le _, rfl, rfl, by simp [all], hn1, hB1⟩
  case round =>
    obtain ⟨k, v, hk, hk200, rfl, rfl, hll, hv, hB⟩ := hrel
    have hz := hB.size
    have HL := Lib.hid hll
    clear hll
    by_cases hkn : k < n
    · obtain ⟨x, b, o, hxk, rfl, hlt, c0, c1, c2, k0, k1, hx, hxs⟩ := h.at_ hB k hkn
      have HX := Lib.hid hxk
      clear hxk
      have hst : St w p wr.heap.size x (all (L.take k)) (wr.alloc (.cells #[.int .i64 x.kind, .int .u64 x.num, .string x.text] 30)) := St.first hB hv hz1
      by_cases h200 : k = 200
      · subst h200
        simp only [Nat.reduceMul] at c0 c1 c2
        go_wp2
        go_ret
        exact ⟨rfl, hst.below⟩
      · have hk2 : ¬ (200 : Int) < (k : Int) + 1 := by omega
        by_cases hlen : 1000 < x.text.size
        · have hlen' : (1000 : Int) < (x.text.size : Int) := by omega
          go_wp2
          go_ret
          exact ⟨rfl, hst.below⟩
        · have hlen' : ¬ (1000 : Int) < (x.text.size : Int) := by omega
          have hst4 := hst.drew
          have hk2' : k < 200 := by omega
          have hl1 : (all (L.take k)).length ≤ 140737488350000 := by have := HL.out; omega
          have h1 := num9 hx
          obtain ⟨hY0, hY1⟩ := signed_bounds x.num
          have h2 := num9 (twice_lt hY0 hY1)
          have h3 := num9 (bit_lt (odd x.num))
          have hl2 : (all (L.take k) ++ num x.num).length ≤ 140737488350009 := by rw [List.length_append]; omega
          have hl3 : (all (L.take k) ++ num x.num ++ num (twice (signed x.num))).length ≤ 140737488350018 := by rw [List.length_append]; omega
          have hl4 : (all (L.take k) ++ num x.num ++ num (twice (signed x.num)) ++ num (bit (odd x.num))).length ≤ 140737488350027 := by rw [List.length_append]; omega
          have b1 : (all (L.take k)).length ≤ 140737488355000 := by omega
          have b2 : (all (L.take k) ++ num x.num).length ≤ 140737488355000 := by omega
          have b3 : (all (L.take k) ++ num x.num ++ num (twice (signed x.num))).length ≤ 140737488355000 := by omega
          have b4 : (all (L.take k) ++ num x.num ++ num (twice (signed x.num)) ++ num (bit (odd x.num))).length + x.text.size ≤ 140737488355000 := by omega
          clear hl1 hl2 hl3 hl4 h1 h2 h3
          have ha := WalkE.and_one x.num hx
          obtain ⟨m, hm⟩ : ∃ m, x.num % 2 = m := ⟨_, rfl⟩
          rw [hm] at ha
          have hm1 : ((m : Int) == 1) = odd x.num := by
            unfold odd
            rw [hm, Bool.eq_iff_iff]
            simp
            omega
          have HM := Lib.hid hm
          clear hm
          obtain ⟨Y, hY⟩ : ∃ Y, signed x.num = Y := ⟨_, rfl⟩
          rw [hY] at hY0 hY1
          have hYa : wrap64 (x.num : Int) = Y := hY
          have hYw : IntKind.i64.wrap (x.num : Int) = Y := (wrap_eq _).trans hYa
          have HY := Lib.hid hY
          rw [hY] at b3 b4
          clear hY
          go_wp2_with fail
          go_region_held3 (fun w' => w'.cell? ⟨wr.heap.size, 1, none⟩ = some (.int .u64 x.num) ∧ w'.cell? ⟨wr.heap.size, 2, none⟩ = some (.string x.text))
            (first
              | exact ⟨St.num hst4, St.text hst4⟩
              | exact ⟨St.num hSA, St.text hSA⟩
              | exact ⟨St.num hSB, St.text hSB⟩
              | exact ⟨St.num hSC, St.text hSC⟩
              | exact ⟨St.num hSD, St.text hSD⟩)
            (first
              | (go_at_call 10
                 refine (st_num w _ p _ x _ x.num hst4 hx b1).mono ?_
                 rintro e wA ⟨rfl, hSA⟩)
              | (go_at_call 12
                 refine (st_int w _ p _ x _ Y hSA hY0 hY1 b2).mono ?_
                 rintro e wB ⟨rfl, hSB⟩)
              | (go_at_call 14
                 refine (st_bool w _ p _ x _ (odd x.num) hSB b3).mono ?_
                 rintro e wC ⟨rfl, hSC⟩)
              | (go_at_call 15
                 refine (st_text w _ p _ x _ x.text hSC b4).mono ?_
                 rintro e wD ⟨rfl, hSD⟩))
          all_goals go_wp2
          all_goals
            go_roundw
            case rel =>
              rw [← HY.out] at hSD
              exact rel_next hSD HX.out hkn hk2' HL.out hx (by omega)
            case measure => simp [intOf]; omega
    · obtain rfl : k = n := by omega
      have hL : L.take k = L := List.take_of_length_le (by rw [h.1]; exact Nat.le_refl _)
      have hll := HL.out
      rw [hL] at hll hv
      have hlen0 : (all L).length ≤ 208000 := by omega
      have hfit : ∀ j, (str (all (L.drop j))).size ≤ 281474976710656 := fun j => by rw [str_size]; have := all_drop_le L j; omega
      obtain ⟨S0, hS0⟩ : ∃ S0, str (all L) = S0 := ⟨_, rfl⟩
      have HF := Lib.hid hfit
      have HS0 := Lib.hid hS0
      clear hL hll hfit hS0 HL
      go_wp2_with fail
      refine (bytes_hid _ _ _ S0 _ hv HS0).mono ?_
      rintro e w' ⟨rfl, rfl⟩
      go_wp2_with fail
      refine (from_any S0 _).mono ?_
      rintro e w4 ⟨rfl, hr4, hb4⟩
      have hB4 := hB.trans (hb4.mono hz)
      obtain ⟨q, hq⟩ : ∃ q, wr.heap.size = q := ⟨_, rfl⟩
      rw [hq] at hr4 hz ⊢
      clear hb4 hq hB hv
      go_wp2_with fail
      go_loopw [51] (fun i wq => ∃ (j : Nat) (s : ByteArray), j ≤ k ∧ i = .int .i64 j ∧ Hid (str (all (L.drop j)) = s) ∧ R wq q s false ∧ Below w.heap.size w wq) (fun i _ => k - (intOf i).toNat)
      case atStart => exact ⟨0, S0, Nat.zero_le _, rfl, HS0, hr4, hB4⟩
      case round =>
        obtain ⟨j, s, hj, rfl, HS, hr, hB⟩ := hrel
        have hzq := hB.size
        by_cases hjn : j < k
        · obtain ⟨x, b, o, hxk, rfl, hlt, c0, c1, c2, k0, k1, hx, hxs⟩ := h.at_ hB j hjn
          have hx64 : x.text.size < 18446744073709551616 := by omega
          have hst4 : Rt w q wr.heap.size x s (wr.alloc (.cells #[.int .i64 x.kind, .int .u64 x.num, .string x.text] 30)).drew := (Rt.first hB hr hz).drew
          obtain ⟨hY0, hY1⟩ := signed_bounds x.num
          have ht64 := twice_lt hY0 hY1
          have hd := all_drop L j x hxk
          -- the four readings
          have g1 : gotB s = x.num := by rw [← HS.out, hd]; exact got_laid hx _
          have r1 : restB s = str (num (twice (signed x.num)) ++ (num (bit (odd x.num)) ++ (text x.text ++ all (L.drop (j + 1))))) := by rw [← HS.out, hd]; exact rest_laid hx _
          have d1 : badB s false = false := by rw [← HS.out, hd]; exact bad_laid hx _ _
          obtain ⟨s1, e1⟩ : ∃ s1, str (num (twice (signed x.num)) ++ (num (bit (odd x.num)) ++ (text x.text ++ all (L.drop (j + 1))))) = s1 := ⟨_, rfl⟩
          rw [e1] at r1
          have g2 : half (gotB s1) = signed x.num := by rw [← e1, got_laid ht64, half_twice]
          have r2 : restB s1 = str (num (bit (odd x.num)) ++ (text x.text ++ all (L.drop (j + 1)))) := by rw [← e1]; exact rest_laid ht64 _
          have d2 : badB s1 false = false := by rw [← e1]; exact bad_laid ht64 _ _
          obtain ⟨s2, e2⟩ : ∃ s2, str (num (bit (odd x.num)) ++ (text x.text ++ all (L.drop (j + 1)))) = s2 := ⟨_, rfl⟩
          rw [e2] at r2
          have hb1 : ((bit (odd x.num) : Nat) : Int) ≤ 1 := by cases odd x.num <;> decide
          have g3 : truth s2 = odd x.num := by
            unfold truth
            rw [← e2, upV_laid (bit_lt _) _ hb1]
            cases odd x.num <;> rfl
          have r3 : upR s2 1 = str (text x.text ++ all (L.drop (j + 1))) := by rw [← e2]; exact upR_laid (bit_lt _) _ hb1
          have d3 : upB s2 false 1 = false := by rw [← e2]; exact upB_laid (bit_lt _) _ hb1 _
          obtain ⟨s3, e3⟩ : ∃ s3, str (text x.text ++ all (L.drop (j + 1))) = s3 := ⟨_, rfl⟩
          rw [e3] at r3
          have g4 : textV s3 (x.text.size : Int) = x.text := by rw [← e3]; exact textV_laid hx64 _ (Int.le_refl _)
          have r4 : textR s3 (x.text.size : Int) = str (all (L.drop (j + 1))) := by rw [← e3]; exact textR_laid hx64 _ (Int.le_refl _)
          have d4 : textB s3 false (x.text.size : Int) = false := by rw [← e3]; exact textB_laid hx64 _ (Int.le_refl _) _
          obtain ⟨s4, e4⟩ : ∃ s4, str (all (L.drop (j + 1))) = s4 := ⟨_, rfl⟩
          rw [e4] at r4
          have z0 : s.size ≤ 281474976710656 := by rw [← HS.out]; exact HF.out j
          have z1 : s1.size ≤ 281474976710656 := by rw [← r1]; exact Nat.le_trans (restB_le s) z0
          have z2 : s2.size ≤ 281474976710656 := by rw [← r2]; exact Nat.le_trans (restB_le s1) z1
          have z3 : s3.size ≤ 281474976710656 := by rw [← r3]; exact Nat.le_trans (upR_le s2 1) z2
          have y0 : s.size ≤ 9223372036854775807 := by omega
          have y1 : s1.size ≤ 9223372036854775807 := by omega
          have y2 : s2.size ≤ 9223372036854775807 := by omega
          have ylim : (x.text.size : Int) ≤ 9223372036854775807 := by omega
          have hTT : (x.text.toList == x.text.toList) = true := by simp
          obtain ⟨T, hT⟩ : ∃ T, x.text = T := ⟨_, rfl⟩
          have ha := WalkE.and_one x.num hx
          obtain ⟨m, hm⟩ : ∃ m, x.num % 2 = m := ⟨_, rfl⟩
          rw [hm] at ha
          have hm1 : ((m : Int) == 1) = odd x.num := by
            unfold odd
            rw [hm, Bool.eq_iff_iff]
            simp
            omega
          have HM := Lib.hid hm
          obtain ⟨Y, hY⟩ : ∃ Y, signed x.num = Y := ⟨_, rfl⟩
          rw [hY] at g2
          have hYa : wrap64 (x.num : Int) = Y := hY
          have hYw : IntKind.i64.wrap (x.num : Int) = Y := (wrap_eq _).trans hYa
          have G1 := Lib.hid g1
          have R1 := Lib.hid r1
          have D1 := Lib.hid d1
          have G2 := Lib.hid g2
          have R2 := Lib.hid r2
          have D2 := Lib.hid d2
          have G3 := Lib.hid g3
          have R3 := Lib.hid r3
          have D3 := Lib.hid d3
          have G4 := Lib.hid g4
          have R4 := Lib.hid r4
          have D4 := Lib.hid d4
          have E4 := Lib.hid e4
          clear hm hY hT hd g1 r1 d1 e1 g2 r2 d2 e2 g3 r3 d3 e3 g4 r4 d4 e4 hxk hb1 hx64 hY0 hY1 ht64
          go_wp2_with fail
          go_region_held3 (fun w' => w'.cell? ⟨wr.heap.size, 1, none⟩ = some (.int .u64 x.num) ∧ w'.cell? ⟨wr.heap.size, 2, none⟩ = some (.string x.text))
            (first
              | exact ⟨Rt.num hst4, Rt.text hst4⟩
              | exact ⟨Rt.num hSA, Rt.text hSA⟩
              | exact ⟨Rt.num hSB, Rt.text hSB⟩
              | exact ⟨Rt.num hSC, Rt.text hSC⟩
              | exact ⟨Rt.num hSD, Rt.text hSD⟩)
            (first
              | (go_at_call 19
                 refine (rt_num w _ q _ x s s1 x.num hst4 y0 G1 R1 D1).mono ?_
                 rintro e wA ⟨rfl, hSA⟩)
              | (go_at_call 21
                 refine (rt_int w _ q _ x s1 s2 Y hSA y1 G2 R2 D2).mono ?_
                 rintro e wB ⟨rfl, hSB⟩)
              | (go_at_call 23
                 refine (rt_bool w _ q _ x s2 s3 (odd x.num) hSB y2 G3 R3 D3).mono ?_
                 rintro e wC ⟨rfl, hSC⟩)
              | (go_at_call 25
                 refine (rt_text w _ q _ x s3 s4 x.text x.text.size hSC z3 ylim G4 R4 D4).mono ?_
                 rintro e wD ⟨rfl, hSD⟩))
          all_goals go_wp2
          all_goals
            go_roundw
            case rel => exact ⟨j + 1, s4, by omega, by go_num, E4, hSD.r, hSD.below⟩
            case measure => simp [intOf]; omega
        · obtain rfl : j = k := by omega
          have hs0 : s = ByteArray.empty := by
            rw [← HS.out, List.drop_of_length_le (by rw [h.1]; exact Nat.le_refl _)]
            rfl
          subst hs0
          go_wp2_with fail
          refine (done_hid q _ false true _ hr done_known).mono ?_
          rintro e w9 ⟨rfl, hr9, ho9⟩
          go_wp2
          go_ret
          exact ⟨rfl, hB.trans (ho9.below hzq (by rintro k rfl; exact hz))⟩
end Go.Proofs.Ytdainmpedhohnaa.LawG
