/- What the document's Take leaves, walked. No statement is proved here. -/
import Derived.Test.YtfcdaelbbcfgjaaRNet
import Derived.Test.YtfcdaelbbcfgjaaWalkE
set_option linter.unusedVariables false
namespace Go.Proofs.Ytfcdaelbbcfgjaa.RTake
open Go.RowKit Go.Proofs.Ytfcdaelbbcfgjaa.Kit Go.Proofs.Ytfcdaelbbcfgjaa.Blocks Go.Proofs.Ytfcdaelbbcfgjaa.Ltr Go.Proofs.Ytfcdaelbbcfgjaa.NAt Go.Proofs.Ytfcdaelbbcfgjaa.App Go.Proofs.Ytfcdaelbbcfgjaa.WalkA Go.Proofs.Ytfcdaelbbcfgjaa.WalkC Go.Proofs.Ytfcdaelbbcfgjaa.WalkE Go.Proofs.Ytfcdaelbbcfgjaa.WalkG Go.Proofs.Ytfcdaelbbcfgjaa.RNet

theorem erase_step {L : List Lt} {j k : Nat} {x : Lt} (h : L[j]? = some x) (hne : j ≠ k) : (L.take (j + 1)).eraseIdx k = (L.take j).eraseIdx k ++ [x] := by
  have hj := (List.getElem?_eq_some_iff.1 h).1
  rw [take_snoc L j x h, List.eraseIdx_append]
  have hl : (L.take j).length = j := by rw [List.length_take]; omega
  by_cases hlt : k < j
  · rw [if_pos (by omega)]
  · rw [if_neg (by omega), hl, List.eraseIdx_of_length_le (by simp; omega)]
    rw [List.eraseIdx_of_length_le (by omega)]
theorem erase_skip {L : List Lt} {k : Nat} {x : Lt} (h : L[k]? = some x) : (L.take (k + 1)).eraseIdx k = (L.take k).eraseIdx k := by
  have hj := (List.getElem?_eq_some_iff.1 h).1
  have hl : (L.take k).length = k := by rw [List.length_take]; omega
  rw [take_snoc L k x h, List.eraseIdx_append, if_neg (by omega), hl, Nat.sub_self, List.eraseIdx_of_length_le (l := L.take k) (by omega)]
  simp
section
variable {B : Nat} {E : Nat → Prop} {w : World} {p : Nat} {v : Value} {L : List Lt} {lost : Nat}
set_option maxRecDepth 100000 in
set_option maxHeartbeats 4000000 in
theorem rtake_none (h : NAt B 30 E w p v [] lost) (i : Int) : Calls Try.prog 14 #[.pointer (some ⟨p, 0, none⟩), .int .i64 i] w (Nothing w) := by
  have hnew := heap_alloc_new w (.cells #[.int .i64 0, .int .i64 0, .int .i64 0, .int .u64 0, .int .u64 0, .int .u64 0, .int .u64 0, .bool false, .slice none 0 0, .string ⟨#[]⟩] 34)
  have HN := Lib.hid hnew
  have hbo : Below w.heap.size w (w.alloc (.cells #[.int .i64 0, .int .i64 0, .int .i64 0, .int .u64 0, .int .u64 0, .int .u64 0, .int .u64 0, .bool false, .slice none 0 0, .string ⟨#[]⟩] 34)) := (Below.refl _ _).alloc (Nat.le_refl _) _
  have HP := Lib.hid (rplace_none (h.below hbo) i)
  have HB := Lib.hid hbo
  clear hnew hbo h
  go_enter Try.func14, Try.ntmps14
  go_wp2_with fail
  with_reducible refine HP.out.mono ?_
  rintro e w1 ⟨rfl, hb1⟩
  have h1 := (hb1.block _ (lt_at HN.out)).trans HN.out
  obtain ⟨z0, z1, z2, z3, z4, z5, z6, z7, z8, z9, hlt⟩ := ten_at h1
  have g := free_at h1
  have g0 := g 0
  have g1 := g 1
  have g2 := g 2
  have g3 := g 3
  have g4 := g 4
  have g5 := g 5
  have g6 := g 6
  have g7 := g 7
  have g8 := g 8
  have g9 := g 9
  have HB1 := Lib.hid (HB.out.trans (hb1.mono HB.out.size))
  have H1 := Lib.hid h1
  clear hb1 h1 g
  go_wp2_with fail
  obtain ⟨hblk, o2⟩ := set10 H1.out rfl (.int .i64 0) (.int .i64 0) (.int .i64 0) (.int .u64 0) (.int .u64 0) (.int .u64 0) (.int .u64 0) (.bool false) (.slice none 0 0) (.string ⟨#[]⟩)
  refine bodyPost_ret (results_ct (p := 4) (u := 5) (ty := 34) rfl _ _ w.heap.size 34 _ (0, 0) _ rfl hblk Try.underlying34 rfl (by kernel_rfl)) rfl ?_
  exact ⟨rfl, HB1.out.trans (o2.below HB1.out.size fun k hk => by omega)⟩
/-- A letter is taken. -/
def RTaken (B : Nat) (E : Nat → Prop) (w : World) (p : Nat) (v : Value) (L : List Lt) (lost : Nat) (k : Nat) (e : Ending) (w' : World) : Prop :=
  ∃ x, L[k]? = some x ∧ e = .returned (.tuple #[ltV x, .bool true]) ∧ LeftN B 30 E E w p v (L.eraseIdx k) lost w'
set_option maxRecDepth 100000 in
set_option maxHeartbeats 16000000 in
theorem rtake_any (h : NAt B 30 E w p v L lost) (hn : 0 < L.length) (hfew : L.length ≤ 256) (i : Int) :
    Calls Try.prog 14 #[.pointer (some ⟨p, 0, none⟩), .int .i64 i] w (RTaken B E w p v L lost (plc i L.length)) := by
  have hnew := heap_alloc_new w (.cells #[.int .i64 0, .int .i64 0, .int .i64 0, .int .u64 0, .int .u64 0, .int .u64 0, .int .u64 0, .bool false, .slice none 0 0, .string ⟨#[]⟩] 34)
  have HN := Lib.hid hnew
  have hbo : Below w.heap.size w (w.alloc (.cells #[.int .i64 0, .int .i64 0, .int .i64 0, .int .u64 0, .int .u64 0, .int .u64 0, .int .u64 0, .bool false, .slice none 0 0, .string ⟨#[]⟩] 34)) := (Below.refl _ _).alloc (Nat.le_refl _) _
  have hpl := rplace_any (h.below hbo) hn hfew i
  have hkl := plc_lt i hn
  obtain ⟨n, hln⟩ : ∃ n, L.length = n := ⟨_, rfl⟩
  rw [hln] at hpl hkl hn hfew
  rw [hln]
  obtain ⟨k, hk⟩ : ∃ k, plc i n = k := ⟨_, rfl⟩
  rw [hk] at hpl hkl ⊢
  have HP := Lib.hid hpl
  have HB := Lib.hid hbo
  have H := Lib.hid h
  have HLN := Lib.hid hln
  clear hnew hbo h hpl hk hln
  go_enter Try.func14, Try.ntmps14
  go_wp2_with fail
  with_reducible refine HP.out.mono ?_
  rintro e w1 ⟨rfl, hb1⟩
  have hbb := HB.out.trans (hb1.mono HB.out.size)
  have hw1 := H.out.below hbb
  have c0 := hw1.c0
  have hp1 := hw1.plt
  obtain ⟨A, c, hv, hnc, hcm, hr⟩ := hw1.form
  rw [HLN.out] at hv hnc hr
  rw [hv] at c0
  have hz1 := (hb1.block _ (lt_at HN.out)).trans HN.out
  obtain ⟨b, o, x, rfl, hbl, hx, hten⟩ := RL.at_ hr hkl
  have HZ1 := Lib.hid hz1
  have HX := Lib.hid hx
  have HV := Lib.hid hv
  have HBB := Lib.hid hbb
  have HW1 := Lib.hid hw1
  have HR1 := Lib.hid hr
  obtain ⟨d0, d1, d2, d3, d4, d5, d6, d7, d8, d9⟩ := hten
  obtain ⟨⟨kk, f, t, tm, ix, pv, cm, ok, d⟩, A2, n2, c2, es⟩ := x
  simp only at d0 d1 d2 d3 d4 d5 d6 d7 d8 d9
  have hkI : (k : Int) < (n : Int) := by omega
  have hk0 : (0 : Int) ≤ (k : Int) := by omega
  have hk1 : ¬ (k : Int) < 0 := by omega
  have hnw := heap_alloc_new w1 (.cells #[.int .i64 kk, .int .i64 f, .int .i64 t, .int .u64 tm, .int .u64 ix, .int .u64 pv, .int .u64 cm, .bool ok, .slice A2 n2 c2, .string d] 34)
  have hb2 : Below w1.heap.size w1 (w1.alloc (.cells #[.int .i64 kk, .int .i64 f, .int .i64 t, .int .u64 tm, .int .u64 ix, .int .u64 pv, .int .u64 cm, .bool ok, .slice A2 n2 c2, .string d] 34)) := (Below.refl _ _).alloc (Nat.le_refl _) _
  have hw2 := HW1.out.below hb2
  obtain ⟨w2, hw2e⟩ : ∃ w2, w1.alloc (.cells #[.int .i64 kk, .int .i64 f, .int .i64 t, .int .u64 tm, .int .u64 ix, .int .u64 pv, .int .u64 cm, .bool ok, .slice A2 n2 c2, .string d] 34) = w2 := ⟨_, rfl⟩
  rw [hw2e] at hnw hb2 hw2
  have HNW := Lib.hid hnw
  have HB2 := Lib.hid hb2
  have HW2 := Lib.hid hw2
  have HW2E := Lib.hid hw2e
  have H0 : Hid (w2.ownsRow w2.heap.size 34 10 (.slice none 0 0) ((L.take 0).eraseIdx k).length (lcells ((L.take 0).eraseIdx k))) := World.ownsRow_nil _ _ _ _
  clear hnw hb2 hw2 hw2e hr hv hbb hw1 hb1 hz1 hx
  go_wp2_with fail
  rw [HW2E.out]
  go_loopw [8, 9] (fun l jv wr => ∃ (j m : Nat) (A3 : Option Addr) (c3 : Nat), j ≤ n ∧ jv = .int .i64 (j : Int) ∧ l = .slice A3 m c3 ∧ m ≤ j ∧ Hid (((L.take j).eraseIdx k).length = m) ∧ Hid (wr.ownsRow w2.heap.size 34 10 (.slice A3 m c3) m (lcells ((L.take j).eraseIdx k))) ∧ Below w2.heap.size w2 wr) (fun _ jv _ => n - (intOf jv).toNat)
  case atStart => exact ⟨0, 0, none, 0, by omega, rfl, rfl, Nat.le_refl _, by show _ = _; simp, H0, Below.refl _ _⟩
  case round =>
    obtain ⟨j, m, A3, c3, hj, rfl, rfl, hmj, hlen, hown, hbw⟩ := hrel
    have hwr := HW2.out.below hbw
    have c0r := hwr.c0
    have hpr := hwr.plt
    rw [HV.out] at c0r
    by_cases hlt : j < n
    · have hjI : (j : Int) < (n : Int) := by omega
      have hj0 : (0 : Int) ≤ (j : Int) := by omega
      by_cases hjk : j = k
      · subst hjk
        have hs := erase_skip (x := _) HX.out
        have HSk := Lib.hid hs
        clear hs hwr
        go_wp2_with fail
        go_roundw
        case rel => exact ⟨j + 1, m, A3, c3, by omega, by first | rfl | simp, rfl, by omega, by show _ = _; rw [HSk.out]; exact hlen.out, by show World.ownsRow _ _ _ _ _ _ _; rw [HSk.out]; exact hown.out, hbw⟩
        case measure => simp [intOf]; omega
      · have hjkI : ((j : Int) == (k : Int)) = false := by simp; omega
        have hjkN : ¬ (j : Int) = (k : Int) := by omega
        obtain ⟨b', o', y, hA, hbl', hy, hten'⟩ := RL.at_ (Kit.Reads.below HR1.out ((HB2.out.trans (hbw.mono HB2.out.size)))) hlt
        cases hA
        have HST := Lib.hid (erase_step hy hjk)
        obtain ⟨e0, e1, e2, e3, e4, e5, e6, e7, e8, e9⟩ := hten'
        obtain ⟨⟨kk', f', t', tm', ix', pv', cm', ok', d'⟩, A5, n5, c5, es'⟩ := y
        simp only at e0 e1 e2 e3 e4 e5 e6 e7 e8 e9
        have hbW : Below wr.heap.size wr (wr.alloc (.cells #[.int .i64 kk', .int .i64 f', .int .i64 t', .int .u64 tm', .int .u64 ix', .int .u64 pv', .int .u64 cm', .bool ok', .slice A5 n5 c5, .string d'] 34)) := (Below.refl _ _).alloc (Nat.le_refl _) _
        have HNL : Hid (RL (wr.alloc (.cells #[.int .i64 kk', .int .i64 f', .int .i64 t', .int .u64 tm', .int .u64 ix', .int .u64 pv', .int .u64 cm', .bool ok', .slice A5 n5 c5, .string d'] 34)) (wr.heap.size + 1) (some ⟨wr.heap.size, 0, none⟩) 1 [⟨⟨kk', f', t', tm', ix', pv', cm', ok', d'⟩, A5, n5, c5, es'⟩]) := lt_new wr ⟨⟨kk', f', t', tm', ix', pv', cm', ok', d'⟩, A5, n5, c5, es'⟩ 34
        have HO := Lib.hid ((Only.of_below hbW).own hown.out fun _ _ e => e)
        have hbs : w2.heap.size ≤ (wr.alloc (.cells #[.int .i64 kk', .int .i64 f', .int .i64 t', .int .u64 tm', .int .u64 ix', .int .u64 pv', .int .u64 cm', .bool ok', .slice A5 n5 c5, .string d'] 34)).heap.size := by have := hbw.size; have := hbW.size; omega
        have HBS := Lib.hid hbs
        have HBW := Lib.hid hbW
        have hbl3 : b < wr.heap.size := Nat.lt_of_lt_of_le hbl (Nat.le_trans HB2.out.size hbw.size)
        clear hbW hbs hy hwr
        go_wp2_with
          (at_builtin
           refine wpList_appL (v := .slice A3 m c3) (xs := lcells ((L.take j).eraseIdx k)) _ rfl _ _ rfl w2.heap.size rfl HO.out rfl HNL.out (lcells_one _) (by omega) HBS.out ?_
           intro A' c' w3 hown3 hg3 hat3
           have hB3 : Below w2.heap.size w2 w3 := (hbw.trans (HBW.out.mono hbw.size)).grown hg3 HBS.out fun g hg => (hown.out.lt g hg).1
           rw [← lcells_append, ← HST.out] at hown3
           have Q1 := Lib.hid hown3
           have Q2 := Lib.hid hB3
           clear hB3 hown3 hg3 hat3)
        go_roundw
        case rel => exact ⟨j + 1, m + 1, A', c', by omega, by first | rfl | simp, rfl, by omega, by show _ = _; rw [HST.out, List.length_append, hlen.out]; rfl, Q1.out, Q2.out⟩
        case measure => simp [intOf]; omega
    · obtain rfl : j = n := by omega
      have htk : L.take j = L := List.take_of_length_le (by rw [HLN.out]; exact Nat.le_refl _)
      have hown' := hown.out
      have hlen' := hlen.out
      rw [htk] at hown' hlen'
      obtain ⟨q1, q2, q3, q4⟩ := HW2.out.rowed (L' := L.eraseIdx k) (fun g hg => hg) (fun g hg => .inl hg) (Only.of_below hbw) (own_base hown' HW2.out.base) hlen'.symm rfl (fun y hy => (HW2.out.fit y (List.mem_of_mem_eraseIdx hy)).below hbw) (fun q hq => .inr (hown'.lt q hq).1)
      rw [HV.out] at q1
      have hs1 := HBB.out.size
      have hs2 := HB2.out.size
      have hpw : p < w.heap.size := H.out.plt
      have hb3 := (hbw.block _ (lt_at HNW.out)).trans HNW.out
      have hz2 := (HB2.out.block _ (lt_at HZ1.out)).trans HZ1.out
      have hz3 := (hbw.block _ (lt_at hz2)).trans hz2
      obtain ⟨y0, y1, y2, y3, y4, y5, y6, y7, y8, y9, hlty⟩ := ten_at hb3
      obtain ⟨z0, z1, z2, z3, z4, z5, z6, z7, z8, z9, hltz⟩ := ten_at hz3
      have hne1 : p ≠ w.heap.size := by omega
      have hne2 : p ≠ w1.heap.size := by omega
      have g := free_at hz3
      have g0 := g 0
      have g1 := g 1
      have g2 := g 2
      have g3 := g 3
      have g4 := g 4
      have g5 := g 5
      have g6 := g 6
      have g7 := g 7
      have g8 := g 8
      have g9 := g 9
      have HZ3 := Lib.hid hz3
      have Q4 := Lib.hid q4
      clear hown' hlen' q4 hb3 hz2 hz3 g hown hlen hwr
      go_wp2_with fail
      have hset : Only (fun q => q = p) wr (wr.setCell ⟨p, 0, none⟩ (.slice A3 m c3)) := (Only.refl (fun q => q = p) wr).setCell (a := ⟨p, 0, none⟩) (.inr rfl) _
      obtain ⟨hblk, o2⟩ := set10 (hset.heap HZ3.out fun e => hne1 e.symm) rfl (.int .i64 kk) (.int .i64 f) (.int .i64 t) (.int .u64 tm) (.int .u64 ix) (.int .u64 pv) (.int .u64 cm) (.bool ok) (.slice A2 n2 c2) (.string d)
      refine bodyPost_ret (results_ct (p := 4) (u := 5) (ty := 34) rfl _ _ w.heap.size 34 _ (0, 0) _ rfl hblk Try.underlying34 rfl (by kernel_rfl)) rfl ?_
      refine ⟨_, HX.out, rfl, ?_⟩
      obtain ⟨v4, n4, o4, f4, e4, e5⟩ := Q4.out
      have hb := HBB.out.trans (HB2.out.mono hs1)
      have hlt := lt_at HNW.out
      exact ⟨v4, n4.keep o2 (fun g hg e => by
          rcases hg with rfl | hg
          · exact hne1 e
          · rcases f4 g hg with h1 | h1
            · have := (H.out.own.lt g h1).2; omega
            · omega) (fun g hg e => by have := (H.out.off g hg).2.2; omega), ((Only.of_below hb).trans o4).trans' o2 (fun q hq => .inr (by omega)),
        fun g hg => (f4 g hg).imp_right fun e => by omega, e4, fun g hg => (e5 g hg).imp_right fun e => by omega⟩
end
end Go.Proofs.Ytfcdaelbbcfgjaa.RTake
