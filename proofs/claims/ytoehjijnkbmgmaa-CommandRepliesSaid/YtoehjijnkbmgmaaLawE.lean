/- The walk of the statement that replies are said, and heard, as the document has it. -/
import Derived.Test.YtoehjijnkbmgmaaBegun
import Derived.Test.YtoehjijnkbmgmaaWalkF
import Derived.Deep.Cut
set_option linter.unusedVariables false
set_option linter.unusedSimpArgs false
namespace Go.Proofs.Ytoehjijnkbmgmaa.LawE
open Go.RowKit Go.Proofs.Ytoehjijnkbmgmaa.Kit Go.Proofs.Ytoehjijnkbmgmaa.Cmd Go.Proofs.Ytoehjijnkbmgmaa.CmdAt Go.Proofs.Ytoehjijnkbmgmaa.WalkF Go.Proofs.Ytoehjijnkbmgmaa.Begun
open Go.Proofs.Ytoehjijnkbmgmaa.PckWalkH (str str_size)

theorem run_same (a : Int) (b c : Int) (w : World) :
    (binOp .eql 40 (.agg #[.int .i64 a, .int .u64 b, .int .u64 c]) (.agg #[.int .i64 a, .int .u64 b, .int .u64 c])).run Try.prog w = .ok (.bool true) w := by
  simp [binOp, Op.equal, Op.maxDepth, go_sem]
/-- What Said answers, by names. -/
def HeardI (w : World) (y : Ry) (z : Int) (e : Ending) (w' : World) : Prop := e = .returned (.tuple #[ryV y, .int .i64 z]) ∧ Below w.heap.size w w'
theorem said_lit {s : ByteArray} (hs : s.size ≤ 281474976710656) {y : Ry} {z : Int} (hy : hear s = y) (hz : (if said s = true then (0 : Int) else 2) = z) (w : World) : Calls Try.prog 18 #[.string s] w (HeardI w y z) :=
  (said_any s w hs).mono fun e w' h => ⟨by rw [← hy, ← hz]; exact h.1, h.2⟩
theorem rsaid_lit {s : ByteArray} (hs : s.size ≤ 281474976710656) {y : Ry} {z : Int} (hy : hear s = y) (hz : (if said s = true then (0 : Int) else 2) = z) (w : World) : Calls Try.prog 19 #[.string s] w (HeardI w y z) :=
  (rsaid_any s w hs).mono fun e w' h => ⟨by rw [← hy, ← hz]; exact h.1, h.2⟩
theorem ry_box (y : Ry) (w : World) : ∃ w1, Hid (w.alloc (.cells #[.int .i64 y.err, .int .u64 (y.num : Int), .int .u64 (y.ext : Int)] 40) = w1) ∧ Box3 w1 w.heap.size (.int .i64 y.err) (.int .u64 (y.num : Int)) (.int .u64 (y.ext : Int)) ∧ Below w.heap.size w w1 :=
  ⟨_, rfl, Box3.new w _ _ _, (Below.refl _ _).alloc (Nat.le_refl _) _⟩

set_option maxRecDepth 100000 in
set_option maxHeartbeats 16000000 in
theorem replies_walk (y : Ry) (s : ByteArray) (w : World) (h : y.Ok) (hs : s.size ≤ 281474976710656) : Calls Try.prog 7 #[ryV y, .string s] w fun e w' => e = .returned (.bool true) ∧ Below w.heap.size w w' := by
  obtain ⟨w1, HW1, hx, hb1⟩ := ry_box y w
  obtain ⟨T, hT⟩ : ∃ T, str (ryB y) = T := ⟨_, rfl⟩
  have hTs : T.size ≤ 281474976710656 := by rw [← hT, str_size]; have := ryB_le h; omega
  have HA := Lib.hid (fun w' => answer_any y w' h (Lib.hid hT))
  have HR := Lib.hid (fun w' => ranswer_any y w' h (Lib.hid hT))
  obtain ⟨a, ha⟩ : ∃ a, hear s = a := ⟨_, rfl⟩
  obtain ⟨z, hz⟩ : ∃ z, (if said s = true then (0 : Int) else 2) = z := ⟨_, rfl⟩
  have HS := Lib.hid (said_lit hs ha hz)
  have HQ := Lib.hid (rsaid_lit hs ha hz)
  obtain ⟨d, hd⟩ : ∃ a, hear T = a := ⟨_, rfl⟩
  obtain ⟨u, hu⟩ : ∃ z, (if said T = true then (0 : Int) else 2) = z := ⟨_, rfl⟩
  have HT := Lib.hid (said_lit hTs hd hu)
  have hway : y.err < 0 ∨ (¬ y.err < 0 ∧ y.err > 52) ∨ (¬ y.err < 0 ∧ ¬ y.err > 52 ∧ u = 0 ∧ d = y) := by
    by_cases h0 : y.err < 0
    · exact .inl h0
    · by_cases h1 : y.err > 52
      · exact .inr (.inl ⟨h0, h1⟩)
      · obtain ⟨g1, g2⟩ := ry_go h (by omega) (by omega)
        rw [hT] at g1 g2
        exact .inr (.inr ⟨h0, h1, by rw [← hu, g1]; rfl, by rw [← hd]; exact g2⟩)
  have hTT : (T.toList == T.toList) = true := by simp
  have hzz : (z == z) = true := by simp
  have HB1 := Lib.hid hb1
  obtain ⟨G, hG⟩ : ∃ G, w.heap.size = G := ⟨_, rfl⟩
  rw [hG] at hx
  have HX := Lib.hid hx
  have hwy : ryV y = .agg #[.int .i64 y.err, .int .u64 (y.num : Int), .int .u64 (y.ext : Int)] := rfl
  have hwa : ryV a = .agg #[.int .i64 a.err, .int .u64 (a.num : Int), .int .u64 (a.ext : Int)] := rfl
  have hwd : ryV d = .agg #[.int .i64 d.err, .int .u64 (d.num : Int), .int .u64 (d.ext : Int)] := rfl
  obtain ⟨x0, x1, x2⟩ : _ ∧ _ ∧ _ := ⟨hx.c0, hx.c1, hx.c2⟩
  have e1 := run_same a.err a.num a.ext
  have e2 := run_same y.err y.num y.ext
  rw [hwy] at HA HR ⊢
  clear h hs hT hTs ha hz hd hu hb1 hx hwy
  go_enter Try.func7, Try.ntmps7
  go_wp2_with fail
  rw [HW1.out]
  with_reducible refine (begun_true w1).mono ?_
  rintro e w2 ⟨rfl, hb2⟩
  clear x0 x1 x2 hG
  have hx2 := HX.out.below hb2
  obtain ⟨x0, x1, x2⟩ : _ ∧ _ ∧ _ := ⟨hx2.c0, hx2.c1, hx2.c2⟩
  go_wp2_with fail
  with_reducible refine (HA.out w2).mono ?_
  rintro e w3 ⟨rfl, hb3⟩
  have hB3 := hb2.trans (hb3.mono hb2.size)
  clear x0 x1 x2 hx2 hb2 hb3
  go_wp2_with fail
  with_reducible refine (HS.out w3).mono ?_
  rintro e w4 ⟨rfl, hb4⟩
  obtain ⟨w5, HW5, hy5, hb5⟩ := ry_box a w4
  have hB5 := hB3.trans ((hb4.trans (hb5.mono hb4.size)).mono hB3.size)
  obtain ⟨P, hP⟩ : ∃ G, w4.heap.size = G := ⟨_, rfl⟩
  rw [hP] at hy5
  rw [hwa]
  clear hb4 hb5 hB3
  go_wp2_with fail
  rw [HW5.out]
  with_reducible refine (HQ.out w5).mono ?_
  rintro e w6 ⟨rfl, hb6⟩
  obtain ⟨w7, HW7, hz7, hb7⟩ := ry_box a w6
  have hb67 := hb6.trans (hb7.mono hb6.size)
  have hy7 := hy5.below hb67
  have hB7 := hB5.trans (hb67.mono hB5.size)
  obtain ⟨Q, hQ⟩ : ∃ G, w6.heap.size = G := ⟨_, rfl⟩
  rw [hQ] at hz7
  rw [hwa]
  clear hb6 hb7 hb67 hB5 hy5 hP
  go_wp2_with fail
  rw [HW7.out]
  with_reducible refine (HT.out w7).mono ?_
  rintro e w8 ⟨rfl, hb8⟩
  obtain ⟨w9, HW9, hd9, hb9⟩ := ry_box d w8
  have hb89 := hb8.trans (hb9.mono hb8.size)
  have hy9 := hy7.below hb89
  have hz9 := hz7.below hb89
  have hB9 := hB7.trans (hb89.mono hB7.size)
  have hx9 := HX.out.below hB9
  obtain ⟨R, hR'⟩ : ∃ G, w8.heap.size = G := ⟨_, rfl⟩
  rw [hR'] at hd9
  rw [hwd]
  obtain ⟨x0, x1, x2⟩ : _ ∧ _ ∧ _ := ⟨hx9.c0, hx9.c1, hx9.c2⟩
  have HB9 := Lib.hid (HB1.out.trans (hB9.mono HB1.out.size))
  clear hb8 hb9 hb89 hB7 hy7 hz7 hB9 hQ
  go_upto_region 7 with fail
  rw [HW9.out]
  go_wp2_with fail
  with_reducible refine (HR.out w9).mono ?_
  rintro e w10 ⟨rfl, hb10⟩
  have hxA := hx9.below hb10
  have hyA := hy9.below hb10
  have hzA := hz9.below hb10
  have hdA := hd9.below hb10
  clear x0 x1 x2 hx9 hy9 hz9 hd9 hR'
  obtain ⟨x0, x1, x2⟩ : _ ∧ _ ∧ _ := ⟨hxA.c0, hxA.c1, hxA.c2⟩
  obtain ⟨p0, p1, p2⟩ : _ ∧ _ ∧ _ := ⟨hyA.c0, hyA.c1, hyA.c2⟩
  obtain ⟨q0, q1, q2⟩ : _ ∧ _ ∧ _ := ⟨hzA.c0, hzA.c1, hzA.c2⟩
  obtain ⟨r0, r1, r2⟩ : _ ∧ _ ∧ _ := ⟨hdA.c0, hdA.c1, hdA.c2⟩
  have HB10 := Lib.hid (HB9.out.trans (hb10.mono HB9.out.size))
  clear hxA hyA hzA hdA hb10
  rcases hway with h0 | ⟨h0, h1⟩ | ⟨h0, h1, rfl, rfl⟩
  all_goals
    go_wp2
    go_ret
    exact ⟨rfl, HB10.out⟩
end Go.Proofs.Ytoehjijnkbmgmaa.LawE
