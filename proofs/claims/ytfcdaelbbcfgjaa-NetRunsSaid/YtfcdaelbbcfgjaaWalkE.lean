/- What Take leaves, walked. No statement is proved here. -/
import Derived.Test.YtfcdaelbbcfgjaaWalkD
set_option linter.unusedVariables false
namespace Go.Proofs.Ytfcdaelbbcfgjaa.WalkE
open Go.RowKit Go.Proofs.Ytfcdaelbbcfgjaa.Kit Go.Proofs.Ytfcdaelbbcfgjaa.Blocks Go.Proofs.Ytfcdaelbbcfgjaa.Ltr Go.Proofs.Ytfcdaelbbcfgjaa.NAt Go.Proofs.Ytfcdaelbbcfgjaa.App Go.Proofs.Ytfcdaelbbcfgjaa.WalkA Go.Proofs.Ytfcdaelbbcfgjaa.WalkB Go.Proofs.Ytfcdaelbbcfgjaa.WalkC Go.Proofs.Ytfcdaelbbcfgjaa.WalkD

/-- Nothing is taken. -/
def Nothing (w : World) (e : Ending) (w' : World) : Prop := e = .returned (.tuple #[ltV zeroL, .bool false]) ∧ Below w.heap.size w w'
set_option maxRecDepth 100000 in
set_option maxHeartbeats 4000000 in
theorem take_nil (i : Int) (w : World) : Calls Try.prog 13 #[.pointer none, .int .i64 i] w (Nothing w) := by
  have hnew := heap_alloc_new w (.cells #[.int .i64 0, .int .i64 0, .int .i64 0, .int .u64 0, .int .u64 0, .int .u64 0, .int .u64 0, .bool false, .slice none 0 0, .string ⟨#[]⟩] 34)
  have HN := Lib.hid hnew
  have hbo : Below w.heap.size w (w.alloc (.cells #[.int .i64 0, .int .i64 0, .int .i64 0, .int .u64 0, .int .u64 0, .int .u64 0, .int .u64 0, .bool false, .slice none 0 0, .string ⟨#[]⟩] 34)) := (Below.refl _ _).alloc (Nat.le_refl _) _
  have HB := Lib.hid hbo
  clear hnew hbo
  go_enter Try.func13, Try.ntmps13
  go_wp2_with fail
  with_reducible refine (place_nil i _).mono ?_
  rintro e w1 ⟨rfl, hb1⟩
  have h1 := (hb1.block _ (lt_at HN.out)).trans HN.out
  obtain ⟨z0, z1, z2, z3, z4, z5, z6, z7, z8, z9, hlt⟩ := ten_at h1
  have g := free_at h1
  have g0 := g 0
  have g1 := g 1
  have g2 := g 2
  have g3 := g 3
  have g4 := g 4
  have g5 := g 5
  have g6 := g 6
  have g7 := g 7
  have g8 := g 8
  have g9 := g 9
  have HB1 := Lib.hid (HB.out.trans (hb1.mono HB.out.size))
  have H1 := Lib.hid h1
  clear hb1 h1 g
  go_wp2_with fail
  obtain ⟨hblk, o2⟩ := set10 H1.out rfl (.int .i64 0) (.int .i64 0) (.int .i64 0) (.int .u64 0) (.int .u64 0) (.int .u64 0) (.int .u64 0) (.bool false) (.slice none 0 0) (.string ⟨#[]⟩)
  refine bodyPost_ret (results_ct (p := 4) (u := 5) (ty := 34) rfl _ _ w.heap.size 34 _ (0, 0) _ rfl hblk Try.underlying34 rfl (by kernel_rfl)) rfl ?_
  exact ⟨rfl, HB1.out.trans (o2.below HB1.out.size fun k hk => by omega)⟩
section
variable {B : Nat} {E : Nat → Prop} {w : World} {p : Nat} {v : Value} {L : List Lt} {lost : Nat}
set_option maxRecDepth 100000 in
set_option maxHeartbeats 4000000 in
theorem take_none (h : NAt B 54 E w p v [] lost) (i : Int) : Calls Try.prog 13 #[.pointer (some ⟨p, 0, none⟩), .int .i64 i] w (Nothing w) := by
  have hnew := heap_alloc_new w (.cells #[.int .i64 0, .int .i64 0, .int .i64 0, .int .u64 0, .int .u64 0, .int .u64 0, .int .u64 0, .bool false, .slice none 0 0, .string ⟨#[]⟩] 34)
  have HN := Lib.hid hnew
  have hbo : Below w.heap.size w (w.alloc (.cells #[.int .i64 0, .int .i64 0, .int .i64 0, .int .u64 0, .int .u64 0, .int .u64 0, .int .u64 0, .bool false, .slice none 0 0, .string ⟨#[]⟩] 34)) := (Below.refl _ _).alloc (Nat.le_refl _) _
  have HP := Lib.hid (place_none (h.below hbo) i)
  have HB := Lib.hid hbo
  clear hnew hbo h
  go_enter Try.func13, Try.ntmps13
  go_wp2_with fail
  with_reducible refine HP.out.mono ?_
  rintro e w1 ⟨rfl, hb1⟩
  have h1 := (hb1.block _ (lt_at HN.out)).trans HN.out
  obtain ⟨z0, z1, z2, z3, z4, z5, z6, z7, z8, z9, hlt⟩ := ten_at h1
  have g := free_at h1
  have g0 := g 0
  have g1 := g 1
  have g2 := g 2
  have g3 := g 3
  have g4 := g 4
  have g5 := g 5
  have g6 := g 6
  have g7 := g 7
  have g8 := g 8
  have g9 := g 9
  have HB1 := Lib.hid (HB.out.trans (hb1.mono HB.out.size))
  have H1 := Lib.hid h1
  clear hb1 h1 g
  go_wp2_with fail
  obtain ⟨hblk, o2⟩ := set10 H1.out rfl (.int .i64 0) (.int .i64 0) (.int .i64 0) (.int .u64 0) (.int .u64 0) (.int .u64 0) (.int .u64 0) (.bool false) (.slice none 0 0) (.string ⟨#[]⟩)
  refine bodyPost_ret (results_ct (p := 4) (u := 5) (ty := 34) rfl _ _ w.heap.size 34 _ (0, 0) _ rfl hblk Try.underlying34 rfl (by kernel_rfl)) rfl ?_
  exact ⟨rfl, HB1.out.trans (o2.below HB1.out.size fun k hk => by omega)⟩
/-- A letter is taken. -/
def Taken (B : Nat) (E : Nat → Prop) (w : World) (p : Nat) (v : Value) (L : List Lt) (lost : Nat) (k : Nat) (e : Ending) (w' : World) : Prop :=
  ∃ x, L[k]? = some x ∧ e = .returned (.tuple #[ltV x, .bool true]) ∧ LeftN B 54 E E w p v (L.eraseIdx k) lost w'
set_option maxRecDepth 100000 in
set_option maxHeartbeats 8000000 in
theorem take_any (h : NAt B 54 E w p v L lost) (hn : 0 < L.length) (hfew : L.length ≤ 256) (i : Int) :
    Calls Try.prog 13 #[.pointer (some ⟨p, 0, none⟩), .int .i64 i] w (Taken B E w p v L lost (plc i L.length)) := by
  have hnew := heap_alloc_new w (.cells #[.int .i64 0, .int .i64 0, .int .i64 0, .int .u64 0, .int .u64 0, .int .u64 0, .int .u64 0, .bool false, .slice none 0 0, .string ⟨#[]⟩] 34)
  have HN := Lib.hid hnew
  have hbo : Below w.heap.size w (w.alloc (.cells #[.int .i64 0, .int .i64 0, .int .i64 0, .int .u64 0, .int .u64 0, .int .u64 0, .int .u64 0, .bool false, .slice none 0 0, .string ⟨#[]⟩] 34)) := (Below.refl _ _).alloc (Nat.le_refl _) _
  have hpl := place_any (h.below hbo) hn hfew i
  have hkl := plc_lt i hn
  obtain ⟨n, hln⟩ : ∃ n, L.length = n := ⟨_, rfl⟩
  rw [hln] at hpl hkl hn hfew
  rw [hln]
  obtain ⟨k, hk⟩ : ∃ k, plc i n = k := ⟨_, rfl⟩
  rw [hk] at hpl hkl ⊢
  have HP := Lib.hid hpl
  have HB := Lib.hid hbo
  have H := Lib.hid h
  have HLN := Lib.hid hln
  clear hnew hbo h hpl hk hln
  go_enter Try.func13, Try.ntmps13
  go_wp2_with fail
  with_reducible refine HP.out.mono ?_
  rintro e w1 ⟨rfl, hb1⟩
  have hbb := HB.out.trans (hb1.mono HB.out.size)
  have hw1 := H.out.below hbb
  have c0 := hw1.c0
  have hp1 := hw1.plt
  obtain ⟨A, c, hv, hnc, hcm, hr⟩ := hw1.form
  rw [HLN.out] at hv hnc hr
  rw [hv] at c0
  have hz1 := (hb1.block _ (lt_at HN.out)).trans HN.out
  obtain ⟨b, o, x, rfl, hbl, hx, hten⟩ := RL.at_ hr hkl
  have HZ1 := Lib.hid hz1
  have HX := Lib.hid hx
  have HV := Lib.hid hv
  have HBB := Lib.hid hbb
  have HW1 := Lib.hid hw1
  obtain ⟨d0, d1, d2, d3, d4, d5, d6, d7, d8, d9⟩ := hten
  obtain ⟨⟨kk, f, t, tm, ix, pv, cm, ok, d⟩, A2, n2, c2, es⟩ := x
  simp only at d0 d1 d2 d3 d4 d5 d6 d7 d8 d9
  have hkI : (k : Int) < (n : Int) := by omega
  have hk0 : (0 : Int) ≤ (k : Int) := by omega
  have hw : IntKind.i64.wrap ((k : Int) + 1) = ((k + 1 : Nat) : Int) := by rw [show (k : Int) + 1 = ((k + 1 : Nat) : Int) by omega]; exact IntWalk.i64_in _ ⟨by omega, by omega⟩
  clear hr hv hbb hw1 hb1 hz1 hx
  go_wp2_with fail
  have hnw := heap_alloc_new w1 (.cells #[.int .i64 kk, .int .i64 f, .int .i64 t, .int .u64 tm, .int .u64 ix, .int .u64 pv, .int .u64 cm, .bool ok, .slice A2 n2 c2, .string d] 34)
  have hb2 : Below w1.heap.size w1 (w1.alloc (.cells #[.int .i64 kk, .int .i64 f, .int .i64 t, .int .u64 tm, .int .u64 ix, .int .u64 pv, .int .u64 cm, .bool ok, .slice A2 n2 c2, .string d] 34)) := (Below.refl _ _).alloc (Nat.le_refl _) _
  have hw2 := HW1.out.below hb2
  obtain ⟨w2, hw2e⟩ : ∃ w2, w1.alloc (.cells #[.int .i64 kk, .int .i64 f, .int .i64 t, .int .u64 tm, .int .u64 ix, .int .u64 pv, .int .u64 cm, .bool ok, .slice A2 n2 c2, .string d] 34) = w2 := ⟨_, rfl⟩
  rw [hw2e] at hnw hb2 hw2 ⊢
  have hdel := delete_any hw2.own rfl (i := k) (j := k + 1) rfl (by rw [HLN.out]; exact hkl)
  rw [HV.out, show ((k + 1 : Nat) : Int) = (k : Int) + 1 by omega] at hdel
  have HDel := Lib.hid hdel
  have HNW := Lib.hid hnw
  have HB2 := Lib.hid hb2
  have HW2 := Lib.hid hw2
  clear hdel hnw hb2 hw2 hw2e
  with_reducible refine HDel.out.mono ?_
  rintro e w3 ⟨A3, c3, rfl, hown3, ho3, hat3⟩
  rw [← HV.out] at ho3 hat3
  have hbw : ∀ q, v.ownBlock = some q → q < w.heap.size := fun q hq => (H.out.own.lt q hq).2
  obtain ⟨q1, q2, q3, q4⟩ := HW2.out.rowed (L' := L.eraseIdx k) (fun g hg => hg) (fun g hg => .inl hg) ho3 hown3 rfl rfl (fun y hy => (HW2.out.fit y (List.mem_of_mem_eraseIdx hy)).keep ho3 fun g hg => (HW2.out.off g hg).2.1) (fun q hq => .inl (hat3 ▸ hq))
  rw [HV.out] at q1
  have hs1 := HBB.out.size
  have hs2 := HB2.out.size
  have hpw : p < w.heap.size := H.out.plt
  have hb3 := ho3.heap HNW.out fun e => by have := hbw _ e; omega
  have hz3 := ho3.heap ((HB2.out.block _ (lt_at HZ1.out)).trans HZ1.out) fun e => by have := hbw _ e; omega
  obtain ⟨y0, y1, y2, y3, y4, y5, y6, y7, y8, y9, hlty⟩ := ten_at hb3
  obtain ⟨z0, z1, z2, z3, z4, z5, z6, z7, z8, z9, hltz⟩ := ten_at hz3
  have hne1 : p ≠ w.heap.size := by omega
  have hne2 : p ≠ w1.heap.size := by omega
  have g := free_at hz3
  have g0 := g 0
  have g1 := g 1
  have g2 := g 2
  have g3 := g 3
  have g4 := g 4
  have g5 := g 5
  have g6 := g 6
  have g7 := g 7
  have g8 := g 8
  have g9 := g 9
  have HZ3 := Lib.hid hz3
  have HO3 := Lib.hid ho3
  have Q4 := Lib.hid q4
  clear hown3 ho3 hat3 q4 hb3 hz3 g hbw
  go_wp2_with fail
  have hset : Only (fun q => q = p) w3 (w3.setCell ⟨p, 0, none⟩ (.slice A3 (L.eraseIdx k).length c3)) := (Only.refl (fun q => q = p) w3).setCell (a := ⟨p, 0, none⟩) (.inr rfl) _
  obtain ⟨hblk, o2⟩ := set10 (hset.heap HZ3.out fun e => hne1 e.symm) rfl (.int .i64 kk) (.int .i64 f) (.int .i64 t) (.int .u64 tm) (.int .u64 ix) (.int .u64 pv) (.int .u64 cm) (.bool ok) (.slice A2 n2 c2) (.string d)
  refine bodyPost_ret (results_ct (p := 4) (u := 5) (ty := 34) rfl _ _ w.heap.size 34 _ (0, 0) _ rfl hblk Try.underlying34 rfl (by kernel_rfl)) rfl ?_
  refine ⟨_, HX.out, rfl, ?_⟩
  obtain ⟨v4, n4, o4, f4, e4, e5⟩ := Q4.out
  have hb := HBB.out.trans (HB2.out.mono hs1)
  have hlt := lt_at HNW.out
  exact ⟨v4, n4.keep o2 (fun g hg e => by
      rcases hg with rfl | hg
      · exact hne1 e
      · rcases f4 g hg with h1 | h1
        · have := (H.out.own.lt g h1).2; omega
        · omega) (fun g hg e => by have := (H.out.off g hg).2.2; omega), ((Only.of_below hb).trans o4).trans' o2 (fun q hq => .inr (by omega)),
    fun g hg => (f4 g hg).imp_right fun e => by omega, e4, fun g hg => (e5 g hg).imp_right fun e => by omega⟩
end
end Go.Proofs.Ytfcdaelbbcfgjaa.WalkE
