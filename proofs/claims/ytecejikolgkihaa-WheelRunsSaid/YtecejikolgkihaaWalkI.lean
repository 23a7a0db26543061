/- What the program's calls leave, told by the document's one list. -/
import Derived.Test.YtecejikolgkihaaWalkH
set_option linter.unusedVariables false
namespace Go.Proofs.Ytecejikolgkihaa.WalkI
open Go.RowKit Go.Proofs.Ytecejikolgkihaa.Kit Go.Proofs.Ytecejikolgkihaa.Blocks Go.Proofs.Ytecejikolgkihaa.Whl Go.Proofs.Ytecejikolgkihaa.Tms Go.Proofs.Ytecejikolgkihaa.WAt Go.Proofs.Ytecejikolgkihaa.WalkB Go.Proofs.Ytecejikolgkihaa.WalkE Go.Proofs.Ytecejikolgkihaa.WalkF Go.Proofs.Ytecejikolgkihaa.WalkG Go.Proofs.Ytecejikolgkihaa.WalkH

/-- A wheel whose timers are this list. -/
structure Wl (B : Nat) (w : World) (x : Fx) (vs : Nat → Value) (now : Nat) (D : List Tm) : Prop where
  at_ : WAt B w x vs now (lsts now D)
  ok : Ok now D
/-- What a call leaves. -/
def LeftD (B : Nat) (w : World) (x : Fx) (vs : Nat → Value) (now' : Nat) (D' : List Tm) (w' : World) : Prop := LeftW B w x vs now' (lsts now' D') w' ∧ Ok now' D'

theorem lsts_le (now : Nat) (D : List Tm) (k : Nat) : (lsts now D k).length ≤ D.length := List.length_filter_le _ _
theorem now_nil (w : World) : Calls Try.prog 18 #[.pointer none] w fun e w' => e = .returned (.int .u64 0) ∧ Below w.heap.size w w' := by
  go_enter Try.func18, Try.ntmps18
  go_wp2
  go_ret
  exact ⟨rfl, Below.refl _ _⟩
theorem set_nil (id dl : Int) (w : World) : Calls Try.prog 11 #[.pointer none, .int .i64 id, .int .i64 dl] w fun e w' => e = .returned (.int .i64 1) ∧ Below w.heap.size w w' := by
  go_enter Try.func11, Try.ntmps11
  go_wp2
  go_ret
  exact ⟨rfl, Below.refl _ _⟩
section
variable {B : Nat} {w : World} {x : Fx} {vs : Nat → Value} {now : Nat} {D : List Tm}
theorem Wl.below {w' : World} (h : Wl B w x vs now D) (k : Below w.heap.size w w') : Wl B w' x vs now D := ⟨h.at_.below k, h.ok⟩
theorem Wl.keep {w' : World} (h : Wl B w x vs now D) {S : Nat → Prop} (k : Only S w w') (hs : ∀ q, Foot x vs q → ¬ S q) : Wl B w' x vs now D := ⟨h.at_.keep k hs, h.ok⟩
theorem Wl.lower (h : Wl B w x vs now D) {B' : Nat} (hb : B' ≤ B) : Wl B' w x vs now D := ⟨h.at_.lower hb, h.ok⟩
theorem now_any (h : Wl B w x vs now D) : Calls Try.prog 18 #[.pointer (some ⟨x.p, 0, none⟩)] w fun e w' => e = .returned (.int .u64 (now : Int)) ∧ Below w.heap.size w w' := by
  have c0 := h.at_.c0
  have hl := h.at_.plt
  go_enter Try.func18, Try.ntmps18
  go_wp2
  go_ret
  exact ⟨rfl, Below.refl _ _⟩
theorem len_D (h : Wl B w x vs now D) : Calls Try.prog 19 #[.pointer (some ⟨x.p, 0, none⟩)] w fun e w' => e = .returned (.int .i64 (D.length : Int)) ∧ Below w.heap.size w w' := by
  have := WalkD.len_any h.at_ (fun k _ => by have := lsts_le now D k; have := h.ok.few; omega)
  rwa [tot_all] at this
theorem due_D (h : Wl B w x vs now D) (hn : now < 4611686018427387904) : Calls Try.prog 20 #[.pointer (some ⟨x.p, 0, none⟩)] w fun e w' => e = .returned (.int .u64 (next now D : Int)) ∧ Below w.heap.size w w' := by
  refine (due_any h.at_ fun k _ t ht => ?_).mono ?_
  · have hm := (mem_lsts.1 ht).1
    exact ⟨h.ok.dues t hm, by have := h.ok.tops t hm; omega⟩
  · rintro e w' ⟨⟨z, rfl, hz⟩, hb⟩
    refine ⟨?_, hb⟩
    rcases hz with ⟨k, hk, h1, h2, rfl⟩ | ⟨h1, rfl⟩
    · obtain ⟨hne, hs⟩ := due_first h.ok.dues h1 h2
      rw [next, if_neg hne, hs]
    · rw [next, if_pos (due_none h1)]
theorem stop_D (h : Wl B w x vs now D) (id : Int) : Calls Try.prog 13 #[.pointer (some ⟨x.p, 0, none⟩), .int .i64 id] w fun e w' => e = .returned (.bool (isIn D id)) ∧ LeftD B w x vs now (del D id) w' := by
  refine (stop_any h.at_ id).mono ?_
  rintro e w' (⟨rfl, hno, hb⟩ | ⟨k, i, t, rfl, h1, h2, hl⟩)
  · have hf := isIn_false hno
    refine ⟨by rw [hf], ?_, h.ok.del id⟩
    rw [del_none hf]
    exact LeftW.of_below h.at_ hb
  · subst h2
    refine ⟨by rw [isIn_true h1], ?_, h.ok.del _⟩
    rw [stop_lists h.ok.ids h1] at hl
    exact hl
/-- What Tick leaves. -/
def TickD (B : Nat) (w : World) (x : Fx) (vs : Nat → Value) (now : Nat) (D : List Tm) (e : Ending) (w' : World) : Prop :=
  ∃ v vs', e = .returned v ∧ w'.ownsRow w.heap.size 3 1 v (dueD now D).length (ivals (dueD now D)) ∧ Wl B w' x vs' (now + 1) (left now D) ∧ Only (Foot x vs) w w' ∧ (∀ g, Foot x vs' g → Foot x vs g ∨ w.heap.size ≤ g) ∧
    ∀ g, v.ownBlock = some g → ¬ Foot x vs' g
theorem TickD.left {e : Ending} {w' : World} (h : TickD B w x vs now D e w') : ∃ v, e = .returned v ∧ w'.ownsRow w.heap.size 3 1 v (dueD now D).length (ivals (dueD now D)) ∧ LeftD B w x vs (now + 1) (left now D) w' := by
  obtain ⟨v, vs', e, h1, h2, h3, h4, _⟩ := h
  exact ⟨v, e, h1, ⟨vs', h2.at_, h3, h4⟩, h2.ok⟩
theorem tick_D (h : Wl B w x vs now D) (hn : now < 4611686018427387904) : Calls Try.prog 16 #[.pointer (some ⟨x.p, 0, none⟩)] w (TickD B w x vs now D) := by
  refine (tick_any h.at_ (by omega) (fun k _ => by have := lsts_le now D k; have := h.ok.few; omega) (fun t ht => by have := h.ok.tops t (mem_lsts.1 ht).1; omega)).mono ?_
  rintro e w' ⟨v, vs', rfl, hown, hl, ho, hf, hoff⟩
  have e1 : duek (now + 1) (lsts now D (plc now (now + 1))) (lsts now D (plc now (now + 1))).length = dueD now D := by
    unfold duek dueD
    rw [List.take_length, tick_due]
  have e2 : leftk (now + 1) (lsts now D (plc now (now + 1))) (lsts now D (plc now (now + 1))).length = (lsts now D (plc now (now + 1))).filter fun t => t.2 != now + 1 := by
    unfold leftk
    rw [List.take_length]
  rw [e1] at hown
  rw [e2, tick_all h.ok.dues] at hl
  exact ⟨v, vs', rfl, hown, ⟨hl, h.ok.left⟩, ho, hf, hoff⟩
set_option maxRecDepth 100000 in
set_option maxHeartbeats 2000000 in
theorem set_bad (h : Wl B w x vs now D) (id dl : Int) (hd : dl < 1 ∨ 1048576 < dl) : Calls Try.prog 11 #[.pointer (some ⟨x.p, 0, none⟩), .int .i64 id, .int .i64 dl] w fun e w' => e = .returned (.int .i64 1) ∧ Below w.heap.size w w' := by
  rcases hd with hd | hd
  · go_enter Try.func11, Try.ntmps11
    go_wp2
    go_ret
    exact ⟨rfl, Below.refl _ _⟩
  · have h1 : ¬ dl < 1 := by omega
    go_enter Try.func11, Try.ntmps11
    go_wp2
    go_ret
    exact ⟨rfl, Below.refl _ _⟩
set_option maxRecDepth 100000 in
set_option maxHeartbeats 2000000 in
theorem set_good (h : Wl B w x vs now D) (hn : now < 4611686018427387904) (id : Int) (n : Nat) (h0 : 1 ≤ n) (h1 : n ≤ 1048576) :
    Calls Try.prog 11 #[.pointer (some ⟨x.p, 0, none⟩), .int .i64 id, .int .i64 (n : Int)] w fun e w' => e = .returned (.int .i64 (setc now D id n)) ∧ LeftD B w x vs now (setd now D id n) w' := by
  have hst := stop_D h id
  have HB := Lib.hid h
  have g1 : ¬ (n : Int) < 1 := by omega
  have g2 : ¬ (1048576 : Int) < (n : Int) := by omega
  obtain ⟨q, hq⟩ : ∃ q, isIn D id = q := ⟨_, rfl⟩
  rw [hq] at hst
  have HS := Lib.hid hst
  have HQ := Lib.hid hq
  clear hst hq h
  go_enter Try.func11, Try.ntmps11
  go_wp2_with fail
  with_reducible refine HS.out.mono ?_
  rintro e w1 ⟨rfl, ⟨vs1, hw1, ho1, hf1⟩, hok1⟩
  have hw1' : Wl B w1 x vs1 now (del D id) := ⟨hw1, hok1⟩
  have hlen := len_D hw1'
  obtain ⟨m, hm⟩ : ∃ m, (del D id).length = m := ⟨_, rfl⟩
  rw [hm] at hlen
  have HW := Lib.hid hw1'
  have HL := Lib.hid hlen
  have HM := Lib.hid hm
  have HO := Lib.hid ho1
  have HF := Lib.hid hf1
  have c0 := hw1.c0
  have hpl := hw1.plt
  have hwr : IntKind.u64.wrap ((now : Int) + (n : Int)) = ((now + n : Nat) : Int) := by rw [show (now : Int) + (n : Int) = ((now + n : Nat) : Int) by omega]; exact IntWalk.u64_in _ (by omega)
  obtain ⟨T, hT⟩ : ∃ T, now + n = T := ⟨_, rfl⟩
  rw [hT] at hwr
  have hcv : IntKind.u64.wrap (n : Int) = (n : Int) := IntWalk.u64_in _ (by omega)
  have hlay : ∀ w2, Below w1.heap.size w1 w2 → Calls Try.prog 23 #[.pointer (some ⟨x.p, 0, none⟩), .agg #[.int .i64 id, .int .u64 (T : Int)]] w2 fun e w' => (∃ v, e = .returned v) ∧ LeftW B w2 x vs1 now (lsts now (del D id ++ [(id, T)])) w' := fun w2 hb => by
    have := lay_any (hw1.below hb) (by omega) (id, T) (by omega) (by have := lsts_le now (del D id) (plc now T); have := hok1.few; show ((lsts now (del D id) (plc now T)).length + 1) * 16 ≤ _; omega)
    rw [← lsts_snoc] at this
    exact this
  have HLay := Lib.hid hlay
  have HT := Lib.hid hT
  clear hw1 hok1 hw1' hlen hm ho1 hf1 hlay hT
  have hend : ∀ w2 w', Below w1.heap.size w1 w2 → LeftW B w2 x vs1 now (lsts now (del D id ++ [(id, T)])) w' → setc now D id n = 0 → LeftD B w x vs now (setd now D id n) w' := fun w2 w' hb hl hc => by
    have hok := HB.out.ok.set id n
    refine ⟨?_, hok⟩
    unfold setd
    rw [if_pos hc, Int.toNat_natCast, HT.out]
    exact LeftW.then HO.out HF.out (LeftW.afterBelow hb hl)
  have HEnd := Lib.hid hend
  clear hend
  cases q with
  | true =>
    have hc : setc now D id n = 0 := by
      unfold setc
      rw [if_neg (by omega), if_neg (by rw [HQ.out]; simp)]
    have HC := Lib.hid hc
    clear hc
    go_wp2_with fail
    with_reducible refine (HLay.out _ (Below.refl _ _)).mono ?_
    rintro e w3 ⟨⟨v, rfl⟩, hl⟩
    have HLl := Lib.hid hl
    clear hl
    go_wp2
    go_ret
    exact ⟨by rw [HC.out]; rfl, HEnd.out _ _ (Below.refl _ _) HLl.out HC.out⟩
  | false =>
    have hmD : m = D.length := by rw [← HM.out, del_none HQ.out]
    have HMD := Lib.hid hmD
    clear hmD
    go_wp2_with fail
    with_reducible refine HL.out.mono ?_
    rintro e w2 ⟨rfl, hb2⟩
    by_cases hfull : 64 ≤ m
    · have hc : setc now D id n = 11 := by
        unfold setc
        rw [if_neg (by omega), if_pos ⟨HQ.out, by rw [← HMD.out]; exact hfull⟩]
      have hfi : (64 : Int) ≤ (m : Int) := by omega
      have HC := Lib.hid hc
      have HB2 := Lib.hid hb2
      clear hc hb2
      go_wp2
      go_ret
      refine ⟨by rw [HC.out]; rfl, ?_⟩
      have e1 : setd now D id n = D := by unfold setd; rw [if_neg (by rw [HC.out]; decide)]
      rw [e1]
      refine ⟨?_, HB.out.ok⟩
      have hd : del D id = D := del_none HQ.out
      have hwf := (HW.out.below HB2.out).at_
      rw [hd] at hwf
      exact LeftW.then HO.out HF.out (LeftW.of_below (by have := HW.out.at_; rw [hd] at this; exact this) HB2.out)
    · have hc : setc now D id n = 0 := by
        unfold setc
        rw [if_neg (by omega), if_neg (by rw [← HMD.out]; omega)]
      have hfi : ¬ (64 : Int) ≤ (m : Int) := by omega
      have c2 : w2.cell? ⟨x.p, 0, none⟩ = some (.int .u64 (now : Int)) := (hb2.cell (p := ⟨x.p, 0, none⟩) hpl).trans c0
      have hpl2 : x.p < w2.heap.size := Nat.lt_of_lt_of_le hpl hb2.size
      have HC := Lib.hid hc
      have HB2 := Lib.hid hb2
      clear hc hb2
      go_wp2_with fail
      with_reducible refine (HLay.out _ HB2.out).mono ?_
      rintro e w3 ⟨⟨v, rfl⟩, hl⟩
      have HLl := Lib.hid hl
      clear hl
      go_wp2
      go_ret
      exact ⟨by rw [HC.out]; rfl, HEnd.out _ _ HB2.out HLl.out HC.out⟩
/-- Whatever is set. -/
theorem set_D (h : Wl B w x vs now D) (hn : now < 4611686018427387904) (id dl : Int) :
    Calls Try.prog 11 #[.pointer (some ⟨x.p, 0, none⟩), .int .i64 id, .int .i64 dl] w fun e w' => e = .returned (.int .i64 (setc now D id dl)) ∧ LeftD B w x vs now (setd now D id dl) w' := by
  by_cases hd : dl < 1 ∨ 1048576 < dl
  · have hc : setc now D id dl = 1 := by unfold setc; rw [if_pos hd]
    have he : setd now D id dl = D := by unfold setd; rw [if_neg (by rw [hc]; decide)]
    refine (set_bad h id dl hd).mono ?_
    rintro e w' ⟨rfl, hb⟩
    rw [hc, he]
    exact ⟨rfl, LeftW.of_below h.at_ hb, h.ok⟩
  · obtain ⟨n, rfl⟩ := Int.eq_ofNat_of_zero_le (show 0 ≤ dl by omega)
    exact set_good h hn id n (by omega) (by omega)
end
end Go.Proofs.Ytecejikolgkihaa.WalkI
