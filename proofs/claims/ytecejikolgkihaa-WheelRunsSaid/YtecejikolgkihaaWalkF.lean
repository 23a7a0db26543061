/- What Stop leaves, walked: a range over the lists whose body may write. -/
import Derived.Test.YtecejikolgkihaaWalkE
set_option linter.unusedVariables false
namespace Go.Proofs.Ytecejikolgkihaa.WalkF
open Go.RowKit Go.Shelf Go.Proofs.Ytecejikolgkihaa.Kit Go.Proofs.Ytecejikolgkihaa.Blocks Go.Proofs.Ytecejikolgkihaa.Whl Go.Proofs.Ytecejikolgkihaa.Tms Go.Proofs.Ytecejikolgkihaa.WAt Go.Proofs.Ytecejikolgkihaa.WalkA Go.Proofs.Ytecejikolgkihaa.WalkB Go.Proofs.Ytecejikolgkihaa.WalkC Go.Proofs.Ytecejikolgkihaa.Seq Go.Proofs.Ytecejikolgkihaa.WalkD Go.Proofs.Ytecejikolgkihaa.WalkE
attribute [local go_sem] Oper.semAt_some

theorem cell_lt {W : World} {a : Addr} {v : Value} (h : W.cell? a = some v) : a.block < W.heap.size := by
  obtain ⟨o, ho, _⟩ := cells_of_cell h
  exact lt_at ho
theorem stop_nil (id : Int) (w : World) : Calls Try.prog 13 #[.pointer none, .int .i64 id] w fun e w' => e = .returned (.bool false) ∧ Below w.heap.size w w' := by
  go_enter Try.func13, Try.ntmps13
  go_wp2
  have hn := heap_alloc_new (w.alloc (.cells #[.int .i64 id] 3)) (.cells #[.bool false] 4)
  rw [World.size_alloc] at hn
  refine bodyPost_ret (results_cell (p := 4) (ty := 4) rfl _ _ _ _ rfl (load_bool _ _ false (by rw [cell_at hn]; rfl))) rfl ?_
  exact ⟨rfl, ((Below.refl _ _).alloc (Nat.le_refl _) _).alloc (by simp) _⟩

section
variable {B : Nat} {w : World} {x : Fx} {vs : Nat → Value} {now : Nat} {f : Nat → List Tm}
/-- What Stop leaves. -/
def StopIs (B : Nat) (w : World) (x : Fx) (vs : Nat → Value) (now : Nat) (f : Nat → List Tm) (id : Int) (e : Ending) (w' : World) : Prop :=
  (e = .returned (.bool false) ∧ (∀ k, k < 449 → ∀ t ∈ f k, t.1 ≠ id) ∧ Below w.heap.size w w') ∨
    ∃ (k i : Nat) (t : Tm), e = .returned (.bool true) ∧ (f k)[i]? = some t ∧ t.1 = id ∧ LeftW B w x vs now (put f k ((f k).eraseIdx i)) w'
theorem ownFrom_left {β : Type} {B₀ : Nat} (hB : w.heap.size ≤ B₀) (f' : Nat → List Tm) : OwnFrom B₀ (fun (_ : β) W => LeftW B w x vs now f' W) := fun s X Y row hs hg hr => by
  obtain ⟨vs', h', o', f1⟩ := hs
  exact ⟨vs', wat_grown h' hg fun r e => (hr r e).2, o'.grown hg (fun g e => .inl (Nat.le_trans hB (hr g e).1)), f1⟩
set_option maxRecDepth 100000 in
set_option maxHeartbeats 4000000 in
theorem stop_any (h : WAt B w x vs now f) (id : Int) : Calls Try.prog 13 #[.pointer (some ⟨x.p, 0, none⟩), .int .i64 id] w (StopIs B w x vs now f id) := by
  have H := Lib.hid h
  have hfoot : ∀ g, Foot x vs g → g < w.heap.size := fun g hg => (h.foot_lt hg).2
  clear h
  refine (callsIn_wide (n := 6)).1 ?_
  refine callsIn_of_wp_marks Try.func13 rfl trivial ?_ rfl
  simp only [Try.ntmps13, List.size_toArray, List.length_cons, List.length_nil, Nat.reduceAdd, Nat.reduceSub, Array.replicate_succ, Array.replicate_zero, List.push_toArray, List.append_toArray, List.nil_append, List.cons_append]
  gi_wp2_with (refine ⟨trivial, ?_⟩; gi_at_call 24; refine (lists_in Fence.wide _ trivial rfl _ _).mono ?_; rintro e w' ⟨rfl, rfl⟩)
  obtain ⟨W0, hW0⟩ : ∃ W0, ((w.alloc (.cells #[.int .i64 id] 3)).alloc (.cells #[.bool false] 4)).alloc (.cells #[.pointer (some ⟨x.p, 0, none⟩)] 24) = W0 := ⟨_, rfl⟩
  have hsz : W0.heap.size = w.heap.size + 1 + 1 + 1 := by rw [← hW0]; simp
  have hB0 : Below w.heap.size w W0 := by rw [← hW0]; exact (((Below.refl _ w).alloc (Nat.le_refl _) _).alloc (by simp) _).alloc (by simp; omega) _
  have bI : Boxed W0 w.heap.size 3 (.int .i64 id) := by rw [← hW0]; exact ((Boxed.new w _ _).alloc _).alloc _
  have bR : Boxed W0 (w.heap.size + 1) 4 (.bool false) := by
    rw [← hW0]
    have := (Boxed.new (w.alloc (.cells #[.int .i64 id] 3)) 4 (.bool false)).alloc (.cells #[.pointer (some ⟨x.p, 0, none⟩)] 24)
    rwa [World.size_alloc] at this
  have bS : Boxed W0 (w.heap.size + 1 + 1) 24 (.pointer (some ⟨x.p, 0, none⟩)) := by
    rw [← hW0]
    have := Boxed.new ((w.alloc (.cells #[.int .i64 id] 3)).alloc (.cells #[.bool false] 4)) 24 (.pointer (some ⟨x.p, 0, none⟩))
    rwa [World.size_alloc, World.size_alloc] at this
  have h0 := H.out.below hB0
  rw [hW0]
  clear hW0
  refine wpIn_rangeFunc_ownF rfl (by decide) (gf := 31) (lb := #[.pointer (some ⟨w.heap.size + 1 + 1, 0, none⟩)]) rfl trivial (enters_of Try.func31 (by kernel_rfl) rfl)
    (lists_stops Fence.wide (6 - 1) trivial rfl (by decide) (w.heap.size + 1 + 1) w.heap.size W0 (by omega) (by omega) bS.cell h0 hfoot) Kq.trans (Kq.b (by omega)) (Below.refl _ _) (fun _ => rfl)
    (fun pre W => (∀ a ∈ pre, ∀ t ∈ f a.1, t.1 ≠ id) ∧ Below W0.heap.size W0 W)
    (fun c pre W => c = .ret ∧ ∃ (k i : Nat) (t : Tm), (f k)[i]? = some t ∧ t.1 = id ∧ Boxed W (w.heap.size + 1) 4 (.bool true) ∧ LeftW B w x vs now (put f k ((f k).eraseIdx i)) W)
    (OwnFrom.and (ownFrom_pure _ _) (ownFrom_below (Nat.le_refl _) (Nat.le_refl _)))
    (fun c s X Y row hs hg hr => by
      obtain ⟨e0, k, i, t, e1, e2, e3, e4⟩ := hs
      exact ⟨e0, k, i, t, e1, e2, boxed_own _ _ (fun _ : Unit => _) () X Y row e3 hg (fun r e => (hr r e).2), ownFrom_left (β := Unit) (by omega) _ () X Y row e4 hg hr⟩)
    ⟨by simp, Below.refl _ _⟩
    (fun k => { tmps := #[.pointer (some ⟨x.p, 0, none⟩), .int .i64 id, undef, .pointer (some ⟨w.heap.size, 0, none⟩), .pointer (some ⟨w.heap.size + 1, 0, none⟩), .pointer (some (spot x k.1)), undef, .pointer (some ⟨x.p, 0, none⟩), .bool false, .pointer (some ⟨x.p, 0, none⟩),
      .func (.func 31) #[] #[.pointer (some ⟨w.heap.size + 1 + 1, 0, none⟩)], .pointer (some (spot x k.1)), undef, undef, undef, undef, undef, undef, undef, undef, undef, undef, undef, undef, undef, undef, undef, undef], defers := [] })
    ?assign ?body ?done ?stop
  case assign =>
    intro l k W K hK
    simp only [encs]
    gi_wp2
    exact hK
  case body =>
    rintro l pre k W ⟨hp, hB⟩ hlen
    have hwB : Below w.heap.size w W := hB0.trans (hB.mono hB0.size)
    have hw := H.out.below hwB
    obtain ⟨A, c, hv, hc1, hc2, hrt⟩ := hw.form k.2
    have hcell := hw.cell k.2
    rw [hv] at hcell
    obtain ⟨sb, so, hsp⟩ := spot_form x k.1
    have hslt : sb < W.heap.size := by have := hw.fix_lt (spot_fix x k.1); rw [hsp] at this; exact this
    rw [hsp] at hcell ⊢
    have g1 := (hB.block w.heap.size (by omega)).trans bI
    have g2 := (hB.block (w.heap.size + 1) (by omega)).trans bR
    have c1 : W.cell? ⟨w.heap.size, 0, none⟩ = some (.int .i64 id) := by rw [cell_at g1]; rfl
    have l1 := lt_at g1
    have l2 := lt_at g2
    obtain ⟨n, hn⟩ : ∃ n, (f k.1).length = n := ⟨_, rfl⟩
    rw [hn] at hcell hrt hc1 hv
    have hix := index_any (c := c) hrt (Nat.le_refl _) (by omega) c1 l1
    have HN := Lib.hid hn
    have HX := Lib.hid hix
    have HB := Lib.hid hB
    have HWB := Lib.hid hwB
    have HP := Lib.hid hp
    have G2 := Lib.hid g2
    have HW := Lib.hid hw
    have HV := Lib.hid hv
    have HSP := Lib.hid hsp
    clear hn hrt hB hp hw hv hwB g1 g2 hix hsp
    gi_wp2_with fail
    refine ⟨trivial, ?_⟩
    gi_at_call 25
    refine (CallsIn.inRound l (callsIn_wide.2 HX.out)).mono ?_
    rintro e w2 ⟨⟨rfl, hno⟩ | ⟨i, t, rfl, hi1, hi2⟩, hb2⟩
    · have HNo := Lib.hid hno
      have HB2 := Lib.hid hb2
      clear hno hb2
      gi_wp2
      have hbW : Below W0.heap.size W0 w2 := HB.out.trans (HB2.out.mono HB.out.size)
      refine ⟨keeps_below HB2.out, ⟨HB2.out.mono (by omega), fun c hc => (HB2.out.cell (p := ⟨w.heap.size + 1 + 1, 0, none⟩) (cell_lt hc)).trans hc⟩, fun a ha => ?_, hbW⟩
      rcases List.mem_append.1 ha with ha | ha
      · exact HP.out a ha
      · simp at ha; subst ha; exact HNo.out
    · have hin : i < n := by
        have := (List.getElem?_eq_some_iff.1 hi1).1
        rw [HN.out] at this
        exact this
      have hw2 := HW.out.below hb2
      have hcell2 : w2.cell? ⟨sb, so, none⟩ = some (.slice A n c) := (hb2.cell (p := ⟨sb, so, none⟩) hslt).trans hcell
      have hslt2 : sb < w2.heap.size := Nat.lt_of_lt_of_le hslt hb2.size
      obtain ⟨j, hj⟩ : ∃ j, j = i + 1 := ⟨_, rfl⟩
      have hji : (j : Int) = (i : Int) + 1 := by omega
      have hge : (0 : Int) ≤ (i : Int) := by omega
      have hown2 := hw2.own k.1 k.2
      rw [HV.out, HN.out] at hown2
      have hdel := delete_any hown2 HN.out hj hin
      rw [hji] at hdel
      obtain ⟨m, hm⟩ : ∃ m, ((f k.1).eraseIdx i).length = m := ⟨_, rfl⟩
      rw [hm] at hdel
      have HM := Lib.hid hm
      have HD := Lib.hid hdel
      have HI1 := Lib.hid hi1
      have HI2 := Lib.hid hi2
      have HW2 := Lib.hid hw2
      have HB2 := Lib.hid hb2
      have HJ := Lib.hid hj
      clear hdel hi1 hi2 hw2 hb2 hown2 hj hji hm
      gi_wp2_with fail
      refine ⟨trivial, ?_⟩
      gi_at_call 27
      with_reducible refine (CallsIn.inRound l (callsIn_wide.2 HD.out)).mono ?_
      rintro e w3 ⟨A', c', rfl, hown3, ho3, hat3⟩
      have hlt3 : sb < w3.heap.size := Nat.lt_of_lt_of_le hslt2 ho3.size
      rw [← HV.out] at ho3
      obtain ⟨hcell3, hfr3, hleft, ho5, hf5⟩ := HW2.out.rowed k.2 (l := (f k.1).eraseIdx i) ho3 hown3 HM.out.symm rfl (fun q hq => .inl (by rw [HV.out]; exact hat3 ▸ hq))
      rw [HSP.out] at hcell3 hfr3 hleft ho5
      rw [HV.out] at hcell3
      have hl1 : LeftW B w2 x vs now (put f k.1 ((f k.1).eraseIdx i)) (w3.setCell ⟨sb, so, none⟩ (.slice A' m c')) := ⟨_, hleft, ho5, hf5⟩
      have hb4 : Below w.heap.size w w2 := HWB.out.trans (HB2.out.mono HWB.out.size)
      have hg3 : w3.heap[w.heap.size + 1]? = some (.cells #[.bool false] 4 (0, 0)) := by
        refine ho3.heap ((HB2.out.block _ l2).trans G2.out) fun hq => ?_
        have := hfoot _ (.inr ⟨k.1, k.2, hq⟩)
        omega
      have hg5 : (w3.setCell ⟨sb, so, none⟩ (.slice A' m c')).heap[w.heap.size + 1]? = some (.cells #[.bool false] 4 (0, 0)) := by
        refine ho5.heap ((HB2.out.block _ l2).trans G2.out) fun hq => ?_
        have := hfoot _ hq
        omega
      have c5 : (w3.setCell ⟨sb, so, none⟩ (.slice A' m c')).cell? ⟨w.heap.size + 1, 0, none⟩ = some (.bool false) := by rw [cell_at hg5]; rfl
      have f5 := free_at hg3 0
      have l5 := lt_at hg3
      have HL1 := Lib.hid hl1
      have HG5 := Lib.hid hg5
      have HO5 := Lib.hid ho5
      have HB4 := Lib.hid hb4
      clear hl1 hg5 ho5 hb4 hleft hf5 hown3 ho3 hat3 hg3
      gi_wp2
      have hbx : Boxed ((w3.setCell ⟨sb, so, none⟩ (.slice A' m c')).setCell ⟨w.heap.size + 1, 0, none⟩ (.bool true)) (w.heap.size + 1) 4 (.bool true) := by
        show _ = _
        rw [set_at HG5.out]
        rfl
      exact ⟨(keeps_below HB2.out).trans ((keeps_only HW2.out HO5.out).trans (KeepsOthers.setCell _ _ _)), rfl, k.1, i, t, HI1.out, HI2.out, hbx,
        LeftW.boxed H.out HB4.out HL1.out (r := w.heap.size + 1) (by omega) (Nat.lt_of_lt_of_le l2 HB2.out.size) ((Only.refl (fun q => q = w.heap.size + 1) _).setCell (a := ⟨w.heap.size + 1, 0, none⟩) (.inr rfl) _)⟩
  case done =>
    rintro D ys W hD rfl ⟨hp, hB⟩ hK
    have hwB : Below w.heap.size w W := hB0.trans (hB.mono hB0.size)
    have g2 := (hB.block (w.heap.size + 1) (by omega)).trans bR
    have c2 : W.cell? ⟨w.heap.size + 1, 0, none⟩ = some (.bool false) := by rw [cell_at g2]; rfl
    have f2 := free_at g2 0
    have HWB := Lib.hid hwB
    have hall : ∀ k, k < 449 → ∀ t ∈ f k, t.1 ≠ id := fun k hk => hp ⟨k, hk⟩ (List.mem_of_getElem? (alls_get k hk))
    have HA := Lib.hid hall
    clear hwB g2 hp hall
    gi_wp2
    have hK' := (KeepsOthers.setCell W ⟨w.heap.size + 1, 0, none⟩ (.bool false)).same D _ hK rfl
    refine ⟨by simp, .inl ⟨_, _, rfl, run_takeDeferred hK', ?_⟩⟩
    have hc5 := cell_kept (World.cell?_setCell_same' W ⟨w.heap.size + 1, 0, none⟩ (.bool false) (by rw [c2]; rfl)) (grownBy_putObj' _ D (.deferred none)) (fun r e => by cases e; exact ⟨_, hK', rfl⟩)
    exact ⟨_, results_cell (p := 4) (ty := 4) rfl _ _ _ _ rfl (load_bool _ _ _ hc5), .inl ⟨rfl, HA.out, (HWB.out.setCell (p := ⟨w.heap.size + 1, 0, none⟩) (by simp) _).trans (belowK_b (w := w) (Nat.le_refl _) _ D _ _ (by omega) hK' rfl rfl)⟩⟩
  case stop =>
    rintro D c pre W hD ⟨m, hm, rfl⟩ ⟨rfl, k, i, t, e1, e2, e3, e4⟩ hK
    have HL := Lib.hid e4
    clear e4
    gi_wp2
    refine ⟨by simp, .inl ⟨_, _, rfl, run_takeDeferred hK, ?_⟩⟩
    have hc5 := cell_kept e3.cell (grownBy_putObj' _ D (.deferred none)) (fun r e => by cases e; exact ⟨_, hK, rfl⟩)
    refine ⟨_, results_cell (p := 4) (ty := 4) rfl _ _ _ _ rfl (load_bool _ _ _ hc5), .inr ⟨k, i, t, rfl, e1, e2, ?_⟩⟩
    exact ownFrom_left (B₀ := w.heap.size) (β := Unit) (Nat.le_refl _) _ () W _ (some D) HL.out (grownBy_putObj' W D _) (fun r e => by cases e; exact ⟨by omega, _, hK, rfl⟩)
end
end Go.Proofs.Ytecejikolgkihaa.WalkF
