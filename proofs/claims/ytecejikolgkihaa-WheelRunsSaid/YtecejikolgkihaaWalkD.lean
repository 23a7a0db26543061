/- What Len leaves, walked: a range over the lists. -/
import Derived.Test.YtecejikolgkihaaSeq
import Derived.Shelf.RegionOpen
set_option linter.unusedVariables false
namespace Go.Proofs.Ytecejikolgkihaa.WalkD
open Go.RowKit Go.Shelf Go.Proofs.Ytecejikolgkihaa.Kit Go.Proofs.Ytecejikolgkihaa.Blocks Go.Proofs.Ytecejikolgkihaa.Whl Go.Proofs.Ytecejikolgkihaa.Tms Go.Proofs.Ytecejikolgkihaa.WAt Go.Proofs.Ytecejikolgkihaa.WalkA Go.Proofs.Ytecejikolgkihaa.WalkB Go.Proofs.Ytecejikolgkihaa.Seq
attribute [local go_sem] Oper.semAt_some

/-- How many lie in these lists. -/
def many (f : Nat → List Tm) (ks : List Al) : Nat := (ks.map fun k => (f k.1).length).sum
theorem many_snoc (f : Nat → List Tm) (ks : List Al) (k : Al) : many f (ks ++ [k]) = many f ks + (f k.1).length := by simp [many]
theorem many_take (f : Nat → List Tm) (k : Nat) (h : k ≤ 449) : many f (alls.take k) = tot f k := by
  induction k with
  | zero => simp [many, tot]
  | succ k ih => rw [alls_take k (by omega), many_snoc, ih (by omega), tot]
theorem many_all (f : Nat → List Tm) : many f alls = tot f 449 := by
  rw [← many_take f 449 (Nat.le_refl _), List.take_of_length_le (by rw [alls_length]; exact Nat.le_refl _)]
theorem len_nil (w : World) : Calls Try.prog 19 #[.pointer none] w fun e w' => e = .returned (.int .i64 0) ∧ Below w.heap.size w w' := by
  go_enter Try.func19, Try.ntmps19
  go_wp2
  go_ret
  exact ⟨rfl, Below.refl _ _⟩
theorem many_le {f : Nat → List Tm} (hfew : ∀ k, k < 449 → (f k).length ≤ 1099511627776) (ks : List Al) : many f ks ≤ ks.length * 1099511627776 := by
  induction ks with
  | nil => simp [many]
  | cons k ks ih =>
    have := hfew k.1 k.2
    have e : many f (k :: ks) = (f k.1).length + many f ks := by simp [many]
    rw [e, List.length_cons]
    omega
section
variable {B : Nat} {w : World} {x : Fx} {vs : Nat → Value} {now : Nat} {f : Nat → List Tm}
set_option maxRecDepth 100000 in
set_option maxHeartbeats 2000000 in
theorem len_any (h : WAt B w x vs now f) (hfew : ∀ k, k < 449 → (f k).length ≤ 1099511627776) : Calls Try.prog 19 #[.pointer (some ⟨x.p, 0, none⟩)] w fun e w' => e = .returned (.int .i64 (tot f 449 : Int)) ∧ Below w.heap.size w w' := by
  have H := Lib.hid h
  have hfoot : ∀ g, Foot x vs g → g < w.heap.size := fun g hg => (h.foot_lt hg).2
  clear h
  refine (callsIn_wide (n := 6)).1 ?_
  refine callsIn_of_wp_marks Try.func19 rfl trivial ?_ rfl
  simp only [Try.ntmps19, List.size_toArray, List.length_cons, List.length_nil, Nat.reduceAdd, Nat.reduceSub, Array.replicate_succ, Array.replicate_zero, List.push_toArray, List.append_toArray, List.nil_append, List.cons_append]
  gi_wp2_with (refine ⟨trivial, ?_⟩; gi_at_call 24; refine (lists_in Fence.wide _ trivial rfl _ _).mono ?_; rintro e w' ⟨rfl, rfl⟩)
  obtain ⟨W0, hW0⟩ : ∃ W0, (w.alloc (.cells #[.int .i64 0] 3)).alloc (.cells #[.pointer (some ⟨x.p, 0, none⟩)] 24) = W0 := ⟨_, rfl⟩
  have hsz : W0.heap.size = w.heap.size + 1 + 1 := by rw [← hW0]; simp
  have hB0 : Below w.heap.size w W0 := by rw [← hW0]; exact ((Below.refl _ w).alloc (Nat.le_refl _) _).alloc (by simp) _
  have bN : Boxed W0 w.heap.size 3 (.int .i64 0) := by rw [← hW0]; exact (Boxed.new w _ _).alloc _
  have bS : Boxed W0 (w.heap.size + 1) 24 (.pointer (some ⟨x.p, 0, none⟩)) := by
    rw [← hW0]
    have := Boxed.new (w.alloc (.cells #[.int .i64 0] 3)) 24 (.pointer (some ⟨x.p, 0, none⟩))
    rwa [World.size_alloc] at this
  have h0 := H.out.below hB0
  rw [hW0]
  have hft : ∀ g, Foot x vs g → g < W0.heap.size := fun g hg => by have := hfoot g hg; omega
  clear hW0
  refine wpIn_rangeFunc_ownF rfl (by decide) (gf := 31) (lb := #[.pointer (some ⟨w.heap.size + 1, 0, none⟩)]) rfl trivial (enters_of Try.func31 (by kernel_rfl) rfl)
    (lists_stops Fence.wide (6 - 1) trivial rfl (by decide) (w.heap.size + 1) w.heap.size W0 (by omega) (by omega) bS.cell h0 hfoot) Kq.trans (Kq.b (by omega)) (Below.refl _ _) (fun _ => rfl)
    (fun pre W => (Boxed W w.heap.size 3 (.int .i64 (many f pre : Int)) ∧ Boxed W (w.heap.size + 1) 24 (.pointer (some ⟨x.p, 0, none⟩))) ∧ Below w.heap.size w W)
    (fun _ _ _ => False)
    (OwnFrom.and (Own.from (fun s X Y row hs hg hr => ⟨boxed_own _ _ (fun pre : List Al => .int .i64 (many f pre : Int)) s X Y row hs.1 hg hr, boxed_own _ _ (fun _ : Unit => _) () X Y row hs.2 hg hr⟩) _) (ownFrom_below (Nat.le_refl _) (by omega)))
    (fun _ _ _ _ _ hs _ _ => hs)
    ⟨⟨bN, bS⟩, hB0⟩
    (fun k => { tmps := #[.pointer (some ⟨x.p, 0, none⟩), undef, .int .i64 0, .pointer (some ⟨w.heap.size, 0, none⟩), .pointer (some (spot x k.1)), .pointer (some ⟨x.p, 0, none⟩), .bool false, .pointer (some ⟨x.p, 0, none⟩),
      .func (.func 31) #[] #[.pointer (some ⟨w.heap.size + 1, 0, none⟩)], .pointer (some (spot x k.1)), undef, undef, undef, undef, undef, undef, undef], defers := [] })
    ?assign ?body ?done ?stop
  case assign =>
    intro l k W K hK
    simp only [encs]
    gi_wp2
    exact hK
  case body =>
    rintro l pre k W ⟨⟨b1, b2⟩, hB⟩ hlen
    have hw := H.out.below hB
    obtain ⟨A, c, hv, hc1, hc2, _⟩ := hw.form k.2
    have hcell := hw.cell k.2
    rw [hv] at hcell
    obtain ⟨sb, so, hsp⟩ := spot_form x k.1
    rw [hsp] at hcell ⊢
    have c3 := b1.cell
    have f3 := b1.frozen
    have hm := many_le hfew pre
    have hf1 := hfew k.1 k.2
    have HM := Lib.hid (many_snoc f pre k)
    obtain ⟨m, hm'⟩ : ∃ m, many f pre = m := ⟨_, rfl⟩
    obtain ⟨n, hn'⟩ : ∃ n, (f k.1).length = n := ⟨_, rfl⟩
    rw [hm'] at c3 hm
    rw [hn'] at hcell hf1
    obtain ⟨q, hq⟩ : ∃ q, m + n = q := ⟨_, rfl⟩
    have hw64 : IntKind.i64.wrap ((m : Int) + (n : Int)) = (q : Int) := by rw [IntKind.wrap_i64]; omega
    have HQ := Lib.hid hq
    have HM' := Lib.hid hm'
    have HN' := Lib.hid hn'
    have B1 := Lib.hid b1
    have B2 := Lib.hid b2
    have HBq := Lib.hid hB
    clear b1 b2 hB hm' hn' hw hv hq
    gi_wp2
    gi_region
    all_goals gi_wp2
    all_goals
      have n1 : Boxed (W.setCell ⟨w.heap.size, 0, none⟩ (.int .i64 (q : Int))) w.heap.size 3 (.int .i64 (many f (pre ++ [k]) : Int)) := by
        rw [HM.out, HM'.out, HN'.out, HQ.out]
        show _ = _
        rw [set_at (show W.heap[w.heap.size]? = _ from B1.out)]
        rfl
      have n2 := Boxed.other B2.out (show w.heap.size + 1 ≠ w.heap.size by omega) (.int .i64 (q : Int))
      exact ⟨(KeepsOthers.setCell W _ _).trans (KeepsOthers.drew _), ⟨((Below.refl _ W).setCell (p := ⟨w.heap.size, 0, none⟩) (Nat.le_refl _) _).drew, fun c hc => (World.cell?_setCell_other W ⟨w.heap.size, 0, none⟩ ⟨w.heap.size + 1, 0, none⟩ _ (by simp)).trans hc⟩,
        ⟨n1, n2⟩, (HBq.out.setCell (p := ⟨w.heap.size, 0, none⟩) (Nat.le_refl _) _).drew⟩
  case done =>
    rintro D ys W hD rfl ⟨⟨b1, b2⟩, hB⟩ hK
    have c3 := b1.cell
    gi_wp2
    refine ⟨by simp, .inl ⟨_, _, rfl, run_takeDeferred hK, ?_⟩⟩
    exact ⟨_, results_tmp rfl _ _ _, by rw [many_all]; rfl, hB.trans (belowK_b (w := w) (Nat.le_refl _) W D _ _ (by omega) hK rfl rfl)⟩
  case stop =>
    rintro D c pre W _ _ h _
    exact h.elim
end
end Go.Proofs.Ytecejikolgkihaa.WalkD
