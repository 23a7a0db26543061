/- What Due leaves, walked: a range over the lists. -/
import Derived.Test.YtecejikolgkihaaWalkD
set_option linter.unusedVariables false
namespace Go.Proofs.Ytecejikolgkihaa.WalkE
open Go.RowKit Go.Shelf Go.Proofs.Ytecejikolgkihaa.Kit Go.Proofs.Ytecejikolgkihaa.Blocks Go.Proofs.Ytecejikolgkihaa.Whl Go.Proofs.Ytecejikolgkihaa.Tms Go.Proofs.Ytecejikolgkihaa.WAt Go.Proofs.Ytecejikolgkihaa.WalkA Go.Proofs.Ytecejikolgkihaa.WalkB Go.Proofs.Ytecejikolgkihaa.Seq Go.Proofs.Ytecejikolgkihaa.WalkD
attribute [local go_sem] Oper.semAt_some

/-- A result that lies in a block of its own. -/
theorem results_cell {P : Program} {fn : Func} {p : Tmp} {ty : TypeId} (h : fn.results = #[.cell p ty]) (tmps : Array Value) (w : World) (a : Addr) (v : Value)
    (hp : tmps.getD p undef = .pointer (some a)) (hv : (loadVar ty a).run P w = .ok v w) : (results fn tmps).run P w = .ok v w := by
  have hp' : tmps[p]?.getD undef = .pointer (some a) := by simpa using hp
  simp [results, h, hp', asAddr, hv]
theorem load_u64 (w : World) (a : Addr) (z : Int) (h : w.cell? a = some (.int .u64 z)) : (loadVar 27 a).run Try.prog w = .ok (.int .u64 z) w := by
  simp [loadVar, go_sem, h]
theorem load_bool (w : World) (a : Addr) (z : Bool) (h : w.cell? a = some (.bool z)) : (loadVar 4 a).run Try.prog w = .ok (.bool z) w := by
  simp [loadVar, go_sem, h]
theorem due_nil (w : World) : Calls Try.prog 20 #[.pointer none] w fun e w' => e = .returned (.int .u64 0) ∧ Below w.heap.size w w' := by
  go_enter Try.func20, Try.ntmps20
  go_wp2
  have hn := heap_alloc_new (w.alloc (.cells #[.pointer none] 24)) (.cells #[.int .u64 0] 27)
  rw [World.size_alloc] at hn
  refine bodyPost_ret (results_cell (p := 2) (ty := 27) rfl _ _ _ _ rfl (load_u64 _ _ 0 (by rw [cell_at hn]; rfl))) rfl ?_
  exact ⟨rfl, ((Below.refl _ _).alloc (Nat.le_refl _) _).alloc (by simp) _⟩
/-- What Due answers. -/
def DueIs (now : Nat) (f : Nat → List Tm) (z : Nat) : Prop :=
  (∃ k, k < 449 ∧ f k ≠ [] ∧ (∀ j, j < k → f j = []) ∧ z = soon (f k) - now) ∨ (∀ k, k < 449 → f k = []) ∧ z = 0
theorem due_at {now : Nat} {f : Nat → List Tm} {m : Nat} (hm : m ≤ 449) {ini : List Al} {k : Al} (h1 : alls.take m = ini ++ [k]) (h2 : ∀ a ∈ ini, f a.1 = []) (h3 : f k.1 ≠ []) : DueIs now f (soon (f k.1) - now) := by
  refine .inl ⟨k.1, k.2, h3, fun j hj => ?_, rfl⟩
  have hl := congrArg List.length h1
  rw [List.length_take, alls_length, List.length_append, List.length_singleton] at hl
  have hk : alls[ini.length]? = some k := by
    have : (alls.take m)[ini.length]? = some k := by rw [h1, List.getElem?_append_right (Nat.le_refl _), Nat.sub_self]; rfl
    rwa [List.getElem?_take_of_lt (by omega)] at this
  rw [alls_get _ (by omega)] at hk
  have hk' : ini.length = k.1 := congrArg Subtype.val (Option.some.inj hk)
  have hin : (⟨j, by omega⟩ : Al) ∈ ini := by
    have : (⟨j, by omega⟩ : Al) ∈ alls.take m := mem_take.2 (by show j < m; omega)
    rw [h1] at this
    rcases List.mem_append.1 this with h | h
    · exact h
    · simp at h
      have := congrArg Subtype.val h
      simp at this
      omega
  exact h2 _ hin
section
variable {B : Nat} {w : World} {x : Fx} {vs : Nat → Value} {now : Nat} {f : Nat → List Tm}
set_option maxRecDepth 100000 in
set_option maxHeartbeats 4000000 in
theorem due_any (h : WAt B w x vs now f) (hdue : ∀ k, k < 449 → ∀ t ∈ f k, now < t.2 ∧ t.2 < 18446744073709551616) : Calls Try.prog 20 #[.pointer (some ⟨x.p, 0, none⟩)] w fun e w' => (∃ z : Nat, e = .returned (.int .u64 (z : Int)) ∧ DueIs now f z) ∧ Below w.heap.size w w' := by
  have H := Lib.hid h
  have hfoot : ∀ g, Foot x vs g → g < w.heap.size := fun g hg => (h.foot_lt hg).2
  clear h
  refine (callsIn_wide (n := 6)).1 ?_
  refine callsIn_of_wp_marks Try.func20 rfl trivial ?_ rfl
  simp only [Try.ntmps20, List.size_toArray, List.length_cons, List.length_nil, Nat.reduceAdd, Nat.reduceSub, Array.replicate_succ, Array.replicate_zero, List.push_toArray, List.append_toArray, List.nil_append, List.cons_append]
  gi_wp2_with (refine ⟨trivial, ?_⟩; gi_at_call 24; refine (lists_in Fence.wide _ trivial rfl _ _).mono ?_; rintro e w' ⟨rfl, rfl⟩)
  obtain ⟨W0, hW0⟩ : ∃ W0, ((w.alloc (.cells #[.pointer (some ⟨x.p, 0, none⟩)] 24)).alloc (.cells #[.int .u64 0] 27)).alloc (.cells #[.pointer (some ⟨x.p, 0, none⟩)] 24) = W0 := ⟨_, rfl⟩
  have hsz : W0.heap.size = w.heap.size + 1 + 1 + 1 := by rw [← hW0]; simp
  have hB0 : Below w.heap.size w W0 := by rw [← hW0]; exact (((Below.refl _ w).alloc (Nat.le_refl _) _).alloc (by simp) _).alloc (by simp; omega) _
  have bP : Boxed W0 w.heap.size 24 (.pointer (some ⟨x.p, 0, none⟩)) := by rw [← hW0]; exact ((Boxed.new w _ _).alloc _).alloc _
  have bR : Boxed W0 (w.heap.size + 1) 27 (.int .u64 0) := by
    rw [← hW0]
    have := (Boxed.new (w.alloc (.cells #[.pointer (some ⟨x.p, 0, none⟩)] 24)) 27 (.int .u64 0)).alloc (.cells #[.pointer (some ⟨x.p, 0, none⟩)] 24)
    rwa [World.size_alloc] at this
  have bS : Boxed W0 (w.heap.size + 1 + 1) 24 (.pointer (some ⟨x.p, 0, none⟩)) := by
    rw [← hW0]
    have := Boxed.new ((w.alloc (.cells #[.pointer (some ⟨x.p, 0, none⟩)] 24)).alloc (.cells #[.int .u64 0] 27)) 24 (.pointer (some ⟨x.p, 0, none⟩))
    rwa [World.size_alloc, World.size_alloc] at this
  have h0 := H.out.below hB0
  rw [hW0]
  clear hW0
  refine wpIn_rangeFunc_ownF rfl (by decide) (gf := 31) (lb := #[.pointer (some ⟨w.heap.size + 1 + 1, 0, none⟩)]) rfl trivial (enters_of Try.func31 (by kernel_rfl) rfl)
    (lists_stops Fence.wide (6 - 1) trivial rfl (by decide) (w.heap.size + 1 + 1) w.heap.size W0 (by omega) (by omega) bS.cell h0 hfoot) Kq.trans (Kq.b (by omega)) (Below.refl _ _) (fun _ => rfl)
    (fun pre W => (∀ a ∈ pre, f a.1 = []) ∧ Below W0.heap.size W0 W)
    (fun c pre W => (c = .ret ∧ ∃ ini k, pre = ini ++ [k] ∧ (∀ a ∈ ini, f a.1 = []) ∧ f k.1 ≠ [] ∧ Boxed W (w.heap.size + 1) 27 (.int .u64 ((soon (f k.1) - now : Nat) : Int))) ∧ Below w.heap.size w W)
    (OwnFrom.and (ownFrom_pure _ _) (ownFrom_below (Nat.le_refl _) (Nat.le_refl _)))
    (fun c => OwnFrom.and (Own.from (fun s X Y row hs hg hr => by
      obtain ⟨e0, ini, k, e1, e2, e3, e4⟩ := hs
      exact ⟨e0, ini, k, e1, e2, e3, boxed_own _ _ (fun _ : Unit => _) () X Y row e4 hg hr⟩) _) (ownFrom_below (Nat.le_refl _) (by omega)))
    ⟨by simp, Below.refl _ _⟩
    (fun k => { tmps := #[.pointer (some ⟨x.p, 0, none⟩), .pointer (some ⟨w.heap.size, 0, none⟩), .pointer (some ⟨w.heap.size + 1, 0, none⟩), .pointer (some (spot x k.1)), .pointer (some ⟨x.p, 0, none⟩), .bool false, .pointer (some ⟨x.p, 0, none⟩),
      .func (.func 31) #[] #[.pointer (some ⟨w.heap.size + 1 + 1, 0, none⟩)], .pointer (some (spot x k.1)), undef, undef, undef, undef, undef, undef, undef, undef, undef, undef, undef, undef, undef, undef], defers := [] })
    ?assign ?body ?done ?stop
  case assign =>
    intro l k W K hK
    simp only [encs]
    gi_wp2
    exact hK
  case body =>
    rintro l pre k W ⟨hp, hB⟩ hlen
    have hwB : Below w.heap.size w W := hB0.trans (hB.mono hB0.size)
    have hw := H.out.below hwB
    obtain ⟨A, c, hv, hc1, hc2, hrt⟩ := hw.form k.2
    have hcell := hw.cell k.2
    have hnow := hw.c0
    have hplt := hw.plt
    rw [hv] at hcell
    obtain ⟨sb, so, hsp⟩ := spot_form x k.1
    have hslt : sb < W.heap.size := by have := hw.fix_lt (spot_fix x k.1); rw [hsp] at this; exact this
    rw [hsp] at hcell ⊢
    have g1 := (hB.block w.heap.size (by omega)).trans bP
    have g2 := (hB.block (w.heap.size + 1) (by omega)).trans bR
    have c1 : W.cell? ⟨w.heap.size, 0, none⟩ = some (.pointer (some ⟨x.p, 0, none⟩)) := by rw [cell_at g1]; rfl
    have c2 : W.cell? ⟨w.heap.size + 1, 0, none⟩ = some (.int .u64 0) := by rw [cell_at g2]; rfl
    have f2 := free_at g2 0
    have l1 := lt_at g1
    have l2 := lt_at g2
    obtain ⟨n, hn⟩ : ∃ n, (f k.1).length = n := ⟨_, rfl⟩
    rw [hn] at hcell hrt hc1
    have HN := Lib.hid hn
    have HRT := Lib.hid hrt
    have HB := Lib.hid hB
    have HWB := Lib.hid hwB
    have HP := Lib.hid hp
    have G2 := Lib.hid g2
    clear hn hrt hB hp hw hv hwB g1 g2
    by_cases h0 : n = 0
    · subst h0
      gi_wp2
      refine ⟨KeepsOthers.refl _, Kq.refl _ _ _, fun a ha => ?_, HB.out⟩
      rcases List.mem_append.1 ha with ha | ha
      · exact HP.out a ha
      · simp at ha; subst ha; exact List.eq_nil_of_length_eq_zero HN.out
    · have hn0 : 0 < n := by omega
      have hn0' : (0 : Int) < (n : Int) := by omega
      have hne : f k.1 ≠ [] := fun e => h0 (by rw [← HN.out, e]; rfl)
      obtain ⟨tm, htm, hts⟩ := soon_mem hne
      have hd := hdue k.1 k.2 tm htm
      obtain ⟨s, hs⟩ : ∃ s, soon (f k.1) = s := ⟨_, rfl⟩
      rw [hts, hs] at hd
      have hsoon : ∀ m, Calls Try.prog 30 #[.slice A n c] (W.drewN m) fun e w' => e = .returned (.int .u64 (s : Int)) ∧ Below W.heap.size (W.drewN m) w' := fun m => by
        have := soonest_any (c := c) (HRT.out.drewN m) (Nat.le_refl _) hn0 (by omega)
        rw [hs] at this
        exact this
      have hsub : IntKind.u64.wrap ((s : Int) - (now : Int)) = ((s - now : Nat) : Int) := by
        rw [show (s : Int) - (now : Int) = ((s - now : Nat) : Int) by omega]
        exact IntWalk.u64_in _ (by omega)
      obtain ⟨q, hq⟩ : ∃ q, s - now = q := ⟨_, rfl⟩
      rw [hq] at hsub
      have HS := Lib.hid hsoon
      have HSs := Lib.hid hs
      have HQ := Lib.hid hq
      have HNE := Lib.hid hne
      have hmx : Try.prog.follows .mixedOrders = true := by kernel_rfl
      clear hsoon hs hq htm hts hne h0
      gi_wp2
      gi_region_with_o (first
        | (refine ⟨trivial, ?_⟩
           gi_at_call 30
           refine (CallsIn.inRound l (callsIn_wide.2 (HS.out 1))).mono ?_
           rintro e w3 ⟨rfl, hb3⟩
           have y1 : w3.cell? ⟨w.heap.size, 0, none⟩ = some (.pointer (some ⟨x.p, 0, none⟩)) := (hb3.cell (p := ⟨w.heap.size, 0, none⟩) l1).trans c1
           have y2 : w3.cell? ⟨w.heap.size + 1, 0, none⟩ = some (.int .u64 0) := (hb3.cell (p := ⟨w.heap.size + 1, 0, none⟩) l2).trans c2
           have y3 : w3.cell? ⟨x.p, 0, none⟩ = some (.int .u64 (now : Int)) := (hb3.cell (p := ⟨x.p, 0, none⟩) hplt).trans hnow
           have t2 : w3.frozen? ⟨w.heap.size + 1, 0, none⟩ = false := free_at ((hb3.block (w.heap.size + 1) l2).trans G2.out) 0
           have z1 : w.heap.size < w3.heap.size := Nat.lt_of_lt_of_le l1 hb3.size
           have z2 : w.heap.size + 1 < w3.heap.size := Nat.lt_of_lt_of_le l2 hb3.size
           have z3 : x.p < w3.heap.size := Nat.lt_of_lt_of_le hplt hb3.size))
      all_goals gi_wp2
      all_goals (try go_bits)
      all_goals
        have hbW : Below W.heap.size W w3 := ⟨hb3.os, hb3.tape, hb3.output, hb3.size, hb3.block⟩
        have hbx : Boxed (w3.setCell ⟨w.heap.size + 1, 0, none⟩ (.int .u64 (q : Int))) (w.heap.size + 1) 27 (.int .u64 ((soon (f k.1) - now : Nat) : Int)) := by
          rw [HSs.out, HQ.out]
          show _ = _
          rw [set_at ((hbW.block _ l2).trans G2.out)]
          rfl
        exact ⟨(keeps_below hbW).trans (KeepsOthers.setCell _ _ _), ⟨rfl, pre, k, rfl, HP.out, HNE.out, hbx⟩, (HWB.out.trans (hbW.mono HWB.out.size)).setCell (p := ⟨w.heap.size + 1, 0, none⟩) (by simp) _⟩
  case done =>
    rintro D ys W hD rfl ⟨hp, hB⟩ hK
    have hwB : Below w.heap.size w W := hB0.trans (hB.mono hB0.size)
    have g2 := (hB.block (w.heap.size + 1) (by omega)).trans bR
    have c2 : W.cell? ⟨w.heap.size + 1, 0, none⟩ = some (.int .u64 0) := by rw [cell_at g2]; rfl
    have f2 := free_at g2 0
    have HWB := Lib.hid hwB
    have hall : ∀ k, k < 449 → f k = [] := fun k hk => hp ⟨k, hk⟩ (List.mem_of_getElem? (alls_get k hk))
    have HA := Lib.hid hall
    clear hwB g2 hp hall
    gi_wp2
    have hK' := (KeepsOthers.setCell W ⟨w.heap.size + 1, 0, none⟩ (.int .u64 0)).same D _ hK rfl
    refine ⟨by simp, .inl ⟨_, _, rfl, run_takeDeferred hK', ?_⟩⟩
    have hc5 := cell_kept (World.cell?_setCell_same' W ⟨w.heap.size + 1, 0, none⟩ (.int .u64 0) (by rw [c2]; rfl)) (grownBy_putObj' _ D (.deferred none)) (fun r e => by cases e; exact ⟨_, hK', rfl⟩)
    exact ⟨_, results_cell (p := 2) (ty := 27) rfl _ _ _ _ rfl (load_u64 _ _ 0 hc5), ⟨0, rfl, .inr ⟨HA.out, rfl⟩⟩, (HWB.out.setCell (p := ⟨w.heap.size + 1, 0, none⟩) (by simp) _).trans (belowK_b (w := w) (Nat.le_refl _) _ D _ _ (by omega) hK' rfl rfl)⟩
  case stop =>
    rintro D c pre W hD ⟨m, hm, rfl⟩ ⟨⟨rfl, ini, k, e1, e2, e3, e4⟩, hB⟩ hK
    have hdi := due_at (now := now) hm e1 e2 e3
    have HD := Lib.hid hdi
    clear hdi e1 e2 e3
    gi_wp2
    refine ⟨by simp, .inl ⟨_, _, rfl, run_takeDeferred hK, ?_⟩⟩
    have hc5 := cell_kept e4.cell (grownBy_putObj' _ D (.deferred none)) (fun r e => by cases e; exact ⟨_, hK, rfl⟩)
    exact ⟨_, results_cell (p := 2) (ty := 27) rfl _ _ _ _ rfl (load_u64 _ _ _ hc5), ⟨_, rfl, HD.out⟩, hB.trans (belowK_b (w := w) (Nat.le_refl _) W D _ _ (by omega) hK rfl rfl)⟩
end
end Go.Proofs.Ytecejikolgkihaa.WalkE
