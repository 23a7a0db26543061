/- What the program's MembersAt and Members answer, walked: a range over slices.Backward. -/
import Derived.Test.YtdbmpfongfiagaaRlgWalkI
import Derived.Test.YtdbmpfongfiagaaBack
import Derived.Shelf.RegionOpen
set_option linter.unusedVariables false
namespace Go.Proofs.Ytdbmpfongfiagaa.RlgWalkJ
open Go.RowKit Go.Shelf Go.Proofs.Ytdbmpfongfiagaa.Kit Go.Proofs.Ytdbmpfongfiagaa.Blocks Go.Proofs.Ytdbmpfongfiagaa.Rlog Go.Proofs.Ytdbmpfongfiagaa.Ents Go.Proofs.Ytdbmpfongfiagaa.LogAt Go.Proofs.Ytdbmpfongfiagaa.RlgWalkA Go.Proofs.Ytdbmpfongfiagaa.RlgWalkB Go.Proofs.Ytdbmpfongfiagaa.RlgWalkC Go.Proofs.Ytdbmpfongfiagaa.RlgWalkE Go.Proofs.Ytdbmpfongfiagaa.Back
attribute [local go_sem] Oper.semAt_some

/-- Two results, each in a block of its own. -/
theorem results_two {P : Program} {fn : Func} {p q : Tmp} {ty tz : TypeId} (h : fn.results = #[.cell p ty, .cell q tz]) (tmps : Array Value) (w : World) (a b : Addr) (x y : Value)
    (hp : tmps.getD p undef = .pointer (some a)) (hq : tmps.getD q undef = .pointer (some b)) (hx : (loadVar ty a).run P w = .ok x w) (hy : (loadVar tz b).run P w = .ok y w) :
    (results fn tmps).run P w = .ok (.tuple #[x, y]) w := by
  have hp' : tmps[p]?.getD undef = .pointer (some a) := by simpa using hp
  have hq' : tmps[q]?.getD undef = .pointer (some b) := by simpa using hq
  simp [results, h, hp', hq', asAddr, hx, hy]

theorem load_u64 (w : World) (a : Addr) (z : Int) (h : w.cell? a = some (.int .u64 z)) : (loadVar 22 a).run Try.prog w = .ok (.int .u64 z) w := by
  simp [loadVar, go_sem, h]
theorem two_boxes {w : World} {a b : Nat} {t : TypeId} {x y : Value} (ha : w.heap[a]? = some (.cells #[x] t (0, 0))) (hb : w.heap[b]? = some (.cells #[y] t (0, 0))) (hne : a ≠ b) (u v : Value) :
    Boxed ((w.setCell ⟨a, 0, none⟩ u).setCell ⟨b, 0, none⟩ v) a t u ∧ Boxed ((w.setCell ⟨a, 0, none⟩ u).setCell ⟨b, 0, none⟩ v) b t v ∧ Only (fun q => q = a ∨ q = b) w ((w.setCell ⟨a, 0, none⟩ u).setCell ⟨b, 0, none⟩ v) := by
  have h1 : Boxed (w.setCell ⟨a, 0, none⟩ u) a t u := by show _ = _; rw [set_at ha]; rfl
  have h2 : Boxed (w.setCell ⟨a, 0, none⟩ u) b t y := Boxed.other (show Boxed w b t y from hb) (by omega) u
  refine ⟨Boxed.other h1 hne v, ?_, ((Only.refl _ w).setCell (a := ⟨a, 0, none⟩) (.inr (.inl rfl)) _).setCell (a := ⟨b, 0, none⟩) (.inr (.inr rfl)) _⟩
  show _ = _
  rw [set_at h2]
  rfl
theorem keeps_below {W W' : World} (h : Below W.heap.size W W') : KeepsOthers W W' := ⟨h.size, fun k o hk _ => (h.block k (lt_at hk)).trans hk⟩
/-- An entry that says a set, up to an index. -/
def hit (i : Nat) (e : Ent) : Prop := e.kind = 2 ∧ e.idx ≤ i
theorem found {es : List Ent} {hes} {i k : Nat} {ini : List Al} {last : Al} (hk : k ≤ es.length) (e1 : (backs es hes).take k = ini ++ [last]) (e2 : ∀ x ∈ ini, ¬ hit i x.1.2) (e3 : hit i last.1.2) : pick es i = some last.1.2 := by
  have hl := congrArg List.length e1
  rw [List.length_take, backs_length, List.length_append, List.length_singleton] at hl
  have hin : ini.length = k - 1 := by omega
  have hlast : (backs es hes)[k - 1]? = some last := by
    have h1 : ((backs es hes).take k)[k - 1]? = some last := by rw [e1, List.getElem?_append_right (by omega), hin, Nat.sub_self]; rfl
    rwa [List.getElem?_take_of_lt (by omega)] at h1
  rw [backs_get es hes (k - 1) (by omega)] at hlast
  obtain ⟨q, hq⟩ : ∃ q, es.length - 1 - (k - 1) = q := ⟨_, rfl⟩
  simp only [hq, Option.some.injEq] at hlast
  have hle : last.1.2 = es[q]'(by omega) := by rw [← hlast]
  rw [hle] at e3 ⊢
  have hqe : es[q]? = some (es[q]'(by omega)) := List.getElem?_eq_getElem (by omega)
  have hp := pick_none (es.take (q + 1)) (es.drop (q + 1)) i (fun e he => by
    obtain ⟨j, hj, rfl⟩ := List.mem_iff_getElem.1 he
    rw [List.length_drop] at hj
    have hx := backs_get es hes (es.length - 1 - (q + 1 + j)) (by omega)
    have h2 : ((backs es hes).take k)[es.length - 1 - (q + 1 + j)]? = _ := (List.getElem?_take_of_lt (by omega)).trans hx
    rw [e1, List.getElem?_append_left (by omega)] at h2
    have h3 := e2 _ (List.mem_of_getElem? h2)
    simp only [show es.length - 1 - (es.length - 1 - (q + 1 + j)) = q + 1 + j by omega] at h3
    rw [List.getElem_drop]
    exact h3)
  rw [List.take_append_drop] at hp
  rw [hp, take_snoc es q _ hqe, pick_snoc, if_pos (show es[q].kind = 2 ∧ es[q].idx ≤ i from e3)]
section
variable {B p : Nat} {v : Value} {g : G} {w : World} (h : LP B w p v g) (f : Fine g)
include h f
set_option maxRecDepth 100000 in
set_option maxHeartbeats 2000000 in
theorem members_any (i : Nat) : Calls Try.prog 43 #[.pointer (some ⟨p, 0, none⟩), .int .u64 (i : Int)] w fun e w' => e = .returned (.tuple #[.int .u64 ((members g i).1 : Int), .int .u64 ((members g i).2 : Int)]) ∧ Below w.heap.size w w' := by
  have c4 := h.c4
  have hlt := h.lt
  obtain ⟨A, c, rfl, hnc, hcm, hr⟩ := h.form
  have H := Lib.hid h
  have HF := Lib.hid f
  have HR := Lib.hid hr
  obtain ⟨n, hn⟩ : ∃ n, g.es.length = n := ⟨_, rfl⟩
  rw [hn] at c4 hnc
  have HN := Lib.hid hn
  have c4' : ∀ o1 o2 o3, (((w.alloc o1).alloc o2).alloc o3).cell? ⟨p, 4, none⟩ = some (.slice A n c) := fun o1 o2 o3 => by
    have hB : Below w.heap.size w (((w.alloc o1).alloc o2).alloc o3) := (((Below.refl _ w).alloc (Nat.le_refl _) o1).alloc (by simp) o2).alloc (by simp; omega) o3
    exact (hB.cell (p := ⟨p, 4, none⟩) hlt).trans c4
  clear h f hr hn
  refine (callsIn_wide (n := 6)).1 ?_
  refine callsIn_of_wp_marks Try.func43 rfl trivial ?_ rfl
  simp only [Try.ntmps43, List.size_toArray, List.length_cons, List.length_nil, Nat.reduceAdd, Nat.reduceSub, Array.replicate_succ, Array.replicate_zero, List.push_toArray, List.append_toArray, List.nil_append, List.cons_append]
  gi_wp2_with (refine ⟨trivial, ?_⟩; gi_at_call 62; refine (back_in Fence.wide _ trivial rfl _ _ _ _).mono ?_; rintro e w' ⟨rfl, rfl⟩)
  obtain ⟨W0, hW0⟩ : ∃ W0, (((w.alloc (.cells #[.int .u64 (i : Int)] 22)).alloc (.cells #[.int .u64 0] 22)).alloc (.cells #[.int .u64 0] 22)).alloc (.cells #[.slice A n c] 27) = W0 := ⟨_, rfl⟩
  have hsz : W0.heap.size = w.heap.size + 1 + 1 + 1 + 1 := by rw [← hW0]; simp
  have hB0 : Below w.heap.size w W0 := by rw [← hW0]; exact ((((Below.refl _ w).alloc (Nat.le_refl _) _).alloc (by simp) _).alloc (by simp; omega) _).alloc (by simp; omega) _
  have bI : Boxed W0 w.heap.size 22 (.int .u64 (i : Int)) := by rw [← hW0]; exact ((Boxed.new w _ _).alloc _ |>.alloc _).alloc _
  have b4 : Boxed W0 (w.heap.size + 1) 22 (.int .u64 0) := by
    rw [← hW0]
    have := ((Boxed.new (w.alloc (.cells #[.int .u64 (i : Int)] 22)) 22 (.int .u64 0)).alloc (.cells #[.int .u64 0] 22)).alloc (.cells #[.slice A n c] 27)
    rwa [World.size_alloc] at this
  have b5 : Boxed W0 (w.heap.size + 1 + 1) 22 (.int .u64 0) := by
    rw [← hW0]
    have := (Boxed.new ((w.alloc (.cells #[.int .u64 (i : Int)] 22)).alloc (.cells #[.int .u64 0] 22)) 22 (.int .u64 0)).alloc (.cells #[.slice A n c] 27)
    rwa [World.size_alloc, World.size_alloc] at this
  have bS : Boxed W0 (w.heap.size + 1 + 1 + 1) 27 (.slice A n c) := by
    rw [← hW0]
    have := Boxed.new (((w.alloc (.cells #[.int .u64 (i : Int)] 22)).alloc (.cells #[.int .u64 0] 22)).alloc (.cells #[.int .u64 0] 22)) 27 (.slice A n c)
    rwa [World.size_alloc, World.size_alloc, World.size_alloc] at this
  rw [hW0]
  have hes : ∀ e ∈ g.es, e.data.size ≤ 9223372036854775807 := fun e he => (HF.out.ents e he).size
  have hr0 : RE W0 W0.heap.size A n g.es := by
    have := HR.out
    rw [HN.out] at this
    exact (Kit.Reads.below this hB0).more hB0.size
  clear hW0 c4'
  refine wpIn_rangeFunc_ownH rfl (by decide) (gf := 78) (lb := #[.pointer (some ⟨w.heap.size + 1 + 1 + 1, 0, none⟩)]) rfl trivial (enters_of Try.func78 (by kernel_rfl) rfl)
    (back_stops Fence.wide (6 - 1) trivial rfl (by decide) (w.heap.size + 1 + 1 + 1) W0.heap.size n c A g.es hes (by omega) W0 (by omega) (Nat.le_refl _) bS.cell hr0) belowK_t (belowK_b (Nat.le_refl _)) (Below.refl _ _) (fun _ => rfl)
    (fun pre W => (∀ x ∈ pre, ¬ hit i x.1.2) ∧ Below W0.heap.size W0 W)
    (fun c pre W => (c = .ret ∧ ∃ ini last, pre = ini ++ [last] ∧ (∀ x ∈ ini, ¬ hit i x.1.2) ∧ hit i last.1.2 ∧ Boxed W (w.heap.size + 1) 22 (.int .u64 (setOf last.1.2.data : Int)) ∧ Boxed W (w.heap.size + 1 + 1) 22 (.int .u64 (last.1.2.idx : Int))) ∧ Below w.heap.size w W)
    (OwnFrom.and (Own.from (fun s X Y row hs hg hr => hs) _) (ownFrom_below (Nat.le_refl _) (Nat.le_refl _)))
    (fun c => OwnFrom.and (Own.from (fun s X Y row hs hg hr => by
      obtain ⟨e0, ini, last, e1, e2, e3, e4, e5⟩ := hs
      exact ⟨e0, ini, last, e1, e2, e3, boxed_own _ _ (fun _ : Unit => _) () X Y row e4 hg hr, boxed_own _ _ (fun _ : Unit => _) () X Y row e5 hg hr⟩) _) (ownFrom_below (Nat.le_refl _) (by omega)))
    ⟨by simp, Below.refl _ _⟩
    (fun x a' W => ∃ Bx, W0.heap.size ≤ Bx ∧ W.heap[Bx]? = some (.cells #[.int .u64 (x.1.2.term : Int), .int .u64 (x.1.2.idx : Int), .int .i64 x.1.2.kind, .string x.1.2.data] 57 (0, 0)) ∧
      a' = { tmps := #[.pointer (some ⟨p, 0, none⟩), .int .u64 (i : Int), undef, .pointer (some ⟨w.heap.size, 0, none⟩), .pointer (some ⟨w.heap.size + 1, 0, none⟩), .pointer (some ⟨w.heap.size + 1 + 1, 0, none⟩), undef, .pointer (some ⟨Bx, 0, none⟩),
        .pointer (some ⟨p, 0, none⟩), .bool false, .pointer (some ⟨p, 0, none⟩), .pointer (some ⟨p, 0, none⟩), .pointer (some ⟨p, 4, none⟩), .slice A n c, .func (.func 78) #[] #[.pointer (some ⟨w.heap.size + 1 + 1 + 1, 0, none⟩)],
        .int .i64 (x.1.1 : Int), .agg #[.int .u64 (x.1.2.term : Int), .int .u64 (x.1.2.idx : Int), .int .i64 x.1.2.kind, .string x.1.2.data], undef, undef, undef, undef, undef, undef, undef, undef, undef, undef, undef, undef, undef, undef, undef, undef, undef, undef, undef, undef, undef, undef, undef, undef], defers := [] })
    (fun x a' => Own.from (fun s X Y row hs hg hr => by
      obtain ⟨Bx, h1, h2, h3⟩ := hs
      exact ⟨Bx, h1, (hg.block Bx (lt_at h2) (fun e => by obtain ⟨o, ho, hc⟩ := hr Bx e.symm; rw [h2] at ho; cases ho; cases hc)).trans h2, h3⟩) _)
    ?assign ?body ?done ?stop
  case assign =>
    rintro l pre x W K ⟨hp, hB⟩ hK
    obtain ⟨⟨q, tm, ix, kd, d⟩, hd⟩ := x
    simp only [encs] at hK ⊢
    have hsW := hB.size
    gi_wp2
    refine hK _ _ ((KeepsOthers.alloc _ _).from _) ((Below.refl _ W).alloc hsW _) ⟨hp, hB.alloc hsW _⟩ ⟨W.heap.size, hsW, heap_alloc_new W _, rfl⟩
  case body =>
    rintro l pre x a' W hl ⟨rc, hrc⟩ ⟨hp, hB⟩ ⟨Bx, hBx, hx, rfl⟩ hlen
    obtain ⟨⟨q, tm, ix, kd, d⟩, hd⟩ := x
    simp only at hx hd ⊢
    have x0 : W.cell? ⟨Bx, 0, none⟩ = some (.int .u64 (tm : Int)) := by rw [cell_at hx]; rfl
    have x1 : W.cell? ⟨Bx, 1, none⟩ = some (.int .u64 (ix : Int)) := by rw [cell_at hx]; rfl
    have x2 : W.cell? ⟨Bx, 2, none⟩ = some (.int .i64 kd) := by rw [cell_at hx]; rfl
    have x3 : W.cell? ⟨Bx, 3, none⟩ = some (.string d) := by rw [cell_at hx]; rfl
    have hcI : W.cell? ⟨w.heap.size, 0, none⟩ = some (.int .u64 (i : Int)) := (hB.cell (p := ⟨w.heap.size, 0, none⟩) (by simp; omega)).trans bI.cell
    have hltx := lt_at hx
    by_cases hix : ix ≤ i
    · by_cases hkd : kd = 2
      · subst hkd
        have hmx : Try.prog.follows .mixedOrders = true := by kernel_rfl
        have hq4 := (hB.block (w.heap.size + 1) (by omega)).trans b4
        have hq5 := (hB.block (w.heap.size + 1 + 1) (by omega)).trans b5
        have h04 : w.heap.size + 1 < W.heap.size := lt_at hq4
        have h05 : w.heap.size + 1 + 1 < W.heap.size := lt_at hq5
        have r4 : W.cell? ⟨w.heap.size + 1, 0, none⟩ = some (.int .u64 0) := by rw [cell_at hq4]; rfl
        have r5 : W.cell? ⟨w.heap.size + 1 + 1, 0, none⟩ = some (.int .u64 0) := by rw [cell_at hq5]; rfl
        have g4 := free_at hq4 0
        have g5 := free_at hq5 0
        have hset := set_any d
        obtain ⟨cf, hcf⟩ : ∃ cf, setOf d = cf := ⟨_, rfl⟩
        rw [hcf] at hset
        have HCF := Lib.hid hcf
        have HSet := Lib.hid hset
        have HQ4 := Lib.hid hq4
        have HQ5 := Lib.hid hq5
        clear hcf hset hq4 hq5
        gi_wp2
        gi_region_with_o (first
          | (refine ⟨trivial, ?_⟩
             gi_at_call 47
             refine (CallsIn.inRound l (callsIn_wide.2 (HSet.out _ hd))).mono ?_
             rintro e w3 ⟨rfl, hb3⟩
             have y1 : w3.cell? ⟨Bx, 1, none⟩ = some (.int .u64 (ix : Int)) := (hb3.cell (p := ⟨Bx, 1, none⟩) hltx).trans x1
             have s4 : w3.cell? ⟨w.heap.size + 1, 0, none⟩ = some (.int .u64 0) := (hb3.cell (p := ⟨w.heap.size + 1, 0, none⟩) h04).trans r4
             have s5 : w3.cell? ⟨w.heap.size + 1 + 1, 0, none⟩ = some (.int .u64 0) := (hb3.cell (p := ⟨w.heap.size + 1 + 1, 0, none⟩) h05).trans r5
             have t4 : w3.frozen? ⟨w.heap.size + 1, 0, none⟩ = false := free_at ((hb3.block (w.heap.size + 1) h04).trans HQ4.out) 0
             have t5 : w3.frozen? ⟨w.heap.size + 1 + 1, 0, none⟩ = false := free_at ((hb3.block (w.heap.size + 1 + 1) h05).trans HQ5.out) 0
             have z4 : w.heap.size + 1 < w3.heap.size := Nat.lt_of_lt_of_le h04 hb3.size
             have z5 : w.heap.size + 1 + 1 < w3.heap.size := Nat.lt_of_lt_of_le h05 hb3.size))
        all_goals gi_wp2
        all_goals (try go_bits)
        all_goals
          have hbW : Below W.heap.size W w3 := by first | exact hb3 | exact ((Below.refl W.heap.size W).drew).trans hb3
          obtain ⟨k4, k5, ko⟩ := two_boxes ((hbW.block _ h04).trans HQ4.out) ((hbW.block _ h05).trans HQ5.out) (by omega) (.int .u64 (cf : Int)) (.int .u64 (ix : Int))
          have hwW : Below w.heap.size w W := hB0.trans (hB.mono hB0.size)
          exact ⟨(((keeps_below hbW).trans (KeepsOthers.setCell _ _ _)).trans (KeepsOthers.setCell _ _ _)).from _, ⟨rfl, pre, ⟨(q, ⟨tm, ix, 2, d⟩), hd⟩, rfl, hp, ⟨rfl, hix⟩, by rw [HCF.out]; exact k4, k5⟩,
            (hwW.trans (hbW.mono hwW.size)).trans (ko.below (Nat.le_trans hwW.size hbW.size) (by rintro z (rfl | rfl) <;> omega))⟩
      · have hk1 : (kd == 2) = false := by simpa using hkd
        have HP : Hid (∀ x ∈ pre ++ [⟨(q, ⟨tm, ix, kd, d⟩), hd⟩], ¬ hit i x.1.2) := by
          intro x hx
          rcases List.mem_append.1 hx with hx | hx
          · exact hp x hx
          · simp at hx; subst hx; exact fun e => hkd e.1
        gi_wp2
        exact ⟨KeepsFrom.refl _ _, Below.refl _ _, HP.out, hB⟩
    · have HP : Hid (∀ x ∈ pre ++ [⟨(q, ⟨tm, ix, kd, d⟩), hd⟩], ¬ hit i x.1.2) := by
        intro x hx
        rcases List.mem_append.1 hx with hx | hx
        · exact hp x hx
        · simp at hx; subst hx; exact fun e => hix e.2
      gi_wp2
      exact ⟨KeepsFrom.refl _ _, Below.refl _ _, HP.out, hB⟩
  case done =>
    rintro D ys W hD rfl ⟨hp, hB⟩ hK
    have hwW : Below w.heap.size w W := hB0.trans (hB.mono hB0.size)
    have hq4 := (hB.block (w.heap.size + 1) (by omega)).trans b4
    have hq5 := (hB.block (w.heap.size + 1 + 1) (by omega)).trans b5
    have h04 : w.heap.size + 1 < W.heap.size := lt_at hq4
    have h05 : w.heap.size + 1 + 1 < W.heap.size := lt_at hq5
    have r4 : W.cell? ⟨w.heap.size + 1, 0, none⟩ = some (.int .u64 0) := by rw [cell_at hq4]; rfl
    have r5 : W.cell? ⟨w.heap.size + 1 + 1, 0, none⟩ = some (.int .u64 0) := by rw [cell_at hq5]; rfl
    have g4 := free_at hq4 0
    have g5 := free_at hq5 0
    have hl := H.out.below hwW
    have p0 := hl.c0
    have p2 := hl.c2
    have hlp := hl.lt
    have hmem : members g i = (g.snap.cfg, g.snap.idx) := by
      have hpk : pick g.es i = none := by
        have := pick_none [] g.es i (fun e he => by
          obtain ⟨k, hk, rfl⟩ := List.mem_iff_getElem.1 he
          have hx := backs_get g.es hes (g.es.length - 1 - k) (by omega)
          have h2 := hp _ (List.mem_of_getElem? hx)
          simp only [show g.es.length - 1 - (g.es.length - 1 - k) = k by omega] at h2
          exact h2)
        simpa [pick] using this
      unfold members
      rw [hpk]
    have HMem := Lib.hid hmem
    have hmx : Try.prog.follows .mixedOrders = true := by kernel_rfl
    have HQ4 := Lib.hid hq4
    have HQ5 := Lib.hid hq5
    clear hmem hp hq4 hq5 hl
    gi_wp2
    gi_region
    all_goals gi_wp2
    all_goals
      obtain ⟨k4, k5, ko⟩ := two_boxes HQ4.out HQ5.out (by omega) (.int .u64 (g.snap.cfg : Int)) (.int .u64 (g.snap.idx : Int))
      have hK' := (((KeepsOthers.setCell W ⟨w.heap.size + 1, 0, none⟩ (.int .u64 (g.snap.cfg : Int))).trans (KeepsOthers.setCell _ ⟨w.heap.size + 1 + 1, 0, none⟩ (.int .u64 (g.snap.idx : Int)))).trans (KeepsOthers.drew _)).same D _ hK rfl
      have hbF : Below w.heap.size w ((W.setCell ⟨w.heap.size + 1, 0, none⟩ (.int .u64 (g.snap.cfg : Int))).setCell ⟨w.heap.size + 1 + 1, 0, none⟩ (.int .u64 (g.snap.idx : Int))).drew := (hwW.trans (ko.below hwW.size (by rintro z (rfl | rfl) <;> omega))).drew
      refine ⟨by simp, .inl ⟨_, _, rfl, run_takeDeferred hK', ?_⟩⟩
      have q4 := cell_kept (W := ((W.setCell ⟨w.heap.size + 1, 0, none⟩ (.int .u64 (g.snap.cfg : Int))).setCell ⟨w.heap.size + 1 + 1, 0, none⟩ (.int .u64 (g.snap.idx : Int))).drew) k4.cell (grownBy_putObj' _ D (.deferred none)) (fun r e => by cases e; exact ⟨_, hK', rfl⟩)
      have q5 := cell_kept (W := ((W.setCell ⟨w.heap.size + 1, 0, none⟩ (.int .u64 (g.snap.cfg : Int))).setCell ⟨w.heap.size + 1 + 1, 0, none⟩ (.int .u64 (g.snap.idx : Int))).drew) k5.cell (grownBy_putObj' _ D (.deferred none)) (fun r e => by cases e; exact ⟨_, hK', rfl⟩)
      refine ⟨_, results_two (p := 4) (q := 5) rfl _ _ _ _ _ _ rfl rfl (load_u64 _ _ _ q4) (load_u64 _ _ _ q5), by rw [HMem.out], ?_⟩
      exact hbF.trans (belowK_b (w := w) (Nat.le_refl _) _ D _ _ (by omega) hK' rfl rfl)
  case stop =>
    rintro D c pre W hD ⟨k, hk, rfl⟩ ⟨⟨rfl, ini, last, e1, e2, e3, e4, e5⟩, hB⟩ hK
    have hmem : members g i = (setOf last.1.2.data, last.1.2.idx) := by
      unfold members
      rw [found (by rw [HN.out]; exact hk) e1 e2 e3]
    have HMem := Lib.hid hmem
    clear hmem e1 e2 e3
    gi_wp2
    refine ⟨by simp, .inl ⟨_, _, rfl, run_takeDeferred hK, ?_⟩⟩
    have q4 := cell_kept e4.cell (grownBy_putObj' _ D (.deferred none)) (fun r e => by cases e; exact ⟨_, hK, rfl⟩)
    have q5 := cell_kept e5.cell (grownBy_putObj' _ D (.deferred none)) (fun r e => by cases e; exact ⟨_, hK, rfl⟩)
    refine ⟨_, results_two (p := 4) (q := 5) rfl _ _ _ _ _ _ rfl rfl (load_u64 _ _ _ q4) (load_u64 _ _ _ q5), by rw [HMem.out], ?_⟩
    exact hB.trans (belowK_b (w := w) (Nat.le_refl _) W D _ _ (by omega) hK rfl rfl)
set_option maxRecDepth 100000 in
/-- The set that holds. -/
theorem all_members : Calls Try.prog 56 #[.pointer (some ⟨p, 0, none⟩)] w fun e w' => e = .returned (.tuple #[.int .u64 ((members g 18446744073709551615).1 : Int), .int .u64 ((members g 18446744073709551615).2 : Int)]) ∧ Below w.heap.size w w' := by
  have hm := members_any h f 18446744073709551615
  obtain ⟨a, ha⟩ : ∃ a, (members g 18446744073709551615).1 = a := ⟨_, rfl⟩
  obtain ⟨b, hb⟩ : ∃ b, (members g 18446744073709551615).2 = b := ⟨_, rfl⟩
  rw [ha, hb] at hm ⊢
  have HM := Lib.hid hm
  clear hm ha hb
  go_enter Try.func56, Try.ntmps56
  go_wp2_with fail
  refine HM.out.mono ?_
  rintro e w1 ⟨rfl, hb1⟩
  go_wp2
  go_ret2
  exact ⟨rfl, hb1⟩
end
end Go.Proofs.Ytdbmpfongfiagaa.RlgWalkJ
