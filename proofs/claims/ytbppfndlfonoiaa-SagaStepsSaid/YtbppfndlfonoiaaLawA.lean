/- The walk of the statement that what was taken is never taken again. -/
import Derived.Test.YtbppfndlfonoiaaBegun
import Derived.Test.YtbppfndlfonoiaaLit
import Derived.Test.YtbppfndlfonoiaaOpn
set_option linter.unusedVariables false
set_option linter.unusedSimpArgs false
namespace Go.Proofs.Ytbppfndlfonoiaa.LawA
open Go.RowKit Go.Proofs.Ytbppfndlfonoiaa.Kit Go.Proofs.Ytbppfndlfonoiaa.Stq Go.Proofs.Ytbppfndlfonoiaa.Pln Go.Proofs.Ytbppfndlfonoiaa.Sag Go.Proofs.Ytbppfndlfonoiaa.SagAt Go.Proofs.Ytbppfndlfonoiaa.Ways Go.Proofs.Ytbppfndlfonoiaa.WalkA Go.Proofs.Ytbppfndlfonoiaa.WalkB Go.Proofs.Ytbppfndlfonoiaa.WalkC Go.Proofs.Ytbppfndlfonoiaa.WalkD Go.Proofs.Ytbppfndlfonoiaa.NewS Go.Proofs.Ytbppfndlfonoiaa.Begun Go.Proofs.Ytbppfndlfonoiaa.Opens Go.Proofs.Ytbppfndlfonoiaa.Opn Go.Proofs.Ytbppfndlfonoiaa.Lit
open Go.Proofs.Ytbppfndlfonoiaa.State (Only cell_at free_at lt_at)

theorem back_ways (s : Sg) (k : Int) : (k < 0 ∧ (back s k).st = 4) ∨ (0 ≤ k ∧ (back s k).st = 2 ∧ (back s k).cu = k) := by
  unfold back
  split
  · exact .inl ⟨by assumption, rfl⟩
  · exact .inr ⟨by omega, rfl, rfl⟩
/-- What was taken isn't taken again. -/
theorem takes_again {s : Sg} {step : Int} {taken : Bool} {tr : Int} {ok : Bool} (h : takes s step taken tr ok = true) : takes (outc s step taken tr ok) step taken tr ok = false := by
  obtain ⟨h1, h2, h3, h4⟩ := takes_yes h
  have hin := opn_in h1
  have ho := (opn_yes h1).2
  have e : outc s step taken tr ok = next s taken ok := by unfold outc; rw [h]; rfl
  rw [e]
  rw [Bool.eq_false_iff]
  intro hc
  obtain ⟨g1, g2, g3, g4⟩ := takes_yes hc
  have go := (opn_yes g1).2
  unfold next at g2 g3 g4 go
  split at g2
  · rename_i hh
    rw [if_pos hh] at go
    simp only [fwd] at g2
    omega
  · rename_i hh
    rw [if_neg hh] at g3 g4 go
    split at g2
    · rename_i hk
      rw [if_pos hk] at g3 g4 go
      rcases back_ways s (s.cu - 1) with ⟨_, w1⟩ | ⟨_, w1, w2⟩
      · rw [w1] at go; omega
      · rw [w2] at g2; omega
    · rename_i hk
      rw [if_neg hk] at g3 g4 go
      have hok : ok = false := by cases ok <;> simp_all
      rw [hok] at h4 g4
      simp only [fail, Bool.false_eq_true, false_or] at h4 g4
      omega
theorem outc_no {s : Sg} {step : Int} {taken : Bool} {tr : Int} {ok : Bool} (h : takes s step taken tr ok = false) : outc s step taken tr ok = s := by unfold outc; rw [h]; rfl
theorem aborts_st {s : Sg} (h : Snd s) : aborts s = (s.st == 1) := by
  unfold aborts
  rw [sound_mk h, Bool.true_and]
  by_cases e : s.st = 1 <;> simp [e]
/-- A call, boxed. -/
structure BoxC (W : World) (b : Nat) (x : Cl) : Prop where
  blk : W.heap[b]? = some (.cells #[.int .i64 x.sp, .bool x.tk, .int .i64 x.tr, .bool x.ok] 26 (0, 0))
section
variable {w w' : World} {b : Nat} {x : Cl}
theorem BoxC.lt (h : BoxC w b x) : b < w.heap.size := lt_at h.blk
theorem BoxC.c0 (h : BoxC w b x) : w.cell? ⟨b, 0, none⟩ = some (.int .i64 x.sp) := by rw [cell_at h.blk]; rfl
theorem BoxC.c1 (h : BoxC w b x) : w.cell? ⟨b, 1, none⟩ = some (.bool x.tk) := by rw [cell_at h.blk]; rfl
theorem BoxC.c2 (h : BoxC w b x) : w.cell? ⟨b, 2, none⟩ = some (.int .i64 x.tr) := by rw [cell_at h.blk]; rfl
theorem BoxC.c3 (h : BoxC w b x) : w.cell? ⟨b, 3, none⟩ = some (.bool x.ok) := by rw [cell_at h.blk]; rfl
theorem BoxC.below (h : BoxC w b x) (k : Below w.heap.size w w') : BoxC w' b x := ⟨(k.block b h.lt).trans h.blk⟩
end
/-- What came in, boxed. -/
structure In (w0 W : World) (b : Nat) (A : Option Addr) (c : Nat) (s : Sg) (x : Cl) : Prop where
  sb : Box4 W b (.slice A s.l.length c) (.int .i64 s.st) (.int .i64 s.cu) (.int .i64 s.fa)
  cb : BoxC W (b + 1) x
  at_ : At W A s.l
  bel : Below w0.heap.size w0 W
theorem In.below {w0 W W' : World} {b : Nat} {A : Option Addr} {c : Nat} {s : Sg} {x : Cl} (h : In w0 W b A c s x) (k : Below W.heap.size W W') : In w0 W' b A c s x := ⟨h.sb.below k, h.cb.below k, h.at_.below k, h.bel.trans (k.mono h.bel.size)⟩
theorem in_new {w : World} {A : Option Addr} {s : Sg} (c : Nat) (x : Cl) (h : At w A s.l) :
    In w ((w.alloc (.cells #[.slice A s.l.length c, .int .i64 s.st, .int .i64 s.cu, .int .i64 s.fa] 24)).alloc (.cells #[.int .i64 x.sp, .bool x.tk, .int .i64 x.tr, .bool x.ok] 26)) w.heap.size A c s x := by
  have h1 := Box4.new w (.slice A s.l.length c) (.int .i64 s.st) (.int .i64 s.cu) (.int .i64 s.fa)
  have h2 := heap_alloc_new (w.alloc (.cells #[.slice A s.l.length c, .int .i64 s.st, .int .i64 s.cu, .int .i64 s.fa] 24)) (.cells #[.int .i64 x.sp, .bool x.tk, .int .i64 x.tr, .bool x.ok] 26)
  rw [show (w.alloc (.cells #[.slice A s.l.length c, .int .i64 s.st, .int .i64 s.cu, .int .i64 s.fa] 24)).heap.size = w.heap.size + 1 by simp] at h2
  exact ⟨h1.below (bo1 _ _), ⟨h2⟩, h.below (bo2 _ _ _), bo2 _ _ _⟩

set_option maxRecDepth 100000 in
set_option maxHeartbeats 8000000 in
theorem twice_walk (A : Option Addr) (c : Nat) (s : Sg) (x : Cl) (w : World) (h : CameS w A s.l.length c s.l) (hr : s.l.length * 32 ≤ 140737488355328) (hx : InC x) :
    Calls Try.prog 7 #[sgV A c s, .agg #[.int .i64 x.sp, .bool x.tk, .int .i64 x.tr, .bool x.ok]] w fun e w' => e = .returned (.bool true) ∧ Below w.heap.size w w' := by
  have hin := in_new c x (came_at h hr)
  obtain ⟨t, ht⟩ : ∃ t, outc s x.sp x.tk x.tr x.ok = t := ⟨_, rfl⟩
  obtain ⟨b, hb⟩ : ∃ b, takes s x.sp x.tk x.tr x.ok = b := ⟨_, rfl⟩
  have hno : b = false → t = s := fun e => by rw [e] at hb; rw [← ht]; exact outc_no hb
  have hag : b = true → takes t x.sp x.tk x.tr x.ok = false ∧ outc t x.sp x.tk x.tr x.ok = t ∧ Snd t ∧ aborts t = (t.st == 1) := fun e => by
    rw [e] at hb
    have h1 := takes_again hb
    rw [ht] at h1
    have h2 : Snd t := by rw [← ht]; exact outc_snd (opn_yes (takes_yes hb).1).1 _ _ _ _
    exact ⟨h1, outc_no h1, h2, aborts_st h2⟩
  have HT := Lib.hid ht
  have HB := Lib.hid hb
  have HNO := Lib.hid hno
  have HAG := Lib.hid hag
  obtain ⟨⟨tl, ts, tc, tf⟩, htt⟩ : ∃ q, t = q := ⟨_, rfl⟩
  have hl : tl = s.l := by have := outc_l s x.sp x.tk x.tr x.ok; rw [ht, htt] at this; exact this
  subst hl
  subst htt
  clear ht hb hno hag h hr
  obtain ⟨l, st, cu, fa⟩ := s
  obtain ⟨sp, tk, tr, ok⟩ := x
  simp only at hin HT HB HNO HAG ⊢
  unfold sgV
  simp only
  obtain ⟨w0, hw0⟩ : ∃ w0, (w.alloc (.cells #[.slice A l.length c, .int .i64 st, .int .i64 cu, .int .i64 fa] 24)).alloc (.cells #[.int .i64 sp, .bool tk, .int .i64 tr, .bool ok] 26) = w0 := ⟨_, rfl⟩
  rw [hw0] at hin
  have HW0 := Lib.hid hw0
  have HIN := Lib.hid hin
  clear hw0 hin hx
  go_enter Try.func7, Try.ntmps7
  go_wp2_with fail
  rw [HW0.out]
  go_wp2_with fail
  refine (begun_true _).mono ?_
  rintro e w1 ⟨rfl, hb1⟩
  have hi := HIN.out.below hb1
  have z0 := hi.sb.c0
  have z1 := hi.sb.c1
  have z2 := hi.sb.c2
  have z3 := hi.sb.c3
  have zlt := hi.sb.lt
  have y0 := hi.cb.c0
  have y1 := hi.cb.c1
  have y2 := hi.cb.c2
  have y3 := hi.cb.c3
  have ylt := hi.cb.lt
  have HI1 := Lib.hid hi
  clear hi hb1
  go_wp2_with fail
  with_reducible refine (outcome_lit c HI1.out.at_ sp tk tr ok HT HB).mono ?_
  rintro e w2 ⟨A2, k2, rfl, ha2, hf2, hb2⟩
  clear z0 z1 z2 z3 zlt y0 y1 y2 y3 ylt
  have hi2 := HI1.out.below hb2
  have hs2 : SB w1 (w2.alloc (.cells #[.slice A2 l.length k2, .int .i64 ts, .int .i64 tc, .int .i64 tf] 24)) w2.heap.size A2 k2 ⟨l, ts, tc, tf⟩ := sb_new (s := ⟨l, ts, tc, tf⟩) hb2 ha2
  have hi3 := hi2.below (bo1 w2 (.cells #[.slice A2 l.length k2, .int .i64 ts, .int .i64 tc, .int .i64 tf] 24))
  obtain ⟨w3, hw3⟩ : ∃ w3, w2.alloc (.cells #[.slice A2 l.length k2, .int .i64 ts, .int .i64 tc, .int .i64 tf] 24) = w3 := ⟨_, rfl⟩
  obtain ⟨p, hp⟩ : ∃ p, w2.heap.size = p := ⟨_, rfl⟩
  rw [hw3] at hs2 hi3
  rw [hp] at hs2
  have HW3 := Lib.hid hw3
  have HP := Lib.hid hp
  have HS3 := Lib.hid hs2
  have HI3 := Lib.hid hi3
  have hi := hi2
  have z0 := hi.sb.c0
  have z1 := hi.sb.c1
  have z2 := hi.sb.c2
  have z3 := hi.sb.c3
  have zlt := hi.sb.lt
  have y0 := hi.cb.c0
  have y1 := hi.cb.c1
  have y2 := hi.cb.c2
  have y3 := hi.cb.c3
  have ylt := hi.cb.lt
  clear hw3 hp hs2 hi3 hi2 ha2 hf2 hb2 hi
  cases b
  · have heq := HNO.out rfl
    obtain ⟨rfl, rfl, rfl⟩ : ts = st ∧ tc = cu ∧ tf = fa := by
      simp only [Sg.mk.injEq, true_and] at heq
      exact heq
    go_wp2_with fail
    rw [HW3.out]
    try rw [HP.out]
    go_wp2_with fail
    with_reducible refine (rsame_lit (b := true) c k2 HI3.out.at_ HS3.out.at_ (by simp)).mono ?_
    rintro e w4 ⟨rfl, hb4⟩
    go_wp2
    go_ret
    exact ⟨rfl, (HI3.out.below hb4).bel⟩
  · obtain ⟨hag1, hag2, hsn, hab⟩ := HAG.out rfl
    have HA1 := Lib.hid hag1
    have HA2 := Lib.hid hag2
    have HSN := Lib.hid hsn
    have HAB := Lib.hid hab
    clear hag1 hag2 hsn hab HAG HNO
    go_wp2_with fail
    rw [HW3.out]
    try rw [HP.out]
    go_wp2_with fail
    with_reducible refine (outcome_lit k2 HS3.out.at_ sp tk tr ok HA2 HA1).mono ?_
    rintro e w4 ⟨A4, k4, rfl, ha4, hf4, hb4⟩
    clear z0 z1 z2 z3 zlt y0 y1 y2 y3 ylt
    have h5 := (HS3.out.below hb4).below (bo1 w4 (.cells #[.slice A4 l.length k4, .int .i64 ts, .int .i64 tc, .int .i64 tf] 24))
    have u5 := sb_new (c := k4) (s := ⟨l, ts, tc, tf⟩) ((HS3.out.below hb4).bel) ha4
    simp only at u5
    obtain ⟨w5, hw5⟩ : ∃ w5, w4.alloc (.cells #[.slice A4 l.length k4, .int .i64 ts, .int .i64 tc, .int .i64 tf] 24) = w5 := ⟨_, rfl⟩
    obtain ⟨q, hq⟩ : ∃ q, w4.heap.size = q := ⟨_, rfl⟩
    rw [hw5] at h5 u5
    rw [hq] at u5
    have HW5 := Lib.hid hw5
    have HQ := Lib.hid hq
    have HS5 := Lib.hid h5
    have HU5 := Lib.hid u5
    have h3 := HS3.out.below hb4
    have t0 := h3.box.c0
    have t1 := h3.box.c1
    have t2 := h3.box.c2
    have t3 := h3.box.c3
    have tlt := h3.box.lt
    clear hw5 hq h5 u5 h3 ha4 hf4 hb4
    obtain ⟨vv, hv⟩ : ∃ v, abort ⟨l, ts, tc, tf⟩ = v := ⟨_, rfl⟩
    have hvs : Snd vv := by rw [← hv]; exact abort_snd HSN.out
    have hvl : vv.l = l := by rw [← hv]; exact abort_l _
    obtain ⟨vl, vs, vc, vf⟩ := vv
    simp only at hvl
    subst hvl
    have HV := Lib.hid hv
    have HVS := Lib.hid (sound_mk hvs)
    clear hv hvs
    go_wp2_with fail
    rw [HW5.out]
    try rw [HQ.out]
    go_wp2_with fail
    with_reducible refine (abort_lit k2 HS5.out.at_ HV HAB).mono ?_
    rintro e w6 ⟨A6, k6, rfl, ha6, hf6, hb6⟩
    clear t0 t1 t2 t3 tlt
    have h7 := (HS5.out.below hb6).below (bo1 w6 (.cells #[.slice A6 vl.length k6, .int .i64 vs, .int .i64 vc, .int .i64 vf] 24))
    have u7 := (HU5.out.below hb6).below (bo1 w6 (.cells #[.slice A6 vl.length k6, .int .i64 vs, .int .i64 vc, .int .i64 vf] 24))
    have v7 := sb_new (c := k6) (s := ⟨vl, vs, vc, vf⟩) ((HS5.out.below hb6).bel) ha6
    simp only at v7
    obtain ⟨w7, hw7⟩ : ∃ w7, w6.alloc (.cells #[.slice A6 vl.length k6, .int .i64 vs, .int .i64 vc, .int .i64 vf] 24) = w7 := ⟨_, rfl⟩
    obtain ⟨r, hr⟩ : ∃ r, w6.heap.size = r := ⟨_, rfl⟩
    rw [hw7] at h7 u7 v7
    rw [hr] at v7
    have HW7 := Lib.hid hw7
    have HR := Lib.hid hr
    have HS7 := Lib.hid h7
    have HU7 := Lib.hid u7
    have HV7 := Lib.hid v7
    have h6 := HS5.out.below hb6
    have u6 := HU5.out.below hb6
    have t0 := h6.box.c0
    have t1 := h6.box.c1
    have t2 := h6.box.c2
    have t3 := h6.box.c3
    have tlt := h6.box.lt
    have u0 := u6.box.c0
    have u1 := u6.box.c1
    have u2 := u6.box.c2
    have u3 := u6.box.c3
    have ult := u6.box.lt
    clear hw7 hr h7 u7 v7 h6 u6 ha6 hf6 hb6
    go_wp2_with fail
    rw [HW7.out]
    try rw [HR.out]
    go_wp2_with fail
    with_reducible refine (rsame_lit (b := true) k2 k4 HS7.out.at_ HU7.out.at_ (by simp)).mono ?_
    rintro e w8 ⟨rfl, hb8⟩
    clear t0 t1 t2 t3 tlt u0 u1 u2 u3 ult
    have h8 := HS7.out.below hb8
    have v8 := HV7.out.below hb8
    have HV8 := Lib.hid v8
    have HS8 := Lib.hid h8
    have t0 := h8.box.c0
    have t1 := h8.box.c1
    have t2 := h8.box.c2
    have t3 := h8.box.c3
    have tlt := h8.box.lt
    have v0 := v8.box.c0
    have v1 := v8.box.c1
    have v2 := v8.box.c2
    have v3 := v8.box.c3
    have vlt := v8.box.lt
    clear h8 v8 hb8
    go_wp2_with fail
    with_reducible refine (sound_lit k6 HV8.out.at_ HVS).mono ?_
    rintro e w9 ⟨rfl, hb9⟩
    go_wp2
    go_ret
    exact ⟨rfl, HI1.out.bel.trans ((HV8.out.below hb9).bel.mono HI1.out.bel.size)⟩
end Go.Proofs.Ytbppfndlfonoiaa.LawA
