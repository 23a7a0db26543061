/- What the program's Encode answers, walked. No statement is proved here. -/
import Derived.Test.YtoehjijnkbmgmaaWalkA
import Derived.Test.YtoehjijnkbmgmaaPlnWalkC
import Derived.Deep.RegionHeld3
set_option linter.unusedVariables false
set_option linter.unusedSimpArgs false
namespace Go.Proofs.Ytoehjijnkbmgmaa.WalkB
open Go.RowKit Go.Proofs.Ytoehjijnkbmgmaa.Kit Go.Proofs.Ytoehjijnkbmgmaa.Rdr Go.Proofs.Ytoehjijnkbmgmaa.Stq Go.Proofs.Ytoehjijnkbmgmaa.Pln Go.Proofs.Ytoehjijnkbmgmaa.Wtr Go.Proofs.Ytoehjijnkbmgmaa.Cmd Go.Proofs.Ytoehjijnkbmgmaa.CmdAt Go.Proofs.Ytoehjijnkbmgmaa.WalkA
open Go.Proofs.Ytoehjijnkbmgmaa.Num (num)
open Go.Proofs.Ytoehjijnkbmgmaa.PckWalkB (text bit)
open Go.Proofs.Ytoehjijnkbmgmaa.PckWalkH (str str_size str_append)

/-- What Encode answers. -/
def Enc (w : World) (s : ByteArray) (z : Int) (e : Ending) (w' : World) : Prop := e = .returned (.tuple #[.string s, .int .i64 z]) ∧ Below w.heap.size w w'
theorem empty_lit : ByteArray.empty = ⟨#[]⟩ := rfl
set_option maxRecDepth 100000 in
set_option maxHeartbeats 2000000 in
theorem enc_no44 {w : World} {A : Option Addr} {n : Nat} (c : Nat) {m : Cm} (h : CAt w A n m) (hk : m.k = 2) (hc : chk m.l = 44) : Calls Try.prog 10 #[cmV A n c m] w (Enc w ByteArray.empty 44) := by
  obtain ⟨w1, HW, hx, h1, hb⟩ := cm_box c h
  have HCHK := Lib.hid (PlnWalkA.check_any (c := c) h1.rs h1.n63 h1.nm (Lib.hid hc))
  clear h h1
  obtain ⟨k, ss, sq, sg, l, st, bk, tr, ok, nw⟩ := m
  unfold cmV
  simp only at hk hc HW hx HCHK ⊢
  subst hk
  have HB := Lib.hid hb
  have HX := Lib.hid hx
  obtain ⟨x0, x1, x2, x3, x4, x5, x6, x7, x8, x9⟩ := hx.all
  clear hx hb hc
  go_enter Try.func10, Try.ntmps10
  go_wp2_with fail
  rw [HW.out]
  with_reducible refine HCHK.out.mono ?_
  rintro e w2 ⟨rfl, hb2⟩
  go_wp2
  go_ret2
  exact ⟨rfl, HB.out.trans (hb2.mono HB.out.size)⟩
set_option maxRecDepth 100000 in
set_option maxHeartbeats 2000000 in
theorem enc_no2 {w : World} {A : Option Addr} {n : Nat} (c : Nat) {m : Cm} (h : CAt w A n m) (hk : m.k = 2) (hc : chk m.l = 0) (hm : mayB m = false) : Calls Try.prog 10 #[cmV A n c m] w (Enc w ByteArray.empty 1) := by
  obtain ⟨w1, HW, hx, h1, hb⟩ := cm_box c h
  have HCHK := Lib.hid (PlnWalkA.check_any (c := c) h1.rs h1.n63 h1.nm (Lib.hid hc))
  have HMAY := Lib.hid (fun w' (hb : Below w1.heap.size w1 w') => may_any c (h1.below hb))
  have HREF := Lib.hid (Below.refl w1.heap.size w1)
  clear h h1
  rw [hm] at HMAY
  obtain ⟨k, ss, sq, sg, l, st, bk, tr, ok, nw⟩ := m
  unfold cmV at HMAY ⊢
  simp only at hk hc HW hx HCHK HMAY hm ⊢
  subst hk
  have HB := Lib.hid hb
  have HX := Lib.hid hx
  obtain ⟨x0, x1, x2, x3, x4, x5, x6, x7, x8, x9⟩ := hx.all
  clear hx hb hm hc
  go_enter Try.func10, Try.ntmps10
  go_wp2_with fail
  rw [HW.out]
  with_reducible refine HCHK.out.mono ?_
  rintro e w2 ⟨rfl, hb2⟩
  obtain ⟨y0, y1, y2, y3, y4, y5, y6, y7, y8, y9⟩ := (HX.out.below hb2).all
  have HM := HMAY.out w2 hb2
  have hb3 := HB.out.trans (hb2.mono HB.out.size)
  clear x0 x1 x2 x3 x4 x5 x6 x7 x8 x9 hb2
  go_wp2_with fail
  with_reducible refine HM.mono ?_
  rintro e w3 ⟨rfl, hb4⟩
  go_wp2
  go_ret2
  exact ⟨rfl, hb3.trans (hb4.mono hb3.size)⟩
set_option maxRecDepth 100000 in
set_option maxHeartbeats 2000000 in
theorem enc_noo {w : World} {A : Option Addr} {n : Nat} (c : Nat) {m : Cm} (h : CAt w A n m) (hk : m.k ≠ 2) (hm : mayB m = false) : Calls Try.prog 10 #[cmV A n c m] w (Enc w ByteArray.empty 1) := by
  obtain ⟨w1, HW, hx, h1, hb⟩ := cm_box c h
  have HMAY := Lib.hid (fun w' (hb : Below w1.heap.size w1 w') => may_any c (h1.below hb))
  have HREF := Lib.hid (Below.refl w1.heap.size w1)
  have hk2 : (m.k == 2) = false := by simp only [beq_eq_false_iff_ne, ne_eq]; exact hk
  clear h h1
  rw [hm] at HMAY
  obtain ⟨k, ss, sq, sg, l, st, bk, tr, ok, nw⟩ := m
  unfold cmV at HMAY ⊢
  simp only at hk2 HW hx HMAY hm ⊢
  have HB := Lib.hid hb
  have HX := Lib.hid hx
  obtain ⟨x0, x1, x2, x3, x4, x5, x6, x7, x8, x9⟩ := hx.all
  clear hx hb hm hk
  go_enter Try.func10, Try.ntmps10
  go_wp2_with fail
  rw [HW.out]
  go_wp2_with fail
  with_reducible refine (HMAY.out w1 HREF.out).mono ?_
  rintro e w3 ⟨rfl, hb4⟩
  go_wp2
  go_ret2
  exact ⟨rfl, HB.out.trans (hb4.mono HB.out.size)⟩
set_option maxRecDepth 100000 in
set_option maxHeartbeats 8000000 in
theorem enc_p {w : World} {A : Option Addr} {n : Nat} (c : Nat) {m : Cm} (h : CAt w A n m) (hm : mayB m = true) (k2 : (m.k == 2) = false) (k4 : (m.k == 4) = false) : Calls Try.prog 10 #[cmV A n c m] w (Enc w (str (cmB m)) 0) := by
  obtain ⟨w1, HW, hx, h1, hb⟩ := cm_box c h
  have hfin := h.fin
  have hrs1 := h1.rs
  have HMAY := Lib.hid (fun w' (hb : Below w1.heap.size w1 w') => may_any c (h1.below hb))
  have HREF := Lib.hid (Below.refl w1.heap.size w1)
  rw [hm] at HMAY
  obtain ⟨k, ss, sq, sg, l, st, bk, tr, ok, nw⟩ := m
  obtain ⟨f1, f2, f3, f4⟩ := hfin
  unfold cmV at HMAY ⊢
  simp only at f1 f2 f3 f4 k2 k4 HW hx hm hrs1 HMAY ⊢
  have f0 := u64_lt k
  have z0 := u64_wrap k
  obtain ⟨S, hS⟩ : ∃ S, str (cmB ⟨k, ss, sq, sg, l, st, bk, tr, ok, nw⟩) = S := ⟨_, rfl⟩
  rw [hS]
  unfold cmB tailB at hS
  simp only at hS
  have k2' : ¬ k = 2 := by simpa using k2
  have k4' : ¬ k = 4 := by simpa using k4
  rw [if_neg k2', if_neg k4', List.append_nil] at hS
  clear k2' k4'
  obtain ⟨m0, hm0⟩ : ∃ x, u64 k = x := ⟨_, rfl⟩
  rw [hm0] at f0 z0 hS
  obtain ⟨l1, e1⟩ : ∃ l, [] ++ num m0 = l := ⟨_, rfl⟩
  obtain ⟨l2, e2⟩ : ∃ l, l1 ++ num ss = l := ⟨_, rfl⟩
  obtain ⟨l3, e3⟩ : ∃ l, l2 ++ num sq = l := ⟨_, rfl⟩
  obtain ⟨l4, e4⟩ : ∃ l, l3 ++ num sg = l := ⟨_, rfl⟩
  obtain ⟨l5, e5⟩ : ∃ l, l4 ++ num nw = l := ⟨_, rfl⟩
  have s1 : l1.length ≤ 9 := by rw [← e1, List.nil_append]; exact num9 f0
  have s2 : l2.length ≤ 18 := by rw [← e2, List.length_append]; have := num9 f1; omega
  have s3 : l3.length ≤ 27 := by rw [← e3, List.length_append]; have := num9 f2; omega
  have s4 : l4.length ≤ 36 := by rw [← e4, List.length_append]; have := num9 f3; omega
  have s5 : l5.length ≤ 45 := by rw [← e5, List.length_append]; have := num9 f4; omega
  have s1 : l1.length ≤ 140737488355000 := by omega
  have s2 : l2.length ≤ 140737488355000 := by omega
  have s3 : l3.length ≤ 140737488355000 := by omega
  have s4 : l4.length ≤ 140737488355000 := by omega
  have HS : Hid (str l5 = S) := by
    have : str l5 = S := by rw [← hS, ← e5, ← e4, ← e3, ← e2, ← e1]; simp [List.append_assoc]
    exact this
  have E1 := Lib.hid e1
  have E2 := Lib.hid e2
  have E3 := Lib.hid e3
  have E4 := Lib.hid e4
  have E5 := Lib.hid e5
  have HB := Lib.hid hb
  obtain ⟨G, hG⟩ : ∃ G, w.heap.size = G := ⟨_, rfl⟩
  rw [hG] at hx
  have HX := Lib.hid hx
  obtain ⟨x0, x1, x2, x3, x4, x5, x6, x7, x8, x9⟩ := hx.all
  have hG1 := hx.lt
  have HG := Lib.hid hG
  clear hx hb hm e1 e2 e3 e4 e5 hS hm0 s5 h h1 hrs1
  go_enter Try.func10, Try.ntmps10
  go_wp2_with fail
  rw [HW.out]
  go_wp2_with fail
  with_reducible refine (HMAY.out w1 HREF.out).mono ?_
  rintro e w3 ⟨rfl, hb3⟩
  clear x0 x1 x2 x3 x4 x5 x6 x7 x8 x9
  have hx3 := HX.out.below hb3
  obtain ⟨y0, y1, y2, y3, y4, y5, y6, y7, y8, y9⟩ := hx3.all
  have hGl := hx3.lt
  have HB3 := Lib.hid (HB.out.trans (hb3.mono HB.out.size))
  have hW0 := new_wrt w3
  clear hx3 hb3 hG HX hG1
  go_wp2_with fail
  with_reducible refine (wrt_num m0 hW0 f0 (by decide) E1).mono ?_
  rintro e w4 ⟨rfl, hW1⟩
  have hD := hW1.drew
  clear hW0
  go_wp2_with fail
  go_region_held3 (fun W => W.cell? ⟨G, 1, none⟩ = some (.int .u64 (ss : Int)) ∧ W.cell? ⟨G, 2, none⟩ = some (.int .u64 (sq : Int)) ∧ W.cell? ⟨G, 3, none⟩ = some (.int .u64 (sg : Int)) ∧ W.cell? ⟨G, 9, none⟩ = some (.int .u64 (nw : Int)))
    (first
      | exact ⟨hD.cell y1 hGl, hD.cell y2 hGl, hD.cell y3 hGl, hD.cell y9 hGl⟩
      | exact ⟨hA.cell y1 hGl, hA.cell y2 hGl, hA.cell y3 hGl, hA.cell y9 hGl⟩
      | exact ⟨hBB.cell y1 hGl, hBB.cell y2 hGl, hBB.cell y3 hGl, hBB.cell y9 hGl⟩
      | exact ⟨hC.cell y1 hGl, hC.cell y2 hGl, hC.cell y3 hGl, hC.cell y9 hGl⟩
      | exact ⟨hDD.cell y1 hGl, hDD.cell y2 hGl, hDD.cell y3 hGl, hDD.cell y9 hGl⟩)
    (first
      | (go_at_call 22
         (with_reducible refine (wrt_num ss hD f1 s1 E2).mono ?_)
         rintro e wA ⟨rfl, hA⟩)
      | (go_at_call 22
         (with_reducible refine (wrt_num sq hA f2 s2 E3).mono ?_)
         rintro e wB ⟨rfl, hBB⟩)
      | (go_at_call 22
         (with_reducible refine (wrt_num sg hBB f3 s3 E4).mono ?_)
         rintro e wC ⟨rfl, hC⟩)
      | (go_at_call 22
         (with_reducible refine (wrt_num nw hC f4 s4 E5).mono ?_)
         rintro e wD ⟨rfl, hDD⟩))
  clear hC hBB hA hD hW1
  have p0 := hDD.cell y0 hGl
  have hGD := Nat.lt_of_lt_of_le hGl hDD.bel.size
  go_wp2_with fail
  with_reducible refine (wrt_bytes hDD HS).mono ?_
  rintro e w5 ⟨rfl, hW5⟩
  go_wp2
  go_ret2
  exact ⟨rfl, HB3.out.trans (hW5.bel.mono HB3.out.size)⟩
set_option maxRecDepth 100000 in
set_option maxHeartbeats 8000000 in
theorem enc_s {w : World} {A : Option Addr} {n : Nat} (c : Nat) {m : Cm} (h : CAt w A n m) (hm : mayB m = true) (k2 : m.k = 2) (hc : chk m.l = 0) : Calls Try.prog 10 #[cmV A n c m] w (Enc w (str (cmB m)) 0) := by
  obtain ⟨w1, HW, hx, h1, hb⟩ := cm_box c h
  have hfin := h.fin
  have hrs1 := h1.rs
  have HCHK := Lib.hid (PlnWalkA.check_any (c := c) h1.rs h1.n63 h1.nm (Lib.hid hc))
  have hdef := isDef_yes (chk_def hc)
  have hple := planB_le (chk_def hc)
  have HMAY := Lib.hid (fun w' (hb : Below w1.heap.size w1 w') => may_any c (h1.below hb))
  have HREF := Lib.hid (Below.refl w1.heap.size w1)
  rw [hm] at HMAY
  obtain ⟨k, ss, sq, sg, l, st, bk, tr, ok, nw⟩ := m
  obtain ⟨f1, f2, f3, f4⟩ := hfin
  unfold cmV at HMAY ⊢
  simp only at f1 f2 f3 f4 k2 hc hdef hple HW hx hm hrs1 HCHK HMAY ⊢
  have f0 := u64_lt k
  have z0 := u64_wrap k
  obtain ⟨S, hS⟩ : ∃ S, str (cmB ⟨k, ss, sq, sg, l, st, bk, tr, ok, nw⟩) = S := ⟨_, rfl⟩
  rw [hS]
  unfold cmB tailB at hS
  simp only at hS
  rw [if_pos k2] at hS
  subst k2
  obtain ⟨m0, hm0⟩ : ∃ x, u64 2 = x := ⟨_, rfl⟩
  rw [hm0] at f0 z0 hS
  obtain ⟨l1, e1⟩ : ∃ l, [] ++ num m0 = l := ⟨_, rfl⟩
  obtain ⟨l2, e2⟩ : ∃ l, l1 ++ num ss = l := ⟨_, rfl⟩
  obtain ⟨l3, e3⟩ : ∃ l, l2 ++ num sq = l := ⟨_, rfl⟩
  obtain ⟨l4, e4⟩ : ∃ l, l3 ++ num sg = l := ⟨_, rfl⟩
  obtain ⟨l5, e5⟩ : ∃ l, l4 ++ num nw = l := ⟨_, rfl⟩
  have s1 : l1.length ≤ 9 := by rw [← e1, List.nil_append]; exact num9 f0
  have s2 : l2.length ≤ 18 := by rw [← e2, List.length_append]; have := num9 f1; omega
  have s3 : l3.length ≤ 27 := by rw [← e3, List.length_append]; have := num9 f2; omega
  have s4 : l4.length ≤ 36 := by rw [← e4, List.length_append]; have := num9 f3; omega
  have s5 : l5.length ≤ 45 := by rw [← e5, List.length_append]; have := num9 f4; omega
  have s1 : l1.length ≤ 140737488355000 := by omega
  have s2 : l2.length ≤ 140737488355000 := by omega
  have s3 : l3.length ≤ 140737488355000 := by omega
  have s4 : l4.length ≤ 140737488355000 := by omega
  obtain ⟨l6, e6⟩ : ∃ x, l5 ++ planB l = x := ⟨_, rfl⟩
  have hn := RS.len hrs1
  have hnm : nms l + n * 27 ≤ 5000 := by
    have : nms l ≤ l.length * 16 := by
      have h3 := hdef.2.2
      clear hS hrs1 hn e6 HW hx HCHK HMAY hdef hple hm hc h h1
      induction l with
      | nil => simp [nms]
      | cons e l ih =>
        have := (okS_yes (h3 e List.mem_cons_self)).2.2.2.1
        have := ih fun x hx => h3 x (List.mem_cons_of_mem _ hx)
        rw [nms_cons, List.length_cons]; omega
    have := hdef.2.1
    omega
  have hroom : l5.length + nms l + n * 27 ≤ 140737488000000 := by omega
  have HS : Hid (str l6 = S) := by
    have : str l6 = S := by rw [← hS, ← e6, ← e5, ← e4, ← e3, ← e2, ← e1]; simp [List.append_assoc]
    exact this
  have E6 := Lib.hid e6
  have HRS := Lib.hid hrs1
  clear e6 hn hnm hdef hple hc
  have E1 := Lib.hid e1
  have E2 := Lib.hid e2
  have E3 := Lib.hid e3
  have E4 := Lib.hid e4
  have E5 := Lib.hid e5
  have HB := Lib.hid hb
  obtain ⟨G, hG⟩ : ∃ G, w.heap.size = G := ⟨_, rfl⟩
  rw [hG] at hx
  have HX := Lib.hid hx
  obtain ⟨x0, x1, x2, x3, x4, x5, x6, x7, x8, x9⟩ := hx.all
  have hG1 := hx.lt
  have HG := Lib.hid hG
  clear hx hb hm e1 e2 e3 e4 e5 hS hm0 s5 h h1 hrs1
  go_enter Try.func10, Try.ntmps10
  go_wp2_with fail
  rw [HW.out]
  with_reducible refine HCHK.out.mono ?_
  rintro e wc ⟨rfl, hbc⟩
  obtain ⟨y0, y1, y2, y3, y4, y5, y6, y7, y8, y9⟩ := (HX.out.below hbc).all
  clear x0 x1 x2 x3 x4 x5 x6 x7 x8 x9
  go_wp2_with fail
  with_reducible refine (HMAY.out wc hbc).mono ?_
  rintro e w3 ⟨rfl, hb3'⟩
  have hb3 := hbc.trans (hb3'.mono hbc.size)
  clear y0 y1 y2 y3 y4 y5 y6 y7 y8 y9 hb3' hbc
  have hx3 := HX.out.below hb3
  obtain ⟨y0, y1, y2, y3, y4, y5, y6, y7, y8, y9⟩ := hx3.all
  have hGl := hx3.lt
  have HB3 := Lib.hid (HB.out.trans (hb3.mono HB.out.size))
  have hW0 := new_wrt w3
  have hrs3 := rs_later HRS.out hb3
  clear hx3 hb3 hG HX hG1
  go_wp2_with fail
  with_reducible refine (wrt_num m0 hW0 f0 (by decide) E1).mono ?_
  rintro e w4 ⟨rfl, hW1⟩
  have hD := hW1.drew
  clear hW0
  go_wp2_with fail
  go_region_held3 (fun W => W.cell? ⟨G, 1, none⟩ = some (.int .u64 (ss : Int)) ∧ W.cell? ⟨G, 2, none⟩ = some (.int .u64 (sq : Int)) ∧ W.cell? ⟨G, 3, none⟩ = some (.int .u64 (sg : Int)) ∧ W.cell? ⟨G, 9, none⟩ = some (.int .u64 (nw : Int)))
    (first
      | exact ⟨hD.cell y1 hGl, hD.cell y2 hGl, hD.cell y3 hGl, hD.cell y9 hGl⟩
      | exact ⟨hA.cell y1 hGl, hA.cell y2 hGl, hA.cell y3 hGl, hA.cell y9 hGl⟩
      | exact ⟨hBB.cell y1 hGl, hBB.cell y2 hGl, hBB.cell y3 hGl, hBB.cell y9 hGl⟩
      | exact ⟨hC.cell y1 hGl, hC.cell y2 hGl, hC.cell y3 hGl, hC.cell y9 hGl⟩
      | exact ⟨hDD.cell y1 hGl, hDD.cell y2 hGl, hDD.cell y3 hGl, hDD.cell y9 hGl⟩)
    (first
      | (go_at_call 22
         (with_reducible refine (wrt_num ss hD f1 s1 E2).mono ?_)
         rintro e wA ⟨rfl, hA⟩)
      | (go_at_call 22
         (with_reducible refine (wrt_num sq hA f2 s2 E3).mono ?_)
         rintro e wB ⟨rfl, hBB⟩)
      | (go_at_call 22
         (with_reducible refine (wrt_num sg hBB f3 s3 E4).mono ?_)
         rintro e wC ⟨rfl, hC⟩)
      | (go_at_call 22
         (with_reducible refine (wrt_num nw hC f4 s4 E5).mono ?_)
         rintro e wD ⟨rfl, hDD⟩))
  clear hC hBB hA hD hW1
  have p0 := hDD.cell y0 hGl
  have p4 := hDD.cell y4 hGl
  have hGD := Nat.lt_of_lt_of_le hGl hDD.bel.size
  go_wp2_with fail
  with_reducible refine (PlnWalkC.write_any hDD hrs3 hroom E6).mono ?_
  rintro e w6 ⟨rfl, hW6⟩
  go_wp2_with fail
  with_reducible refine (wrt_bytes hW6 HS).mono ?_
  rintro e w5 ⟨rfl, hW5⟩
  go_wp2
  go_ret2
  exact ⟨rfl, HB3.out.trans (hW5.bel.mono HB3.out.size)⟩
set_option maxRecDepth 100000 in
set_option maxHeartbeats 8000000 in
theorem enc_o {w : World} {A : Option Addr} {n : Nat} (c : Nat) {m : Cm} (h : CAt w A n m) (hm : mayB m = true) (k2 : (m.k == 2) = false) (k4 : m.k = 4) : Calls Try.prog 10 #[cmV A n c m] w (Enc w (str (cmB m)) 0) := by
  obtain ⟨w1, HW, hx, h1, hb⟩ := cm_box c h
  have hfin := h.fin
  have hrs1 := h1.rs
  have HMAY := Lib.hid (fun w' (hb : Below w1.heap.size w1 w') => may_any c (h1.below hb))
  have HREF := Lib.hid (Below.refl w1.heap.size w1)
  rw [hm] at HMAY
  obtain ⟨k, ss, sq, sg, l, st, bk, tr, ok, nw⟩ := m
  obtain ⟨f1, f2, f3, f4⟩ := hfin
  unfold cmV at HMAY ⊢
  simp only at f1 f2 f3 f4 k2 k4 HW hx hm hrs1 HMAY ⊢
  have f0 := u64_lt k
  have z0 := u64_wrap k
  obtain ⟨S, hS⟩ : ∃ S, str (cmB ⟨k, ss, sq, sg, l, st, bk, tr, ok, nw⟩) = S := ⟨_, rfl⟩
  rw [hS]
  unfold cmB tailB at hS
  simp only at hS
  have k2' : ¬ k = 2 := by simpa using k2
  rw [if_neg k2', if_pos k4] at hS
  clear k2'
  have v1 := u64_lt st
  have v2 := bit_lt bk
  have v3 := u64_lt tr
  have v4 := bit_lt ok
  have q1 := u64_wrap st
  have q3 := u64_wrap tr
  subst k4
  obtain ⟨m0, hm0⟩ : ∃ x, u64 4 = x := ⟨_, rfl⟩
  rw [hm0] at f0 z0 hS
  obtain ⟨m1, hm1⟩ : ∃ x, u64 st = x := ⟨_, rfl⟩
  rw [hm1] at v1 q1 hS
  obtain ⟨m3, hm3⟩ : ∃ x, u64 tr = x := ⟨_, rfl⟩
  rw [hm3] at v3 q3 hS
  obtain ⟨l1, e1⟩ : ∃ l, [] ++ num m0 = l := ⟨_, rfl⟩
  obtain ⟨l2, e2⟩ : ∃ l, l1 ++ num ss = l := ⟨_, rfl⟩
  obtain ⟨l3, e3⟩ : ∃ l, l2 ++ num sq = l := ⟨_, rfl⟩
  obtain ⟨l4, e4⟩ : ∃ l, l3 ++ num sg = l := ⟨_, rfl⟩
  obtain ⟨l5, e5⟩ : ∃ l, l4 ++ num nw = l := ⟨_, rfl⟩
  have s1 : l1.length ≤ 9 := by rw [← e1, List.nil_append]; exact num9 f0
  have s2 : l2.length ≤ 18 := by rw [← e2, List.length_append]; have := num9 f1; omega
  have s3 : l3.length ≤ 27 := by rw [← e3, List.length_append]; have := num9 f2; omega
  have s4 : l4.length ≤ 36 := by rw [← e4, List.length_append]; have := num9 f3; omega
  have s5 : l5.length ≤ 45 := by rw [← e5, List.length_append]; have := num9 f4; omega
  have s1 : l1.length ≤ 140737488355000 := by omega
  have s2 : l2.length ≤ 140737488355000 := by omega
  have s3 : l3.length ≤ 140737488355000 := by omega
  have s4 : l4.length ≤ 140737488355000 := by omega
  obtain ⟨l6, e6⟩ : ∃ x, l5 ++ num m1 = x := ⟨_, rfl⟩
  obtain ⟨l7, e7⟩ : ∃ x, l6 ++ num (bit bk) = x := ⟨_, rfl⟩
  obtain ⟨l8, e8⟩ : ∃ x, l7 ++ num m3 = x := ⟨_, rfl⟩
  obtain ⟨l9, e9⟩ : ∃ x, l8 ++ num (bit ok) = x := ⟨_, rfl⟩
  have t6 : l6.length ≤ 54 := by rw [← e6, List.length_append]; have := num9 v1; omega
  have t7 : l7.length ≤ 63 := by rw [← e7, List.length_append]; have := num9 v2; omega
  have t8 : l8.length ≤ 72 := by rw [← e8, List.length_append]; have := num9 v3; omega
  have t5 : l5.length ≤ 140737488355000 := by omega
  have t6 : l6.length ≤ 140737488355000 := by omega
  have t7 : l7.length ≤ 140737488355000 := by omega
  have t8 : l8.length ≤ 140737488355000 := by omega
  have HS : Hid (str l9 = S) := by
    have : str l9 = S := by rw [← hS, ← e9, ← e8, ← e7, ← e6, ← e5, ← e4, ← e3, ← e2, ← e1]; simp [List.append_assoc]
    exact this
  have E6 := Lib.hid e6
  have E7 := Lib.hid e7
  have E8 := Lib.hid e8
  have E9 := Lib.hid e9
  clear e6 e7 e8 e9 v2 v4
  have E1 := Lib.hid e1
  have E2 := Lib.hid e2
  have E3 := Lib.hid e3
  have E4 := Lib.hid e4
  have E5 := Lib.hid e5
  have HB := Lib.hid hb
  obtain ⟨G, hG⟩ : ∃ G, w.heap.size = G := ⟨_, rfl⟩
  rw [hG] at hx
  have HX := Lib.hid hx
  obtain ⟨x0, x1, x2, x3, x4, x5, x6, x7, x8, x9⟩ := hx.all
  have hG1 := hx.lt
  have HG := Lib.hid hG
  clear hx hb hm e1 e2 e3 e4 e5 hS hm0 s5 h h1 hrs1
  go_enter Try.func10, Try.ntmps10
  go_wp2_with fail
  rw [HW.out]
  go_wp2_with fail
  with_reducible refine (HMAY.out w1 HREF.out).mono ?_
  rintro e w3 ⟨rfl, hb3⟩
  clear x0 x1 x2 x3 x4 x5 x6 x7 x8 x9
  have hx3 := HX.out.below hb3
  obtain ⟨y0, y1, y2, y3, y4, y5, y6, y7, y8, y9⟩ := hx3.all
  have hGl := hx3.lt
  have HB3 := Lib.hid (HB.out.trans (hb3.mono HB.out.size))
  have hW0 := new_wrt w3
  clear hx3 hb3 hG HX hG1
  go_wp2_with fail
  with_reducible refine (wrt_num m0 hW0 f0 (by decide) E1).mono ?_
  rintro e w4 ⟨rfl, hW1⟩
  have hD := hW1.drew
  clear hW0
  go_wp2_with fail
  go_region_held3 (fun W => W.cell? ⟨G, 1, none⟩ = some (.int .u64 (ss : Int)) ∧ W.cell? ⟨G, 2, none⟩ = some (.int .u64 (sq : Int)) ∧ W.cell? ⟨G, 3, none⟩ = some (.int .u64 (sg : Int)) ∧ W.cell? ⟨G, 9, none⟩ = some (.int .u64 (nw : Int)))
    (first
      | exact ⟨hD.cell y1 hGl, hD.cell y2 hGl, hD.cell y3 hGl, hD.cell y9 hGl⟩
      | exact ⟨hA.cell y1 hGl, hA.cell y2 hGl, hA.cell y3 hGl, hA.cell y9 hGl⟩
      | exact ⟨hBB.cell y1 hGl, hBB.cell y2 hGl, hBB.cell y3 hGl, hBB.cell y9 hGl⟩
      | exact ⟨hC.cell y1 hGl, hC.cell y2 hGl, hC.cell y3 hGl, hC.cell y9 hGl⟩
      | exact ⟨hDD.cell y1 hGl, hDD.cell y2 hGl, hDD.cell y3 hGl, hDD.cell y9 hGl⟩)
    (first
      | (go_at_call 22
         (with_reducible refine (wrt_num ss hD f1 s1 E2).mono ?_)
         rintro e wA ⟨rfl, hA⟩)
      | (go_at_call 22
         (with_reducible refine (wrt_num sq hA f2 s2 E3).mono ?_)
         rintro e wB ⟨rfl, hBB⟩)
      | (go_at_call 22
         (with_reducible refine (wrt_num sg hBB f3 s3 E4).mono ?_)
         rintro e wC ⟨rfl, hC⟩)
      | (go_at_call 22
         (with_reducible refine (wrt_num nw hC f4 s4 E5).mono ?_)
         rintro e wD ⟨rfl, hDD⟩))
  clear hC hBB hA hD hW1
  have p0 := hDD.cell y0 hGl
  have hGD := Nat.lt_of_lt_of_le hGl hDD.bel.size
  have hK := hDD.drew
  go_wp2_with fail
  go_region_held3 (fun W => W.cell? ⟨G, 5, none⟩ = some (.int .i64 st) ∧ W.cell? ⟨G, 6, none⟩ = some (.bool bk) ∧ W.cell? ⟨G, 7, none⟩ = some (.int .i64 tr) ∧ W.cell? ⟨G, 8, none⟩ = some (.bool ok))
    (first
      | exact ⟨hK.cell y5 hGl, hK.cell y6 hGl, hK.cell y7 hGl, hK.cell y8 hGl⟩
      | exact ⟨hA.cell y5 hGl, hA.cell y6 hGl, hA.cell y7 hGl, hA.cell y8 hGl⟩
      | exact ⟨hBB.cell y5 hGl, hBB.cell y6 hGl, hBB.cell y7 hGl, hBB.cell y8 hGl⟩
      | exact ⟨hC.cell y5 hGl, hC.cell y6 hGl, hC.cell y7 hGl, hC.cell y8 hGl⟩
      | exact ⟨hEE.cell y5 hGl, hEE.cell y6 hGl, hEE.cell y7 hGl, hEE.cell y8 hGl⟩)
    (first
      | (go_at_call 22
         (with_reducible refine (wrt_num m1 hK v1 t5 E6).mono ?_)
         rintro e wA ⟨rfl, hA⟩)
      | (go_at_call 24
         (with_reducible refine (wrt_bool bk hA t6 E7).mono ?_)
         rintro e wB ⟨rfl, hBB⟩)
      | (go_at_call 22
         (with_reducible refine (wrt_num m3 hBB v3 t7 E8).mono ?_)
         rintro e wC ⟨rfl, hC⟩)
      | (go_at_call 24
         (with_reducible refine (wrt_bool ok hC t8 E9).mono ?_)
         rintro e wD ⟨rfl, hEE⟩))
  clear hC hBB hA hK hDD
  go_wp2_with fail
  with_reducible refine (wrt_bytes hEE HS).mono ?_
  rintro e w5 ⟨rfl, hW5⟩
  go_wp2
  go_ret2
  exact ⟨rfl, HB3.out.trans (hW5.bel.mono HB3.out.size)⟩
/-- The program's Encode of any command. -/
theorem enc_any {w : World} {A : Option Addr} {n : Nat} (c : Nat) {m : Cm} (h : CAt w A n m) : Calls Try.prog 10 #[cmV A n c m] w (Enc w (encS m) (encZ m)) := by
  cases hm : mayB m
  · rw [encS_not hm]
    rcases encZ_not hm with ⟨e, hk, hc⟩ | ⟨e, hc⟩
    · rw [e]; exact enc_no44 c h hk hc
    · rw [e]
      by_cases hk : m.k = 2
      · exact enc_no2 c h hk (hc hk) hm
      · exact enc_noo c h hk hm
  · rw [encS_may hm, encZ_may hm]
    rcases may_kind hm with ⟨hk, _⟩ | ⟨hk, hc, _⟩ | ⟨hk, _⟩
    · exact enc_p c h hm (by simp only [beq_eq_false_iff_ne, ne_eq]; omega) (by simp only [beq_eq_false_iff_ne, ne_eq]; omega)
    · exact enc_s c h hm hk hc
    · exact enc_o c h hm (by simp only [beq_eq_false_iff_ne, ne_eq]; omega) hk
end Go.Proofs.Ytoehjijnkbmgmaa.WalkB
