/- What the document's Encode answers, walked. No statement is proved here. -/
import Derived.Test.YthaepkpmpnofgaaGreatHCmnWalkB
set_option linter.unusedVariables false
set_option linter.unusedSimpArgs false
namespace Go.Proofs.YthaepkpmpnofgaaGreat.CmnWalkC
open Go.RowKit Go.Proofs.YthaepkpmpnofgaaGreat.Kit Go.Proofs.YthaepkpmpnofgaaGreat.Rdr Go.Proofs.YthaepkpmpnofgaaGreat.Stq Go.Proofs.YthaepkpmpnofgaaGreat.Pln Go.Proofs.YthaepkpmpnofgaaGreat.Wtr Go.Proofs.YthaepkpmpnofgaaGreat.Cmd Go.Proofs.YthaepkpmpnofgaaGreat.CmdAt Go.Proofs.YthaepkpmpnofgaaGreat.CmnWalkA Go.Proofs.YthaepkpmpnofgaaGreat.CmnWalkB
open Go.Proofs.YthaepkpmpnofgaaGreat.Num (num)
open Go.Proofs.YthaepkpmpnofgaaGreat.PlnWalkC (rnum_hid)
open Go.Proofs.YthaepkpmpnofgaaGreat.State (cell_at lt_at)
open Go.Proofs.YthaepkpmpnofgaaGreat.PckWalkB (text bit)
open Go.Proofs.YthaepkpmpnofgaaGreat.PckWalkH (str str_size str_append)

/-- Numbers' bytes one behind the other. -/
def numsB (l : List Nat) : List UInt8 := l.flatMap num
theorem numsB_take {l : List Nat} {j : Nat} (hj : j < l.length) : numsB (l.take (j + 1)) = numsB (l.take j) ++ num l[j] := by
  unfold numsB
  rw [List.take_succ_eq_append_getElem hj, List.flatMap_append, List.flatMap_cons, List.flatMap_nil, List.append_nil]
theorem numsB_le (l : List Nat) (h : ∀ x ∈ l, x < 18446744073709551616) : (numsB l).length ≤ l.length * 9 := by
  induction l with
  | nil => simp [numsB]
  | cons x l ih =>
    have h1 := ih fun y hy => h y (List.mem_cons_of_mem _ hy)
    have h2 := num9 (h x List.mem_cons_self)
    have e0 : numsB (x :: l) = num x ++ numsB l := by simp [numsB]
    rw [e0, List.length_append, List.length_cons]
    omega
def ucells (l : List Nat) : List Value := l.map fun (x : Nat) => .int .u64 (x : Int)
theorem ucell {w : World} {g j : Nat} {l : List Nat} {cs : Array Value} {t : TypeId} (h : w.heap[g]? = some (.cells cs t (0, 0))) (e : cs = (ucells l).toArray) (hj : j < l.length) : w.cell? ⟨g, j, none⟩ = some (.int .u64 ((l[j] : Nat) : Int)) := by
  rw [cell_at h, e]
  simp [ucells, hj]
theorem cs3 (a b c : Nat) : #[Value.int .u64 (a : Int), .int .u64 (b : Int), .int .u64 (c : Int)] = (ucells [a, b, c]).toArray := rfl
theorem cs4 (a b c d : Nat) : #[Value.int .u64 (a : Int), .int .u64 (b : Int), .int .u64 (c : Int), .int .u64 (d : Int)] = (ucells [a, b, c, d]).toArray := rfl
theorem cs5 (a b c d e : Nat) : #[Value.int .u64 (a : Int), .int .u64 (b : Int), .int .u64 (c : Int), .int .u64 (d : Int), .int .u64 (e : Int)] = (ucells [a, b, c, d, e]).toArray := rfl
set_option maxRecDepth 100000 in
set_option maxHeartbeats 2000000 in
theorem nums_any {w : World} {g n c : Nat} {L : List Nat} {cs : Array Value} (hrow : w.heap[g]? = some (.cells cs 30 (0, 0))) (hcs : cs = (ucells L).toArray) (hn : L.length = n) (h9 : n ≤ 9) (hLb : ∀ x ∈ L, x < 18446744073709551616) {F : ByteArray} (hF : Hid (str (numsB L) = F)) :
    Calls Tryz.prog 58 #[.slice (some ⟨g, 0, none⟩) n c] w fun e w' => e = .returned (.string F) ∧ Below w.heap.size w w' := by
  have HROW : Hid (∀ j, j < n → ∃ y, L[j]? = some y ∧ y < 18446744073709551616 ∧ w.cell? ⟨g, j, none⟩ = some (.int .u64 (y : Int))) := fun j hj => ⟨L[j], List.getElem?_eq_getElem (by omega), hLb _ (List.getElem_mem _), ucell hrow hcs (by omega)⟩
  have hg := lt_at hrow
  have hlb := numsB_le L hLb
  have HL := Lib.hid hn
  have HLB := Lib.hid hLb
  have h63 : (n : Int) ≤ 9223372036854775807 := by omega
  clear hrow hcs hn hlb hLb
  go_enter Tryz.func58, Tryz.ntmps58
  go_wp2
  go_loopw [3, 4] (fun s x wr => ∃ j : Nat, j ≤ n ∧ x = .int .i64 (j : Int) ∧ s = .string (str (numsB (L.take j))) ∧ Below w.heap.size w wr) (fun _ x _ => n - (intOf x).toNat)
  case atStart => exact ⟨0, by omega, rfl, rfl, Below.refl _ _⟩
  case round =>
    obtain ⟨j, hj, rfl, rfl, hbel⟩ := hrel
    by_cases hjn : j < n
    · have HJ := Lib.hid hjn
      obtain ⟨y, hLy, hyb, hc⟩ := HROW.out j hjn
      have hcell := (hbel.cell (p := ⟨g, j, none⟩) hg).trans hc
      obtain ⟨hjL, hy⟩ := List.getElem?_eq_some_iff.1 hLy
      have htake := numsB_take hjL
      rw [hy] at htake
      have hle := numsB_le (L.take j) fun x hx => HLB.out x (List.mem_of_mem_take hx)
      have hlen : (L.take j).length ≤ 9 := by rw [List.length_take]; omega
      obtain ⟨P, hP⟩ : ∃ P, str (numsB (L.take j)) = P := ⟨_, rfl⟩
      obtain ⟨F1, hF1⟩ : ∃ F, str (num y) = F := ⟨_, rfl⟩
      have hPs : P.size ≤ 81 := by rw [← hP, str_size]; omega
      have hFs : F1.size ≤ 9 := by rw [← hF1, str_size]; exact num9 hyb
      have hsum : P.size + F1.size ≤ 9223372036854775807 := by omega
      have HN : Hid (P ++ F1 = str (numsB (L.take (j + 1)))) := by
        have e1 : P ++ F1 = str (numsB (L.take (j + 1))) := by rw [← hP, ← hF1, str_append, htake]
        exact e1
      have HF1 := Lib.hid hF1
      have hltg := Nat.lt_of_lt_of_le hg hbel.size
      have HBEL := Lib.hid hbel
      rw [hP]
      have hjn' : (j : Int) < (n : Int) := by omega
      have hj0 : (0 : Int) ≤ (j : Int) := by omega
      clear hP hF1 htake hy hle hlen hjL hj hLy hc hbel
      go_wp2_with fail
      with_reducible refine (rnum_hid y _ hyb HF1).mono ?_
      rintro e w4 ⟨rfl, hb4⟩
      have HBN := Lib.hid (HBEL.out.trans (hb4.mono HBEL.out.size))
      clear hb4 hcell
      go_wp2
      go_roundw
      case rel => exact ⟨j + 1, HJ.out, by go_num, by rw [HN.out], HBN.out⟩
      case measure => have := HJ.out; simp [intOf]; omega
    · obtain rfl : j = n := by omega
      have hall : L.take j = L := List.take_of_length_le (by rw [HL.out]; omega)
      rw [hall, hF.out]
      clear hall
      go_wp2
      go_ret
      exact ⟨rfl, hbel⟩
set_option maxRecDepth 100000 in
theorem truth_any (b : Bool) (w : World) : Calls Tryz.prog 60 #[.bool b] w fun e w' => e = .returned (.int .u64 ((bit b : Nat) : Int)) ∧ Below w.heap.size w w' := by
  cases b
  all_goals
    go_enter Tryz.func60, Tryz.ntmps60
    go_wp2
    go_ret
    exact ⟨rfl, Below.refl _ _⟩
set_option maxRecDepth 100000 in
set_option maxHeartbeats 2000000 in
theorem renc_no44 {w : World} {A : Option Addr} {n : Nat} (c : Nat) {m : Cm} (h : CAt w A n m) (hk : m.k = 2) (hc : chk m.l = 44) : Calls Tryz.prog 22 #[cmV A n c m] w (Enc w ByteArray.empty 44) := by
  obtain ⟨w1, HW, hx, h1, hb⟩ := cm_box c h
  have HCHK := Lib.hid (PlnWalkB.rcheck_any (c := c) h1.rs h1.n63 h1.nm (Lib.hid hc))
  clear h h1
  obtain ⟨k, ss, sq, sg, l, st, bk, tr, ok, nw⟩ := m
  unfold cmV
  simp only at hk hc HW hx HCHK ⊢
  subst hk
  have HB := Lib.hid hb
  have HX := Lib.hid hx
  obtain ⟨x0, x1, x2, x3, x4, x5, x6, x7, x8, x9⟩ := hx.all
  clear hx hb hc
  go_enter Tryz.func22, Tryz.ntmps22
  go_wp2_with fail
  rw [HW.out]
  with_reducible refine HCHK.out.mono ?_
  rintro e w2 ⟨rfl, hb2⟩
  go_wp2
  go_ret2
  exact ⟨rfl, HB.out.trans (hb2.mono HB.out.size)⟩
set_option maxRecDepth 100000 in
set_option maxHeartbeats 2000000 in
theorem renc_no2 {w : World} {A : Option Addr} {n : Nat} (c : Nat) {m : Cm} (h : CAt w A n m) (hk : m.k = 2) (hc : chk m.l = 0) (hm : mayB m = false) : Calls Tryz.prog 22 #[cmV A n c m] w (Enc w ByteArray.empty 1) := by
  obtain ⟨w1, HW, hx, h1, hb⟩ := cm_box c h
  have HCHK := Lib.hid (PlnWalkB.rcheck_any (c := c) h1.rs h1.n63 h1.nm (Lib.hid hc))
  have HMAY := Lib.hid (fun w' (hb : Below w1.heap.size w1 w') => rmay_any c (h1.below hb))
  have HREF := Lib.hid (Below.refl w1.heap.size w1)
  clear h h1
  rw [hm] at HMAY
  obtain ⟨k, ss, sq, sg, l, st, bk, tr, ok, nw⟩ := m
  unfold cmV at HMAY ⊢
  simp only at hk hc HW hx HCHK HMAY hm ⊢
  subst hk
  have HB := Lib.hid hb
  have HX := Lib.hid hx
  obtain ⟨x0, x1, x2, x3, x4, x5, x6, x7, x8, x9⟩ := hx.all
  clear hx hb hm hc
  go_enter Tryz.func22, Tryz.ntmps22
  go_wp2_with fail
  rw [HW.out]
  with_reducible refine HCHK.out.mono ?_
  rintro e w2 ⟨rfl, hb2⟩
  obtain ⟨y0, y1, y2, y3, y4, y5, y6, y7, y8, y9⟩ := (HX.out.below hb2).all
  have HM := HMAY.out w2 hb2
  have hb3 := HB.out.trans (hb2.mono HB.out.size)
  clear x0 x1 x2 x3 x4 x5 x6 x7 x8 x9 hb2
  go_wp2_with fail
  with_reducible refine HM.mono ?_
  rintro e w3 ⟨rfl, hb4⟩
  go_wp2
  go_ret2
  exact ⟨rfl, hb3.trans (hb4.mono hb3.size)⟩
set_option maxRecDepth 100000 in
set_option maxHeartbeats 2000000 in
theorem renc_noo {w : World} {A : Option Addr} {n : Nat} (c : Nat) {m : Cm} (h : CAt w A n m) (hk : m.k ≠ 2) (hm : mayB m = false) : Calls Tryz.prog 22 #[cmV A n c m] w (Enc w ByteArray.empty 1) := by
  obtain ⟨w1, HW, hx, h1, hb⟩ := cm_box c h
  have HMAY := Lib.hid (fun w' (hb : Below w1.heap.size w1 w') => rmay_any c (h1.below hb))
  have HREF := Lib.hid (Below.refl w1.heap.size w1)
  have hk2 : (m.k == 2) = false := by simp only [beq_eq_false_iff_ne, ne_eq]; exact hk
  clear h h1
  rw [hm] at HMAY
  obtain ⟨k, ss, sq, sg, l, st, bk, tr, ok, nw⟩ := m
  unfold cmV at HMAY ⊢
  simp only at hk2 HW hx HMAY hm ⊢
  have HB := Lib.hid hb
  have HX := Lib.hid hx
  obtain ⟨x0, x1, x2, x3, x4, x5, x6, x7, x8, x9⟩ := hx.all
  clear hx hb hm hk
  go_enter Tryz.func22, Tryz.ntmps22
  go_wp2_with fail
  rw [HW.out]
  go_wp2_with fail
  with_reducible refine (HMAY.out w1 HREF.out).mono ?_
  rintro e w3 ⟨rfl, hb4⟩
  go_wp2
  go_ret2
  exact ⟨rfl, HB.out.trans (hb4.mono HB.out.size)⟩
set_option maxRecDepth 100000 in
set_option maxHeartbeats 8000000 in
theorem renc_p {w : World} {A : Option Addr} {n : Nat} (c : Nat) {m : Cm} (h : CAt w A n m) (hm : mayB m = true) (k2 : (m.k == 2) = false) (k4 : (m.k == 4) = false) : Calls Tryz.prog 22 #[cmV A n c m] w (Enc w (str (cmB m)) 0) := by
  obtain ⟨w1, HW, hx, h1, hb⟩ := cm_box c h
  have hfin := h.fin
  have hrs1 := h1.rs
  have HMAY := Lib.hid (fun w' (hb : Below w1.heap.size w1 w') => rmay_any c (h1.below hb))
  have HREF := Lib.hid (Below.refl w1.heap.size w1)
  rw [hm] at HMAY
  obtain ⟨k, ss, sq, sg, l, st, bk, tr, ok, nw⟩ := m
  obtain ⟨f1, f2, f3, f4⟩ := hfin
  unfold cmV at HMAY ⊢
  simp only at f1 f2 f3 f4 k2 k4 HW hx hm hrs1 HMAY ⊢
  have f0 := u64_lt k
  have z0 := u64_wrap k
  obtain ⟨S, hS⟩ : ∃ S, str (cmB ⟨k, ss, sq, sg, l, st, bk, tr, ok, nw⟩) = S := ⟨_, rfl⟩
  rw [hS]
  unfold cmB tailB at hS
  simp only at hS
  have k2' : ¬ k = 2 := by simpa using k2
  have k4' : ¬ k = 4 := by simpa using k4
  rw [if_neg k2', if_neg k4', List.append_nil] at hS
  clear k2' k4'
  obtain ⟨m0, hm0⟩ : ∃ x, u64 k = x := ⟨_, rfl⟩
  rw [hm0] at f0 z0 hS
  have hL5 : ∀ x ∈ [m0, ss, sq, sg, nw], x < 18446744073709551616 := by
    intro x hx
    simp only [List.mem_cons, List.not_mem_nil, or_false] at hx
    rcases hx with rfl | rfl | rfl | rfl | rfl <;> assumption
  obtain ⟨F, hF⟩ : ∃ F, str (numsB [m0, ss, sq, sg, nw]) = F := ⟨_, rfl⟩
  have hFs : F.size ≤ 45 := by rw [← hF, str_size]; exact numsB_le _ hL5
  have HS : Hid (F = S) := by
    have : F = S := by rw [← hS, ← hF]; simp [numsB]
    exact this
  have HF := Lib.hid hF
  have HL5 := Lib.hid hL5
  have HB := Lib.hid hb
  obtain ⟨G, hG⟩ : ∃ G, w.heap.size = G := ⟨_, rfl⟩
  rw [hG] at hx
  have HX := Lib.hid hx
  obtain ⟨x0, x1, x2, x3, x4, x5, x6, x7, x8, x9⟩ := hx.all
  have hG1 := hx.lt
  clear hx hb hm hF hS hm0 hFs hL5 h h1 hrs1 f0 f1 f2 f3 f4
  go_enter Tryz.func22, Tryz.ntmps22
  go_wp2_with fail
  rw [HW.out]
  go_wp2_with fail
  with_reducible refine (HMAY.out w1 HREF.out).mono ?_
  rintro e w3 ⟨rfl, hb3⟩
  clear x0 x1 x2 x3 x4 x5 x6 x7 x8 x9
  have hx3 := HX.out.below hb3
  obtain ⟨y0, y1, y2, y3, y4, y5, y6, y7, y8, y9⟩ := hx3.all
  have hGl := hx3.lt
  have HB3 := Lib.hid (HB.out.trans (hb3.mono HB.out.size))
  have HX3 := Lib.hid hx3
  clear hx3 hb3 hG HX hG1
  go_wp2_with fail
  with_reducible refine (nums_any (n := 5) (c := 5) (L := [m0, ss, sq, sg, nw]) (heap_alloc_new _ _) (cs5 _ _ _ _ _) rfl (by decide) HL5.out HF).mono ?_
  rintro e w4 ⟨rfl, hb4⟩
  have hb4' : Below w3.heap.size w3 w4 := (((Below.refl w3.heap.size w3).alloc (Nat.le_refl _) _).trans (hb4.mono (by simp)))
  clear hb4
  have hx4 := HX3.out.below hb4'
  obtain ⟨z0', z1', z2', z3', z4', z5', z6', z7', z8', z9'⟩ := hx4.all
  have hGl4 := hx4.lt
  have HB4 := Lib.hid (HB3.out.trans (hb4'.mono HB3.out.size))
  clear y0 y1 y2 y3 y4 y5 y6 y7 y8 y9 hGl
  clear hx4
  go_wp2
  go_ret2
  exact ⟨by rw [← HS.out]; rfl, HB4.out⟩
set_option maxRecDepth 100000 in
set_option maxHeartbeats 8000000 in
theorem renc_s {w : World} {A : Option Addr} {n : Nat} (c : Nat) {m : Cm} (h : CAt w A n m) (hm : mayB m = true) (k2 : m.k = 2) (hc : chk m.l = 0) : Calls Tryz.prog 22 #[cmV A n c m] w (Enc w (str (cmB m)) 0) := by
  obtain ⟨w1, HW, hx, h1, hb⟩ := cm_box c h
  have hfin := h.fin
  have hrs1 := h1.rs
  have HCHK := Lib.hid (PlnWalkB.rcheck_any (c := c) h1.rs h1.n63 h1.nm (Lib.hid hc))
  have hdef := isDef_yes (chk_def hc)
  have hple := planB_le (chk_def hc)
  have HMAY := Lib.hid (fun w' (hb : Below w1.heap.size w1 w') => rmay_any c (h1.below hb))
  have HREF := Lib.hid (Below.refl w1.heap.size w1)
  rw [hm] at HMAY
  obtain ⟨k, ss, sq, sg, l, st, bk, tr, ok, nw⟩ := m
  obtain ⟨f1, f2, f3, f4⟩ := hfin
  unfold cmV at HMAY ⊢
  simp only at f1 f2 f3 f4 k2 hc hdef hple HW hx hm hrs1 HCHK HMAY ⊢
  have f0 := u64_lt k
  have z0 := u64_wrap k
  obtain ⟨S, hS⟩ : ∃ S, str (cmB ⟨k, ss, sq, sg, l, st, bk, tr, ok, nw⟩) = S := ⟨_, rfl⟩
  rw [hS]
  unfold cmB tailB at hS
  simp only at hS
  rw [if_pos k2] at hS
  subst k2
  obtain ⟨m0, hm0⟩ : ∃ x, u64 2 = x := ⟨_, rfl⟩
  rw [hm0] at f0 z0 hS
  have hL5 : ∀ x ∈ [m0, ss, sq, sg, nw], x < 18446744073709551616 := by
    intro x hx
    simp only [List.mem_cons, List.not_mem_nil, or_false] at hx
    rcases hx with rfl | rfl | rfl | rfl | rfl <;> assumption
  obtain ⟨F, hF⟩ : ∃ F, str (numsB [m0, ss, sq, sg, nw]) = F := ⟨_, rfl⟩
  have hFs : F.size ≤ 45 := by rw [← hF, str_size]; exact numsB_le _ hL5
  have hn := RS.len hrs1
  have hnm : nms l + n * 27 ≤ 5000 := by
    have : nms l ≤ l.length * 16 := by
      have h3 := hdef.2.2
      clear hS hrs1 hn hF HW hx HCHK HMAY hdef hple hm hc h h1
      induction l with
      | nil => simp [nms]
      | cons e l ih =>
        have := (okS_yes (h3 e List.mem_cons_self)).2.2.2.1
        have := ih fun x hx => h3 x (List.mem_cons_of_mem _ hx)
        rw [nms_cons, List.length_cons]; omega
    have := hdef.2.1
    omega
  have hroom : nms l + n * 27 ≤ 140737488000000 := by omega
  obtain ⟨F2, hF2⟩ : ∃ F, str (planB l) = F := ⟨_, rfl⟩
  have hF2s : F2.size ≤ 10000 := by rw [← hF2, str_size]; exact hple
  have hsum : F.size + F2.size ≤ 9223372036854775807 := by omega
  have HS : Hid (F ++ F2 = S) := by
    have : F ++ F2 = S := by rw [← hS, ← hF, ← hF2, str_append]; simp [numsB, List.append_assoc]
    exact this
  have HF2 := Lib.hid hF2
  have HRS := Lib.hid hrs1
  clear hF2 hF2s hn hnm hdef hple hc
  have HF := Lib.hid hF
  have HL5 := Lib.hid hL5
  have HB := Lib.hid hb
  obtain ⟨G, hG⟩ : ∃ G, w.heap.size = G := ⟨_, rfl⟩
  rw [hG] at hx
  have HX := Lib.hid hx
  obtain ⟨x0, x1, x2, x3, x4, x5, x6, x7, x8, x9⟩ := hx.all
  have hG1 := hx.lt
  clear hx hb hm hF hS hm0 hFs hL5 h h1 hrs1 f0 f1 f2 f3 f4
  go_enter Tryz.func22, Tryz.ntmps22
  go_wp2_with fail
  rw [HW.out]
  with_reducible refine HCHK.out.mono ?_
  rintro e wc ⟨rfl, hbc⟩
  obtain ⟨y0, y1, y2, y3, y4, y5, y6, y7, y8, y9⟩ := (HX.out.below hbc).all
  clear x0 x1 x2 x3 x4 x5 x6 x7 x8 x9
  go_wp2_with fail
  with_reducible refine (HMAY.out wc hbc).mono ?_
  rintro e w3 ⟨rfl, hb3'⟩
  have hb3 := hbc.trans (hb3'.mono hbc.size)
  clear y0 y1 y2 y3 y4 y5 y6 y7 y8 y9 hb3' hbc
  have hx3 := HX.out.below hb3
  obtain ⟨y0, y1, y2, y3, y4, y5, y6, y7, y8, y9⟩ := hx3.all
  have hGl := hx3.lt
  have HB3 := Lib.hid (HB.out.trans (hb3.mono HB.out.size))
  have HX3 := Lib.hid hx3
  have HRS3 := Lib.hid (rs_later HRS.out hb3)
  clear hx3 hb3 hG HX hG1
  go_wp2_with fail
  with_reducible refine (nums_any (n := 5) (c := 5) (L := [m0, ss, sq, sg, nw]) (heap_alloc_new _ _) (cs5 _ _ _ _ _) rfl (by decide) HL5.out HF).mono ?_
  rintro e w4 ⟨rfl, hb4⟩
  have hb4' : Below w3.heap.size w3 w4 := (((Below.refl w3.heap.size w3).alloc (Nat.le_refl _) _).trans (hb4.mono (by simp)))
  clear hb4
  have hx4 := HX3.out.below hb4'
  obtain ⟨z0', z1', z2', z3', z4', z5', z6', z7', z8', z9'⟩ := hx4.all
  have hGl4 := hx4.lt
  have HB4 := Lib.hid (HB3.out.trans (hb4'.mono HB3.out.size))
  clear y0 y1 y2 y3 y4 y5 y6 y7 y8 y9 hGl
  have hrs4 := rs_later HRS3.out hb4'
  clear hx4
  go_wp2_with fail
  with_reducible refine (PlnWalkC.bytes_any hrs4 hroom HF2).mono ?_
  rintro e w5 ⟨rfl, hb5⟩
  have u0 := (hb5.cell (p := ⟨G, 0, none⟩) hGl4).trans z0'
  go_wp2
  go_ret2
  exact ⟨by rw [← HS.out]; rfl, HB4.out.trans (hb5.mono HB4.out.size)⟩
set_option maxRecDepth 100000 in
set_option maxHeartbeats 8000000 in
theorem renc_o {w : World} {A : Option Addr} {n : Nat} (c : Nat) {m : Cm} (h : CAt w A n m) (hm : mayB m = true) (k2 : (m.k == 2) = false) (k4 : m.k = 4) : Calls Tryz.prog 22 #[cmV A n c m] w (Enc w (str (cmB m)) 0) := by
  obtain ⟨w1, HW, hx, h1, hb⟩ := cm_box c h
  have hfin := h.fin
  have hrs1 := h1.rs
  have HMAY := Lib.hid (fun w' (hb : Below w1.heap.size w1 w') => rmay_any c (h1.below hb))
  have HREF := Lib.hid (Below.refl w1.heap.size w1)
  rw [hm] at HMAY
  obtain ⟨k, ss, sq, sg, l, st, bk, tr, ok, nw⟩ := m
  obtain ⟨f1, f2, f3, f4⟩ := hfin
  unfold cmV at HMAY ⊢
  simp only at f1 f2 f3 f4 k2 k4 HW hx hm hrs1 HMAY ⊢
  have f0 := u64_lt k
  have z0 := u64_wrap k
  obtain ⟨S, hS⟩ : ∃ S, str (cmB ⟨k, ss, sq, sg, l, st, bk, tr, ok, nw⟩) = S := ⟨_, rfl⟩
  rw [hS]
  unfold cmB tailB at hS
  simp only at hS
  have k2' : ¬ k = 2 := by simpa using k2
  rw [if_neg k2', if_pos k4] at hS
  clear k2'
  have v1 := u64_lt st
  have v2 := bit_lt bk
  have v3 := u64_lt tr
  have v4 := bit_lt ok
  have q1 := u64_wrap st
  have q3 := u64_wrap tr
  subst k4
  obtain ⟨m0, hm0⟩ : ∃ x, u64 4 = x := ⟨_, rfl⟩
  rw [hm0] at f0 z0 hS
  obtain ⟨m1, hm1⟩ : ∃ x, u64 st = x := ⟨_, rfl⟩
  rw [hm1] at v1 q1 hS
  obtain ⟨m3, hm3⟩ : ∃ x, u64 tr = x := ⟨_, rfl⟩
  rw [hm3] at v3 q3 hS
  have hL5 : ∀ x ∈ [m0, ss, sq, sg, nw], x < 18446744073709551616 := by
    intro x hx
    simp only [List.mem_cons, List.not_mem_nil, or_false] at hx
    rcases hx with rfl | rfl | rfl | rfl | rfl <;> assumption
  obtain ⟨F, hF⟩ : ∃ F, str (numsB [m0, ss, sq, sg, nw]) = F := ⟨_, rfl⟩
  have hFs : F.size ≤ 45 := by rw [← hF, str_size]; exact numsB_le _ hL5
  have hL4 : ∀ x ∈ [m1, bit bk, m3, bit ok], x < 18446744073709551616 := by
    intro x hx
    simp only [List.mem_cons, List.not_mem_nil, or_false] at hx
    rcases hx with rfl | rfl | rfl | rfl <;> assumption
  obtain ⟨F2, hF2⟩ : ∃ F, str (numsB [m1, bit bk, m3, bit ok]) = F := ⟨_, rfl⟩
  have hF2s : F2.size ≤ 36 := by rw [← hF2, str_size]; exact numsB_le _ hL4
  have hsum : F.size + F2.size ≤ 9223372036854775807 := by omega
  have hsum' : ¬ 9223372036854775807 < F.size + F2.size := by omega
  have HS : Hid (F ++ F2 = S) := by
    have : F ++ F2 = S := by rw [← hS, ← hF, ← hF2, str_append]; simp [numsB, List.append_assoc]
    exact this
  have HF2 := Lib.hid hF2
  have HL4 := Lib.hid hL4
  clear hF2 hF2s hL4 v1 v2 v3 v4
  have HF := Lib.hid hF
  have HL5 := Lib.hid hL5
  have HB := Lib.hid hb
  obtain ⟨G, hG⟩ : ∃ G, w.heap.size = G := ⟨_, rfl⟩
  rw [hG] at hx
  have HX := Lib.hid hx
  obtain ⟨x0, x1, x2, x3, x4, x5, x6, x7, x8, x9⟩ := hx.all
  have hG1 := hx.lt
  clear hx hb hm hF hS hm0 hFs hL5 h h1 hrs1 f0 f1 f2 f3 f4
  go_enter Tryz.func22, Tryz.ntmps22
  go_wp2_with fail
  rw [HW.out]
  go_wp2_with fail
  with_reducible refine (HMAY.out w1 HREF.out).mono ?_
  rintro e w3 ⟨rfl, hb3⟩
  clear x0 x1 x2 x3 x4 x5 x6 x7 x8 x9
  have hx3 := HX.out.below hb3
  obtain ⟨y0, y1, y2, y3, y4, y5, y6, y7, y8, y9⟩ := hx3.all
  have hGl := hx3.lt
  have HB3 := Lib.hid (HB.out.trans (hb3.mono HB.out.size))
  have HX3 := Lib.hid hx3
  clear hx3 hb3 hG HX hG1
  go_wp2_with fail
  with_reducible refine (nums_any (n := 5) (c := 5) (L := [m0, ss, sq, sg, nw]) (heap_alloc_new _ _) (cs5 _ _ _ _ _) rfl (by decide) HL5.out HF).mono ?_
  rintro e w4 ⟨rfl, hb4⟩
  have hb4' : Below w3.heap.size w3 w4 := (((Below.refl w3.heap.size w3).alloc (Nat.le_refl _) _).trans (hb4.mono (by simp)))
  clear hb4
  have hx4 := HX3.out.below hb4'
  obtain ⟨z0', z1', z2', z3', z4', z5', z6', z7', z8', z9'⟩ := hx4.all
  have hGl4 := hx4.lt
  have HB4 := Lib.hid (HB3.out.trans (hb4'.mono HB3.out.size))
  clear y0 y1 y2 y3 y4 y5 y6 y7 y8 y9 hGl
  have HXX : Hid (∀ W, Below w4.heap.size w4 W → W.cell? ⟨G, 5, none⟩ = some (.int .i64 st) ∧ W.cell? ⟨G, 6, none⟩ = some (.bool bk) ∧ W.cell? ⟨G, 7, none⟩ = some (.int .i64 tr) ∧ W.cell? ⟨G, 8, none⟩ = some (.bool ok)) := fun W k => by
    have hw := hx4.below k
    exact ⟨hw.c5, hw.c6, hw.c7, hw.c8⟩
  have HD := Lib.hid ((Below.refl w4.heap.size w4).drew)
  clear hx4
  go_wp2_with fail
  go_region_held3 (fun W => W.cell? ⟨G, 5, none⟩ = some (.int .i64 st) ∧ W.cell? ⟨G, 6, none⟩ = some (.bool bk) ∧ W.cell? ⟨G, 7, none⟩ = some (.int .i64 tr) ∧ W.cell? ⟨G, 8, none⟩ = some (.bool ok))
    (first
      | exact HXX.out _ HD.out
      | exact HXX.out _ hA
      | exact HXX.out _ hBB
      | exact HXX.out _ (hBB.alloc hBB.size _)
      | exact HXX.out _ hC)
    (first
      | (go_at_call 60
         (with_reducible refine (truth_any bk _).mono ?_)
         rintro e wA ⟨rfl, hx⟩
         have hA := HD.out.trans hx)
      | (go_at_call 60
         (with_reducible refine (truth_any ok _).mono ?_)
         rintro e wB ⟨rfl, hx⟩
         have hBB := hA.trans (hx.mono hA.size))
      | (go_at_call 58
         (with_reducible refine (nums_any (n := 4) (c := 4) (L := [m1, bit bk, m3, bit ok]) (heap_alloc_new _ _) (cs4 _ _ _ _) rfl (by decide) HL4.out HF2).mono ?_)
         rintro e wC ⟨rfl, hx⟩
         have hC := (hBB.alloc hBB.size _).trans (hx.mono (hBB.alloc hBB.size _).size)))
  have HC := Lib.hid (HB4.out.trans (hC.mono HB4.out.size))
  clear hC hBB hA
  go_wp2
  go_ret2
  exact ⟨by rw [← HS.out]; rfl, HC.out⟩
/-- The document's Encode of any command. -/
theorem renc_any {w : World} {A : Option Addr} {n : Nat} (c : Nat) {m : Cm} (h : CAt w A n m) : Calls Tryz.prog 22 #[cmV A n c m] w (Enc w (encS m) (encZ m)) := by
  cases hm : mayB m
  · rw [encS_not hm]
    rcases encZ_not hm with ⟨e, hk, hc⟩ | ⟨e, hc⟩
    · rw [e]; exact renc_no44 c h hk hc
    · rw [e]
      by_cases hk : m.k = 2
      · exact renc_no2 c h hk (hc hk) hm
      · exact renc_noo c h hk hm
  · rw [encS_may hm, encZ_may hm]
    rcases may_kind hm with ⟨hk, _⟩ | ⟨hk, hc, _⟩ | ⟨hk, _⟩
    · exact renc_p c h hm (by simp only [beq_eq_false_iff_ne, ne_eq]; omega) (by simp only [beq_eq_false_iff_ne, ne_eq]; omega)
    · exact renc_s c h hm hk hc
    · exact renc_o c h hm (by simp only [beq_eq_false_iff_ne, ne_eq]; omega) hk
end Go.Proofs.YthaepkpmpnofgaaGreat.CmnWalkC
