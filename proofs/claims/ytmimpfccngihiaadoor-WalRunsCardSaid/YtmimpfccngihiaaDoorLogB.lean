/- A log opened on a disk that is on, walked (tools/gen_log.py writes this text: the ends of both walks are one). -/
import Derived.Test.YtmimpfccngihiaaDoorLog
set_option linter.unusedVariables false
set_option linter.unusedSimpArgs false
namespace Go.Proofs.YtmimpfccngihiaaDoor.LogB
open Go.RowKit Go.Proofs.YtmimpfccngihiaaDoor.Kit Go.Proofs.YtmimpfccngihiaaDoor.Blocks Go.Proofs.YtmimpfccngihiaaDoor.SumB Go.Proofs.YtmimpfccngihiaaDoor.Wal Go.Proofs.YtmimpfccngihiaaDoor.FrA Go.Proofs.YtmimpfccngihiaaDoor.FrC Go.Proofs.YtmimpfccngihiaaDoor.ScA Go.Proofs.YtmimpfccngihiaaDoor.ScB Go.Proofs.YtmimpfccngihiaaDoor.Frm Go.Proofs.YtmimpfccngihiaaDoor.Model Go.Proofs.YtmimpfccngihiaaDoor.Disk Go.Proofs.YtmimpfccngihiaaDoor.Ops Go.Proofs.YtmimpfccngihiaaDoor.Log
open Go.Proofs.YtmimpfccngihiaaDoor.DskWalkC (str Got)
open Go.Proofs.YtmimpfccngihiaaDoor.Model.M
section
variable {B : Nat} {L : List Nat} {w : World} {p N : Nat} {m : M}

set_option maxRecDepth 100000 in
set_option maxHeartbeats 4000000 in
theorem open_old (n : Int) (h : Has B L w p N m) (ht : Tab w) (hgB : 0 < B) (hN : N < 900000) (hn : 0 ≤ n ∧ n < 16) (hoff : m.off = false) (hhas : m.has n = true) :
    Calls Tryd.prog 22 #[.pointer (some ⟨p, 0, none⟩), .int .i64 n] w (Opened B L w p (N + 2) n (wopen m n)) := by
  have hBw := h.low
  have hr := read_has n h (by omega) (by omega)
  have e1 : m.read n = (m.all n.toNat, 0) := by simp [M.read, hoff, hhas]
  rw [e1] at hr
  obtain ⟨W, hW⟩ : ∃ W, wopen m n = W := ⟨_, rfl⟩
  rw [hW]
  obtain ⟨S, hS⟩ : ∃ S, str (m.all n.toNat) = S := ⟨_, rfl⟩
  have hSl : S.data.toList = m.all n.toNat := by rw [← hS]; rfl
  have hSs : S.size ≤ 1000000000 := by
    have := all_le h.fine n.toNat
    rw [← size_list, hSl]
    omega
  have HW : Hid (behind m n S.data.toList = W) := by
    rw [← hW, hSl, wopen_old hn hoff hhas]
    rfl
  obtain ⟨⟨rl, k⟩, hsc⟩ : ∃ q, scan S.data.toList = q := ⟨_, rfl⟩
  have HSc := Lib.hid hsc
  have HR := Lib.hid hr
  have HS := Lib.hid hS
  have h1 := hn.1
  have h2 := hn.2
  have h0 : Keeps B L w w := Keeps.refl B L w
  clear hr e1 hS hSl hW hsc
  go_enter Tryd.func22, Tryd.ntmps22
  go_wp2_with fail
  refine HR.out.mono ?_
  intro e w1 hg
  obtain ⟨rfl, hb1⟩ := Got.lit hg HS rfl
  have hH := h.below hb1
  have hK : Keeps B L w w1 := h0.trans (Keeps.of_below hb1)
  clear hg HR
  go_wp2_with fail
  refine (scan_any S _ (Tab.below ht hgB (hK.below hBw)) hSs).mono ?_
  rintro e w2 ⟨v, rfl, hown, hb2⟩
  rw [HSc.out] at hown
  obtain ⟨A, c, L', rfl, hH2, hsub, hread⟩ := beside_scan hH hown hb2
  have hK2 : Keeps B L w w2 := hK.trans (Keeps.of_below hb2)
  have HRD := Lib.hid hread
  have HSUB := Lib.hid hsub
  clear hread hsub hown
  rw [HSc.out]
  simp only []
  by_cases hks : k < S.size
  · have hki : (k : Int) < (S.size : Int) := by omega
    have hd := replace_has n (S.extract 0 k) hH2 (show N < 1000000 by omega)
    obtain ⟨r2, hr2⟩ : ∃ r2, (m.replace n (S.extract 0 k).data.toList).1 = r2 := ⟨_, rfl⟩
    obtain ⟨m2, hm2⟩ : ∃ m2, (m.replace n (S.extract 0 k).data.toList).2 = m2 := ⟨_, rfl⟩
    have hx : (S.extract 0 k).data.toList = S.data.toList.take k := by rw [extract_list]; simp
    have HW2 : Hid ((if r2 = 0 then ((0, rl), m2) else ((r2, []), m2)) = W) := by
      have := HW.out
      unfold behind at this
      rw [HSc.out, if_pos (show k < S.data.toList.length from hks), ← hx, hr2, hm2] at this
      exact this
    have HR2 := Lib.hid hr2
    have HM2 := Lib.hid hm2
    have HD := Lib.hid hd
    clear hd hr2 hm2 hx HW
    go_wp2_with fail
    refine HD.out.mono ?_
    intro e w3 hd
    obtain ⟨rfl, h3, k3⟩ := Done.lit hd HR2 HM2
    have hR3 := HRD.out w3 k3
    have hK3 : Keeps B L w w3 := hK2.trans (k3.fewer HSUB.out)
    clear hd k3 HD
    by_cases hr : r2 = 0
    · subst hr
      have hW := HW2.out
      rw [if_pos rfl] at hW
      clear HW2
      subst hW
      go_wp2
      go_ret3
      have hbn : Below w3.heap.size w3 (w3.alloc (.cells #[.pointer (some ⟨p, 0, none⟩), .int .i64 n] 86)) := (Below.refl _ _).alloc (Nat.le_refl _) _
      exact .inr ⟨rfl, _, A, c, rfl, heap_alloc_new w3 _, (hR3.below hbn).more hbn.size, (((h3.fewer HSUB.out).beside hbn (Nat.le_refl _) (by simp)).more (by omega)), hK3.trans (Keeps.of_below hbn), hK3.size⟩
    · have hri : (r2 != 0) = true := bne_iff_ne.2 hr
      have hW := HW2.out
      rw [if_neg hr] at hW
      clear HW2
      subst hW
      go_wp2
      go_ret3
      exact .inl ⟨hr, rfl, ((h3.fewer HSUB.out).more (by omega)), hK3⟩
  · have hki : ¬ (k : Int) < (S.size : Int) := by omega
    have hd := sync_has n hH2 (show N < 1000000 by omega) (by omega) (by omega)
    obtain ⟨r2, hr2⟩ : ∃ r2, (m.sync n).1 = r2 := ⟨_, rfl⟩
    obtain ⟨m2, hm2⟩ : ∃ m2, (m.sync n).2 = m2 := ⟨_, rfl⟩
    have HW2 : Hid ((if r2 = 0 then ((0, rl), m2) else ((r2, []), m2)) = W) := by
      have := HW.out
      unfold behind at this
      rw [HSc.out, if_neg (show ¬ k < S.data.toList.length from hks), hr2, hm2] at this
      exact this
    have HR2 := Lib.hid hr2
    have HM2 := Lib.hid hm2
    have HD := Lib.hid hd
    clear hd hr2 hm2 HW
    go_wp2_with fail
    refine HD.out.mono ?_
    intro e w3 hd
    obtain ⟨rfl, h3, k3⟩ := Done.lit hd HR2 HM2
    have hR3 := HRD.out w3 k3
    have hK3 : Keeps B L w w3 := hK2.trans (k3.fewer HSUB.out)
    clear hd k3 HD
    by_cases hr : r2 = 0
    · subst hr
      have hW := HW2.out
      rw [if_pos rfl] at hW
      clear HW2
      subst hW
      go_wp2
      go_ret3
      have hbn : Below w3.heap.size w3 (w3.alloc (.cells #[.pointer (some ⟨p, 0, none⟩), .int .i64 n] 86)) := (Below.refl _ _).alloc (Nat.le_refl _) _
      exact .inr ⟨rfl, _, A, c, rfl, heap_alloc_new w3 _, (hR3.below hbn).more hbn.size, (((h3.fewer HSUB.out).beside hbn (Nat.le_refl _) (by simp)).more (by omega)), hK3.trans (Keeps.of_below hbn), hK3.size⟩
    · have hri : (r2 != 0) = true := bne_iff_ne.2 hr
      have hW := HW2.out
      rw [if_neg hr] at hW
      clear HW2
      subst hW
      go_wp2
      go_ret3
      exact .inl ⟨hr, rfl, ((h3.fewer HSUB.out).more (by omega)), hK3⟩

set_option maxRecDepth 100000 in
set_option maxHeartbeats 4000000 in
theorem open_new (n : Int) (h : Has B L w p N m) (ht : Tab w) (hgB : 0 < B) (hN : N < 900000) (hn : 0 ≤ n ∧ n < 16) (hoff : m.off = false) (hhas : m.has n = false) :
    Calls Tryd.prog 22 #[.pointer (some ⟨p, 0, none⟩), .int .i64 n] w (Opened B L w p (N + 2) n (wopen m n)) := by
  have hBw := h.low
  have hr := read_has n h (by omega) (by omega)
  have e1 : m.read n = ([], 12) := by simp [M.read, hoff, hhas]
  rw [e1] at hr
  obtain ⟨W, hW⟩ : ∃ W, wopen m n = W := ⟨_, rfl⟩
  rw [hW]
  obtain ⟨S, hS⟩ : ∃ S, str [] = S := ⟨_, rfl⟩
  obtain ⟨r1, hr1⟩ : ∃ r1, (m.replace n []).1 = r1 := ⟨_, rfl⟩
  obtain ⟨m1, hm1⟩ : ∃ m1, (m.replace n []).2 = m1 := ⟨_, rfl⟩
  have hSl : S.data.toList = [] := by rw [← hS]; rfl
  have hSs : S.size ≤ 1000000000 := by rw [← size_list, hSl]; simp
  have HW0 : Hid ((if r1 = 0 then behind m1 n S.data.toList else ((r1, []), m1)) = W) := by
    rw [← hW, hSl, wopen_new hn hoff hhas, hr1, hm1]
    rfl
  obtain ⟨⟨rl, k⟩, hsc⟩ : ∃ q, scan S.data.toList = q := ⟨_, rfl⟩
  have HSc := Lib.hid hsc
  have HR := Lib.hid hr
  have HS := Lib.hid hS
  have HR1 := Lib.hid hr1
  have HM1 := Lib.hid hm1
  have h1 := hn.1
  have h2 := hn.2
  have h0 : Keeps B L w w := Keeps.refl B L w
  have hrep := fun W' (hb : Below w.heap.size w W') => replace_has n ⟨#[]⟩ (h.below hb) (show N < 1000000 by omega)
  have HREP := Lib.hid hrep
  clear hr e1 hS hSl hW hsc hr1 hm1 hrep
  go_enter Tryd.func22, Tryd.ntmps22
  go_wp2_with fail
  refine HR.out.mono ?_
  intro e w0 hg
  obtain ⟨rfl, hb1⟩ := Got.lit hg HS rfl
  clear hg HR
  go_wp2_with fail
  refine (HREP.out w0 hb1).mono ?_
  intro e w1 hd
  obtain ⟨rfl, hH, k1⟩ := Done.lit hd HR1 HM1
  have hK : Keeps B L w w1 := (Keeps.of_below hb1).trans k1
  clear hd k1 HREP
  by_cases hr : r1 = 0
  · subst hr
    have HW : Hid (behind m1 n S.data.toList = W) := by
      have := HW0.out
      rwa [if_pos rfl] at this
    clear HW0
    go_wp2_with fail
    refine (scan_any S _ (Tab.below ht hgB (hK.below hBw)) hSs).mono ?_
    rintro e w2 ⟨v, rfl, hown, hb2⟩
    rw [HSc.out] at hown
    obtain ⟨A, c, L', rfl, hH2, hsub, hread⟩ := beside_scan hH hown hb2
    have hK2 : Keeps B L w w2 := hK.trans (Keeps.of_below hb2)
    have HRD := Lib.hid hread
    have HSUB := Lib.hid hsub
    clear hread hsub hown
    rw [HSc.out]
    simp only []
    by_cases hks : k < S.size
    · have hki : (k : Int) < (S.size : Int) := by omega
      have hd := replace_has n (S.extract 0 k) hH2 (show N + 1 < 1000000 by omega)
      obtain ⟨r2, hr2⟩ : ∃ r2, (m1.replace n (S.extract 0 k).data.toList).1 = r2 := ⟨_, rfl⟩
      obtain ⟨m2, hm2⟩ : ∃ m2, (m1.replace n (S.extract 0 k).data.toList).2 = m2 := ⟨_, rfl⟩
      have hx : (S.extract 0 k).data.toList = S.data.toList.take k := by rw [extract_list]; simp
      have HW2 : Hid ((if r2 = 0 then ((0, rl), m2) else ((r2, []), m2)) = W) := by
        have := HW.out
        unfold behind at this
        rw [HSc.out, if_pos (show k < S.data.toList.length from hks), ← hx, hr2, hm2] at this
        exact this
      have HR2 := Lib.hid hr2
      have HM2 := Lib.hid hm2
      have HD := Lib.hid hd
      clear hd hr2 hm2 hx HW
      go_wp2_with fail
      refine HD.out.mono ?_
      intro e w3 hd
      obtain ⟨rfl, h3, k3⟩ := Done.lit hd HR2 HM2
      have hR3 := HRD.out w3 k3
      have hK3 : Keeps B L w w3 := hK2.trans (k3.fewer HSUB.out)
      clear hd k3 HD
      by_cases hr : r2 = 0
      · subst hr
        have hW := HW2.out
        rw [if_pos rfl] at hW
        clear HW2
        subst hW
        go_wp2
        go_ret3
        have hbn : Below w3.heap.size w3 (w3.alloc (.cells #[.pointer (some ⟨p, 0, none⟩), .int .i64 n] 86)) := (Below.refl _ _).alloc (Nat.le_refl _) _
        exact .inr ⟨rfl, _, A, c, rfl, heap_alloc_new w3 _, (hR3.below hbn).more hbn.size, (((h3.fewer HSUB.out).beside hbn (Nat.le_refl _) (by simp)).more (by omega)), hK3.trans (Keeps.of_below hbn), hK3.size⟩
      · have hri : (r2 != 0) = true := bne_iff_ne.2 hr
        have hW := HW2.out
        rw [if_neg hr] at hW
        clear HW2
        subst hW
        go_wp2
        go_ret3
        exact .inl ⟨hr, rfl, ((h3.fewer HSUB.out).more (by omega)), hK3⟩
    · have hki : ¬ (k : Int) < (S.size : Int) := by omega
      have hd := sync_has n hH2 (show N + 1 < 1000000 by omega) (by omega) (by omega)
      obtain ⟨r2, hr2⟩ : ∃ r2, (m1.sync n).1 = r2 := ⟨_, rfl⟩
      obtain ⟨m2, hm2⟩ : ∃ m2, (m1.sync n).2 = m2 := ⟨_, rfl⟩
      have HW2 : Hid ((if r2 = 0 then ((0, rl), m2) else ((r2, []), m2)) = W) := by
        have := HW.out
        unfold behind at this
        rw [HSc.out, if_neg (show ¬ k < S.data.toList.length from hks), hr2, hm2] at this
        exact this
      have HR2 := Lib.hid hr2
      have HM2 := Lib.hid hm2
      have HD := Lib.hid hd
      clear hd hr2 hm2 HW
      go_wp2_with fail
      refine HD.out.mono ?_
      intro e w3 hd
      obtain ⟨rfl, h3, k3⟩ := Done.lit hd HR2 HM2
      have hR3 := HRD.out w3 k3
      have hK3 : Keeps B L w w3 := hK2.trans (k3.fewer HSUB.out)
      clear hd k3 HD
      by_cases hr : r2 = 0
      · subst hr
        have hW := HW2.out
        rw [if_pos rfl] at hW
        clear HW2
        subst hW
        go_wp2
        go_ret3
        have hbn : Below w3.heap.size w3 (w3.alloc (.cells #[.pointer (some ⟨p, 0, none⟩), .int .i64 n] 86)) := (Below.refl _ _).alloc (Nat.le_refl _) _
        exact .inr ⟨rfl, _, A, c, rfl, heap_alloc_new w3 _, (hR3.below hbn).more hbn.size, (((h3.fewer HSUB.out).beside hbn (Nat.le_refl _) (by simp)).more (by omega)), hK3.trans (Keeps.of_below hbn), hK3.size⟩
      · have hri : (r2 != 0) = true := bne_iff_ne.2 hr
        have hW := HW2.out
        rw [if_neg hr] at hW
        clear HW2
        subst hW
        go_wp2
        go_ret3
        exact .inl ⟨hr, rfl, ((h3.fewer HSUB.out).more (by omega)), hK3⟩
  · have hri : (r1 != 0) = true := bne_iff_ne.2 hr
    have hW := HW0.out
    rw [if_neg hr] at hW
    clear HW0
    subst hW
    go_wp2
    go_ret3
    exact .inl ⟨hr, rfl, hH.more (by omega), hK⟩

theorem open_any (n : Int) (h : Has B L w p N m) (ht : Tab w) (hgB : 0 < B) (hN : N < 900000) :
    Calls Tryd.prog 22 #[.pointer (some ⟨p, 0, none⟩), .int .i64 n] w (Opened B L w p (N + 2) n (wopen m n)) := by
  by_cases hn : 0 ≤ n ∧ n < 16
  · cases hoff : m.off with
    | true =>
      refine (open_off n h hn hoff).mono ?_
      rintro e w' ⟨rfl, hb⟩
      rw [wopen_off hn hoff]
      exact .inl ⟨show (10 : Int) ≠ 0 by decide, rfl, (h.below hb).more (by omega), Keeps.of_below hb⟩
    | false =>
      cases hhas : m.has n with
      | true => exact open_old n h ht hgB hN hn hoff hhas
      | false => exact open_new n h ht hgB hN hn hoff hhas
  · refine (open_arg _ n w hn).mono ?_
    rintro e w' ⟨rfl, rfl⟩
    rw [wopen_arg hn]
    exact .inl ⟨show (1 : Int) ≠ 0 by decide, rfl, h.more (by omega), Keeps.refl _ _ _⟩
end
end Go.Proofs.YtmimpfccngihiaaDoor.LogB
