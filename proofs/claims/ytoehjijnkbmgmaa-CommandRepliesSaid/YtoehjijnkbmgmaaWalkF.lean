/- What Answer and Said answer, the program's and the document's, walked. No statement is proved here. -/
import Derived.Test.YtoehjijnkbmgmaaWalkC
import Derived.Test.YtoehjijnkbmgmaaWalkE
import Derived.Lib.MinMax
set_option linter.unusedVariables false
set_option linter.unusedSimpArgs false
namespace Go.Proofs.Ytoehjijnkbmgmaa.WalkF
open Go.RowKit Go.Proofs.Ytoehjijnkbmgmaa.Kit Go.Proofs.Ytoehjijnkbmgmaa.Rdr Go.Proofs.Ytoehjijnkbmgmaa.Stq Go.Proofs.Ytoehjijnkbmgmaa.Pln Go.Proofs.Ytoehjijnkbmgmaa.Wtr Go.Proofs.Ytoehjijnkbmgmaa.Cmd Go.Proofs.Ytoehjijnkbmgmaa.CmdAt Go.Proofs.Ytoehjijnkbmgmaa.WalkC
open Go.Proofs.Ytoehjijnkbmgmaa.WalkE (emp_eq)
open Go.Proofs.Ytoehjijnkbmgmaa.Num (num)
open Go.Proofs.Ytoehjijnkbmgmaa.State (Only cell_at free_at lt_at set_at)
open Go.Proofs.Ytoehjijnkbmgmaa.PckWalkB (text bit)
open Go.Proofs.Ytoehjijnkbmgmaa.PckWalkH (str str_size str_append)
open Go.Proofs.Ytoehjijnkbmgmaa.PckWalkC (gotB gotB_lt)
open Go.Proofs.Ytoehjijnkbmgmaa.PckWalkE (upV truth)

set_option maxRecDepth 100000 in
set_option maxHeartbeats 8000000 in
theorem answer_any (y : Ry) (w : World) (h : y.Ok) {S : ByteArray} (hS : Hid (str (ryB y) = S)) : Calls Try.prog 17 #[ryV y] w fun e w' => e = .returned (.string S) ∧ Below w.heap.size w w' := by
  obtain ⟨err, nm, ex⟩ := y
  obtain ⟨e0, e1, f1, f2⟩ := h
  simp only at e0 e1 f1 f2
  have f0 := u64_lt (max err 0)
  have z0 := u64_wrap (max err 0)
  have hS := hS.out
  unfold ryB at hS
  simp only at hS
  obtain ⟨m0, hm0⟩ : ∃ x, u64 (max err 0) = x := ⟨_, rfl⟩
  rw [hm0] at f0 z0 hS
  obtain ⟨l1, p1⟩ : ∃ l, [] ++ num m0 = l := ⟨_, rfl⟩
  obtain ⟨l2, p2⟩ : ∃ l, l1 ++ num nm = l := ⟨_, rfl⟩
  obtain ⟨l3, p3⟩ : ∃ l, l2 ++ num ex = l := ⟨_, rfl⟩
  have t1 : l1.length ≤ 9 := by rw [← p1, List.nil_append]; exact num9 f0
  have t2 : l2.length ≤ 18 := by rw [← p2, List.length_append]; have := num9 f1; omega
  have s1 : l1.length ≤ 140737488355000 := by omega
  have s2 : l2.length ≤ 140737488355000 := by omega
  have HS : Hid (str l3 = S) := by
    have : str l3 = S := by rw [← hS, ← p3, ← p2, ← p1]; simp [List.append_assoc]
    exact this
  have E1 := Lib.hid p1
  have E2 := Lib.hid p2
  have E3 := Lib.hid p3
  have hbo : Below w.heap.size w (w.alloc (.cells #[.int .i64 err, .int .u64 (nm : Int), .int .u64 (ex : Int)] 40)) := (Below.refl _ _).alloc (Nat.le_refl _) _
  have hx := Box3.new w (.int .i64 err) (.int .u64 (nm : Int)) (.int .u64 (ex : Int))
  obtain ⟨w1, hw1⟩ : ∃ w1, w.alloc (.cells #[.int .i64 err, .int .u64 (nm : Int), .int .u64 (ex : Int)] 40) = w1 := ⟨_, rfl⟩
  obtain ⟨G, hG⟩ : ∃ G, w.heap.size = G := ⟨_, rfl⟩
  rw [hw1] at hbo hx
  rw [hG] at hx
  have HW1 := Lib.hid hw1
  have HBO := Lib.hid hbo
  have y0 := hx.c0
  have y1 := hx.c1
  have y2 := hx.c2
  have hGd := hx.lt
  have hs1 : w1.heap.size = G + 1 := by rw [← hw1, ← hG]; simp
  have hW0 : Wrt w1 (w1.alloc (.cells #[.slice none 0 0] 52)).drew (G + 1) [] := by
    rw [← hs1]
    exact (new_wrt w1).drew
  clear hS hm0 p1 p2 p3 t1 t2 hw1 hbo hx
  unfold ryV
  simp only
  go_enter Try.func17, Try.ntmps17
  go_wp2_with fail
  rw [HW1.out]
  go_region_held3 (fun W => W.cell? ⟨G, 0, none⟩ = some (.int .i64 err) ∧ W.cell? ⟨G, 1, none⟩ = some (.int .u64 (nm : Int)) ∧ W.cell? ⟨G, 2, none⟩ = some (.int .u64 (ex : Int)))
    (first
      | exact ⟨y0, y1, y2⟩
      | exact ⟨hW0.cell y0 hGd, hW0.cell y1 hGd, hW0.cell y2 hGd⟩
      | exact ⟨hA.cell y0 hGd, hA.cell y1 hGd, hA.cell y2 hGd⟩
      | exact ⟨hBB.cell y0 hGd, hBB.cell y1 hGd, hBB.cell y2 hGd⟩
      | exact ⟨hC.cell y0 hGd, hC.cell y1 hGd, hC.cell y2 hGd⟩
      | exact ⟨hE.cell y0 hGd, hE.cell y1 hGd, hE.cell y2 hGd⟩)
    (first
      | (go_at_call 22
         (with_reducible refine (wrt_num m0 hW0 f0 (by decide) E1).mono ?_)
         rintro e wA ⟨rfl, hA⟩)
      | (go_at_call 22
         (with_reducible refine (wrt_num nm hA f1 s1 E2).mono ?_)
         rintro e wB ⟨rfl, hBB⟩)
      | (go_at_call 22
         (with_reducible refine (wrt_num ex hBB f2 s2 E3).mono ?_)
         rintro e wC ⟨rfl, hC⟩)
      | (go_at_call 25
         (with_reducible refine (wrt_bytes hC HS).mono ?_)
         rintro e wD ⟨rfl, hE⟩))
  all_goals
    have HC : Hid (Below w.heap.size w wD) := HBO.out.trans (hE.bel.mono HBO.out.size)
    clear hE hC hBB hA hW0
    go_wp2
    go_ret
    exact ⟨rfl, HC.out⟩

set_option maxRecDepth 100000 in
set_option maxHeartbeats 4000000 in
theorem ranswer_any (y : Ry) (w : World) (h : y.Ok) {S : ByteArray} (hS : Hid (str (ryB y) = S)) : Calls Try.prog 20 #[ryV y] w fun e w' => e = .returned (.string S) ∧ Below w.heap.size w w' := by
  obtain ⟨err, nm, ex⟩ := y
  obtain ⟨e0, e1, f1, f2⟩ := h
  simp only at e0 e1 f1 f2
  have f0 := u64_lt (max err 0)
  have z0 := u64_wrap (max err 0)
  have hS := hS.out
  unfold ryB at hS
  simp only at hS
  obtain ⟨m0, hm0⟩ : ∃ x, u64 (max err 0) = x := ⟨_, rfl⟩
  rw [hm0] at f0 z0 hS
  rw [Int.max_comm] at z0
  have hL : ∀ x ∈ [m0, nm, ex], x < 18446744073709551616 := by
    intro x hx
    simp only [List.mem_cons, List.not_mem_nil, or_false] at hx
    rcases hx with rfl | rfl | rfl <;> assumption
  have HS : Hid (str (numsB [m0, nm, ex]) = S) := by
    have : str (numsB [m0, nm, ex]) = S := by rw [← hS]; simp [numsB]
    exact this
  have HL := Lib.hid hL
  have hbo : Below w.heap.size w (w.alloc (.cells #[.int .i64 err, .int .u64 (nm : Int), .int .u64 (ex : Int)] 40)) := (Below.refl _ _).alloc (Nat.le_refl _) _
  have hx := Box3.new w (.int .i64 err) (.int .u64 (nm : Int)) (.int .u64 (ex : Int))
  obtain ⟨w1, hw1⟩ : ∃ w1, w.alloc (.cells #[.int .i64 err, .int .u64 (nm : Int), .int .u64 (ex : Int)] 40) = w1 := ⟨_, rfl⟩
  obtain ⟨G, hG⟩ : ∃ G, w.heap.size = G := ⟨_, rfl⟩
  rw [hw1] at hbo hx
  rw [hG] at hx
  have HW1 := Lib.hid hw1
  have HBO := Lib.hid hbo
  have y0 := hx.c0
  have y1 := hx.c1
  have y2 := hx.c2
  have hGl := hx.lt
  have hs1 : w1.heap.size = G + 1 := by rw [← hw1, ← hG]; simp
  have hrow : (w1.alloc (.cells #[.int .u64 (m0 : Int), .int .u64 (nm : Int), .int .u64 (ex : Int)] 22)).heap[G + 1]? = some (.cells #[.int .u64 (m0 : Int), .int .u64 (nm : Int), .int .u64 (ex : Int)] 22 (0, 0)) := by
    rw [← hs1]
    exact heap_alloc_new _ _
  have HROW := Lib.hid hrow
  clear hS hm0 hL hw1 hbo hx f0 f1 f2 hrow
  unfold ryV
  simp only
  go_enter Try.func20, Try.ntmps20
  go_wp2_with fail
  rw [HW1.out]
  go_wp2_with fail
  with_reducible refine (nums_any (n := 3) (c := 3) (L := [m0, nm, ex]) HROW.out (cs3 _ _ _) rfl (by decide) HL.out HS).mono ?_
  rintro e w2 ⟨rfl, hb2⟩
  have hb3 : Below w1.heap.size w1 w2 := ((Below.refl w1.heap.size w1).alloc (Nat.le_refl _) _).trans (hb2.mono (by simp))
  clear hb2
  go_wp2
  go_ret
  exact ⟨rfl, HBO.out.trans (hb3.mono HBO.out.size)⟩

/-- What Said answers. -/
def Heard (w : World) (s : ByteArray) (e : Ending) (w' : World) : Prop := e = .returned (.tuple #[ryV (hear s), .int .i64 (if said s = true then 0 else 2)]) ∧ Below w.heap.size w w'
theorem hear_no {s : ByteArray} (h : said s = false) : hear s = ⟨0, 0, 0⟩ ∧ (if said s = true then (0 : Int) else 2) = 2 := by unfold hear; rw [h]; exact ⟨rfl, rfl⟩
theorem hear_yes {s : ByteArray} (h : said s = true) : hear s = rRy ⟨s, false⟩ ∧ (if said s = true then (0 : Int) else 2) = 0 := by unfold hear; rw [h]; exact ⟨rfl, rfl⟩
theorem y_named (s : ByteArray) (hs : s.size ≤ 281474976710656) : ∃ (r1 r2 r3 : Rd) (a b c : Nat), Hid ((q0 s).up 52 = r1) ∧ Hid (r1.num = r2) ∧ Hid (r2.num = r3) ∧ Hid (upV (q0 s).s 52 = a) ∧ Hid (gotB r1.s = b) ∧ Hid (gotB r2.s = c) ∧
    r1.s.size ≤ 281474976710656 ∧ r2.s.size ≤ 281474976710656 ∧ Hid (rRy ⟨s, false⟩ = ⟨(a : Nat), b, c⟩) ∧ said s = r3.done := by
  have a1 : (Rd.up (q0 s) 52).s.size ≤ s.size := Rd.up_le _ _
  have a2 := Rd.num_le (Rd.up (q0 s) 52)
  exact ⟨_, _, _, _, _, _, rfl, rfl, rfl, rfl, rfl, rfl, by omega, by omega, rfl, rfl⟩

set_option maxRecDepth 100000 in
set_option maxHeartbeats 8000000 in
theorem said_any (s : ByteArray) (w : World) (hs : s.size ≤ 281474976710656) : Calls Try.prog 18 #[.string s] w (Heard w s) := by
  obtain ⟨r1, r2, r3, a, b, c, N1, N2, N3, Ga, Gb, Gc, z1, z2, HM, hsd⟩ := y_named s hs
  have hs0 : (q0 s).s.size ≤ 281474976710656 := hs
  have hbo : ∀ (W : World) o, Below W.heap.size W (W.alloc o) := fun W o => (Below.refl _ _).alloc (Nat.le_refl _) o
  have hP := Box3.new w (.int .i64 0) (.int .u64 0) (.int .u64 0)
  have hb0 := hbo w (.cells #[.int .i64 0, .int .u64 0, .int .u64 0] 40)
  obtain ⟨w0, hw0⟩ : ∃ x, w.alloc (.cells #[.int .i64 0, .int .u64 0, .int .u64 0] 40) = x := ⟨_, rfl⟩
  obtain ⟨P, hPe⟩ : ∃ x, w.heap.size = x := ⟨_, rfl⟩
  rw [hw0] at hP hb0
  rw [hPe] at hP
  have HW0 := Lib.hid hw0
  have HPE := Lib.hid hPe
  have HB0 := Lib.hid hb0
  obtain ⟨dn, hdn⟩ : ∃ x, r3.done = x := ⟨_, rfl⟩
  rw [hdn] at hsd
  have HDN := Lib.hid hdn
  have HSD := Lib.hid hsd
  clear hw0 hb0 hdn hsd
  go_enter Try.func18, Try.ntmps18
  go_wp2_with fail
  rw [HW0.out]
  with_reducible refine (from_rp s w0).mono ?_
  rintro e wa ⟨q, rfl, hR⟩
  have hPa := hP.below hR.bel
  have hPq : P ≠ q := by have := hP.lt; have := hR.low; omega
  go_wp2_with fail
  with_reducible refine (rp_up 52 hR hs0 (by decide) Ga N1).mono ?_
  rintro e wb ⟨rfl, hRb, hOb⟩
  have hPb := hPa.keep hOb hPq
  go_wp2_with fail
  with_reducible refine (rp_num hRb z1 Gb N2).mono ?_
  rintro e wc ⟨rfl, hRc, hOc⟩
  have hPc := hPb.keep hOc hPq
  go_wp2_with fail
  with_reducible refine (rp_num hRc z2 Gc N3).mono ?_
  rintro e wd ⟨rfl, hRd, hOd⟩
  have hPd := hPc.keep hOd hPq
  have hqd := hRd.lt
  have hPl := hPd.lt
  clear hP hPa hR hOb hRb hPb hOc hRc hPc hOd
  have hX := Box3.new wd (.int .i64 (a : Int)) (.int .u64 (b : Int)) (.int .u64 (c : Int))
  have hbe := hbo wd (.cells #[.int .i64 (a : Int), .int .u64 (b : Int), .int .u64 (c : Int)] 40)
  obtain ⟨we, hwe⟩ : ∃ x, wd.alloc (.cells #[.int .i64 (a : Int), .int .u64 (b : Int), .int .u64 (c : Int)] 40) = x := ⟨_, rfl⟩
  obtain ⟨G, hGe⟩ : ∃ x, wd.heap.size = x := ⟨_, rfl⟩
  rw [hwe] at hX hbe
  rw [hGe] at hX
  have hRe := hRd.below hbe
  have hPf := hPd.below hbe
  have HWE := Lib.hid hwe
  have hGq : G ≠ q := by omega
  have hPG : P ≠ G := by omega
  clear hwe hRd hPd hbe
  go_wp2_with fail
  rw [HWE.out]
  with_reducible refine (rp_done hRe HDN).mono ?_
  rintro e wf ⟨rfl, hRf, hOf⟩
  have hXf := hX.keep hOf hGq
  have hPg := hPf.keep hOf hPq
  obtain ⟨x0, x1, x2⟩ : _ ∧ _ ∧ _ := ⟨hXf.c0, hXf.c1, hXf.c2⟩
  obtain ⟨p0, p1, p2⟩ : _ ∧ _ ∧ _ := ⟨hPg.c0, hPg.c1, hPg.c2⟩
  have pf := hPg.free
  have hGl := hXf.lt
  have hPl' := hPg.lt
  have HB : Hid (Below w.heap.size w wf) := HB0.out.trans (hRf.bel.mono HB0.out.size)
  have HZ := Lib.hid (hPg.set (.int .i64 0) (.int .u64 0) (.int .u64 0))
  have HT := Lib.hid (hPg.set (.int .i64 (a : Int)) (.int .u64 (b : Int)) (.int .u64 (c : Int)))
  clear hRe hPf hX hOf hXf hPg hRf hqd hPl hPe hGe
  cases dn with
  | true =>
    have HH := Lib.hid (hear_yes HSD.out)
    go_wp2
    refine bodyPost_ret (res2y (p := 2) (u := 3) rfl _ rfl HT.out.1) rfl ?_
    exact ⟨by rw [HH.out.1, HH.out.2, HM.out]; rfl, HB.out.trans (HT.out.2.below HB.out.size fun k hk => by rw [hk, ← HPE.out]; exact Nat.le_refl _)⟩
  | false =>
    have HH := Lib.hid (hear_no HSD.out)
    go_wp2
    refine bodyPost_ret (res2y (p := 2) (u := 3) rfl _ rfl HZ.out.1) rfl ?_
    exact ⟨by rw [HH.out.1, HH.out.2]; rfl, HB.out.trans (HZ.out.2.below HB.out.size fun k hk => by rw [hk, ← HPE.out]; exact Nat.le_refl _)⟩

set_option maxRecDepth 100000 in
set_option maxHeartbeats 8000000 in
theorem rsaid_any (s : ByteArray) (w : World) (hs : s.size ≤ 281474976710656) : Calls Try.prog 19 #[.string s] w (Heard w s) := by
  obtain ⟨r1, r2, r3, a, b, c, N1, N2, N3, Ga, Gb, Gc, z1, z2, HM, hsd⟩ := y_named s hs
  have hs0 : (q0 s).s.size ≤ 281474976710656 := hs
  have hbo : ∀ (W : World) o, Below W.heap.size W (W.alloc o) := fun W o => (Below.refl _ _).alloc (Nat.le_refl _) o
  have hP := Box3.new w (.int .i64 0) (.int .u64 0) (.int .u64 0)
  have hb0 := hbo w (.cells #[.int .i64 0, .int .u64 0, .int .u64 0] 40)
  obtain ⟨w0, hw0⟩ : ∃ x, w.alloc (.cells #[.int .i64 0, .int .u64 0, .int .u64 0] 40) = x := ⟨_, rfl⟩
  obtain ⟨P, hPe⟩ : ∃ x, w.heap.size = x := ⟨_, rfl⟩
  rw [hw0] at hP hb0
  rw [hPe] at hP
  have HW0 := Lib.hid hw0
  have HPE := Lib.hid hPe
  have HB0 := Lib.hid hb0
  obtain ⟨sz, hsz⟩ : ∃ x, r3.s.size = x := ⟨_, rfl⟩
  obtain ⟨bd, hbd⟩ : ∃ x, r3.bad = x := ⟨_, rfl⟩
  have hsd' : said s = (decide (sz = 0) && !bd) := by rw [hsd, ← hsz, ← hbd]; rfl
  have HSD := Lib.hid hsd'
  have hemp := emp_eq r3.s sz hsz
  obtain ⟨S, hS⟩ : ∃ S, r3.s = S := ⟨_, rfl⟩
  rw [hS] at hemp
  have HS := Lib.hid hS
  have HBD := Lib.hid hbd
  clear hw0 hb0 hsd' hsz hbd hsd hS
  have hbr := hbo w0 (.cells #[.string s, .bool false] 69)
  have hR : Rm w0 (w0.alloc (.cells #[.string s, .bool false] 69)) w0.heap.size (q0 s) := ⟨heap_alloc_new w0 _, Nat.le_refl _, hbr⟩
  have hPa := hP.below hbr
  have hPq : P ≠ w0.heap.size := by have := hP.lt; omega
  obtain ⟨wa, hwa⟩ : ∃ x, w0.alloc (.cells #[.string s, .bool false] 69) = x := ⟨_, rfl⟩
  obtain ⟨q, hq⟩ : ∃ x, P + 1 = x := ⟨_, rfl⟩
  have hq0 : w0.heap.size = q := by rw [← hq, ← hPe, ← HW0.out]; simp
  rw [hwa] at hR hPa
  rw [hq0] at hR hPq
  have HWA := Lib.hid hwa
  clear hwa hbr
  go_enter Try.func19, Try.ntmps19
  go_wp2_with fail
  rw [HW0.out]
  go_wp2_with fail
  rw [HWA.out]
  with_reducible refine (rm_up 52 hR hs0 (by decide) Ga N1).mono ?_
  rintro e wb ⟨rfl, hRb, hOb⟩
  have hPb := hPa.keep hOb hPq
  have hqb := hRb.lt
  have hPl := hPb.lt
  clear hP hPa hR hOb
  have hX := Box3.new wb (.int .i64 (a : Int)) (.int .u64 0) (.int .u64 0)
  have hbc := hbo wb (.cells #[.int .i64 (a : Int), .int .u64 0, .int .u64 0] 40)
  obtain ⟨wc, hwc⟩ : ∃ x, wb.alloc (.cells #[.int .i64 (a : Int), .int .u64 0, .int .u64 0] 40) = x := ⟨_, rfl⟩
  obtain ⟨G, hGe⟩ : ∃ x, wb.heap.size = x := ⟨_, rfl⟩
  rw [hwc] at hX hbc
  rw [hGe] at hX
  have HWc := Lib.hid hwc
  have hRc := hRb.below hbc
  have hPc := hPb.below hbc
  have hGq : G ≠ q := by omega
  have hPG : P ≠ G := by omega
  have hGw : w0.heap.size ≤ G := by have := hRb.bel.size; omega
  clear hwc hbc hRb hPb
  go_wp2_with fail
  rw [HWc.out]
  with_reducible refine (rm_num hRc z1 Gb N2).mono ?_
  rintro e wd ⟨rfl, hRd, hOd⟩
  have hXd := hX.keep hOd hGq
  have hPd := hPc.keep hOd hPq
  clear hX hPc hRc hOd hqb hPl hPe hGe hq hq0
  obtain ⟨x0, x1, x2⟩ : _ ∧ _ ∧ _ := ⟨hXd.c0, hXd.c1, hXd.c2⟩
  have gf := hXd.free
  have hGl := hXd.lt
  obtain ⟨hX1, ho1⟩ := hXd.set1 (.int .u64 (b : Int))
  have hP1 := hPd.keep ho1 hPG
  have hR1 : Rm w0 (wd.setCell ⟨G, 1, none⟩ (.int .u64 (b : Int))) q r2 := ⟨hRd.at_.keep ho1 fun e => hGq e.symm, hRd.low, hRd.bel.trans (ho1.below hRd.bel.size fun y e => by rw [e]; exact hGw)⟩
  obtain ⟨w1, hw1⟩ : ∃ x, wd.setCell ⟨G, 1, none⟩ (.int .u64 (b : Int)) = x := ⟨_, rfl⟩
  rw [hw1] at hX1 hP1 hR1
  have HW1 := Lib.hid hw1
  clear hw1 ho1 hXd hPd hRd
  go_upto_region 4 with fail
  rw [HW1.out]
  clear x0 x1 x2 gf hGl
  go_wp2_with fail
  with_reducible refine (rm_num hR1 z2 Gc N3).mono ?_
  rintro e wd' ⟨rfl, hRd, hOd⟩
  have hXd := hX1.keep hOd hGq
  have hPd := hP1.keep hOd hPq
  clear hX1 hP1 hR1 hOd
  obtain ⟨x0, x1, x2⟩ : _ ∧ _ ∧ _ := ⟨hXd.c0, hXd.c1, hXd.c2⟩
  have gf := hXd.free
  have hGl := hXd.lt
  obtain ⟨hX1, ho1⟩ := hXd.set2 (.int .u64 (c : Int))
  have hP1 := hPd.keep ho1 hPG
  have hR1 : Rm w0 (wd'.setCell ⟨G, 2, none⟩ (.int .u64 (c : Int))) q r3 := ⟨hRd.at_.keep ho1 fun e => hGq e.symm, hRd.low, hRd.bel.trans (ho1.below hRd.bel.size fun y e => by rw [e]; exact hGw)⟩
  obtain ⟨w2, hw2⟩ : ∃ x, wd'.setCell ⟨G, 2, none⟩ (.int .u64 (c : Int)) = x := ⟨_, rfl⟩
  rw [hw2] at hX1 hP1 hR1
  have HW2 := Lib.hid hw2
  clear hw2 ho1 hXd hPd hRd
  go_upto_region 5 with fail
  rw [HW2.out]
  clear x0 x1 x2 gf hGl
  have hflag := hR1.at_.flag
  have hleft := hR1.at_.left
  rw [HBD.out] at hflag
  rw [HS.out] at hleft
  have hql := hR1.lt
  obtain ⟨x0, x1, x2⟩ : _ ∧ _ ∧ _ := ⟨hX1.c0, hX1.c1, hX1.c2⟩
  obtain ⟨p0, p1, p2⟩ : _ ∧ _ ∧ _ := ⟨hP1.c0, hP1.c1, hP1.c2⟩
  have pf := hP1.free
  have hGl := hX1.lt
  have hPl := hP1.lt
  have HB : Hid (Below w.heap.size w w2) := HB0.out.trans (hR1.bel.mono HB0.out.size)
  have HZ := Lib.hid (hP1.set (.int .i64 0) (.int .u64 0) (.int .u64 0))
  have HT := Lib.hid (hP1.set (.int .i64 (a : Int)) (.int .u64 (b : Int)) (.int .u64 (c : Int)))
  clear hX1 hP1 hR1
  obtain ⟨he1, he2⟩ := hemp
  cases bd with
  | true =>
    have HH := Lib.hid (hear_no (by rw [HSD.out]; simp))
    go_wp2
    refine bodyPost_ret (res2y (p := 2) (u := 3) rfl _ rfl HZ.out.1) rfl ?_
    exact ⟨by rw [HH.out.1, HH.out.2]; rfl, HB.out.trans (HZ.out.2.below HB.out.size fun k hk => by rw [hk, ← HPE.out]; exact Nat.le_refl _)⟩
  | false =>
    by_cases hsz : sz = 0
    · simp only [hsz, decide_true, Bool.not_true] at he1 he2
      have HH := Lib.hid (hear_yes (by rw [HSD.out, hsz]; rfl))
      go_wp2
      refine bodyPost_ret (res2y (p := 2) (u := 3) rfl _ rfl HT.out.1) rfl ?_
      exact ⟨by rw [HH.out.1, HH.out.2, HM.out]; rfl, HB.out.trans (HT.out.2.below HB.out.size fun k hk => by rw [hk, ← HPE.out]; exact Nat.le_refl _)⟩
    · simp only [hsz, decide_false, Bool.not_false] at he1 he2
      have HH := Lib.hid (hear_no (by rw [HSD.out]; simp [hsz]))
      go_wp2
      refine bodyPost_ret (res2y (p := 2) (u := 3) rfl _ rfl HZ.out.1) rfl ?_
      exact ⟨by rw [HH.out.1, HH.out.2]; rfl, HB.out.trans (HZ.out.2.below HB.out.size fun k hk => by rw [hk, ← HPE.out]; exact Nat.le_refl _)⟩
end Go.Proofs.Ytoehjijnkbmgmaa.WalkF
