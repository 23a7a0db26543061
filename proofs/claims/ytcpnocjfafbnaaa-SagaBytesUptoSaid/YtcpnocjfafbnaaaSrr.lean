/- What the document's Read of a saga answers, walked, given its Sound. No statement is proved here. -/
import Derived.Test.YtcpnocjfafbnaaaSrd
import Derived.Test.YtcpnocjfafbnaaaWalkE
import Derived.Deep.Cut
set_option linter.unusedVariables false
set_option linter.unusedSimpArgs false
namespace Go.Proofs.Ytcpnocjfafbnaaa.Srr
open Go.RowKit Go.Proofs.Ytcpnocjfafbnaaa.Kit Go.Proofs.Ytcpnocjfafbnaaa.Rdr Go.Proofs.Ytcpnocjfafbnaaa.Stq Go.Proofs.Ytcpnocjfafbnaaa.Pln Go.Proofs.Ytcpnocjfafbnaaa.Sag Go.Proofs.Ytcpnocjfafbnaaa.SagAt Go.Proofs.Ytcpnocjfafbnaaa.Sgb Go.Proofs.Ytcpnocjfafbnaaa.Wtr Go.Proofs.Ytcpnocjfafbnaaa.Srd
open Go.Proofs.Ytcpnocjfafbnaaa.PckWalkE (upV textV)
open Go.Proofs.Ytcpnocjfafbnaaa.WalkE (RSnd)
open Go.Proofs.Ytcpnocjfafbnaaa.PlnWalkD (RdP own_keep)
open Go.Proofs.Ytcpnocjfafbnaaa.State (Only cell_at free_at lt_at set_at)

/-- The state in Read: the reader, both boxes, the steps that were read. -/
structure Sr (w0 W w : World) (q P G : Nat) (r : Rd) (v : Value) (l : List Sp) (B : Nat) (a b c d : Value) : Prop where
  r : Rm w0 w q r
  o : Only (· = q) W w
  x : Box4 w P (.slice none 0 0) (.int .i64 0) (.int .i64 0) (.int .i64 0)
  y : Box4 w G a b c d
  g : Got B w v l
  n : ∀ k, v.ownBlock = some k → k < G
section
variable {w0 W w w' : World} {q P G B : Nat} {r r' : Rd} {v a b c d a' b' c' d' : Value} {l : List Sp}
theorem Sr.ran (h : Sr w0 W w q P G r v l B a b c d) (hr : Rm w0 w' q r') (ho : Only (· = q) w w') (h1 : q < P) (h2 : q < G) (h3 : q < B) : Sr w0 W w' q P G r' v l B a b c d :=
  ⟨hr, h.o.trans ho, h.x.keep ho (fun e => by omega), h.y.keep ho (fun e => by omega), h.g.keep ho (fun g k1 k2 e => by omega), h.n⟩
theorem Sr.put (h : Sr w0 W w q P G r v l B a b c d) (h1 : q < G) (h2 : P ≠ G) (h3 : W.heap.size ≤ G ∧ w0.heap.size ≤ G) (k : Box4 w' G a' b' c' d' ∧ Only (fun g => g = G) w w') : Sr w0 W w' q P G r v l B a' b' c' d' := by
  refine ⟨⟨h.r.at_.keep k.2 (fun e => by omega), h.r.low, h.r.bel.trans (k.2.below h.r.bel.size fun g hg => by omega)⟩, PlnOnly h.o k.2 h3.1, h.x.keep k.2 (fun e => h2 e), k.1, ⟨own_keep k.2 h.g.own fun g hg e => by have := h.n g hg; omega, h.g.few, h.g.nm⟩, h.n⟩
theorem Sr.below (h : Sr w0 W w q P G r v l B a b c d) (k : Below w.heap.size w w') : Sr w0 W w' q P G r v l B a b c d :=
  ⟨h.r.below k, h.o.trans (Only.of_below k), h.x.below k, h.y.below k, h.g.below k, h.n⟩
end
set_option maxRecDepth 100000 in
set_option maxHeartbeats 8000000 in
theorem srread_any (hSn : RSnd) {w0 W : World} {q : Nat} {r : Rd} (h : Rm w0 W q r) (hs : r.s.size ≤ 281474976710656) :
    Calls Try.prog 26 #[.pointer (some ⟨q, 0, none⟩)] W (ReadS 58 w0 W q r) := by
  have hq := h.lt
  have hbo : ∀ (W : World) o, Below W.heap.size W (W.alloc o) := fun W o => (Below.refl _ _).alloc (Nat.le_refl _) o
  obtain ⟨l, hl⟩ : ∃ x, rPlan r = x := ⟨_, rfl⟩
  obtain ⟨ra, hra⟩ : ∃ x, rEnd r = x := ⟨_, rfl⟩
  obtain ⟨st, hst⟩ : ∃ x, upV ra.s 5 = x := ⟨_, rfl⟩
  obtain ⟨rb, hrb⟩ : ∃ x, ra.up 5 = x := ⟨_, rfl⟩
  obtain ⟨cu, hcu⟩ : ∃ x, upV rb.s 64 = x := ⟨_, rfl⟩
  obtain ⟨rc, hrc⟩ : ∃ x, rb.up 64 = x := ⟨_, rfl⟩
  obtain ⟨fa, hfa⟩ : ∃ x, upV rc.s 9 = x := ⟨_, rfl⟩
  obtain ⟨rd, hrd⟩ : ∃ x, rc.up 9 = x := ⟨_, rfl⟩
  have s1 : ra.s.size ≤ 281474976710656 := by rw [← hra]; exact Nat.le_trans (rEnd_le r) hs
  have s2 : rb.s.size ≤ 281474976710656 := by rw [← hrb]; exact Nat.le_trans (Rd.up_le ra 5) s1
  have s3 : rc.s.size ≤ 281474976710656 := by rw [← hrc]; exact Nat.le_trans (Rd.up_le rb 64) s2
  have hr3 : r3 r = rd := by unfold r3 r2 r1; rw [hra, hrb, hrc, hrd]
  have hsg : rSag r = ⟨l, (st : Nat), (cu : Nat), (fa : Nat)⟩ := by unfold rSag r2 r1; rw [hl, hra, hst, hrb, hcu, hrc, hfa]
  obtain ⟨hp1, hp2⟩ := plan_in r
  rw [hl] at hp1 hp2
  obtain ⟨sd, hsd⟩ : ∃ x, sound ⟨l, (st : Nat), (cu : Nat), (fa : Nat)⟩ = x := ⟨_, rfl⟩
  obtain ⟨bd, hbd⟩ : ∃ x, rd.bad = x := ⟨_, rfl⟩
  have hyes : rYes r = (!bd && sd) := by unfold rYes; rw [hr3, hbd, hsg, hsd]
  have HRES : Hid (rRes r = if (!bd && sd) = true then ⟨l, (st : Nat), (cu : Nat), (fa : Nat)⟩ else zeroS) := by
    have : rRes r = if (!bd && sd) = true then ⟨l, (st : Nat), (cu : Nat), (fa : Nat)⟩ else zeroS := by unfold rRes; rw [hyes, hsg]
    exact this
  have HYES := Lib.hid hyes
  have HR3 := Lib.hid hr3
  have HL := Lib.hid hl
  have HRA := Lib.hid hra
  have HST := Lib.hid hst
  have HRB := Lib.hid hrb
  have HCU := Lib.hid hcu
  have HRC := Lib.hid hrc
  have HFA := Lib.hid hfa
  have HRDD := Lib.hid hrd
  have HSD := Lib.hid hsd
  have HBD := Lib.hid hbd
  have HP1 := Lib.hid hp1
  have HP2 := Lib.hid hp2
  clear hl hra hst hrb hcu hrc hfa hrd hr3 hsg hsd hbd hyes hp1 hp2
  have hX := Box4.new W (.slice none 0 0) (.int .i64 0) (.int .i64 0) (.int .i64 0)
  have hb0 := hbo W (.cells #[.slice none 0 0, .int .i64 0, .int .i64 0, .int .i64 0] 24)
  have h0 := h.below hb0
  have ho0 : Only (· = q) W (W.alloc (.cells #[.slice none 0 0, .int .i64 0, .int .i64 0, .int .i64 0] 24)) := Only.of_below hb0
  have hszW : W.heap.size < (W.alloc (.cells #[.slice none 0 0, .int .i64 0, .int .i64 0, .int .i64 0] 24)).heap.size := by simp
  obtain ⟨wa, hwa⟩ : ∃ wa, W.alloc (.cells #[.slice none 0 0, .int .i64 0, .int .i64 0, .int .i64 0] 24) = wa := ⟨_, rfl⟩
  obtain ⟨P, hP⟩ : ∃ P, W.heap.size = P := ⟨_, rfl⟩
  rw [hwa] at hX h0 ho0 hszW
  rw [hP] at hX hq hszW
  have HX := Lib.hid hX
  have H0 := Lib.hid h0
  have HO := Lib.hid ho0
  have HWA := Lib.hid hwa
  clear h hX hb0 h0 ho0 hwa
  go_enter Try.func26, Try.ntmps26
  go_wp2_with fail
  rw [HWA.out]
  go_wp2_with fail
  with_reducible refine (PlnWalkD.rread_any H0.out hs HL HRA).mono ?_
  rintro e w1 ⟨v, rfl, hown, hR1, hO1⟩
  have hg1 : Got wa.heap.size w1 v l := ⟨hown, HP1.out, HP2.out⟩
  obtain ⟨A, c, rfl, _⟩ := hg1.at_
  have hx1 := HX.out.keep hO1 (fun e => by omega)
  have hb5 := hbo w1 (.cells #[.slice A l.length c, .int .i64 0, .int .i64 0, .int .i64 0] 24)
  have hY := Box4.new w1 (.slice A l.length c) (.int .i64 0) (.int .i64 0) (.int .i64 0)
  have hG2 := hg1.below hb5
  have hR2 := hR1.below hb5
  have hX2 := hx1.below hb5
  have hO2 := (HO.out.trans hO1).trans (Only.of_below (S := (· = q)) hb5)
  have hPw : P < w1.heap.size := hx1.lt
  have hwa1 : wa.heap.size ≤ w1.heap.size := hO1.size
  obtain ⟨w2, hw2⟩ : ∃ w2, w1.alloc (.cells #[.slice A l.length c, .int .i64 0, .int .i64 0, .int .i64 0] 24) = w2 := ⟨_, rfl⟩
  obtain ⟨G, hG⟩ : ∃ G, w1.heap.size = G := ⟨_, rfl⟩
  have hGG : ∀ g, (Value.slice A l.length c).ownBlock = some g → g < G := fun g hg => by have := (hg1.own.lt g hg).2; omega
  rw [hw2] at hY hG2 hR2 hX2 hO2
  rw [hG] at hY hPw hwa1
  have HY2 := Lib.hid hY
  have HG2 := Lib.hid hG2
  have HR2 := Lib.hid hR2
  have HX2 := Lib.hid hX2
  have HO2 := Lib.hid hO2
  have HW2 := Lib.hid hw2
  have HGG := Lib.hid hGG
  have hPW : W.heap.size = P := hP
  have hlowq := HR2.out.low
  clear hown hR1 hO1 hg1 hx1 hb5 hY hG2 hR2 hX2 hO2 hw2 hGG H0 HO HX
  go_wp2_with fail
  rw [HW2.out]
  with_reducible refine (rm_up 5 HR2.out s1 (by decide) HST HRB).mono ?_
  rintro e w3 ⟨rfl, hR, hO⟩
  have h3 : Sr w0 W w3 q P G rb (.slice A l.length c) l wa.heap.size (.slice A l.length c) (.int .i64 0) (.int .i64 0) (.int .i64 0) := ⟨hR, HO2.out.trans hO, HX2.out.keep hO (fun e => by omega), HY2.out.keep hO (fun e => by omega), HG2.out.keep hO (fun g h1 h2 e => by omega), HGG.out⟩
  have y1 := h3.y.c1
  have yf := h3.y.free 1
  have ylt := h3.y.lt
  have h4 := h3.put (by omega) (by omega) (by omega) (h3.y.set1 (.int .i64 (st : Int)))
  obtain ⟨w4, hw4⟩ : ∃ w4, w3.setCell ⟨G, 1, none⟩ (.int .i64 (st : Int)) = w4 := ⟨_, rfl⟩
  rw [hw4] at h4
  have H4 := Lib.hid h4
  have HW4 := Lib.hid hw4
  clear hR hO h3 h4 hw4 HR2 HO2 HX2 HY2 HG2 HW2
  go_wp2_with fail
  rw [HW4.out]
  with_reducible refine (rm_up 64 H4.out.r s2 (by decide) HCU HRC).mono ?_
  rintro e w3 ⟨rfl, hR, hO⟩
  have h3 := H4.out.ran hR hO (by omega) (by omega) (by omega)
  have y2 := h3.y.c2
  have yf := h3.y.free 2
  have ylt := h3.y.lt
  have h4 := h3.put (by omega) (by omega) (by omega) (h3.y.set2 (.int .i64 (cu : Int)))
  obtain ⟨w5, hw4⟩ : ∃ w4, w3.setCell ⟨G, 2, none⟩ (.int .i64 (cu : Int)) = w4 := ⟨_, rfl⟩
  rw [hw4] at h4
  have H5 := Lib.hid h4
  have HW5 := Lib.hid hw4
  clear hR hO h3 h4 hw4 H4 HW4 y1
  go_wp2_with fail
  rw [HW5.out]
  with_reducible refine (rm_up 9 H5.out.r s3 (by decide) HFA HRDD).mono ?_
  rintro e w3 ⟨rfl, hR, hO⟩
  have h3 := H5.out.ran hR hO (by omega) (by omega) (by omega)
  have y3 := h3.y.c3
  have yf := h3.y.free 3
  have ylt := h3.y.lt
  have h4 := h3.put (by omega) (by omega) (by omega) (h3.y.set3 (.int .i64 (fa : Int)))
  obtain ⟨w6, hw4⟩ : ∃ w4, w3.setCell ⟨G, 3, none⟩ (.int .i64 (fa : Int)) = w4 := ⟨_, rfl⟩
  rw [hw4] at h4
  have H6 := Lib.hid h4
  have HW6 := Lib.hid hw4
  have rbd : w6.cell? ⟨q, 1, none⟩ = some (.bool bd) := by rw [cell_at h4.r.at_, ← HBD.out]; rfl
  have rql := h4.r.lt
  have x0 := h4.x.c0
  have x1 := h4.x.c1
  have x2 := h4.x.c2
  have x3 := h4.x.c3
  have xf0 := h4.x.free 0
  have xf1 := h4.x.free 1
  have xf2 := h4.x.free 2
  have xf3 := h4.x.free 3
  have xlt := h4.x.lt
  have z0 := h4.y.c0
  have z1 := h4.y.c1
  have z2 := h4.y.c2
  have z3 := h4.y.c3
  have zlt := h4.y.lt
  have HZ := Lib.hid (h4.x.set (.slice none 0 0) (.int .i64 0) (.int .i64 0) (.int .i64 0))
  have HSN := Lib.hid (hSn w6 A c ⟨l, (st : Nat), (cu : Nat), (fa : Nat)⟩ h4.g.mk_at sd HSD.out)
  clear hR hO h3 h4 hw4 H5 HW5 y2
  go_upto_region 5 with fail
  rw [HW6.out]
  cases bd with
  | true =>
    have HY' : Hid (rYes r = false) := HYES.out
    go_wp2
    refine bodyPost_ret (res2 (p := 2) (u := 3) rfl _ rfl HZ.out.1) rfl ?_
    have hres : rRes r = zeroS := by rw [HRES.out]; rfl
    have ho : Only (· = q) W _ := (PlnOnly H6.out.o HZ.out.2 (by omega))
    refine ⟨?_, ho, none, 0, by rw [hres, HY'.out]; rfl, by rw [hres]; exact at_nil _⟩
    rw [HR3.out]
    exact ⟨H6.out.r.at_.keep HZ.out.2 (fun e => by omega), H6.out.r.low, H6.out.r.bel.trans (HZ.out.2.below H6.out.r.bel.size fun k hk => by omega)⟩
  | false =>
    go_wp2_with fail
    with_reducible refine HSN.out.mono ?_
    rintro e w7 ⟨rfl, hb7⟩
    have h7 := H6.out.below hb7
    clear x0 x1 x2 x3 xf0 xf1 xf2 xf3 xlt z0 z1 z2 z3 zlt HZ
    have x0 := h7.x.c0
    have x1 := h7.x.c1
    have x2 := h7.x.c2
    have x3 := h7.x.c3
    have xf0 := h7.x.free 0
    have xf1 := h7.x.free 1
    have xf2 := h7.x.free 2
    have xf3 := h7.x.free 3
    have xlt := h7.x.lt
    have z0 := h7.y.c0
    have z1 := h7.y.c1
    have z2 := h7.y.c2
    have z3 := h7.y.c3
    have zlt := h7.y.lt
    have HZ := Lib.hid (h7.x.set (.slice none 0 0) (.int .i64 0) (.int .i64 0) (.int .i64 0))
    have HT := Lib.hid (h7.x.set (.slice A l.length c) (.int .i64 (st : Int)) (.int .i64 (cu : Int)) (.int .i64 (fa : Int)))
    have H7 := Lib.hid h7
    clear hb7 h7 HSN H6
    cases sd with
    | true =>
      go_wp2
      refine bodyPost_ret (res2 (p := 2) (u := 3) rfl _ rfl HT.out.1) rfl ?_
      have hres : rRes r = ⟨l, (st : Nat), (cu : Nat), (fa : Nat)⟩ := by rw [HRES.out]; rfl
      have ho : Only (· = q) W _ := (PlnOnly H7.out.o HT.out.2 (by omega))
      refine ⟨?_, ho, A, c, by rw [hres, HYES.out]; rfl, ?_⟩
      · rw [HR3.out]
        exact ⟨H7.out.r.at_.keep HT.out.2 (fun e => by omega), H7.out.r.low, H7.out.r.bel.trans (HT.out.2.below H7.out.r.bel.size fun k hk => by omega)⟩
      · rw [hres]
        exact (H7.out.g.keep HT.out.2 (fun g h1 h2 e => by omega)).mk_at
    | false =>
      go_wp2
      refine bodyPost_ret (res2 (p := 2) (u := 3) rfl _ rfl HZ.out.1) rfl ?_
      have hres : rRes r = zeroS := by rw [HRES.out]; rfl
      have ho : Only (· = q) W _ := (PlnOnly H7.out.o HZ.out.2 (by omega))
      refine ⟨?_, ho, none, 0, by rw [hres, HYES.out]; rfl, by rw [hres]; exact at_nil _⟩
      rw [HR3.out]
      exact ⟨H7.out.r.at_.keep HZ.out.2 (fun e => by omega), H7.out.r.low, H7.out.r.bel.trans (HZ.out.2.below H7.out.r.bel.size fun k hk => by omega)⟩
end Go.Proofs.Ytcpnocjfafbnaaa.Srr
