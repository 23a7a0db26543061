/- What saga's Read answers, walked. No statement is proved here. -/
import Derived.Test.YtcpnocjfafbnaaaSgb
import Derived.Test.YtcpnocjfafbnaaaSagAt
import Derived.Test.YtcpnocjfafbnaaaWalkA
set_option linter.unusedVariables false
set_option linter.unusedSimpArgs false
namespace Go.Proofs.Ytcpnocjfafbnaaa.Srd
open Go.RowKit Go.Proofs.Ytcpnocjfafbnaaa.Kit Go.Proofs.Ytcpnocjfafbnaaa.Rdr Go.Proofs.Ytcpnocjfafbnaaa.Stq Go.Proofs.Ytcpnocjfafbnaaa.Pln Go.Proofs.Ytcpnocjfafbnaaa.Sag Go.Proofs.Ytcpnocjfafbnaaa.SagAt Go.Proofs.Ytcpnocjfafbnaaa.Sgb Go.Proofs.Ytcpnocjfafbnaaa.Wtr
open Go.Proofs.Ytcpnocjfafbnaaa.PckWalkE (upV textV)
open Go.Proofs.Ytcpnocjfafbnaaa.PlnWalkD (RdP own_keep)
open Go.Proofs.Ytcpnocjfafbnaaa.State (Only cell_at free_at lt_at set_at)

theorem sps_nm : ∀ (k : Nat) (r : Rd), ∀ e ∈ rSps k r, e.nm.size ≤ 16
  | 0, _, e, h => by simp [rSps] at h
  | k + 1, r, e, h => by
    rcases List.mem_append.1 (show e ∈ rSps k r ++ [rSp (rAt k r)] from h) with h | h
    · exact sps_nm k r e h
    · simp at h
      subst h
      have := textV_le ((rAt k r).up 3).s (k := 16) (by decide)
      show (textV ((rAt k r).up 3).s 16).size ≤ 16
      omega
theorem plan_in (r : Rd) : (rPlan r).length ≤ 64 ∧ ∀ e ∈ rPlan r, e.nm.size ≤ 16 := by
  unfold rPlan
  split
  · exact ⟨by simp, by simp⟩
  · exact ⟨by rw [rSps_length]; exact rN_le r, sps_nm _ _⟩
/-- Steps that were read. -/
structure Got (B : Nat) (w : World) (v : Value) (l : List Sp) : Prop where
  own : w.ownsRow B 42 3 v l.length (scells l)
  few : l.length ≤ 64
  nm : ∀ e ∈ l, e.nm.size ≤ 16
section
variable {B : Nat} {w w' : World} {v : Value} {l : List Sp}
theorem Got.keep (h : Got B w v l) {S : Nat → Prop} (k : Only S w w') (hs : ∀ g, B ≤ g → g < w.heap.size → ¬ S g) : Got B w' v l :=
  ⟨own_keep k h.own fun g hg => hs g (h.own.lt g hg).1 (h.own.lt g hg).2, h.few, h.nm⟩
theorem Got.below (h : Got B w v l) (k : Below w.heap.size w w') : Got B w' v l := h.keep (S := fun _ => False) (Only.of_below k) (by simp)
theorem Got.at_ (h : Got B w v l) : ∃ A c, v = .slice A l.length c ∧ At w A l := by
  obtain ⟨A, c, hv, _, _, hr⟩ := own_form h.own
  exact ⟨A, c, hv, hr, by have := h.few; omega, fun e he => by have := h.nm e he; omega⟩
end
theorem Got.mk_at {B : Nat} {w : World} {A : Option Addr} {n c : Nat} {l : List Sp} (h : Got B w (.slice A n c) l) : At w A l := by
  obtain ⟨A', c', e, ha⟩ := h.at_
  cases e
  exact ha
/-- What Read leaves. -/
def ReadS (T : TypeId) (w0 W : World) (q : Nat) (r : Rd) (e : Ending) (W' : World) : Prop :=
  Rds T w0 W' q (r3 r) ∧ Only (· = q) W W' ∧ ∃ A c, e = .returned (.tuple #[.agg #[.slice A (rRes r).l.length c, .int .i64 (rRes r).st, .int .i64 (rRes r).cu, .int .i64 (rRes r).fa], .bool (rYes r)]) ∧ At W' A (rRes r).l
theorem PlnOnly {q P : Nat} {W w w' : World} (h : Only (· = q) W w) (k : Only (fun g => g = P) w w') (hP : W.heap.size ≤ P) : Only (· = q) W w' :=
  ⟨k.os.trans h.os, k.tape.trans h.tape, k.output.trans h.output, Nat.le_trans h.size k.size, fun i hi hn => (k.block i (by have := h.size; omega) fun e => by omega).trans (h.block i hi hn)⟩
theorem at_nil (w : World) : At w none [] := ⟨RS.nil _ _ _, by decide, by simp⟩
set_option maxRecDepth 100000 in
set_option maxHeartbeats 8000000 in
theorem sread_any {w0 W : World} {q : Nat} {r : Rd} (h : Rp w0 W q r) (hs : r.s.size ≤ 281474976710656) :
    Calls Try.prog 25 #[.pointer (some ⟨q, 0, none⟩)] W (ReadS 76 w0 W q r) := by
  have hq := h.lt
  have hbo : ∀ (W : World) o, Below W.heap.size W (W.alloc o) := fun W o => (Below.refl _ _).alloc (Nat.le_refl _) o
  obtain ⟨l, hl⟩ : ∃ x, rPlan r = x := ⟨_, rfl⟩
  obtain ⟨ra, hra⟩ : ∃ x, rEnd r = x := ⟨_, rfl⟩
  obtain ⟨st, hst⟩ : ∃ x, upV ra.s 5 = x := ⟨_, rfl⟩
  obtain ⟨rb, hrb⟩ : ∃ x, ra.up 5 = x := ⟨_, rfl⟩
  obtain ⟨cu, hcu⟩ : ∃ x, upV rb.s 64 = x := ⟨_, rfl⟩
  obtain ⟨rc, hrc⟩ : ∃ x, rb.up 64 = x := ⟨_, rfl⟩
  obtain ⟨fa, hfa⟩ : ∃ x, upV rc.s 9 = x := ⟨_, rfl⟩
  obtain ⟨rd, hrd⟩ : ∃ x, rc.up 9 = x := ⟨_, rfl⟩
  have s1 : ra.s.size ≤ 281474976710656 := by rw [← hra]; exact Nat.le_trans (rEnd_le r) hs
  have s2 : rb.s.size ≤ 281474976710656 := by rw [← hrb]; exact Nat.le_trans (Rd.up_le ra 5) s1
  have s3 : rc.s.size ≤ 281474976710656 := by rw [← hrc]; exact Nat.le_trans (Rd.up_le rb 64) s2
  have hr3 : r3 r = rd := by unfold r3 r2 r1; rw [hra, hrb, hrc, hrd]
  have hsg : rSag r = ⟨l, (st : Nat), (cu : Nat), (fa : Nat)⟩ := by unfold rSag r2 r1; rw [hl, hra, hst, hrb, hcu, hrc, hfa]
  obtain ⟨hp1, hp2⟩ := plan_in r
  rw [hl] at hp1 hp2
  obtain ⟨sd, hsd⟩ : ∃ x, sound ⟨l, (st : Nat), (cu : Nat), (fa : Nat)⟩ = x := ⟨_, rfl⟩
  obtain ⟨bd, hbd⟩ : ∃ x, rd.bad = x := ⟨_, rfl⟩
  obtain ⟨ps, hps⟩ : ∃ x, rd.s.size = x := ⟨_, rfl⟩
  have hyes : rYes r = (!bd && sd) := by unfold rYes; rw [hr3, hbd, hsg, hsd]
  have HRES : Hid (rRes r = if (!bd && sd) = true then ⟨l, (st : Nat), (cu : Nat), (fa : Nat)⟩ else zeroS) := by
    have : rRes r = if (!bd && sd) = true then ⟨l, (st : Nat), (cu : Nat), (fa : Nat)⟩ else zeroS := by unfold rRes; rw [hyes, hsg]
    exact this
  have HYES := Lib.hid hyes
  have HR3 := Lib.hid hr3
  have HL := Lib.hid hl
  have HRA := Lib.hid hra
  have HST := Lib.hid hst
  have HRB := Lib.hid hrb
  have HCU := Lib.hid hcu
  have HRC := Lib.hid hrc
  have HFA := Lib.hid hfa
  have HRDD := Lib.hid hrd
  have HSD := Lib.hid hsd
  have HPS := Lib.hid hps
  have HBD : Hid ((!rd.bad) = !bd) := by rw [hbd]; exact Lib.hid rfl
  have HP1 := Lib.hid hp1
  have HP2 := Lib.hid hp2
  clear hl hra hst hrb hcu hrc hfa hrd hr3 hsg hsd hbd hps hyes hp1 hp2
  have hX := Box4.new W (.slice none 0 0) (.int .i64 0) (.int .i64 0) (.int .i64 0)
  have hb0 := hbo W (.cells #[.slice none 0 0, .int .i64 0, .int .i64 0, .int .i64 0] 24)
  have h0 := h.below hb0
  have ho0 : Only (· = q) W (W.alloc (.cells #[.slice none 0 0, .int .i64 0, .int .i64 0, .int .i64 0] 24)) := Only.of_below hb0
  have hszW : W.heap.size < (W.alloc (.cells #[.slice none 0 0, .int .i64 0, .int .i64 0, .int .i64 0] 24)).heap.size := by simp
  obtain ⟨wa, hwa⟩ : ∃ wa, W.alloc (.cells #[.slice none 0 0, .int .i64 0, .int .i64 0, .int .i64 0] 24) = wa := ⟨_, rfl⟩
  obtain ⟨P, hP⟩ : ∃ P, W.heap.size = P := ⟨_, rfl⟩
  rw [hwa] at hX h0 ho0 hszW
  rw [hP] at hX hq hszW
  have HX := Lib.hid hX
  have H0 := Lib.hid h0
  have HO := Lib.hid ho0
  have HWA := Lib.hid hwa
  clear h hX hb0 h0 ho0 hwa
  go_enter Try.func25, Try.ntmps25
  go_wp2_with fail
  rw [HWA.out]
  go_wp2_with fail
  with_reducible refine (PlnWalkD.read_any H0.out hs HL HRA).mono ?_
  rintro e w1 ⟨v, rfl, hown, hR1, hO1⟩
  have HG1 : Hid (Got wa.heap.size w1 v l) := ⟨hown, HP1.out, HP2.out⟩
  have HR1 := Lib.hid hR1
  have HO1 := Lib.hid (HO.out.trans hO1)
  have HX1 := Lib.hid (HX.out.keep hO1 (fun e => by omega))
  clear hown hR1 hO1 H0 HO HX
  go_wp2_with fail
  with_reducible refine (rp_up 5 HR1.out s1 (by decide) HST HRB).mono ?_
  rintro e w2 ⟨rfl, hR2, hO2⟩
  have HR2 := Lib.hid hR2
  have HO2 := Lib.hid (HO1.out.trans hO2)
  have HX2 := Lib.hid (HX1.out.keep hO2 (fun e => by omega))
  have HG2 := Lib.hid (HG1.out.keep hO2 (fun g h1 h2 e => by omega))
  clear hR2 hO2 HR1 HO1 HX1 HG1
  go_wp2_with fail
  with_reducible refine (rp_up 64 HR2.out s2 (by decide) HCU HRC).mono ?_
  rintro e w3 ⟨rfl, hR3, hO3⟩
  have HR3' := Lib.hid hR3
  have HO3 := Lib.hid (HO2.out.trans hO3)
  have HX3 := Lib.hid (HX2.out.keep hO3 (fun e => by omega))
  have HG3 := Lib.hid (HG2.out.keep hO3 (fun g h1 h2 e => by omega))
  clear hR3 hO3 HR2 HO2 HX2 HG2
  go_wp2_with fail
  with_reducible refine (rp_up 9 HR3'.out s3 (by decide) HFA HRDD).mono ?_
  rintro e w4 ⟨rfl, hR4, hO4⟩
  have hg4 := HG3.out.keep hO4 (fun g h1 h2 e => by omega)
  obtain ⟨A, c, rfl, _⟩ := hg4.at_
  have hb5 := hbo w4 (.cells #[.slice A l.length c, .int .i64 (st : Int), .int .i64 (cu : Int), .int .i64 (fa : Int)] 24)
  have hY := Box4.new w4 (.slice A l.length c) (.int .i64 (st : Int)) (.int .i64 (cu : Int)) (.int .i64 (fa : Int))
  have hat5 := hg4.below hb5
  have hR5 := hR4.below hb5
  have hX5 := (HX3.out.keep hO4 (fun e => by omega)).below hb5
  have hO5 := (HO3.out.trans hO4).trans (Only.of_below (S := (· = q)) hb5)
  have hPw : P < w4.heap.size := (HX3.out.keep hO4 (fun e => by omega)).lt
  obtain ⟨w5, hw5⟩ : ∃ w5, w4.alloc (.cells #[.slice A l.length c, .int .i64 (st : Int), .int .i64 (cu : Int), .int .i64 (fa : Int)] 24) = w5 := ⟨_, rfl⟩
  obtain ⟨G, hG⟩ : ∃ G, w4.heap.size = G := ⟨_, rfl⟩
  rw [hw5] at hY hat5 hR5 hX5 hO5
  rw [hG] at hY hPw
  have HY5 := Lib.hid hY
  have HA5 := Lib.hid hat5
  have HR5 := Lib.hid hR5
  have HX5 := Lib.hid hX5
  have HO5 := Lib.hid hO5
  have HW5 := Lib.hid hw5
  clear hR4 hO4 hg4 hb5 hY hat5 hR5 hX5 hO5 hw5 HR3' HO3 HX3 HG3
  go_wp2_with fail
  rw [HW5.out]
  with_reducible refine (rp_left HR5.out HPS HBD).mono ?_
  rintro e w6 ⟨rfl, hR6, hO6⟩
  have HR6 := Lib.hid hR6
  have HO6 := Lib.hid (HO5.out.trans hO6)
  have HX6 := Lib.hid (HX5.out.keep hO6 (fun e => by omega))
  have HY6 := Lib.hid (HY5.out.keep hO6 (fun e => by omega))
  have HG6 := Lib.hid (HA5.out.keep hO6 (fun g h1 h2 e => by omega))
  clear hR6 hO6 HR5 HO5 HX5 HY5 HA5
  obtain ⟨x0, x1, x2, x3⟩ : _ ∧ _ ∧ _ ∧ _ := ⟨HX6.out.c0, HX6.out.c1, HX6.out.c2, HX6.out.c3⟩
  have xf0 := HX6.out.free 0
  have xf1 := HX6.out.free 1
  have xf2 := HX6.out.free 2
  have xf3 := HX6.out.free 3
  have xlt := HX6.out.lt
  have y0 := HY6.out.c0
  have y1 := HY6.out.c1
  have y2 := HY6.out.c2
  have y3 := HY6.out.c3
  have ylt := HY6.out.lt
  have hPG : P ≠ G := by omega
  have hPW : W.heap.size = P := hP
  have HZ := Lib.hid (HX6.out.set (.slice none 0 0) (.int .i64 0) (.int .i64 0) (.int .i64 0))
  have hlowq := HR6.out.low
  cases bd with
  | true =>
    have HY' : Hid (rYes r = false) := HYES.out
    go_wp2
    refine bodyPost_ret (res2 (p := 2) (u := 3) rfl _ rfl HZ.out.1) rfl ?_
    have hres : rRes r = zeroS := by rw [HRES.out]; rfl
    have ho : Only (· = q) W _ := (PlnOnly HO6.out HZ.out.2 (by omega))
    refine ⟨?_, ho, none, 0, by rw [hres, HY'.out]; rfl, by rw [hres]; exact at_nil _⟩
    rw [HR3.out]
    exact ⟨HR6.out.at_.keep HZ.out.2 (fun e => by omega), HR6.out.low, HR6.out.bel.trans (HZ.out.2.below HR6.out.bel.size fun k hk => by omega)⟩
  | false =>
    have HSN := Lib.hid (WalkA.sound_any (c := c) (s := ⟨l, (st : Nat), (cu : Nat), (fa : Nat)⟩) HG6.out.mk_at HSD)
    unfold sgV at HSN
    simp only at HSN
    go_wp2_with fail
    with_reducible refine HSN.out.mono ?_
    rintro e w7 ⟨rfl, hb7⟩
    have hx7 := HX6.out.below hb7
    have hy7 := HY6.out.below hb7
    have HR7 := Lib.hid (HR6.out.below hb7)
    have HO7 := Lib.hid (HO6.out.trans (Only.of_below (S := (· = q)) hb7))
    have HG7 := Lib.hid (HG6.out.below hb7)
    clear x0 x1 x2 x3 xf0 xf1 xf2 xf3 xlt y0 y1 y2 y3 ylt HZ
    have x0 := hx7.c0
    have x1 := hx7.c1
    have x2 := hx7.c2
    have x3 := hx7.c3
    have xf0 := hx7.free 0
    have xf1 := hx7.free 1
    have xf2 := hx7.free 2
    have xf3 := hx7.free 3
    have xlt := hx7.lt
    have y0 := hy7.c0
    have y1 := hy7.c1
    have y2 := hy7.c2
    have y3 := hy7.c3
    have ylt := hy7.lt
    have HZ := Lib.hid (hx7.set (.slice none 0 0) (.int .i64 0) (.int .i64 0) (.int .i64 0))
    have HT := Lib.hid (hx7.set (.slice A l.length c) (.int .i64 (st : Int)) (.int .i64 (cu : Int)) (.int .i64 (fa : Int)))
    clear hb7 hx7 hy7 HSN HX6 HY6 HR6 HO6 HG6
    cases sd with
    | true =>
      go_wp2
      refine bodyPost_ret (res2 (p := 2) (u := 3) rfl _ rfl HT.out.1) rfl ?_
      have hres : rRes r = ⟨l, (st : Nat), (cu : Nat), (fa : Nat)⟩ := by rw [HRES.out]; rfl
      have ho : Only (· = q) W _ := (PlnOnly HO7.out HT.out.2 (by omega))
      refine ⟨?_, ho, A, c, by rw [hres, HYES.out]; rfl, ?_⟩
      · rw [HR3.out]
        exact ⟨HR7.out.at_.keep HT.out.2 (fun e => by omega), HR7.out.low, HR7.out.bel.trans (HT.out.2.below HR7.out.bel.size fun k hk => by omega)⟩
      · rw [hres]
        exact (HG7.out.keep HT.out.2 (fun g h1 h2 e => by omega)).mk_at
    | false =>
      go_wp2
      refine bodyPost_ret (res2 (p := 2) (u := 3) rfl _ rfl HZ.out.1) rfl ?_
      have hres : rRes r = zeroS := by rw [HRES.out]; rfl
      have ho : Only (· = q) W _ := (PlnOnly HO7.out HZ.out.2 (by omega))
      refine ⟨?_, ho, none, 0, by rw [hres, HYES.out]; rfl, by rw [hres]; exact at_nil _⟩
      rw [HR3.out]
      exact ⟨HR7.out.at_.keep HZ.out.2 (fun e => by omega), HR7.out.low, HR7.out.bel.trans (HZ.out.2.below HR7.out.bel.size fun k hk => by omega)⟩
end Go.Proofs.Ytcpnocjfafbnaaa.Srd
