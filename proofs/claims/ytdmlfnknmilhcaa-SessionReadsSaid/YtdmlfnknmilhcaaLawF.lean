/- SessionReads, walked: any bytes are read as the document has it. No statement is proved here. -/
import Derived.Test.YtdmlfnknmilhcaaRefF
import Derived.Test.YtdmlfnknmilhcaaLawE
set_option linter.unusedVariables false
set_option linter.unusedSimpArgs false
namespace Go.Proofs.Ytdmlfnknmilhcaa.LawF
open Go.RowKit Go.Proofs.Ytdmlfnknmilhcaa.Kit Go.Proofs.Ytdmlfnknmilhcaa.Blocks Go.Proofs.Ytdmlfnknmilhcaa.Rdr Go.Proofs.Ytdmlfnknmilhcaa.Ses Go.Proofs.Ytdmlfnknmilhcaa.Rws Go.Proofs.Ytdmlfnknmilhcaa.SesB Go.Proofs.Ytdmlfnknmilhcaa.Wtr Go.Proofs.Ytdmlfnknmilhcaa.WalkA Go.Proofs.Ytdmlfnknmilhcaa.Boxs Go.Proofs.Ytdmlfnknmilhcaa.Cal Go.Proofs.Ytdmlfnknmilhcaa.Begn Go.Proofs.Ytdmlfnknmilhcaa.Opn Go.Proofs.Ytdmlfnknmilhcaa.Two Go.Proofs.Ytdmlfnknmilhcaa.Like Go.Proofs.Ytdmlfnknmilhcaa.RdT Go.Proofs.Ytdmlfnknmilhcaa.WalkK Go.Proofs.Ytdmlfnknmilhcaa.LawE

theorem TAt.lower {B B' : Nat} {T E : TypeId} {w : World} {p : Nat} {v : Value} {m : Tb} (h : TAt B T E w p v m) (hb : B' ≤ B) : TAt B' T E w p v m := ⟨Nat.le_trans hb h.low, h.cell, own_base h.own hb, h.np⟩
set_option maxRecDepth 100000 in
set_option maxHeartbeats 8000000 in
theorem reads_walk (s : ByteArray) (A : Option Addr) (n c : Nat) (l : List Cl) (w : World) (hs : s.size ≤ 281474976710656) (hc : RC w w.heap.size A n l) (hm : n ≤ 9223372036854775807) (hi : ∀ e ∈ l, InC e) :
    Calls Try.prog 4 #[.string s, .slice A n c] w fun e w' => e = .returned (.bool true) ∧ Below w.heap.size w w' := by
  have hbo : ∀ (W : World) o, Below W.heap.size W (W.alloc o) := fun W o => (Below.refl _ _).alloc (Nat.le_refl _) o
  have HR := Lib.hid hc
  have HI := Lib.hid hi
  obtain ⟨m0, hm0⟩ : ∃ x, rTb (q0 s) = x := ⟨_, rfl⟩
  obtain ⟨ok, hok⟩ : ∃ x, rOk (q0 s) = x := ⟨_, rfl⟩
  obtain ⟨rE, hrE⟩ : ∃ x, rEnd (q0 s) = x := ⟨_, rfl⟩
  have HM0 := Lib.hid hm0
  have HOK := Lib.hid hok
  have HRE := Lib.hid hrE
  have HSANE : Hid (ok = true → Sane m0) := fun h => by
    have h1 : rOk (q0 s) = true := by rw [hok, h]
    unfold rOk at h1
    rw [Bool.and_eq_true] at h1
    rw [← hm0]
    exact read_sane _ h1.2
  clear hc hi hm0 hok hrE
  go_enter Try.func4, Try.ntmps4
  go_wp2_with fail
  with_reducible refine (begun_true _).mono ?_
  rintro e w1 ⟨rfl, hb1⟩
  have HB1 := Lib.hid hb1
  clear hb1
  go_wp2_with fail
  with_reducible refine (from_rp s w1).mono ?_
  rintro e w2 ⟨q1, rfl, hR2⟩
  have ha := hbo w2 (.cells #[.string s, .bool false] 49)
  have hnew := heap_alloc_new w2 (.cells #[.string s, .bool false] 49)
  have hB2 := HB1.out.trans (hR2.bel.mono HB1.out.size)
  have hB3 := hB2.trans (ha.mono hB2.size)
  have hR3 := hR2.below ha
  have hq1 := hR2.lt
  have hM3 : Rm w1 (w2.alloc (.cells #[.string s, .bool false] 49)) w2.heap.size (q0 s) := ⟨hnew, hR2.bel.size, hR2.bel.trans (ha.mono hR2.bel.size)⟩
  obtain ⟨w3, hw3⟩ : ∃ w3, w2.alloc (.cells #[.string s, .bool false] 49) = w3 := ⟨_, rfl⟩
  obtain ⟨q2, hq2⟩ : ∃ q2, w2.heap.size = q2 := ⟨_, rfl⟩
  rw [hw3] at hB3 hR3 hM3
  rw [hq2] at hM3 hq1
  have hl2 : w.heap.size ≤ q2 := by rw [← hq2]; exact hB2.size
  have hl1 : w.heap.size ≤ q1 := Nat.le_trans HB1.out.size hR3.low
  have HR3 := Lib.hid hR3
  have HM3 := Lib.hid hM3
  have HB3 := Lib.hid hB3
  have HW3 := Lib.hid hw3
  have HRD := Lib.hid (read_any hR3 hs HM0 HOK HRE)
  clear hR2 ha hnew hB2 hB3 hR3 hM3 hw3 HB1
  go_wp2_with fail
  rw [HW3.out]
  with_reducible refine HRD.out.mono ?_
  rintro e w4 ⟨hR4, hO4, hcase4⟩
  have hl3 : w1.heap.size ≤ q1 := HR3.out.low
  have hMM : Rm w1 w4 q2 (q0 s) := ⟨HM3.out.at_.keep hO4 (fun e => by omega), HM3.out.low, HM3.out.bel.trans (hO4.below HM3.out.bel.size fun k hk => by rw [hk]; exact hl3)⟩
  have hB4 := HB3.out.trans ((RdT.only_b hO4).below HB3.out.size fun k hk => by rw [hk]; exact hl1)
  have HB4 := Lib.hid hB4
  have HCASE := Lib.hid hcase4
  have HRD2 := Lib.hid (RefF.rread_any hMM hs HM0 HOK HRE)
  have HQ2 : Hid (q2 < w3.heap.size) := HM3.out.lt
  have HS34 : Hid (w3.heap.size ≤ w4.heap.size) := hO4.size
  clear hR4 hO4 hcase4 hMM hB4 HRD HR3 HM3
  cases ok with
  | false =>
    obtain rfl : e = .returned (.pointer none) := by
      rcases HCASE.out with ⟨h, _⟩ | ⟨_, h⟩
      · cases h
      · exact h
    go_wp2_with fail
    with_reducible refine HRD2.out.mono ?_
    rintro e w5 ⟨hR5, hO5, hcase5⟩
    obtain rfl : e = .returned (.pointer none) := by
      rcases hcase5 with ⟨h, _⟩ | ⟨_, h⟩
      · cases h
      · exact h
    have HB5 := Lib.hid (HB4.out.trans ((RdT.only_b hO5).below HB4.out.size fun k hk => by rw [hk]; exact hl2))
    clear hR5 hO5 hcase5
    go_wp2
    go_ret
    exact ⟨rfl, HB5.out⟩
  | true =>
    obtain ⟨p, v0, rfl, hP⟩ : ∃ p v, e = .returned (.pointer (some ⟨p, 0, none⟩)) ∧ PT w3.heap.size w4 p v m0 := by
      rcases HCASE.out with ⟨_, p, v, h1, h2⟩ | ⟨h, _⟩
      · exact ⟨p, v, h1, h2⟩
      · cases h
    have HP := Lib.hid hP
    clear hP HCASE
    go_wp2_with fail
    with_reducible refine HRD2.out.mono ?_
    rintro e w5 ⟨hR5, hO5, hcase5⟩
    obtain ⟨q, u0, rfl, hD⟩ : ∃ p v, e = .returned (.pointer (some ⟨p, 0, none⟩)) ∧ DT w4.heap.size w5 p v m0 := by
      rcases hcase5 with ⟨_, p, v, h1, h2⟩ | ⟨h, _⟩
      · exact ⟨p, v, h1, h2⟩
      · cases h
    have hq2l := HQ2.out
    have h34 := HS34.out
    have hPr : Pr w3.heap.size w5 p v0 q u0 m0 m0 := ⟨HP.out.keep (RdT.only_b hO5) (fun g hg e => by have := (HP.out.mine_lt hg).1; omega), LawF.TAt.lower hD h34, fun g hg hg2 => by
      have := (HP.out.mine_lt hg).2
      have := (hD.mine_lt hg2).1
      omega⟩
    have HS0 : Hid (Sane m0) := HSANE.out trivial
    have HB5 := Lib.hid (HB4.out.trans ((RdT.only_b hO5).below HB4.out.size fun k hk => by rw [hk]; exact hl2))
    have HPR := Lib.hid hPr
    have HSZ := Lib.hid HB3.out.size
    have HA0 := Lib.hid (alike_any hPr HS0.out.few)
    clear hR5 hO5 hcase5 hD hq2l h34 hPr HRD2 HP
    go_wp2_with fail
    with_reducible refine HA0.out.mono ?_
    rintro e w6 ⟨rfl, hb6⟩
    have HP2 := Lib.hid (HPR.out.below hb6)
    have HB6 := Lib.hid (HB5.out.trans (hb6.mono HB5.out.size))
    clear hb6 HA0 HPR HB5
    go_wp2_with fail
    go_loopw [35] (fun i wr => ∃ (k : Nat) (v u : Value) (m : Tb), k ≤ n ∧ k ≤ 300 ∧ i = .int .i64 (k : Int) ∧ Hid (Pr w3.heap.size wr p v q u m m) ∧ Hid (Sane m) ∧ Hid (Below w.heap.size w wr)) (fun i _ => n - (intOf i).toNat)
    case atStart => exact ⟨0, v0, u0, m0, by omega, by omega, rfl, HP2.out, HS0.out, HB6.out⟩
    case round =>
      obtain ⟨k, v, u, m, hkn, hk5, rfl, hst, hsn, hbel⟩ := hrel
      clear HP2 HB6
      by_cases hlast : k < n ∧ k ≠ 300
      · obtain ⟨hkn', hk300⟩ := hlast
        have HJ := Lib.hid hkn'
        obtain ⟨b, o, x, rfl, hb, hx, hsix⟩ := RC.at_ HR.out hkn'
        have hin := HI.out x (List.mem_of_getElem? hx)
        obtain ⟨y0, y1, y2, y3, y4, y5⟩ := hsix.below hbel.out hb
        have hbw := Nat.lt_of_lt_of_le hb hbel.out.size
        have h300I : ¬ (k : Int) = 300 := by omega
        obtain ⟨kd, id, s, ⟨ye, yn, yx⟩⟩ := x
        simp only at y0 y1 y2 y3 y4 y5
        have hboC := hbo wr (.cells #[.int .i64 kd, .int .u64 (id : Int), .int .u64 (s : Int), .int .i64 ye, .int .u64 (yn : Int), .int .u64 (yx : Int)] 35)
        have hP := hst.out.below hboC
        have hBC := hbel.out.trans (hboC.mono hbel.out.size)
        obtain ⟨m', hm'⟩ : ∃ m', Two.stepT m ⟨kd, id, s, ⟨ye, yn, yx⟩⟩ = m' := ⟨_, rfl⟩
        have HC := Lib.hid (both_lit hP hsn.out hin (Lib.hid hm'))
        have HS' : Hid (Sane m') := by rw [← hm']; exact step_sane hsn.out hin
        have HBC := Lib.hid hBC
        clear hsix hx hin hboC hP hBC hm'
        go_wp2_with fail
        with_reducible refine HC.out.mono ?_
        rintro e w4 ⟨rfl, ⟨v', u', hP4⟩, hb4⟩
        have HP4 := Lib.hid hP4
        have HB4 := Lib.hid (HBC.out.trans (hb4.mono HSZ.out))
        have HA := Lib.hid (alike_any hP4 HS'.out.few)
        clear hP4 hb4 HC
        go_wp2_with fail
        with_reducible refine HA.out.mono ?_
        rintro e w5 ⟨rfl, hb5⟩
        have HP5 := Lib.hid (HP4.out.below hb5)
        have HB5 := Lib.hid (HB4.out.trans (hb5.mono HB4.out.size))
        clear hb5 HA HP4 HB4
        go_wp2
        go_roundw
        case rel => exact ⟨k + 1, v', u', m', HJ.out, by omega, by go_num, HP5.out, HS'.out, HB5.out⟩
        case measure => have := HJ.out; simp [intOf]; omega
      · by_cases hkn' : k = n
        · subst hkn'
          go_wp2
          go_ret
          exact ⟨rfl, hbel.out⟩
        · have hk300 : k = 300 := by omega
          have hk300I : (k : Int) = 300 := by omega
          have hkn2 : k < n := by omega
          have hkn3 : (300 : Int) < (n : Int) := by omega
          obtain ⟨b, o, x, rfl, hb, hx, hsix⟩ := RC.at_ HR.out hkn2
          obtain ⟨y0, y1, y2, y3, y4, y5⟩ := hsix.below hbel.out hb
          have hbw := Nat.lt_of_lt_of_le hb hbel.out.size
          rw [hk300] at y0 y1 y2 y3 y4 y5
          obtain ⟨kd, id, s', ⟨ye, yn, yx⟩⟩ := x
          simp only at y0 y1 y2 y3 y4 y5
          have hboC := hbel.out.trans ((hbo wr (.cells #[.int .i64 kd, .int .u64 (id : Int), .int .u64 (s' : Int), .int .i64 ye, .int .u64 (yn : Int), .int .u64 (yx : Int)] 35)).mono hbel.out.size)
          clear hsix hx
          go_wp2
          go_ret
          exact ⟨rfl, hboC⟩
end Go.Proofs.Ytdmlfnknmilhcaa.LawF
