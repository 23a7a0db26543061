/- SessionSaves, walked: a table that is written is read as the same one. No statement is proved here. -/
import Derived.Test.YtdmlfnknmilhcaaBack
import Derived.Test.YtdmlfnknmilhcaaWalkH
import Derived.Test.YtdmlfnknmilhcaaWalkK
import Derived.Test.YtdmlfnknmilhcaaLawA
import Derived.Lib.MinMax
set_option linter.unusedVariables false
set_option linter.unusedSimpArgs false
namespace Go.Proofs.Ytdmlfnknmilhcaa.LawD
open Go.RowKit Go.Proofs.Ytdmlfnknmilhcaa.Kit Go.Proofs.Ytdmlfnknmilhcaa.Blocks Go.Proofs.Ytdmlfnknmilhcaa.Rdr Go.Proofs.Ytdmlfnknmilhcaa.Ses Go.Proofs.Ytdmlfnknmilhcaa.Rws Go.Proofs.Ytdmlfnknmilhcaa.SesB Go.Proofs.Ytdmlfnknmilhcaa.Wtr Go.Proofs.Ytdmlfnknmilhcaa.WalkA Go.Proofs.Ytdmlfnknmilhcaa.Boxs Go.Proofs.Ytdmlfnknmilhcaa.Cal Go.Proofs.Ytdmlfnknmilhcaa.Begn Go.Proofs.Ytdmlfnknmilhcaa.Opn Go.Proofs.Ytdmlfnknmilhcaa.RdT Go.Proofs.Ytdmlfnknmilhcaa.WalkK Go.Proofs.Ytdmlfnknmilhcaa.Back
open Go.Proofs.Ytdmlfnknmilhcaa.State (WV)
open Go.Proofs.Ytdmlfnknmilhcaa.PckWalkH (str)

/-- A table in a loop. -/
structure Tl (B p : Nat) (w : World) (v : Value) (m : Tb) : Prop where
  t : PT B w p v m
  s : Sane m
  e : EAll m
section
variable {B p : Nat} {w w' : World} {v : Value} {m m' : Tb}
theorem Tl.below (h : Tl B p w v m) (k : Below w.heap.size w w') : Tl B p w' v m := ⟨h.t.below k, h.s, h.e⟩
theorem Tl.left (h : Tl B p w v m) (k : PLeft B w p v m' w') (hs : Sane m') (he : EAll m') : ∃ v', Tl B p w' v' m' ∧ Below B w w' := by
  have hb := left_below h.t k
  obtain ⟨v', ht, _, _⟩ := k
  exact ⟨v', ⟨ht, hs, he⟩, hb⟩
end
theorem clamp (e : Int) : ∃ k : Nat, k ≤ 52 ∧ max 0 (min e 52) = (k : Int) := ⟨(max 0 (min e 52)).toNat, by omega, by omega⟩
set_option maxRecDepth 100000 in
set_option maxHeartbeats 8000000 in
theorem saves_walk (A : Option Addr) (n c : Nat) (l : List Cl) (w : World) (hc : RC w w.heap.size A n l) (hm : n ≤ 9223372036854775807) (hi : ∀ e ∈ l, InC e) :
    Calls Try.prog 8 #[.slice A n c] w fun e w' => e = .returned (.bool true) ∧ Below w.heap.size w w' := by
  have hbo : ∀ (W : World) o, Below W.heap.size W (W.alloc o) := fun W o => (Below.refl _ _).alloc (Nat.le_refl _) o
  have HR := Lib.hid hc
  have HI := Lib.hid hi
  clear hc hi
  go_enter Try.func8, Try.ntmps8
  go_wp2_with fail
  with_reducible refine (begun_true _).mono ?_
  rintro e w1 ⟨rfl, hb1⟩
  go_wp2_with fail
  with_reducible refine (new_any _).mono ?_
  rintro e w2 ⟨p, v2, rfl, h2, hb2⟩
  have HSZ := Lib.hid hb1.size
  have HT2 : Hid (Tl w1.heap.size p w2 v2 tb0) := ⟨h2, good0, EAll.zero⟩
  have HB2 := Lib.hid (hb1.trans (hb2.mono hb1.size))
  clear hb1 hb2 h2
  go_wp2_with fail
  go_loopw [14] (fun i wr => ∃ (k : Nat) (v : Value) (m : Tb), k ≤ n ∧ k ≤ 400 ∧ i = .int .i64 (k : Int) ∧ Hid (Tl w1.heap.size p wr v m) ∧ Hid (Below w.heap.size w wr)) (fun i _ => n - (intOf i).toNat)
  case atStart => exact ⟨0, v2, tb0, by omega, by omega, rfl, HT2.out, HB2.out⟩
  case round =>
    obtain ⟨k, v, m, hkn, hk5, rfl, hst, hbel⟩ := hrel
    clear HT2 HB2
    by_cases hlast : k < n ∧ k ≠ 400
    · obtain ⟨hkn', hk400⟩ := hlast
      have HJ := Lib.hid hkn'
      obtain ⟨b, o, x, rfl, hb, hx, hsix⟩ := RC.at_ HR.out hkn'
      have hin := HI.out x (List.mem_of_getElem? hx)
      obtain ⟨y0, y1, y2, y3, y4, y5⟩ := hsix.below hbel.out hb
      have hbw := Nat.lt_of_lt_of_le hb hbel.out.size
      have h400I : ¬ (k : Int) = 400 := by omega
      obtain ⟨hkk, hid, hs, hyok⟩ := hin
      obtain ⟨kd, id, s, ⟨ye, yn, yx⟩⟩ := x
      simp only at y0 y1 y2 y3 y4 y5 hkk hid hs hyok
      have hboC := hbo wr (.cells #[.int .i64 kd, .int .u64 (id : Int), .int .u64 (s : Int), .int .i64 ye, .int .u64 (yn : Int), .int .u64 (yx : Int)] 35)
      have hnewC := heap_alloc_new wr (.cells #[.int .i64 kd, .int .u64 (id : Int), .int .u64 (s : Int), .int .i64 ye, .int .u64 (yn : Int), .int .u64 (yx : Int)] 35)
      have hste := hst.out.below hboC
      have hBC := hbel.out.trans (hboC.mono hbel.out.size)
      clear hsix hx
      by_cases hk0 : kd = 0
      · subst hk0
        have HC := Lib.hid (clock_any hste.t hste.s hid (Lib.hid rfl))
        have HS := Lib.hid hste
        have HB := Lib.hid hBC
        clear hste hBC hboC hnewC
        go_wp2_with fail
        with_reducible refine HC.out.mono ?_
        rintro e w4 ⟨rfl, hL⟩
        obtain ⟨v', h', hb'⟩ := HS.out.left hL (HS.out.s.clock hid) (HS.out.e.clock id)
        have H4 := Lib.hid h'
        have HB4 := Lib.hid (HB.out.trans (hb'.mono HSZ.out))
        clear hL h' hb' HC HS HB
        go_wp2
        go_roundw
        case rel => exact ⟨k + 1, v', _, HJ.out, by omega, by go_num, H4.out, HB4.out⟩
        case measure => have := HJ.out; simp [intOf]; omega
      by_cases hk1 : kd = 1
      · subst hk1
        have HC := Lib.hid (reg_any hste.t hste.s (Lib.hid rfl) (Lib.hid rfl) (Lib.hid rfl))
        have HS := Lib.hid hste
        have HB := Lib.hid hBC
        clear hste hBC hboC hnewC
        go_wp2_with fail
        with_reducible refine HC.out.mono ?_
        rintro e w4 ⟨rfl, hL⟩
        obtain ⟨v', h', hb'⟩ := HS.out.left hL HS.out.s.reg HS.out.e.reg
        have H4 := Lib.hid h'
        have HB4 := Lib.hid (HB.out.trans (hb'.mono HSZ.out))
        clear hL h' hb' HC HS HB
        go_wp2
        go_roundw
        case rel => exact ⟨k + 1, v', _, HJ.out, by omega, by go_num, H4.out, HB4.out⟩
        case measure => have := HJ.out; simp [intOf]; omega
      by_cases hk2 : kd = 2
      · subst hk2
        have HC := Lib.hid (beg_any hste.t hste.s id hs (Lib.hid rfl) (Lib.hid rfl) (Lib.hid rfl))
        have HS := Lib.hid hste
        have HB := Lib.hid hBC
        clear hste hBC hboC hnewC
        go_wp2_with fail
        with_reducible refine HC.out.mono ?_
        rintro e w4 ⟨rfl, hL⟩
        obtain ⟨v', h', hb'⟩ := HS.out.left hL (HS.out.s.beg id) (HS.out.e.beg id)
        have H4 := Lib.hid h'
        have HB4 := Lib.hid (HB.out.trans (hb'.mono HSZ.out))
        clear hL h' hb' HC HS HB
        go_wp2
        go_roundw
        case rel => exact ⟨k + 1, v', _, HJ.out, by omega, by go_num, H4.out, HB4.out⟩
        case measure => have := HJ.out; simp [intOf]; omega
      obtain ⟨ke, hke, hce⟩ := clamp ye
      have hboE := hbo wr (.cells #[.int .i64 kd, .int .u64 (id : Int), .int .u64 (s : Int), .int .i64 (ke : Int), .int .u64 (yn : Int), .int .u64 (yx : Int)] 35)
      have hT3 := hst.out.below hboE
      have hB3 := hbel.out.trans (hboE.mono hbel.out.size)
      have hyk : (⟨(ke : Int), yn, yx⟩ : Ry).Ok := ⟨by show -9223372036854775808 ≤ (ke : Int); omega, by show (ke : Int) ≤ 9223372036854775807; omega, hyok.2.2.1, hyok.2.2.2⟩
      have hend : Calls Try.prog 22 #[.pointer (some ⟨p, 0, none⟩), .int .u64 (id : Int), .int .u64 (s : Int), .agg #[.int .i64 (ke : Int), .int .u64 (yn : Int), .int .u64 (yx : Int)]] (wr.alloc (.cells #[.int .i64 kd, .int .u64 (id : Int), .int .u64 (s : Int), .int .i64 (ke : Int), .int .u64 (yn : Int), .int .u64 (yx : Int)] 35)) fun e w' => e = .returned (.bool (endF m id s)) ∧ PLeft w1.heap.size (wr.alloc (.cells #[.int .i64 kd, .int .u64 (id : Int), .int .u64 (s : Int), .int .i64 (ke : Int), .int .u64 (yn : Int), .int .u64 (yx : Int)] 35)) p v (endT m id s ⟨(ke : Int), yn, yx⟩) w' := end_any hT3.t id hs ⟨(ke : Int), yn, yx⟩ (Lib.hid rfl) (Lib.hid rfl)
      have HC := Lib.hid hend
      have HS := Lib.hid hT3
      have HB := Lib.hid hB3
      clear hste hBC hboC hnewC hboE hT3 hB3 hend
      go_wp2_with fail
      with_reducible refine HC.out.mono ?_
      rintro e w4 ⟨rfl, hL⟩
      obtain ⟨v', h', hb'⟩ := HS.out.left hL (HS.out.s.fin id hs hyk) (HS.out.e.fin id s ⟨by show 0 ≤ (ke : Int); omega, by show (ke : Int) ≤ 52; omega⟩)
      have H4 := Lib.hid h'
      have HB4 := Lib.hid (HB.out.trans (hb'.mono HSZ.out))
      clear hL h' hb' HC HS HB
      go_wp2
      go_roundw
      case rel => exact ⟨k + 1, v', _, HJ.out, by omega, by go_num, H4.out, HB4.out⟩
      case measure => have := HJ.out; simp [intOf]; omega
    · have hfin : Hid (Tl w1.heap.size p wr v m ∧ Below w.heap.size w wr) := ⟨hst.out, hbel.out⟩
      by_cases hkn' : k = n
      · subst hkn'
        clear hst hbel
        have hfin0 := hfin
        have hT := hfin0.out.1
        have hB0 := hfin0.out.2
        have ha := hbo wr (.cells #[.slice none 0 0] 41)
        have hb' := hbo (wr.alloc (.cells #[.slice none 0 0] 41)) (.cells #[.slice none 0 0] 41)
        have hq1 : (wr.alloc (.cells #[.slice none 0 0] 41)).heap.size = wr.heap.size + 1 := by simp
        have hn1 := (hb'.block _ (lt_at (heap_alloc_new wr (.cells #[.slice none 0 0] 41)))).trans (heap_alloc_new wr (.cells #[.slice none 0 0] 41))
        have hn2 := heap_alloc_new (wr.alloc (.cells #[.slice none 0 0] 41)) (.cells #[.slice none 0 0] 41)
        rw [hq1] at hn2
        have hT3 := (hT.below ha).below hb'
        have hB3 := (hB0.trans (ha.mono hB0.size)).trans (hb'.mono (Nat.le_trans hB0.size ha.size))
        have hsz3 : ((wr.alloc (.cells #[.slice none 0 0] 41)).alloc (.cells #[.slice none 0 0] 41)).heap.size = wr.heap.size + 2 := by simp
        obtain ⟨w3, hw3⟩ : ∃ w3, (wr.alloc (.cells #[.slice none 0 0] 41)).alloc (.cells #[.slice none 0 0] 41) = w3 := ⟨_, rfl⟩
        obtain ⟨q, hq⟩ : ∃ q, wr.heap.size = q := ⟨_, rfl⟩
        rw [hw3] at hn1 hn2 hT3 hB3 hsz3
        rw [hq] at hn1 hn2 hsz3
        have hw1' : WV w3 q (.slice none 0 0) [] := ⟨hn1, World.ownsRow_nil _ _ _ _⟩
        have hw2' : WV w3 (q + 1) (.slice none 0 0) [] := ⟨hn2, World.ownsRow_nil _ _ _ _⟩
        have hmine : ∀ g, Mine p v g → g < q := fun g hg => by have := (hT.t.mine_lt hg).2; omega
        have hBq : w.heap.size ≤ q := by rw [← hq]; exact hB0.size
        have hnil : ∀ g, (Value.slice none 0 0).ownBlock ≠ some g := fun g => by simp [Value.ownBlock]
        obtain ⟨TB, hTB⟩ : ∃ TB, tbB m = TB := ⟨_, rfl⟩
        have hTBl : TB.length ≤ 1000 := by rw [← hTB]; exact tbB_le hT.s
        obtain ⟨SB, hSB⟩ : ∃ SB, str TB = SB := ⟨_, rfl⟩
        have hbk := tb_go hT.s hT.e []
        rw [List.append_nil, hTB, hSB] at hbk
        obtain ⟨rE, hrE⟩ : ∃ rE, rEnd (q0 SB) = rE := ⟨_, rfl⟩
        have hbk1 : rTb (q0 SB) = m := hbk.1
        have hbk2 : rOk (q0 SB) = true := by
          unfold rOk
          rw [hbk1, sane_snd hT.s]
          have : rEnd (q0 SB) = ⟨str [], false⟩ := hbk.2
          rw [this]
          rfl
        have HWR := Lib.hid (WalkH.write_any hT3.t hw1' (fun g hg => ⟨by have := hmine g hg; omega, hnil g⟩) ⟨hT.s.now, hT.s.next⟩ (sane_fine hT.s) hT.s.few (by simp) (Lib.hid (show [] ++ tbB m = TB from hTB)))
        have HW3 := Lib.hid hw3
        have HT3 := Lib.hid hT3
        have HB3 := Lib.hid hB3
        have HW2 := Lib.hid hw2'
        have HMI := Lib.hid hmine
        have HSS := Lib.hid hT.s
        have HTBH := Lib.hid hTB
        have HSBH := Lib.hid hSB
        have HK1 := Lib.hid hbk1
        have HK2 := Lib.hid hbk2
        have HRE := Lib.hid hrE
        have hSBs : SB.size ≤ 281474976710656 := by rw [← hSB, PckWalkH.str_size]; omega
        clear hT hB0 ha hb' hq1 hn1 hn2 hT3 hB3 hw3 hw1' hw2' hmine hTB hSB hbk hbk1 hbk2 hrE hfin hfin0
        go_wp2_with fail
        rw [HW3.out]
        with_reducible refine HWR.out.mono ?_
        rintro e w4 ⟨rfl, hQ⟩
        have hT4 := HT3.out.t.keep (only_b hQ.only) (fun g hg e => by
          have := HMI.out g hg
          rcases e with e | e
          · omega
          · exact hnil g e)
        have hW24 := HW2.out.keep hQ.only (fun e => e.elim (by omega) (fun e => hnil _ e)) (fun g hg => absurd hg (hnil g))
        have hq4 : w3.heap.size ≤ w4.heap.size := hQ.only.size
        have hB4 := HB3.out.trans ((only_b hQ.only).below HB3.out.size (fun g hg => by
          rcases hg with rfl | e
          · exact hBq
          · exact absurd e (hnil g)))
        obtain ⟨u4, hu4, hst4⟩ := hQ.ex
        have hu4b : ∀ g, u4.ownBlock = some g → q + 2 ≤ g := fun g hg => by
          rcases hst4.next with e | ⟨g', e, hge⟩
          · rw [hg] at e; exact absurd e.symm (hnil g)
          · rw [hg] at e; cases e; omega
        have HT4 := Lib.hid hT4
        have HW24 := Lib.hid hW24
        have HU4 := Lib.hid hu4
        have HB4 := Lib.hid hB4
        clear hT4 hW24 hu4 hst4 hQ hB4 HWR HB3 HW2
        go_wp2_with fail
        with_reducible refine (PckWalkB.bytes_any q u4 TB w4 HU4.out).mono ?_
        rintro e w5 ⟨rfl, rfl⟩
        rw [show (⟨TB.toArray⟩ : ByteArray) = SB from HSBH.out]
        go_wp2_with fail
        with_reducible refine (from_rp SB w4).mono ?_
        rintro e w5 ⟨q2, rfl, hR5⟩
        have hlow := hR5.low
        have hT5 := HT4.out.below hR5.bel
        have hW25 := HW24.out.below hR5.bel
        have hU5 := HU4.out.below hR5.bel
        have hs5 := hR5.bel.size
        have HB5 := Lib.hid (HB4.out.trans (hR5.bel.mono HB4.out.size))
        have HT5 := Lib.hid hT5
        have HW25 := Lib.hid hW25
        have HU5 := Lib.hid hU5
        have HRD := Lib.hid (read_any hR5 hSBs HK1 HK2 HRE)
        have HU4L : Hid (∀ g, u4.ownBlock = some g → g < w4.heap.size) := fun g hg => (HU4.out.row g hg).2
        clear hR5 hT5 hW25 hU5 HT4 HW24 HB4
        go_wp2_with fail
        with_reducible refine HRD.out.mono ?_
        rintro e w6 ⟨hR6, hO6, hcase⟩
        obtain ⟨p2, v2, rfl, hP2⟩ : ∃ p2 v2, e = .returned (.pointer (some ⟨p2, 0, none⟩)) ∧ PT w5.heap.size w6 p2 v2 m := by
          rcases hcase with ⟨_, p2, v2, h1, h2⟩ | ⟨hx, _⟩
          · exact ⟨p2, v2, h1, h2⟩
          · cases hx
        have hT6 := HT5.out.keep (only_b hO6) (fun g hg e => by have := HMI.out g hg; omega)
        have hW26 := HW25.out.keep hO6 (fun e => by omega) (fun g hg => absurd hg (hnil g))
        have hU6 := HU5.out.keep hO6 (fun e => by have := HU4.out.lt; omega) (fun g hg e => by have := HU4L.out g hg; omega)
        have hp2 : ∀ g, Mine p2 v2 g → q + 2 ≤ g := fun g hg => by have := (hP2.mine_lt hg).1; omega
        have hq26 : w.heap.size ≤ q2 := by omega
        have HB6 := Lib.hid (HB5.out.trans ((only_b hO6).below HB5.out.size (fun g hg => by rw [hg]; exact hq26)))
        have HT6 := Lib.hid hT6
        have HU6 := Lib.hid hU6
        have HP2 := Lib.hid hP2
        have HP2M := Lib.hid hp2
        have HWR2 := Lib.hid (WalkH.write_any hP2 hW26 (fun g hg => ⟨by have := hp2 g hg; omega, hnil g⟩) ⟨HSS.out.now, HSS.out.next⟩ (sane_fine HSS.out) HSS.out.few (by simp) (Lib.hid (show [] ++ tbB m = TB from HTBH.out)))
        clear hR6 hO6 hcase hT6 hW26 hU6 hP2 hp2 HT5 HW25 HU5 HB5 HRD
        go_wp2_with fail
        with_reducible refine HWR2.out.mono ?_
        rintro e w7 ⟨rfl, hQ⟩
        have hT7 := HT6.out.keep (only_b hQ.only) (fun g hg e => by
          have := HMI.out g hg
          rcases e with e | e
          · omega
          · exact hnil g e)
        have hP7 := HP2.out.keep (only_b hQ.only) (fun g hg e => by
          have := HP2M.out g hg
          rcases e with e | e
          · omega
          · exact hnil g e)
        have hU7 := HU6.out.keep hQ.only (fun e => e.elim (by omega) (fun e => hnil _ e)) (fun g hg e => by
          have := hu4b g hg
          rcases e with e | e
          · omega
          · exact hnil g e)
        have HB7 := Lib.hid (HB6.out.trans ((only_b hQ.only).below HB6.out.size (fun g hg => by
          rcases hg with rfl | e
          · omega
          · exact absurd e (hnil g))))
        obtain ⟨u7, hu7, _⟩ := hQ.ex
        have HT7 := Lib.hid hT7
        have HP7 := Lib.hid hP7
        have HU7 := Lib.hid hU7
        have HV7 := Lib.hid hu7
        obtain ⟨NR, hNR⟩ : ∃ x, m.rows.length = x := ⟨_, rfl⟩
        obtain ⟨NW, hNW⟩ : ∃ x, m.now = x := ⟨_, rfl⟩
        have HR1 : Hid (Calls Try.prog 23 #[.pointer (some ⟨p2, 0, none⟩)] w7 fun e w' => ∃ A c, e = .returned (.slice A NR c) ∧ Below w7.heap.size w7 w') := (WalkD.rows_any hP7 HSS.out.few).mono fun e w' k => by
          obtain ⟨A, c, rfl, _, hb⟩ := k
          exact ⟨A, c, by rw [hNR], hb⟩
        have HN1 : Hid (Calls Try.prog 24 #[.pointer (some ⟨p2, 0, none⟩)] w7 fun e w' => e = .returned (.int .u64 (NW : Int)) ∧ w' = w7) := by rw [← hNW]; exact now_any hP7
        have HN2 : Hid (Calls Try.prog 24 #[.pointer (some ⟨p, 0, none⟩)] w7 fun e w' => e = .returned (.int .u64 (NW : Int)) ∧ w' = w7) := by rw [← hNW]; exact now_any hT7
        have HNRH := Lib.hid hNR
        clear hT7 hP7 hU7 hu7 hQ HT6 HP2 HU6 HB6 HWR2 hNW hNR
        go_wp2_with fail
        with_reducible refine (PckWalkB.bytes_any q u4 TB w7 HU7.out).mono ?_
        rintro e w8 ⟨rfl, rfl⟩
        rw [show (⟨TB.toArray⟩ : ByteArray) = SB from HSBH.out]
        go_wp2_with fail
        with_reducible refine (PckWalkB.bytes_any (q + 1) u7 TB w7 HV7.out).mono ?_
        rintro e w8 ⟨rfl, rfl⟩
        rw [show (⟨TB.toArray⟩ : ByteArray) = SB from HSBH.out]
        go_wp2_with fail
        with_reducible refine HN1.out.mono ?_
        rintro e w8 ⟨rfl, rfl⟩
        go_wp2_with fail
        with_reducible refine HN2.out.mono ?_
        rintro e w9 ⟨rfl, rfl⟩
        go_wp2_with fail
        with_reducible refine HR1.out.mono ?_
        rintro e w8 ⟨A8, c8, rfl, hb8⟩
        have HB8 := Lib.hid (HB7.out.trans (hb8.mono HB7.out.size))
        have HR2 : Hid (Calls Try.prog 23 #[.pointer (some ⟨p, 0, none⟩)] w8 fun e w' => ∃ A c, e = .returned (.slice A NR c) ∧ Below w8.heap.size w8 w') := (WalkD.rows_any (HT7.out.below hb8) HSS.out.few).mono fun e w' k => by
          obtain ⟨A, c, rfl, _, hb⟩ := k
          exact ⟨A, c, by rw [HNRH.out], hb⟩
        clear hb8
        go_wp2_with fail
        with_reducible refine HR2.out.mono ?_
        rintro e w9 ⟨A9, c9, rfl, hb9⟩
        have HB9 := Lib.hid (HB8.out.trans (hb9.mono HB8.out.size))
        clear hb9
        go_wp2
        go_ret
        exact ⟨rfl, HB9.out⟩
      · have hk400 : k = 400 := by omega
        have hk400I : (k : Int) = 400 := by omega
        have hkn2 : k < n := by omega
        have hkn3 : (400 : Int) < (n : Int) := by omega
        obtain ⟨b, o, x, rfl, hb, hx, hsix⟩ := RC.at_ HR.out hkn2
        obtain ⟨y0, y1, y2, y3, y4, y5⟩ := hsix.below hbel.out hb
        have hbw := Nat.lt_of_lt_of_le hb hbel.out.size
        rw [hk400] at y0 y1 y2 y3 y4 y5
        clear hsix hx hst hbel
        obtain ⟨kd, id, s, ⟨ye, yn, yx⟩⟩ := x
        simp only at y0 y1 y2 y3 y4 y5
        have hboC := hbo wr (.cells #[.int .i64 kd, .int .u64 (id : Int), .int .u64 (s : Int), .int .i64 ye, .int .u64 (yn : Int), .int .u64 (yx : Int)] 35)
        have hfin0 : Hid (Tl w1.heap.size p (wr.alloc (.cells #[.int .i64 kd, .int .u64 (id : Int), .int .u64 (s : Int), .int .i64 ye, .int .u64 (yn : Int), .int .u64 (yx : Int)] 35)) v m ∧ Below w.heap.size w (wr.alloc (.cells #[.int .i64 kd, .int .u64 (id : Int), .int .u64 (s : Int), .int .i64 ye, .int .u64 (yn : Int), .int .u64 (yx : Int)] 35))) := ⟨hfin.out.1.below hboC, hfin.out.2.trans (hboC.mono hfin.out.2.size)⟩
        clear hboC
        have hT := hfin0.out.1
        have hB0 := hfin0.out.2
        have ha := hbo (wr.alloc (.cells #[.int .i64 kd, .int .u64 (id : Int), .int .u64 (s : Int), .int .i64 ye, .int .u64 (yn : Int), .int .u64 (yx : Int)] 35)) (.cells #[.slice none 0 0] 41)
        have hb' := hbo ((wr.alloc (.cells #[.int .i64 kd, .int .u64 (id : Int), .int .u64 (s : Int), .int .i64 ye, .int .u64 (yn : Int), .int .u64 (yx : Int)] 35)).alloc (.cells #[.slice none 0 0] 41)) (.cells #[.slice none 0 0] 41)
        have hq1 : ((wr.alloc (.cells #[.int .i64 kd, .int .u64 (id : Int), .int .u64 (s : Int), .int .i64 ye, .int .u64 (yn : Int), .int .u64 (yx : Int)] 35)).alloc (.cells #[.slice none 0 0] 41)).heap.size = (wr.alloc (.cells #[.int .i64 kd, .int .u64 (id : Int), .int .u64 (s : Int), .int .i64 ye, .int .u64 (yn : Int), .int .u64 (yx : Int)] 35)).heap.size + 1 := by simp
        have hn1 := (hb'.block _ (lt_at (heap_alloc_new (wr.alloc (.cells #[.int .i64 kd, .int .u64 (id : Int), .int .u64 (s : Int), .int .i64 ye, .int .u64 (yn : Int), .int .u64 (yx : Int)] 35)) (.cells #[.slice none 0 0] 41)))).trans (heap_alloc_new (wr.alloc (.cells #[.int .i64 kd, .int .u64 (id : Int), .int .u64 (s : Int), .int .i64 ye, .int .u64 (yn : Int), .int .u64 (yx : Int)] 35)) (.cells #[.slice none 0 0] 41))
        have hn2 := heap_alloc_new ((wr.alloc (.cells #[.int .i64 kd, .int .u64 (id : Int), .int .u64 (s : Int), .int .i64 ye, .int .u64 (yn : Int), .int .u64 (yx : Int)] 35)).alloc (.cells #[.slice none 0 0] 41)) (.cells #[.slice none 0 0] 41)
        rw [hq1] at hn2
        have hT3 := (hT.below ha).below hb'
        have hB3 := (hB0.trans (ha.mono hB0.size)).trans (hb'.mono (Nat.le_trans hB0.size ha.size))
        have hsz3 : (((wr.alloc (.cells #[.int .i64 kd, .int .u64 (id : Int), .int .u64 (s : Int), .int .i64 ye, .int .u64 (yn : Int), .int .u64 (yx : Int)] 35)).alloc (.cells #[.slice none 0 0] 41)).alloc (.cells #[.slice none 0 0] 41)).heap.size = (wr.alloc (.cells #[.int .i64 kd, .int .u64 (id : Int), .int .u64 (s : Int), .int .i64 ye, .int .u64 (yn : Int), .int .u64 (yx : Int)] 35)).heap.size + 2 := by simp
        obtain ⟨w3, hw3⟩ : ∃ w3, ((wr.alloc (.cells #[.int .i64 kd, .int .u64 (id : Int), .int .u64 (s : Int), .int .i64 ye, .int .u64 (yn : Int), .int .u64 (yx : Int)] 35)).alloc (.cells #[.slice none 0 0] 41)).alloc (.cells #[.slice none 0 0] 41) = w3 := ⟨_, rfl⟩
        obtain ⟨q, hq⟩ : ∃ q, (wr.alloc (.cells #[.int .i64 kd, .int .u64 (id : Int), .int .u64 (s : Int), .int .i64 ye, .int .u64 (yn : Int), .int .u64 (yx : Int)] 35)).heap.size = q := ⟨_, rfl⟩
        rw [hw3] at hn1 hn2 hT3 hB3 hsz3
        rw [hq] at hn1 hn2 hsz3
        have hw1' : WV w3 q (.slice none 0 0) [] := ⟨hn1, World.ownsRow_nil _ _ _ _⟩
        have hw2' : WV w3 (q + 1) (.slice none 0 0) [] := ⟨hn2, World.ownsRow_nil _ _ _ _⟩
        have hmine : ∀ g, Mine p v g → g < q := fun g hg => by have := (hT.t.mine_lt hg).2; omega
        have hBq : w.heap.size ≤ q := by rw [← hq]; exact hB0.size
        have hnil : ∀ g, (Value.slice none 0 0).ownBlock ≠ some g := fun g => by simp [Value.ownBlock]
        obtain ⟨TB, hTB⟩ : ∃ TB, tbB m = TB := ⟨_, rfl⟩
        have hTBl : TB.length ≤ 1000 := by rw [← hTB]; exact tbB_le hT.s
        obtain ⟨SB, hSB⟩ : ∃ SB, str TB = SB := ⟨_, rfl⟩
        have hbk := tb_go hT.s hT.e []
        rw [List.append_nil, hTB, hSB] at hbk
        obtain ⟨rE, hrE⟩ : ∃ rE, rEnd (q0 SB) = rE := ⟨_, rfl⟩
        have hbk1 : rTb (q0 SB) = m := hbk.1
        have hbk2 : rOk (q0 SB) = true := by
          unfold rOk
          rw [hbk1, sane_snd hT.s]
          have : rEnd (q0 SB) = ⟨str [], false⟩ := hbk.2
          rw [this]
          rfl
        have HWR := Lib.hid (WalkH.write_any hT3.t hw1' (fun g hg => ⟨by have := hmine g hg; omega, hnil g⟩) ⟨hT.s.now, hT.s.next⟩ (sane_fine hT.s) hT.s.few (by simp) (Lib.hid (show [] ++ tbB m = TB from hTB)))
        have HW3 := Lib.hid hw3
        have HT3 := Lib.hid hT3
        have HB3 := Lib.hid hB3
        have HW2 := Lib.hid hw2'
        have HMI := Lib.hid hmine
        have HSS := Lib.hid hT.s
        have HTBH := Lib.hid hTB
        have HSBH := Lib.hid hSB
        have HK1 := Lib.hid hbk1
        have HK2 := Lib.hid hbk2
        have HRE := Lib.hid hrE
        have hSBs : SB.size ≤ 281474976710656 := by rw [← hSB, PckWalkH.str_size]; omega
        clear hT hB0 ha hb' hq1 hn1 hn2 hT3 hB3 hw3 hw1' hw2' hmine hTB hSB hbk hbk1 hbk2 hrE hfin hfin0
        go_wp2_with fail
        rw [HW3.out]
        with_reducible refine HWR.out.mono ?_
        rintro e w4 ⟨rfl, hQ⟩
        have hT4 := HT3.out.t.keep (only_b hQ.only) (fun g hg e => by
          have := HMI.out g hg
          rcases e with e | e
          · omega
          · exact hnil g e)
        have hW24 := HW2.out.keep hQ.only (fun e => e.elim (by omega) (fun e => hnil _ e)) (fun g hg => absurd hg (hnil g))
        have hq4 : w3.heap.size ≤ w4.heap.size := hQ.only.size
        have hB4 := HB3.out.trans ((only_b hQ.only).below HB3.out.size (fun g hg => by
          rcases hg with rfl | e
          · exact hBq
          · exact absurd e (hnil g)))
        obtain ⟨u4, hu4, hst4⟩ := hQ.ex
        have hu4b : ∀ g, u4.ownBlock = some g → q + 2 ≤ g := fun g hg => by
          rcases hst4.next with e | ⟨g', e, hge⟩
          · rw [hg] at e; exact absurd e.symm (hnil g)
          · rw [hg] at e; cases e; omega
        have HT4 := Lib.hid hT4
        have HW24 := Lib.hid hW24
        have HU4 := Lib.hid hu4
        have HB4 := Lib.hid hB4
        clear hT4 hW24 hu4 hst4 hQ hB4 HWR HB3 HW2
        go_wp2_with fail
        with_reducible refine (PckWalkB.bytes_any q u4 TB w4 HU4.out).mono ?_
        rintro e w5 ⟨rfl, rfl⟩
        rw [show (⟨TB.toArray⟩ : ByteArray) = SB from HSBH.out]
        go_wp2_with fail
        with_reducible refine (from_rp SB w4).mono ?_
        rintro e w5 ⟨q2, rfl, hR5⟩
        have hlow := hR5.low
        have hT5 := HT4.out.below hR5.bel
        have hW25 := HW24.out.below hR5.bel
        have hU5 := HU4.out.below hR5.bel
        have hs5 := hR5.bel.size
        have HB5 := Lib.hid (HB4.out.trans (hR5.bel.mono HB4.out.size))
        have HT5 := Lib.hid hT5
        have HW25 := Lib.hid hW25
        have HU5 := Lib.hid hU5
        have HRD := Lib.hid (read_any hR5 hSBs HK1 HK2 HRE)
        have HU4L : Hid (∀ g, u4.ownBlock = some g → g < w4.heap.size) := fun g hg => (HU4.out.row g hg).2
        clear hR5 hT5 hW25 hU5 HT4 HW24 HB4
        go_wp2_with fail
        with_reducible refine HRD.out.mono ?_
        rintro e w6 ⟨hR6, hO6, hcase⟩
        obtain ⟨p2, v2, rfl, hP2⟩ : ∃ p2 v2, e = .returned (.pointer (some ⟨p2, 0, none⟩)) ∧ PT w5.heap.size w6 p2 v2 m := by
          rcases hcase with ⟨_, p2, v2, h1, h2⟩ | ⟨hx, _⟩
          · exact ⟨p2, v2, h1, h2⟩
          · cases hx
        have hT6 := HT5.out.keep (only_b hO6) (fun g hg e => by have := HMI.out g hg; omega)
        have hW26 := HW25.out.keep hO6 (fun e => by omega) (fun g hg => absurd hg (hnil g))
        have hU6 := HU5.out.keep hO6 (fun e => by have := HU4.out.lt; omega) (fun g hg e => by have := HU4L.out g hg; omega)
        have hp2 : ∀ g, Mine p2 v2 g → q + 2 ≤ g := fun g hg => by have := (hP2.mine_lt hg).1; omega
        have hq26 : w.heap.size ≤ q2 := by omega
        have HB6 := Lib.hid (HB5.out.trans ((only_b hO6).below HB5.out.size (fun g hg => by rw [hg]; exact hq26)))
        have HT6 := Lib.hid hT6
        have HU6 := Lib.hid hU6
        have HP2 := Lib.hid hP2
        have HP2M := Lib.hid hp2
        have HWR2 := Lib.hid (WalkH.write_any hP2 hW26 (fun g hg => ⟨by have := hp2 g hg; omega, hnil g⟩) ⟨HSS.out.now, HSS.out.next⟩ (sane_fine HSS.out) HSS.out.few (by simp) (Lib.hid (show [] ++ tbB m = TB from HTBH.out)))
        clear hR6 hO6 hcase hT6 hW26 hU6 hP2 hp2 HT5 HW25 HU5 HB5 HRD
        go_wp2_with fail
        with_reducible refine HWR2.out.mono ?_
        rintro e w7 ⟨rfl, hQ⟩
        have hT7 := HT6.out.keep (only_b hQ.only) (fun g hg e => by
          have := HMI.out g hg
          rcases e with e | e
          · omega
          · exact hnil g e)
        have hP7 := HP2.out.keep (only_b hQ.only) (fun g hg e => by
          have := HP2M.out g hg
          rcases e with e | e
          · omega
          · exact hnil g e)
        have hU7 := HU6.out.keep hQ.only (fun e => e.elim (by omega) (fun e => hnil _ e)) (fun g hg e => by
          have := hu4b g hg
          rcases e with e | e
          · omega
          · exact hnil g e)
        have HB7 := Lib.hid (HB6.out.trans ((only_b hQ.only).below HB6.out.size (fun g hg => by
          rcases hg with rfl | e
          · omega
          · exact absurd e (hnil g))))
        obtain ⟨u7, hu7, _⟩ := hQ.ex
        have HT7 := Lib.hid hT7
        have HP7 := Lib.hid hP7
        have HU7 := Lib.hid hU7
        have HV7 := Lib.hid hu7
        obtain ⟨NR, hNR⟩ : ∃ x, m.rows.length = x := ⟨_, rfl⟩
        obtain ⟨NW, hNW⟩ : ∃ x, m.now = x := ⟨_, rfl⟩
        have HR1 : Hid (Calls Try.prog 23 #[.pointer (some ⟨p2, 0, none⟩)] w7 fun e w' => ∃ A c, e = .returned (.slice A NR c) ∧ Below w7.heap.size w7 w') := (WalkD.rows_any hP7 HSS.out.few).mono fun e w' k => by
          obtain ⟨A, c, rfl, _, hb⟩ := k
          exact ⟨A, c, by rw [hNR], hb⟩
        have HN1 : Hid (Calls Try.prog 24 #[.pointer (some ⟨p2, 0, none⟩)] w7 fun e w' => e = .returned (.int .u64 (NW : Int)) ∧ w' = w7) := by rw [← hNW]; exact now_any hP7
        have HN2 : Hid (Calls Try.prog 24 #[.pointer (some ⟨p, 0, none⟩)] w7 fun e w' => e = .returned (.int .u64 (NW : Int)) ∧ w' = w7) := by rw [← hNW]; exact now_any hT7
        have HNRH := Lib.hid hNR
        clear hT7 hP7 hU7 hu7 hQ HT6 HP2 HU6 HB6 HWR2 hNW hNR
        go_wp2_with fail
        with_reducible refine (PckWalkB.bytes_any q u4 TB w7 HU7.out).mono ?_
        rintro e w8 ⟨rfl, rfl⟩
        rw [show (⟨TB.toArray⟩ : ByteArray) = SB from HSBH.out]
        go_wp2_with fail
        with_reducible refine (PckWalkB.bytes_any (q + 1) u7 TB w7 HV7.out).mono ?_
        rintro e w8 ⟨rfl, rfl⟩
        rw [show (⟨TB.toArray⟩ : ByteArray) = SB from HSBH.out]
        go_wp2_with fail
        with_reducible refine HN1.out.mono ?_
        rintro e w8 ⟨rfl, rfl⟩
        go_wp2_with fail
        with_reducible refine HN2.out.mono ?_
        rintro e w9 ⟨rfl, rfl⟩
        go_wp2_with fail
        with_reducible refine HR1.out.mono ?_
        rintro e w8 ⟨A8, c8, rfl, hb8⟩
        have HB8 := Lib.hid (HB7.out.trans (hb8.mono HB7.out.size))
        have HR2 : Hid (Calls Try.prog 23 #[.pointer (some ⟨p, 0, none⟩)] w8 fun e w' => ∃ A c, e = .returned (.slice A NR c) ∧ Below w8.heap.size w8 w') := (WalkD.rows_any (HT7.out.below hb8) HSS.out.few).mono fun e w' k => by
          obtain ⟨A, c, rfl, _, hb⟩ := k
          exact ⟨A, c, by rw [HNRH.out], hb⟩
        clear hb8
        go_wp2_with fail
        with_reducible refine HR2.out.mono ?_
        rintro e w9 ⟨A9, c9, rfl, hb9⟩
        have HB9 := Lib.hid (HB8.out.trans (hb9.mono HB8.out.size))
        clear hb9
        go_wp2
        go_ret
        exact ⟨rfl, HB9.out⟩
end Go.Proofs.Ytdmlfnknmilhcaa.LawD
