/- SessionRuns, walked: call by call a table answers what the document says. No statement is proved here. -/
import Derived.Test.YtdmlfnknmilhcaaLike
import Derived.Test.YtdmlfnknmilhcaaRefE
import Derived.Test.YtdmlfnknmilhcaaWalkH
import Derived.Test.YtdmlfnknmilhcaaBegn
set_option linter.unusedVariables false
set_option linter.unusedSimpArgs false
namespace Go.Proofs.Ytdmlfnknmilhcaa.LawE
open Go.RowKit Go.Proofs.Ytdmlfnknmilhcaa.Kit Go.Proofs.Ytdmlfnknmilhcaa.Blocks Go.Proofs.Ytdmlfnknmilhcaa.Rdr Go.Proofs.Ytdmlfnknmilhcaa.Ses Go.Proofs.Ytdmlfnknmilhcaa.Rws Go.Proofs.Ytdmlfnknmilhcaa.SesB Go.Proofs.Ytdmlfnknmilhcaa.WalkA Go.Proofs.Ytdmlfnknmilhcaa.Boxs Go.Proofs.Ytdmlfnknmilhcaa.Cal Go.Proofs.Ytdmlfnknmilhcaa.Begn Go.Proofs.Ytdmlfnknmilhcaa.Opn Go.Proofs.Ytdmlfnknmilhcaa.Two Go.Proofs.Ytdmlfnknmilhcaa.Like
open Go.Proofs.Ytdmlfnknmilhcaa.State (WV)
open Go.Proofs.Ytdmlfnknmilhcaa.PckWalkH (str)

theorem only_b {S : Nat → Prop} {W W' : World} (h : State.Only S W W') : Blocks.Only S W W' := ⟨h.os, h.tape, h.output, h.size, h.block⟩
/-- One call of both, its parts laid open. -/
theorem both_lit {B p q : Nat} {w : World} {v u : Value} {m : Tb} (h : Pr B w p v q u m m) (hS : Sane m) {kd : Int} {id s : Nat} {ye : Int} {yn yx : Nat} (hc : InC ⟨kd, id, s, ⟨ye, yn, yx⟩⟩) {m' : Tb} (hm : Hid (Two.stepT m ⟨kd, id, s, ⟨ye, yn, yx⟩⟩ = m')) :
    Calls Try.prog 11 #[.pointer (some ⟨p, 0, none⟩), .pointer (some ⟨q, 0, none⟩), .agg #[.int .i64 kd, .int .u64 (id : Int), .int .u64 (s : Int), .int .i64 ye, .int .u64 (yn : Int), .int .u64 (yx : Int)]] w fun e w' => e = .returned (.bool true) ∧ (∃ v' u', Pr B w' p v' q u' m' m') ∧ Below B w w' := both_any h hS hc hm
set_option maxRecDepth 100000 in
set_option maxHeartbeats 8000000 in
theorem runs_walk (A : Option Addr) (n c : Nat) (l : List Cl) (w : World) (hc : RC w w.heap.size A n l) (hm : n ≤ 9223372036854775807) (hi : ∀ e ∈ l, InC e) :
    Calls Try.prog 3 #[.slice A n c] w fun e w' => e = .returned (.bool true) ∧ Below w.heap.size w w' := by
  have hbo : ∀ (W : World) o, Below W.heap.size W (W.alloc o) := fun W o => (Below.refl _ _).alloc (Nat.le_refl _) o
  have HR := Lib.hid hc
  have HI := Lib.hid hi
  clear hc hi
  go_enter Try.func3, Try.ntmps3
  go_wp2_with fail
  with_reducible refine (begun_true _).mono ?_
  rintro e w1 ⟨rfl, hb1⟩
  go_wp2_with fail
  with_reducible refine (new_any _).mono ?_
  rintro e w2 ⟨p, v2, rfl, h2, hb2⟩
  have HSZ := Lib.hid hb1.size
  have ha := hbo w2 (.cells #[.int .u64 0, .int .u64 1, .slice none 0 0] 30)
  have hnew := heap_alloc_new w2 (.cells #[.int .u64 0, .int .u64 1, .slice none 0 0] 30)
  have hB2 := hb1.trans (hb2.mono hb1.size)
  have hP2 : Pr w1.heap.size (w2.alloc (.cells #[.int .u64 0, .int .u64 1, .slice none 0 0] 30)) p v2 w2.heap.size (.slice none 0 0) tb0 tb0 :=
    ⟨h2.below ha, ⟨hb2.size, hnew, World.ownsRow_nil _ _ _ _, by simp [Value.ownBlock]⟩, fun g hg e => by
      have h1 := (h2.mine_lt hg).2
      rcases e with e | e
      · omega
      · simp [Value.ownBlock] at e⟩
  have hB3 := hB2.trans (ha.mono hB2.size)
  obtain ⟨w3, hw3⟩ : ∃ w3, w2.alloc (.cells #[.int .u64 0, .int .u64 1, .slice none 0 0] 30) = w3 := ⟨_, rfl⟩
  obtain ⟨q, hq⟩ : ∃ q, w2.heap.size = q := ⟨_, rfl⟩
  rw [hw3] at hP2 hB3
  rw [hq] at hP2
  have HP2 := Lib.hid hP2
  have HB3 := Lib.hid hB3
  have HW3 := Lib.hid hw3
  clear hb1 hb2 h2 ha hnew hB2 hP2 hB3 hw3
  go_wp2_with fail
  rw [HW3.out]
  go_loopw [15] (fun i wr => ∃ (k : Nat) (v u : Value) (m : Tb), k ≤ n ∧ k ≤ 500 ∧ i = .int .i64 (k : Int) ∧ Hid (Pr w1.heap.size wr p v q u m m) ∧ Hid (Sane m) ∧ Hid (Below w.heap.size w wr)) (fun i _ => n - (intOf i).toNat)
  case atStart => exact ⟨0, v2, _, tb0, by omega, by omega, rfl, HP2.out, good0, HB3.out⟩
  case round =>
    obtain ⟨k, v, u, m, hkn, hk5, rfl, hst, hsn, hbel⟩ := hrel
    clear HP2 HB3 HW3
    by_cases hlast : k < n ∧ k ≠ 500
    · obtain ⟨hkn', hk500⟩ := hlast
      have HJ := Lib.hid hkn'
      obtain ⟨b, o, x, rfl, hb, hx, hsix⟩ := RC.at_ HR.out hkn'
      have hin := HI.out x (List.mem_of_getElem? hx)
      obtain ⟨y0, y1, y2, y3, y4, y5⟩ := hsix.below hbel.out hb
      have hbw := Nat.lt_of_lt_of_le hb hbel.out.size
      have h500I : ¬ (k : Int) = 500 := by omega
      obtain ⟨kd, id, s, ⟨ye, yn, yx⟩⟩ := x
      simp only at y0 y1 y2 y3 y4 y5
      have hboC := hbo wr (.cells #[.int .i64 kd, .int .u64 (id : Int), .int .u64 (s : Int), .int .i64 ye, .int .u64 (yn : Int), .int .u64 (yx : Int)] 35)
      have hP := hst.out.below hboC
      have hBC := hbel.out.trans (hboC.mono hbel.out.size)
      obtain ⟨m', hm'⟩ : ∃ m', Two.stepT m ⟨kd, id, s, ⟨ye, yn, yx⟩⟩ = m' := ⟨_, rfl⟩
      have HC := Lib.hid (both_lit hP hsn.out hin (Lib.hid hm'))
      have HS' : Hid (Sane m') := by rw [← hm']; exact step_sane hsn.out hin
      have HBC := Lib.hid hBC
      clear hsix hx hin hboC hP hBC hm'
      go_wp2_with fail
      with_reducible refine HC.out.mono ?_
      rintro e w4 ⟨rfl, ⟨v', u', hP4⟩, hb4⟩
      have HP4 := Lib.hid hP4
      have HB4 := Lib.hid (HBC.out.trans (hb4.mono HSZ.out))
      have HA := Lib.hid (alike_any hP4 HS'.out.few)
      clear hP4 hb4 HC
      go_wp2_with fail
      with_reducible refine HA.out.mono ?_
      rintro e w5 ⟨rfl, hb5⟩
      have HP5 := Lib.hid (HP4.out.below hb5)
      have HB5 := Lib.hid (HB4.out.trans (hb5.mono HB4.out.size))
      clear hb5 HA HP4 HB4
      go_wp2
      go_roundw
      case rel => exact ⟨k + 1, v', u', m', HJ.out, by omega, by go_num, HP5.out, HS'.out, HB5.out⟩
      case measure => have := HJ.out; simp [intOf]; omega
    · by_cases hkn' : k = n
      · subst hkn'
        have hfin0 : Hid (Pr w1.heap.size wr p v q u m m ∧ Below w.heap.size w wr) := ⟨hst.out, hbel.out⟩
        clear hst hbel
        have hT := hfin0.out.1
        have hB0 := hfin0.out.2
        have ha := hbo wr (.cells #[.slice none 0 0] 41)
        have hn1 := heap_alloc_new wr (.cells #[.slice none 0 0] 41)
        have hT3 := hT.below ha
        have hB3 := hB0.trans (ha.mono hB0.size)
        have hmp : ∀ g, Mine p v g → g < wr.heap.size := fun g hg => (hT.pt.mine_lt hg).2
        have hmq : ∀ g, Mine q u g → g < wr.heap.size := fun g hg => (hT.dt.mine_lt hg).2
        have hsz3 : (wr.alloc (.cells #[.slice none 0 0] 41)).heap.size = wr.heap.size + 1 := by simp
        obtain ⟨w3, hw3⟩ : ∃ w3, wr.alloc (.cells #[.slice none 0 0] 41) = w3 := ⟨_, rfl⟩
        obtain ⟨z, hz⟩ : ∃ z, wr.heap.size = z := ⟨_, rfl⟩
        have hBz : w.heap.size ≤ z := by rw [← hz]; exact hB0.size
        rw [hw3] at hn1 hT3 hB3 hsz3
        rw [hz] at hn1 hmp hmq hsz3
        have hw1' : WV w3 z (.slice none 0 0) [] := ⟨hn1, World.ownsRow_nil _ _ _ _⟩
        have hnil : ∀ g, (Value.slice none 0 0).ownBlock ≠ some g := fun g => by simp [Value.ownBlock]
        obtain ⟨TB, hTB⟩ : ∃ TB, tbB m = TB := ⟨_, rfl⟩
        obtain ⟨SB, hSB⟩ : ∃ SB, str TB = SB := ⟨_, rfl⟩
        have HWR := Lib.hid (WalkH.write_any hT3.pt hw1' (fun g hg => ⟨by have := hmp g hg; omega, hnil g⟩) ⟨hsn.out.now, hsn.out.next⟩ (sane_fine hsn.out) hsn.out.few (by simp) (Lib.hid (show [] ++ tbB m = TB from hTB)))
        have HW3 := Lib.hid hw3
        have HT3 := Lib.hid hT3
        have HB3 := Lib.hid hB3
        have HMQ := Lib.hid hmq
        have HSBH := Lib.hid hSB
        have HSD := Lib.hid (show str (tbB m) = SB by rw [hTB, hSB])
        clear hT hB0 ha hn1 hT3 hB3 hmp hmq hw3 hw1' hTB hSB hfin0
        go_wp2_with fail
        rw [HW3.out]
        with_reducible refine HWR.out.mono ?_
        rintro e w4 ⟨rfl, hQ⟩
        have hT4 := HT3.out.dt.keep (only_b hQ.only) (fun g hg e => by
          have := HMQ.out g hg
          rcases e with e | e
          · omega
          · exact hnil g e)
        have HB4 := Lib.hid (HB3.out.trans ((only_b hQ.only).below HB3.out.size (fun g hg => by
          rcases hg with rfl | e
          · exact hBz
          · exact absurd e (hnil g))))
        obtain ⟨u4, hu4, _⟩ := hQ.ex
        have HU4 := Lib.hid hu4
        have HBY := Lib.hid (RefE.bytes_any hT4 ⟨hsn.out.now, hsn.out.next⟩ (sane_fine hsn.out) hsn.out.few HSD)
        clear hT4 hu4 hQ HWR HB3
        go_wp2_with fail
        with_reducible refine (PckWalkB.bytes_any z u4 TB w4 HU4.out).mono ?_
        rintro e w5 ⟨rfl, rfl⟩
        rw [show (⟨TB.toArray⟩ : ByteArray) = SB from HSBH.out]
        go_wp2_with fail
        with_reducible refine HBY.out.mono ?_
        rintro e w5 ⟨rfl, hb5⟩
        have HB5 := Lib.hid (HB4.out.trans (hb5.mono HB4.out.size))
        clear hb5 HBY
        go_wp2
        go_ret
        exact ⟨by simp, HB5.out⟩
      · have hk500 : k = 500 := by omega
        have hk500I : (k : Int) = 500 := by omega
        have hkn2 : k < n := by omega
        have hkn3 : (500 : Int) < (n : Int) := by omega
        obtain ⟨b, o, x, rfl, hb, hx, hsix⟩ := RC.at_ HR.out hkn2
        obtain ⟨y0, y1, y2, y3, y4, y5⟩ := hsix.below hbel.out hb
        have hbw := Nat.lt_of_lt_of_le hb hbel.out.size
        rw [hk500] at y0 y1 y2 y3 y4 y5
        obtain ⟨kd, id, s, ⟨ye, yn, yx⟩⟩ := x
        simp only at y0 y1 y2 y3 y4 y5
        have hboC := hbo wr (.cells #[.int .i64 kd, .int .u64 (id : Int), .int .u64 (s : Int), .int .i64 ye, .int .u64 (yn : Int), .int .u64 (yx : Int)] 35)
        have hfin0 : Hid (Pr w1.heap.size (wr.alloc (.cells #[.int .i64 kd, .int .u64 (id : Int), .int .u64 (s : Int), .int .i64 ye, .int .u64 (yn : Int), .int .u64 (yx : Int)] 35)) p v q u m m ∧ Below w.heap.size w (wr.alloc (.cells #[.int .i64 kd, .int .u64 (id : Int), .int .u64 (s : Int), .int .i64 ye, .int .u64 (yn : Int), .int .u64 (yx : Int)] 35))) := ⟨hst.out.below hboC, hbel.out.trans (hboC.mono hbel.out.size)⟩
        clear hsix hx hst hbel hboC
        have hT := hfin0.out.1
        have hB0 := hfin0.out.2
        have ha := hbo (wr.alloc (.cells #[.int .i64 kd, .int .u64 (id : Int), .int .u64 (s : Int), .int .i64 ye, .int .u64 (yn : Int), .int .u64 (yx : Int)] 35)) (.cells #[.slice none 0 0] 41)
        have hn1 := heap_alloc_new (wr.alloc (.cells #[.int .i64 kd, .int .u64 (id : Int), .int .u64 (s : Int), .int .i64 ye, .int .u64 (yn : Int), .int .u64 (yx : Int)] 35)) (.cells #[.slice none 0 0] 41)
        have hT3 := hT.below ha
        have hB3 := hB0.trans (ha.mono hB0.size)
        have hmp : ∀ g, Mine p v g → g < (wr.alloc (.cells #[.int .i64 kd, .int .u64 (id : Int), .int .u64 (s : Int), .int .i64 ye, .int .u64 (yn : Int), .int .u64 (yx : Int)] 35)).heap.size := fun g hg => (hT.pt.mine_lt hg).2
        have hmq : ∀ g, Mine q u g → g < (wr.alloc (.cells #[.int .i64 kd, .int .u64 (id : Int), .int .u64 (s : Int), .int .i64 ye, .int .u64 (yn : Int), .int .u64 (yx : Int)] 35)).heap.size := fun g hg => (hT.dt.mine_lt hg).2
        have hsz3 : ((wr.alloc (.cells #[.int .i64 kd, .int .u64 (id : Int), .int .u64 (s : Int), .int .i64 ye, .int .u64 (yn : Int), .int .u64 (yx : Int)] 35)).alloc (.cells #[.slice none 0 0] 41)).heap.size = (wr.alloc (.cells #[.int .i64 kd, .int .u64 (id : Int), .int .u64 (s : Int), .int .i64 ye, .int .u64 (yn : Int), .int .u64 (yx : Int)] 35)).heap.size + 1 := by simp
        obtain ⟨w3, hw3⟩ : ∃ w3, (wr.alloc (.cells #[.int .i64 kd, .int .u64 (id : Int), .int .u64 (s : Int), .int .i64 ye, .int .u64 (yn : Int), .int .u64 (yx : Int)] 35)).alloc (.cells #[.slice none 0 0] 41) = w3 := ⟨_, rfl⟩
        obtain ⟨z, hz⟩ : ∃ z, (wr.alloc (.cells #[.int .i64 kd, .int .u64 (id : Int), .int .u64 (s : Int), .int .i64 ye, .int .u64 (yn : Int), .int .u64 (yx : Int)] 35)).heap.size = z := ⟨_, rfl⟩
        have hBz : w.heap.size ≤ z := by rw [← hz]; exact hB0.size
        rw [hw3] at hn1 hT3 hB3 hsz3
        rw [hz] at hn1 hmp hmq hsz3
        have hw1' : WV w3 z (.slice none 0 0) [] := ⟨hn1, World.ownsRow_nil _ _ _ _⟩
        have hnil : ∀ g, (Value.slice none 0 0).ownBlock ≠ some g := fun g => by simp [Value.ownBlock]
        obtain ⟨TB, hTB⟩ : ∃ TB, tbB m = TB := ⟨_, rfl⟩
        obtain ⟨SB, hSB⟩ : ∃ SB, str TB = SB := ⟨_, rfl⟩
        have HWR := Lib.hid (WalkH.write_any hT3.pt hw1' (fun g hg => ⟨by have := hmp g hg; omega, hnil g⟩) ⟨hsn.out.now, hsn.out.next⟩ (sane_fine hsn.out) hsn.out.few (by simp) (Lib.hid (show [] ++ tbB m = TB from hTB)))
        have HW3 := Lib.hid hw3
        have HT3 := Lib.hid hT3
        have HB3 := Lib.hid hB3
        have HMQ := Lib.hid hmq
        have HSBH := Lib.hid hSB
        have HSD := Lib.hid (show str (tbB m) = SB by rw [hTB, hSB])
        clear hT hB0 ha hn1 hT3 hB3 hmp hmq hw3 hw1' hTB hSB hfin0
        go_wp2_with fail
        rw [HW3.out]
        with_reducible refine HWR.out.mono ?_
        rintro e w4 ⟨rfl, hQ⟩
        have hT4 := HT3.out.dt.keep (only_b hQ.only) (fun g hg e => by
          have := HMQ.out g hg
          rcases e with e | e
          · omega
          · exact hnil g e)
        have HB4 := Lib.hid (HB3.out.trans ((only_b hQ.only).below HB3.out.size (fun g hg => by
          rcases hg with rfl | e
          · exact hBz
          · exact absurd e (hnil g))))
        obtain ⟨u4, hu4, _⟩ := hQ.ex
        have HU4 := Lib.hid hu4
        have HBY := Lib.hid (RefE.bytes_any hT4 ⟨hsn.out.now, hsn.out.next⟩ (sane_fine hsn.out) hsn.out.few HSD)
        clear hT4 hu4 hQ HWR HB3
        go_wp2_with fail
        with_reducible refine (PckWalkB.bytes_any z u4 TB w4 HU4.out).mono ?_
        rintro e w5 ⟨rfl, rfl⟩
        rw [show (⟨TB.toArray⟩ : ByteArray) = SB from HSBH.out]
        go_wp2_with fail
        with_reducible refine HBY.out.mono ?_
        rintro e w5 ⟨rfl, hb5⟩
        have HB5 := Lib.hid (HB4.out.trans (hb5.mono HB4.out.size))
        clear hb5 HBY
        go_wp2
        go_ret
        exact ⟨by simp, HB5.out⟩
end Go.Proofs.Ytdmlfnknmilhcaa.LawE
