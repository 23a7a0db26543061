/- The walk of the statement that a letter under way shares nothing with the one that was handed in, nor with those that are told. -/
import Derived.Test.YtfcdaelbbcfgjaaKeep
set_option linter.unusedVariables false
namespace Go.Proofs.Ytfcdaelbbcfgjaa.LawD
open Go.RowKit Go.Proofs.Ytfcdaelbbcfgjaa.Kit Go.Proofs.Ytfcdaelbbcfgjaa.Blocks Go.Proofs.Ytfcdaelbbcfgjaa.Ltr Go.Proofs.Ytfcdaelbbcfgjaa.NAt Go.Proofs.Ytfcdaelbbcfgjaa.App Go.Proofs.Ytfcdaelbbcfgjaa.WalkA Go.Proofs.Ytfcdaelbbcfgjaa.WalkB Go.Proofs.Ytfcdaelbbcfgjaa.WalkC Go.Proofs.Ytfcdaelbbcfgjaa.WalkE Go.Proofs.Ytfcdaelbbcfgjaa.WalkF Go.Proofs.Ytfcdaelbbcfgjaa.WalkG Go.Proofs.Ytfcdaelbbcfgjaa.Sol Go.Proofs.Ytfcdaelbbcfgjaa.Begun Go.Proofs.Ytfcdaelbbcfgjaa.LawA Go.Proofs.Ytfcdaelbbcfgjaa.Opens Go.Proofs.Ytfcdaelbbcfgjaa.Same Go.Proofs.Ytfcdaelbbcfgjaa.LawB Go.Proofs.Ytfcdaelbbcfgjaa.Out Go.Proofs.Ytfcdaelbbcfgjaa.Keep

theorem out_new {w : World} {p q : Nat} (h1 : q < w.heap.size) (h2 : q ≠ p) : Out w p (.slice none 0 0) (fun _ => False) q := ⟨h1, fun e => e.elim h2 (fun e => by cases e), fun e => e⟩
set_option maxRecDepth 100000 in
set_option maxHeartbeats 32000000 in
theorem apart_walk (x y : Lt) (w : World) (hx : Came w x) (hy : Came w y) : Calls Try.prog 6 #[ltV x, ltV y] w fun e w' => e = .returned (.bool true) ∧ Below w.heap.size w w' := by
  have h40 := hx.few
  obtain ⟨⟨k, f, t, tm, ix, pv, cm, ok, d⟩, A, m, c, es⟩ := x
  obtain ⟨⟨k2, f2, t2, tm2, ix2, pv2, cm2, ok2, d2⟩, A2, m2, c2, es2⟩ := y
  simp only at h40
  have hcb := heap_alloc_new w (.cells #[.int .i64 k, .int .i64 f, .int .i64 t, .int .u64 tm, .int .u64 ix, .int .u64 pv, .int .u64 cm, .bool ok, .slice A m c, .string d] 34)
  have hcy := heap_alloc_new (w.alloc (.cells #[.int .i64 k, .int .i64 f, .int .i64 t, .int .u64 tm, .int .u64 ix, .int .u64 pv, .int .u64 cm, .bool ok, .slice A m c, .string d] 34)) (.cells #[.int .i64 k2, .int .i64 f2, .int .i64 t2, .int .u64 tm2, .int .u64 ix2, .int .u64 pv2, .int .u64 cm2, .bool ok2, .slice A2 m2 c2, .string d2] 34)
  have hs1 : (w.alloc (.cells #[.int .i64 k, .int .i64 f, .int .i64 t, .int .u64 tm, .int .u64 ix, .int .u64 pv, .int .u64 cm, .bool ok, .slice A m c, .string d] 34)).heap.size = w.heap.size + 1 := by simp
  have hb0 : Below w.heap.size w ((w.alloc (.cells #[.int .i64 k, .int .i64 f, .int .i64 t, .int .u64 tm, .int .u64 ix, .int .u64 pv, .int .u64 cm, .bool ok, .slice A m c, .string d] 34)).alloc (.cells #[.int .i64 k2, .int .i64 f2, .int .i64 t2, .int .u64 tm2, .int .u64 ix2, .int .u64 pv2, .int .u64 cm2, .bool ok2, .slice A2 m2 c2, .string d2] 34)) := ((Below.refl _ _).alloc (Nat.le_refl _) _).alloc (by simp) _
  obtain ⟨w0, hw0⟩ : ∃ w0, (w.alloc (.cells #[.int .i64 k, .int .i64 f, .int .i64 t, .int .u64 tm, .int .u64 ix, .int .u64 pv, .int .u64 cm, .bool ok, .slice A m c, .string d] 34)).alloc (.cells #[.int .i64 k2, .int .i64 f2, .int .i64 t2, .int .u64 tm2, .int .u64 ix2, .int .u64 pv2, .int .u64 cm2, .bool ok2, .slice A2 m2 c2, .string d2] 34) = w0 := ⟨_, rfl⟩
  rw [hs1, hw0] at hcy
  rw [hw0] at hb0
  have hcb0 : w0.heap[w.heap.size]? = some (.cells #[.int .i64 k, .int .i64 f, .int .i64 t, .int .u64 tm, .int .u64 ix, .int .u64 pv, .int .u64 cm, .bool ok, .slice A m c, .string d] 34 (0, 0)) := by
    rw [← hw0, Below.heap_alloc _ _ _ (lt_at hcb)]
    exact hcb
  have HX := Lib.hid hx
  have HY := Lib.hid hy
  have HB0 := Lib.hid hb0
  have HCX := Lib.hid hcb0
  have HCY := Lib.hid hcy
  have HW0 := Lib.hid hw0
  have hl0 := lt_at hcb0
  have hl1 := lt_at hcy
  clear hx hy hcb hcb0 hcy hs1 hb0 hw0
  unfold ltV
  go_enter Try.func6, Try.ntmps6
  go_wp2_with fail
  rw [HW0.out]
  with_reducible refine (begun_true w0).mono ?_
  rintro e w1 ⟨rfl, hb1⟩
  have hx1 := (hb1.block _ hl0).trans HCX.out
  have e8 : w1.cell? ⟨w.heap.size, 8, none⟩ = some (.slice A m c) := by rw [cell_at hx1]; rfl
  have hlt1 := lt_at hx1
  have HB1 := Lib.hid hb1
  clear hx1 hb1
  by_cases hbig : 100 < (m : Int)
  · go_wp2
    go_ret
    exact ⟨rfl, HB0.out.trans (HB1.out.mono HB0.out.size)⟩
  · have hm100 : (m : Int) ≤ 100 := by omega
    clear hbig
    go_wp2_with fail
    with_reducible refine (take_nil 0 w1).mono ?_
    rintro e w2 ⟨rfl, hb2⟩
    have hz := heap_alloc_new w2 (.cells #[.int .i64 0, .int .i64 0, .int .i64 0, .int .u64 0, .int .u64 0, .int .u64 0, .int .u64 0, .bool false, .slice none 0 0, .string ⟨#[]⟩] 34)
    have hbz : Below w2.heap.size w2 (w2.alloc (.cells #[.int .i64 0, .int .i64 0, .int .i64 0, .int .u64 0, .int .u64 0, .int .u64 0, .int .u64 0, .bool false, .slice none 0 0, .string ⟨#[]⟩] 34)) := (Below.refl _ _).alloc (Nat.le_refl _) _
    have HZ := Lib.hid hz
    have HB2 := Lib.hid (HB1.out.trans (hb2.mono HB1.out.size))
    have HBZ := Lib.hid hbz
    clear hz hb2 hbz
    unfold ltV zeroL zeroH
    simp only
    go_wp2_with fail
    with_reducible refine (count_nil _).mono ?_
    rintro e w3 ⟨rfl, hb3⟩
    have hb13 : Below w0.heap.size w0 w3 := HB2.out.trans ((HBZ.out.trans (hb3.mono HBZ.out.size)).mono HB2.out.size)
    have hx3 := (hb13.block _ hl0).trans HCX.out
    obtain ⟨d0, d1, d2_, d3, d4, d5, d6, d7, d8, d9, hlt3⟩ := ten_at hx3
    have HB13 := Lib.hid hb13
    have HB3 := Lib.hid hb3
    clear hb13 hb3 hx3
    have hsn := send_nil (⟨⟨k, f, t, tm, ix, pv, cm, ok, d⟩, A, m, c, es⟩ : Lt) w3
    unfold ltV at hsn
    have HSn := Lib.hid hsn
    clear hsn
    go_wp2_with fail
    with_reducible refine HSn.out.mono ?_
    rintro e w4 ⟨rfl, hb4⟩
    go_wp2_with fail
    with_reducible refine (lose_nil 0 w4).mono ?_
    rintro e w5 ⟨rfl, hb5⟩
    go_wp2_with fail
    with_reducible refine (double_nil 0 w5).mono ?_
    rintro e w6 ⟨rfl, hb6⟩
    go_wp2_with fail
    with_reducible refine (all_nil w6).mono ?_
    rintro e w7 ⟨rfl, hb7⟩
    have hb37 : Below w3.heap.size w3 w7 := ((hb4.trans (hb5.mono hb4.size)).trans (hb6.mono (Nat.le_trans hb4.size hb5.size))).trans (hb7.mono (Nat.le_trans (Nat.le_trans hb4.size hb5.size) hb6.size))
    have hz7 := (hb37.block _ (Nat.lt_of_lt_of_le (lt_at HZ.out) HB3.out.size)).trans ((HB3.out.block _ (lt_at HZ.out)).trans HZ.out)
    have z0 : w7.cell? ⟨w2.heap.size, 0, none⟩ = some (.int .i64 0) := by rw [cell_at hz7]; rfl
    have hltz := lt_at hz7
    have HB7 := Lib.hid (HB13.out.trans (hb37.mono HB13.out.size))
    clear hb4 hb5 hb6 hb7 hb37 hz7 d0 d1 d2_ d3 d4 d5 d6 d7 d8 d9
    go_wp2_with fail
    with_reducible refine (new_any w.heap.size w7 (by have := HB0.out.size; have := HB7.out.size; omega)).mono ?_
    rintro e w8 ⟨p, rfl, h8, hb8, hp7⟩
    have hb08 := HB7.out.trans (hb8.mono HB7.out.size)
    have hx8 := (hb08.block _ hl0).trans HCX.out
    have hsz8 := hb08.size
    have hsz7 := HB7.out.size
    have hp8 := h8.plt
    have h9new := heap_alloc_new w8 (.cells #[.int .i64 k, .int .i64 f, .int .i64 t, .int .u64 tm, .int .u64 ix, .int .u64 pv, .int .u64 cm, .bool ok, .slice A m c, .string d] 34)
    have hb9 : Below w8.heap.size w8 (w8.alloc (.cells #[.int .i64 k, .int .i64 f, .int .i64 t, .int .u64 tm, .int .u64 ix, .int .u64 pv, .int .u64 cm, .bool ok, .slice A m c, .string d] 34)) := (Below.refl _ _).alloc (Nat.le_refl _) _
    have hbw9 : Below w.heap.size w (w8.alloc (.cells #[.int .i64 k, .int .i64 f, .int .i64 t, .int .u64 tm, .int .u64 ix, .int .u64 pv, .int .u64 cm, .bool ok, .slice A m c, .string d] 34)) := (HB0.out.trans (hb08.mono HB0.out.size)).alloc (by have := HB0.out.size; omega) _
    have HR9 : Hid (RE (w8.alloc (.cells #[.int .i64 k, .int .i64 f, .int .i64 t, .int .u64 tm, .int .u64 ix, .int .u64 pv, .int .u64 cm, .bool ok, .slice A m c, .string d] 34)) (w8.alloc (.cells #[.int .i64 k, .int .i64 f, .int .i64 t, .int .u64 tm, .int .u64 ix, .int .u64 pv, .int .u64 cm, .bool ok, .slice A m c, .string d] 34)).heap.size A m es) := (Came.below HX.out hbw9).re
    obtain ⟨d0, d1, d2_, d3, d4, d5, d6, d7, d8, d9, hlt8⟩ := ten_at hx8
    have HB08 := Lib.hid hb08
    have HN9 := Lib.hid h9new
    have HB9 := Lib.hid hb9
    have HBW9 := Lib.hid hbw9
    have H8 := Lib.hid h8
    have HX8 := Lib.hid hx8
    clear hb08 h9new hb9 hbw9 h8 hx8 hb8
    go_wp2_with
      (first
        | (at_builtin
           refine wpList_new (A := A) (m := m) (c := c) _ rfl _ _ rfl (w8.alloc (.cells #[.int .i64 k, .int .i64 f, .int .i64 t, .int .u64 tm, .int .u64 ix, .int .u64 pv, .int .u64 cm, .bool ok, .slice A m c, .string d] 34)).heap.size rfl rfl HR9.out (ecells_one _) h40 (Nat.le_refl _) ?_
           intro Ae ce w10 hown10 hb10 hat10
           have hbo10 := (hb10.block _ (lt_at HN9.out)).trans HN9.out
           have c8 : w10.cell? ⟨w8.heap.size, 8, none⟩ = some (.slice A m c) := by rw [cell_at hbo10]; rfl
           have f8 := free_at hbo10 8
           have hlo10 := lt_at hbo10
           have hx10 := (hb10.block _ (Nat.lt_of_lt_of_le (lt_at HX8.out) HB9.out.size)).trans ((HB9.out.block _ (lt_at HX8.out)).trans HX8.out)
           have x8 : w10.cell? ⟨w.heap.size, 8, none⟩ = some (.slice A m c) := by rw [cell_at hx10]; rfl
           have hlx10 := lt_at hx10
           have hne : w.heap.size ≠ w8.heap.size := by omega
           have ho11 : Only (fun q => q = w8.heap.size) w10 (w10.setCell ⟨w8.heap.size, 8, none⟩ (.slice Ae m ce)) := (Only.refl (fun q => q = w8.heap.size) w10).setCell (a := ⟨w8.heap.size, 8, none⟩) (.inr rfl) _
           have hbw11 : Below w.heap.size w (w10.setCell ⟨w8.heap.size, 8, none⟩ (.slice Ae m ce)) := (HBW9.out.trans (hb10.mono HBW9.out.size)).trans (ho11.below (by omega) fun q hq => by omega)
           have HR11 : Hid (RE (w10.setCell ⟨w8.heap.size, 8, none⟩ (.slice Ae m ce)) (w10.setCell ⟨w8.heap.size, 8, none⟩ (.slice Ae m ce)).heap.size A m es) := (Came.below HX.out hbw11).re
           have HBO11 : Hid ((w10.setCell ⟨w8.heap.size, 8, none⟩ (.slice Ae m ce)).heap[w8.heap.size]? = some (.cells #[.int .i64 k, .int .i64 f, .int .i64 t, .int .u64 tm, .int .u64 ix, .int .u64 pv, .int .u64 cm, .bool ok, .slice Ae m ce, .string d] 34 (0, 0))) := by show _ = _; rw [set_at hbo10]; rfl
           have HX11 := Lib.hid (ho11.heap hx10 hne)
           have HOwn10 := Lib.hid hown10
           have HO11 := Lib.hid ho11
           have HB10 := Lib.hid hb10
           have HBW11 := Lib.hid hbw11
           clear hbo10 hx10 ho11 hbw11 hown10 hb10 hat10)
        | (at_builtin
           refine wpList_new (A := A) (m := m) (c := c) _ rfl _ _ rfl (w10.setCell ⟨w8.heap.size, 8, none⟩ (.slice Ae m ce)).heap.size rfl rfl HR11.out (ecells_one _) h40 (Nat.le_refl _) ?_
           intro Aw cw w12 hown12 hb12 hat12
           have hbo12 := (hb12.block _ (lt_at HBO11.out)).trans HBO11.out
           obtain ⟨g0, g1, g2, g3, g4, g5, g6, g7, g8, g9, hlo12⟩ := ten_at hbo12
           have hx12 := (hb12.block _ (lt_at HX11.out)).trans HX11.out
           have HBO12 := Lib.hid hbo12
           have HX12 := Lib.hid hx12
           have HOwn12 := Lib.hid hown12
           have HB12 := Lib.hid hb12
           clear hbo12 hx12 hown12 hb12 hat12))
    have z9 : (w8.alloc (.cells #[.int .i64 k, .int .i64 f, .int .i64 t, .int .u64 tm, .int .u64 ix, .int .u64 pv, .int .u64 cm, .bool ok, .slice A m c, .string d] 34)).heap.size = w8.heap.size + 1 := by simp
    have z10 := HB10.out.size
    have z11 := HO11.out.size
    have z12 := HB12.out.size
    have hb812 : Below w8.heap.size w8 w12 := (HB9.out.trans (HB10.out.mono HB9.out.size)).trans ((HO11.out.below (B := w8.heap.size) (by omega) fun q hq => by omega).trans (HB12.out.mono (by omega)))
    have h12 := H8.out.below hb812
    have hy12 := (hb812.block _ (Nat.lt_of_lt_of_le hl1 HB08.out.size)).trans ((HB08.out.block _ hl1).trans HCY.out)
    have hbw12 : Below w.heap.size w w12 := HBW11.out.trans (HB12.out.mono HBW11.out.size)
    have hge : ∀ g, (Value.slice Ae m ce).ownBlock = some g → w8.heap.size + 1 ≤ g ∧ g < w10.heap.size := fun g hg => by have := HOwn10.out.lt g hg; omega
    have hgw : ∀ g, (Value.slice Aw m cw).ownBlock = some g → (w10.setCell ⟨w8.heap.size, 8, none⟩ (.slice Ae m ce)).heap.size ≤ g ∧ g < w12.heap.size := fun g hg => HOwn12.out.lt g hg
    have hown12 : w12.ownsRow (w8.alloc (.cells #[.int .i64 k, .int .i64 f, .int .i64 t, .int .u64 tm, .int .u64 ix, .int .u64 pv, .int .u64 cm, .bool ok, .slice A m c, .string d] 34)).heap.size 51 4 (.slice Ae m ce) m (ecells es) := own_same (HO11.out.own HOwn10.out fun g hg e => by have := hge g hg; have : g = w8.heap.size := e; omega) fun g hg => HB12.out.block g (by have := hge g hg; omega)
    have hout : ∀ q, q < w12.heap.size → q ≠ p → Out w12 p (.slice none 0 0) (fun _ => False) q := fun q h1 h2 => out_new h1 h2
    have hkeep : Keep w12 p (.slice none 0 0) (fun _ => False) w.heap.size (w.heap.size + 1) w8.heap.size #[.int .i64 k, .int .i64 f, .int .i64 t, .int .u64 tm, .int .u64 ix, .int .u64 pv, .int .u64 cm, .bool ok, .slice A m c, .string d] #[.int .i64 k2, .int .i64 f2, .int .i64 t2, .int .u64 tm2, .int .u64 ix2, .int .u64 pv2, .int .u64 cm2, .bool ok2, .slice A2 m2 c2, .string d2] #[.int .i64 k, .int .i64 f, .int .i64 t, .int .u64 tm, .int .u64 ix, .int .u64 pv, .int .u64 cm, .bool ok, .slice Ae m ce, .string d] Ae Aw m ce cw es :=
      ⟨HX12.out, hy12, HBO12.out, Soft.of_own hown12, own_base HOwn12.out (Nat.zero_le _), hout _ (by omega) (by omega), hout _ (by omega) (by omega), hout _ (by omega) (by omega),
        fun g hg => ⟨hout _ (by have := hge g hg; omega) (by have := hge g hg; omega), by have := hge g hg; omega, by have := hge g hg; omega, by have := hge g hg; omega, fun e => by have := hge g hg; have := hgw g e; omega⟩,
        fun g hg => ⟨hout _ (by have := hgw g hg; omega) (by have := hgw g hg; omega), by have := hgw g hg; omega⟩⟩
    have hsend := send_room (x := ⟨⟨k, f, t, tm, ix, pv, cm, ok, d⟩, Ae, m, ce, es⟩) h12 (by decide) (own_fit (E := fun _ => True) hown12 (fun _ _ => trivial) h40)
    unfold Sent ltV at hsend
    simp only at hsend
    have HS := Lib.hid hsend
    have HK12 := Lib.hid hkeep
    have H12 := Lib.hid h12
    have HBW12 := Lib.hid hbw12
    have HGE : Hid (∀ g, (Value.slice Ae m ce).ownBlock = some g → w.heap.size ≤ g) := fun g hg => by have := hge g hg; omega
    have hwx : w.heap.size < w12.heap.size := by omega
    clear hsend hkeep h12 hbw12 hout hown12 hgw hge hy12 hb812 z9 z10 z11 z12 g0 g1 g2 g3 g4 g5 g6 g7 g8 g9 HBO12 HX12 HOwn12 HB12 HR11 HBO11 HX11 HOwn10 HO11 HB10 HBW11 HR9 HN9 HB9 HBW9 H8 HX8 HB08 d0 d1 d2_ d3 d4 d5 d6 d7 d8 d9 c8 f8 x8 hlo10 hlx10 hlo12
    with_reducible refine HS.out.mono ?_
    rintro e w13 ⟨rfl, E1, A1, c1, hl1⟩
    obtain ⟨v1, h13, o13, b13, e13, k13⟩ := left_out H12.out hl1
    have hk13 := HK12.out.step k13
    have hdb := double_any h13 (by simp) (by simp) 0
    unfold Doubled at hdb
    have HDb := Lib.hid hdb
    have H13 := Lib.hid h13
    have HK13 := Lib.hid hk13
    have HBW13 := Lib.hid (HBW12.out.trans b13)
    clear hdb h13 hk13 b13 o13 e13 k13 hl1 HS HK12 H12
    go_wp2_with fail
    with_reducible refine HDb.out.mono ?_
    rintro e w14 ⟨rfl, x1, E2, A3, c3, hx1, hl2⟩
    obtain ⟨v2, h14, o14, b14, e14, k14⟩ := left_out H13.out hl2
    obtain rfl : x1 = ⟨⟨k, f, t, tm, ix, pv, cm, ok, d⟩, A1, m, c1, es⟩ := by
      have e1 : plc 0 ([] ++ [(⟨⟨k, f, t, tm, ix, pv, cm, ok, d⟩, A1, m, c1, es⟩ : Lt)]).length = 0 := rfl
      rw [e1] at hx1
      exact (Option.some.inj hx1).symm
    have hk14 := HK13.out.step k14
    have HK14 := Lib.hid hk14
    have H14 := Lib.hid h14
    have HBW14 := Lib.hid (HBW13.out.trans b14)
    obtain ⟨y0, y1, y2, y3, y4, y5, y6, y7, y8, y9, hlo14⟩ := ten_at hk14.o
    clear h14 hk14 b14 o14 e14 k14 hl2 hx1 H13 HK13 HDb
    go_wp2_with fail
    obtain ⟨L2, hL2, hs2, hn2⟩ : ∃ L2, [] ++ [(⟨⟨k, f, t, tm, ix, pv, cm, ok, d⟩, A1, m, c1, es⟩ : Lt)] ++ [⟨⟨k, f, t, tm, ix, pv, cm, ok, d⟩, A3, m, c3, es⟩] = L2 ∧ L2.map Lt.said = [(⟨k, f, t, tm, ix, pv, cm, ok, d⟩, es), (⟨k, f, t, tm, ix, pv, cm, ok, d⟩, es)] ∧ L2.length = 2 := ⟨_, rfl, rfl, rfl⟩
    have hn14 := H14.out
    rw [hL2] at hn14
    have HN14 := Lib.hid hn14
    have HS2 := Lib.hid hs2
    have HL2 := Lib.hid hn2
    clear hn14 hL2 hs2 hn2 H14
    obtain ⟨Xa, hXa⟩ : ∃ Xa : Array Value, #[.int .i64 k, .int .i64 f, .int .i64 t, .int .u64 tm, .int .u64 ix, .int .u64 pv, .int .u64 cm, .bool ok, .slice A m c, .string d] = Xa := ⟨_, rfl⟩
    obtain ⟨Ya, hYa⟩ : ∃ Ya : Array Value, #[.int .i64 k2, .int .i64 f2, .int .i64 t2, .int .u64 tm2, .int .u64 ix2, .int .u64 pv2, .int .u64 cm2, .bool ok2, .slice A2 m2 c2, .string d2] = Ya := ⟨_, rfl⟩
    rw [hXa, hYa] at HK14
    have HXa := Lib.hid hXa
    have HYa := Lib.hid hYa
    clear hXa hYa HB1 HZ HB2 HBZ HB13 HB3 HSn HB7 HCX HCY HW0 HB0 HBW12 HBW13 e8 z0
    go_loopw [84] (fun i wr => ∃ j : Nat, j ≤ m ∧ i = .int .i64 (j : Int) ∧ Hid (NAt w.heap.size 54 E2 wr p v2 L2 0) ∧ Hid (Keep wr p v2 E2 w.heap.size (w.heap.size + 1) w8.heap.size Xa Ya #[.int .i64 k, .int .i64 f, .int .i64 t, .int .u64 tm, .int .u64 ix, .int .u64 pv, .int .u64 cm, .bool ok, .slice Ae m ce, .string d] Ae Aw m ce cw es) ∧ Below w.heap.size w wr) (fun i _ => m - (intOf i).toNat)
    case atStart => exact ⟨0, by omega, rfl, HN14, HK14, HBW14.out⟩
    case round =>
      obtain ⟨j, hj, rfl, hn, hk, hbw⟩ := hrel
      have HN := hn
      by_cases hlt : j < m
      · have hjI : (j : Int) < (m : Int) := by omega
        have hj0 : (0 : Int) ≤ (j : Int) := by omega
        obtain ⟨q0, q1, q2, q3, q4, q5, q6, q7, q8, q9, hloq⟩ := ten_at hk.out.o
        rcases hk.out.soft with h0 | ⟨g, cur, hA, hg, hcs⟩
        · omega
        · have hcur : ∃ u, wr.cell? ⟨g, j * 4 + 3, none⟩ = some u := by rw [cell_at hg]; exact ⟨_, Array.getElem?_eq_getElem (by omega)⟩
          obtain ⟨u, hu⟩ := hcur
          have hfr := free_at hg (j * 4 + 3)
          have hgl := lt_at hg
          have hbd := hk.out.bend hn.out (g := g) (by subst hA; rfl) (j * 4 + 3) (.string ⟨#[98, 101, 110, 116]⟩)
          have hgw : w.heap.size ≤ g := HGE.out g (by subst hA; rfl)
          have HBd := Lib.hid hbd
          subst hA
          clear hbd hg
          go_wp2
          exact ⟨⟨j + 1, by omega, by first | rfl | simp, HBd.out.2, HBd.out.1, hbw.trans (((Only.refl (fun q => q = g) wr).setCell (a := ⟨g, j * 4 + 3, none⟩) (.inr rfl) _).below hbw.size fun q hq => by have : q = g := hq; omega)⟩, by simp [intOf]; omega⟩
      · obtain rfl : m = j := by omega
        have hall := all_any hn.out (by rw [HL2.out]; decide)
        rw [HL2.out] at hall
        have HAll := Lib.hid hall
        have HNA := hn
        have HKA := hk
        clear hall hn HN
        go_wp2_with fail
        with_reducible refine HAll.out.mono ?_
        rintro e w15 ⟨A5, c5, M, rfl, hcp, hb15⟩
        have hML : M.length = 2 := by have := congrArg List.length hcp.said; simpa [HL2.out] using this
        have hrow0 := hcp.row
        rw [hML] at hrow0
        have HRow0 := Lib.hid hrow0
        have HM40 : Hid (∀ x ∈ M, x.n * 40 ≤ 140737488355328) := fun x hx => (hcp.ents x hx).2.1
        have HBn0 : Hid (∀ x ∈ M, Bent w15 wr.heap.size (.slice A5 2 c5) x) := Bent.of_copies hcp
        have HB15 := Lib.hid hb15
        have HML := Lib.hid hML
        clear hrow0 hcp hb15 hML
        obtain ⟨wA, hwA⟩ : ∃ wA, wA = wr := ⟨_, rfl⟩
        rw [← hwA] at HRow0 HBn0 HB15 HNA HKA hbw
        clear hwA HAll
        go_wp2
        go_loopw [96] (fun i wr => ∃ j : Nat, j ≤ 2 ∧ i = .int .i64 (j : Int) ∧ Hid (wr.ownsRow wA.heap.size 34 10 (.slice A5 2 c5) 2 (lcells M)) ∧ Hid (∀ x ∈ M, Bent wr wA.heap.size (.slice A5 2 c5) x) ∧ Below wA.heap.size wA wr) (fun i _ => 2 - (intOf i).toNat)
        case atStart => exact ⟨0, by omega, rfl, HRow0, HBn0, HB15.out⟩
        case round =>
          obtain ⟨j, hj, rfl, hrow, hbn, hbA⟩ := hrel
          obtain ⟨wo, rfl⟩ : ∃ wo, wo = wr := ⟨_, rfl⟩
          by_cases hlt : j < 2
          · have hjI : (j : Int) < 2 := by omega
            have hj0 : (0 : Int) ≤ (j : Int) := by omega
            obtain ⟨b, o, y, rfl, hbl, hy, hten⟩ := RL.at_ (Kit.Reads.of_own hrow.out) hlt
            have hby := hbn.out y (List.mem_of_getElem? hy)
            obtain ⟨d0, d1, d2_, d3, d4, d5, d6, d7, d8, d9⟩ := hten
            have HMem := Lib.hid (List.mem_of_getElem? hy)
            have hma := HM40.out y HMem.out
            obtain ⟨⟨ka, fa, ta, tma, ixa, pva, cma, oka, da⟩, Aa, ma, ca, esa⟩ := y
            simp only at d0 d1 d2_ d3 d4 d5 d6 d7 d8 d9 hma
            have hbo : ∀ o, Below wo.heap.size wo (wo.alloc o) := fun o => (Below.refl _ _).alloc (Nat.le_refl _) o
            have HBO := Lib.hid hbo
            have hgl : ∀ g, Aa = some ⟨g, 0, none⟩ → 0 < ma → g < wo.heap.size := fun g e h0 => by
              rcases hby with h1 | ⟨g', cur, h1, _, _, h4, _⟩
              · have h1' : ma = 0 := h1
                omega
              · have h1' : Aa = some ⟨g', 0, none⟩ := h1
                rw [e] at h1'
                cases h1'
                exact lt_at h4
            have HGL := Lib.hid hgl
            have hybox := heap_alloc_new wo (.cells #[.int .i64 ka, .int .i64 fa, .int .i64 ta, .int .u64 tma, .int .u64 ixa, .int .u64 pva, .int .u64 cma, .bool oka, .slice Aa ma ca, .string da] 34)
            have HYB := Lib.hid hybox
            clear hbo hgl hybox hby hy
            have HRow1 := Lib.hid ((Only.of_below (HBO.out (.cells #[.int .i64 ka, .int .i64 fa, .int .i64 ta, .int .u64 tma, .int .u64 ixa, .int .u64 pva, .int .u64 cma, .bool oka, .slice Aa ma ca, .string da] 34))).own hrow.out fun _ _ e => e)
            have HBn1 : Hid (∀ x ∈ M, Bent (wo.alloc (.cells #[.int .i64 ka, .int .i64 fa, .int .i64 ta, .int .u64 tma, .int .u64 ixa, .int .u64 pva, .int .u64 cma, .bool oka, .slice Aa ma ca, .string da] 34)) wA.heap.size (.slice (some ⟨b, o, none⟩) 2 c5) x) := fun x hx => (hbn.out x hx).below (HBO.out _)
            have HBA1 := Lib.hid (hbA.trans ((HBO.out (.cells #[.int .i64 ka, .int .i64 fa, .int .i64 ta, .int .u64 tma, .int .u64 ixa, .int .u64 pva, .int .u64 cma, .bool oka, .slice Aa ma ca, .string da] 34)).mono hbA.size))
            have hyb0 : w.heap.size ≤ wA.heap.size := hbw.size
            have hyb1 : wA.heap.size ≤ wo.heap.size := hbA.size
            go_wp2_with fail
            go_loopw [103] (fun i wr => ∃ q : Nat, q ≤ ma ∧ i = .int .i64 (q : Int) ∧ Hid (wr.ownsRow wA.heap.size 34 10 (.slice (some ⟨b, o, none⟩) 2 c5) 2 (lcells M)) ∧ Hid (∀ x ∈ M, Bent wr wA.heap.size (.slice (some ⟨b, o, none⟩) 2 c5) x) ∧ Hid (wr.heap[wo.heap.size]? = some (.cells #[.int .i64 ka, .int .i64 fa, .int .i64 ta, .int .u64 tma, .int .u64 ixa, .int .u64 pva, .int .u64 cma, .bool oka, .slice Aa ma ca, .string da] 34 (0, 0))) ∧ Below wA.heap.size wA wr) (fun i _ => ma - (intOf i).toNat)
            case atStart => exact ⟨0, by omega, rfl, HRow1, HBn1, HYB, HBA1.out⟩
            case round =>
              obtain ⟨q, hq, rfl, hrowi, hbni, hyi, hbi⟩ := hrel
              by_cases hltq : q < ma
              · have hqI : (q : Int) < (ma : Int) := by omega
                have hq0 : (0 : Int) ≤ (q : Int) := by omega
                have e8i : wr.cell? ⟨wo.heap.size, 8, none⟩ = some (.slice Aa ma ca) := by rw [cell_at hyi.out]; rfl
                have hlyi := lt_at hyi.out
                rcases hbni.out _ HMem.out with h1 | ⟨g, cur, h1, h2, h3, h4, h5⟩
                · have h1' : ma = 0 := h1
                  omega
                · have hA : Aa = some ⟨g, 0, none⟩ := h1
                  obtain ⟨tt, htt⟩ := h5 q hltq
                  have hcell : wr.cell? ⟨g, q * 4, none⟩ = some (.int .u64 tt) := by rw [cell_at h4]; exact htt
                  have hfree := free_at h4 (q * 4)
                  have hgw := lt_at h4
                  have hgy : g < wo.heap.size := HGL.out g hA (by omega)
                  have HFin : Hid (∀ z : Int, (wr.setCell ⟨g, q * 4, none⟩ (.int .u64 z)).ownsRow wA.heap.size 34 10 (.slice (some ⟨b, o, none⟩) 2 c5) 2 (lcells M) ∧ (∀ x ∈ M, Bent (wr.setCell ⟨g, q * 4, none⟩ (.int .u64 z)) wA.heap.size (.slice (some ⟨b, o, none⟩) 2 c5) x) ∧
                      (wr.setCell ⟨g, q * 4, none⟩ (.int .u64 z)).heap[wo.heap.size]? = some (.cells #[.int .i64 ka, .int .i64 fa, .int .i64 ta, .int .u64 tma, .int .u64 ixa, .int .u64 pva, .int .u64 cma, .bool oka, .slice Aa ma ca, .string da] 34 (0, 0)) ∧ Below wA.heap.size wA (wr.setCell ⟨g, q * 4, none⟩ (.int .u64 z))) := fun z => by
                    have ho : Only (fun y => y = g) wr (wr.setCell ⟨g, q * 4, none⟩ (.int .u64 z)) := (Only.refl (fun y => y = g) wr).setCell (a := ⟨g, q * 4, none⟩) (.inr rfl) _
                    exact ⟨ho.own hrowi.out fun y hy e => h3 (by rw [← (show y = g from e)]; exact hy), fun x hx => (hbni.out x hx).set g (q * 4) z, ho.heap hyi.out fun e => by omega, hbi.trans (ho.below hbi.size fun y hy => by have : y = g := hy; omega)⟩
                  subst hA
                  clear h4 h5 htt hrowi hbni hyi
                  go_wp2
                  exact ⟨⟨q + 1, by omega, by first | rfl | simp, (HFin.out _).1, (HFin.out _).2.1, (HFin.out _).2.2.1, (HFin.out _).2.2.2⟩, by simp [intOf]; omega⟩
              · obtain rfl : q = ma := by omega
                go_wp2
                exact ⟨⟨j + 1, by omega, by first | rfl | simp, hrowi, hbni, hbi⟩, by simp [intOf]; omega⟩
          · obtain rfl : j = 2 := by omega
            have hnA := HNA.out.below hbA
            have hkA := HKA.out.below hbA
            have hbwA : Below w.heap.size w wo := hbw.trans (hbA.mono hbw.size)
            have hyb := hkA.y
            rw [← HYa.out] at hyb
            obtain ⟨d0, d1, d2_, d3, d4, d5, d6, d7, d8, d9, hly⟩ := ten_at hyb
            have hsend := send_room hnA (by rw [HL2.out]; decide) (Came.below HY.out hbwA)
            unfold Sent ltV at hsend
            simp only at hsend
            have HSd := Lib.hid hsend
            have HnA := Lib.hid hnA
            have HkA := Lib.hid hkA
            have HbwA := Lib.hid hbwA
            clear hnA hkA hbwA hyb hsend hrow hbn HRow0 HBn0 HB15 HM40
            go_wp2_with fail
            with_reducible refine HSd.out.mono ?_
            rintro e w16 ⟨rfl, E3, A6, c6, hl3⟩
            obtain ⟨v3, h16, o16, b16, e16, k16⟩ := left_out HnA.out hl3
            have hk16 := HkA.out.step k16
            obtain ⟨L3, hL3, hL3n⟩ : ∃ L3 : List Lt, L2 ++ [⟨⟨k2, f2, t2, tm2, ix2, pv2, cm2, ok2, d2⟩, A6, m2, c6, es2⟩] = L3 ∧ L3.length = 3 := ⟨_, rfl, by rw [List.length_append, HL2.out]; rfl⟩
            have hget : ∀ i, i < 2 → ∀ a, L3[i]? = some a → a.said = (⟨k, f, t, tm, ix, pv, cm, ok, d⟩, es) := fun i hi a ha => by
              rw [← hL3, List.getElem?_append_left (by rw [HL2.out]; exact hi)] at ha
              have h1 : (L2.map Lt.said)[i]? = some a.said := by rw [List.getElem?_map, ha]; rfl
              rw [HS2.out] at h1
              match i, hi, h1 with
              | 0, _, h1 => exact (Option.some.inj h1).symm
              | 1, _, h1 => exact (Option.some.inj h1).symm
            rw [hL3] at h16
            have htk := take_any h16 (by omega) (by omega) 0
            rw [hL3n, plc_zero] at htk
            have HTk := Lib.hid htk
            have H16 := Lib.hid h16
            have HK16 := Lib.hid hk16
            have HGet := Lib.hid hget
            have HL3 := Lib.hid hL3n
            have HBW16 := Lib.hid (HbwA.out.trans b16)
            clear htk h16 hk16 hget hL3 hL3n b16 o16 e16 k16 hl3 HSd HnA HkA HbwA
            go_wp2_with fail
            with_reducible refine HTk.out.mono ?_
            rintro e w17 ⟨xa, hxa, rfl, hl4⟩
            obtain ⟨v4, h17, o17, b17, e17, k17⟩ := left_out H16.out hl4
            have hk17 := HK16.out.step k17
            have hfa := (H16.out.fit xa (List.mem_of_getElem? hxa)).keep o17 fun g hg hm => by
              rcases hm with e | e
              · exact (H16.out.off g hg).1 e
              · exact (H16.out.off g hg).2.1 e
            have hsa := HGet.out 0 (by decide) xa hxa
            obtain ⟨⟨ka, fa, ta, tma, ixa, pva, cma, oka, da⟩, Aa, ma, ca, esa⟩ := xa
            unfold ltV
            simp only
            have hba : Below w17.heap.size w17 (w17.alloc (.cells #[.int .i64 ka, .int .i64 fa, .int .i64 ta, .int .u64 tma, .int .u64 ixa, .int .u64 pva, .int .u64 cma, .bool oka, .slice Aa ma ca, .string da] 34)) := (Below.refl _ _).alloc (Nat.le_refl _) _
            have hna := heap_alloc_new w17 (.cells #[.int .i64 ka, .int .i64 fa, .int .i64 ta, .int .u64 tma, .int .u64 ixa, .int .u64 pva, .int .u64 cma, .bool oka, .slice Aa ma ca, .string da] 34)
            have h17' := h17.below hba
            have hk17' := hk17.below hba
            have hln4 : (L3.eraseIdx 0).length = 2 := by rw [List.length_eraseIdx, if_pos (by rw [HL3.out]; decide), HL3.out]
            have htk2 := take_any h17' (by omega) (by omega) 0
            rw [hln4, plc_zero] at htk2
            have HTk2 := Lib.hid htk2
            have H17 := Lib.hid h17'
            have HK17 := Lib.hid hk17'
            have HFa := Lib.hid (hfa.below hba)
            have HSa := Lib.hid hsa
            have HNa := Lib.hid hna
            have HOut16 : Hid (Out (w17.alloc (.cells #[.int .i64 ka, .int .i64 fa, .int .i64 ta, .int .u64 tma, .int .u64 ixa, .int .u64 pva, .int .u64 cma, .bool oka, .slice Aa ma ca, .string da] 34)) p v4 E3 w17.heap.size) := ⟨by simp, fun e => by have := (h17.mine_lt e).2; omega, fun e => by have := (h17.off _ e).2.2; omega⟩
            have HLtx := Lib.hid hk17.ox.lt
            have HBW17 := Lib.hid ((HBW16.out.trans b17).trans (hba.mono (HBW16.out.trans b17).size))
            clear htk2 h17 h17' hk17 hk17' hfa hsa hna b17 o17 e17 k17 hl4 hxa hba hln4 H16 HK16 HTk HBW16
            go_wp2_with fail
            with_reducible refine HTk2.out.mono ?_
            rintro e w18 ⟨xb, hxb, rfl, hl5⟩
            obtain ⟨v5, h18, o18, b18, e18, k18⟩ := left_out H17.out hl5
            have hk18 := HK17.out.step k18
            have hoff : ∀ g, E3 g → ¬ Mine p v4 g := fun g hg hm => by
              rcases hm with e | e
              · exact (H17.out.off g hg).1 e
              · exact (H17.out.off g hg).2.1 e
            have hfa18 := HFa.out.keep o18 hoff
            have hfb18 := (H17.out.fit xb (List.mem_of_getElem? hxb)).keep o18 hoff
            have hsb : xb.said = (⟨k, f, t, tm, ix, pv, cm, ok, d⟩, es) := by
              refine HGet.out 1 (by decide) xb ?_
              rw [List.getElem?_eraseIdx] at hxb
              simpa using hxb
            obtain ⟨⟨kb, fb, tb, tmb, ixb, pvb, cmb, okb, db⟩, Ab, mb, cb, esb⟩ := xb
            unfold ltV
            simp only
            have hk18' := hk18.x
            rw [← HXa.out] at hk18'
            obtain ⟨x0, x1, x2, x3, x4, x5, x6, x7, x8, x9, hlx⟩ := ten_at hk18'
            have hfx8 := free_at hk18' 8
            have hba18 := (k18 _ HOut16.out).2.trans HNa.out
            obtain ⟨y0, y1, y2, y3, y4, y5, y6, y7, y8, y9, hly⟩ := ten_at hba18
            have hne16 : w.heap.size ≠ w17.heap.size := by have := HLtx.out; omega
            have hne61 : w17.heap.size ≠ w.heap.size := by omega
            have hne18 : w.heap.size ≠ w18.heap.size := by omega
            have ho19 : Only (fun q => q = w.heap.size) w18 (w18.setCell ⟨w.heap.size, 8, none⟩ (.slice Aw m cw)) := (Only.refl (fun q => q = w.heap.size) w18).setCell (a := ⟨w.heap.size, 8, none⟩) (.inr rfl) _
            have hE3 : ∀ g, E3 g → ¬ g = w.heap.size := fun g hg e => hk18.ox.ent (by rw [← e]; exact hg)
            have hbb : Below (w18.setCell ⟨w.heap.size, 8, none⟩ (.slice Aw m cw)).heap.size (w18.setCell ⟨w.heap.size, 8, none⟩ (.slice Aw m cw)) ((w18.setCell ⟨w.heap.size, 8, none⟩ (.slice Aw m cw)).alloc (.cells #[.int .i64 kb, .int .i64 fb, .int .i64 tb, .int .u64 tmb, .int .u64 ixb, .int .u64 pvb, .int .u64 cmb, .bool okb, .slice Ab mb cb, .string db] 34)) := (Below.refl _ _).alloc (Nat.le_refl _) _
            have hfa19 := (hfa18.keep ho19 hE3).below hbb
            have hfb19 := (hfb18.keep ho19 hE3).below hbb
            have hw19 := (Only.of_below hbb).own (ho19.own hk18.was fun g hg e => (hk18.ow g hg).2 e) fun _ _ e => e
            have hfx19 := own_fit (h := ⟨k, f, t, tm, ix, pv, cm, ok, d⟩) (E := fun _ => True) hw19 (fun _ _ => trivial) h40
            have hsm1 := same_any hfa19 hfx19 HSa.out
            have hsm2 : ∀ W, Below ((w18.setCell ⟨w.heap.size, 8, none⟩ (.slice Aw m cw)).alloc (.cells #[.int .i64 kb, .int .i64 fb, .int .i64 tb, .int .u64 tmb, .int .u64 ixb, .int .u64 pvb, .int .u64 cmb, .bool okb, .slice Ab mb cb, .string db] 34)).heap.size ((w18.setCell ⟨w.heap.size, 8, none⟩ (.slice Aw m cw)).alloc (.cells #[.int .i64 kb, .int .i64 fb, .int .i64 tb, .int .u64 tmb, .int .u64 ixb, .int .u64 pvb, .int .u64 cmb, .bool okb, .slice Ab mb cb, .string db] 34)) W → _ := fun W hb => same_any (hfb19.below hb) (hfx19.below hb) hsb
            have hbwf : Below w.heap.size w ((w18.setCell ⟨w.heap.size, 8, none⟩ (.slice Aw m cw)).alloc (.cells #[.int .i64 kb, .int .i64 fb, .int .i64 tb, .int .u64 tmb, .int .u64 ixb, .int .u64 pvb, .int .u64 cmb, .bool okb, .slice Ab mb cb, .string db] 34)) := (HBW17.out.trans b18).trans ((ho19.below (HBW17.out.trans b18).size fun q hq => by omega).trans (hbb.mono (Nat.le_trans (HBW17.out.trans b18).size ho19.size)))
            have hx19 : ((w18.setCell ⟨w.heap.size, 8, none⟩ (.slice Aw m cw)).alloc (.cells #[.int .i64 kb, .int .i64 fb, .int .i64 tb, .int .u64 tmb, .int .u64 ixb, .int .u64 pvb, .int .u64 cmb, .bool okb, .slice Ab mb cb, .string db] 34)).heap[w.heap.size]? = some (.cells #[.int .i64 k, .int .i64 f, .int .i64 t, .int .u64 tm, .int .u64 ix, .int .u64 pv, .int .u64 cm, .bool ok, .slice Aw m cw, .string d] 34 (0, 0)) := by
              rw [hbb.block _ (Nat.lt_of_lt_of_le hlx ho19.size), set_at hk18']
              rfl
            have hb19 : ((w18.setCell ⟨w.heap.size, 8, none⟩ (.slice Aw m cw)).alloc (.cells #[.int .i64 kb, .int .i64 fb, .int .i64 tb, .int .u64 tmb, .int .u64 ixb, .int .u64 pvb, .int .u64 cmb, .bool okb, .slice Ab mb cb, .string db] 34)).heap[w18.heap.size]? = some (.cells #[.int .i64 kb, .int .i64 fb, .int .i64 tb, .int .u64 tmb, .int .u64 ixb, .int .u64 pvb, .int .u64 cmb, .bool okb, .slice Ab mb cb, .string db] 34 (0, 0)) := by
              have := heap_alloc_new (w18.setCell ⟨w.heap.size, 8, none⟩ (.slice Aw m cw)) (.cells #[.int .i64 kb, .int .i64 fb, .int .i64 tb, .int .u64 tmb, .int .u64 ixb, .int .u64 pvb, .int .u64 cmb, .bool okb, .slice Ab mb cb, .string db] 34)
              rwa [show (w18.setCell ⟨w.heap.size, 8, none⟩ (.slice Aw m cw)).heap.size = w18.heap.size by simp [World.setCell]] at this
            unfold ltV at hsm1 hsm2
            simp only at hsm1 hsm2
            have HS1 := Lib.hid hsm1
            have HS2' := Lib.hid hsm2
            have HBWF := Lib.hid hbwf
            have HX19 := Lib.hid hx19
            have HB19 := Lib.hid hb19
            clear hsm1 hsm2 hbwf hx19 hb19 hfa19 hfb19 hw19 hfx19 hbb hE3 ho19 hba18 hk18 hk18' hfa18 hfb18 hsb hxb hoff b18 o18 e18 k18 hl5 h18
            go_wp2_with fail
            with_reducible refine HS1.out.mono ?_
            rintro e w19 ⟨rfl, hb19⟩
            have hx20 := (hb19.block _ (lt_at HX19.out)).trans HX19.out
            have hb20 := (hb19.block _ (lt_at HB19.out)).trans HB19.out
            obtain ⟨p0, p1, p2, p3, p4, p5, p6, p7, p8, p9, hlp⟩ := ten_at hx20
            obtain ⟨r0, r1, r2, r3, r4, r5, r6, r7, r8, r9, hlr⟩ := ten_at hb20
            have HS2 := Lib.hid (HS2'.out w19 hb19)
            have HBWG := Lib.hid (HBWF.out.trans (hb19.mono HBWF.out.size))
            clear hx20 hb20 hb19 HS1 HS2'
            go_wp2_with fail
            with_reducible refine HS2.out.mono ?_
            rintro e w20 ⟨rfl, hb20⟩
            have HBWH := Lib.hid (HBWG.out.trans (hb20.mono HBWG.out.size))
            clear hb20
            go_wp2
            go_ret
            exact ⟨rfl, HBWH.out⟩
end Go.Proofs.Ytfcdaelbbcfgjaa.LawD
