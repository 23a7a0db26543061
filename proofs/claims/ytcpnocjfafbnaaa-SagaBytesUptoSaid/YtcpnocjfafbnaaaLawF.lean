/- SagaBytes, walked: a saga's bytes are those that the document has, and any bytes are read as it has it. No statement is proved here. -/
import Derived.Test.YtcpnocjfafbnaaaPwr
import Derived.Test.YtcpnocjfafbnaaaRby
import Derived.Test.YtcpnocjfafbnaaaSrr
import Derived.Test.YtcpnocjfafbnaaaWalkS
import Derived.Test.YtcpnocjfafbnaaaLit
import Derived.Test.YtcpnocjfafbnaaaBegun
import Derived.Test.YtcpnocjfafbnaaaOpn
import Derived.Deep.RegionHeld3
set_option linter.unusedVariables false
set_option linter.unusedSimpArgs false
namespace Go.Proofs.Ytcpnocjfafbnaaa.LawF
open Go.RowKit Go.Proofs.Ytcpnocjfafbnaaa.Kit Go.Proofs.Ytcpnocjfafbnaaa.Rdr Go.Proofs.Ytcpnocjfafbnaaa.Stq Go.Proofs.Ytcpnocjfafbnaaa.Pln Go.Proofs.Ytcpnocjfafbnaaa.Sag Go.Proofs.Ytcpnocjfafbnaaa.SagAt Go.Proofs.Ytcpnocjfafbnaaa.Sgb Go.Proofs.Ytcpnocjfafbnaaa.Wtr Go.Proofs.Ytcpnocjfafbnaaa.Wrq Go.Proofs.Ytcpnocjfafbnaaa.Srd Go.Proofs.Ytcpnocjfafbnaaa.Begun Go.Proofs.Ytcpnocjfafbnaaa.Lit
open Go.Proofs.Ytcpnocjfafbnaaa.State (WV Only cell_at free_at lt_at)
open Go.Proofs.Ytcpnocjfafbnaaa.PckWalkH (str str_size)

theorem small {H : Type} {d0 d1 : DataW H} {s : Sg} {t : ByteArray} (h0 : s.l.length + nms s.l + 1 ≤ Rows.uptoBulk d0) (h1 : t.size ≤ Rows.uptoBulk d1) (h : Rows.uptoBulkAll [d0, d1] ≤ 1048576) : s.l.length + nms s.l ≤ 1048576 ∧ t.size ≤ 1048576 := by
  simp only [Rows.uptoBulkAll] at h
  omega
/-- What both readings say of one text. -/
structure Say (x : ByteArray) (l' : List Sp) (st' cu' fa' : Int) (yes : Bool) (ps : Nat) (bd : Bool) : Prop where
  res : rRes (q0 x) = ⟨l', st', cu', fa'⟩
  yes : rYes (q0 x) = yes
  ps : (r3 (q0 x)).s.size = ps
  bd : (r3 (q0 x)).bad = bd
theorem say (x : ByteArray) : ∃ l' st' cu' fa' yes ps bd, Hid (Say x l' st' cu' fa' yes ps bd) := ⟨_, _, _, _, _, _, _, ⟨rfl, rfl, rfl, rfl⟩⟩
theorem srd_lit {w0 W : World} {q : Nat} {x : ByteArray} {l' : List Sp} {st' cu' fa' : Int} {yes : Bool} {ps : Nat} {bd : Bool} (hS : Say x l' st' cu' fa' yes ps bd) (h : Rp w0 W q (q0 x)) (hs : x.size ≤ 281474976710656) :
    Calls Try.prog 25 #[.pointer (some ⟨q, 0, none⟩)] W fun e W' => Rp w0 W' q (r3 (q0 x)) ∧ Only (· = q) W W' ∧ ∃ A c, e = .returned (.tuple #[.agg #[.slice A l'.length c, .int .i64 st', .int .i64 cu', .int .i64 fa'], .bool yes]) ∧ At W' A l' :=
  (sread_any h hs).mono fun e W' k => by
    obtain ⟨k1, k2, A, c, k3, k4⟩ := k
    rw [hS.res] at k3 k4
    rw [hS.yes] at k3
    exact ⟨k1, k2, A, c, k3, k4⟩
theorem srr_lit {w0 W : World} {q : Nat} {x : ByteArray} {l' : List Sp} {st' cu' fa' : Int} {yes : Bool} {ps : Nat} {bd : Bool} (hS : Say x l' st' cu' fa' yes ps bd) (h : Rm w0 W q (q0 x)) (hs : x.size ≤ 281474976710656) :
    Calls Try.prog 26 #[.pointer (some ⟨q, 0, none⟩)] W fun e W' => Rm w0 W' q (r3 (q0 x)) ∧ Only (· = q) W W' ∧ ∃ A c, e = .returned (.tuple #[.agg #[.slice A l'.length c, .int .i64 st', .int .i64 cu', .int .i64 fa'], .bool yes]) ∧ At W' A l' :=
  (Srr.srread_any WalkS.rsnd h hs).mono fun e W' k => by
    obtain ⟨k1, k2, A, c, k3, k4⟩ := k
    rw [hS.res] at k3 k4
    rw [hS.yes] at k3
    exact ⟨k1, k2, A, c, k3, k4⟩
/-- Steps that came with a call stay where only a reader made later is written. -/
theorem at_off {W W' : World} {q B : Nat} {A : Option Addr} {l : List Sp} (h : At W A l) (hB : 0 < l.length → ∀ ad, A = some ad → ad.block < B) (k : Only (· = q) W W') (hq : B ≤ q) : At W' A l :=
  h.only k fun hn ad e e2 => by have := hB hn ad e; omega
theorem rds_keep {T : TypeId} {w0 W W' : World} {q q' : Nat} {r : Rd} (h : Rds T w0 W q r) (k : Only (· = q') W W') (hn : q ≠ q') (hl : w0.heap.size ≤ q') : Rds T w0 W' q r :=
  ⟨h.at_.keep k hn, h.low, h.bel.trans (k.below h.bel.size fun j hj => by rw [hj]; exact hl)⟩
/-- Steps do not lie where a reader lies: a reader has two cells, a step three. -/
theorem at_off2 {W : World} {A : Option Addr} {l : List Sp} {T : TypeId} {q : Nat} {s : ByteArray} {b : Bool} (h : At W A l) (k : State.RV T W q s b) : 0 < l.length → ∀ ad, A = some ad → ad.block ≠ q := by
  intro hn ad e e2
  obtain ⟨bk, o, ev, e3, hbl, hev, h3⟩ := RS.at_ h.rs (k := 0) hn
  rw [e] at e3
  cases e3
  simp only at e2
  subst e2
  have c2 := h3.c2
  rw [cell_at k] at c2
  simp at c2
theorem bytes_q {w0 W : World} {q : Nat} {u0 : Option Nat} {l : List UInt8} {s : ByteArray} {u : Value} (h : WV W q u l) (he : Hid (str l = s)) :
    Calls Try.prog 22 #[.pointer (some ⟨q, 0, none⟩)] W fun e W' => e = .returned (.string s) ∧ W' = W :=
  (PckWalkB.bytes_any q u l W h).mono fun e W' k => ⟨by rw [k.1, ← he.out]; rfl, k.2.symm⟩
set_option maxRecDepth 100000 in
set_option maxHeartbeats 16000000 in
theorem bytes_walk (A : Option Addr) (c : Nat) (s : Sg) (t : ByteArray) (w : World) (h : Opens.CameS w A s.l.length c s.l) (hk : s.l.length + nms s.l ≤ 1048576 ∧ t.size ≤ 1048576) :
    Calls Try.prog 6 #[sgV A c s, .string t] w fun e w' => e = .returned (.bool true) ∧ Below w.heap.size w w' := by
  have hbo : ∀ (W : World) o, Below W.heap.size W (W.alloc o) := fun W o => (Below.refl _ _).alloc (Nat.le_refl _) o
  have hat : At w A s.l := Opn.came_at h (by omega)
  have hAb : 0 < s.l.length → ∀ ad, A = some ad → ad.block < w.heap.size := fun hn ad e => by
    obtain ⟨ad', e', hb, _⟩ := hat.rs.2 hn
    rw [e] at e'
    cases e'
    exact hb
  obtain ⟨sB, hsB⟩ : ∃ x, sgB s = x := ⟨_, rfl⟩
  obtain ⟨SB, hSB⟩ : ∃ x, str sB = x := ⟨_, rfl⟩
  have hgo := fun hs => sag_go (s := s) hs []
  rw [List.append_nil, hsB, hSB] at hgo
  have hsize : SB.size ≤ 281474976710656 := by
    rw [← hSB, str_size, ← hsB]
    unfold sgB planB
    simp only [List.length_append]
    have := spsB_le s.l (by omega)
    have := num9 (x := s.l.length) (by omega)
    have := num9 (u64_lt s.st)
    have := num9 (u64_lt s.cu)
    have := num9 (u64_lt s.fa)
    omega
  obtain ⟨SD, hSD⟩ : ∃ x, sound s = x := ⟨_, rfl⟩
  obtain ⟨l, st, cu, fa⟩ := s
  unfold sgV
  simp only at hat hAb hk ⊢
  obtain ⟨hk1, hk2⟩ := hk
  have hb0 := hbo w (.cells #[.slice A l.length c, .int .i64 st, .int .i64 cu, .int .i64 fa] 24)
  have hX0 := Box4.new w (.slice A l.length c) (.int .i64 st) (.int .i64 cu) (.int .i64 fa)
  have hat0 := hat.below hb0
  obtain ⟨w0, hw0⟩ : ∃ w0, w.alloc (.cells #[.slice A l.length c, .int .i64 st, .int .i64 cu, .int .i64 fa] 24) = w0 := ⟨_, rfl⟩
  obtain ⟨X, hX⟩ : ∃ X, w.heap.size = X := ⟨_, rfl⟩
  rw [hw0] at hb0 hX0 hat0
  rw [hX] at hX0
  have HB0 := Lib.hid hb0
  have HX0 := Lib.hid hX0
  have HA0 := Lib.hid hat0
  have HW0 := Lib.hid hw0
  have HAB := Lib.hid hAb
  have HSB := Lib.hid hSB
  have HSS : Hid (sgB ⟨l, st, cu, fa⟩ = sB) := hsB
  have HGO := Lib.hid hgo
  have HSD := Lib.hid hSD
  clear h hat hAb hgo hsB hSB hSD hb0 hX0 hat0 hw0
  go_enter Try.func6, Try.ntmps6
  go_wp2_with fail
  rw [HW0.out]
  go_wp2_with fail
  with_reducible refine (begun_true _).mono ?_
  rintro e w1 ⟨rfl, hb1⟩
  have HB1 := Lib.hid (HB0.out.trans (hb1.mono HB0.out.size))
  have HX1 := Lib.hid (HX0.out.below hb1)
  have HA1 := Lib.hid (HA0.out.below hb1)
  have x0 := HX1.out.c0
  have xlt := HX1.out.lt
  clear hb1 HB0 HX0 HA0 HW0
  by_cases h500 : 500 < l.length
  · have h5I : (500 : Int) < (l.length : Int) := by omega
    go_wp2
    go_ret
    exact ⟨rfl, HB1.out⟩
  have h5I : ¬ (500 : Int) < (l.length : Int) := by omega
  have ha := hbo w1 (.cells #[.slice none 0 0] 49)
  have hn1 := heap_alloc_new w1 (.cells #[.slice none 0 0] 49)
  have hB2 := HB1.out.trans (ha.mono HB1.out.size)
  have hX2 := HX1.out.below ha
  have hA2 := HA1.out.below ha
  have hnil : ∀ g, (Value.slice none 0 0).ownBlock ≠ some g := fun g => by simp [Value.ownBlock]
  have hqX : X < w1.heap.size := xlt
  have hwq : w.heap.size ≤ w1.heap.size := HB1.out.size
  obtain ⟨w2, hw2⟩ : ∃ w2, w1.alloc (.cells #[.slice none 0 0] 49) = w2 := ⟨_, rfl⟩
  obtain ⟨q, hq⟩ : ∃ q, w1.heap.size = q := ⟨_, rfl⟩
  rw [hw2] at hn1 hB2 hX2 hA2
  rw [hq] at hn1 hqX hwq
  have hW2 : WV w2 q (.slice none 0 0) [] := ⟨hn1, World.ownsRow_nil _ _ _ _⟩
  have HWR := Lib.hid (Pwr.swrite_any (s := ⟨l, st, cu, fa⟩) (c := c) (l0 := []) (l' := sB) hW2 hA2 (fun hn ad e => ⟨by have := HAB.out hn ad e; omega, hnil _⟩) (by show 0 + nms l + l.length * 27 ≤ _; omega) (by rw [List.nil_append]; exact HSS))
  simp only at HWR
  have hlt2 : q < w2.heap.size := lt_at hn1
  have HB2 := Lib.hid hB2
  have HX2 := Lib.hid hX2
  have HA2 := Lib.hid hA2
  have HW2 := Lib.hid hw2
  have y0 := HX1.out.c1
  have y1 := HX1.out.c2
  have y2 := HX1.out.c3
  clear ha hn1 hB2 hX2 hA2 hw2 hW2 HB1 HX1 HA1
  go_wp2_with fail
  rw [HW2.out]
  with_reducible refine HWR.out.mono ?_
  rintro e w3 ⟨rfl, hQ⟩
  have hO3 := hQ.only
  have hB3 : Below w.heap.size w w3 := HB2.out.trans (hO3.below HB2.out.size fun g hg => by
    rcases hg with rfl | e
    · exact hwq
    · exact absurd e (hnil g))
  have hX3 := HX2.out.keep hO3 (fun e => e.elim (by omega) (fun e => hnil _ e))
  have hA3 : At w3 A l := HA2.out.only hO3 fun hn ad e e2 => by
    have := HAB.out hn ad e
    rcases e2 with e2 | e2
    · omega
    · exact hnil _ e2
  obtain ⟨u3, hu3, _⟩ := hQ.ex
  have HX3 := Lib.hid hX3
  have HA3 := Lib.hid hA3
  have HB3 := Lib.hid hB3
  have HU3 := Lib.hid hu3
  have hAd := hA3.below ((Below.refl _ _).drew)
  have HBY := Lib.hid (Rby.sbytes_any (s := ⟨l, st, cu, fa⟩) (c := c) (S := SB) hAd (by show nms l + l.length * 27 ≤ _; omega) (by have := HSB.out; rw [← HSS.out] at this; exact this))
  simp only at HBY
  have hud := hu3.below ((Below.refl _ _).drew)
  have HUD := Lib.hid hud
  have X4 : Hid (∀ W, Below w3.heap.size w3 W → W.cell? ⟨X, 0, none⟩ = some (.slice A l.length c) ∧ W.cell? ⟨X, 1, none⟩ = some (.int .i64 st) ∧ W.cell? ⟨X, 2, none⟩ = some (.int .i64 cu) ∧ W.cell? ⟨X, 3, none⟩ = some (.int .i64 fa)) := fun W k => ⟨(hX3.below k).c0, (hX3.below k).c1, (hX3.below k).c2, (hX3.below k).c3⟩
  have HD3 := Lib.hid ((Below.refl w3.heap.size w3).drew)
  clear hQ hO3 hB3 hX3 hA3 hu3 hAd hud HWR HB2 HX2 HA2 HW2 y0 y1 y2 x0 xlt
  go_wp2_with fail
  go_region_held3 (fun W => W.cell? ⟨X, 0, none⟩ = some (.slice A l.length c) ∧ W.cell? ⟨X, 1, none⟩ = some (.int .i64 st) ∧ W.cell? ⟨X, 2, none⟩ = some (.int .i64 cu) ∧ W.cell? ⟨X, 3, none⟩ = some (.int .i64 fa))
    (first
      | exact X4.out _ HD3.out
      | exact X4.out _ hB)
    (first
      | (go_at_call 22
         (with_reducible refine (bytes_q (w0 := w3) (u0 := none) HUD.out HSB).mono ?_)
         rintro e wA ⟨rfl, rfl⟩)
      | (go_at_call 23
         (with_reducible refine HBY.out.mono ?_)
         rintro e wB ⟨rfl, hx⟩
         have hB := HD3.out.trans hx))
  have HB4 := Lib.hid hB
  clear hB
  have hu4 := HU3.out.below HB4.out
  have HU4 := Lib.hid hu4
  clear hu4
  go_wp2_with fail
  with_reducible refine (bytes_q (w0 := w3) (u0 := none) HU4.out HSB).mono ?_
  rintro e w5 ⟨rfl, rfl⟩
  have hB5 := HB3.out.trans (HB4.out.mono HB3.out.size)
  have ha := hbo w5 (.cells #[.string t, .string SB] 9)
  have hn6 := heap_alloc_new w5 (.cells #[.string t, .string SB] 9)
  have hB6 := hB5.trans (ha.mono hB5.size)
  have hb46 := HB4.out.trans (ha.mono HB4.out.size)
  obtain ⟨w6, hw6⟩ : ∃ w6, w5.alloc (.cells #[.string t, .string SB] 9) = w6 := ⟨_, rfl⟩
  obtain ⟨Y, hY⟩ : ∃ Y, w5.heap.size = Y := ⟨_, rfl⟩
  rw [hw6] at hn6 hB6 hb46
  rw [hY] at hn6
  have HW6 := Lib.hid hw6
  have HY := Lib.hid hY
  have HB6 := Lib.hid hB6
  have HB46 := Lib.hid hb46
  have ylt := lt_at hn6
  have hts : t.size ≤ 281474976710656 := by omega
  have HC6 : Hid (∀ wr, Below w6.heap.size w6 wr → ∀ j, j < 2 → ∃ x : ByteArray, wr.cell? ⟨Y, j, none⟩ = some (.string x) ∧ x.size ≤ 281474976710656) := by
    intro wr k j hj
    have e0 : ∀ j, wr.cell? ⟨Y, j, none⟩ = w6.cell? ⟨Y, j, none⟩ := fun j => k.cell (p := ⟨Y, j, none⟩) ylt
    obtain rfl | rfl : j = 0 ∨ j = 1 := by omega
    · exact ⟨t, by rw [e0, cell_at hn6]; rfl, hts⟩
    · exact ⟨SB, by rw [e0, cell_at hn6]; rfl, hsize⟩
  clear ha hn6 hB5 hB6 hb46 hw6 hY
  go_wp2_with fail
  rw [HW6.out, HY.out]
  go_loopw [39] (fun x wr => ∃ j : Nat, x = .int .i64 (j : Int) ∧ j ≤ 2 ∧ Below w6.heap.size w6 wr) (fun x _ => 2 - (intOf x).toNat)
  case atStart => exact ⟨0, rfl, by omega, Below.refl _ _⟩
  case round =>
    obtain ⟨j, rfl, hj2, hbr⟩ := hrel
    by_cases hj : j < 2
    · obtain ⟨x, hcx, hxs⟩ := HC6.out _ hbr j hj
      obtain ⟨l', st', cu', fa', yes, ps, bd, HS⟩ := say x
      have HBR := Lib.hid hbr
      have hyr := Nat.lt_of_lt_of_le ylt hbr.size
      clear hbr
      obtain ⟨S, hS⟩ : ∃ S, (r3 (q0 x)).s = S := ⟨_, rfl⟩
      obtain rfl : S.size = ps := by rw [← hS]; exact HS.out.ps
      have HSZ : Hid ((r3 (q0 x)).s.size = S.size) := Lib.hid (by rw [hS])
      have HSB : Hid ((!(r3 (q0 x)).bad) = !bd) := Lib.hid (by rw [HS.out.bd])
      have HSS2 : Hid ((r3 (q0 x)).s = S) := hS
      clear hS
      obtain rfl | rfl : j = 0 ∨ j = 1 := by omega
      all_goals
        go_wp2_with fail
        with_reducible refine (from_rp x _).mono ?_
        rintro e wA ⟨r, rfl, hP⟩
        have hbo1 := hbo wA (.cells #[.string x, .bool false] 58)
        have hM1 : Rm _ (wA.alloc (.cells #[.string x, .bool false] 58)) wA.heap.size (q0 x) := ⟨heap_alloc_new wA _, hP.bel.size, hP.bel.trans (hbo1.mono hP.bel.size)⟩
        have hP1 := hP.below hbo1
        have hr2 : r < wA.heap.size := hP.lt
        obtain ⟨wB, hwB⟩ : ∃ wB, wA.alloc (.cells #[.string x, .bool false] 58) = wB := ⟨_, rfl⟩
        obtain ⟨q2, hq2⟩ : ∃ q2, wA.heap.size = q2 := ⟨_, rfl⟩
        rw [hwB] at hM1 hP1 hbo1
        rw [hq2] at hM1 hr2
        have HWB := Lib.hid hwB
        have HQ2 := Lib.hid hq2
        clear hP hwB hq2
        go_wp2_with fail
        rw [HWB.out, HQ2.out]
        with_reducible refine (srd_lit HS.out hP1 hxs).mono ?_
        rintro e wC ⟨hP2, ho2, A1, c1, rfl, ha1⟩
        have hM2 := rds_keep hM1 ho2 (by omega) hP1.low
        have hq2C : q2 < wC.heap.size := hM2.lt
        have hboC := hbo wC (.cells #[.slice A1 l'.length c1, .int .i64 st', .int .i64 cu', .int .i64 fa'] 24)
        have hX1 := Box4.new wC (.slice A1 l'.length c1) (.int .i64 st') (.int .i64 cu') (.int .i64 fa')
        obtain ⟨wD, hwD⟩ : ∃ wD, wC.alloc (.cells #[.slice A1 l'.length c1, .int .i64 st', .int .i64 cu', .int .i64 fa'] 24) = wD := ⟨_, rfl⟩
        obtain ⟨z1, hz1⟩ : ∃ z1, wC.heap.size = z1 := ⟨_, rfl⟩
        rw [hwD] at hboC hX1
        rw [hz1] at hX1
        have hP3 := hP2.below hboC
        have hM3 := hM2.below hboC
        have ha3 := ha1.below hboC
        have HWD := Lib.hid hwD
        have HZ1 := Lib.hid hz1
        have ha1b : 0 < l'.length → ∀ ad, A1 = some ad → ad.block ≠ q2 := by
          exact at_off2 ha3 hM3.at_
        clear hP1 hM1 hP2 hM2 ha1 hwD
        go_wp2_with fail
        rw [HWD.out]
        with_reducible refine (srr_lit HS.out hM3 hxs).mono ?_
        rintro e wE ⟨hM4, ho4, A2, c2, rfl, ha4⟩
        have hP4 := rds_keep hP3 ho4 (by omega) hM3.low
        have hX3 := hX1.keep ho4 (by omega)
        have ha3' := ha3.only ho4 fun hn ad e e2 => by
          have := ha1b hn ad e
          omega
        have hboE := hbo wE (.cells #[.slice A2 l'.length c2, .int .i64 st', .int .i64 cu', .int .i64 fa'] 24)
        have hY1 := Box4.new wE (.slice A2 l'.length c2) (.int .i64 st') (.int .i64 cu') (.int .i64 fa')
        have hzE : z1 < wE.heap.size := hX3.lt
        have hqE : q2 < wE.heap.size := hM4.lt
        obtain ⟨wF, hwF⟩ : ∃ wF, wE.alloc (.cells #[.slice A2 l'.length c2, .int .i64 st', .int .i64 cu', .int .i64 fa'] 24) = wF := ⟨_, rfl⟩
        obtain ⟨z2, hz2⟩ : ∃ z2, wE.heap.size = z2 := ⟨_, rfl⟩
        rw [hwF] at hboE hY1
        rw [hz2] at hY1
        have hP5 := hP4.below hboE
        have hM5 := hM4.below hboE
        have ha5 := ha3'.below hboE
        have hb5 := ha4.below hboE
        have hX5 := hX3.below hboE
        have HWF := Lib.hid hwF
        clear hP3 hM3 ha3 hX1 hX3 hP4 hM4 ha3' ha4 hwF
        go_wp2_with fail
        rw [HWF.out]
        with_reducible refine (rp_left hP5 HSZ HSB).mono ?_
        rintro e wG ⟨rfl, hP6, ho6⟩
        have hM6 := rds_keep hM5 ho6 (by omega) hP5.low
        have hX6 := hX5.keep ho6 (by omega)
        have hY6 := hY1.keep ho6 (by omega)
        have ha6 := ha5.only ho6 fun hn ad e e2 => at_off2 ha5 hP5.at_ hn ad e e2
        have hb6 := hb5.only ho6 fun hn ad e e2 => at_off2 hb5 hP5.at_ hn ad e e2
        have x0 := hX6.c0
        have x1 := hX6.c1
        have x2 := hX6.c2
        have x3 := hX6.c3
        have xlt := hX6.lt
        have y0 := hY6.c0
        have y1 := hY6.c1
        have y2 := hY6.c2
        have y3 := hY6.c3
        have zlt := hY6.lt
        have hB6 := HBR.out.trans (hP6.bel.mono HBR.out.size)
        have hm0 := hM6.at_.left
        rw [HSS2.out] at hm0
        have hmlt := hM6.lt
        clear hP5 hM5 ha5 hb5 hX5 hY1 hX6 hY6 hboE hboC hbo1 ho2 ho4 ho6
        go_wp2_with fail
        with_reducible refine (rsame_lit (b := true) c1 c2 ha6 hb6 (by simp)).mono ?_
        rintro e wH ⟨rfl, hbH⟩
        have hmH := (hbH.cell (p := ⟨q2, 0, none⟩) hmlt).trans hm0
        have hmHlt := Nat.lt_of_lt_of_le hmlt hbH.size
        have hBH := Lib.hid (hB6.trans (hbH.mono hB6.size))
        clear hm0 hbH ha6 hb6 hM6
        go_wp2
        go_roundw
        case rel => first | exact ⟨1, rfl, by omega, hBH.out⟩ | exact ⟨2, rfl, by omega, hBH.out⟩
        case measure => simp [intOf]
    · obtain rfl : j = 2 := by omega
      clear hj hj2
      have hu := (HU3.out.below HB46.out).below hbr
      have hb3 := HB46.out.trans (hbr.mono HB46.out.size)
      have HU := Lib.hid hu
      have HB3R := Lib.hid hb3
      have HBR := Lib.hid (HB6.out.trans (hbr.mono HB6.out.size))
      clear hu hb3 hbr HC6
      cases SD with
      | false =>
        obtain ⟨l', st', cu', fa', yes, ps, bd, HS⟩ := say SB
        go_wp2_with fail
        with_reducible refine (bytes_q (w0 := w3) (u0 := none) HU.out HSB).mono ?_
        rintro e wA ⟨rfl, rfl⟩
        go_wp2_with fail
        with_reducible refine (from_rp SB _).mono ?_
        rintro e wB ⟨r, rfl, hP⟩
        go_wp2_with fail
        with_reducible refine (srd_lit HS.out hP hsize).mono ?_
        rintro e wC ⟨hP2, ho2, A1, c1, rfl, ha1⟩
        have hboC := hbo wC (.cells #[.slice A1 l'.length c1, .int .i64 st', .int .i64 cu', .int .i64 fa'] 24)
        have hX1 := Box4.new wC (.slice A1 l'.length c1) (.int .i64 st') (.int .i64 cu') (.int .i64 fa')
        obtain ⟨wD, hwD⟩ : ∃ wD, wC.alloc (.cells #[.slice A1 l'.length c1, .int .i64 st', .int .i64 cu', .int .i64 fa'] 24) = wD := ⟨_, rfl⟩
        obtain ⟨z1, hz1⟩ : ∃ z1, wC.heap.size = z1 := ⟨_, rfl⟩
        rw [hwD] at hboC hX1
        rw [hz1] at hX1
        have hP3 := hP2.below hboC
        have ha3 := ha1.below hboC
        have HWD := Lib.hid hwD
        have hk := HB3R.out.trans (hP3.bel.mono HB3R.out.size)
        obtain ⟨x0, x1, x2, x3⟩ := X4.out _ hk
        have hAs := HA3.out.below hk
        clear hP hP2 ha1 hwD hboC ho2
        go_upto_region 21 with fail
        rw [HWD.out]
        go_wp2_with fail
        with_reducible refine (sound_lit c hAs HSD).mono ?_
        rintro e wE ⟨rfl, hbE⟩
        have hBE := Lib.hid (HBR.out.trans ((hP3.bel.trans (hbE.mono hP3.bel.size)).mono HBR.out.size))
        go_wp2
        go_ret
        exact ⟨rfl, hBE.out⟩
      | true =>
        obtain ⟨hg1, hg3⟩ := HGO.out (sound_yes HSD.out)
        have hyes : rYes (q0 SB) = true := by
          show (!(r3 ⟨SB, false⟩).bad && sound (rSag ⟨SB, false⟩)) = true
          rw [hg3, hg1, HSD.out]
          rfl
        have HS : Hid (Say SB l st cu fa true (str []).size false) := ⟨by unfold rRes; rw [if_pos hyes]; exact hg1, hyes, congrArg (fun r : Rd => r.s.size) hg3, congrArg Rd.bad hg3⟩
        have HDN : Hid ((r3 (q0 SB)).done = true) := by
          show (r3 ⟨SB, false⟩).done = true
          rw [hg3]
          rfl
        clear hg1 hg3 hyes
        go_wp2_with fail
        with_reducible refine (bytes_q (w0 := w3) (u0 := none) HU.out HSB).mono ?_
        rintro e wA ⟨rfl, rfl⟩
        go_wp2_with fail
        with_reducible refine (from_rp SB _).mono ?_
        rintro e wB ⟨r, rfl, hP⟩
        go_wp2_with fail
        with_reducible refine (srd_lit HS.out hP hsize).mono ?_
        rintro e wC ⟨hP2, ho2, A1, c1, rfl, ha1⟩
        have hboC := hbo wC (.cells #[.slice A1 l.length c1, .int .i64 st, .int .i64 cu, .int .i64 fa] 24)
        have hX1 := Box4.new wC (.slice A1 l.length c1) (.int .i64 st) (.int .i64 cu) (.int .i64 fa)
        obtain ⟨wD, hwD⟩ : ∃ wD, wC.alloc (.cells #[.slice A1 l.length c1, .int .i64 st, .int .i64 cu, .int .i64 fa] 24) = wD := ⟨_, rfl⟩
        obtain ⟨z1, hz1⟩ : ∃ z1, wC.heap.size = z1 := ⟨_, rfl⟩
        rw [hwD] at hboC hX1
        rw [hz1] at hX1
        have hP3 := hP2.below hboC
        have ha3 := ha1.below hboC
        have HWD := Lib.hid hwD
        have hk := HB3R.out.trans (hP3.bel.mono HB3R.out.size)
        obtain ⟨x0, x1, x2, x3⟩ := X4.out _ hk
        have hAs := HA3.out.below hk
        clear hP hP2 ha1 hwD hboC ho2
        go_upto_region 21 with fail
        rw [HWD.out]
        go_wp2_with fail
        with_reducible refine (sound_lit c hAs HSD).mono ?_
        rintro e wE ⟨rfl, hbE⟩
        have hBE := Lib.hid (HBR.out.trans ((hP3.bel.trans (hbE.mono hP3.bel.size)).mono HBR.out.size))
        have hx1 := hX1.below hbE
        have hP4 := hP3.below hbE
        have ha4 := ha3.below hbE
        have hk4 := hk.trans (hbE.mono hk.size)
        clear x0 x1 x2 x3
        obtain ⟨x0, x1, x2, x3⟩ := X4.out _ hk4
        have y0 := hx1.c0
        have y1 := hx1.c1
        have y2 := hx1.c2
        have y3 := hx1.c3
        have hAs4 := HA3.out.below hk4
        clear hX1 hP3 ha3 hk hbE hAs
        go_wp2_with fail
        with_reducible refine (rsame_lit (b := true) c c1 hAs4 ha4 (by simp)).mono ?_
        rintro e wF ⟨rfl, hbF⟩
        have hP5 := hP4.below hbF
        clear x0 x1 x2 x3 y0 y1 y2 y3 hx1 ha4 hAs4 hbF hP4
        go_wp2_with fail
        with_reducible refine (rp_done hP5 HDN).mono ?_
        rintro e wG ⟨rfl, hP6, _⟩
        have hBG := HBR.out.trans (hP6.bel.mono HBR.out.size)
        go_wp2
        go_ret
        exact ⟨rfl, hBG⟩
end Go.Proofs.Ytcpnocjfafbnaaa.LawF
