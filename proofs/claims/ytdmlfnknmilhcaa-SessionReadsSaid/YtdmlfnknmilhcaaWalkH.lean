/- What Write lays, walked. No statement is proved here. -/
import Derived.Test.YtdmlfnknmilhcaaSesB
import Derived.Test.YtdmlfnknmilhcaaWalkA
import Derived.BigRegion
import Derived.BigQuiet
import Derived.Deep.QuietTactic
set_option linter.unusedVariables false
set_option linter.unusedSimpArgs false
namespace Go.Proofs.Ytdmlfnknmilhcaa.WalkH
open Go.RowKit Go.Proofs.Ytdmlfnknmilhcaa.Kit Go.Proofs.Ytdmlfnknmilhcaa.Rdr Go.Proofs.Ytdmlfnknmilhcaa.Ses Go.Proofs.Ytdmlfnknmilhcaa.Rws Go.Proofs.Ytdmlfnknmilhcaa.SesB Go.Proofs.Ytdmlfnknmilhcaa.WalkA
open Go.Proofs.Ytdmlfnknmilhcaa.Num (num)
open Go.Proofs.Ytdmlfnknmilhcaa.State (WV)

set_option maxRecDepth 100000 in
set_option maxHeartbeats 4000000 in
theorem write_any {B p q : Nat} {w0 : World} {v u : Value} {m : Tb} {l0 l' : List UInt8} (h : PT B w0 p v m) (hw : WV w0 q u l0) (hdis : ∀ g, Mine p v g → g ≠ q ∧ u.ownBlock ≠ some g)
    (hU : U m.now ∧ U m.next) (hf : ∀ r ∈ m.rows, Fine r) (h16 : m.rows.length ≤ 16) (hb : l0.length ≤ 1000000) (hl : Hid (l0 ++ tbB m = l')) :
    Calls Try.prog 13 #[.pointer (some ⟨p, 0, none⟩), .pointer (some ⟨q, 0, none⟩)] w0 fun e W' => e = .returned (.tuple #[]) ∧ Wrq w0 W' q u.ownBlock l' := by
  have c0 := h.c0
  have c1 := h.c1
  have c2 := h.c2
  have hp := h.plt
  obtain ⟨hpq, hpu⟩ := hdis p (.inl rfl)
  obtain ⟨A, c, hv, hnc, hcm, hr⟩ := h.form
  obtain ⟨n, hn⟩ : ∃ n, m.rows.length = n := ⟨_, rfl⟩
  obtain ⟨L, hL⟩ : ∃ L, m.rows = L := ⟨_, rfl⟩
  rw [hn] at hv hnc hr h16
  rw [hL] at hr hf
  rw [hv] at c2
  obtain ⟨NW, hNW⟩ : ∃ x, m.now = x := ⟨_, rfl⟩
  obtain ⟨NX, hNX⟩ : ∃ x, m.next = x := ⟨_, rfl⟩
  rw [hNW] at c0 hU
  rw [hNX] at c1 hU
  obtain ⟨hU1, hU2⟩ := hU
  have hU3 : n < 18446744073709551616 := by omega
  have z0 := wrap_u n hU3
  obtain ⟨a1, x1⟩ : ∃ a, l0 ++ num NW = a := ⟨_, rfl⟩
  obtain ⟨a2, x2⟩ : ∃ a, a1 ++ num NX = a := ⟨_, rfl⟩
  obtain ⟨a3, x3⟩ : ∃ a, a2 ++ num n = a := ⟨_, rfl⟩
  have q1 : a1.length ≤ l0.length + 9 := by rw [← x1, List.length_append]; have := num9 hU1; omega
  have q2 : a2.length ≤ l0.length + 18 := by rw [← x2, List.length_append]; have := num9 hU2; omega
  have q3 : a3.length ≤ l0.length + 27 := by rw [← x3, List.length_append]; have := num9 hU3; omega
  have HALL : Hid (a3 ++ rwsB L = l') := by
    have e : a3 ++ rwsB L = l' := by rw [← hl.out, ← x3, ← x2, ← x1]; unfold tbB; rw [hn, hL, hNW, hNX]; simp [List.append_assoc]
    exact e
  have HLEN : Hid (L.length = n) := by rw [← hL]; exact hn
  have HR := Lib.hid hr
  have HF := Lib.hid hf
  have X1 := Lib.hid x1
  have X2 := Lib.hid x2
  have X3 := Lib.hid x3
  have hW0 := (Wrq.new hw).drew
  have t0 := hW0.cell c0 hp hpq hpu
  have t1 := hW0.cell c1 hp hpq hpu
  have t2 := hW0.cell c2 hp hpq hpu
  have r0 : l0.length ≤ 140737488355000 := by omega
  have r1 : a1.length ≤ 140737488355000 := by omega
  have r2 : a2.length ≤ 140737488355000 := by omega
  have hgr : ∀ g, v.ownBlock = some g → g ≠ q ∧ u.ownBlock ≠ some g := fun g hg => hdis g (.inr hg)
  have HG : Hid (∀ b o, A = some ⟨b, o, none⟩ → 0 < n → b ≠ q ∧ u.ownBlock ≠ some b) := fun b o e h0 => by
    rcases h.own.2 with ⟨e1, h1⟩ | ⟨g, cap, cur, e1, _⟩
    · omega
    · have hA : A = some ⟨g, 0, none⟩ := by rw [hv] at e1; injection e1
      rw [e] at hA
      cases hA
      exact hgr b (by rw [e1]; rfl)
  clear h hw hdis hL hNW hNX x1 x2 x3 hr hf hl hgr hv hn
  go_enter Try.func13, Try.ntmps13
  go_wp2_with fail
  go_region_held3 (fun w' => w'.cell? ⟨p, 0, none⟩ = some (.int .u64 (NW : Int)) ∧ w'.cell? ⟨p, 1, none⟩ = some (.int .u64 (NX : Int)) ∧ w'.cell? ⟨p, 2, none⟩ = some (.slice A n c))
    (first
      | exact ⟨t0, t1, t2⟩
      | exact ⟨hWC.cell c0 hp hpq hpu, hWC.cell c1 hp hpq hpu, hWC.cell c2 hp hpq hpu⟩
      | exact ⟨hWB.cell c0 hp hpq hpu, hWB.cell c1 hp hpq hpu, hWB.cell c2 hp hpq hpu⟩
      | exact ⟨hWA.cell c0 hp hpq hpu, hWA.cell c1 hp hpq hpu, hWA.cell c2 hp hpq hpu⟩)
    (first
      | (go_at_call 29
         (with_reducible refine (wrq_num NW hW0 hU1 r0 X1).mono ?_)
         rintro e wA ⟨rfl, hWA⟩)
      | (go_at_call 29
         (with_reducible refine (wrq_num NX hWA hU2 r1 X2).mono ?_)
         rintro e wB ⟨rfl, hWB⟩)
      | (go_at_call 29
         (with_reducible refine (wrq_num n hWB hU3 r2 X3).mono ?_)
         rintro e wC ⟨rfl, hWC⟩))
  have s2 := hWC.cell c2 hp hpq hpu
  have s3 : p < wC.heap.size := Nat.lt_of_lt_of_le hp hWC.only.size
  have HWC := Lib.hid hWC
  have HWS : Hid (Wrq w0 wC q u.ownBlock (a3 ++ rwsB (L.take 0))) := by
    have e : a3 ++ rwsB (L.take 0) = a3 := by simp [rwsB]
    rw [e]
    exact hWC
  clear hWC hWB hWA hW0 t0 t1 t2 c0 c1 c2
  go_wp2
  go_loopw [31] (fun x wr => ∃ j : Nat, j ≤ n ∧ x = .int .i64 (j : Int) ∧ Hid (Wrq w0 wr q u.ownBlock (a3 ++ rwsB (L.take j)))) (fun x _ => n - (intOf x).toNat)
  case atStart => exact ⟨0, by omega, rfl, HWS.out⟩
  case round =>
    obtain ⟨j, hj, rfl, hW⟩ := hrel
    clear HWC HWS
    by_cases hjn : j < n
    · have HJ := Lib.hid hjn
      obtain ⟨b, o, r, rfl, hbl, hrj, hsix⟩ := RR.at_ HR.out hjn
      obtain ⟨hb1, hb2⟩ := HG.out b o rfl (by omega)
      have hlt := Nat.lt_of_lt_of_le hbl hW.out.only.size
      have y0 := hW.out.cell hsix.c0 hbl hb1 hb2
      have y1 := hW.out.cell hsix.c1 hbl hb1 hb2
      have y2 := hW.out.cell hsix.c2 hbl hb1 hb2
      have y3 := hW.out.cell hsix.c3 hbl hb1 hb2
      have y4 := hW.out.cell hsix.c4 hbl hb1 hb2
      have y5 := hW.out.cell hsix.c5 hbl hb1 hb2
      have htake := rwsB_take hrj
      have hfr := HF.out r (List.mem_of_getElem? hrj)
      have hlj := rwsB_le (l := L.take j) fun x hx => HF.out x (List.mem_of_mem_take hx)
      have hltj : (L.take j).length ≤ j := by rw [List.length_take]; omega
      have z3 := u64_wrap r.y.err
      have v3 := u64_lt r.y.err
      obtain ⟨v0, v1, v2, v4, v5⟩ := hfr
      obtain ⟨me, hme⟩ : ∃ x, u64 r.y.err = x := ⟨_, rfl⟩
      have hrwb : rwB r = num r.id ++ (num r.used ++ (num r.seq ++ (num me ++ (num r.y.num ++ num r.y.ext)))) := by rw [← hme]; rfl
      rw [hme] at z3 v3
      obtain ⟨d0, k0⟩ : ∃ a, a3 ++ rwsB (L.take j) = a := ⟨_, rfl⟩
      have g0 : d0.length ≤ l0.length + 27 + j * 54 := by rw [← k0, List.length_append]; omega
      obtain ⟨d1, k1⟩ : ∃ a, d0 ++ num r.id = a := ⟨_, rfl⟩
      obtain ⟨d2, k2⟩ : ∃ a, d1 ++ num r.used = a := ⟨_, rfl⟩
      obtain ⟨d3, k3⟩ : ∃ a, d2 ++ num r.seq = a := ⟨_, rfl⟩
      obtain ⟨d4, k4⟩ : ∃ a, d3 ++ num me = a := ⟨_, rfl⟩
      obtain ⟨d5, k5⟩ : ∃ a, d4 ++ num r.y.num = a := ⟨_, rfl⟩
      obtain ⟨d6, k6⟩ : ∃ a, d5 ++ num r.y.ext = a := ⟨_, rfl⟩
      have g1 : d1.length ≤ d0.length + 9 := by rw [← k1, List.length_append]; have := num9 v0; omega
      have g2 : d2.length ≤ d1.length + 9 := by rw [← k2, List.length_append]; have := num9 v1; omega
      have g3 : d3.length ≤ d2.length + 9 := by rw [← k3, List.length_append]; have := num9 v2; omega
      have g4 : d4.length ≤ d3.length + 9 := by rw [← k4, List.length_append]; have := num9 v3; omega
      have g5 : d5.length ≤ d4.length + 9 := by rw [← k5, List.length_append]; have := num9 v4; omega
      have e0 : d0.length ≤ 140737488355000 := by omega
      have e1 : d1.length ≤ 140737488355000 := by omega
      have e2 : d2.length ≤ 140737488355000 := by omega
      have e3 : d3.length ≤ 140737488355000 := by omega
      have e4 : d4.length ≤ 140737488355000 := by omega
      have e5 : d5.length ≤ 140737488355000 := by omega
      have HN6 : Hid (a3 ++ rwsB (L.take (j + 1)) = d6) := by
        have e : a3 ++ rwsB (L.take (j + 1)) = d6 := by rw [htake, ← List.append_assoc, k0, ← k6, ← k5, ← k4, ← k3, ← k2, ← k1, hrwb]; simp [List.append_assoc]
        exact e
      obtain ⟨id, us, sq, ⟨ye, yn, yx⟩⟩ := r
      simp only at y0 y1 y2 y3 y4 y5 z3 v0 v1 v2 v4 v5 k1 k2 k3 k5 k6
      have K1 := Lib.hid k1
      have K2 := Lib.hid k2
      have K3 := Lib.hid k3
      have K4 := Lib.hid k4
      have K5 := Lib.hid k5
      have K6 := Lib.hid k6
      have hW' := hW.out
      rw [k0] at hW'
      have hK := (hW'.alloc (.cells #[.int .u64 (id : Int), .int .u64 (us : Int), .int .u64 (sq : Int), .int .i64 ye, .int .u64 (yn : Int), .int .u64 (yx : Int)] 74)).drew
      have t0 := hK.cell rfl 0
      have t1 := hK.cell rfl 1
      have t2 := hK.cell rfl 2
      simp only [List.getElem?_toArray, List.getElem?_cons_zero, List.getElem?_cons_succ] at t0 t1 t2
      obtain ⟨G, hG⟩ : ∃ G, wr.heap.size = G := ⟨_, rfl⟩
      rw [hG] at hK t0 t1 t2
      clear hsix htake hlj hltj hme hrwb k0 k1 k2 k3 k4 k5 k6 g0 g1 g2 g3 g4 g5 hb q1 q2 q3 hrj hW hW'
      go_wp2_with fail
      go_region_held3 (fun w' => w'.cell? ⟨G, 0, none⟩ = some (.int .u64 (id : Int)) ∧ w'.cell? ⟨G, 1, none⟩ = some (.int .u64 (us : Int)) ∧ w'.cell? ⟨G, 2, none⟩ = some (.int .u64 (sq : Int)))
        (first
          | exact ⟨t0, t1, t2⟩
          | exact ⟨hWC.cell rfl 0, hWC.cell rfl 1, hWC.cell rfl 2⟩
          | exact ⟨hWB.cell rfl 0, hWB.cell rfl 1, hWB.cell rfl 2⟩
          | exact ⟨hWA.cell rfl 0, hWA.cell rfl 1, hWA.cell rfl 2⟩)
        (first
          | (go_at_call 29
             (with_reducible refine (wrb_num id hK v0 e0 K1).mono ?_)
             rintro e wA ⟨rfl, hWA⟩)
          | (go_at_call 29
             (with_reducible refine (wrb_num us hWA v1 e1 K2).mono ?_)
             rintro e wB ⟨rfl, hWB⟩)
          | (go_at_call 29
             (with_reducible refine (wrb_num sq hWB v2 e2 K3).mono ?_)
             rintro e wC ⟨rfl, hWC⟩))
      have hK2 := hWC.drew
      have t3 := hK2.cell rfl 3
      have t4 := hK2.cell rfl 4
      have t5 := hK2.cell rfl 5
      simp only [List.getElem?_toArray, List.getElem?_cons_zero, List.getElem?_cons_succ] at t3 t4 t5
      have hGlt : G < wC.heap.size := State.lt_at hWC.at_
      clear hWC hWB hWA hK t0 t1 t2
      go_wp2_with fail
      go_region_held3 (fun w' => w'.cell? ⟨G, 3, none⟩ = some (.int .i64 ye) ∧ w'.cell? ⟨G, 4, none⟩ = some (.int .u64 (yn : Int)) ∧ w'.cell? ⟨G, 5, none⟩ = some (.int .u64 (yx : Int)))
        (first
          | exact ⟨t3, t4, t5⟩
          | exact ⟨hWF.cell rfl 3, hWF.cell rfl 4, hWF.cell rfl 5⟩
          | exact ⟨hWE.cell rfl 3, hWE.cell rfl 4, hWE.cell rfl 5⟩
          | exact ⟨hWD.cell rfl 3, hWD.cell rfl 4, hWD.cell rfl 5⟩)
        (first
          | (go_at_call 29
             (with_reducible refine (wrb_num me hK2 v3 e3 K4).mono ?_)
             rintro e wD ⟨rfl, hWD⟩)
          | (go_at_call 29
             (with_reducible refine (wrb_num yn hWD v4 e4 K5).mono ?_)
             rintro e wE ⟨rfl, hWE⟩)
          | (go_at_call 29
             (with_reducible refine (wrb_num yx hWE v5 e5 K6).mono ?_)
             rintro e wF ⟨rfl, hWF⟩))
      have hWZ := hWF.wrq
      rw [← HN6.out] at hWZ
      have HWZ := Lib.hid hWZ
      clear hWF hWE hWD hK2 t3 t4 t5 hWZ
      go_wp2
      go_roundw
      case rel => exact ⟨j + 1, HJ.out, by go_num, HWZ.out⟩
      case measure => have := HJ.out; simp [intOf]; omega
    · obtain rfl : j = n := by omega
      have hall : L.take j = L := List.take_of_length_le (by rw [HLEN.out]; exact Nat.le_refl _)
      have hW' := hW.out
      rw [hall, HALL.out] at hW'
      have HW := Lib.hid hW'
      clear hW hW'
      go_wp2
      go_end0
      exact ⟨rfl, HW.out⟩
end Go.Proofs.Ytdmlfnknmilhcaa.WalkH
