/- What the program's Decode answers, walked. No statement is proved here. -/
import Derived.Test.YtkimeggojcgacaaWalkA
import Derived.Test.YtkimeggojcgacaaDk
import Derived.BigRegion
set_option linter.unusedVariables false
set_option linter.unusedSimpArgs false
namespace Go.Proofs.Ytkimeggojcgacaa.WalkC
open Go.RowKit Go.Proofs.Ytkimeggojcgacaa.Kit Go.Proofs.Ytkimeggojcgacaa.Ltr Go.Proofs.Ytkimeggojcgacaa.Lmt Go.Proofs.Ytkimeggojcgacaa.Wr Go.Proofs.Ytkimeggojcgacaa.Dk Go.Proofs.Ytkimeggojcgacaa.WalkA
open Go.Proofs.Ytkimeggojcgacaa.App (step_app)
open Go.Proofs.Ytkimeggojcgacaa.State (RV cell_at free_at set_at lt_at)
open Go.Proofs.Ytkimeggojcgacaa.PckWalkC (gotB)
open Go.Proofs.Ytkimeggojcgacaa.PckWalkE (upV textV truth)

theorem ent_new (w : World) (e : Ent) (t : TypeId) : RE (w.alloc (.cells (entCs e).toArray t)) (w.heap.size + 1) (some ⟨w.heap.size, 0, none⟩) 1 [e] := by
  refine ⟨by rw [ecells_length]; rfl, fun _ => ⟨_, rfl, Nat.lt_succ_self _, fun j x hj => ?_⟩⟩
  rw [ecells_one_ent] at hj
  rw [Addr.add_lit, Nat.zero_add, cell_of_row _ _ j _ t (0, 0) (heap_alloc_new w _)]
  simpa using hj
set_option maxRecDepth 100000 in
set_option maxHeartbeats 1000000 in
/-- An entry is read. -/
theorem entry_any {w0 W : World} {q : Nat} {r : Rd} (h : Rp w0 W q r) (hs : r.s.size ≤ 281474976710656) {e : Ent} {r' : Rd} (he : Hid (rEnt r = e)) (hr : Hid (rEntR r = r')) :
    Calls Try.prog 28 #[.pointer (some ⟨q, 0, none⟩)] W (Ran 67 w0 W q r' (.agg #[.int .u64 e.term, .int .u64 e.idx, .int .i64 e.kind, .string e.data])) := by
  obtain ⟨r1, g1⟩ : ∃ x, r.num = x := ⟨_, rfl⟩
  obtain ⟨r2, g2⟩ : ∃ x, r1.num = x := ⟨_, rfl⟩
  obtain ⟨r3, g3⟩ : ∃ x, r2.up 2 = x := ⟨_, rfl⟩
  obtain ⟨n0, e0⟩ : ∃ x, gotB r.s = x := ⟨_, rfl⟩
  obtain ⟨n1, e1⟩ : ∃ x, gotB r1.s = x := ⟨_, rfl⟩
  obtain ⟨n2, e2⟩ : ∃ x, upV r2.s 2 = x := ⟨_, rfl⟩
  obtain ⟨d, e3⟩ : ∃ x, textV r3.s 65536 = x := ⟨_, rfl⟩
  have s1 : r1.s.size ≤ 281474976710656 := by rw [← g1]; exact Nat.le_trans (Rd.num_le r) hs
  have s2 : r2.s.size ≤ 281474976710656 := by rw [← g2]; exact Nat.le_trans (Rd.num_le r1) s1
  have s3 : r3.s.size ≤ 281474976710656 := by rw [← g3]; exact Nat.le_trans (Rd.up_le r2 2) s2
  have hev : e = ⟨(n0 : Nat), (n1 : Nat), (n2 : Nat), d⟩ := by
    rw [← he.out]
    unfold rEnt
    rw [g1, g2, g3, e0, e1, e2, e3]
  have g4 : r3.text 65536 = r' := by rw [← hr.out]; unfold rEntR; rw [g1, g2, g3]
  subst hev
  simp only
  have G1 := Lib.hid g1
  have G2 := Lib.hid g2
  have G3 := Lib.hid g3
  have G4 := Lib.hid g4
  have E0 := Lib.hid e0
  have E1 := Lib.hid e1
  have E2 := Lib.hid e2
  have E3 := Lib.hid e3
  clear g1 g2 g3 g4 e0 e1 e2 e3 he hr
  have h0 : Rp w0 (W.alloc (.cells #[.int .u64 0, .int .u64 0, .int .i64 0, .string ⟨#[]⟩] 47)) q r := h.below ((Below.refl _ _).alloc (Nat.le_refl _) _)
  have hq := h.lt
  have ho0 : State.Only (· = q) W (W.alloc (.cells #[.int .u64 0, .int .u64 0, .int .i64 0, .string ⟨#[]⟩] 47)) := (State.Only.refl _ W).alloc _
  have hnew := heap_alloc_new W (.cells #[.int .u64 0, .int .u64 0, .int .i64 0, .string ⟨#[]⟩] 47)
  go_enter Try.func28, Try.ntmps28
  go_wp2_with fail
  with_reducible refine (rp_num h0 hs E0 G1).mono ?_
  rintro e w1 ⟨rfl, h1, o1⟩
  go_wp2_with fail
  with_reducible refine (rp_num h1 s1 E1 G2).mono ?_
  rintro e w2 ⟨rfl, h2, o2⟩
  go_wp2_with fail
  with_reducible refine (rp_up 2 h2 s2 (by decide) E2 G3).mono ?_
  rintro e w3 ⟨rfl, h3, o3⟩
  go_wp2_with fail
  with_reducible refine (rp_text 65536 h3 s3 (by decide) E3 G4).mono ?_
  rintro e w4 ⟨rfl, h4, o4⟩
  have ho := (o1.trans o2).trans (o3.trans o4)
  have hres := (ho.block W.heap.size (lt_at hnew) (by omega)).trans hnew
  have hall := ho0.trans ho
  clear o1 o2 o3 o4 h1 h2 h3 h0 ho
  have y0 : w4.cell? ⟨W.heap.size, 0, none⟩ = some (.int .u64 0) := by rw [cell_at hres]; rfl
  have y1 : w4.cell? ⟨W.heap.size, 1, none⟩ = some (.int .u64 0) := by rw [cell_at hres]; rfl
  have y2 : w4.cell? ⟨W.heap.size, 2, none⟩ = some (.int .i64 0) := by rw [cell_at hres]; rfl
  have y3 : w4.cell? ⟨W.heap.size, 3, none⟩ = some (.string ⟨#[]⟩) := by rw [cell_at hres]; rfl
  have fz := fun i => free_at hres i
  have hlt := lt_at hres
  have hres' : w4.heap[W.heap.size]? = some (.cells [Value.int .u64 0, .int .u64 0, .int .i64 0, .string ⟨#[]⟩].toArray 47 (0, 0)) := hres
  have hp := put_at 3 (.string d) (put_at 2 (.int .i64 (n2 : Int)) (put_at 1 (.int .u64 (n1 : Int)) (put_at 0 (.int .u64 (n0 : Int)) hres')))
  have hst (a : Nat) {w' : World} (k : State.Only (· = q) W w') (u : Value) : State.Only (· = q) W (w'.setCell ⟨W.heap.size, a, none⟩ u) := k.setCell (a := ⟨W.heap.size, a, none⟩) (.inl (Nat.le_refl _)) u
  have hO := hst 3 (hst 2 (hst 1 (hst 0 hall (.int .u64 (n0 : Int))) (.int .u64 (n1 : Int))) (.int .i64 (n2 : Int))) (.string d)
  have hR : RV 67 ((((w4.setCell ⟨W.heap.size, 0, none⟩ (.int .u64 (n0 : Int))).setCell ⟨W.heap.size, 1, none⟩ (.int .u64 (n1 : Int))).setCell ⟨W.heap.size, 2, none⟩ (.int .i64 (n2 : Int))).setCell ⟨W.heap.size, 3, none⟩ (.string d)) q r'.s r'.bad := by
    have hk (a : Nat) {w' : World} (k : RV 67 w' q r'.s r'.bad) (u : Value) : RV 67 (w'.setCell ⟨W.heap.size, a, none⟩ u) q r'.s r'.bad := k.keep (S := fun g => g = W.heap.size) ((State.Only.refl (fun g => g = W.heap.size) w').setCell (a := ⟨W.heap.size, a, none⟩) (.inr rfl) u) (by omega)
    exact hk 3 (hk 2 (hk 1 (hk 0 h4.at_ _) _) _) _
  obtain ⟨W', hW'⟩ : ∃ W', ((((w4.setCell ⟨W.heap.size, 0, none⟩ (.int .u64 (n0 : Int))).setCell ⟨W.heap.size, 1, none⟩ (.int .u64 (n1 : Int))).setCell ⟨W.heap.size, 2, none⟩ (.int .i64 (n2 : Int))).setCell ⟨W.heap.size, 3, none⟩ (.string d)) = W' := ⟨_, rfl⟩
  rw [hW'] at hp hO hR
  have HP := Lib.hid hp
  have HO := Lib.hid hO
  have HR := Lib.hid hR
  have HW := Lib.hid hW'
  clear hp hO hR hW' hres hres' hst hall
  go_wp2_with fail
  rw [HW.out]
  refine bodyPost_ret (results_cell_row (p := 2) (ty := 47) rfl _ _ W.heap.size 47 _ (0, 0) _ rfl HP.out Try.underlying47 rfl (by kernel_rfl)) rfl ?_
  exact ⟨rfl, ⟨HR.out, h.low, h.bel.trans (HO.out.below h.bel.size fun k hk => by rw [hk]; exact h.low)⟩, HO.out⟩

set_option maxRecDepth 100000 in
set_option maxHeartbeats 8000000 in
theorem dec_any (s : ByteArray) (hs : s.size ≤ 281474976710656) (w : World) : Calls Try.prog 12 #[.string s] w (Dec s w) := by
  obtain ⟨r1, r2, r3, r4, r5, r6, r7, r8, r9, k, f, t, tm, ix, pv, cm, ok, n, N⟩ := named s
  have t1 : r1.s.size ≤ 281474976710656 := Nat.le_trans N.s1 hs
  have t2 : r2.s.size ≤ 281474976710656 := Nat.le_trans N.s2 hs
  have t3 : r3.s.size ≤ 281474976710656 := Nat.le_trans N.s3 hs
  have t4 : r4.s.size ≤ 281474976710656 := Nat.le_trans N.s4 hs
  have t5 : r5.s.size ≤ 281474976710656 := Nat.le_trans N.s5 hs
  have t6 : r6.s.size ≤ 281474976710656 := Nat.le_trans N.s6 hs
  have t7 : r7.s.size ≤ 281474976710656 := Nat.le_trans N.s7 hs
  have t8 : r8.s.size ≤ 281474976710656 := Nat.le_trans N.s8 hs
  have t9 : r9.s.size ≤ 281474976710656 := Nat.le_trans N.s9 hs
  have n8 := N.n8
  have hs0 : (q0 s).s.size ≤ 281474976710656 := hs
  have hres := heap_alloc_new w (.cells zcs.toArray 25)
  have hba : Below w.heap.size w (w.alloc (.cells zcs.toArray 25)) := (Below.refl _ _).alloc (Nat.le_refl _) _
  have hla : w.heap.size < (w.alloc (.cells zcs.toArray 25)).heap.size := by simp
  obtain ⟨w1, hw1⟩ : ∃ w1, w.alloc (.cells zcs.toArray 25) = w1 := ⟨_, rfl⟩
  rw [hw1] at hres hba hla
  have HW1 : Hid (w.alloc (.cells #[.int .i64 0, .int .i64 0, .int .i64 0, .int .u64 0, .int .u64 0, .int .u64 0, .int .u64 0, .bool false, .slice none 0 0, .string ⟨#[]⟩] 25) = w1) := hw1
  have HN := Lib.hid N
  clear hw1 N
  go_enter Try.func12, Try.ntmps12
  go_wp2_with fail
  rw [HW1.out]
  with_reducible refine (from_rp s w1).mono ?_
  rintro e w2 ⟨q, rfl, hR⟩
  go_wp2_with fail
  with_reducible refine (rp_up 9 hR hs0 (by decide) HN.out.xk HN.out.xr1).mono ?_
  rintro e w3 ⟨rfl, hR1, _⟩
  go_wp2_with fail
  with_reducible refine (rp_up 255 hR1 t1 (by decide) HN.out.xf HN.out.xr2).mono ?_
  rintro e w4 ⟨rfl, hR2, _⟩
  go_wp2_with fail
  with_reducible refine (rp_up 255 hR2 t2 (by decide) HN.out.xt HN.out.xr3).mono ?_
  rintro e w5 ⟨rfl, hR3, _⟩
  have D : Dk 67 w (w5.alloc (.cells #[.int .i64 (k : Int), .int .i64 (f : Int), .int .i64 (t : Int), .int .u64 0, .int .u64 0, .int .u64 0, .int .u64 0, .bool false, .slice none 0 0, .string ⟨#[]⟩] 25)) q w5.heap.size ⟨(k : Nat), (f : Nat), (t : Nat), 0, 0, 0, 0, false, ⟨#[]⟩⟩ (.slice none 0 0) [] r3 := dk_first (h := ⟨(k : Nat), (f : Nat), (t : Nat), 0, 0, 0, 0, false, ⟨#[]⟩⟩) hres hba hla hR3
  clear hR hR1 hR2 hR3
  go_wp2_with fail
  with_reducible refine (dkp_num D t3 HN.out.xtm HN.out.xr4).mono ?_
  rintro e w6 ⟨rfl, D4⟩
  clear D
  go_wp2_with fail
  with_reducible refine (dkp_num D4 t4 HN.out.xix HN.out.xr5).mono ?_
  rintro e w7 ⟨rfl, D5⟩
  clear D4
  go_wp2_with fail
  with_reducible refine (dkp_num D5 t5 HN.out.xpv HN.out.xr6).mono ?_
  rintro e w8 ⟨rfl, D6⟩
  clear D5
  go_wp2_with fail
  with_reducible refine (dkp_num D6 t6 HN.out.xcm HN.out.xr7).mono ?_
  rintro e w9 ⟨rfl, D7⟩
  clear D6
  go_wp2_with fail
  with_reducible refine (dkp_bool D7 t7 HN.out.xok HN.out.xr8).mono ?_
  rintro e w10 ⟨rfl, D8⟩
  clear D7
  generalize w5.heap.size = p at *
  have c3 := D8.at_ 3 rfl
  have c4 := D8.at_ 4 rfl
  have c5 := D8.at_ 5 rfl
  have c6 := D8.at_ 6 rfl
  have c7 := D8.at_ 7 rfl
  have fz := D8.free
  have hlt := D8.lt
  have e3 := D8.set (h' := ⟨(k : Nat), (f : Nat), (t : Nat), (tm : Nat), 0, 0, 0, false, ⟨#[]⟩⟩) 3 (.int .u64 (tm : Int)) rfl
  have e4 := e3.set (h' := ⟨(k : Nat), (f : Nat), (t : Nat), (tm : Nat), (ix : Nat), 0, 0, false, ⟨#[]⟩⟩) 4 (.int .u64 (ix : Int)) rfl
  have e5 := e4.set (h' := ⟨(k : Nat), (f : Nat), (t : Nat), (tm : Nat), (ix : Nat), (pv : Nat), 0, false, ⟨#[]⟩⟩) 5 (.int .u64 (pv : Int)) rfl
  have e6 := e5.set (h' := ⟨(k : Nat), (f : Nat), (t : Nat), (tm : Nat), (ix : Nat), (pv : Nat), (cm : Nat), false, ⟨#[]⟩⟩) 6 (.int .u64 (cm : Int)) rfl
  have e7 := e6.set (h' := ⟨(k : Nat), (f : Nat), (t : Nat), (tm : Nat), (ix : Nat), (pv : Nat), (cm : Nat), ok, ⟨#[]⟩⟩) 7 (.bool ok) rfl
  clear e3 e4 e5 e6 D8
  go_wp2_with fail
  with_reducible refine (dkp_up 8 e7 t8 (by decide) HN.out.xn HN.out.xr9).mono ?_
  rintro e w11 ⟨rfl, D9⟩
  clear e7 c3 c4 c5 c6 c7 fz hlt
  go_wp2
  go_loopw [32] (fun x wr => ∃ (j : Nat) (v : Value), j ≤ n ∧ x = .int .i64 (j : Int) ∧ Dk 67 w wr q p ⟨(k : Nat), (f : Nat), (t : Nat), (tm : Nat), (ix : Nat), (pv : Nat), (cm : Nat), ok, ⟨#[]⟩⟩ v (rEs j r9) (rAt j r9)) (fun x _ => n - (intOf x).toNat)
  case atStart => exact ⟨0, _, by omega, rfl, D9⟩
  case round =>
    obtain ⟨j, v, hj, rfl, D⟩ := hrel
    clear D9
    by_cases hjn : j < n
    · have HJ := Lib.hid hjn
      obtain ⟨A, c, hv, _, _, _⟩ := own_form D.own
      rw [rEs_length] at hv
      subst hv
      obtain ⟨e, he⟩ : ∃ e, rEnt (rAt j r9) = e := ⟨_, rfl⟩
      obtain ⟨r', hr'⟩ : ∃ r', rEntR (rAt j r9) = r' := ⟨_, rfl⟩
      have hsz : (rAt j r9).s.size ≤ 281474976710656 := Nat.le_trans (rAt_le _ _) t9
      have hes : rEs (j + 1) r9 = rEs j r9 ++ [e] := by rw [← he]; rfl
      have hat : rAt (j + 1) r9 = r' := by rw [← hr']; rfl
      have HE := Lib.hid he
      have HR := Lib.hid hr'
      have HES := Lib.hid hes
      have HAT := Lib.hid hat
      have c8 := D.at_ 8 rfl
      have hlt := D.lt
      have hroom : (j + 1) * 40 ≤ 140737488355328 := by omega
      have hrd := D.drew.rds
      have HD := Lib.hid D
      clear D he hr' hes hat hjn
      go_wp2_with fail
      go_region_law (first
        | (refine step_app (v := .slice A j c) _ rfl _ _ rfl (p + 1) rfl (HOW.out _) rfl HNW.out (ecells_one _) hroom (HBS.out _) ?_
           intro A' c' w7 hown7 hg7 hat7
           obtain ⟨hcell7, hfr7, hlt7, hD7⟩ := HD6.out.rowed (e := e) hown7 (by rw [rEs_length]) rfl hg7
           have HD7 := Lib.hid hD7
           clear hD7 hat7 hg7 hown7)
        | (go_simp
           go_at_call 28
           (with_reducible refine (entry_any hrd hsz HE HR).mono ?_)
           rintro e6 w6 ⟨rfl, hR6, ho6⟩
           have h6 := HD.out.ran (W' := w6) hR6.at_ (State.Only.trans ((State.Only.refl _ wr).drew) ho6)
           have c86 : w6.cell? ⟨p, 8, none⟩ = some (.slice A j c) := h6.at_ 8 rfl
           have hlt6 := h6.lt
           have HOW : Hid (∀ o, (w6.alloc o).ownsRow (p + 1) 47 4 (.slice A j c) j (ecells (rEs j r9))) := fun o => by
             have := (h6.below ((Below.refl _ _).alloc (Nat.le_refl _) o)).own
             rwa [rEs_length] at this
           have HNW : Hid (RE (w6.alloc (.cells #[.int .u64 e.term, .int .u64 e.idx, .int .i64 e.kind, .string e.data] 47)) (w6.heap.size + 1) (some ⟨w6.heap.size, 0, none⟩) 1 [e]) := ent_new w6 e 47
           have HBS : Hid (∀ o, p + 1 ≤ (w6.alloc o).heap.size) := fun o => Nat.le_trans hlt6 ((Below.refl _ w6).alloc (Nat.le_refl _) o).size
           have HD6 := Lib.hid h6
           clear h6 ho6 hR6))
      all_goals go_wp2
      all_goals
        go_roundw
        case rel => exact ⟨j + 1, _, HJ.out, by go_num, by rw [HES.out, HAT.out]; exact HD7.out⟩
        case measure => have := HJ.out; simp [intOf]; omega
    · obtain rfl : j = n := by omega
      obtain ⟨rA, hrA⟩ : ∃ x, rAt j r9 = x := ⟨_, rfl⟩
      have hqA : qA s = rA := by unfold qA; rw [HN.out.hcnt, HN.out.hq9, hrA]
      have hes : es s = rEs j r9 := by unfold es; rw [HN.out.hcnt, HN.out.hq9]
      have hein : ∀ e ∈ rEs j r9, EIn e := fun e he => (rEs_in j r9 e he).1
      have hlen := rEs_length j r9
      obtain ⟨l, hl⟩ : ∃ x, rEs j r9 = x := ⟨_, rfl⟩
      rw [hl] at hes hein hlen D
      rw [hrA] at D
      obtain ⟨d, hd'⟩ : ∃ x, textV rA.s 65536 = x := ⟨_, rfl⟩
      obtain ⟨rB, hrB⟩ : ∃ x, rA.text 65536 = x := ⟨_, rfl⟩
      have hqB : qB s = rB := by unfold qB; rw [hqA, hrB]
      have hhd := HN.out.hhd
      rw [hqA, hd'] at hhd
      have hin := hd_in s
      rw [hhd] at hin
      obtain ⟨b, hb⟩ : ∃ b, rB.done = b := ⟨_, rfl⟩
      have hA : rA.s.size ≤ 281474976710656 := by rw [← hrA]; exact Nat.le_trans (rAt_le _ _) t9
      have XD := Lib.hid hd'
      have XB := Lib.hid hrB
      have HB := Lib.hid hb
      have HQB := Lib.hid hqB
      have HES := Lib.hid hes
      have HHD := Lib.hid hhd
      have HEIN := Lib.hid hein
      have HLEN := Lib.hid hlen
      have HIN := Lib.hid hin
      clear hqA hes hein hlen hl hrA hd' hrB hqB hhd hin hb hjn
      go_wp2_with fail
      with_reducible refine (dkp_text 65536 D hA (by decide) XD XB).mono ?_
      rintro e w12 ⟨rfl, D1⟩
      have c9 := D1.at_ 9 rfl
      have fz := D1.free
      have hlt := D1.lt
      have D2 := D1.set (h' := ⟨(k : Nat), (f : Nat), (t : Nat), (tm : Nat), (ix : Nat), (pv : Nat), (cm : Nat), ok, d⟩) 9 (.string d) rfl
      clear D D1
      go_wp2_with fail
      with_reducible refine (dkp_done D2 HB).mono ?_
      rintro e w13 ⟨rfl, D3⟩
      clear c9 fz hlt D2
      have y0 : w13.cell? ⟨w.heap.size, 0, none⟩ = some (.int .i64 0) := by rw [cell_at D3.res]; rfl
      have y1 : w13.cell? ⟨w.heap.size, 1, none⟩ = some (.int .i64 0) := by rw [cell_at D3.res]; rfl
      have y2 : w13.cell? ⟨w.heap.size, 2, none⟩ = some (.int .i64 0) := by rw [cell_at D3.res]; rfl
      have y3 : w13.cell? ⟨w.heap.size, 3, none⟩ = some (.int .u64 0) := by rw [cell_at D3.res]; rfl
      have y4 : w13.cell? ⟨w.heap.size, 4, none⟩ = some (.int .u64 0) := by rw [cell_at D3.res]; rfl
      have y5 : w13.cell? ⟨w.heap.size, 5, none⟩ = some (.int .u64 0) := by rw [cell_at D3.res]; rfl
      have y6 : w13.cell? ⟨w.heap.size, 6, none⟩ = some (.int .u64 0) := by rw [cell_at D3.res]; rfl
      have y7 : w13.cell? ⟨w.heap.size, 7, none⟩ = some (.bool false) := by rw [cell_at D3.res]; rfl
      have y8 : w13.cell? ⟨w.heap.size, 8, none⟩ = some (.slice none 0 0) := by rw [cell_at D3.res]; rfl
      have y9 : w13.cell? ⟨w.heap.size, 9, none⟩ = some (.string ⟨#[]⟩) := by rw [cell_at D3.res]; rfl
      have fy := fun i => free_at D3.res i
      have hly := lt_at D3.res
      cases b
      · obtain ⟨W', hW, hc, hbel, _⟩ := D3.ends (.int .i64 0) (.int .i64 0) (.int .i64 0) (.int .u64 0) (.int .u64 0) (.int .u64 0) (.int .u64 0) (.bool false) (.slice none 0 0) (.string ⟨#[]⟩)
        have HWW := Lib.hid hW
        have HC := Lib.hid hc
        have HBL := Lib.hid hbel
        clear hW hc hbel D3
        go_wp2_with fail
        rw [HWW.out]
        refine bodyPost_ret (results_ct (p := 2) (u := 3) (ty := 25) rfl _ _ w.heap.size 25 _ (0, 0) _ rfl HC.out Try.underlying25 rfl (by kernel_rfl)) rfl ?_
        refine ⟨zeroL, 2, rfl, LAt.zero _, HBL.out, .inr ⟨fun g => ?_, rfl, rfl⟩⟩
        have := g.1
        rw [HQB.out, HB.out] at this
        cases this
      · obtain ⟨A, c, hv, _, _, hre⟩ := own_form D3.own
        rw [HLEN.out] at hv hre
        subst hv
        have c0 := D3.at_ 0 rfl
        have c1 := D3.at_ 1 rfl
        have c2 := D3.at_ 2 rfl
        have c3 := D3.at_ 3 rfl
        have c4 := D3.at_ 4 rfl
        have c5 := D3.at_ 5 rfl
        have c6 := D3.at_ 6 rfl
        have c7 := D3.at_ 7 rfl
        have c8 := D3.at_ 8 rfl
        have c9 := D3.at_ 9 rfl
        have hlp := D3.lt
        have hla : LAt w13 ⟨⟨(k : Nat), (f : Nat), (t : Nat), (tm : Nat), (ix : Nat), (pv : Nat), (cm : Nat), ok, d⟩, A, j, c, l⟩ := ⟨hre, by show j ≤ _; omega, HIN.out, HEIN.out⟩
        obtain ⟨m, hm⟩ : ∃ m : Bool, m = true ↔ May ⟨(k : Nat), (f : Nat), (t : Nat), (tm : Nat), (ix : Nat), (pv : Nat), (cm : Nat), ok, d⟩ l := by
          by_cases hc : May ⟨(k : Nat), (f : Nat), (t : Nat), (tm : Nat), (ix : Nat), (pv : Nat), (cm : Nat), ok, d⟩ l
          · exact ⟨true, by simp [hc]⟩
          · exact ⟨false, by simp [hc]⟩
        have hmay := may_any hla m hm
        have HM := Lib.hid hm
        have HD3 := Lib.hid D3
        unfold ltV at hmay
        simp only at hmay
        have HMAY := Lib.hid hmay
        clear hm hla hre D3 hmay
        go_wp2_with fail
        with_reducible refine HMAY.out.mono ?_
        rintro e w14 ⟨rfl, hb14⟩
        have D4 := HD3.out.below hb14
        cases m
        · obtain ⟨W', hW, hc, hbel, _⟩ := D4.ends (.int .i64 0) (.int .i64 0) (.int .i64 0) (.int .u64 0) (.int .u64 0) (.int .u64 0) (.int .u64 0) (.bool false) (.slice none 0 0) (.string ⟨#[]⟩)
          have z0 := (hb14.cell (p := ⟨w.heap.size, 0, none⟩) hly).trans y0
          have z1 := (hb14.cell (p := ⟨w.heap.size, 1, none⟩) hly).trans y1
          have z2 := (hb14.cell (p := ⟨w.heap.size, 2, none⟩) hly).trans y2
          have z3 := (hb14.cell (p := ⟨w.heap.size, 3, none⟩) hly).trans y3
          have z4 := (hb14.cell (p := ⟨w.heap.size, 4, none⟩) hly).trans y4
          have z5 := (hb14.cell (p := ⟨w.heap.size, 5, none⟩) hly).trans y5
          have z6 := (hb14.cell (p := ⟨w.heap.size, 6, none⟩) hly).trans y6
          have z7 := (hb14.cell (p := ⟨w.heap.size, 7, none⟩) hly).trans y7
          have z8 := (hb14.cell (p := ⟨w.heap.size, 8, none⟩) hly).trans y8
          have z9 := (hb14.cell (p := ⟨w.heap.size, 9, none⟩) hly).trans y9
          have fz := fun i => free_at D4.res i
          have hlz := lt_at D4.res
          have HWW := Lib.hid hW
          have HC := Lib.hid hc
          have HBL := Lib.hid hbel
          clear hW hc hbel D4 c0 c1 c2 c3 c4 c5 c6 c7 c8 c9 hb14
          go_wp2_with fail
          rw [HWW.out]
          refine bodyPost_ret (results_ct (p := 2) (u := 3) (ty := 25) rfl _ _ w.heap.size 25 _ (0, 0) _ rfl HC.out Try.underlying25 rfl (by kernel_rfl)) rfl ?_
          refine ⟨zeroL, 2, rfl, LAt.zero _, HBL.out, .inr ⟨fun g => ?_, rfl, rfl⟩⟩
          have := g.2
          rw [HHD.out, HES.out] at this
          exact absurd (HM.out.2 this) (by decide)
        · obtain ⟨W', hW, hc, hbel, A2, c2', hv2, hre2⟩ := D4.ends (.int .i64 (k : Int)) (.int .i64 (f : Int)) (.int .i64 (t : Int)) (.int .u64 (tm : Int)) (.int .u64 (ix : Int)) (.int .u64 (pv : Int)) (.int .u64 (cm : Int)) (.bool ok) (.slice A j c) (.string d)
          have z0 := (hb14.cell (p := ⟨w.heap.size, 0, none⟩) hly).trans y0
          have z1 := (hb14.cell (p := ⟨w.heap.size, 1, none⟩) hly).trans y1
          have z2 := (hb14.cell (p := ⟨w.heap.size, 2, none⟩) hly).trans y2
          have z3 := (hb14.cell (p := ⟨w.heap.size, 3, none⟩) hly).trans y3
          have z4 := (hb14.cell (p := ⟨w.heap.size, 4, none⟩) hly).trans y4
          have z5 := (hb14.cell (p := ⟨w.heap.size, 5, none⟩) hly).trans y5
          have z6 := (hb14.cell (p := ⟨w.heap.size, 6, none⟩) hly).trans y6
          have z7 := (hb14.cell (p := ⟨w.heap.size, 7, none⟩) hly).trans y7
          have z8 := (hb14.cell (p := ⟨w.heap.size, 8, none⟩) hly).trans y8
          have z9 := (hb14.cell (p := ⟨w.heap.size, 9, none⟩) hly).trans y9
          have d0 := D4.at_ 0 rfl
          have d1 := D4.at_ 1 rfl
          have d2 := D4.at_ 2 rfl
          have d3 := D4.at_ 3 rfl
          have d4 := D4.at_ 4 rfl
          have d5 := D4.at_ 5 rfl
          have d6 := D4.at_ 6 rfl
          have d7 := D4.at_ 7 rfl
          have d8 := D4.at_ 8 rfl
          have d9 := D4.at_ 9 rfl
          have fz := fun i => free_at D4.res i
          have hlz := lt_at D4.res
          have hlq := D4.lt
          have HWW := Lib.hid hW
          have HC := Lib.hid hc
          have HBL := Lib.hid hbel
          rw [HLEN.out] at hv2 hre2
          cases hv2
          have HRE := Lib.hid hre2
          clear hW hc hbel D4 c0 c1 c2 c3 c4 c5 c6 c7 c8 c9 hb14 hre2
          go_wp2_with fail
          rw [HWW.out]
          refine bodyPost_ret (results_ct (p := 2) (u := 3) (ty := 25) rfl _ _ w.heap.size 25 _ (0, 0) _ rfl HC.out Try.underlying25 rfl (by kernel_rfl)) rfl ?_
          refine ⟨⟨⟨(k : Nat), (f : Nat), (t : Nat), (tm : Nat), (ix : Nat), (pv : Nat), (cm : Nat), ok, d⟩, A, j, c, l⟩, 0, rfl, ⟨HRE.out, by show j ≤ _; omega, HIN.out, HEIN.out⟩, HBL.out, .inl ⟨⟨by rw [HQB.out]; exact HB.out, by rw [HHD.out, HES.out]; exact HM.out.1 (by simp)⟩, rfl, ?_⟩⟩
          unfold Lt.said
          rw [HHD.out, HES.out]
end Go.Proofs.Ytkimeggojcgacaa.WalkC
