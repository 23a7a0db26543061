/- What the program's machine saves; a saga that is told; how many sessions; walked. No statement is proved here. -/
import Derived.Test.YthaepkpmpnofgaaGreatGSs
import Derived.Test.YthaepkpmpnofgaaGreatHWtr
import Derived.Deep.RegionHeld3
import Derived.Test.YthaepkpmpnofgaaGreatGN
import Derived.Test.YthaepkpmpnofgaaGreatGQ2
import Derived.Test.YthaepkpmpnofgaaGreatHSagAt
import Derived.Test.YthaepkpmpnofgaaGreatHMatD
import Derived.BigRegion
import Derived.BigQuiet
import Derived.Deep.QuietTactic
import Derived.Test.YthaepkpmpnofgaaGreatHListP
import Derived.Test.YthaepkpmpnofgaaGreatGSu
set_option linter.unusedVariables false
set_option linter.unusedSimpArgs false
namespace Go.Proofs.YthaepkpmpnofgaaGreat.RefE
open Go.RowKit Go.Proofs.YthaepkpmpnofgaaGreat.Kit Go.Proofs.YthaepkpmpnofgaaGreat.Rdr Go.Proofs.YthaepkpmpnofgaaGreat.Ses Go.Proofs.YthaepkpmpnofgaaGreat.Rws Go.Proofs.YthaepkpmpnofgaaGreat.SesB Go.Proofs.YthaepkpmpnofgaaGreat.SsnWalkA
open Go.Proofs.YthaepkpmpnofgaaGreat.Num (num)
open Go.Proofs.YthaepkpmpnofgaaGreat.PckWalkH (str str_size str_append)

theorem rnum_hid (x : Nat) (w : World) (hx : x < 18446744073709551616) {F : ByteArray} (hF : Hid (str (num x) = F)) :
    Calls Tryz.prog 78 #[.int .u64 (x : Int)] w fun e w' => e = .returned (.string F) ∧ Below w.heap.size w w' :=
  (PckWalkH.num_any x w hx).mono fun _ _ k => ⟨by rw [← hF.out]; exact k.1, k.2⟩
theorem nm (x : Nat) (hx : x < 18446744073709551616) : ∃ F : ByteArray, Hid (str (num x) = F) ∧ F.size ≤ 9 := ⟨_, Lib.hid rfl, by rw [str_size]; exact num9 hx⟩
set_option maxRecDepth 100000 in
set_option maxHeartbeats 8000000 in
theorem bytes_any {T : Shape} {B q : Nat} {w : World} {u : Value} {m : Tb} (h : DT T B w q u m) (hU : U m.now ∧ U m.next) (hf : ∀ r ∈ m.rows, Fine r) (h16 : m.rows.length ≤ 16) {S : ByteArray} (hS : Hid (str (tbB m) = S)) :
    Calls Tryz.prog 77 #[.pointer (some ⟨q, 0, none⟩)] w fun e w' => e = .returned (.string S) ∧ Below w.heap.size w w' := by
  have hbo : ∀ (W : World) o, Below W.heap.size W (W.alloc o) := fun W o => (Below.refl _ _).alloc (Nat.le_refl _) o
  have c0 := h.c0
  have c1 := h.c1
  have c2 := h.c2
  have hp := h.plt
  obtain ⟨A, c, rfl, hnc, hcm, hr⟩ := h.form
  obtain ⟨n, hn⟩ : ∃ n, m.rows.length = n := ⟨_, rfl⟩
  rw [hn] at c2 hnc hr h16
  have hS' := hS.out
  unfold tbB at hS'
  rw [hn] at hS'
  obtain ⟨NW, NX, L⟩ := m
  simp only at c0 c1 c2 hU hf hn hr hS'
  obtain ⟨hU1, hU2⟩ := hU
  have hU3 : n < 18446744073709551616 := by omega
  have z0 := wrap_u n hU3
  obtain ⟨F1, HF1, s1⟩ := nm NW hU1
  obtain ⟨F2, HF2, s2⟩ := nm NX hU2
  obtain ⟨F3, HF3, s3⟩ := nm n hU3
  have a1 : ¬ 9223372036854775807 < F1.size + F2.size := by omega
  have a2 : ¬ 9223372036854775807 < F1.size + F2.size + F3.size := by omega
  have hd0 := (Below.refl w.heap.size w).drew
  obtain ⟨H0, hH0⟩ : ∃ l, num NW ++ (num NX ++ num n) = l := ⟨_, rfl⟩
  have h0l : H0.length ≤ 27 := by rw [← hH0]; simp only [List.length_append]; have := num9 hU1; have := num9 hU2; have := num9 hU3; omega
  have HST : Hid (F1 ++ F2 ++ F3 = str (H0 ++ rwsB (L.take 0))) := by
    have : F1 ++ F2 ++ F3 = str (H0 ++ rwsB (L.take 0)) := by rw [← HF1.out, ← HF2.out, ← HF3.out, str_append, str_append, ← hH0]; simp [rwsB, List.append_assoc]
    exact this
  have HALL : Hid (str (H0 ++ rwsB L) = S) := by
    have : str (H0 ++ rwsB L) = S := by rw [← hS', ← hH0]; simp [List.append_assoc]
    exact this
  have HN := Lib.hid hn
  have HR := Lib.hid hr
  have HF := Lib.hid hf
  have t0 : w.drew.cell? ⟨q, 0, none⟩ = some (.int .u64 (NW : Int)) := c0
  have t1 : w.drew.cell? ⟨q, 1, none⟩ = some (.int .u64 (NX : Int)) := c1
  have t2 : w.drew.cell? ⟨q, 2, none⟩ = some (.slice A n c) := c2
  clear h hr hf hn hS' hH0
  go_enter Tryz.func77, Tryz.ntmps77
  go_wp2_with fail
  go_region_held3 (fun w' => w'.cell? ⟨q, 0, none⟩ = some (.int .u64 (NW : Int)) ∧ w'.cell? ⟨q, 1, none⟩ = some (.int .u64 (NX : Int)) ∧ w'.cell? ⟨q, 2, none⟩ = some (.slice A n c))
    (first
      | exact ⟨t0, t1, t2⟩
      | exact ⟨(hbC.cell (p := ⟨q, 0, none⟩) hp).trans c0, (hbC.cell (p := ⟨q, 1, none⟩) hp).trans c1, (hbC.cell (p := ⟨q, 2, none⟩) hp).trans c2⟩
      | exact ⟨(hbB.cell (p := ⟨q, 0, none⟩) hp).trans c0, (hbB.cell (p := ⟨q, 1, none⟩) hp).trans c1, (hbB.cell (p := ⟨q, 2, none⟩) hp).trans c2⟩
      | exact ⟨(hbA.cell (p := ⟨q, 0, none⟩) hp).trans c0, (hbA.cell (p := ⟨q, 1, none⟩) hp).trans c1, (hbA.cell (p := ⟨q, 2, none⟩) hp).trans c2⟩)
    (first
      | (go_at_call 78
         (with_reducible refine (rnum_hid NW _ hU1 HF1).mono ?_)
         rintro e wA ⟨rfl, hA⟩
         have hbA : Below w.heap.size w wA := hd0.trans hA)
      | (go_at_call 78
         (with_reducible refine (rnum_hid NX _ hU2 HF2).mono ?_)
         rintro e wB ⟨rfl, hB⟩
         have hbB : Below w.heap.size w wB := hbA.trans (hB.mono hbA.size))
      | (go_at_call 78
         (with_reducible refine (rnum_hid n _ hU3 HF3).mono ?_)
         rintro e wC ⟨rfl, hC⟩
         have hbC : Below w.heap.size w wC := hbB.trans (hC.mono hbB.size)))
  have HBC := Lib.hid hbC
  clear hbC hbB hbA hC hB hA t0 t1 t2 a1 a2 s1 s2 s3
  go_wp2_with fail
  go_loopw [3, 4] (fun s x wr => ∃ j : Nat, j ≤ n ∧ x = .int .i64 (j : Int) ∧ s = .string (str (H0 ++ rwsB (L.take j))) ∧ Hid (Below w.heap.size w wr)) (fun _ x _ => n - (intOf x).toNat)
  case atStart => exact ⟨0, by omega, rfl, by rw [HST.out], HBC.out⟩
  case round =>
    obtain ⟨j, hj, rfl, rfl, hbel⟩ := hrel
    clear HBC
    have e2 := (hbel.out.cell (p := ⟨q, 2, none⟩) hp).trans c2
    have hpl := Nat.lt_of_lt_of_le hp hbel.out.size
    by_cases hjn : j < n
    · have HJ := Lib.hid hjn
      obtain ⟨bk, o, r, rfl, hbl, hrj, hsix⟩ := RR.at_ HR.out hjn
      obtain ⟨y0, y1, y2, y3, y4, y5⟩ := hsix.below hbel.out hbl
      have hlt := Nat.lt_of_lt_of_le hbl hbel.out.size
      have htake := rwsB_take hrj
      have hfr := HF.out r (List.mem_of_getElem? hrj)
      have hlj := rwsB_le (l := L.take j) fun x hx => HF.out x (List.mem_of_mem_take hx)
      have hltj : (L.take j).length ≤ j := by rw [List.length_take]; omega
      have z3 := u64_wrap r.y.err
      have v3 := u64_lt r.y.err
      obtain ⟨v0, v1, v2, v4, v5⟩ := hfr
      obtain ⟨me, hme⟩ : ∃ x, SesB.u64 r.y.err = x := ⟨_, rfl⟩
      have hrwb : rwB r = num r.id ++ (num r.used ++ (num r.seq ++ (num me ++ (num r.y.num ++ num r.y.ext)))) := by rw [← hme]; rfl
      rw [hme] at z3 v3
      obtain ⟨P, hP⟩ : ∃ P, str (H0 ++ rwsB (L.take j)) = P := ⟨_, rfl⟩
      have hPs : P.size ≤ 1000 := by rw [← hP, str_size, List.length_append]; omega
      obtain ⟨G1, K1, g1⟩ := nm r.id v0
      obtain ⟨G2, K2, g2⟩ := nm r.used v1
      obtain ⟨G3, K3, g3⟩ := nm r.seq v2
      obtain ⟨G4, K4, g4⟩ := nm me v3
      obtain ⟨G5, K5, g5⟩ := nm r.y.num v4
      obtain ⟨G6, K6, g6⟩ := nm r.y.ext v5
      have b1 : ¬ 9223372036854775807 < G1.size + G2.size := by omega
      have b2 : ¬ 9223372036854775807 < G1.size + G2.size + G3.size := by omega
      have b3 : ¬ 9223372036854775807 < G1.size + G2.size + G3.size + G4.size := by omega
      have b4 : ¬ 9223372036854775807 < G1.size + G2.size + G3.size + G4.size + G5.size := by omega
      have b5 : ¬ 9223372036854775807 < G1.size + G2.size + G3.size + G4.size + G5.size + G6.size := by omega
      have b6 : ¬ 9223372036854775807 < P.size + (G1.size + G2.size + G3.size + G4.size + G5.size + G6.size) := by omega
      have HNX : Hid (P ++ (G1 ++ G2 ++ G3 ++ G4 ++ G5 ++ G6) = str (H0 ++ rwsB (L.take (j + 1)))) := by
        have : P ++ (G1 ++ G2 ++ G3 ++ G4 ++ G5 ++ G6) = str (H0 ++ rwsB (L.take (j + 1))) := by
          rw [← hP, ← K1.out, ← K2.out, ← K3.out, ← K4.out, ← K5.out, ← K6.out, str_append, str_append, str_append, str_append, str_append, str_append, htake, hrwb]
          simp [List.append_assoc]
        exact this
      obtain ⟨id, us, sq, ⟨ye, yn, yx⟩⟩ := r
      simp only at y0 y1 y2 y3 y4 y5 z3 v0 v1 v2 v4 v5 K1 K2 K3 K5 K6
      have hba := hbo wr (.cells #[.int .u64 (id : Int), .int .u64 (us : Int), .int .u64 (sq : Int), .int .i64 ye, .int .u64 (yn : Int), .int .u64 (yx : Int)] 125)
      have hnew := heap_alloc_new wr (.cells #[.int .u64 (id : Int), .int .u64 (us : Int), .int .u64 (sq : Int), .int .i64 ye, .int .u64 (yn : Int), .int .u64 (yx : Int)] 125)
      obtain ⟨w0, hw0⟩ : ∃ w0, (wr.alloc (.cells #[.int .u64 (id : Int), .int .u64 (us : Int), .int .u64 (sq : Int), .int .i64 ye, .int .u64 (yn : Int), .int .u64 (yx : Int)] 125)) = w0 := ⟨_, rfl⟩
      obtain ⟨G, hG⟩ : ∃ G, wr.heap.size = G := ⟨_, rfl⟩
      rw [hw0] at hba hnew
      rw [hG] at hnew
      have hGl : G < w0.heap.size := State.lt_at hnew
      have x0 := State.cell_at hnew 0
      have x1 := State.cell_at hnew 1
      have x2 := State.cell_at hnew 2
      have x3 := State.cell_at hnew 3
      have x4 := State.cell_at hnew 4
      have x5 := State.cell_at hnew 5
      simp only [List.getElem?_toArray, List.getElem?_cons_zero, List.getElem?_cons_succ] at x0 x1 x2 x3 x4 x5
      have hB0 := hbel.out.trans (hba.mono hbel.out.size)
      have X : Hid (∀ W, Below w0.heap.size w0 W → W.cell? ⟨G, 0, none⟩ = some (.int .u64 (id : Int)) ∧ W.cell? ⟨G, 1, none⟩ = some (.int .u64 (us : Int)) ∧ W.cell? ⟨G, 2, none⟩ = some (.int .u64 (sq : Int)) ∧ W.cell? ⟨G, 3, none⟩ = some (.int .i64 ye) ∧ W.cell? ⟨G, 4, none⟩ = some (.int .u64 (yn : Int)) ∧ W.cell? ⟨G, 5, none⟩ = some (.int .u64 (yx : Int))) := fun W hb =>
        ⟨(hb.cell (p := ⟨G, 0, none⟩) hGl).trans x0, (hb.cell (p := ⟨G, 1, none⟩) hGl).trans x1, (hb.cell (p := ⟨G, 2, none⟩) hGl).trans x2, (hb.cell (p := ⟨G, 3, none⟩) hGl).trans x3, (hb.cell (p := ⟨G, 4, none⟩) hGl).trans x4, (hb.cell (p := ⟨G, 5, none⟩) hGl).trans x5⟩
      have HD0 := Lib.hid ((Below.refl w0.heap.size w0).drew)
      have HB0 := Lib.hid hB0
      have HW0 := Lib.hid hw0
      rw [hP]
      clear hsix htake hlj hltj hme hrwb hP hPs g1 g2 g3 g4 g5 g6 hrj hba hnew hw0 hB0 x0 x1 x2 x3 x4 x5
      go_wp2_with fail
      rw [HW0.out]
      go_region_held3 (fun W => W.cell? ⟨G, 0, none⟩ = some (.int .u64 (id : Int)) ∧ W.cell? ⟨G, 1, none⟩ = some (.int .u64 (us : Int)) ∧ W.cell? ⟨G, 2, none⟩ = some (.int .u64 (sq : Int)) ∧ W.cell? ⟨G, 3, none⟩ = some (.int .i64 ye) ∧ W.cell? ⟨G, 4, none⟩ = some (.int .u64 (yn : Int)) ∧ W.cell? ⟨G, 5, none⟩ = some (.int .u64 (yx : Int)))
        (first
          | exact X.out _ HD0.out
          | exact X.out _ hF
          | exact X.out _ hE
          | exact X.out _ hDD
          | exact X.out _ hC
          | exact X.out _ hB
          | exact X.out _ hA)
        (first
          | (go_at_call 78
             (with_reducible refine (rnum_hid id _ v0 K1).mono ?_)
             rintro e wA ⟨rfl, hx⟩
             have hA := HD0.out.trans hx)
          | (go_at_call 78
             (with_reducible refine (rnum_hid us _ v1 K2).mono ?_)
             rintro e wB ⟨rfl, hx⟩
             have hB := hA.trans (hx.mono hA.size))
          | (go_at_call 78
             (with_reducible refine (rnum_hid sq _ v2 K3).mono ?_)
             rintro e wC ⟨rfl, hx⟩
             have hC := hB.trans (hx.mono hB.size))
          | (go_at_call 78
             (with_reducible refine (rnum_hid me _ v3 K4).mono ?_)
             rintro e wD ⟨rfl, hx⟩
             have hDD := hC.trans (hx.mono hC.size))
          | (go_at_call 78
             (with_reducible refine (rnum_hid yn _ v4 K5).mono ?_)
             rintro e wE ⟨rfl, hx⟩
             have hE := hDD.trans (hx.mono hDD.size))
          | (go_at_call 78
             (with_reducible refine (rnum_hid yx _ v5 K6).mono ?_)
             rintro e wF ⟨rfl, hx⟩
             have hF := hE.trans (hx.mono hE.size)))
      have HBF := Lib.hid (HB0.out.trans (hF.mono HB0.out.size))
      clear hF hE hDD hC hB hA
      go_wp2
      go_roundw
      case rel => exact ⟨j + 1, HJ.out, by go_num, by rw [HNX.out], HBF.out⟩
      case measure => have := HJ.out; simp [intOf]; omega
    · obtain rfl : j = n := by omega
      have hall : L.take j = L := List.take_of_length_le (by rw [HN.out]; exact Nat.le_refl _)
      rw [hall, HALL.out]
      go_wp2
      go_ret
      exact ⟨rfl, hbel.out⟩
end Go.Proofs.YthaepkpmpnofgaaGreat.RefE
set_option linter.unusedVariables false
set_option linter.unusedSimpArgs false
namespace Go.Proofs.YthaepkpmpnofgaaGreat.Sgb
open Go.RowKit Go.Proofs.YthaepkpmpnofgaaGreat.Kit Go.Proofs.YthaepkpmpnofgaaGreat.Rdr Go.Proofs.YthaepkpmpnofgaaGreat.Reads Go.Proofs.YthaepkpmpnofgaaGreat.Stq Go.Proofs.YthaepkpmpnofgaaGreat.Pln Go.Proofs.YthaepkpmpnofgaaGreat.Sag
open Go.Proofs.YthaepkpmpnofgaaGreat.Num (num)
open Go.Proofs.YthaepkpmpnofgaaGreat.PckWalkE (upV)
open Go.Proofs.YthaepkpmpnofgaaGreat.PckWalkH (str)

def sgB (s : Sg) : List UInt8 := planB s.l ++ (num (u64 s.st) ++ (num (u64 s.cu) ++ num (u64 s.fa)))
def r1 (r : Rd) : Rd := (rEnd r).up 5
def r2 (r : Rd) : Rd := (r1 r).up 64
def r3 (r : Rd) : Rd := (r2 r).up 9
def rSag (r : Rd) : Sg := ⟨rPlan r, (upV (rEnd r).s 5 : Nat), (upV (r1 r).s 64 : Nat), (upV (r2 r).s 9 : Nat)⟩
def rYes (r : Rd) : Bool := !(r3 r).bad && sound (rSag r)
def zeroS : Sg := ⟨[], 0, 0, 0⟩
def rRes (r : Rd) : Sg := if rYes r then rSag r else zeroS
theorem r3_le (r : Rd) : (r3 r).s.size ≤ r.s.size := by
  have h1 := rEnd_le r
  have h2 := Rd.up_le (rEnd r) 5
  have h3 := Rd.up_le (r1 r) 64
  have h4 := Rd.up_le (r2 r) 9
  unfold r3
  unfold r2 at h4 ⊢
  unfold r1 at h3 h4 ⊢
  omega
/-- Bounds of what can be. -/
theorem snd_in {s : Sg} (h : Snd s) : isDef s.l = true ∧ (0 ≤ s.st ∧ s.st ≤ 5) ∧ (0 ≤ s.cu ∧ s.cu ≤ 64) ∧ (0 ≤ s.fa ∧ s.fa ≤ 9) := by
  obtain ⟨h1, h2⟩ := h
  have hl := len_def h1
  refine ⟨chk_def h1, ?_⟩
  rcases h2 with ⟨a, b, c⟩ | ⟨a, b, c, d⟩ | ⟨a, b, c⟩ | ⟨a, b, c⟩ | ⟨a, b, c⟩
  all_goals try have hb := bud_def h1 b.1 b.2
  all_goals omega
theorem sag_go {s : Sg} (h : Snd s) (r : List UInt8) : rSag ⟨str (sgB s ++ r), false⟩ = s ∧ r3 ⟨str (sgB s ++ r), false⟩ = ⟨str r, false⟩ := by
  obtain ⟨hd, ⟨a0, a1⟩, ⟨b0, b1⟩, ⟨c0, c1⟩⟩ := snd_in h
  obtain ⟨l, st, cu, fa⟩ := s
  simp only at hd a0 a1 b0 b1 c0 c1
  obtain ⟨a, rfl⟩ := Int.eq_ofNat_of_zero_le a0
  obtain ⟨b, rfl⟩ := Int.eq_ofNat_of_zero_le b0
  obtain ⟨c, rfl⟩ := Int.eq_ofNat_of_zero_le c0
  have ha : a < 18446744073709551616 := by omega
  have hb : b < 18446744073709551616 := by omega
  have hc : c < 18446744073709551616 := by omega
  have e0 : sgB ⟨l, (a : Int), (b : Int), (c : Int)⟩ ++ r = planB l ++ (num a ++ (num b ++ (num c ++ r))) := by
    unfold sgB
    simp only
    rw [u64_pos (by omega) (by omega), u64_pos (by omega) (by omega), u64_pos (by omega) (by omega)]
    simp [List.append_assoc]
  rw [e0]
  obtain ⟨p1, p2⟩ := plan_go hd (num a ++ (num b ++ (num c ++ r)))
  have g1 := up_go ha (num b ++ (num c ++ r)) false (k := 5) a1
  have g2 := up_go hb (num c ++ r) false (k := 64) b1
  have g3 := up_go hc r false (k := 9) c1
  constructor
  · unfold rSag r2 r1
    rw [p1, p2, g1, g2]
    simp only
    rw [upV_laid ha _ a1, upV_laid hb _ b1, upV_laid hc _ c1]
  · unfold r3 r2 r1
    rw [p2, g1, g2, g3]
end Go.Proofs.YthaepkpmpnofgaaGreat.Sgb
set_option linter.unusedVariables false
set_option linter.unusedSimpArgs false
namespace Go.Proofs.YthaepkpmpnofgaaGreat.Rby
open Go.RowKit Go.Proofs.YthaepkpmpnofgaaGreat.Kit Go.Proofs.YthaepkpmpnofgaaGreat.Rdr Go.Proofs.YthaepkpmpnofgaaGreat.Stq Go.Proofs.YthaepkpmpnofgaaGreat.Pln Go.Proofs.YthaepkpmpnofgaaGreat.Sag Go.Proofs.YthaepkpmpnofgaaGreat.SagAt Go.Proofs.YthaepkpmpnofgaaGreat.Sgb Go.Proofs.YthaepkpmpnofgaaGreat.PlnWalkC
open Go.Proofs.YthaepkpmpnofgaaGreat.Num (num)
open Go.Proofs.YthaepkpmpnofgaaGreat.PckWalkH (str str_size str_append)

set_option maxRecDepth 100000 in
set_option maxHeartbeats 4000000 in
theorem sbytes_any {w : World} {A : Option Addr} {c : Nat} {s : Sg} (h : At w A s.l) (hb : nms s.l + s.l.length * 27 ≤ 140737480000000) {S : ByteArray} (hS : Hid (str (sgB s) = S)) :
    Calls Tryz.prog 79 #[.agg #[.slice A s.l.length c, .int .i64 s.st, .int .i64 s.cu, .int .i64 s.fa]] w fun e w' => e = .returned (.string S) ∧ Below w.heap.size w w' := by
  obtain ⟨l, st, cu, fa⟩ := s
  simp only at h hb ⊢
  have hbo : Below w.heap.size w (w.alloc (.cells #[.slice A l.length c, .int .i64 st, .int .i64 cu, .int .i64 fa] 49)) := (Below.refl _ _).alloc (Nat.le_refl _) _
  have hX := Box4.new w (.slice A l.length c) (.int .i64 st) (.int .i64 cu) (.int .i64 fa)
  obtain ⟨w1, hw1⟩ : ∃ w1, w.alloc (.cells #[.slice A l.length c, .int .i64 st, .int .i64 cu, .int .i64 fa] 49) = w1 := ⟨_, rfl⟩
  obtain ⟨G, hG⟩ : ∃ G, w.heap.size = G := ⟨_, rfl⟩
  rw [hw1] at hbo hX
  rw [hG] at hX
  have h1 := (h.below hbo).below ((Below.refl _ _).drew)
  have v1 := u64_lt st
  have v2 := u64_lt cu
  have v3 := u64_lt fa
  have z1 := u64_wrap st
  have z2 := u64_wrap cu
  have z3 := u64_wrap fa
  have hS' : str (planB l ++ (num (u64 st) ++ (num (u64 cu) ++ num (u64 fa)))) = S := hS.out
  obtain ⟨m1, hm1⟩ : ∃ x, u64 st = x := ⟨_, rfl⟩
  obtain ⟨m2, hm2⟩ : ∃ x, u64 cu = x := ⟨_, rfl⟩
  obtain ⟨m3, hm3⟩ : ∃ x, u64 fa = x := ⟨_, rfl⟩
  rw [hm1] at v1 z1 hS'
  rw [hm2] at v2 z2 hS'
  rw [hm3] at v3 z3 hS'
  obtain ⟨F0, hF0⟩ : ∃ x, str (planB l) = x := ⟨_, rfl⟩
  obtain ⟨F1, hF1⟩ : ∃ x, str (num m1) = x := ⟨_, rfl⟩
  obtain ⟨F2, hF2⟩ : ∃ x, str (num m2) = x := ⟨_, rfl⟩
  obtain ⟨F3, hF3⟩ : ∃ x, str (num m3) = x := ⟨_, rfl⟩
  have hsp := spsB_le l (by omega)
  have h9 := num9 (x := l.length) (by omega)
  have q0 : F0.size ≤ 140737481000000 := by rw [← hF0, str_size]; unfold planB; rw [List.length_append]; omega
  have q1 : F1.size ≤ 9 := by rw [← hF1, str_size]; exact num9 v1
  have q2 : F2.size ≤ 9 := by rw [← hF2, str_size]; exact num9 v2
  have q3 : F3.size ≤ 9 := by rw [← hF3, str_size]; exact num9 v3
  have u1 : ¬ 9223372036854775807 < F0.size + F1.size := by omega
  have u2 : ¬ 9223372036854775807 < F0.size + F1.size + F2.size := by omega
  have u3 : ¬ 9223372036854775807 < F0.size + F1.size + F2.size + F3.size := by omega
  have HSS : Hid (F0 ++ F1 ++ F2 ++ F3 = S) := by
    have : F0 ++ F1 ++ F2 ++ F3 = S := by rw [← hS', ← hF0, ← hF1, ← hF2, ← hF3, str_append, str_append, str_append]; simp [List.append_assoc]
    exact this
  have HBY := Lib.hid (bytes_any (c := c) h1.rs (by omega) (Lib.hid hF0))
  have HF1 := Lib.hid hF1
  have HF2 := Lib.hid hF2
  have HF3 := Lib.hid hF3
  have HW1 := Lib.hid hw1
  have HBO := Lib.hid hbo
  have hGl : G < w1.heap.size := hX.lt
  have b0 := hX.c0
  have b1 := hX.c1
  have b2 := hX.c2
  have b3 := hX.c3
  have HX : Hid (∀ W, Below w1.heap.size w1 W → W.cell? ⟨G, 0, none⟩ = some (.slice A l.length c) ∧ W.cell? ⟨G, 1, none⟩ = some (.int .i64 st) ∧ W.cell? ⟨G, 2, none⟩ = some (.int .i64 cu) ∧ W.cell? ⟨G, 3, none⟩ = some (.int .i64 fa)) := fun W k => ⟨(k.cell (p := ⟨G, 0, none⟩) hGl).trans b0, (k.cell (p := ⟨G, 1, none⟩) hGl).trans b1, (k.cell (p := ⟨G, 2, none⟩) hGl).trans b2, (k.cell (p := ⟨G, 3, none⟩) hGl).trans b3⟩
  have HD := Lib.hid ((Below.refl w1.heap.size w1).drew)
  clear h hbo hX hw1 h1 hS' hF0 hF1 hF2 hF3 hsp h9 q0 q1 q2 q3 hm1 hm2 hm3 b0 b1 b2 b3
  go_enter Tryz.func79, Tryz.ntmps79
  go_wp2_with fail
  rw [HW1.out]
  go_region_held3 (fun W => W.cell? ⟨G, 0, none⟩ = some (.slice A l.length c) ∧ W.cell? ⟨G, 1, none⟩ = some (.int .i64 st) ∧ W.cell? ⟨G, 2, none⟩ = some (.int .i64 cu) ∧ W.cell? ⟨G, 3, none⟩ = some (.int .i64 fa))
    (first
      | exact HX.out _ HD.out
      | exact HX.out _ hD
      | exact HX.out _ hC
      | exact HX.out _ hB
      | exact HX.out _ hA)
    (first
      | (go_at_call 59
         (with_reducible refine HBY.out.mono ?_)
         rintro e wA ⟨rfl, hx⟩
         have hA := HD.out.trans hx)
      | (go_at_call 78
         (with_reducible refine (rnum_hid m1 _ v1 HF1).mono ?_)
         rintro e wB ⟨rfl, hx⟩
         have hB := hA.trans (hx.mono hA.size))
      | (go_at_call 78
         (with_reducible refine (rnum_hid m2 _ v2 HF2).mono ?_)
         rintro e wC ⟨rfl, hx⟩
         have hC := hB.trans (hx.mono hB.size))
      | (go_at_call 78
         (with_reducible refine (rnum_hid m3 _ v3 HF3).mono ?_)
         rintro e wD ⟨rfl, hx⟩
         have hD := hC.trans (hx.mono hC.size)))
  have HBD := Lib.hid (HBO.out.trans (hD.mono HBO.out.size))
  clear hD hC hB hA
  go_wp2
  go_ret
  exact ⟨by rw [HSS.out]; rfl, HBD.out⟩
end Go.Proofs.YthaepkpmpnofgaaGreat.Rby
set_option linter.unusedVariables false
set_option linter.unusedSimpArgs false
namespace Go.Proofs.YthaepkpmpnofgaaGreat.Back
open Go.RowKit Go.Proofs.YthaepkpmpnofgaaGreat.Kit Go.Proofs.YthaepkpmpnofgaaGreat.Rdr Go.Proofs.YthaepkpmpnofgaaGreat.Reads Go.Proofs.YthaepkpmpnofgaaGreat.Ses Go.Proofs.YthaepkpmpnofgaaGreat.Rws Go.Proofs.YthaepkpmpnofgaaGreat.SesB Go.Proofs.YthaepkpmpnofgaaGreat.RdT
open Go.Proofs.YthaepkpmpnofgaaGreat.Num (num)
open Go.Proofs.YthaepkpmpnofgaaGreat.PckWalkC (gotB)
open Go.Proofs.YthaepkpmpnofgaaGreat.PckWalkE (upV)
open Go.Proofs.YthaepkpmpnofgaaGreat.PckWalkH (str)

theorem rAt_front : ∀ (k : Nat) (r : Rd), rAt (k + 1) r = rAt k (rRowR r)
  | 0, _ => rfl
  | k + 1, r => by show rRowR (rAt (k + 1) r) = rRowR (rAt k (rRowR r)); rw [rAt_front k r]
theorem rRows_front : ∀ (k : Nat) (r : Rd), rRows (k + 1) r = rRow r :: rRows k (rRowR r)
  | 0, _ => rfl
  | k + 1, r => by
    show rRows (k + 1) r ++ [rRow (rAt (k + 1) r)] = rRow r :: (rRows k (rRowR r) ++ [rRow (rAt k (rRowR r))])
    rw [rRows_front k r, rAt_front k r]
    rfl
def EOk (r : Rw) : Prop := 0 ≤ r.y.err ∧ r.y.err ≤ 52
theorem row_go {x : Rw} (h : Fine x) (he : EOk x) (r : List UInt8) (b : Bool) : rRow ⟨str (rwB x ++ r), b⟩ = x ∧ rRowR ⟨str (rwB x ++ r), b⟩ = ⟨str r, b⟩ := by
  obtain ⟨id, us, sq, ⟨ye, yn, yx⟩⟩ := x
  obtain ⟨h1, h2, h3, h4, h5⟩ := h
  obtain ⟨e1, e2⟩ := he
  simp only at h1 h2 h3 h4 h5 e1 e2
  obtain ⟨e, rfl⟩ := Int.eq_ofNat_of_zero_le e1
  have hE : e < 18446744073709551616 := by omega
  have e0 : rwB ⟨id, us, sq, ⟨(e : Int), yn, yx⟩⟩ ++ r = num id ++ (num us ++ (num sq ++ (num e ++ (num yn ++ (num yx ++ r))))) := by
    unfold rwB
    simp only
    rw [u64_nat hE]
    simp [List.append_assoc]
  rw [e0]
  have g1 := num_go h1 (num us ++ (num sq ++ (num e ++ (num yn ++ (num yx ++ r))))) b
  have g2 := num_go h2 (num sq ++ (num e ++ (num yn ++ (num yx ++ r)))) b
  have g3 := num_go h3 (num e ++ (num yn ++ (num yx ++ r))) b
  have g4 := up_go hE (num yn ++ (num yx ++ r)) b (k := 52) e2
  have g5 := num_go h4 (num yx ++ r) b
  have g6 := num_go h5 r b
  constructor
  · unfold rRow
    rw [g1, g2, g3, g4, g5]
    simp only
    rw [got_laid h1, got_laid h2, got_laid h3, upV_laid hE _ e2, got_laid h4, got_laid h5]
  · unfold rRowR
    rw [g1, g2, g3, g4, g5, g6]
theorem rows_go : ∀ (l : List Rw), (∀ x ∈ l, Fine x) → (∀ x ∈ l, EOk x) → ∀ (r : List UInt8) (b : Bool), rRows l.length ⟨str (rwsB l ++ r), b⟩ = l ∧ rAt l.length ⟨str (rwsB l ++ r), b⟩ = ⟨str r, b⟩
  | [], _, _, r, b => ⟨rfl, rfl⟩
  | x :: l, h, he, r, b => by
    have e0 : rwsB (x :: l) ++ r = rwB x ++ (rwsB l ++ r) := by simp [rwsB, List.append_assoc]
    obtain ⟨g1, g2⟩ := row_go (h x (by simp)) (he x (by simp)) (rwsB l ++ r) b
    obtain ⟨g3, g4⟩ := rows_go l (fun y hy => h y (by simp [hy])) (fun y hy => he y (by simp [hy])) r b
    rw [List.length_cons, rRows_front, rAt_front, e0, g1, g2, g3, g4]
    exact ⟨rfl, rfl⟩
theorem tb_go {m : Tb} (hG : Sane m) (he : ∀ x ∈ m.rows, EOk x) (r : List UInt8) : rTb ⟨str (tbB m ++ r), false⟩ = m ∧ rEnd ⟨str (tbB m ++ r), false⟩ = ⟨str r, false⟩ := by
  have hn : m.rows.length < 18446744073709551616 := by have := hG.few; omega
  have hn16 : ((m.rows.length : Nat) : Int) ≤ 16 := by have := hG.few; omega
  have e0 : tbB m ++ r = num m.now ++ (num m.next ++ (num m.rows.length ++ (rwsB m.rows ++ r))) := by unfold tbB; simp [List.append_assoc]
  have g1 := num_go hG.now (num m.next ++ (num m.rows.length ++ (rwsB m.rows ++ r))) false
  have g2 := num_go hG.next (num m.rows.length ++ (rwsB m.rows ++ r)) false
  have g3 := up_go hn (rwsB m.rows ++ r) false (k := 16) hn16
  obtain ⟨g4, g5⟩ := rows_go m.rows (sane_fine hG) he r false
  have eN : rN ⟨str (tbB m ++ r), false⟩ = m.rows.length := by unfold rN; rw [e0, g1, g2]; exact upV_laid hn _ hn16
  have e3 : r3 ⟨str (tbB m ++ r), false⟩ = ⟨str (rwsB m.rows ++ r), false⟩ := by unfold RdT.r3; rw [e0, g1, g2, g3]
  constructor
  · unfold rTb
    rw [eN, e3, g4, e0, g1]
    simp only
    rw [got_laid hG.now, got_laid hG.next]
  · unfold rEnd
    rw [eN, e3, g5]
theorem tbB_le {m : Tb} (hG : Sane m) : (tbB m).length ≤ 1000 := by
  have h1 := num9 hG.now
  have h2 := num9 hG.next
  have h3 := num9 (x := m.rows.length) (by have := hG.few; omega)
  have h4 := rwsB_le (sane_fine hG)
  have h5 := hG.few
  unfold tbB
  simp only [List.length_append]
  omega
section
variable {m : Tb}
def EAll (m : Tb) : Prop := ∀ x ∈ m.rows, EOk x
theorem EAll.zero : EAll tb0 := by intro x hx; simp [tb0] at hx
theorem EAll.clock (h : EAll m) (t : Nat) : EAll (clock m t) := by
  unfold Ses.clock
  split
  · exact h
  · exact fun x hx => h x (List.mem_filter.1 hx).1
theorem EAll.reg (h : EAll m) : EAll (regT m) := by
  unfold regT
  split
  · intro x hx
    rcases List.mem_append.1 hx with hx | hx
    · exact h x hx
    · simp at hx; subst hx; exact ⟨by show (0 : Int) ≤ 0; decide, by show (0 : Int) ≤ 52; decide⟩
  · exact h
theorem EAll.beg (h : EAll m) (id : Nat) : EAll (begT m id) := by
  unfold begT
  split
  · exact h
  · split
    · exact h
    · rename_i r hr
      intro x hx
      rcases mem_set hx with rfl | hx
      · exact h r (List.mem_of_getElem? hr)
      · exact h x hx
theorem EAll.fin (h : EAll m) (id s : Nat) {y : Ry} (hy : 0 ≤ y.err ∧ y.err ≤ 52) : EAll (endT m id s y) := by
  unfold endT
  split
  · exact h
  · split
    · exact h
    · rename_i r hr
      split
      · intro x hx
        rcases mem_set hx with rfl | hx
        · exact hy
        · exact h x hx
      · exact h
end
end Go.Proofs.YthaepkpmpnofgaaGreat.Back
set_option linter.unusedVariables false
set_option linter.unusedSimpArgs false
namespace Go.Proofs.YthaepkpmpnofgaaGreat.SaveD
open Go.RowKit Go.Proofs.YthaepkpmpnofgaaGreat.Kit Go.Proofs.YthaepkpmpnofgaaGreat.Blocks Go.Proofs.YthaepkpmpnofgaaGreat.Ses Go.Proofs.YthaepkpmpnofgaaGreat.Rws Go.Proofs.YthaepkpmpnofgaaGreat.Mch Go.Proofs.YthaepkpmpnofgaaGreat.MatD
open Go.Proofs.YthaepkpmpnofgaaGreat.Sag (Sg Snd)
open Go.Proofs.YthaepkpmpnofgaaGreat.Sgb (sgB)
open Go.Proofs.YthaepkpmpnofgaaGreat.SesB (tbB sane_fine)
open Go.Proofs.YthaepkpmpnofgaaGreat.Rdr (num9)
open Go.Proofs.YthaepkpmpnofgaaGreat.Num (num)
open Go.Proofs.YthaepkpmpnofgaaGreat.PlnWalkC (rnum_hid wrap_u)
open Go.Proofs.YthaepkpmpnofgaaGreat.Pln (u64 u64_lt planB planB_le chk_def isDef_yes nms)
open Go.Proofs.YthaepkpmpnofgaaGreat.PckWalkH (str str_size str_append)

def oneB (x : Nat × Sg) : List UInt8 := num x.1 ++ sgB x.2
def mcsB (l : List (Nat × Sg)) : List UInt8 := l.flatMap oneB
def mcB (m : Mc) : List UInt8 := tbB m.t ++ (num m.l.length ++ mcsB m.l)
theorem sgB_le {s : Sg} (h : Snd s) : (sgB s).length ≤ 10027 := by
  have h0 := planB_le (chk_def h.1)
  have h1 := num9 (u64_lt s.st)
  have h2 := num9 (u64_lt s.cu)
  have h3 := num9 (u64_lt s.fa)
  unfold Sgb.sgB
  simp only [List.length_append]
  omega
theorem oneB_le {x : Nat × Sg} (hu : U x.1) (h : Snd x.2) : (oneB x).length ≤ 10036 := by
  have h0 := sgB_le h
  have h1 := num9 hu
  unfold oneB
  rw [List.length_append]
  omega
theorem mcsB_le : ∀ {l : List (Nat × Sg)}, (∀ x ∈ l, U x.1) → (∀ x ∈ l, Snd x.2) → (mcsB l).length ≤ l.length * 10036
  | [], _, _ => by simp [mcsB]
  | x :: l, hu, hs => by
    have h1 := oneB_le (hu x List.mem_cons_self) (hs x List.mem_cons_self)
    have h2 := mcsB_le (l := l) (fun y hy => hu y (List.mem_cons_of_mem _ hy)) fun y hy => hs y (List.mem_cons_of_mem _ hy)
    have e0 : mcsB (x :: l) = oneB x ++ mcsB l := by simp [mcsB]
    rw [e0, List.length_append, List.length_cons]
    omega
theorem mcsB_take {l : List (Nat × Sg)} {j : Nat} {x : Nat × Sg} (h : l[j]? = some x) : mcsB (l.take (j + 1)) = mcsB (l.take j) ++ oneB x := by
  obtain ⟨hj, rfl⟩ := List.getElem?_eq_some_iff.1 h
  unfold mcsB
  rw [List.take_succ_eq_append_getElem hj, List.flatMap_append, List.flatMap_cons, List.flatMap_nil, List.append_nil]
theorem mcB_le {m : Mc} (h : Fit m) : (mcB m).length ≤ 170000 := by
  have h1 := Back.tbB_le h.tb
  have h2 := num9 (x := m.l.length) (by have := h.few; omega)
  have h3 := mcsB_le h.u h.snd
  have h4 := h.few
  unfold mcB
  simp only [List.length_append]
  omega
/-- A sound saga's steps have few letters. -/
theorem snd_room {s : Sg} (h : Snd s) : nms s.l + s.l.length * 27 ≤ 140737480000000 := by
  obtain ⟨h1, h2, h3⟩ := isDef_yes (chk_def h.1)
  have hn : nms s.l ≤ s.l.length * 16 := by
    generalize s.l = l at h3
    clear h1 h2
    induction l with
    | nil => simp [Pln.nms]
    | cons e l ih =>
      have := (Pln.okS_yes (h3 e List.mem_cons_self)).2.2.2.1
      have := ih fun x hx => h3 x (List.mem_cons_of_mem _ hx)
      rw [Pln.nms_cons, List.length_cons]; omega
  omega
set_option maxRecDepth 100000 in
set_option maxHeartbeats 16000000 in
theorem dsave_any {B : Nat} {w : World} {p : Nat} {vR vI vS : Value} {m : Mc} {hs : List Hs} (h : MD B w p vR vI vS m hs) (hf : Fit m) {S : ByteArray} (hS : Hid (str (mcB m) = S)) :
    Calls Tryz.prog 38 #[.pointer (some ⟨p, 0, none⟩)] w fun e w' => e = .returned (.string S) ∧ Below w.heap.size w w' := by
  have hd := h.below ((Below.refl w.heap.size w).drew)
  have hlen := h.len
  have c3 := h.c3
  have c4 := h.c4
  have hp := h.plt
  have htl := Back.tbB_le hf.tb
  have hml := fun j => mcsB_le (l := m.l.take j) (fun x hx => hf.u x (List.mem_of_mem_take hx)) fun x hx => hf.snd x (List.mem_of_mem_take hx)
  have h16 := hf.few
  obtain ⟨T, hT⟩ : ∃ T, tbB m.t = T := ⟨_, rfl⟩
  obtain ⟨F1, hF1⟩ : ∃ F, str (tbB m.t) = F := ⟨_, rfl⟩
  have HBY := Lib.hid (RefE.bytes_any hd.tb ⟨hf.tb.now, hf.tb.next⟩ (sane_fine hf.tb) hf.tb.few (Lib.hid hF1))
  obtain ⟨A, c, hvI, hnc, hcm, hrI⟩ := h.idform
  obtain ⟨A', c', hvS, hnc', hcm', hrS⟩ := h.sgform
  obtain ⟨n, hn⟩ : ∃ n, m.l.length = n := ⟨_, rfl⟩
  rw [hlen] at hvS hnc' hrS
  have hS' := hS.out
  unfold mcB at hS'
  rw [hn] at hvI hnc hrI hvS hnc' hrS h16 hS'
  rw [hT] at htl hS' hF1
  have hU3 : n < 18446744073709551616 := by omega
  have z0 := wrap_u n hU3
  obtain ⟨F2, hF2⟩ : ∃ F, str (num n) = F := ⟨_, rfl⟩
  have hn9 := num9 hU3
  have q1 : F1.size ≤ 1000 := by rw [← hF1, str_size]; exact htl
  have q2 : F2.size ≤ 9 := by rw [← hF2, str_size]; exact hn9
  have u1 : ¬ 9223372036854775807 < F1.size + F2.size := by omega
  have HST : Hid (F1 ++ F2 = str (T ++ num n ++ mcsB (m.l.take 0))) := by
    have : F1 ++ F2 = str (T ++ num n ++ mcsB (m.l.take 0)) := by rw [← hF1, ← hF2, str_append]; simp [mcsB]
    exact this
  have HALL : Hid (str (T ++ num n ++ mcsB m.l) = S) := by
    have : str (T ++ num n ++ mcsB m.l) = S := by rw [← hS', List.append_assoc]
    exact this
  have HF2 := Lib.hid hF2
  have HN := Lib.hid hn
  have HL := Lib.hid hlen
  have HRI := Lib.hid hrI
  have HRS := Lib.hid hrS
  have H := Lib.hid h
  have HF := Lib.hid hf
  have HML := Lib.hid hml
  have HTL := Lib.hid (And.intro htl hn9)
  have t3 : w.drew.cell? ⟨p, 3, none⟩ = some vI := c3
  have hD := (Below.refl w.heap.size w).drew
  clear h hd hf hS hS' hT hF1 hF2 hn hlen hrI hrS hml htl hn9 q1 q2
  subst hvI hvS
  go_enter Tryz.func38, Tryz.ntmps38
  go_wp2_with fail
  go_region_held3 (fun W => W.cell? ⟨p, 3, none⟩ = some (.slice A n c))
    (first
      | exact t3
      | exact (hA.cell (p := ⟨p, 3, none⟩) hp).trans c3
      | exact (hC.cell (p := ⟨p, 3, none⟩) hp).trans c3)
    (first
      | (go_at_call 77
         (with_reducible refine HBY.out.mono ?_)
         rintro e wA ⟨rfl, hx⟩
         have hA : Below w.heap.size w wA := hD.trans hx)
      | (go_at_call 78
         (with_reducible refine (rnum_hid n _ hU3 HF2).mono ?_)
         rintro e wB ⟨rfl, hx⟩
         have hC : Below w.heap.size w wB := hA.trans (hx.mono hA.size)))
  have HC := Lib.hid hC
  clear hC hA t3 hD u1 c3 c4
  go_wp2_with fail
  go_loopw [3, 4] (fun s z wr => ∃ j : Nat, j ≤ n ∧ z = .int .i64 (j : Int) ∧ s = .string (str (T ++ num n ++ mcsB (m.l.take j))) ∧ Hid (Below w.heap.size w wr)) (fun _ z _ => n - (intOf z).toNat)
  case atStart => exact ⟨0, by omega, rfl, by rw [HST.out], HC⟩
  case round =>
    obtain ⟨j, hj, rfl, rfl, HB⟩ := hrel
    clear HC
    have hr := H.out.below HB.out
    have c3 := hr.c3
    have c4 := hr.c4
    have hpr := hr.plt
    clear hr
    by_cases hjn : j < n
    · obtain ⟨b, o, y, hA, hbl, hy, hcell⟩ := id_at HRI.out hjn
      obtain ⟨b', o', e, hA', hbl', he, hfs⟩ := RG.at_ HRS.out hjn
      have yc := (HB.out.cell (p := ⟨b, o + j, none⟩) hbl).trans hcell
      have hf1 := hfs.below HB.out hbl'
      have hbr := Nat.lt_of_lt_of_le hbl HB.out.size
      have hbr' := Nat.lt_of_lt_of_le hbl' HB.out.size
      obtain ⟨f0, f1, f2, f3⟩ : _ ∧ _ ∧ _ ∧ _ := ⟨hf1.c0, hf1.c1, hf1.c2, hf1.c3⟩
      have hes : e.s = y.2 := by
        have h1 := congrArg (fun l => l[j]?) H.out.said
        simp only [List.getElem?_map, he, hy, Option.map_some] at h1
        exact Option.some.inj h1
      have hyu := HF.out.u y (List.mem_of_getElem? hy)
      have hys := HF.out.snd y (List.mem_of_getElem? hy)
      have hat := ((H.out.steps e (List.mem_of_getElem? he)).1).below HB.out
      obtain ⟨P, hP⟩ : ∃ P, str (T ++ num n ++ mcsB (m.l.take j)) = P := ⟨_, rfl⟩
      obtain ⟨G1, hG1⟩ : ∃ F, str (num y.1) = F := ⟨_, rfl⟩
      obtain ⟨G2, hG2⟩ : ∃ F, str (sgB e.s) = F := ⟨_, rfl⟩
      have hPs : P.size ≤ 200000 := by
        rw [← hP, str_size, List.length_append, List.length_append]
        have h1 := HML.out j
        have h2 : (m.l.take j).length ≤ 16 := by rw [List.length_take, HN.out]; omega
        have := HTL.out
        omega
      have g1 : G1.size ≤ 9 := by rw [← hG1, str_size]; exact num9 hyu
      have g2 : G2.size ≤ 10027 := by rw [← hG2, str_size, hes]; exact sgB_le hys
      have u1 : ¬ 9223372036854775807 < G1.size + G2.size := by omega
      have u2 : ¬ 9223372036854775807 < P.size + (G1.size + G2.size) := by omega
      have HNX : Hid (P ++ (G1 ++ G2) = str (T ++ num n ++ mcsB (m.l.take (j + 1)))) := by
        have : P ++ (G1 ++ G2) = str (T ++ num n ++ mcsB (m.l.take (j + 1))) := by
          rw [← hP, ← hG1, ← hG2, str_append, str_append, mcsB_take hy, hes]
          simp [oneB, List.append_assoc]
        exact this
      have HSB := Lib.hid (fun (W : World) (k : Below wr.heap.size wr W) => Rby.sbytes_any (c := e.c) (hat.below k) (by rw [hes]; exact snd_room hys) (Lib.hid hG2))
      have HG1 := Lib.hid hG1
      have HJ := Lib.hid hjn
      have hD := Lib.hid ((Below.refl wr.heap.size wr).drew)
      have hjn' : (j : Int) < (n : Int) := by omega
      have hj0 : (0 : Int) ≤ (j : Int) := by omega
      have X : Hid (∀ W, Below wr.heap.size wr W → W.cell? ⟨p, 3, none⟩ = some (.slice (some ⟨b, o, none⟩) n c) ∧ W.cell? ⟨b, o + j, none⟩ = some (.int .u64 (y.1 : Int)) ∧ W.cell? ⟨p, 4, none⟩ = some (.slice (some ⟨b', o', none⟩) n c') ∧ W.cell? ⟨b', o' + j * 4, none⟩ = some (.slice e.A e.s.l.length e.c) ∧ W.cell? ⟨b', o' + j * 4 + 1, none⟩ = some (.int .i64 e.s.st) ∧ W.cell? ⟨b', o' + j * 4 + 2, none⟩ = some (.int .i64 e.s.cu) ∧ W.cell? ⟨b', o' + j * 4 + 3, none⟩ = some (.int .i64 e.s.fa)) := by
        subst hA hA'
        exact fun W k => ⟨(k.cell (p := ⟨p, 3, none⟩) hpr).trans c3, (k.cell (p := ⟨b, o + j, none⟩) hbr).trans yc, (k.cell (p := ⟨p, 4, none⟩) hpr).trans c4, (k.cell (p := ⟨b', o' + j * 4, none⟩) hbr').trans f0, (k.cell (p := ⟨b', o' + j * 4 + 1, none⟩) hbr').trans f1, (k.cell (p := ⟨b', o' + j * 4 + 2, none⟩) hbr').trans f2, (k.cell (p := ⟨b', o' + j * 4 + 3, none⟩) hbr').trans f3⟩
      rw [hP]
      clear hcell hfs hf1 hy he hes hys hat hP hG1 hG2 hPs g1 g2 yc f0 f1 f2 f3
      subst hA hA'
      go_wp2_with fail
      go_region_held3 (fun W => W.cell? ⟨p, 3, none⟩ = some (.slice (some ⟨b, o, none⟩) n c) ∧ W.cell? ⟨b, o + j, none⟩ = some (.int .u64 (y.1 : Int)) ∧ W.cell? ⟨p, 4, none⟩ = some (.slice (some ⟨b', o', none⟩) n c') ∧ W.cell? ⟨b', o' + j * 4, none⟩ = some (.slice e.A e.s.l.length e.c) ∧ W.cell? ⟨b', o' + j * 4 + 1, none⟩ = some (.int .i64 e.s.st) ∧ W.cell? ⟨b', o' + j * 4 + 2, none⟩ = some (.int .i64 e.s.cu) ∧ W.cell? ⟨b', o' + j * 4 + 3, none⟩ = some (.int .i64 e.s.fa))
        (first
          | exact X.out _ hD.out
          | exact X.out _ hE
          | exact X.out _ hK)
        (first
          | (go_at_call 78
             (with_reducible refine (rnum_hid y.1 _ hyu HG1).mono ?_)
             rintro en wA ⟨rfl, hx⟩
             have hE := hD.out.trans hx)
          | (go_at_call 79
             (with_reducible refine (HSB.out _ hE).mono ?_)
             rintro en wB ⟨rfl, hx⟩
             have hK := hE.trans (hx.mono hE.size)))
      have HK : Hid (Below w.heap.size w wB) := HB.out.trans (hK.mono HB.out.size)
      clear hK hE
      go_wp2
      go_roundw
      case rel => exact ⟨j + 1, HJ.out, by go_num, by rw [HNX.out], HK⟩
      case measure => have := HJ.out; simp [intOf]; omega
    · obtain rfl : j = n := by omega
      have hall : m.l.take j = m.l := List.take_of_length_le (by rw [HN.out]; exact Nat.le_refl _)
      rw [hall, HALL.out]
      clear hall hjn
      go_wp2
      go_ret
      exact ⟨rfl, HB.out⟩
end Go.Proofs.YthaepkpmpnofgaaGreat.SaveD
set_option linter.unusedVariables false
set_option linter.unusedSimpArgs false
namespace Go.Proofs.YthaepkpmpnofgaaGreat.SsnWalkH
open Go.RowKit Go.Proofs.YthaepkpmpnofgaaGreat.Kit Go.Proofs.YthaepkpmpnofgaaGreat.Rdr Go.Proofs.YthaepkpmpnofgaaGreat.Ses Go.Proofs.YthaepkpmpnofgaaGreat.Rws Go.Proofs.YthaepkpmpnofgaaGreat.SesB Go.Proofs.YthaepkpmpnofgaaGreat.SsnWalkA
open Go.Proofs.YthaepkpmpnofgaaGreat.Num (num)
open Go.Proofs.YthaepkpmpnofgaaGreat.State (WV)

set_option maxRecDepth 100000 in
set_option maxHeartbeats 4000000 in
theorem write_any {T : Shape} {B p q : Nat} {w0 : World} {v u : Value} {m : Tb} {l0 l' : List UInt8} (h : PT T B w0 p v m) (hw : WV w0 q u l0) (hdis : ∀ g, Mine p v g → g ≠ q ∧ u.ownBlock ≠ some g)
    (hU : U m.now ∧ U m.next) (hf : ∀ r ∈ m.rows, Fine r) (h16 : m.rows.length ≤ 16) (hb : l0.length ≤ 1000000) (hl : Hid (l0 ++ tbB m = l')) :
    Calls Tryz.prog 48 #[.pointer (some ⟨p, 0, none⟩), .pointer (some ⟨q, 0, none⟩)] w0 fun e W' => e = .returned (.tuple #[]) ∧ Wrq w0 W' q u.ownBlock l' := by
  have c0 := h.c0
  have c1 := h.c1
  have c2 := h.c2
  have hp := h.plt
  obtain ⟨hpq, hpu⟩ := hdis p (.inl rfl)
  obtain ⟨A, c, hv, hnc, hcm, hr⟩ := h.form
  obtain ⟨n, hn⟩ : ∃ n, m.rows.length = n := ⟨_, rfl⟩
  obtain ⟨L, hL⟩ : ∃ L, m.rows = L := ⟨_, rfl⟩
  rw [hn] at hv hnc hr h16
  rw [hL] at hr hf
  rw [hv] at c2
  obtain ⟨NW, hNW⟩ : ∃ x, m.now = x := ⟨_, rfl⟩
  obtain ⟨NX, hNX⟩ : ∃ x, m.next = x := ⟨_, rfl⟩
  rw [hNW] at c0 hU
  rw [hNX] at c1 hU
  obtain ⟨hU1, hU2⟩ := hU
  have hU3 : n < 18446744073709551616 := by omega
  have z0 := wrap_u n hU3
  obtain ⟨a1, x1⟩ : ∃ a, l0 ++ num NW = a := ⟨_, rfl⟩
  obtain ⟨a2, x2⟩ : ∃ a, a1 ++ num NX = a := ⟨_, rfl⟩
  obtain ⟨a3, x3⟩ : ∃ a, a2 ++ num n = a := ⟨_, rfl⟩
  have q1 : a1.length ≤ l0.length + 9 := by rw [← x1, List.length_append]; have := num9 hU1; omega
  have q2 : a2.length ≤ l0.length + 18 := by rw [← x2, List.length_append]; have := num9 hU2; omega
  have q3 : a3.length ≤ l0.length + 27 := by rw [← x3, List.length_append]; have := num9 hU3; omega
  have HALL : Hid (a3 ++ rwsB L = l') := by
    have e : a3 ++ rwsB L = l' := by rw [← hl.out, ← x3, ← x2, ← x1]; unfold tbB; rw [hn, hL, hNW, hNX]; simp [List.append_assoc]
    exact e
  have HLEN : Hid (L.length = n) := by rw [← hL]; exact hn
  have HR := Lib.hid hr
  have HF := Lib.hid hf
  have X1 := Lib.hid x1
  have X2 := Lib.hid x2
  have X3 := Lib.hid x3
  have hW0 := (Wrq.new hw).drew
  have t0 := hW0.cell c0 hp hpq hpu
  have t1 := hW0.cell c1 hp hpq hpu
  have t2 := hW0.cell c2 hp hpq hpu
  have r0 : l0.length ≤ 140737488355000 := by omega
  have r1 : a1.length ≤ 140737488355000 := by omega
  have r2 : a2.length ≤ 140737488355000 := by omega
  have hgr : ∀ g, v.ownBlock = some g → g ≠ q ∧ u.ownBlock ≠ some g := fun g hg => hdis g (.inr hg)
  have HG : Hid (∀ b o, A = some ⟨b, o, none⟩ → 0 < n → b ≠ q ∧ u.ownBlock ≠ some b) := fun b o e h0 => by
    rcases h.own.2 with ⟨e1, h1⟩ | ⟨g, cap, cur, e1, _⟩
    · omega
    · have hA : A = some ⟨g, 0, none⟩ := by rw [hv] at e1; injection e1
      rw [e] at hA
      cases hA
      exact hgr b (by rw [e1]; rfl)
  clear h hw hdis hL hNW hNX x1 x2 x3 hr hf hl hgr hv hn
  go_enter Tryz.func48, Tryz.ntmps48
  go_wp2_with fail
  go_region_held3 (fun w' => w'.cell? ⟨p, 0, none⟩ = some (.int .u64 (NW : Int)) ∧ w'.cell? ⟨p, 1, none⟩ = some (.int .u64 (NX : Int)) ∧ w'.cell? ⟨p, 2, none⟩ = some (.slice A n c))
    (first
      | exact ⟨t0, t1, t2⟩
      | exact ⟨hWC.cell c0 hp hpq hpu, hWC.cell c1 hp hpq hpu, hWC.cell c2 hp hpq hpu⟩
      | exact ⟨hWB.cell c0 hp hpq hpu, hWB.cell c1 hp hpq hpu, hWB.cell c2 hp hpq hpu⟩
      | exact ⟨hWA.cell c0 hp hpq hpu, hWA.cell c1 hp hpq hpu, hWA.cell c2 hp hpq hpu⟩)
    (first
      | (go_at_call 49
         (with_reducible refine (wrq_num NW hW0 hU1 r0 X1).mono ?_)
         rintro e wA ⟨rfl, hWA⟩)
      | (go_at_call 49
         (with_reducible refine (wrq_num NX hWA hU2 r1 X2).mono ?_)
         rintro e wB ⟨rfl, hWB⟩)
      | (go_at_call 49
         (with_reducible refine (wrq_num n hWB hU3 r2 X3).mono ?_)
         rintro e wC ⟨rfl, hWC⟩))
  have s2 := hWC.cell c2 hp hpq hpu
  have s3 : p < wC.heap.size := Nat.lt_of_lt_of_le hp hWC.only.size
  have HWC := Lib.hid hWC
  have HWS : Hid (Wrq w0 wC q u.ownBlock (a3 ++ rwsB (L.take 0))) := by
    have e : a3 ++ rwsB (L.take 0) = a3 := by simp [rwsB]
    rw [e]
    exact hWC
  clear hWC hWB hWA hW0 t0 t1 t2 c0 c1 c2
  go_wp2
  go_loopw [31] (fun x wr => ∃ j : Nat, j ≤ n ∧ x = .int .i64 (j : Int) ∧ Hid (Wrq w0 wr q u.ownBlock (a3 ++ rwsB (L.take j)))) (fun x _ => n - (intOf x).toNat)
  case atStart => exact ⟨0, by omega, rfl, HWS.out⟩
  case round =>
    obtain ⟨j, hj, rfl, hW⟩ := hrel
    clear HWC HWS
    by_cases hjn : j < n
    · have HJ := Lib.hid hjn
      obtain ⟨b, o, r, rfl, hbl, hrj, hsix⟩ := RR.at_ HR.out hjn
      obtain ⟨hb1, hb2⟩ := HG.out b o rfl (by omega)
      have hlt := Nat.lt_of_lt_of_le hbl hW.out.only.size
      have y0 := hW.out.cell hsix.c0 hbl hb1 hb2
      have y1 := hW.out.cell hsix.c1 hbl hb1 hb2
      have y2 := hW.out.cell hsix.c2 hbl hb1 hb2
      have y3 := hW.out.cell hsix.c3 hbl hb1 hb2
      have y4 := hW.out.cell hsix.c4 hbl hb1 hb2
      have y5 := hW.out.cell hsix.c5 hbl hb1 hb2
      have htake := rwsB_take hrj
      have hfr := HF.out r (List.mem_of_getElem? hrj)
      have hlj := rwsB_le (l := L.take j) fun x hx => HF.out x (List.mem_of_mem_take hx)
      have hltj : (L.take j).length ≤ j := by rw [List.length_take]; omega
      have z3 := u64_wrap r.y.err
      have v3 := u64_lt r.y.err
      obtain ⟨v0, v1, v2, v4, v5⟩ := hfr
      obtain ⟨me, hme⟩ : ∃ x, u64 r.y.err = x := ⟨_, rfl⟩
      have hrwb : rwB r = num r.id ++ (num r.used ++ (num r.seq ++ (num me ++ (num r.y.num ++ num r.y.ext)))) := by rw [← hme]; rfl
      rw [hme] at z3 v3
      obtain ⟨d0, k0⟩ : ∃ a, a3 ++ rwsB (L.take j) = a := ⟨_, rfl⟩
      have g0 : d0.length ≤ l0.length + 27 + j * 54 := by rw [← k0, List.length_append]; omega
      obtain ⟨d1, k1⟩ : ∃ a, d0 ++ num r.id = a := ⟨_, rfl⟩
      obtain ⟨d2, k2⟩ : ∃ a, d1 ++ num r.used = a := ⟨_, rfl⟩
      obtain ⟨d3, k3⟩ : ∃ a, d2 ++ num r.seq = a := ⟨_, rfl⟩
      obtain ⟨d4, k4⟩ : ∃ a, d3 ++ num me = a := ⟨_, rfl⟩
      obtain ⟨d5, k5⟩ : ∃ a, d4 ++ num r.y.num = a := ⟨_, rfl⟩
      obtain ⟨d6, k6⟩ : ∃ a, d5 ++ num r.y.ext = a := ⟨_, rfl⟩
      have g1 : d1.length ≤ d0.length + 9 := by rw [← k1, List.length_append]; have := num9 v0; omega
      have g2 : d2.length ≤ d1.length + 9 := by rw [← k2, List.length_append]; have := num9 v1; omega
      have g3 : d3.length ≤ d2.length + 9 := by rw [← k3, List.length_append]; have := num9 v2; omega
      have g4 : d4.length ≤ d3.length + 9 := by rw [← k4, List.length_append]; have := num9 v3; omega
      have g5 : d5.length ≤ d4.length + 9 := by rw [← k5, List.length_append]; have := num9 v4; omega
      have e0 : d0.length ≤ 140737488355000 := by omega
      have e1 : d1.length ≤ 140737488355000 := by omega
      have e2 : d2.length ≤ 140737488355000 := by omega
      have e3 : d3.length ≤ 140737488355000 := by omega
      have e4 : d4.length ≤ 140737488355000 := by omega
      have e5 : d5.length ≤ 140737488355000 := by omega
      have HN6 : Hid (a3 ++ rwsB (L.take (j + 1)) = d6) := by
        have e : a3 ++ rwsB (L.take (j + 1)) = d6 := by rw [htake, ← List.append_assoc, k0, ← k6, ← k5, ← k4, ← k3, ← k2, ← k1, hrwb]; simp [List.append_assoc]
        exact e
      obtain ⟨id, us, sq, ⟨ye, yn, yx⟩⟩ := r
      simp only at y0 y1 y2 y3 y4 y5 z3 v0 v1 v2 v4 v5 k1 k2 k3 k5 k6
      have K1 := Lib.hid k1
      have K2 := Lib.hid k2
      have K3 := Lib.hid k3
      have K4 := Lib.hid k4
      have K5 := Lib.hid k5
      have K6 := Lib.hid k6
      have hW' := hW.out
      rw [k0] at hW'
      have hK := (hW'.alloc (.cells #[.int .u64 (id : Int), .int .u64 (us : Int), .int .u64 (sq : Int), .int .i64 ye, .int .u64 (yn : Int), .int .u64 (yx : Int)] 63)).drew
      have t0 := hK.cell rfl 0
      have t1 := hK.cell rfl 1
      have t2 := hK.cell rfl 2
      simp only [List.getElem?_toArray, List.getElem?_cons_zero, List.getElem?_cons_succ] at t0 t1 t2
      obtain ⟨G, hG⟩ : ∃ G, wr.heap.size = G := ⟨_, rfl⟩
      rw [hG] at hK t0 t1 t2
      clear hsix htake hlj hltj hme hrwb k0 k1 k2 k3 k4 k5 k6 g0 g1 g2 g3 g4 g5 hb q1 q2 q3 hrj hW hW'
      go_wp2_with fail
      go_region_held3 (fun w' => w'.cell? ⟨G, 0, none⟩ = some (.int .u64 (id : Int)) ∧ w'.cell? ⟨G, 1, none⟩ = some (.int .u64 (us : Int)) ∧ w'.cell? ⟨G, 2, none⟩ = some (.int .u64 (sq : Int)))
        (first
          | exact ⟨t0, t1, t2⟩
          | exact ⟨hWC.cell rfl 0, hWC.cell rfl 1, hWC.cell rfl 2⟩
          | exact ⟨hWB.cell rfl 0, hWB.cell rfl 1, hWB.cell rfl 2⟩
          | exact ⟨hWA.cell rfl 0, hWA.cell rfl 1, hWA.cell rfl 2⟩)
        (first
          | (go_at_call 49
             (with_reducible refine (wrb_num id hK v0 e0 K1).mono ?_)
             rintro e wA ⟨rfl, hWA⟩)
          | (go_at_call 49
             (with_reducible refine (wrb_num us hWA v1 e1 K2).mono ?_)
             rintro e wB ⟨rfl, hWB⟩)
          | (go_at_call 49
             (with_reducible refine (wrb_num sq hWB v2 e2 K3).mono ?_)
             rintro e wC ⟨rfl, hWC⟩))
      have hK2 := hWC.drew
      have t3 := hK2.cell rfl 3
      have t4 := hK2.cell rfl 4
      have t5 := hK2.cell rfl 5
      simp only [List.getElem?_toArray, List.getElem?_cons_zero, List.getElem?_cons_succ] at t3 t4 t5
      have hGlt : G < wC.heap.size := State.lt_at hWC.at_
      clear hWC hWB hWA hK t0 t1 t2
      go_wp2_with fail
      go_region_held3 (fun w' => w'.cell? ⟨G, 3, none⟩ = some (.int .i64 ye) ∧ w'.cell? ⟨G, 4, none⟩ = some (.int .u64 (yn : Int)) ∧ w'.cell? ⟨G, 5, none⟩ = some (.int .u64 (yx : Int)))
        (first
          | exact ⟨t3, t4, t5⟩
          | exact ⟨hWF.cell rfl 3, hWF.cell rfl 4, hWF.cell rfl 5⟩
          | exact ⟨hWE.cell rfl 3, hWE.cell rfl 4, hWE.cell rfl 5⟩
          | exact ⟨hWD.cell rfl 3, hWD.cell rfl 4, hWD.cell rfl 5⟩)
        (first
          | (go_at_call 49
             (with_reducible refine (wrb_num me hK2 v3 e3 K4).mono ?_)
             rintro e wD ⟨rfl, hWD⟩)
          | (go_at_call 49
             (with_reducible refine (wrb_num yn hWD v4 e4 K5).mono ?_)
             rintro e wE ⟨rfl, hWE⟩)
          | (go_at_call 49
             (with_reducible refine (wrb_num yx hWE v5 e5 K6).mono ?_)
             rintro e wF ⟨rfl, hWF⟩))
      have hWZ := hWF.wrq
      rw [← HN6.out] at hWZ
      have HWZ := Lib.hid hWZ
      clear hWF hWE hWD hK2 t3 t4 t5 hWZ
      go_wp2
      go_roundw
      case rel => exact ⟨j + 1, HJ.out, by go_num, HWZ.out⟩
      case measure => have := HJ.out; simp [intOf]; omega
    · obtain rfl : j = n := by omega
      have hall : L.take j = L := List.take_of_length_le (by rw [HLEN.out]; exact Nat.le_refl _)
      have hW' := hW.out
      rw [hall, HALL.out] at hW'
      have HW := Lib.hid hW'
      clear hW hW'
      go_wp2
      go_end0
      exact ⟨rfl, HW.out⟩
end Go.Proofs.YthaepkpmpnofgaaGreat.SsnWalkH
set_option linter.unusedVariables false
set_option linter.unusedSimpArgs false
namespace Go.Proofs.YthaepkpmpnofgaaGreat.Wrq
open Go.RowKit Go.Proofs.YthaepkpmpnofgaaGreat.Kit Go.Proofs.YthaepkpmpnofgaaGreat.Rdr
open Go.Proofs.YthaepkpmpnofgaaGreat.Num (num)
open Go.Proofs.YthaepkpmpnofgaaGreat.State (WV Wrote Step cell_at free_at lt_at)

/-! ### A writer beside a world -/
/-- Since w0 nothing but the writer's own was written; a block g that it has not. -/
structure Wrb (w0 W : World) (q : Nat) (u0 : Option Nat) (l : List UInt8) (g : Nat) (ob : Obj) : Prop where
  ex : ∃ u, WV W q u l ∧ Step q u0 u.ownBlock w0 W ∧ u.ownBlock ≠ some g
  ne : g ≠ q
  at_ : W.heap[g]? = some ob
structure Wrq (w0 W : World) (q : Nat) (u0 : Option Nat) (l : List UInt8) : Prop where
  ex : ∃ u, WV W q u l ∧ Step q u0 u.ownBlock w0 W
section
variable {w0 W W' : World} {q g : Nat} {u0 : Option Nat} {l : List UInt8} {ob : Obj}
theorem Wrq.new {w : World} {u : Value} (h : WV w q u l) : Wrq w w q u.ownBlock l := ⟨⟨u, h, Step.refl _ _ _⟩⟩
theorem Wrq.only (h : Wrq w0 W q u0 l) : State.Only (fun k => k = q ∨ u0 = some k) w0 W := by
  obtain ⟨u, _, h2⟩ := h.ex
  exact h2.only
theorem Wrq.heap (h : Wrq w0 W q u0 l) {k : Nat} {o : Obj} (hk : w0.heap[k]? = some o) (h1 : k ≠ q) (h2 : u0 ≠ some k) : W.heap[k]? = some o :=
  (h.only.block k (lt_at hk) fun e => e.elim h1 h2).trans hk
theorem Wrq.cell (h : Wrq w0 W q u0 l) {a : Addr} {v : Value} (hc : w0.cell? a = some v) (ha : a.block < w0.heap.size) (h1 : a.block ≠ q) (h2 : u0 ≠ some a.block) : W.cell? a = some v :=
  (World.cell?_of_block (h.only.block a.block ha fun e => e.elim h1 h2)).trans hc
theorem Wrb.wrq (h : Wrb w0 W q u0 l g ob) : Wrq w0 W q u0 l := by
  obtain ⟨u, h1, h2, _⟩ := h.ex
  exact ⟨⟨u, h1, h2⟩⟩
theorem Wrq.drew (h : Wrq w0 W q u0 l) : Wrq w0 W.drew q u0 l := by
  obtain ⟨u, h1, h2⟩ := h.ex
  exact ⟨⟨u, h1.below ((Below.refl _ _).drew), h2.only.drew, h2.next⟩⟩
theorem Wrb.drew (h : Wrb w0 W q u0 l g ob) : Wrb w0 W.drew q u0 l g ob := by
  obtain ⟨u, h1, h2, h3⟩ := h.ex
  exact ⟨⟨u, h1.below ((Below.refl _ _).drew), ⟨h2.only.drew, h2.next⟩, h3⟩, h.ne, h.at_⟩
theorem Wrq.alloc (h : Wrq w0 W q u0 l) (o : Obj) : Wrb w0 (W.alloc o) q u0 l W.heap.size o := by
  obtain ⟨u, h1, h2⟩ := h.ex
  have hb : Below W.heap.size W (W.alloc o) := (Below.refl _ _).alloc (Nat.le_refl _) o
  refine ⟨⟨u, h1.below hb, h2.trans ⟨State.Only.of_below hb, .inl rfl⟩, fun e => ?_⟩, fun e => ?_, heap_alloc_new W o⟩
  · have := (h1.row _ e).2; omega
  · have := h1.lt; omega
theorem Wrb.cell (h : Wrb w0 W q u0 l g ob) {cs : Array Value} {t : TypeId} (e : ob = .cells cs t (0, 0)) (i : Nat) : W.cell? ⟨g, i, none⟩ = cs[i]? := by
  subst e
  exact cell_at h.at_ i
theorem wrq_num {l' : List UInt8} (x : Nat) (h : Wrq w0 W q u0 l) (hx : x < 18446744073709551616) (hl : l.length ≤ 140737488355000) (he : Hid (l ++ num x = l')) :
    Calls Tryz.prog 49 #[.pointer (some ⟨q, 0, none⟩), .int .u64 (x : Int)] W fun e W' => e = .returned (.pointer (some ⟨q, 0, none⟩)) ∧ Wrq w0 W' q u0 l' := by
  obtain ⟨u, hu, hs⟩ := h.ex
  refine (PckWalkA.num_any q u l x W hu hx hl).mono ?_
  intro e W' k
  rw [he.out] at k
  obtain ⟨rfl, v', h1, h2⟩ := k
  exact ⟨rfl, ⟨v', h1, hs.trans h2⟩⟩
theorem wrb_num {l' : List UInt8} (x : Nat) (h : Wrb w0 W q u0 l g ob) (hx : x < 18446744073709551616) (hl : l.length ≤ 140737488355000) (he : Hid (l ++ num x = l')) :
    Calls Tryz.prog 49 #[.pointer (some ⟨q, 0, none⟩), .int .u64 (x : Int)] W fun e W' => e = .returned (.pointer (some ⟨q, 0, none⟩)) ∧ Wrb w0 W' q u0 l' g ob := by
  obtain ⟨u, hu, hs, hn⟩ := h.ex
  refine (PckWalkA.num_any q u l x W hu hx hl).mono ?_
  intro e W' k
  rw [he.out] at k
  obtain ⟨rfl, v', h1, h2⟩ := k
  have hg := lt_at h.at_
  refine ⟨rfl, ⟨v', h1, hs.trans h2, fun e => ?_⟩, h.ne, ?_⟩
  · rcases h2.next with e1 | ⟨k, e1, hk⟩
    · exact hn (e1 ▸ e)
    · rw [e1] at e; cases e; omega
  · exact (h2.only.block g hg fun e => e.elim h.ne hn).trans h.at_
end
section
variable {w0 W W' : World} {q g : Nat} {u0 : Option Nat} {l : List UInt8} {ob : Obj}
theorem wrb_text {l' : List UInt8} (s : ByteArray) (h : Wrb w0 W q u0 l g ob) (hl : l.length + s.size ≤ 140737488355000) (he : Hid (l ++ PckWalkB.text s = l')) :
    Calls Tryz.prog 110 #[.pointer (some ⟨q, 0, none⟩), .string s] W fun e W' => e = .returned (.pointer (some ⟨q, 0, none⟩)) ∧ Wrb w0 W' q u0 l' g ob := by
  obtain ⟨u, hu, hs, hn⟩ := h.ex
  refine (PckWalkB.text_any q u l s W hu hl).mono ?_
  intro e W' k
  rw [he.out] at k
  obtain ⟨rfl, v', h1, h2⟩ := k
  have hg := lt_at h.at_
  refine ⟨rfl, ⟨v', h1, hs.trans h2, fun e => ?_⟩, h.ne, ?_⟩
  · rcases h2.next with e1 | ⟨k, e1, hk⟩
    · exact hn (e1 ▸ e)
    · rw [e1] at e; cases e; omega
  · exact (h2.only.block g hg fun e => e.elim h.ne hn).trans h.at_
end
end Go.Proofs.YthaepkpmpnofgaaGreat.Wrq
set_option linter.unusedVariables false
set_option linter.unusedSimpArgs false
namespace Go.Proofs.YthaepkpmpnofgaaGreat.Pwr
open Go.RowKit Go.Proofs.YthaepkpmpnofgaaGreat.Kit Go.Proofs.YthaepkpmpnofgaaGreat.Rdr Go.Proofs.YthaepkpmpnofgaaGreat.Stq Go.Proofs.YthaepkpmpnofgaaGreat.Pln Go.Proofs.YthaepkpmpnofgaaGreat.Sag Go.Proofs.YthaepkpmpnofgaaGreat.SagAt Go.Proofs.YthaepkpmpnofgaaGreat.Sgb Go.Proofs.YthaepkpmpnofgaaGreat.Wrq Go.Proofs.YthaepkpmpnofgaaGreat.PlnWalkC
open Go.Proofs.YthaepkpmpnofgaaGreat.Num (num)
open Go.Proofs.YthaepkpmpnofgaaGreat.State (WV cell_at free_at lt_at)
open Go.Proofs.YthaepkpmpnofgaaGreat.PckWalkB (text bit)
open Go.Proofs.YthaepkpmpnofgaaGreat.PckWalkH (str str_size str_append)

set_option maxRecDepth 100000 in
set_option maxHeartbeats 4000000 in
/-- The steps lie in a world, off the writer. -/
theorem pwrite_any {w0 W : World} {p : Nat} {u0 : Option Nat} {l0 l' : List UInt8} (h : Wrq w0 W p u0 l0) {A : Option Addr} {n c : Nat} {l : List Sp} (hr : RS w0 w0.heap.size A n l) (hoff : 0 < n → ∀ ad, A = some ad → ad.block ≠ p ∧ u0 ≠ some ad.block) (hb : l0.length + nms l + n * 27 ≤ 140737488000000) (hl : Hid (l0 ++ planB l = l')) :
    Calls Tryz.prog 87 #[.pointer (some ⟨p, 0, none⟩), .slice A n c] W fun e W' => e = .returned (.tuple #[]) ∧ Wrq w0 W' p u0 l' := by
  have hlen := RS.len hr
  have b0 : n < 18446744073709551616 := by omega
  have h63 : n ≤ 9223372036854775807 := by omega
  have z0 := wrap_u n b0
  obtain ⟨l1, e1⟩ : ∃ a, l0 ++ num n = a := ⟨_, rfl⟩
  have s1 : l1.length ≤ l0.length + 9 := by rw [← e1, List.length_append]; have := num9 b0; omega
  have HALL : Hid (l1 ++ spsB l = l') := by
    have e2 : l1 ++ spsB l = l' := by rw [← hl.out, ← e1]; unfold planB; rw [hlen, List.append_assoc]
    exact e2
  have E1 := Lib.hid e1
  have HLEN := Lib.hid hlen
  clear e1 hl hlen
  go_enter Tryz.func87, Tryz.ntmps87
  go_wp2_with fail
  with_reducible refine (wrq_num n h b0 (by omega) E1).mono ?_
  rintro e w1 ⟨rfl, h1⟩
  clear h
  go_wp2
  go_loopw [13] (fun x wr => ∃ j : Nat, j ≤ n ∧ x = .int .i64 (j : Int) ∧ Wrq w0 wr p u0 (l1 ++ spsB (l.take j))) (fun x _ => n - (intOf x).toNat)
  case atStart => exact ⟨0, by omega, rfl, by simpa [spsB] using h1⟩
  case round =>
    obtain ⟨j, hj, rfl, hW⟩ := hrel
    by_cases hjn : j < n
    · have HJ := Lib.hid hjn
      obtain ⟨bk, o, e, rfl, hbl, hej, hthree⟩ := RS.at_ hr hjn
      obtain ⟨hn1, hn2⟩ := hoff (by omega) _ rfl
      have y0 := hW.cell hthree.c0 hbl hn1 hn2
      have y1 := hW.cell hthree.c1 hbl hn1 hn2
      have y2 := hW.cell hthree.c2 hbl hn1 hn2
      have hbl2 := Nat.lt_of_lt_of_le hbl hW.only.size
      have htake := spsB_take hej
      have hnm := nms_at hej
      have hlj := spsB_le (l.take j) (by have := nms_take l j; omega)
      have hltj : (l.take j).length ≤ j := by rw [List.length_take]; omega
      obtain ⟨pt, nm, bg⟩ := e
      simp only at y0 y1 y2 hnm
      have v1 := u64_lt pt
      have v3 := u64_lt bg
      have z1 := u64_wrap pt
      have z3 := u64_wrap bg
      have hspb : spB ⟨pt, nm, bg⟩ = num (u64 pt) ++ (text nm ++ num (u64 bg)) := rfl
      obtain ⟨m1, hm1⟩ : ∃ m, u64 pt = m := ⟨_, rfl⟩
      obtain ⟨m3, hm3⟩ : ∃ m, u64 bg = m := ⟨_, rfl⟩
      rw [hm1] at v1 z1 hspb
      rw [hm3] at v3 z3 hspb
      obtain ⟨a0, x0⟩ : ∃ a, l1 ++ spsB (l.take j) = a := ⟨_, rfl⟩
      have q0 : a0.length ≤ l0.length + 9 + nms (l.take j) + j * 27 := by rw [← x0, List.length_append]; omega
      obtain ⟨a1, x1⟩ : ∃ a, a0 ++ num m1 = a := ⟨_, rfl⟩
      obtain ⟨a2, x2⟩ : ∃ a, a1 ++ text nm = a := ⟨_, rfl⟩
      obtain ⟨a3, x3⟩ : ∃ a, a2 ++ num m3 = a := ⟨_, rfl⟩
      have q1 : a1.length ≤ a0.length + 9 := by rw [← x1, List.length_append]; have := num9 v1; omega
      have q2 : a2.length ≤ a0.length + 18 + nm.size := by rw [← x2, List.length_append]; have := text_length nm (by omega); omega
      have r0 : a0.length ≤ 140737488355000 := by omega
      have r1 : a1.length + nm.size ≤ 140737488355000 := by omega
      have r2 : a2.length ≤ 140737488355000 := by omega
      have hA3 : Hid (l1 ++ spsB (l.take (j + 1)) = a3) := by
        have e1 : l1 ++ spsB (l.take (j + 1)) = a3 := by
          rw [htake, ← List.append_assoc, x0, ← x3, ← x2, ← x1, hspb]
          simp [List.append_assoc]
        exact e1
      rw [x0] at hW
      have X1 := Lib.hid x1
      have X2 := Lib.hid x2
      have X3 := Lib.hid x3
      have hK := (hW.alloc (.cells #[.int .i64 pt, .string nm, .int .i64 bg] 67)).drew
      have t0 := hK.cell rfl 0
      have t1 := hK.cell rfl 1
      have t2 := hK.cell rfl 2
      clear hthree hej htake hlj x0 x1 x2 x3 hltj h1 hm1 hm3 hspb hnm q0 q1 q2 hb s1
      go_wp2_with fail
      go_region_held3 (fun w' => w'.cell? ⟨wr.heap.size, 0, none⟩ = some (.int .i64 pt) ∧ w'.cell? ⟨wr.heap.size, 1, none⟩ = some (.string nm) ∧ w'.cell? ⟨wr.heap.size, 2, none⟩ = some (.int .i64 bg))
        (first
          | exact ⟨t0, t1, t2⟩
          | exact ⟨hWC.cell rfl 0, hWC.cell rfl 1, hWC.cell rfl 2⟩
          | exact ⟨hWB.cell rfl 0, hWB.cell rfl 1, hWB.cell rfl 2⟩
          | exact ⟨hWA.cell rfl 0, hWA.cell rfl 1, hWA.cell rfl 2⟩)
        (first
          | (go_at_call 49
             (with_reducible refine (wrb_num m1 hK v1 r0 X1).mono ?_)
             rintro e wA ⟨rfl, hWA⟩)
          | (go_at_call 110
             (with_reducible refine (wrb_text nm hWA r1 X2).mono ?_)
             rintro e wB ⟨rfl, hWB⟩)
          | (go_at_call 49
             (with_reducible refine (wrb_num m3 hWB v3 r2 X3).mono ?_)
             rintro e wC ⟨rfl, hWC⟩))
      have hWE := hWC.wrq
      rw [← hA3.out] at hWE
      clear hWC hWB hWA hK t0 t1 t2
      go_wp2
      go_roundw
      case rel => exact ⟨j + 1, HJ.out, by go_num, hWE⟩
      case measure => have := HJ.out; simp [intOf]; omega
    · obtain rfl : j = n := by omega
      have hall : l.take j = l := by rw [List.take_of_length_le (by rw [HLEN.out]; exact Nat.le_refl _)]
      rw [hall, HALL.out] at hW
      go_wp2
      go_end0
      exact ⟨rfl, hW⟩

set_option maxRecDepth 100000 in
set_option maxHeartbeats 4000000 in
theorem swrite_any {w : World} {p : Nat} {u : Value} {l0 l' : List UInt8} (hw : WV w p u l0) {A : Option Addr} {c : Nat} {s : Sg} (h : At w A s.l) (hoff : 0 < s.l.length → ∀ ad, A = some ad → ad.block ≠ p ∧ u.ownBlock ≠ some ad.block)
    (hb : l0.length + nms s.l + s.l.length * 27 ≤ 140737480000000) (hl : Hid (l0 ++ sgB s = l')) :
    Calls Tryz.prog 50 #[.pointer (some ⟨p, 0, none⟩), .agg #[.slice A s.l.length c, .int .i64 s.st, .int .i64 s.cu, .int .i64 s.fa]] w fun e W' => e = .returned (.tuple #[]) ∧ Wrq w W' p u.ownBlock l' := by
  obtain ⟨l, st, cu, fa⟩ := s
  simp only at h hoff hb ⊢
  have hbo : Below w.heap.size w (w.alloc (.cells #[.slice A l.length c, .int .i64 st, .int .i64 cu, .int .i64 fa] 49)) := (Below.refl _ _).alloc (Nat.le_refl _) _
  have hX := Box4.new w (.slice A l.length c) (.int .i64 st) (.int .i64 cu) (.int .i64 fa)
  have hp := hw.lt
  have hrow := hw.row
  obtain ⟨w1, hw1⟩ : ∃ w1, w.alloc (.cells #[.slice A l.length c, .int .i64 st, .int .i64 cu, .int .i64 fa] 49) = w1 := ⟨_, rfl⟩
  obtain ⟨G, hG⟩ : ∃ G, w.heap.size = G := ⟨_, rfl⟩
  rw [hw1] at hbo hX
  rw [hG] at hX hp hrow
  have h1 := h.below hbo
  have hu1 := hw.below hbo
  have g1 : G ≠ p := by omega
  have g2 : u.ownBlock ≠ some G := fun e => by have := (hrow G e).2; omega
  obtain ⟨a1, x1⟩ : ∃ a, l0 ++ planB l = a := ⟨_, rfl⟩
  have v1 := u64_lt st
  have v2 := u64_lt cu
  have v3 := u64_lt fa
  have z1 := u64_wrap st
  have z2 := u64_wrap cu
  have z3 := u64_wrap fa
  have hl' : a1 ++ (num (u64 st) ++ (num (u64 cu) ++ num (u64 fa))) = l' := by rw [← hl.out, ← x1]; unfold sgB; simp [List.append_assoc]
  obtain ⟨m1, hm1⟩ : ∃ x, u64 st = x := ⟨_, rfl⟩
  obtain ⟨m2, hm2⟩ : ∃ x, u64 cu = x := ⟨_, rfl⟩
  obtain ⟨m3, hm3⟩ : ∃ x, u64 fa = x := ⟨_, rfl⟩
  rw [hm1] at v1 z1 hl'
  rw [hm2] at v2 z2 hl'
  rw [hm3] at v3 z3 hl'
  obtain ⟨a2, x2⟩ : ∃ a, a1 ++ num m1 = a := ⟨_, rfl⟩
  obtain ⟨a3, x3⟩ : ∃ a, a2 ++ num m2 = a := ⟨_, rfl⟩
  obtain ⟨a4, x4⟩ : ∃ a, a3 ++ num m3 = a := ⟨_, rfl⟩
  have hsp := spsB_le l (by omega)
  have h9 := num9 (x := l.length) (by omega)
  have q1 : a1.length ≤ 140737481000000 := by rw [← x1, List.length_append]; unfold planB; rw [List.length_append]; omega
  have q2 : a2.length ≤ a1.length + 9 := by rw [← x2, List.length_append]; have := num9 v1; omega
  have q3 : a3.length ≤ a2.length + 9 := by rw [← x3, List.length_append]; have := num9 v2; omega
  have e1 : a1.length ≤ 140737488355000 := by omega
  have e2 : a2.length ≤ 140737488355000 := by omega
  have e3 : a3.length ≤ 140737488355000 := by omega
  have HL : Hid (a4 = l') := by
    have : a4 = l' := by rw [← hl', ← x4, ← x3, ← x2]; simp [List.append_assoc]
    exact this
  have HPW := Lib.hid (pwrite_any (c := c) (Wrq.new hu1) h1.rs hoff (by omega) (Lib.hid x1))
  have X2 := Lib.hid x2
  have X3 := Lib.hid x3
  have X4 := Lib.hid x4
  have HW1 := Lib.hid hw1
  have HBO := Lib.hid hbo
  have HX := Lib.hid hX
  clear hw h hbo hX hw1 h1 hu1 x1 x2 x3 x4 hl' hsp h9 q1 q2 q3 hm1 hm2 hm3 hl hrow
  go_enter Tryz.func50, Tryz.ntmps50
  go_wp2_with fail
  rw [HW1.out]
  go_wp2_with fail
  with_reducible refine HPW.out.mono ?_
  rintro e w2 ⟨rfl, hW2⟩
  have hW := hW2.drew
  have hGl : G < w1.heap.size := HX.out.lt
  have b1 := HX.out.c1
  have b2 := HX.out.c2
  have b3 := HX.out.c3
  have t1 := hW.cell b1 hGl g1 g2
  have t2 := hW.cell b2 hGl g1 g2
  have t3 := hW.cell b3 hGl g1 g2
  clear HPW hW2
  go_wp2_with fail
  go_region_held3 (fun w' => w'.cell? ⟨G, 1, none⟩ = some (.int .i64 st) ∧ w'.cell? ⟨G, 2, none⟩ = some (.int .i64 cu) ∧ w'.cell? ⟨G, 3, none⟩ = some (.int .i64 fa))
    (first
      | exact ⟨t1, t2, t3⟩
      | exact ⟨hWC.cell b1 hGl g1 g2, hWC.cell b2 hGl g1 g2, hWC.cell b3 hGl g1 g2⟩
      | exact ⟨hWB.cell b1 hGl g1 g2, hWB.cell b2 hGl g1 g2, hWB.cell b3 hGl g1 g2⟩
      | exact ⟨hWA.cell b1 hGl g1 g2, hWA.cell b2 hGl g1 g2, hWA.cell b3 hGl g1 g2⟩)
    (first
      | (go_at_call 49
         (with_reducible refine (wrq_num m1 hW v1 e1 X2).mono ?_)
         rintro e wA ⟨rfl, hWA⟩)
      | (go_at_call 49
         (with_reducible refine (wrq_num m2 hWA v2 e2 X3).mono ?_)
         rintro e wB ⟨rfl, hWB⟩)
      | (go_at_call 49
         (with_reducible refine (wrq_num m3 hWB v3 e3 X4).mono ?_)
         rintro e wC ⟨rfl, hWC⟩))
  rw [HL.out] at hWC
  obtain ⟨u5, hu5, hs5⟩ := hWC.ex
  have HF : Hid (Wrq w wC p u.ownBlock l') := ⟨⟨u5, hu5, State.Step.trans ⟨State.Only.of_below HBO.out, .inl rfl⟩ hs5⟩⟩
  clear hWC hWB hWA hW t1 t2 t3 hu5 hs5
  go_wp2
  go_end0
  exact ⟨rfl, HF.out⟩
end Go.Proofs.YthaepkpmpnofgaaGreat.Pwr
set_option linter.unusedVariables false
set_option linter.unusedSimpArgs false
namespace Go.Proofs.YthaepkpmpnofgaaGreat.SaveP
open Go.RowKit Go.Proofs.YthaepkpmpnofgaaGreat.Kit Go.Proofs.YthaepkpmpnofgaaGreat.Blocks Go.Proofs.YthaepkpmpnofgaaGreat.Ses Go.Proofs.YthaepkpmpnofgaaGreat.Rws Go.Proofs.YthaepkpmpnofgaaGreat.Boxs Go.Proofs.YthaepkpmpnofgaaGreat.Mch Go.Proofs.YthaepkpmpnofgaaGreat.SsnWalkA Go.Proofs.YthaepkpmpnofgaaGreat.MatP Go.Proofs.YthaepkpmpnofgaaGreat.SaveD
open Go.Proofs.YthaepkpmpnofgaaGreat.MatD (Hs ics id_at)
open Go.Proofs.YthaepkpmpnofgaaGreat.Sag (Sg Snd)
open Go.Proofs.YthaepkpmpnofgaaGreat.SagAt (At Box4 sgV)
open Go.Proofs.YthaepkpmpnofgaaGreat.State (WV)
open Go.Proofs.YthaepkpmpnofgaaGreat.Num (num)
open Go.Proofs.YthaepkpmpnofgaaGreat.Rdr (num9)
open Go.Proofs.YthaepkpmpnofgaaGreat.SesB (tbB sane_fine)
open Go.Proofs.YthaepkpmpnofgaaGreat.PckWalkH (str str_size str_append)
open Go.Proofs.YthaepkpmpnofgaaGreat.RdT (only_s only_b)

theorem snd_small {s : Sg} (h : Snd s) : Pln.nms s.l + s.l.length * 27 ≤ 3000 := by
  obtain ⟨h1, h2, h3⟩ := Pln.isDef_yes (Pln.chk_def h.1)
  have hn : Pln.nms s.l ≤ s.l.length * 16 := by
    generalize s.l = l at h3
    clear h1 h2
    induction l with
    | nil => simp [Pln.nms]
    | cons e l ih =>
      have := (Pln.okS_yes (h3 e List.mem_cons_self)).2.2.2.1
      have := ih fun x hx => h3 x (List.mem_cons_of_mem _ hx)
      rw [Pln.nms_cons, List.length_cons]; omega
  omega
section
variable {B : Nat} {w w' w4 W W' : World} {A : Option Addr} {p pt q g : Nat} {vR : Value} {m : Mc} {ks : List (Nat × Hs)} {l l' : List UInt8}
/-- Since w nothing elder was changed; a writer at g has laid l; a slice at A, if there is one, lies as it lay in w4. -/
def Sb (w w4 : World) (A : Option Addr) (W : World) (g : Nat) (l : List UInt8) : Prop := ∃ u, WV W g u l ∧ w.heap.size ≤ g ∧ Below w.heap.size w W ∧ ∀ ad, A = some ad → ad.block < W.heap.size ∧ u.ownBlock ≠ some ad.block ∧ ad.block ≠ g ∧ W.heap[ad.block]? = w4.heap[ad.block]?
abbrev Sv (w W : World) (g : Nat) (l : List UInt8) : Prop := Sb w w none W g l
theorem sv_new {w1 : World} (hb : Below w.heap.size w w1) : Sv w (w1.alloc (.cells #[.slice none 0 0] 105)) w1.heap.size [] :=
  ⟨_, ⟨heap_alloc_new w1 _, World.ownsRow_nil _ _ _ _⟩, hb.size, hb.alloc hb.size _, by simp⟩
theorem Sb.below (h : Sb w w4 A W g l) (k : Below W.heap.size W W') : Sb w w4 A W' g l := by
  obtain ⟨u, h1, h2, h3, h4⟩ := h
  exact ⟨u, h1.below k, h2, h3.trans (k.mono h3.size), fun ad e => ⟨Nat.lt_of_lt_of_le (h4 ad e).1 k.size, (h4 ad e).2.1, (h4 ad e).2.2.1, (k.block _ (h4 ad e).1).trans (h4 ad e).2.2.2⟩⟩
theorem Sb.bel (h : Sb w w4 A W g l) : Below w.heap.size w W := by obtain ⟨_, _, _, h, _⟩ := h; exact h
theorem Sb.lt (h : Sb w w4 A W g l) : g < W.heap.size := by obtain ⟨_, h, _, _, _⟩ := h; exact h.lt
theorem sv_begin (h : Sv w W g l) (hb : Below W.heap.size W w4) (hA : ∀ ad, A = some ad → W.heap.size ≤ ad.block ∧ ad.block < w4.heap.size) : Sb w w4 A w4 g l := by
  obtain ⟨u, h1, h2, h3, _⟩ := h
  refine ⟨u, h1.below hb, h2, h3.trans (hb.mono h3.size), fun ad e => ⟨(hA ad e).2, fun e2 => ?_, ?_, rfl⟩⟩
  · have := (h1.row _ e2).2; have := (hA ad e).1; omega
  · have := h1.lt; have := (hA ad e).1; omega
/-- A call laid bytes. -/
theorem Sb.step {u u' : Value} (h1 : WV W g u l) (h2 : w.heap.size ≤ g) (h3 : Below w.heap.size w W) (h4 : ∀ ad, A = some ad → ad.block < W.heap.size ∧ u.ownBlock ≠ some ad.block ∧ ad.block ≠ g ∧ W.heap[ad.block]? = w4.heap[ad.block]?)
    (k1 : WV W' g u' l') (k2 : State.Step g u.ownBlock u'.ownBlock W W') : Sb w w4 A W' g l' := by
  refine ⟨u', k1, h2, h3.trans (k2.only.below h3.size fun k hk => ?_), fun ad e => ?_⟩
  · rcases hk with rfl | e
    · exact h2
    · have := h1.row k e; omega
  · obtain ⟨a1, a2, a3, a4⟩ := h4 ad e
    refine ⟨Nat.lt_of_lt_of_le a1 k2.only.size, fun e2 => ?_, a3, (k2.only.block _ a1 fun hk => hk.elim a3 a2).trans a4⟩
    rcases k2.next with e3 | ⟨g', e3, e4⟩
    · exact a2 (e3 ▸ e2)
    · rw [e3] at e2
      cases e2
      omega
theorem sv_num (x : Nat) (h : Sb w w4 A W g l) (hx : x < 18446744073709551616) (hl : l.length ≤ 140737488355000) (he : Hid (l ++ num x = l')) :
    Calls Tryz.prog 49 #[.pointer (some ⟨g, 0, none⟩), .int .u64 (x : Int)] W fun e W' => e = .returned (.pointer (some ⟨g, 0, none⟩)) ∧ Sb w w4 A W' g l' := by
  obtain ⟨u, h1, h2, h3, h4⟩ := h
  refine (PckWalkA.num_any g u l x W h1 hx hl).mono ?_
  intro e W' k
  rw [he.out] at k
  obtain ⟨rfl, v', k1, k2⟩ := k
  exact ⟨rfl, Sb.step h1 h2 h3 h4 k1 k2⟩
theorem sv_table (h : MP B w p pt q vR m ks) (hf : Fit m) (hs : Sv w W g []) (he : Hid (tbB m.t = l')) :
    Calls Tryz.prog 48 #[.pointer (some ⟨pt, 0, none⟩), .pointer (some ⟨g, 0, none⟩)] W fun e W' => e = .returned (.tuple #[]) ∧ Sv w W' g l' := by
  obtain ⟨u, h1, h2, h3, h4⟩ := hs
  have hM := h.below h3
  have hdis : ∀ k, Mine pt vR k → k ≠ g ∧ u.ownBlock ≠ some k := fun k hk => by
    have := (h.tb.mine_lt hk).2
    refine ⟨by omega, fun e => ?_⟩
    have := h1.row k e; omega
  refine (SsnWalkH.write_any hM.tb h1 hdis ⟨hf.tb.now, hf.tb.next⟩ (sane_fine hf.tb) hf.tb.few (by decide) (l' := l') (Lib.hid (by rw [List.nil_append]; exact he.out))).mono ?_
  rintro e W' ⟨rfl, hw⟩
  obtain ⟨u', k1, k2⟩ := hw.ex
  exact ⟨rfl, Sb.step h1 h2 h3 h4 k1 k2⟩
theorem sv_saga (h : MP B w p pt q vR m ks) (hs : Sb w w4 A W g l) {x : Nat × Hs} (hx : x ∈ ks) (hb : l.length ≤ 1000000) (hsn : Snd x.2.s) (he : Hid (l ++ Sgb.sgB x.2.s = l')) :
    Calls Tryz.prog 50 #[.pointer (some ⟨g, 0, none⟩), .agg #[.slice x.2.A x.2.s.l.length x.2.c, .int .i64 x.2.s.st, .int .i64 x.2.s.cu, .int .i64 x.2.s.fa]] W fun e W' => e = .returned (.tuple #[]) ∧ Sb w w4 A W' g l' := by
  obtain ⟨u, h1, h2, h3, h4⟩ := hs
  have hat := (h.steps x hx).1
  have hoff : 0 < x.2.s.l.length → ∀ ad, x.2.A = some ad → ad.block ≠ g ∧ u.ownBlock ≠ some ad.block := fun hn ad e => by
    have := h.st_lt ⟨x, hx, hn, ad, e, rfl⟩
    refine ⟨by omega, fun e2 => ?_⟩
    have := h1.row _ e2; omega
  refine (Pwr.swrite_any h1 (hat.below h3) hoff (by have := snd_small hsn; omega) he).mono ?_
  rintro e W' ⟨rfl, hw⟩
  obtain ⟨u', k1, k2⟩ := hw.ex
  exact ⟨rfl, Sb.step h1 h2 h3 h4 k1 k2⟩
theorem sv_bytes {s : ByteArray} (h : Sb w w4 A W g l) (he : Hid (str l = s)) :
    Calls Tryz.prog 51 #[.pointer (some ⟨g, 0, none⟩)] W fun e W' => e = .returned (.string s) ∧ W' = W := by
  obtain ⟨u, h1, h2, h3, h4⟩ := h
  refine (PckWalkB.bytes_any g u l W h1).mono ?_
  rintro e W' ⟨rfl, rfl⟩
  refine ⟨?_, rfl⟩
  rw [← he.out]
  rfl
theorem look1 {w : World} {q : Nat} {ks : List (Nat × Hs)} (h : SM w q ks) {id : Nat} (hu : U id) {e : Hs} (hl : lookS ks id = some e) : (Instr.lookup 70 (.map (some q)) (.int .u64 (id : Int)) false).run Tryz.prog w = .ok (hsV e) w := by
  obtain ⟨D, h1, h2, hat⟩ := h
  have hz : (zeroValue 49).run Tryz.prog w = .ok zeroV w := Tryz.zeroValue49 w
  obtain ⟨v, ps, hrun, hv⟩ := h1.lookup num_keyed Tryz.underlying70 hz (zd := .held zeroV) (zp := []) rfl (key_num hu)
  rw [hrun]
  have hh := hat id hu (.held zeroV)
  simp only [asIs, Option.some.injEq, Prod.mk.injEq] at hv
  rw [hh, hl] at hv
  simp only [DataW.held.injEq] at hv
  rw [hv.1]
/-- In a list that grows a member is found by its number. -/
theorem look_at {ks : List (Nat × Hs)} (hg : (ks.map Prod.fst).Pairwise (fun a b => a < b)) {j : Nat} {x : Nat × Hs} (hx : ks[j]? = some x) : lookS ks x.1 = some x.2 := by
  induction ks generalizing j with
  | nil => simp at hx
  | cons y l ih =>
    rw [List.map_cons] at hg
    obtain ⟨h1, h2⟩ := List.pairwise_cons.1 hg
    rw [lookS]
    cases j with
    | zero => simp at hx; subst hx; rw [if_pos rfl]
    | succ j =>
      have hx' : l[j]? = some x := by simpa using hx
      have := h1 x.1 (List.mem_map.2 ⟨x, List.mem_of_getElem? hx', rfl⟩)
      rw [if_neg (by omega)]
      exact ih h2 hx'
set_option maxRecDepth 100000 in
set_option maxHeartbeats 8000000 in
theorem psave_any (h : MP B w p pt q vR m ks) (hf : Fit m) {S : ByteArray} (hS : Hid (str (mcB m) = S)) :
    Calls Tryz.prog 17 #[.pointer (some ⟨p, 0, none⟩)] w fun e w' => e = .returned (.string S) ∧ Below w.heap.size w w' := by
  have hn0 := sv_new (Below.refl w.heap.size w)
  obtain ⟨g, hg⟩ : ∃ g, w.heap.size = g := ⟨_, rfl⟩
  obtain ⟨w1, hw1⟩ : ∃ w1, w.alloc (.cells #[.slice none 0 0] 105) = w1 := ⟨_, rfl⟩
  rw [hw1, hg] at hn0
  obtain ⟨n, hn⟩ : ∃ n, m.l.length = n := ⟨_, rfl⟩
  have hkn : ks.length = n := by rw [h.len, hn]
  have hn16 : n ≤ 16 := by rw [← hn]; exact hf.few
  obtain ⟨T, hT⟩ : ∃ T, tbB m.t = T := ⟨_, rfl⟩
  have hTl : T.length ≤ 1000 := by rw [← hT]; exact Back.tbB_le hf.tb
  have HTB := Lib.hid (sv_table h hf hn0 (Lib.hid hT))
  have h1 := h.below hn0.bel
  have c0 := h1.c0
  have hpl := h1.plt
  have HW1 := Lib.hid hw1
  have HG := Lib.hid hg
  have H := Lib.hid h
  have HF := Lib.hid hf
  have HN := Lib.hid (And.intro hn hkn)
  have zn : IntKind.u64.wrap (n : Int) = (n : Int) := by rw [IntKind.wrap_u64]; omega
  have HTN : Hid ((T ++ num n).length ≤ 1009) := by
    have := num9 (x := n) (by omega)
    have : (T ++ num n).length ≤ 1009 := by rw [List.length_append]; omega
    exact this
  have HALL : Hid (str (T ++ num n ++ mcsB m.l) = S) := by
    have : str (T ++ num n ++ mcsB m.l) = S := by rw [← hS.out, ← hT, ← hn, mcB, List.append_assoc]
    exact this
  have HML := Lib.hid (fun j => mcsB_le (l := m.l.take j) (fun x hx => hf.u x (List.mem_of_mem_take hx)) fun x hx => hf.snd x (List.mem_of_mem_take hx))
  clear hw1 hg h hf hn hkn hT hS hn0 h1 hTl
  go_enter Tryz.func17, Tryz.ntmps17
  go_upto_region 4 with fail
  rw [HW1.out, HG.out]
  go_wp2_with fail
  go_at_call 48
  refine HTB.out.mono ?_
  rintro e w2 ⟨rfl, hs2⟩
  have hM2 := H.out.below hs2.bel
  have c1 := hM2.c1
  have hpl2 := hM2.plt
  have hlen : ∀ ty, (Builtin.len_ #[70] ty #[.map (some q)]).run Tryz.prog w2 = .ok (.int .i64 (n : Int)) w2 := fun ty => by rw [← HN.out.2]; exact hM2.sm.len ty
  have HNU := Lib.hid (sv_num n hs2 (by omega) (by have := HTN.out; rw [List.length_append] at this; omega) (Lib.hid rfl))
  clear hs2 hM2 c0 hpl
  go_wp2_with fail
  go_at_call 49
  refine HNU.out.mono ?_
  rintro e w3 ⟨rfl, hs3⟩
  have HS3 := Lib.hid hs3
  have HSG := Lib.hid (ListP.psagas_any (H.out.below hs3.bel) HF.out)
  clear hs3 hlen c1 hpl2
  go_wp2_with fail
  go_at_call 18
  refine HSG.out.mono ?_
  rintro e w4 ⟨A, c, rfl, hrd, hb4, hA4⟩
  have HRD := Lib.hid hrd
  rw [HN.out.1] at HRD ⊢
  have HS4 : Hid (0 < n → Sb w w4 A w4 g (T ++ num n ++ mcsB (m.l.take 0))) := fun h0 => by
    obtain ⟨ad, e1, e2, _⟩ := HRD.out.2 h0
    have := sv_begin (A := A) HS3.out hb4 (fun ad' e' => by rw [e1] at e'; cases e'; exact ⟨hA4 ad e1, e2⟩)
    have e0 : mcsB (m.l.take 0) = [] := by simp [mcsB]
    rw [e0, List.append_nil]
    exact this
  have HS4n : Hid (Sv w w4 g (T ++ num n)) := HS3.out.below hb4
  clear hrd hb4 hA4
  by_cases h0 : n = 0
  · have hall : m.l = [] := List.eq_nil_of_length_eq_zero (by rw [HN.out.1]; exact h0)
    have HBY := Lib.hid (sv_bytes HS4n.out (s := S) (Lib.hid (by rw [← HALL.out, hall]; simp [mcsB])))
    have HBB := Lib.hid HS4n.out.bel
    subst h0
    clear hall HS4
    go_wp2_with fail
    go_loopw [26] (fun z wr => z = .int .i64 0 ∧ wr = w4) (fun _ _ => 0)
    case atStart => exact ⟨rfl, rfl⟩
    case round =>
      obtain ⟨rfl, hwr⟩ := hrel
      subst wr
      go_wp2_with fail
      go_at_call 51
      refine HBY.out.mono ?_
      rintro e w5 ⟨rfl, rfl⟩
      go_wp2
      go_ret
      exact ⟨rfl, HBB.out⟩
  · have h0' : 0 < n := by omega
    have HS0 := Lib.hid (HS4.out h0')
    clear HS4 HS4n h0
    go_wp2_with fail
    go_loopw [26] (fun z wr => ∃ j : Nat, j ≤ n ∧ z = .int .i64 (j : Int) ∧ Hid (Sb w w4 A wr g (T ++ num n ++ mcsB (m.l.take j)))) (fun z _ => n - (intOf z).toNat)
    case atStart => exact ⟨0, by omega, rfl, HS0⟩
    case round =>
      obtain ⟨j, hj, rfl, HSj⟩ := hrel
      clear HS0
      by_cases hjn : j < n
      · obtain ⟨b, o, y, hA, hbl, hy, hcell⟩ := id_at HRD.out hjn
        obtain ⟨x, hx, hxy⟩ : ∃ x, ks[j]? = some x ∧ (x.1, x.2.s) = y := by
          have h1 := congrArg (fun l => l[j]?) H.out.said
          simp only [pure1, List.getElem?_map, hy] at h1
          obtain ⟨x, h2, h3⟩ := Option.map_eq_some_iff.1 h1
          exact ⟨x, h2, h3⟩
        have hM := H.out.below HSj.out.bel
        have hMd := hM.below ((Below.refl wr.heap.size wr).drew)
        have hxm := List.mem_of_getElem? hx
        have hym := List.mem_of_getElem? hy
        have hyu : U x.1 := by have := HF.out.u y hym; rw [← hxy] at this; exact this
        have hys : Snd x.2.s := by have := HF.out.snd y hym; rw [← hxy] at this; exact this
        have hkp : (ks.map Prod.fst).Pairwise (fun a b => a < b) := by
          have := HF.out.grow
          unfold Grow at this
          rw [← H.out.said, pure1, List.pairwise_map] at this
          rw [List.pairwise_map]
          exact this
        have hlk := look_at hkp hx
        have HLK : Hid (∀ W, Sb w w4 A W g (T ++ num n ++ mcsB (m.l.take j)) ∨ Sb w w4 A W g (T ++ num n ++ mcsB (m.l.take j) ++ num x.1) ∨ Sb w w4 A W g (T ++ num n ++ mcsB (m.l.take (j + 1))) → W.cell? ⟨p, 1, none⟩ = some (.map (some q)) ∧ (Instr.lookup 70 (.map (some q)) (.int .u64 (x.1 : Int)) false).run Tryz.prog W = .ok (.agg #[.slice x.2.A x.2.s.l.length x.2.c, .int .i64 x.2.s.st, .int .i64 x.2.s.cu, .int .i64 x.2.s.fa]) W) := fun W hW => by
          have hM' : MP B W p pt q vR m ks := by
            rcases hW with hW | hW | hW
            · exact H.out.below hW.bel
            · exact H.out.below hW.bel
            · exact H.out.below hW.bel
          exact ⟨hM'.c1, look1 hM'.sm hyu hlk⟩
        have hc0 : wr.cell? ⟨b, o + j, none⟩ = some (.int .u64 (x.1 : Int)) := by
          obtain ⟨u, _, _, _, h4⟩ := HSj.out
          have hbe : wr.cell? ⟨b, o + j, none⟩ = w4.cell? ⟨b, o + j, none⟩ := World.cell?_of_block (h4 _ hA).2.2.2
          rw [hbe, hcell, ← hxy]
        have hbw : b < wr.heap.size := by
          obtain ⟨u, _, _, _, h4⟩ := HSj.out
          exact (h4 _ hA).1
        have hpl := hM.plt
        have hll : (T ++ num n ++ mcsB (m.l.take j)).length ≤ 200000 := by
          have h1 := HML.out j
          have h2 : (m.l.take j).length ≤ 16 := by rw [List.length_take, HN.out.1]; omega
          have h3 := HTN.out
          rw [List.length_append]
          omega
        have hn9 := num9 hyu
        have HSd : Hid (Sb w w4 A wr.drew g (T ++ num n ++ mcsB (m.l.take j))) := HSj.out.below ((Below.refl _ _).drew)
        have HNU := Lib.hid (sv_num x.1 HSd.out hyu (by omega) (Lib.hid rfl))
        have HSW := Lib.hid (fun W (hW : Sb w w4 A W g (T ++ num n ++ mcsB (m.l.take j) ++ num x.1)) => sv_saga H.out hW hxm (l' := T ++ num n ++ mcsB (m.l.take (j + 1))) (by rw [List.length_append]; omega) hys (Lib.hid (by rw [mcsB_take hy, ← hxy]; simp [oneB, List.append_assoc])))
        have HJ := Lib.hid hjn
        have hjn' : (j : Int) < (n : Int) := by omega
        clear hM hMd hxm hym hys hkp hlk hll hn9 hcell hy hx hxy
        subst hA
        go_wp2_with fail
        go_region_held3 (fun W => W.cell? ⟨p, 1, none⟩ = some (.map (some q)) ∧ (Instr.lookup 70 (.map (some q)) (.int .u64 (x.1 : Int)) false).run Tryz.prog W = .ok (.agg #[.slice x.2.A x.2.s.l.length x.2.c, .int .i64 x.2.s.st, .int .i64 x.2.s.cu, .int .i64 x.2.s.fa]) W)
          (first
            | exact HLK.out _ (.inl HSd.out)
            | exact HLK.out _ (.inr (.inl HSA.out))
            | exact HLK.out _ (.inr (.inr HSB.out)))
          (first
            | (go_at_call 49
               (with_reducible refine HNU.out.mono ?_)
               rintro en wA ⟨rfl, hsA⟩
               have HSA := Lib.hid hsA
               clear hsA)
            | (go_at_call 50
               (with_reducible refine (HSW.out _ HSA.out).mono ?_)
               rintro en wB ⟨rfl, hsB⟩
               have HSB := Lib.hid hsB
               clear hsB))
        all_goals
          go_wp2
        all_goals
          refine ⟨⟨j + 1, HJ.out, by go_num, HSB⟩, ?_⟩
          have := HJ.out
          simp [intOf]
          omega
      · obtain rfl : j = n := by omega
        have hall : m.l.take j = m.l := List.take_of_length_le (by rw [HN.out.1]; exact Nat.le_refl _)
        rw [hall] at HSj
        have HBY := Lib.hid (sv_bytes HSj.out HALL)
        have HBB := Lib.hid HSj.out.bel
        clear hall hjn
        go_wp2_with fail
        go_at_call 51
        refine HBY.out.mono ?_
        rintro e w5 ⟨rfl, rfl⟩
        go_wp2
        go_ret
        exact ⟨rfl, HBB.out⟩
set_option maxRecDepth 100000 in
/-- A saga of a number that there is. -/
theorem psaga_some (h : MP B w p pt q vR m ks) {id : Nat} (hu : U id) {e : Hs} (hl : lookS ks id = some e) (hat : At w e.A e.s.l) :
    Calls Tryz.prog 19 #[.pointer (some ⟨p, 0, none⟩), .int .u64 (id : Int)] w fun en w' => ∃ A c, en = .returned (.tuple #[sgV A c e.s, .bool true]) ∧ At w' A e.s.l ∧ Below w.heap.size w w' := by
  obtain ⟨eA, ec, ⟨el, est, ecu, efa⟩⟩ := e
  simp only at hat
  have hx1 := Box4.new w (.slice none 0 0) (.int .i64 0) (.int .i64 0) (.int .i64 0)
  have hb1 : Below w.heap.size w (w.alloc (.cells #[.slice none 0 0, .int .i64 0, .int .i64 0, .int .i64 0] 49)) := (Below.refl _ _).alloc (Nat.le_refl _) _
  obtain ⟨w1, hw1⟩ : ∃ w1, w.alloc (.cells #[.slice none 0 0, .int .i64 0, .int .i64 0, .int .i64 0] 49) = w1 := ⟨_, rfl⟩
  obtain ⟨G, hG⟩ : ∃ G, w.heap.size = G := ⟨_, rfl⟩
  have hs1 : w1.heap.size = G + 1 := by rw [← hw1, ← hG]; simp
  rw [hw1, hG] at hx1
  rw [hw1] at hb1
  have hM1 := h.below hb1
  have hlk := hM1.sm.look hu
  rw [hl] at hlk
  have hlk' : (Instr.lookup 70 (.map (some q)) (.int .u64 (id : Int)) true).run Tryz.prog w1 = .ok (.tuple #[.agg #[.slice eA el.length ec, .int .i64 est, .int .i64 ecu, .int .i64 efa], .bool true]) w1 := hlk
  have hx2 := Box4.new w1 (.slice eA el.length ec) (.int .i64 est) (.int .i64 ecu) (.int .i64 efa)
  have hb2 : Below w1.heap.size w1 (w1.alloc (.cells #[.slice eA el.length ec, .int .i64 est, .int .i64 ecu, .int .i64 efa] 49)) := (Below.refl _ _).alloc (Nat.le_refl _) _
  obtain ⟨w2, hw2⟩ : ∃ w2, w1.alloc (.cells #[.slice eA el.length ec, .int .i64 est, .int .i64 ecu, .int .i64 efa] 49) = w2 := ⟨_, rfl⟩
  rw [hw2, hs1] at hx2
  rw [hw2] at hb2
  have hx12 := hx1.below hb2
  have hbb : Below w.heap.size w w2 := hb1.trans (hb2.mono hb1.size)
  have HC := Lib.hid (SagAt.clone_any eA ec (hat.below hbb))
  have c1 := hM1.c1
  have hpl := hM1.plt
  have x0 := hx2.c0
  have hxl := hx2.lt
  have HW1 := Lib.hid hw1
  have HW2 := Lib.hid hw2
  have HG := Lib.hid (And.intro hG hs1)
  have HX := Lib.hid (And.intro hx12 (And.intro hx2 (And.intro hbb hat)))
  clear hw1 hw2 hG hs1 hx1 hb1 hM1 hlk hx2 hb2 hx12 hbb h hl hat
  go_enter Tryz.func19, Tryz.ntmps19
  go_upto_region 3 with fail
  rw [HW1.out, HG.out.1]
  go_upto_region 4 with fail
  rw [HW2.out, HG.out.2]
  go_wp2_with fail
  go_at_call 53
  refine HC.out.mono ?_
  rintro en w3 ⟨A3, c3, rfl, hr3, hb3, hf3⟩
  obtain ⟨hx12, hx2, hbb, hat⟩ := HX.out
  have hx13 := hx12.below hb3
  have hx23 := hx2.below hb3
  have hat3 : At w3 A3 el := ⟨hr3, hat.room, hat.nm⟩
  have hset := hx23.set0 (.slice A3 el.length c3)
  obtain ⟨w4, hw4⟩ : ∃ w4, w3.setCell ⟨G + 1, 0, none⟩ (.slice A3 el.length c3) = w4 := ⟨_, rfl⟩
  rw [hw4] at hset
  have hx14 := hx13.keep hset.2 (by omega)
  have hsz2 := hx2.lt
  have hgw := HG.out.1
  have hb4 : Below w.heap.size w w4 := (hbb.trans (hb3.mono hbb.size)).trans ((only_b hset.2).below (by have := hbb.size; have := hb3.size; omega) fun k hk => by omega)
  have hat4 : At w4 A3 el := hat3.only hset.2 fun hn ad e0 e1 => by have := hf3 hn ad e0; omega
  have HZ := Lib.hid (hx14.set (.slice A3 el.length c3) (.int .i64 est) (.int .i64 ecu) (.int .i64 efa))
  have HF : Hid (At ((((w4.setCell ⟨G, 0, none⟩ (.slice A3 el.length c3)).setCell ⟨G, 1, none⟩ (.int .i64 est)).setCell ⟨G, 2, none⟩ (.int .i64 ecu)).setCell ⟨G, 3, none⟩ (.int .i64 efa)) A3 el ∧
      Below w.heap.size w ((((w4.setCell ⟨G, 0, none⟩ (.slice A3 el.length c3)).setCell ⟨G, 1, none⟩ (.int .i64 est)).setCell ⟨G, 2, none⟩ (.int .i64 ecu)).setCell ⟨G, 3, none⟩ (.int .i64 efa))) :=
    ⟨hat4.only HZ.out.2 fun hn ad e0 e1 => by have := hf3 hn ad e0; omega, hb4.trans ((only_b HZ.out.2).below hb4.size fun k hk => by omega)⟩
  obtain ⟨X0, X1, X2, X3⟩ : _ ∧ _ ∧ _ ∧ _ := ⟨hx23.c0, hx23.c1, hx23.c2, hx23.c3⟩
  have Xf := hx23.free
  have Xl := hx23.lt
  obtain ⟨Y0, Y1, Y2, Y3⟩ : _ ∧ _ ∧ _ ∧ _ := ⟨hset.1.c0, hset.1.c1, hset.1.c2, hset.1.c3⟩
  have Yl := hset.1.lt
  obtain ⟨Z0, Z1, Z2, Z3⟩ : _ ∧ _ ∧ _ ∧ _ := ⟨hx14.c0, hx14.c1, hx14.c2, hx14.c3⟩
  have Zf := hx14.free
  have Zl := hx14.lt
  have HW4 := Lib.hid hw4
  clear hx12 hx2 hbb hat hx13 hx23 hat3 hset hw4 hx14 hsz2 hgw hb4 hat4 hr3 hb3 hf3
  go_upto_region 5 with fail
  rw [HW4.out]
  go_wp2
  refine bodyPost_ret (SagAt.res2 (p := 4) (u := 5) rfl _ rfl HZ.out.1) rfl ?_
  exact ⟨A3, c3, rfl, HF.out⟩
set_option maxRecDepth 100000 in
/-- All sessions. -/
theorem psess_any (h : MP B w p pt q vR m ks) (hf : Fit m) :
    Calls Tryz.prog 21 #[.pointer (some ⟨p, 0, none⟩)] w (SsnWalkD.Listed w m.t.rows) := by
  have c0 := h.c0
  have hpl := h.plt
  have HR := Lib.hid (SsnWalkD.rows_any h.tb hf.tb.few)
  clear h hf
  go_enter Tryz.func21, Tryz.ntmps21
  go_wp2_with fail
  go_at_call 55
  refine HR.out.mono ?_
  rintro e w2 ⟨A, c, rfl, hr, hb⟩
  have HX := Lib.hid (And.intro hr hb)
  clear hr hb
  go_wp2
  go_ret
  exact ⟨A, c, rfl, HX.out⟩
end
end Go.Proofs.YthaepkpmpnofgaaGreat.SaveP
