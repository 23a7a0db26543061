/- What the program's retire and follow leave, walked. -/
import Derived.Test.YtdbmpfongfiagaaWalkC
set_option linter.unusedVariables false
namespace Go.Proofs.Ytdbmpfongfiagaa.WalkD
open Go.RowKit Go.Proofs.Ytdbmpfongfiagaa.Kit Go.Proofs.Ytdbmpfongfiagaa.Blocks Go.Proofs.Ytdbmpfongfiagaa.Rlog Go.Proofs.Ytdbmpfongfiagaa.Ents Go.Proofs.Ytdbmpfongfiagaa.LogAt Go.Proofs.Ytdbmpfongfiagaa.Nod Go.Proofs.Ytdbmpfongfiagaa.NodAt Go.Proofs.Ytdbmpfongfiagaa.AppL Go.Proofs.Ytdbmpfongfiagaa.WalkA Go.Proofs.Ytdbmpfongfiagaa.WalkB Go.Proofs.Ytdbmpfongfiagaa.WalkC
open Go.Proofs.Ytdbmpfongfiagaa.Told (unums)

def zz : List Value := [.int .u64 0, .int .u64 0, .int .u64 0, .int .u64 0, .int .u64 0, .int .u64 0, .int .u64 0]
theorem run_clear7 (w : World) (ty : TypeId) (g o : Nat) (hc : ∀ j, j < 7 → (w.cell? ⟨g, o + j, none⟩).isSome = true) (hf : ∀ j, j < 7 → w.frozen? ⟨g, o + j, none⟩ = false) :
    (Builtin.clear_ #[90] ty #[.slice (some ⟨g, o, none⟩) 7 7]).run Try.prog w = .ok (.tuple #[]) (w.setCells g o zz) := by
  have hv : ∀ w, (zeroValue 22).run Try.prog w = .ok (.int .u64 0) w := fun w => by kernel_rfl
  have hzc : (Builtin.zeroCells (Value.int .u64 0).cells 7).toList = zz := by kernel_rfl
  have hst := run_storeCells_cells (P := Try.prog) g o zz 0 w (fun j hj => by simpa using hc j hj) (fun j hj => by simpa using hf j hj) (by decide)
  simp only [Nat.add_zero] at hst
  simp [Builtin.clear_, run_underlying Try.underlying90, hv, hzc, hst]
section
variable {B p N : Nat} {z : Seat} {m : Nd} {w : World}
theorem set7 (l : List Nat) (h : l.length = 7) : ((((((l.set 0 0).set 1 0).set 2 0).set 3 0).set 4 0).set 5 0).set 6 0 = zeros := by
  match l, h with
  | [a, b, c, d, e, f, g], _ => rfl
theorem PAt.clearNx (h : PAt B w p z m) (hl : m.next.length = 7) : PAt B (w.setCells p 12 zz) p z { m with next := zeros } ∧ Grow p z z w (w.setCells p 12 zz) := by
  obtain ⟨h0, g0⟩ := h.setNx hl (k := 0) (by decide) 0
  obtain ⟨h1, g1⟩ := PAt.setNx h0 (by simp [hl]) (k := 1) (by decide) 0
  obtain ⟨h2, g2⟩ := PAt.setNx h1 (by simp [hl]) (k := 2) (by decide) 0
  obtain ⟨h3, g3⟩ := PAt.setNx h2 (by simp [hl]) (k := 3) (by decide) 0
  obtain ⟨h4, g4⟩ := PAt.setNx h3 (by simp [hl]) (k := 4) (by decide) 0
  obtain ⟨h5, g5⟩ := PAt.setNx h4 (by simp [hl]) (k := 5) (by decide) 0
  obtain ⟨h6, g6⟩ := PAt.setNx h5 (by simp [hl]) (k := 6) (by decide) 0
  simp only [set7 m.next hl] at h6
  exact ⟨h6, (((((g0.trans g1).trans g2).trans g3).trans g4).trans g5).trans g6⟩
theorem PAt.clearMt (h : PAt B w p z m) (hl : m.next.length = 7) (hm : m.mat.length = 7) : PAt B (w.setCells p 19 zz) p z { m with mat := zeros } ∧ Grow p z z w (w.setCells p 19 zz) := by
  obtain ⟨h0, g0⟩ := h.setMt hl (k := 0) (by decide) 0
  obtain ⟨h1, g1⟩ := PAt.setMt h0 hl (k := 1) (by decide) 0
  obtain ⟨h2, g2⟩ := PAt.setMt h1 hl (k := 2) (by decide) 0
  obtain ⟨h3, g3⟩ := PAt.setMt h2 hl (k := 3) (by decide) 0
  obtain ⟨h4, g4⟩ := PAt.setMt h3 hl (k := 4) (by decide) 0
  obtain ⟨h5, g5⟩ := PAt.setMt h4 hl (k := 5) (by decide) 0
  obtain ⟨h6, g6⟩ := PAt.setMt h5 hl (k := 6) (by decide) 0
  simp only [set7 m.mat hm] at h6
  exact ⟨h6, (((((g0.trans g1).trans g2).trans g3).trans g4).trans g5).trans g6⟩
theorem PAt.nx_some (h : PAt B w p z m) (hl : m.next.length = 7) : ∀ j, j < 7 → (w.cell? ⟨p, 12 + j, none⟩).isSome = true := fun j hj => by rw [h.nx hl hj]; rfl
theorem PAt.mt_some (h : PAt B w p z m) (hl : m.next.length = 7) (hm : m.mat.length = 7) : ∀ j, j < 7 → (w.cell? ⟨p, 19 + j, none⟩).isSome = true := fun j hj => by rw [h.mt hl hm hj]; rfl
theorem retire_any (h : PAt B w p z m) (f : NdB N m) : Calls Try.prog 34 #[.pointer (some ⟨p, 0, none⟩)] w (Does B w p z (retire m)) := by
  have c8 := h.c8
  have c11 := h.c11
  have f8 := NodeAt.free h 8
  have f11 := NodeAt.free h 11
  have hplt := h.plt
  obtain ⟨h1, g1⟩ := PAt.setTo h 8 (.int .i64 0) { m with role := 0 } rfl rfl rfl rfl
  obtain ⟨h2, g2⟩ := PAt.setTo h1 11 (.int .u64 0) { m with role := 0, votes := 0 } rfl rfl rfl rfl
  obtain ⟨h3, g3⟩ := PAt.clearNx h2 f.nl
  obtain ⟨h4, g4⟩ := PAt.clearMt h3 rfl f.ml
  have r1 := fun ty => run_clear7 _ ty p 12 (PAt.nx_some h2 f.nl) (fun j _ => NodeAt.free h2 (12 + j))
  have r2 := fun ty => run_clear7 _ ty p 19 (PAt.mt_some h3 rfl f.ml) (fun j _ => NodeAt.free h3 (19 + j))
  have H4 := Lib.hid h4
  have G4 := Lib.hid (((g1.trans g2).trans g3).trans g4)
  clear h1 h2 h3 h4 g1 g2 g3 g4 f h
  go_enter Try.func34, Try.ntmps34
  go_wp2
  go_end0
  exact ⟨rfl, z, H4.out, G4.out⟩
theorem follow_any (h : PAt B w p z m) (f : NdB N m) {t : Nat} (ht : t < 18446744073709551616) : Calls Try.prog 20 #[.pointer (some ⟨p, 0, none⟩), .int .u64 (t : Int)] w (Does B w p z (followN m t)) := by
  have hr := retire_any h f
  obtain ⟨T, hT⟩ : ∃ T, m.term = T := ⟨_, rfl⟩
  obtain ⟨M, hM⟩ : ∃ M, followN m t = M := ⟨_, rfl⟩
  rw [hM]
  have HR := Lib.hid hr
  have HM := Lib.hid hM
  have HT := Lib.hid hT
  clear hr hM hT h f
  go_enter Try.func20, Try.ntmps20
  go_wp2_with fail
  with_reducible refine HR.out.mono ?_
  rintro e w1 ⟨rfl, z1, h1, g1⟩
  have c5 := PAt.c5 h1
  have c6 := PAt.c6 h1
  have c9 := PAt.c9 h1
  have f5 := NodeAt.free h1 5
  have f6 := NodeAt.free h1 6
  have f9 := NodeAt.free h1 9
  have hplt := NodeAt.plt h1
  rw [show (retire m).term = T from HT.out] at c5
  rw [show (retire m).vote = m.vote from rfl] at c6
  rw [show (retire m).leader = m.leader from rfl] at c9
  by_cases hlt : T < t
  · obtain ⟨h2, g2⟩ := PAt.setTo h1 5 (.int .u64 (t : Int)) { retire m with term := t } rfl rfl rfl rfl
    obtain ⟨h3, g3⟩ := PAt.setTo h2 6 (.int .i64 (-1)) { retire m with term := t, vote := -1 } rfl rfl rfl rfl
    obtain ⟨h4, g4⟩ := PAt.setTo h3 9 (.int .i64 (-1)) { retire m with term := t, vote := -1, leader := -1 } rfl rfl rfl rfl
    have he : ({ retire m with term := t, vote := -1, leader := -1 } : Nd) = M := by rw [← HM.out]; unfold followN; rw [if_pos (by rw [HT.out]; exact hlt)]
    rw [he] at h4
    have H4 := Lib.hid h4
    have G4 := Lib.hid (((g1.trans g2).trans g3).trans g4)
    clear h1 h2 h3 h4 g1 g2 g3 g4 he
    go_wp2
    go_end0
    exact ⟨rfl, z1, H4.out, G4.out⟩
  · have he : retire m = M := by rw [← HM.out]; unfold followN; rw [if_neg (by rw [HT.out]; exact hlt)]
    rw [he] at h1
    have H1 := Lib.hid h1
    have G1 := Lib.hid g1
    clear h1 g1 he
    go_wp2
    go_end0
    exact ⟨rfl, z1, H1.out, G1.out⟩
/-- A node that is none tells nothing. -/
theorem log_any (h : PAt B w p z m) : Calls Try.prog 10 #[.pointer (some ⟨p, 0, none⟩)] w fun e w' => e = .returned (.pointer (some ⟨z.q, 0, none⟩)) ∧ w = w' := by
  have c7 := h.c7
  clear h
  go_enter Try.func10, Try.ntmps10
  go_wp2
  go_ret
  exact ⟨rfl, rfl⟩
theorem log_nil (w : World) : Calls Try.prog 10 #[.pointer none] w fun e w' => e = .returned (.pointer none) ∧ w = w' := by
  go_enter Try.func10, Try.ntmps10
  go_wp2
  go_ret
  exact ⟨rfl, rfl⟩
end
end Go.Proofs.Ytdbmpfongfiagaa.WalkD
