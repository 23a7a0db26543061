/- What the document's Same answers of the same entries, and its MembersAt, walked. -/
import Derived.Test.YtndehdnffajigaaRefC
set_option linter.unusedVariables false
namespace Go.Proofs.Ytndehdnffajigaa.RefD
open Go.RowKit Go.Proofs.Ytndehdnffajigaa.Kit Go.Proofs.Ytndehdnffajigaa.Blocks Go.Proofs.Ytndehdnffajigaa.Rlog Go.Proofs.Ytndehdnffajigaa.Ents Go.Proofs.Ytndehdnffajigaa.LogAt Go.Proofs.Ytndehdnffajigaa.App Go.Proofs.Ytndehdnffajigaa.WalkA Go.Proofs.Ytndehdnffajigaa.WalkB Go.Proofs.Ytndehdnffajigaa.WalkC Go.Proofs.Ytndehdnffajigaa.WalkD Go.Proofs.Ytndehdnffajigaa.WalkF Go.Proofs.Ytndehdnffajigaa.RefB

theorem neq_ent (a b c : Int) (d : ByteArray) (w : World) : (binOp .neq 47 (.agg #[.int .u64 a, .int .u64 b, .int .i64 c, .string d]) (.agg #[.int .u64 a, .int .u64 b, .int .i64 c, .string d])).run Try.prog w = .ok (.bool false) w := by
  simp [binOp, Op.equal, Op.maxDepth, go_sem]
/-- Slices of the same entries. -/
theorem same_any {w : World} {A C : Option Addr} {n ca cc : Nat} {l : List Ent} (ha : RE w w.heap.size A n l) (hc : RE w w.heap.size C n l) (h63 : n ≤ 9223372036854775807) :
    Calls Try.prog 18 #[.slice A n ca, .slice C n cc] w fun e w' => e = .returned (.bool true) ∧ Below w.heap.size w w' := by
  go_enter Try.func18, Try.ntmps18
  go_wp2
  go_loopw [5] (fun x wr => ∃ k : Nat, k ≤ n ∧ x = .int .i64 (k : Int) ∧ Below w.heap.size w wr) (fun x _ => n - (intOf x).toNat)
  case atStart => exact ⟨0, by omega, rfl, Below.refl _ _⟩
  case round =>
    obtain ⟨k, hk, rfl, hbel⟩ := hrel
    by_cases hkn : k < n
    · obtain ⟨b, o, e, rfl, hbl, he, hfour⟩ := RE.at_ ha hkn
      obtain ⟨b', o', e', rfl, hbl', he', hfour'⟩ := RE.at_ hc hkn
      obtain rfl : e = e' := by rw [he] at he'; exact Option.some.inj he'
      have hfr := Four.below hfour hbel hbl
      have hfr' := Four.below hfour' hbel hbl'
      have c0 := hfr.c0
      have c1 := hfr.c1
      have c2 := hfr.c2
      have c3 := hfr.c3
      have d0 := hfr'.c0
      have d1 := hfr'.c1
      have d2 := hfr'.c2
      have d3 := hfr'.c3
      obtain ⟨tm, ix, kd, d⟩ := e
      simp only at c0 c1 c2 c3 d0 d1 d2 d3
      have hneq := neq_ent (tm : Int) (ix : Int) kd d
      clear hfr hfr' hfour hfour' he he' ha hc
      go_wp2_with fail
      go_quiet (fail)
      all_goals go_wp2
      all_goals
        go_roundw
        case rel => exact ⟨k + 1, by omega, by go_num, below_drewN hbel _⟩
        case measure => simp [intOf]; omega
    · obtain rfl : k = n := by omega
      go_wp2
      go_ret
      exact ⟨rfl, hbel⟩
/-- What a call that only tells a pair leaves. -/
def PairIs (w : World) (a b : Nat) (e : Ending) (w' : World) : Prop := e = .returned (.tuple #[.int .u64 (a : Int), .int .u64 (b : Int)]) ∧ Below w.heap.size w w'
theorem members_step {s : Snap} {es : List Ent} {k i : Nat} {e : Ent} (he : es[k]? = some e) :
    members ⟨s, es.take (k + 1)⟩ i = if e.kind = 2 ∧ e.idx ≤ i then (setOf e.data, e.idx) else members ⟨s, es.take k⟩ i := by
  unfold members
  simp only [take_snoc es k e he, pick_snoc]
  by_cases h : e.kind = 2 ∧ e.idx ≤ i
  · rw [if_pos h, if_pos h]
  · rw [if_neg h, if_neg h]
section
variable {B p : Nat} {v : Value} {g : G} {w : World} (h : LR B w p v g) (f : Fine g)
include h f
set_option maxHeartbeats 1000000 in
/-- The set that held at an index. -/
theorem rmembers_any (i : Nat) : Calls Try.prog 40 #[.pointer (some ⟨p, 0, none⟩), .int .u64 (i : Int)] w (PairIs w (members g i).1 (members g i).2) := by
  have c0 := h.c0
  have c2 := h.c2
  have hlt := h.lt
  have c4 := h.c4
  obtain ⟨A, c, rfl, hnc, hcm, hr⟩ := h.form
  obtain ⟨n, hn⟩ : ∃ n, g.es.length = n := ⟨_, rfl⟩
  rw [hn] at c4 hnc hr
  obtain ⟨R1, hR1⟩ : ∃ R, (members g i).1 = R := ⟨_, rfl⟩
  obtain ⟨R2, hR2⟩ : ∃ R, (members g i).2 = R := ⟨_, rfl⟩
  rw [hR1, hR2]
  have HR1 := Lib.hid hR1
  have HR2 := Lib.hid hR2
  have HN := Lib.hid hn
  have HF := Lib.hid f
  have H0 : Hid (members ⟨g.snap, g.es.take 0⟩ i = (g.snap.cfg, g.snap.idx)) := rfl
  obtain ⟨S, hS⟩ : ∃ S, g.snap.idx = S := ⟨_, rfl⟩
  obtain ⟨C, hC⟩ : ∃ C, g.snap.cfg = C := ⟨_, rfl⟩
  rw [hS] at c0 H0
  rw [hC] at c2 H0
  clear hR1 hR2 hn f hS hC
  go_enter Try.func40, Try.ntmps40
  go_wp2_with fail
  go_quiet (fail)
  have hbq := below_drewN (Below.refl w.heap.size w) nq
  generalize w.drewN nq = wq at hbq ⊢
  go_wp2_with fail
  go_loopw [6, 7, 8] (fun a b x wr => ∃ k I T : Nat, k ≤ n ∧ a = .int .u64 (I : Int) ∧ b = .int .u64 (T : Int) ∧ x = .int .i64 (k : Int) ∧ Hid (members ⟨g.snap, g.es.take k⟩ i = (I, T)) ∧ Below w.heap.size w wr) (fun _ _ x _ => n - (intOf x).toNat)
  case atStart => exact ⟨0, C, S, by omega, rfl, rfl, rfl, H0, hbq⟩
  case round =>
    obtain ⟨k, I, T, hk, rfl, rfl, rfl, HM, hbel⟩ := hrel
    have c4r := (hbel.cell (p := ⟨p, 4, none⟩) hlt).trans c4
    have hsz := hbel.size
    by_cases hkn : k < n
    · obtain ⟨b, o, e, rfl, hbl, he, hfour⟩ := RE.at_ hr hkn
      have hfr := Four.below hfour hbel hbl
      have d1 := hfr.c1
      have d2 := hfr.c2
      have d3 := hfr.c3
      have hst := members_step (s := g.snap) (i := i) he
      have hsz2 : e.data.size ≤ 9223372036854775807 := ((HF.out.at_ he).2.1).size
      obtain ⟨tm, ix, kd, d⟩ := e
      simp only at d1 d2 d3 hst hsz2
      by_cases h2 : kd = 2
      · subst h2
        by_cases hi : ix ≤ i
        · rw [if_pos ⟨rfl, hi⟩] at hst
          obtain ⟨q, hq⟩ : ∃ q, setOf d = q := ⟨_, rfl⟩
          rw [hq] at hst
          have HST := Lib.hid hst
          have hsaid := said_any d
          rw [hq] at hsaid
          have HSd := Lib.hid hsaid
          clear hsaid hst hq hfr hfour he
          have hib : decide (ix ≤ i) = true := decide_eq_true hi
          go_wp2_with fail
          refine (HSd.out _ hsz2).mono ?_
          rintro e w1 ⟨rfl, hb1⟩
          have hB1 := hbel.trans (hb1.mono hsz)
          have e1 := (hb1.cell (p := ⟨b, o + k * 4 + 1, none⟩) (by show b < _; omega)).trans d1
          have e4 := (hb1.cell (p := ⟨p, 4, none⟩) (by show p < _; omega)).trans c4r
          go_wp2_with fail
          go_roundw
          case rel => exact ⟨k + 1, q, ix, by omega, rfl, rfl, by go_num, HST, hB1⟩
          case measure => simp [intOf]; omega
        · rw [if_neg (by intro h; exact hi h.2)] at hst
          have HST : Hid (members ⟨g.snap, g.es.take (k + 1)⟩ i = (I, T)) := hst.trans HM.out
          clear hst hfr hfour he
          have hib : decide (ix ≤ i) = false := decide_eq_false hi
          go_wp2_with fail
          go_roundw
          case rel => exact ⟨k + 1, I, T, by omega, rfl, rfl, by go_num, HST, hbel⟩
          case measure => simp [intOf]; omega
      · rw [if_neg (by intro h; exact h2 h.1)] at hst
        have HST : Hid (members ⟨g.snap, g.es.take (k + 1)⟩ i = (I, T)) := hst.trans HM.out
        have hkb : (kd == 2) = false := by simpa using h2
        clear hst hfr hfour he h2
        go_wp2_with fail
        go_roundw
        case rel => exact ⟨k + 1, I, T, by omega, rfl, rfl, by go_num, HST, hbel⟩
        case measure => simp [intOf]; omega
    · obtain rfl : k = n := by omega
      have hM := HM.out
      rw [List.take_of_length_le (by rw [HN.out]; exact Nat.le_refl _)] at hM
      obtain rfl : R1 = I := by rw [← HR1.out]; exact congrArg Prod.fst hM
      obtain rfl : R2 = T := by rw [← HR2.out]; exact congrArg Prod.snd hM
      clear hM
      go_wp2_with fail
      go_ret2
      exact ⟨rfl, hbel⟩
end
end Go.Proofs.Ytndehdnffajigaa.RefD
