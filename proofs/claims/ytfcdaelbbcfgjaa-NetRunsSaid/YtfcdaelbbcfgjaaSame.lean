/- What Same and All answer of the same letters, walked. No statement is proved here. -/
import Derived.Test.YtfcdaelbbcfgjaaWalkG
set_option linter.unusedVariables false
namespace Go.Proofs.Ytfcdaelbbcfgjaa.Same
open Go.RowKit Go.Proofs.Ytfcdaelbbcfgjaa.Kit Go.Proofs.Ytfcdaelbbcfgjaa.Blocks Go.Proofs.Ytfcdaelbbcfgjaa.Ltr Go.Proofs.Ytfcdaelbbcfgjaa.NAt Go.Proofs.Ytfcdaelbbcfgjaa.WalkA

theorem neq_ent (a b c : Int) (d : ByteArray) (w : World) : (binOp .neq 51 (.agg #[.int .u64 a, .int .u64 b, .int .i64 c, .string d]) (.agg #[.int .u64 a, .int .u64 b, .int .i64 c, .string d])).run Try.prog w = .ok (.bool false) w := by
  simp [binOp, Op.equal, Op.maxDepth, go_sem]
theorem Four.below {w w' : World} {b o : Nat} {x : Ent} {B : Nat} (h : Four w b o x) (k : Below B w w') (hb : b < B) : Four w' b o x :=
  ⟨(k.cell (p := ⟨b, o, none⟩) hb).trans h.c0, (k.cell (p := ⟨b, o + 1, none⟩) hb).trans h.c1, (k.cell (p := ⟨b, o + 2, none⟩) hb).trans h.c2, (k.cell (p := ⟨b, o + 3, none⟩) hb).trans h.c3⟩
set_option maxRecDepth 100000 in
/-- Slices of the same entries. -/
theorem ents_any {w : World} {A C : Option Addr} {n ca cc : Nat} {l : List Ent} (ha : RE w w.heap.size A n l) (hc : RE w w.heap.size C n l) (h63 : n ≤ 9223372036854775807) :
    Calls Try.prog 25 #[.slice A n ca, .slice C n cc] w fun e w' => e = .returned (.bool true) ∧ Below w.heap.size w w' := by
  go_enter Try.func25, Try.ntmps25
  go_wp2
  go_loopw [5] (fun x wr => ∃ k : Nat, k ≤ n ∧ x = .int .i64 (k : Int) ∧ Below w.heap.size w wr) (fun x _ => n - (intOf x).toNat)
  case atStart => exact ⟨0, by omega, rfl, Below.refl _ _⟩
  case round =>
    obtain ⟨k, hk, rfl, hbel⟩ := hrel
    by_cases hkn : k < n
    · obtain ⟨b, o, e, rfl, hbl, he, hfour⟩ := RE.at_ ha hkn
      obtain ⟨b', o', e', rfl, hbl', he', hfour'⟩ := RE.at_ hc hkn
      obtain rfl : e = e' := by rw [he] at he'; exact Option.some.inj he'
      have hfr := Four.below hfour hbel hbl
      have hfr' := Four.below hfour' hbel hbl'
      have c0 := hfr.c0
      have c1 := hfr.c1
      have c2 := hfr.c2
      have c3 := hfr.c3
      have d0 := hfr'.c0
      have d1 := hfr'.c1
      have d2 := hfr'.c2
      have d3 := hfr'.c3
      obtain ⟨tm, ix, kd, d⟩ := e
      simp only at c0 c1 c2 c3 d0 d1 d2 d3
      have hneq := neq_ent tm ix kd d
      clear hfr hfr' hfour hfour' he he' ha hc
      go_wp2_with fail
      go_quiet (fail)
      all_goals go_wp2
      all_goals
        go_roundw
        case rel => exact ⟨k + 1, by omega, by go_num, below_drewN hbel _⟩
        case measure => simp [intOf]; omega
    · obtain rfl : k = n := by omega
      go_wp2
      go_ret
      exact ⟨rfl, hbel⟩
set_option maxRecDepth 100000 in
set_option maxHeartbeats 8000000 in
/-- Letters that say the same. -/
theorem same_any {w : World} {E E' : Nat → Prop} {x y : Lt} (hx : Fit w E x) (hy : Fit w E' y) (hs : x.said = y.said) :
    Calls Try.prog 15 #[ltV x, ltV y] w fun e w' => e = .returned (.bool true) ∧ Below w.heap.size w w' := by
  obtain ⟨⟨k, f, t, tm, ix, pv, cm, ok, d⟩, A, n, c, es⟩ := x
  obtain ⟨h', A', n', c', es'⟩ := y
  simp only [Lt.said, Prod.mk.injEq] at hs
  obtain ⟨rfl, rfl⟩ := hs
  have r1 := hx.re
  have r2 := hy.re
  have h63 := hx.few
  have hl1 := RE.len r1
  have hl2 := RE.len r2
  simp only at r1 r2 h63 hl1 hl2
  obtain rfl : n = n' := by omega
  have hbo : ∀ o1 o2, Below w.heap.size w ((w.alloc o1).alloc o2) := fun o1 o2 => ((Below.refl _ _).alloc (Nat.le_refl _) _).alloc (by simp) _
  have hsm : ∀ o1 o2, Calls Try.prog 25 #[.slice A n c, .slice A' n c'] ((w.alloc o1).alloc o2) fun e w' => e = .returned (.bool true) ∧ Below w.heap.size w w' := fun o1 o2 =>
    (ents_any ((Kit.Reads.below r1 (hbo o1 o2)).more (hbo o1 o2).size) ((Kit.Reads.below r2 (hbo o1 o2)).more (hbo o1 o2).size) (by omega)).mono fun e w' h => ⟨h.1, (hbo o1 o2).trans (h.2.mono (hbo o1 o2).size)⟩
  unfold ltV
  have HS := Lib.hid hsm
  clear hx hy r1 r2 hl1 hl2 hsm hbo
  simp only
  go_enter Try.func15, Try.ntmps15
  go_wp2_with fail
  with_reducible refine (HS.out _ _).mono ?_
  rintro e w1 ⟨rfl, hb⟩
  go_wp2
  go_ret
  exact ⟨rfl, hb⟩
end Go.Proofs.Ytfcdaelbbcfgjaa.Same
