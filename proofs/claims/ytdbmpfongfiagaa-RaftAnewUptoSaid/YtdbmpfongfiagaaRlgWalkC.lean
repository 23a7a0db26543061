/- What the program's mayFollow answers, walked. -/
import Derived.Test.YtdbmpfongfiagaaRlgWalkB
set_option linter.unusedVariables false
namespace Go.Proofs.Ytdbmpfongfiagaa.RlgWalkC
open Go.RowKit Go.Proofs.Ytdbmpfongfiagaa.Kit Go.Proofs.Ytdbmpfongfiagaa.Blocks Go.Proofs.Ytdbmpfongfiagaa.Rlog Go.Proofs.Ytdbmpfongfiagaa.Ents Go.Proofs.Ytdbmpfongfiagaa.LogAt Go.Proofs.Ytdbmpfongfiagaa.RlgWalkA Go.Proofs.Ytdbmpfongfiagaa.RlgWalkB

theorem Four.below {w w' : World} {b o : Nat} {e : Ent} {B : Nat} (h : Four w b o e) (k : Below B w w') (hb : b < B) : Four w' b o e :=
  ⟨(k.cell (p := ⟨b, o, none⟩) hb).trans h.c0, (k.cell (p := ⟨b, o + 1, none⟩) hb).trans h.c1, (k.cell (p := ⟨b, o + 2, none⟩) hb).trans h.c2, (k.cell (p := ⟨b, o + 3, none⟩) hb).trans h.c3⟩
theorem chained_next {l : List Ent} {i t k : Nat} {e : Ent} (he : l[k]? = some e) (hf : chained (l.take k) i t = true) {I T : Nat} (hl : lasts (l.take k) i t = (I, T)) :
    chained (l.take (k + 1)) i t = may e I T ∧ lasts (l.take (k + 1)) i t = (e.idx, e.term) := by
  rw [take_snoc l k e he, follow_snoc, hf, hl, lasts_snoc]
  exact ⟨by simp, rfl⟩
theorem chained_not {l : List Ent} {i t k : Nat} (h : chained (l.take k) i t = false) : chained l i t = false := by
  rw [Bool.eq_false_iff] at h ⊢
  exact fun e => h (follow_take e k)

set_option maxRecDepth 100000 in
set_option maxHeartbeats 1000000 in
theorem chained_any (A : Option Addr) (n c : Nat) (l : List Ent) (i t : Nat) (w : World) (hr : RE w w.heap.size A n l) (hb : ∀ e ∈ l, EntB e) (h63 : n ≤ 9223372036854775807) :
    Calls Try.prog 16 #[.slice A n c, .int .u64 (i : Int), .int .u64 (t : Int)] w (TellsB w (chained l i t)) := by
  have hn := RE.len hr
  have HN := Lib.hid hn
  clear hn
  go_enter Try.func16, Try.ntmps16
  go_wp2
  go_loopw [1, 2, 11] (fun a b x wr => ∃ k I T : Nat, k ≤ n ∧ a = .int .u64 (I : Int) ∧ b = .int .u64 (T : Int) ∧ x = .int .i64 (k : Int) ∧ Hid (lasts (l.take k) i t = (I, T)) ∧ Hid (chained (l.take k) i t = true) ∧ Below w.heap.size w wr) (fun _ _ x _ => n - (intOf x).toNat)
  case atStart => exact ⟨0, i, t, by omega, rfl, rfl, rfl, Lib.hid rfl, Lib.hid rfl, Below.refl _ _⟩
  case round =>
    obtain ⟨k, I, T, hk, rfl, rfl, rfl, HL, HF, hbel⟩ := hrel
    by_cases hkn : k < n
    · obtain ⟨b, o, e, rfl, hbl, hek, hfour⟩ := RE.at_ hr hkn
      have hfr := Four.below hfour hbel hbl
      have c0 := hfr.c0
      have c1 := hfr.c1
      have c2 := hfr.c2
      have c3 := hfr.c3
      have hsz := hbel.size
      have he := hb e (List.mem_of_getElem? hek)
      obtain ⟨f1, f2⟩ := chained_next hek HF.out HL.out
      have hlie := fun w => lie_any (i := I) (t := T) he w
      obtain ⟨tm, ix, kd, d⟩ := e
      unfold entV at hlie
      simp only at c0 c1 c2 c3 hlie f2
      obtain ⟨r, hr1⟩ : ∃ r, may ⟨tm, ix, kd, d⟩ I T = r := ⟨_, rfl⟩
      rw [hr1] at hlie f1
      have HLie := Lib.hid hlie
      have H1 := Lib.hid f1
      have H2 := Lib.hid f2
      clear hlie f1 f2 hr1 hek hfr hfour
      have hcb : (wr.alloc (.cells #[.int .u64 (tm : Int), .int .u64 (ix : Int), .int .i64 kd, .string d] 57)).heap[wr.heap.size]? = some (.cells #[.int .u64 (tm : Int), .int .u64 (ix : Int), .int .i64 kd, .string d] 57 (0, 0)) := heap_alloc_new wr _
      have HCB := Lib.hid hcb
      clear hcb
      cases r with
      | false =>
        go_wp2_with fail
        refine (HLie.out _).mono ?_
        rintro e' w1 ⟨rfl, hb1⟩
        have hfl : chained l i t = false := chained_not H1.out
        have HFL := Lib.hid hfl
        clear hfl
        go_wp2
        go_ret
        exact ⟨by rw [HFL.out]; rfl, (hbel.alloc hsz _).trans (hb1.mono (by simp; omega))⟩
      | true =>
        go_wp2_with fail
        refine (HLie.out _).mono ?_
        rintro e' w1 ⟨rfl, hb1⟩
        have hc1 := (hb1.block wr.heap.size (by simp)).trans HCB.out
        have d0 : w1.cell? ⟨wr.heap.size, 0, none⟩ = some (.int .u64 (tm : Int)) := by rw [cell_at hc1]; rfl
        have d1 : w1.cell? ⟨wr.heap.size, 1, none⟩ = some (.int .u64 (ix : Int)) := by rw [cell_at hc1]; rfl
        have hB1 : Below w.heap.size w w1 := (hbel.alloc hsz _).trans (hb1.mono (by simp; omega))
        clear hb1 hc1 c0 c1 c2 c3
        go_wp2_with fail
        go_quiet (fail)
        all_goals go_wp2
        all_goals
          go_roundw
          case rel => exact ⟨k + 1, ix, tm, by omega, rfl, rfl, by go_num, H2, H1, below_drewN hB1 _⟩
          case measure => simp [intOf]; omega
    · obtain rfl : k = n := by omega
      have hfl : chained l i t = true := by
        have := HF.out
        rwa [List.take_of_length_le (by rw [HN.out]; exact Nat.le_refl _)] at this
      have HFL := Lib.hid hfl
      clear hfl
      go_wp2
      go_ret
      exact ⟨by rw [HFL.out]; rfl, hbel⟩
end Go.Proofs.Ytdbmpfongfiagaa.RlgWalkC
