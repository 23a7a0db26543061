/- What the document's Cut leaves, walked. -/
import Derived.Test.YtndehdnffajigaaRefD
import Derived.Test.YtndehdnffajigaaWalkG
set_option linter.unusedVariables false
namespace Go.Proofs.Ytndehdnffajigaa.RefE
open Go.RowKit Go.Proofs.Ytndehdnffajigaa.Kit Go.Proofs.Ytndehdnffajigaa.Blocks Go.Proofs.Ytndehdnffajigaa.Rlog Go.Proofs.Ytndehdnffajigaa.Ents Go.Proofs.Ytndehdnffajigaa.LogAt Go.Proofs.Ytndehdnffajigaa.App Go.Proofs.Ytndehdnffajigaa.WalkA Go.Proofs.Ytndehdnffajigaa.WalkB Go.Proofs.Ytndehdnffajigaa.WalkC Go.Proofs.Ytndehdnffajigaa.WalkD Go.Proofs.Ytndehdnffajigaa.WalkF Go.Proofs.Ytndehdnffajigaa.WalkG Go.Proofs.Ytndehdnffajigaa.WalkH Go.Proofs.Ytndehdnffajigaa.RefB Go.Proofs.Ytndehdnffajigaa.RefC

section
variable {B p : Nat} {v : Value} {g : G} {w : World} (h : LR B w p v g) (f : Fine g)
include h f
set_option maxHeartbeats 2000000 in
/-- All entries from an index on are gone. -/
theorem rcut_any (i : Nat) (hl : g.es.length * 40 ≤ 140737488355328) : Calls Try.prog 35 #[.pointer (some ⟨p, 0, none⟩), .int .u64 (i : Int)] w (Leaves0 73 B w p v (cut g i)) := by
  have c4 := h.c4
  have hlt := h.lt
  have hbase := h.base
  have H := Lib.hid h
  obtain ⟨A, c, rfl, hnc, hcm, hr⟩ := h.form
  obtain ⟨L, hL⟩ : ∃ L, g.es.length = L := ⟨_, rfl⟩
  rw [hL] at c4 hnc hr hl
  obtain ⟨R, hR⟩ : ∃ R, cut g i = R := ⟨_, rfl⟩
  rw [hR]
  have HR := Lib.hid hR
  have HL := Lib.hid hL
  have HF := Lib.hid f
  clear hL f h hR
  go_enter Try.func35, Try.ntmps35
  go_wp2
  go_loopw [4, 5] (fun s x wr => ∃ k : Nat, k ≤ L ∧ x = .int .i64 (k : Int) ∧ Hid (∀ j e, j < k → g.es[j]? = some e → e.idx ≠ i) ∧ wr.ownsRow w.heap.size 47 4 s k (ecells (g.es.take k)) ∧ Below w.heap.size w wr) (fun _ x _ => L - (intOf x).toNat)
  case atStart => exact ⟨0, by omega, rfl, Lib.hid (fun j e hj => absurd hj (by omega)), by simpa [ecells] using World.ownsRow_nil _ _ _ _, Below.refl _ _⟩
  case round =>
    obtain ⟨k, hk, rfl, HA, hown, hbel⟩ := hrel
    have c4r := (hbel.cell (p := ⟨p, 4, none⟩) hlt).trans c4
    obtain ⟨A0, c0, rfl, _, _, _⟩ := own_form hown
    have HO := Lib.hid hown
    have hsz := hbel.size
    by_cases hkL : k < L
    · obtain ⟨b, o, e, rfl, hbl, he, hfour⟩ := RE.at_ hr hkL
      have hfr := Four.below hfour hbel hbl
      have d0 := hfr.c0
      have d1 := hfr.c1
      have d2 := hfr.c2
      have d3 := hfr.c3
      by_cases hi : e.idx = i
      · have hib : ((e.idx : Int) == (i : Int)) = true := by simp [hi]
        have hcut : cut g i = { g with es := g.es.take k } := by
          unfold cut upto
          rw [← hi, (HF.out.at_ he).2.2.1]
        obtain rfl : R = { g with es := g.es.take k } := by rw [← HR.out]; exact hcut
        obtain ⟨hcell, hfz, hleft⟩ := H.out.rowed (v1 := .slice A0 k c0) (es := g.es.take k) (Only.of_below hbel) (own_base hown hbase) (by rw [List.length_take, HL.out]; omega) rfl (fun q hq => .inr (hown.lt q hq).1)
        have hltr : p < wr.heap.size := by omega
        have HLeft := Lib.hid hleft
        clear hleft hown hfr hfour he hi hcut
        obtain ⟨ix, hix⟩ : ∃ ix, e.idx = ix := ⟨_, rfl⟩
        rw [hix] at d1 hib
        clear hix
        go_wp2
        go_end0
        exact ⟨rfl, HLeft.out⟩
      · have hib : ((e.idx : Int) == (i : Int)) = false := by simp; omega
        have HA' : Hid (∀ j e, j < k + 1 → g.es[j]? = some e → e.idx ≠ i) := by
          intro j e' hj he'
          by_cases hjk : j = k
          · subst hjk
            rw [he] at he'
            cases he'
            exact hi
          · exact HA.out j e' (by omega) he'
        have hnext := take_snoc g.es k e he
        have hm40 : (k + 1) * 40 ≤ 140737488355328 := by omega
        obtain ⟨tm, ix, kd, d⟩ := e
        simp only at d0 d1 d2 d3 hib
        have hnews : RE (wr.alloc (.cells #[.int .u64 (tm : Int), .int .u64 (ix : Int), .int .i64 kd, .string d] 47)) (wr.heap.size + 1) (some ⟨wr.heap.size, 0, none⟩) 1 [⟨tm, ix, kd, d⟩] := ent_new wr ⟨tm, ix, kd, d⟩ 47
        have hownA : ∀ o, (wr.alloc o).ownsRow w.heap.size 47 4 (.slice A0 k c0) k (ecells (g.es.take k)) := fun o => ((Only.refl (fun _ => False) wr).alloc o).own hown (by simp)
        have hba : ∀ o, w.heap.size ≤ (wr.alloc o).heap.size := fun o => by simp; omega
        have HNX := Lib.hid hnext
        clear he hfour hfr hown hnext hi
        go_wp2_with (first
          | (at_builtin
             refine wpList_app (v := .slice A0 k c0) _ rfl _ _ rfl w.heap.size rfl (hownA _) rfl hnews (ecells_one _) hm40 (hba _) ?_
             intro A' c' w1 hown1 hg1 hat1
             obtain ⟨ho1, hb1⟩ := more_own HO.out hbel hown1 hg1
             clear hown1 hg1 hat1))
        go_roundw
        case rel => exact ⟨k + 1, by omega, by go_num, HA', by rw [HNX.out]; exact ho1, hb1⟩
        case measure => simp [intOf]; omega
    · obtain rfl : k = L := by omega
      have hcut : cut g i = g := by
        unfold cut upto
        cases hp : place g i with
        | none => rfl
        | some q =>
          obtain ⟨hq1, hq2⟩ := place_lt hp
          have he := List.getElem?_eq_getElem hq1
          exact absurd (by rw [(HF.out.at_ he).1, hq2]) (HA.out q _ (by rw [← HL.out]; exact hq1) he)
      obtain rfl : R = g := by rw [← HR.out]; exact hcut
      clear hcut hown
      go_wp2
      go_end0
      exact ⟨rfl, LeftL.of_below H.out hbel⟩
end
end Go.Proofs.Ytndehdnffajigaa.RefE
