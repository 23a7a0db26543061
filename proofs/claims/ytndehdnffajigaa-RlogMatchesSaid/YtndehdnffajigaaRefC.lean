/- What the document's Get and Same answer, walked. -/
import Derived.Test.YtndehdnffajigaaRefB
import Derived.Test.YtndehdnffajigaaWalkH
set_option linter.unusedVariables false
namespace Go.Proofs.Ytndehdnffajigaa.RefC
open Go.RowKit Go.Proofs.Ytndehdnffajigaa.Kit Go.Proofs.Ytndehdnffajigaa.Blocks Go.Proofs.Ytndehdnffajigaa.Rlog Go.Proofs.Ytndehdnffajigaa.Ents Go.Proofs.Ytndehdnffajigaa.LogAt Go.Proofs.Ytndehdnffajigaa.App Go.Proofs.Ytndehdnffajigaa.WalkA Go.Proofs.Ytndehdnffajigaa.WalkB Go.Proofs.Ytndehdnffajigaa.WalkC Go.Proofs.Ytndehdnffajigaa.WalkD Go.Proofs.Ytndehdnffajigaa.WalkF Go.Proofs.Ytndehdnffajigaa.WalkH Go.Proofs.Ytndehdnffajigaa.RefB

theorem gives_of {w w' : World} {v : Value} {n : Nat} {l : List Ent} (h : w'.ownsRow w.heap.size 47 4 v n (ecells l)) (hn : n = l.length) (hb : Below w.heap.size w w') : Gives w l (.returned v) w' := by
  subst hn
  obtain ⟨A, c, rfl, h1, h2, h3⟩ := own_form h
  unfold maxLen at h2
  exact ⟨A, c, rfl, h3, h1, by omega, hb, off_own h⟩
/-- A row of the call's own, one entry more. -/
theorem more_own {w wr w1 : World} {o : Obj} {v : Value} {A' : Option Addr} {c' n : Nat} {l : List Ent} {e : Ent} (hown : wr.ownsRow w.heap.size 47 4 v n (ecells l)) (hb : Below w.heap.size w wr)
    (h1 : w1.ownsRow w.heap.size 47 4 (.slice A' (n + 1) c') (n + 1) (ecells l ++ ecells [e])) (hg : (wr.alloc o).grownBy w1 v.ownBlock) :
    w1.ownsRow w.heap.size 47 4 (.slice A' (n + 1) c') (n + 1) (ecells (l ++ [e])) ∧ Below w.heap.size w w1 := by
  rw [ecells_append]
  exact ⟨h1, (hb.alloc hb.size o).grown hg (by have := hb.size; simp; omega) (fun k hk => (hown.lt k hk).1)⟩

section
variable {B p : Nat} {v : Value} {g : G} {w : World} (h : LR B w p v g) (f : Fine g)
include h f
set_option maxHeartbeats 1000000 in
theorem rget_none {i : Nat} {n : Int} (hp : place g i = none) : Calls Try.prog 41 #[.pointer (some ⟨p, 0, none⟩), .int .u64 (i : Int), .int .i64 n] w (Gives w []) := by
  have c4 := h.c4
  have hlt := h.lt
  obtain ⟨A, c, rfl, hnc, hcm, hr⟩ := h.form
  obtain ⟨L, hL⟩ : ∃ L, g.es.length = L := ⟨_, rfl⟩
  rw [hL] at c4 hnc hr
  have HF := Lib.hid f
  have HP := Lib.hid hp
  clear hL f hp
  go_enter Try.func41, Try.ntmps41
  go_wp2
  go_loopw [7, 8] (fun s x wr => ∃ k : Nat, k ≤ L ∧ s = .slice none 0 0 ∧ x = .int .i64 (k : Int) ∧ Below w.heap.size w wr) (fun _ x _ => L - (intOf x).toNat)
  case atStart => exact ⟨0, by omega, rfl, rfl, Below.refl _ _⟩
  case round =>
    obtain ⟨k, hk, rfl, rfl, hbel⟩ := hrel
    have c4r := (hbel.cell (p := ⟨p, 4, none⟩) hlt).trans c4
    by_cases hkL : k < L
    · by_cases hn : 0 < n
      · obtain ⟨b, o, e, rfl, hbl, he, hfour⟩ := RE.at_ hr hkL
        have d1 := (Four.below hfour hbel hbl).c1
        have hne : e.idx ≠ i := fun hi => by
          have := (HF.out.at_ he).2.2.1
          rw [hi, HP.out] at this
          cases this
        obtain ⟨ix, hix⟩ : ∃ ix, e.idx = ix := ⟨_, rfl⟩
        rw [hix] at d1 hne
        have hne1 : ((ix : Int) == (i : Int)) = false := by simp; omega
        clear he hfour hix hne
        by_cases hge : i ≤ ix
        · go_wp2
          go_roundw
          case rel => exact ⟨k + 1, by omega, rfl, by go_num, hbel⟩
          case measure => simp [intOf]; omega
        · go_wp2
          go_roundw
          case rel => exact ⟨k + 1, by omega, rfl, by go_num, hbel⟩
          case measure => simp [intOf]; omega
      · go_wp2
        go_ret
        exact ⟨none, 0, rfl, RE.nil _ _ _, by simp, by omega, hbel, Off.zero _ _⟩
    · obtain rfl : k = L := by omega
      go_wp2
      go_ret
      exact ⟨none, 0, rfl, RE.nil _ _ _, by simp, by omega, hbel, Off.zero _ _⟩
set_option maxHeartbeats 2000000 in
theorem rget_some {i q : Nat} {n : Int} (hp : place g i = some q) (hl : g.es.length * 40 ≤ 140737488355328) : Calls Try.prog 41 #[.pointer (some ⟨p, 0, none⟩), .int .u64 (i : Int), .int .i64 n] w (Gives w ((g.es.drop q).take n.toNat)) := by
  have c4 := h.c4
  have hlt := h.lt
  obtain ⟨A, c, rfl, hnc, hcm, hr⟩ := h.form
  obtain ⟨hq, hiq⟩ := place_lt hp
  obtain ⟨L, hL⟩ : ∃ L, g.es.length = L := ⟨_, rfl⟩
  rw [hL] at c4 hnc hr hl hq
  have HL := Lib.hid hL
  have HF := Lib.hid f
  have HI := Lib.hid hiq
  clear hL f hp hiq
  go_enter Try.func41, Try.ntmps41
  go_wp2
  go_loopw [7, 8] (fun s x wr => ∃ k m : Nat, k ≤ L ∧ Hid (m = k - q) ∧ (m : Int) ≤ max n 0 ∧ x = .int .i64 (k : Int) ∧ wr.ownsRow w.heap.size 47 4 s m (ecells ((g.es.drop q).take m)) ∧ Below w.heap.size w wr) (fun _ x _ => L - (intOf x).toNat)
  case atStart => exact ⟨0, 0, by omega, Lib.hid (by omega), by omega, rfl, by simpa [ecells] using World.ownsRow_nil _ _ _ _, Below.refl _ _⟩
  case round =>
    obtain ⟨k, m, hk, HM, hkq, rfl, hown, hbel⟩ := hrel
    have c4r := (hbel.cell (p := ⟨p, 4, none⟩) hlt).trans c4
    obtain ⟨A0, c0, rfl, _, _, _⟩ := own_form hown
    have hm := HM.out
    have hend : Gives w ((g.es.drop q).take m) (.returned (.slice A0 m c0)) wr := gives_of hown (by rw [List.length_take, List.length_drop, HL.out]; omega) hbel
    have HEnd := Lib.hid hend
    have HO := Lib.hid hown
    have hsz := hbel.size
    by_cases hkL : k < L
    · by_cases hn : (m : Int) < n
      · obtain ⟨b, o, e, rfl, hbl, he, hfour⟩ := RE.at_ hr hkL
        have hfr := Four.below hfour hbel hbl
        have d0 := hfr.c0
        have d1 := hfr.c1
        have d2 := hfr.c2
        have d3 := hfr.c3
        have hidx := (HF.out.at_ he).1
        have hI := HI.out
        by_cases hkq2 : k < q
        · obtain rfl : m = 0 := by omega
          have hlt1 : ¬ i ≤ e.idx := by omega
          obtain ⟨ix, hix⟩ : ∃ ix, e.idx = ix := ⟨_, rfl⟩
          rw [hix] at d1 hlt1
          have hm0 : Hid (0 = k + 1 - q) := Lib.hid (by omega)
          clear he hfour hfr hix hm hend hown hI hidx
          go_wp2
          go_roundw
          case rel => exact ⟨k + 1, 0, by omega, hm0, hkq, by go_num, HO.out, hbel⟩
          case measure => simp [intOf]; omega
        · have hge : i ≤ e.idx := by omega
          have hcond : 0 < m ∨ ((e.idx : Int) == (i : Int)) = true := by
            rcases Nat.eq_zero_or_pos m with h0 | h0
            · right; simp; omega
            · exact .inl h0
          have hnext : (g.es.drop q).take (m + 1) = (g.es.drop q).take m ++ [e] := by
            rw [take_snoc (g.es.drop q) m e]
            rw [List.getElem?_drop, show q + m = k by omega]
            exact he
          have hm40 : (m + 1) * 40 ≤ 140737488355328 := by omega
          obtain ⟨tm, ix, kd, d⟩ := e
          simp only at d0 d1 d2 d3 hge hcond
          have hnews : RE (wr.alloc (.cells #[.int .u64 (tm : Int), .int .u64 (ix : Int), .int .i64 kd, .string d] 47)) (wr.heap.size + 1) (some ⟨wr.heap.size, 0, none⟩) 1 [⟨tm, ix, kd, d⟩] := ent_new wr ⟨tm, ix, kd, d⟩ 47
          have hownA : ∀ o, (wr.alloc o).ownsRow w.heap.size 47 4 (.slice A0 m c0) m (ecells ((g.es.drop q).take m)) := fun o => ((Only.refl (fun _ => False) wr).alloc o).own hown (by simp)
          have hba : ∀ o, w.heap.size ≤ (wr.alloc o).heap.size := fun o => by simp; omega
          have HNX := Lib.hid hnext
          have hkm : Hid (m + 1 = k + 1 - q) := Lib.hid (by omega)
          have hm1 : (m : Int) + 1 ≤ max n 0 := by omega
          have hm2 : ((m + 1 : Nat) : Int) ≤ max n 0 := by omega
          have HM2 := Lib.hid hm2
          clear he hfour hfr hm hend hown hI hidx hnext hkq2 hkq hm2
          by_cases hc2 : 0 < m
          · have hc1 : decide (0 < m) = true := decide_eq_true hc2
            go_wp2_with (first
              | (at_builtin
                 refine wpList_app (v := .slice A0 m c0) _ rfl _ _ rfl w.heap.size rfl (hownA _) rfl hnews (ecells_one _) hm40 (hba _) ?_
                 intro A' c' w1 hown1 hg1 hat1
                 obtain ⟨ho1, hb1⟩ := more_own HO.out hbel hown1 hg1
                 clear hown1 hg1 hat1))
            go_roundw
            case rel => exact ⟨k + 1, m + 1, by omega, hkm, HM2.out, by go_num, by rw [HNX.out]; exact ho1, hb1⟩
            case measure => simp [intOf]; omega
          · have hc1 : decide (0 < m) = false := decide_eq_false hc2
            have hc := hcond.resolve_left hc2
            go_wp2_with (first
              | (at_builtin
                 refine wpList_app (v := .slice A0 m c0) _ rfl _ _ rfl w.heap.size rfl (hownA _) rfl hnews (ecells_one _) hm40 (hba _) ?_
                 intro A' c' w1 hown1 hg1 hat1
                 obtain ⟨ho1, hb1⟩ := more_own HO.out hbel hown1 hg1
                 clear hown1 hg1 hat1))
            go_roundw
            case rel => exact ⟨k + 1, m + 1, by omega, hkm, HM2.out, by go_num, by rw [HNX.out]; exact ho1, hb1⟩
            case measure => simp [intOf]; omega
      · have htk : (g.es.drop q).take n.toNat = (g.es.drop q).take m := by congr 1; omega
        have HTK := Lib.hid htk
        clear htk hend hown hm
        go_wp2
        go_ret
        rw [HTK.out]
        exact HEnd.out
    · obtain rfl : k = L := by omega
      have htk : (g.es.drop q).take n.toNat = (g.es.drop q).take m := by
        have hdl : (g.es.drop q).length = m := by rw [List.length_drop, HL.out]; omega
        rw [List.take_of_length_le (l := g.es.drop q) (i := m) (by omega), List.take_of_length_le (by omega)]
      have HTK := Lib.hid htk
      clear htk hend hown hm
      go_wp2
      go_ret
      rw [HTK.out]
      exact HEnd.out
/-- Up to n entries from an index on. -/
theorem rget_any {i : Nat} {n : Int} (hl : g.es.length * 40 ≤ 140737488355328) : Calls Try.prog 41 #[.pointer (some ⟨p, 0, none⟩), .int .u64 (i : Int), .int .i64 n] w (Gives w (get g i n)) := by
  unfold Rlog.get
  cases hp : place g i with
  | none => exact rget_none h f hp
  | some k => exact rget_some h f hp hl
end
end Go.Proofs.Ytndehdnffajigaa.RefC
