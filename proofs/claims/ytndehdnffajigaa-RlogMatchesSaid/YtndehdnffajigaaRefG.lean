/- What the document's Compact leaves, walked. -/
import Derived.Test.YtndehdnffajigaaRefF
import Derived.Test.YtndehdnffajigaaWalkK
set_option linter.unusedVariables false
namespace Go.Proofs.Ytndehdnffajigaa.RefG
open Go.RowKit Go.Proofs.Ytndehdnffajigaa.Kit Go.Proofs.Ytndehdnffajigaa.Blocks Go.Proofs.Ytndehdnffajigaa.Rlog Go.Proofs.Ytndehdnffajigaa.Ents Go.Proofs.Ytndehdnffajigaa.LogAt Go.Proofs.Ytndehdnffajigaa.App Go.Proofs.Ytndehdnffajigaa.WalkA Go.Proofs.Ytndehdnffajigaa.WalkB Go.Proofs.Ytndehdnffajigaa.WalkC Go.Proofs.Ytndehdnffajigaa.WalkD Go.Proofs.Ytndehdnffajigaa.WalkF Go.Proofs.Ytndehdnffajigaa.WalkG Go.Proofs.Ytndehdnffajigaa.WalkH Go.Proofs.Ytndehdnffajigaa.WalkK Go.Proofs.Ytndehdnffajigaa.RefB Go.Proofs.Ytndehdnffajigaa.RefC Go.Proofs.Ytndehdnffajigaa.RefD

/-- A world with another snapshot laid ahead of a log's entries. -/
abbrev snapAt (w : World) (p : Nat) (a b c : Nat) (d : ByteArray) : World := (((w.setCell ⟨p, 0, none⟩ (.int .u64 (a : Int))).setCell ⟨p, 1, none⟩ (.int .u64 (b : Int))).setCell ⟨p, 2, none⟩ (.int .u64 (c : Int))).setCell ⟨p, 3, none⟩ (.string d)
theorem snapped_at {T : TypeId} {B : Nat} {w : World} {p : Nat} {v : Value} {g : G} (h : LogAt T B w p v g) (s : Snap) :
    LogAt T B (snapAt w p s.idx s.term s.cfg s.data) p v { g with snap := s } ∧ Only (fun q => q = p) w (snapAt w p s.idx s.term s.cfg s.data) := by
  have hk : Only (fun q => q = p) w (snapAt w p s.idx s.term s.cfg s.data) :=
    ((((Only.refl (fun q => q = p) w).setCell (a := ⟨p, 0, none⟩) (.inr rfl) _).setCell (a := ⟨p, 1, none⟩) (.inr rfl) _).setCell (a := ⟨p, 2, none⟩) (.inr rfl) _).setCell (a := ⟨p, 3, none⟩) (.inr rfl) _
  refine ⟨⟨h.low, ?_, hk.own h.own fun q hq e => h.ne (e ▸ hq), h.ne⟩, hk⟩
  rw [set_at (set_at (set_at (set_at h.cell _) _) _) _]
  rfl

section
variable {B p : Nat} {v : Value} {g : G} {w : World} (h : LR B w p v g) (f : Fine g)
include h f
set_option maxHeartbeats 2000000 in
/-- A snapshot stands for all entries up to an index. -/
theorem rcompact_any (i : Nat) (d : ByteArray) (hl : g.es.length * 40 ≤ 140737488355328) : Calls Try.prog 36 #[.pointer (some ⟨p, 0, none⟩), .int .u64 (i : Int), .string d] w (Answers 73 B w p v (compact g i d)) := by
  have c4 := h.c4
  have hlt := h.lt
  have hbase := h.base
  have H := Lib.hid h
  have hmem := rmembers_any h f i
  obtain ⟨M, hM⟩ : ∃ M, (members g i).1 = M := ⟨_, rfl⟩
  obtain ⟨M2, hM2⟩ : ∃ M2, (members g i).2 = M2 := ⟨_, rfl⟩
  rw [hM, hM2] at hmem
  have HMem := Lib.hid hmem
  have HMM := Lib.hid hM
  obtain ⟨A, c, rfl, hnc, hcm, hr⟩ := h.form
  obtain ⟨L, hL⟩ : ∃ L, g.es.length = L := ⟨_, rfl⟩
  rw [hL] at c4 hnc hr hl
  obtain ⟨R, hR⟩ : ∃ R, compact g i d = R := ⟨_, rfl⟩
  rw [hR]
  have HR := Lib.hid hR
  have HL := Lib.hid hL
  have HF := Lib.hid f
  clear hL f h hR hmem hM hM2
  go_enter Try.func36, Try.ntmps36
  go_wp2
  go_loopw [7] (fun x wr => ∃ k : Nat, k ≤ L ∧ x = .int .i64 (k : Int) ∧ Hid (∀ j e, j < k → g.es[j]? = some e → e.idx ≠ i) ∧ wr = w) (fun x _ => L - (intOf x).toNat)
  case atStart => exact ⟨0, by omega, rfl, Lib.hid (fun j e hj => absurd hj (by omega)), rfl⟩
  case round =>
    obtain ⟨k, hk, rfl, HA, rfl⟩ := hrel
    by_cases hkL : k < L
    · obtain ⟨b, o, e, rfl, hbl, he, hfour⟩ := RE.at_ hr hkL
      have d1 := hfour.c1
      by_cases hi : e.idx = i
      · have hib : ((e.idx : Int) == (i : Int)) = true := by simp [hi]
        have hcp : compact g i d = (0, ⟨⟨i, e.term, M, d⟩, g.es.drop (k + 1)⟩) := by
          unfold compact
          rw [← hi, (HF.out.at_ he).2.2.1]
          simp only [he, Option.map_some, Option.getD_some]
          rw [hi, HMM.out]
        obtain rfl : R = (0, ⟨⟨i, e.term, M, d⟩, g.es.drop (k + 1)⟩) := by rw [← HR.out]; exact hcp
        obtain ⟨tm, htm⟩ : ∃ tm, e.term = tm := ⟨_, rfl⟩
        obtain ⟨ix, hix⟩ : ∃ ix, e.idx = ix := ⟨_, rfl⟩
        rw [hix] at d1 hib
        rw [htm]
        have d0 := hfour.c0
        rw [htm] at d0
        clear he hfour hi hcp hix htm
        go_wp2_with fail
        refine HMem.out.mono ?_
        rintro e2 w1 ⟨rfl, hb1⟩
        have h1 := H.out.below hb1
        have x0 := h1.c0
        have x1 := h1.c1
        have x2 := h1.c2
        have x3 := h1.c3
        have x4 := (hb1.cell (p := ⟨p, 4, none⟩) hlt).trans c4
        have y0 := (hb1.cell (p := ⟨b, o + k * 4, none⟩) hbl).trans d0
        have y1 := (hb1.cell (p := ⟨b, o + k * 4 + 1, none⟩) hbl).trans d1
        have hlt1 := h1.lt
        have f0 := free_at h1.cell 0
        have f1 := free_at h1.cell 1
        have f2 := free_at h1.cell 2
        have f3 := free_at h1.cell 3
        have f4 := free_at h1.cell 4
        obtain ⟨h5, o5⟩ := snapped_at h1 ⟨i, tm, M, d⟩
        simp only at h5 o5
        have z4 := h5.c4
        have zf := free_at h5.cell 4
        have hlt5 := h5.lt
        have hr5 := h5.own
        obtain ⟨A5, c5, hv5, _, _, hre⟩ := h5.form
        cases hv5
        rw [HL.out] at z4 hre
        simp only at hre
        have hfrom := RE.from_ hre (k := k + 1) (by omega) hnc
        have hsl : ∀ W, (Instr.slice 25 (.slice (some ⟨b, o, none⟩) L c) (some (.int .i64 ((k : Int) + 1))) none none).run Try.prog W = .ok (.slice (cut4 (some ⟨b, o, none⟩) c (k + 1)) (L - (k + 1)) (c - (k + 1))) W :=
          fun W => run_from4 (P := Try.prog) 25 47 Try.underlying25 sz4 (some ⟨b, o, none⟩) L c (k + 1) (by omega) W
        have hlen : L - (k + 1) = (g.es.drop (k + 1)).length := by rw [List.length_drop, HL.out]
        obtain ⟨m, hm⟩ : ∃ m, L - (k + 1) = m := ⟨_, rfl⟩
        obtain ⟨A2, hA2⟩ : ∃ A2, cut4 (some ⟨b, o, none⟩) c (k + 1) = A2 := ⟨_, rfl⟩
        obtain ⟨c2, hc2⟩ : ∃ c2, c - (k + 1) = c2 := ⟨_, rfl⟩
        rw [hm] at hlen
        rw [hm, hA2] at hfrom
        have hm40 : m * 40 ≤ 140737488355328 := by omega
        rw [hm, hA2, hc2] at hsl
        have hk63 : (k : Int) + 1 ≤ 9223372036854775807 := by omega
        have H5 := Lib.hid h5
        have O5 := Lib.hid o5
        have HB1 := Lib.hid hb1
        have HLen := Lib.hid hlen
        have hbase5 := h5.base
        clear h5 o5 hb1 h1 hlen hm hA2 hc2 hr5 hre
        go_wp2_with (first
          | (at_builtin
             refine wpList_new _ rfl _ _ rfl B rfl rfl hfrom (ecells_one _) hm40 hbase5 ?_
             intro A' c' w3 hown3 hb3 hat3
             obtain ⟨hcell3, hfr3, hleft⟩ := H5.out.rowed (es := g.es.drop (k + 1)) (Only.of_below hb3) hown3 HLen.out rfl (fun q hq => .inr (hat3 q hq))
             have HL3 := Lib.hid hleft
             have hlt3 : p < w3.heap.size := Nat.lt_of_lt_of_le hlt5 hb3.size
             clear hleft hown3 hat3))
        go_ret
        exact ⟨rfl, LeftL.afterBelow HB1.out (LeftL.then (O5.out.mono fun q _ hq => .inl hq) (fun q hq => .inl hq) HL3.out)⟩
      · have hib : ((e.idx : Int) == (i : Int)) = false := by simp; omega
        have HA' : Hid (∀ j e, j < k + 1 → g.es[j]? = some e → e.idx ≠ i) := by
          intro j e' hj he'
          by_cases hjk : j = k
          · subst hjk
            rw [he] at he'
            cases he'
            exact hi
          · exact HA.out j e' (by omega) he'
        obtain ⟨ix, hix⟩ : ∃ ix, e.idx = ix := ⟨_, rfl⟩
        rw [hix] at d1 hib
        clear he hfour hi hix
        go_wp2
        go_roundw
        case rel => exact ⟨k + 1, by omega, by go_num, HA', by first | rfl | trivial⟩
        case measure => simp [intOf]; omega
    · obtain rfl : k = L := by omega
      have hcp : compact g i d = (20, g) := by
        unfold compact
        cases hp : place g i with
        | none => rfl
        | some q =>
          obtain ⟨hq1, hq2⟩ := place_lt hp
          have he := List.getElem?_eq_getElem hq1
          exact absurd (by rw [(HF.out.at_ he).1, hq2]) (HA.out q _ (by rw [← HL.out]; exact hq1) he)
      obtain rfl : R = (20, g) := by rw [← HR.out]; exact hcp
      clear hcp
      go_wp2
      go_ret
      exact ⟨rfl, LeftL.refl H.out⟩
end
end Go.Proofs.Ytndehdnffajigaa.RefG
