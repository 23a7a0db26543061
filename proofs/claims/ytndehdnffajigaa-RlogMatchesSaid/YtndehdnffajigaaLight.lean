/- What light answers, walked. -/
import Derived.Test.YtndehdnffajigaaCals
set_option linter.unusedVariables false
namespace Go.Proofs.Ytndehdnffajigaa.Light
open Go.RowKit Go.Proofs.Ytndehdnffajigaa.Kit Go.Proofs.Ytndehdnffajigaa.Blocks Go.Proofs.Ytndehdnffajigaa.Rlog Go.Proofs.Ytndehdnffajigaa.Ents Go.Proofs.Ytndehdnffajigaa.LogAt Go.Proofs.Ytndehdnffajigaa.WalkB Go.Proofs.Ytndehdnffajigaa.WalkC Go.Proofs.Ytndehdnffajigaa.Cals

theorem step_w {z : Int} {T a b : Nat} (h : z = wrap64 (T : Int)) (hab : a + b = b + a) : wrap64 (z + wrap64 ((a : Int) + (b : Int))) = wrap64 ((T + a + b : Nat) : Int) := by
  subst h; unfold wrap64; omega
theorem step_v {z : Int} {T a : Nat} (h : z = wrap64 (T : Int)) : wrap64 (z + (a : Int)) = wrap64 ((T + a : Nat) : Int) := by
  subst h; unfold wrap64; omega
set_option maxRecDepth 100000 in
set_option maxHeartbeats 2000000 in
theorem light_any (A : Option Addr) (n c : Nat) (l : List Ent) (C : Option Addr) (m cc : Nat) (L : List Cal) (w : World) (hr : RE w w.heap.size A n l) (hb : ∀ e ∈ l, EntB e) (h63 : n ≤ 9223372036854775807) (hh : Holds w w.heap.size C m L) (hm : m ≤ 9223372036854775807) :
    Calls Try.prog 10 #[.slice A n c, .slice C m cc] w (TellsB w (lightB l L)) := by
  have hn := RE.len hr
  have HN := Lib.hid hn
  have HM := Lib.hid hh.1
  have HB := Lib.hid hb
  have HH := Lib.hid hh
  clear hn hb hh
  go_enter Try.func10, Try.ntmps10
  go_wp2_with fail
  go_loopw [5, 19] (fun a x wr => ∃ (k : Nat) (z : Int), k ≤ m ∧ a = .int .i64 z ∧ x = .int .i64 (k : Int) ∧ Hid (z = wrap64 ((n + m + ((L.take k).map weigh).sum : Nat) : Int)) ∧ Below w.heap.size w wr) (fun _ x _ => m - (intOf x).toNat)
  case atStart => exact ⟨0, _, by omega, rfl, rfl, Lib.hid (by simp), Below.refl _ _⟩
  case round =>
    obtain ⟨k, z, hk, rfl, rfl, HZ, hbel⟩ := hrel
    by_cases hkm : k < m
    · obtain ⟨x, hx⟩ : ∃ x, L[k]? = some x := ⟨_, List.getElem?_eq_getElem (by rw [HM.out]; exact hkm)⟩
      obtain ⟨b, o, rfl, hbl, hten, hcal⟩ := HH.out.2 k x hx
      have ht := hten.below hbel hbl
      have c0 := ht.c0
      have c1 := ht.c1
      have c2 := ht.c2
      have c3 := ht.c3
      have c4 := ht.c4
      have c5 := ht.c5
      have c6 := ht.c6
      have c7 := ht.c7
      have c8 := ht.c8
      have c9 := ht.c9
      have hsum := take_snoc L k x hx
      have hd63 := hcal.data
      have hl63 : x.n ≤ 9223372036854775807 := Nat.le_trans hcal.fits hcal.max
      have HS := Lib.hid hsum
      have HCal := Lib.hid hcal
      clear ht hten hcal hsum hx
      go_wp2_with fail
      have hb1 : Below w.heap.size w (wr.alloc (.cells #[.int .i64 x.kind, .int .u64 (x.idx : Int), .int .u64 (x.term : Int), .int .i64 x.what, .string x.data, .slice x.A x.n x.c, .int .u64 (x.snap.idx : Int), .int .u64 (x.snap.term : Int), .int .u64 (x.snap.cfg : Int), .string x.snap.data] 37)) := hbel.alloc hbel.size _
      generalize wr.alloc (.cells #[.int .i64 x.kind, .int .u64 (x.idx : Int), .int .u64 (x.term : Int), .int .i64 x.what, .string x.data, .slice x.A x.n x.c, .int .u64 (x.snap.idx : Int), .int .u64 (x.snap.term : Int), .int .u64 (x.snap.cfg : Int), .string x.snap.data] 37) = w1 at hb1 ⊢
      obtain ⟨T, hT⟩ : ∃ T, n + m + ((L.take k).map weigh).sum = T := ⟨_, rfl⟩
      have hz1 : Hid (wrap64 (z + wrap64 ((x.n : Int) + (x.data.size : Int) / 100)) = wrap64 ((T + x.n + x.data.size / 100 : Nat) : Int)) := by
        show _ = _
        have := HZ.out
        rw [hT] at this
        rw [show ((x.data.size : Int) / 100) = ((x.data.size / 100 : Nat) : Int) by omega]
        exact step_w this (Nat.add_comm _ _)
      have HT := Lib.hid hT
      generalize wrap64 (z + wrap64 ((x.n : Int) + (x.data.size : Int) / 100)) = z1 at hz1 ⊢
      generalize wrap64 ((x.n : Int) + (x.data.size : Int) / 100) = y1
      clear hT
      go_loopw [5, 36] (fun a y wi => ∃ (j : Nat) (z2 : Int), j ≤ x.n ∧ a = .int .i64 z2 ∧ y = .int .i64 (j : Int) ∧ Hid (z2 = wrap64 ((T + x.n + x.data.size / 100 + dataW (x.l.take j) : Nat) : Int)) ∧ Below w.heap.size w wi) (fun _ y _ => x.n - (intOf y).toNat)
      case atStart => exact ⟨0, z1, by omega, rfl, rfl, Lib.hid (by rw [hz1.out]; simp [dataW]), hb1⟩
      case round =>
        obtain ⟨j, z2, hj, rfl, rfl, HZ2, hbi⟩ := hrel
        by_cases hjn : j < x.n
        · obtain ⟨b', o', e, hA, hbl', he, hfour⟩ := RE.at_ HCal.out.list hjn
          have hfr := Four.below hfour hbi hbl'
          have d0 := hfr.c0
          have d1 := hfr.c1
          have d2 := hfr.c2
          have d3 := hfr.c3
          have he63 := (HCal.out.ents e (List.mem_of_getElem? he)).size
          have hz3 : Hid (wrap64 (z2 + (e.data.size : Int) / 100) = wrap64 ((T + x.n + x.data.size / 100 + dataW (x.l.take (j + 1)) : Nat) : Int)) := by
            show _ = _
            rw [take_snoc x.l j e he, dataW_snoc, show ((e.data.size : Int) / 100) = ((e.data.size / 100 : Nat) : Int) by omega, ← Nat.add_assoc]
            exact step_v HZ2.out
          have hz4 := hbi.size
          simp only [hA]
          clear hfr hfour he
          go_wp2_with fail
          go_roundw
          case rel => exact ⟨j + 1, _, by omega, rfl, by go_num, hz3, hbi.alloc hz4 _⟩
          case measure => simp [intOf]; omega
        · obtain rfl : j = x.n := by omega
          have hz4 : Hid (z2 = wrap64 ((n + m + ((L.take (k + 1)).map weigh).sum : Nat) : Int)) := by
            show _ = _
            rw [HZ2.out, HS.out, weigh_snoc, List.take_of_length_le (by rw [RE.len HCal.out.list]; exact Nat.le_refl _)]
            congr 2
            have h1 := HT.out
            have h2 : weigh x = x.n + x.data.size / 100 + dataW x.l := by unfold weigh; rw [RE.len HCal.out.list]
            omega
          go_wp2_with fail
          go_roundw
          case rel => exact ⟨k + 1, z2, by omega, rfl, by go_num, hz4, hbi⟩
          case measure => simp [intOf]; omega
    · obtain rfl : k = m := by omega
      go_wp2_with fail
      have hz0 : Hid (z = wrap64 ((n + k + (L.map weigh).sum : Nat) : Int)) := by
        have := HZ.out
        rwa [List.take_of_length_le (by rw [HM.out]; exact Nat.le_refl _)] at this
      obtain ⟨T, hT⟩ : ∃ T, n + k + (L.map weigh).sum = T := ⟨_, rfl⟩
      rw [hT] at hz0
      have HT := Lib.hid hT
      clear hT
      go_loopw [5, 50] (fun a y wi => ∃ (j : Nat) (z2 : Int), j ≤ n ∧ a = .int .i64 z2 ∧ y = .int .i64 (j : Int) ∧ Hid (z2 = wrap64 ((T + dataW (l.take j) : Nat) : Int)) ∧ Below w.heap.size w wi) (fun _ y _ => n - (intOf y).toNat)
      case atStart => exact ⟨0, z, by omega, rfl, rfl, Lib.hid (by rw [hz0.out]; simp [dataW]), hbel⟩
      case round =>
        obtain ⟨j, z2, hj, rfl, rfl, HZ2, hbi⟩ := hrel
        by_cases hjn : j < n
        · obtain ⟨b', o', e, hA, hbl', he, hfour⟩ := RE.at_ hr hjn
          have hfr := Four.below hfour hbi hbl'
          have d0 := hfr.c0
          have d1 := hfr.c1
          have d2 := hfr.c2
          have d3 := hfr.c3
          have he63 := (HB.out e (List.mem_of_getElem? he)).size
          have hz3 : Hid (wrap64 (z2 + (e.data.size : Int) / 100) = wrap64 ((T + dataW (l.take (j + 1)) : Nat) : Int)) := by
            show _ = _
            rw [take_snoc l j e he, dataW_snoc, show ((e.data.size : Int) / 100) = ((e.data.size / 100 : Nat) : Int) by omega, ← Nat.add_assoc]
            exact step_v HZ2.out
          have hz4 := hbi.size
          simp only [hA]
          clear hfr hfour he
          go_wp2_with fail
          go_roundw
          case rel => exact ⟨j + 1, _, by omega, rfl, by go_num, hz3, hbi.alloc hz4 _⟩
          case measure => simp [intOf]; omega
        · obtain rfl : j = n := by omega
          have hz4 : Hid (z2 = wrap64 ((total l L : Nat) : Int)) := by
            show _ = _
            rw [HZ2.out, List.take_of_length_le (by rw [HN.out]; exact Nat.le_refl _)]
            congr 2
            have h1 := HT.out
            unfold total
            rw [HN.out, HM.out]
            omega
          go_wp2_with fail
          go_ret
          exact ⟨by unfold lightB; rw [← hz4.out]; rfl, hbi⟩
end Go.Proofs.Ytndehdnffajigaa.Light
