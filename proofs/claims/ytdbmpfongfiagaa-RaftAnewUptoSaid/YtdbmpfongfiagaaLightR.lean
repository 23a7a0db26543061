/- What light answers, walked. -/
import Derived.Test.YtdbmpfongfiagaaOpensC
import Derived.Test.YtdbmpfongfiagaaRlgWalkC
set_option linter.unusedVariables false
namespace Go.Proofs.Ytdbmpfongfiagaa.LightR
open Go.RowKit Go.Proofs.Ytdbmpfongfiagaa.Kit Go.Proofs.Ytdbmpfongfiagaa.Blocks Go.Proofs.Ytdbmpfongfiagaa.Rlog Go.Proofs.Ytdbmpfongfiagaa.Ents Go.Proofs.Ytdbmpfongfiagaa.LogAt Go.Proofs.Ytdbmpfongfiagaa.Nod Go.Proofs.Ytdbmpfongfiagaa.NodAt Go.Proofs.Ytdbmpfongfiagaa.OpensC

def lightB (l : List Ent) (L : List Cal) : Bool := decide (total l L ≤ 600)
theorem step_w {z : Int} {T a b c : Nat} (h : z = (T : Int)) (hb : a + (b + c) / 100 ≤ 9000000) (hT : T ≤ 9000000) (hbc : b + c ≤ 9000000) : wrap64 (z + wrap64 ((a : Int) + wrap64 ((wrap64 ((b : Int) + (c : Int))).tdiv 100))) = ((T + a + (b + c) / 100 : Nat) : Int) := by
  subst h
  have h1 : wrap64 ((b : Int) + (c : Int)) = ((b + c : Nat) : Int) := by unfold wrap64; omega
  rw [h1]
  have h2 : ((b + c : Nat) : Int).tdiv 100 = (((b + c) / 100 : Nat) : Int) := by rw [Int.tdiv_eq_ediv_of_nonneg (by omega)]; rfl
  rw [h2]
  generalize (b + c) / 100 = q at *
  unfold wrap64
  omega
theorem step_v {z : Int} {T a : Nat} (h : z = (T : Int)) (hT : T + a ≤ 9000000) : wrap64 (z + (a : Int)) = ((T + a : Nat) : Int) := by
  subst h; unfold wrap64; omega
theorem dataW_take (l : List Ent) (k : Nat) : dataW (l.take k) ≤ dataW l := by
  have h : l.take k ++ l.drop k = l := List.take_append_drop k l
  have : dataW l = dataW (l.take k) + dataW (l.drop k) := by
    have e : dataW (l.take k ++ l.drop k) = dataW (l.take k) + dataW (l.drop k) := by simp only [dataW, List.map_append, List.sum_append]
    rw [h] at e
    exact e
  omega
theorem sum_take (L : List Cal) (k : Nat) : ((L.take k).map weigh).sum ≤ (L.map weigh).sum := by
  have h : L.take k ++ L.drop k = L := List.take_append_drop k L
  have : (L.map weigh).sum = ((L.take k).map weigh).sum + ((L.drop k).map weigh).sum := by
    have e : ((L.take k ++ L.drop k).map weigh).sum = ((L.take k).map weigh).sum + ((L.drop k).map weigh).sum := by simp only [List.map_append, List.sum_append]
    rw [h] at e
    exact e
  omega
set_option maxRecDepth 100000 in
set_option maxHeartbeats 4000000 in
theorem light_any (A : Option Addr) (n c : Nat) (l : List Ent) (C : Option Addr) (m cc : Nat) (L : List Cal) (w : World) (hr : RE w w.heap.size A n l) (hb : ∀ e ∈ l, EntB e) (h63 : n ≤ 9223372036854775807) (hh : Holds w w.heap.size C m L) (hm : m ≤ 9223372036854775807) (hsm : total l L ≤ 1048576) :
    Calls Try.prog 5 #[.slice A n c, .slice C m cc] w fun e w' => e = .returned (.bool (lightB l L)) ∧ Below w.heap.size w w' := by
  have hn := RE.len hr
  have hn20 : n ≤ 1048576 := by unfold total at hsm; omega
  have hm20 : m ≤ 1048576 := by have := hh.1; unfold total at hsm; omega
  have HN := Lib.hid hn
  have HM := Lib.hid hh.1
  have HB := Lib.hid hb
  have HH := Lib.hid hh
  have HSm := Lib.hid hsm
  have hnm : wrap64 ((n : Int) + (m : Int)) = ((n + m : Nat) : Int) := by unfold wrap64; omega
  have HNM := Lib.hid hnm
  clear hn hb hh hsm hnm hn20 hm20
  go_enter Try.func5, Try.ntmps5
  go_wp2_with fail
  obtain ⟨NM, hNM⟩ : ∃ NM : Int, wrap64 ((n : Int) + (m : Int)) = NM := ⟨_, rfl⟩
  have HNN : Hid (NM = ((n + m : Nat) : Int)) := Lib.hid (by rw [← hNM]; exact HNM.out)
  rw [hNM]
  clear hNM HNM
  go_loopw [5, 19] (fun a y wi => ∃ (j : Nat) (z2 : Int), j ≤ n ∧ a = .int .i64 z2 ∧ y = .int .i64 (j : Int) ∧ Hid (z2 = ((n + m + dataW (l.take j) : Nat) : Int)) ∧ Below w.heap.size w wi) (fun _ y _ => n - (intOf y).toNat)
  case atStart => exact ⟨0, _, by omega, rfl, rfl, Lib.hid (by rw [HNN.out]; simp [dataW]), Below.refl _ _⟩
  case round =>
    obtain ⟨j, z2, hj, rfl, rfl, HZ2, hbi⟩ := hrel
    by_cases hjn : j < n
    · obtain ⟨b', o', e, hA, hbl', he, hfour⟩ := RE.at_ hr hjn
      have hfr := RlgWalkC.Four.below hfour hbi hbl'
      have d0 := hfr.c0
      have d1 := hfr.c1
      have d2 := hfr.c2
      have d3 := hfr.c3
      have he63 := (HB.out e (List.mem_of_getElem? he)).size
      have hz3 : Hid (wrap64 (z2 + (e.data.size : Int) / 100) = ((n + m + dataW (l.take (j + 1)) : Nat) : Int)) := by
        show _ = _
        have hle := dataW_take l (j + 1)
        have hs := HSm.out
        unfold total at hs
        rw [take_snoc l j e he, dataW_snoc, show ((e.data.size : Int) / 100) = ((e.data.size / 100 : Nat) : Int) by omega, ← Nat.add_assoc]
        rw [take_snoc l j e he, dataW_snoc] at hle
        have h1 := HN.out
        have h2 := HM.out
        exact step_v HZ2.out (by omega)
      have hz4 := hbi.size
      simp only [hA]
      clear hfr hfour he
      go_wp2_with fail
      go_roundw
      case rel => exact ⟨j + 1, _, by omega, rfl, by go_num, hz3, hbi.alloc hz4 _⟩
      case measure => simp [intOf]; omega
    · obtain rfl : j = n := by omega
      have hz0 : Hid (z2 = ((j + m + dataW l : Nat) : Int)) := by
        have := HZ2.out
        rwa [List.take_of_length_le (by rw [HN.out]; exact Nat.le_refl _)] at this
      obtain ⟨T, hT⟩ : ∃ T, j + m + dataW l = T := ⟨_, rfl⟩
      rw [hT] at hz0
      have HT := Lib.hid hT
      clear hT HZ2
      go_wp2_with fail
      go_loopw [5, 32] (fun a x wr => ∃ (k : Nat) (z : Int), k ≤ m ∧ a = .int .i64 z ∧ x = .int .i64 (k : Int) ∧ Hid (z = ((T + ((L.take k).map weigh).sum : Nat) : Int)) ∧ Below w.heap.size w wr) (fun _ x _ => m - (intOf x).toNat)
      case atStart => exact ⟨0, z2, by omega, rfl, rfl, Lib.hid (by rw [hz0.out]; simp), hbi⟩
      case round =>
        obtain ⟨k, z, hk, rfl, rfl, HZ, hbel⟩ := hrel
        by_cases hkm : k < m
        · obtain ⟨x, hx⟩ : ∃ x, L[k]? = some x := ⟨_, List.getElem?_eq_getElem (by rw [HM.out]; exact hkm)⟩
          obtain ⟨b, o, rfl, hbl, hten, hcal⟩ := HH.out.2 k x hx
          have ht := hten.below hbel hbl
          have hsum := take_snoc L k x hx
          have hsm1 := sum_take L (k + 1)
          have HS := Lib.hid hsum
          have HS1 := Lib.hid hsm1
          have HCal := Lib.hid hcal
          have HTe := Lib.hid ht
          obtain ⟨kind, ms, pl, data, id, idx, add⟩ := x
          obtain ⟨kd, fr, tt, tm, ix, pv, cm, ok, es, dd⟩ := ms
          obtain ⟨A, xn, xc⟩ := pl
          have hbg : es.length + data.size + dd.size + dataW es ≤ 1048576 := hcal.small
          have hd63 : data.size ≤ 9223372036854775807 := by omega
          have hdd63 : dd.size ≤ 9223372036854775807 := by omega
          have hln := RE.len hcal.list
          have hln : es.length = xn := hln
          have hl63 : xn ≤ 9223372036854775807 := by omega
          have c0 := ht.c0
          have c1 := ht.c1
          have c2 := ht.c2
          have c3 := ht.c3
          have c4 := ht.c4
          have c5 := ht.c5
          have c6 := ht.c6
          have c7 := ht.c7
          have c8 := ht.c8
          have c9 := ht.c9
          have c10 := ht.c10
          have c11 := ht.c11
          have c12 := ht.c12
          have c13 := ht.c13
          have c14 := ht.c14
          simp only at c0 c1 c2 c3 c4 c5 c6 c7 c8 c9 c10 c11 c12 c13 c14
          have hTb : T + ((L.take k).map weigh).sum ≤ 9000000 := by
            have h1 := HT.out
            have h2 := HSm.out
            have h3 := sum_take L k
            unfold total at h2
            have h4 := HN.out
            have h5 := HM.out
            omega
          have hz1 : Hid (wrap64 (z + wrap64 ((xn : Int) + wrap64 ((wrap64 ((data.size : Int) + (dd.size : Int))).tdiv 100))) = ((T + ((L.take k).map weigh).sum + xn + (data.size + dd.size) / 100 : Nat) : Int)) := by
            show _ = _
            exact step_w HZ.out (by omega) hTb (by omega)
          have HLn := Lib.hid hln
          have hb1 : Below w.heap.size w (wr.alloc (.cells #[.int .i64 kind, .int .i64 kd, .int .i64 fr, .int .i64 tt, .int .u64 (tm : Int), .int .u64 (ix : Int), .int .u64 (pv : Int), .int .u64 (cm : Int), .bool ok, .slice A xn xc, .string dd, .string data, .int .i64 id, .int .u64 (idx : Int), .bool add] 43)) := hbel.alloc hbel.size _
          have HB1 := Lib.hid hb1
          clear ht hten hcal hsum hx hb1 hsm1 hbg hln hTb
          go_wp2_with fail
          obtain ⟨S, hS⟩ : ∃ S, T + ((L.take k).map weigh).sum + xn + (data.size + dd.size) / 100 = S := ⟨_, rfl⟩
          have HSS := Lib.hid hS
          have hz2 := hz1.out
          rw [hS] at hz2
          rw [hz2]
          clear hS hz2
          go_loopw [5, 56] (fun a y wi => ∃ (j' : Nat), j' ≤ xn ∧ (∃ z3 : Int, a = .int .i64 z3 ∧ Hid (z3 = ((S + dataW (es.take j') : Nat) : Int))) ∧ y = .int .i64 (j' : Int) ∧ Below w.heap.size w wi) (fun _ y _ => xn - (intOf y).toNat)
          case atStart => exact ⟨0, by omega, ⟨_, rfl, Lib.hid (by simp [dataW])⟩, rfl, HB1.out⟩
          case round =>
            obtain ⟨j', hj', ⟨z3, rfl, HZ3⟩, rfl, hbi2⟩ := hrel
            by_cases hjn' : j' < xn
            · obtain ⟨b', o', e, hA, hbl', he, hfour⟩ := RE.at_ HCal.out.list hjn'
              have hfr := RlgWalkC.Four.below hfour hbi2 hbl'
              have d0 := hfr.c0
              have d1 := hfr.c1
              have d2 := hfr.c2
              have d3 := hfr.c3
              have he63 := (HCal.out.msg.es e (List.mem_of_getElem? he)).size
              have hz3 : Hid (wrap64 (z3 + (e.data.size : Int) / 100) = ((S + dataW (es.take (j' + 1)) : Nat) : Int)) := by
                show _ = _
                have hle := dataW_take es (j' + 1)
                have hbg : es.length + data.size + dd.size + dataW es ≤ 1048576 := HCal.out.small
                have he' : es[j']? = some e := he
                rw [take_snoc es j' e he', dataW_snoc] at hle
                have h1 := HT.out
                have h2 := HSm.out
                have h3 := sum_take L k
                have h4 := HSS.out
                unfold total at h2
                have h5 := HN.out
                have h6 := HM.out
                rw [take_snoc es j' e he', dataW_snoc, show ((e.data.size : Int) / 100) = ((e.data.size / 100 : Nat) : Int) by omega, ← Nat.add_assoc]
                exact step_v HZ3.out (by omega)
              have hz4 := hbi2.size
              simp only at hA
              simp only [hA]
              clear hfr hfour he
              go_wp2_with fail
              go_roundw
              case rel => exact ⟨j' + 1, by omega, ⟨_, rfl, hz3⟩, by go_num, hbi2.alloc hz4 _⟩
              case measure => simp [intOf]; omega
            · obtain rfl : j' = xn := by omega
              have hz4 : Hid (z3 = ((T + ((L.take (k + 1)).map weigh).sum : Nat) : Int)) := by
                show _ = _
                rw [HZ3.out, HS.out, weigh_snoc, List.take_of_length_le (by rw [HLn.out]; exact Nat.le_refl _)]
                have h4 := HSS.out
                have h5 := HLn.out
                have h6 : weigh ⟨kind, ⟨kd, fr, tt, tm, ix, pv, cm, ok, es, dd⟩, ⟨A, j', xc⟩, data, id, idx, add⟩ = es.length + (data.size + dd.size) / 100 + dataW es := rfl
                rw [h6]
                congr 1
                omega
              go_wp2_with fail
              go_roundw
              case rel =>
                exact ⟨k + 1, z3, by omega, rfl, by go_num, hz4, hbi2⟩
              case measure => simp [intOf]; omega
        · obtain rfl : k = m := by omega
          have hz4 : Hid (z = ((total l L : Nat) : Int)) := by
            show _ = _
            rw [HZ.out, List.take_of_length_le (by rw [HM.out]; exact Nat.le_refl _)]
            congr 1
            have h1 := HT.out
            unfold total
            rw [HN.out, HM.out]
            omega
          have hz5 : decide (z ≤ 600) = lightB l L := by
            rw [hz4.out]
            unfold lightB
            exact decide_eq_decide.2 (by omega)
          have HZ5 := Lib.hid hz5
          clear hz5
          go_wp2_with fail
          go_ret
          exact ⟨by rw [HZ5.out]; rfl, hbel⟩
end Go.Proofs.Ytdbmpfongfiagaa.LightR
