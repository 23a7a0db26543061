/- What the document's Stop and Next leave; Ints of two lists that are one; walked. -/
import Derived.Test.YtecejikolgkihaaRDrop
set_option linter.unusedVariables false
namespace Go.Proofs.Ytecejikolgkihaa.RStop
open Go.RowKit Go.Proofs.Ytecejikolgkihaa.Kit Go.Proofs.Ytecejikolgkihaa.Blocks Go.Proofs.Ytecejikolgkihaa.Whl Go.Proofs.Ytecejikolgkihaa.Tms Go.Proofs.Ytecejikolgkihaa.WalkG Go.Proofs.Ytecejikolgkihaa.Sol Go.Proofs.Ytecejikolgkihaa.RMem Go.Proofs.Ytecejikolgkihaa.RDrop

section
variable {B : Nat} {w : World} {q : Nat} {va vb : Value} {now : Nat} {D : List Tm}
set_option maxRecDepth 100000 in
set_option maxHeartbeats 4000000 in
theorem stop_R (h : RAt B w q va vb now D) (hnd : (D.map (·.1)).Nodup) (hfew : D.length ≤ 64) (id : Int) :
    Calls Try.prog 14 #[.pointer (some ⟨q, 0, none⟩), .int .i64 id] w fun e w' => e = .returned (.bool (isIn D id)) ∧ LeftR B w q va vb now (del D id) w' := by
  obtain ⟨A, c, hva, hnc, hcm, hrd⟩ := own_form h.ids
  obtain ⟨n, hn⟩ : ∃ n, D.length = n := ⟨_, rfl⟩
  rw [hn] at hva hnc hrd
  have H := Lib.hid h
  have HRd := Lib.hid hrd
  have HN := Lib.hid hn
  have HVA := Lib.hid hva
  have hn64 : n ≤ 64 := by omega
  clear h hrd hn hva
  go_enter Try.func14, Try.ntmps14
  go_wp2
  go_loopw [5] (fun i wr => ∃ k : Nat, k ≤ n ∧ i = .int .i64 (k : Int) ∧ Hid (∀ t ∈ D.take k, t.1 ≠ id) ∧ Below w.heap.size w wr) (fun i _ => n - (intOf i).toNat)
  case atStart => exact ⟨0, by omega, rfl, by intro t ht; simp at ht, Below.refl _ _⟩
  case round =>
    obtain ⟨k, hk, rfl, hno, hbw⟩ := hrel
    have hw := H.out.below hbw
    have c1 := hw.c1
    have hql := hw.qlt
    rw [HVA.out] at c1
    by_cases hlt : k < n
    · have hkI : (k : Int) < (n : Int) := by omega
      have hk0 : (0 : Int) ≤ (k : Int) := by omega
      obtain ⟨t, ht⟩ : ∃ t, D[k]? = some t := ⟨_, List.getElem?_eq_getElem (by rw [HN.out]; exact hlt)⟩
      obtain ⟨b, o, z, rfl, hbl, hz, hc⟩ := Reads.int (HRd.out.below hbw) hlt
      have hbl2 : b < wr.heap.size := Nat.lt_of_lt_of_le hbl hbw.size
      have hzt : z = t.1 := by simp [ht] at hz; exact hz.symm
      subst hzt
      obtain ⟨a, d⟩ := t
      simp only at hc hz
      have HT := Lib.hid ht
      by_cases he : a = id
      · subst he
        have heB : (a == a) = true := by simp
        have hdr := drop_any hw (i := k) (by rw [HN.out]; exact hlt) (by rw [HN.out]; omega)
        rw [erase_del hnd ht] at hdr
        have HD := Lib.hid hdr
        clear hdr hw ht hz
        go_wp2_with fail
        with_reducible refine HD.out.mono ?_
        rintro e w3 ⟨⟨v, rfl⟩, hl⟩
        have HL := Lib.hid hl
        clear hl
        go_wp2
        go_ret
        have hin : isIn D a = true := List.any_eq_true.2 ⟨(a, d), List.mem_of_getElem? HT.out, by simp⟩
        exact ⟨by rw [hin]; rfl, LeftR.then (Only.of_below hbw) (fun g hg => .inl hg) HL.out⟩
      · have heB : (a == id) = false := by simpa using he
        clear hw ht hz
        go_wp2
        go_roundw
        case rel =>
          refine ⟨k + 1, by omega, by simp, ?_, hbw⟩
          show ∀ t ∈ D.take (k + 1), t.1 ≠ id
          rw [take_snoc D k _ HT.out]
          intro t ht
          rcases List.mem_append.1 ht with ht | ht
          · exact hno.out t ht
          · simp at ht; subst ht; exact he
        case measure => simp [intOf]; omega
    · obtain rfl : k = n := by omega
      have hin : isIn D id = false := by
        refine List.any_eq_false.2 fun t ht e => ?_
        have := hno.out t (by rw [List.take_of_length_le (by rw [HN.out]; exact Nat.le_refl _)]; exact ht)
        exact this (eq_of_beq e)
      have HIn := Lib.hid hin
      clear hin hw
      go_wp2
      go_ret
      refine ⟨by rw [HIn.out]; rfl, ?_⟩
      rw [del_none HIn.out]
      exact LeftR.of_below H.out hbw
theorem soon_snoc {l : List Tm} (t : Tm) (h : l ≠ []) : soon (l ++ [t]) = min (soon l) t.2 := by
  induction l with
  | nil => exact absurd rfl h
  | cons a l ih =>
    cases l with
    | nil => rfl
    | cons b l =>
      have := ih (by simp)
      show min a.2 (soon (b :: l ++ [t])) = min (min a.2 (soon (b :: l))) t.2
      rw [this]
      omega
/-- The least so far. -/
def acc (now : Nat) (D : List Tm) (k : Nat) : Nat := next now (D.take k)
theorem acc_zero (now : Nat) (D : List Tm) : acc now D 0 = 0 := by simp [acc, next]
theorem acc_one {now : Nat} {D : List Tm} {t : Tm} (h : D[0]? = some t) : acc now D 1 = t.2 - now := by
  unfold acc
  rw [take_snoc D 0 t h]
  simp [next, soon]
theorem acc_succ {now k : Nat} {D : List Tm} {t : Tm} (h : D[k]? = some t) (hk : 0 < k) (hd : ∀ t ∈ D, now < t.2) : acc now D (k + 1) = min (acc now D k) (t.2 - now) := by
  have hl : k ≤ D.length := by have := (List.getElem?_eq_some_iff.1 h).1; omega
  have hne : D.take k ≠ [] := by
    intro e
    have := congrArg List.length e
    rw [List.length_take, List.length_nil] at this
    omega
  unfold acc next
  rw [take_snoc D k t h, if_neg (by simp), if_neg hne, soon_snoc t hne]
  omega
set_option maxRecDepth 100000 in
set_option maxHeartbeats 4000000 in
theorem next_R (h : RAt B w q va vb now D) (hd : ∀ t ∈ D, now < t.2 ∧ t.2 < 18446744073709551616) (hfew : D.length ≤ 64) :
    Calls Try.prog 21 #[.pointer (some ⟨q, 0, none⟩)] w fun e w' => e = .returned (.int .u64 (next now D : Int)) ∧ Below w.heap.size w w' := by
  obtain ⟨A, c, hvb, hnc, hcm, hrd⟩ := own_form h.dues
  obtain ⟨n, hn⟩ : ∃ n, D.length = n := ⟨_, rfl⟩
  rw [hn] at hvb hnc hrd
  have H := Lib.hid h
  have HRd := Lib.hid hrd
  have HN := Lib.hid hn
  have HVB := Lib.hid hvb
  have hn64 : n ≤ 64 := by omega
  clear h hrd hn hvb
  go_enter Try.func21, Try.ntmps21
  go_wp2
  go_loopw [3, 4] (fun b i wr => ∃ k m : Nat, k ≤ n ∧ i = .int .i64 (k : Int) ∧ b = .int .u64 (m : Int) ∧ Hid (m = acc now D k) ∧ Below w.heap.size w wr) (fun _ i _ => n - (intOf i).toNat)
  case atStart => exact ⟨0, 0, by omega, rfl, rfl, (acc_zero now D).symm, Below.refl _ _⟩
  case round =>
    obtain ⟨k, m, hk, rfl, rfl, hm, hbw⟩ := hrel
    have hw := H.out.below hbw
    have c0 := hw.c0
    have c2 := hw.c2
    have hql := hw.qlt
    rw [HVB.out] at c2
    clear hw
    by_cases hlt : k < n
    · have hkI : (k : Int) < (n : Int) := by omega
      have hk0 : (0 : Int) ≤ (k : Int) := by omega
      obtain ⟨t, ht⟩ : ∃ t, D[k]? = some t := ⟨_, List.getElem?_eq_getElem (by rw [HN.out]; exact hlt)⟩
      obtain ⟨ad, u, rfl, hbl, hx, hc⟩ := (HRd.out.below hbw).at_ hlt
      have hs := (HRd.out.below hbw).spot (by omega)
      rw [duv_get ht] at hx
      cases hx
      rw [hs, Addr.add_lit] at hc
      obtain ⟨b, o, hbo⟩ : ∃ b o, ad = ⟨b, o, none⟩ := ⟨_, _, hs⟩
      subst hbo
      simp only at hc hbl
      have hbl2 : b < wr.heap.size := Nat.lt_of_lt_of_le hbl hbw.size
      have hdt := hd t (List.mem_of_getElem? ht)
      have hsub : IntKind.u64.wrap ((t.2 : Int) - (now : Int)) = ((t.2 - now : Nat) : Int) := by
        rw [show (t.2 : Int) - (now : Int) = ((t.2 - now : Nat) : Int) by omega]
        exact IntWalk.u64_in _ (by omega)
      obtain ⟨x, hx⟩ : ∃ x, t.2 - now = x := ⟨_, rfl⟩
      rw [hx] at hsub
      obtain ⟨d, hd'⟩ : ∃ d, t.2 = d := ⟨_, rfl⟩
      rw [hd'] at hsub hc
      have hmx : Try.prog.follows .mixedOrders = true := by kernel_rfl
      have hnext : acc now D (k + 1) = if k = 0 then x else min m x := by
        by_cases h0 : k = 0
        · subst h0
          rw [if_pos rfl, acc_one ht, hx]
        · rw [if_neg h0, acc_succ ht (by omega) (fun t ht => (hd t ht).1), hx, hm.out]
      have HNx := Lib.hid hnext
      clear hs ht hdt hx hd' hnext
      by_cases h0 : k = 0
      · have h0B : ((k : Int) == 0) = true := by simp; omega
        subst h0
        simp only [Nat.add_zero] at hc
        go_wp2
        go_region
        all_goals go_wp2
        all_goals
          go_roundw
          case rel => exact ⟨1, x, by omega, by simp, rfl, by show _ = _; rw [HNx.out]; rfl, hbw.drew⟩
          case measure => simp [intOf]; omega
      · have h0B : ((k : Int) == 0) = false := by simp; omega
        by_cases hxm : x < m
        · have hxmI : (x : Int) < (m : Int) := by omega
          go_wp2
          go_region
          all_goals go_wp2
          all_goals
            go_roundw
            case rel => exact ⟨k + 1, x, by omega, by simp, rfl, by show _ = _; rw [HNx.out, if_neg h0]; omega, hbw.drew⟩
            case measure => simp [intOf]; omega
        · have hxmI : ¬ (x : Int) < (m : Int) := by omega
          go_wp2
          go_region
          all_goals go_wp2
          all_goals
            go_roundw
            case rel => exact ⟨k + 1, m, by omega, by simp, rfl, by show _ = _; rw [HNx.out, if_neg h0]; omega, hbw.drew⟩
            case measure => simp [intOf]; omega
    · obtain rfl : k = n := by omega
      have he : m = next now D := by
        rw [hm.out]
        unfold acc
        rw [List.take_of_length_le (by rw [HN.out]; exact Nat.le_refl _)]
      have HE := Lib.hid he
      clear he
      go_wp2
      go_ret
      exact ⟨by rw [← HE.out]; rfl, hbw⟩
end
set_option maxRecDepth 100000 in
/-- Two lists that hold the same numbers are told as the same. -/
theorem ints_R (A1 A2 : Option Addr) (c1 c2 : Nat) (l : List Int) (w : World) {n : Nat} (hn : l.length = n) (h1 : Reads w w.heap.size 1 A1 n (ivals l)) (h2 : Reads w w.heap.size 1 A2 n (ivals l)) (hl : n ≤ 1048576) :
    Calls Try.prog 15 #[.slice A1 n c1, .slice A2 n c2] w fun e w' => e = .returned (.bool true) ∧ Below w.heap.size w w' := by
  have H1 := Lib.hid h1
  have H2 := Lib.hid h2
  clear h1 h2 hn
  go_enter Try.func15, Try.ntmps15
  go_wp2
  go_loopw [5] (fun i wr => ∃ k : Nat, k ≤ n ∧ i = .int .i64 (k : Int) ∧ Below w.heap.size w wr) (fun i _ => n - (intOf i).toNat)
  case atStart => exact ⟨0, by omega, rfl, Below.refl _ _⟩
  case round =>
    obtain ⟨k, hk, rfl, hb⟩ := hrel
    by_cases hlt : k < n
    · obtain ⟨b1, o1, j, rfl, hbl1, hj1, hc1⟩ := Reads.int (H1.out.below hb) hlt
      obtain ⟨b2, o2, j', rfl, hbl2, hj2, hc2⟩ := Reads.int (H2.out.below hb) hlt
      rw [hj1] at hj2
      cases hj2
      have hk0 : (0 : Int) ≤ (k : Int) := by omega
      have hk1 : (k : Int) < (n : Int) := by omega
      have hneq : ((j : Int) != (j : Int)) = false := by simp
      clear hj1
      go_wp2_with fail
      go_region
      all_goals go_wp2
      all_goals
        go_roundw
        case rel => exact ⟨k + 1, by omega, by simp, hb.drew⟩
        case measure => simp [intOf]; omega
    · obtain rfl : k = n := by omega
      go_wp2
      go_ret
      exact ⟨rfl, hb⟩
end Go.Proofs.Ytecejikolgkihaa.RStop
