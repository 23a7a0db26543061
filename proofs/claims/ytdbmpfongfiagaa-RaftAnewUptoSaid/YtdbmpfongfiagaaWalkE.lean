/- What the program's keep leaves, walked. -/
import Derived.Test.YtdbmpfongfiagaaWalkD
import Derived.Test.YtdbmpfongfiagaaRlgWalkI
set_option linter.unusedVariables false
namespace Go.Proofs.Ytdbmpfongfiagaa.WalkE
open Go.RowKit Go.Proofs.Ytdbmpfongfiagaa.Kit Go.Proofs.Ytdbmpfongfiagaa.Blocks Go.Proofs.Ytdbmpfongfiagaa.Rlog Go.Proofs.Ytdbmpfongfiagaa.Ents Go.Proofs.Ytdbmpfongfiagaa.LogAt Go.Proofs.Ytdbmpfongfiagaa.App Go.Proofs.Ytdbmpfongfiagaa.Nod Go.Proofs.Ytdbmpfongfiagaa.NodAt Go.Proofs.Ytdbmpfongfiagaa.AppL Go.Proofs.Ytdbmpfongfiagaa.WalkA Go.Proofs.Ytdbmpfongfiagaa.WalkB Go.Proofs.Ytdbmpfongfiagaa.WalkC Go.Proofs.Ytdbmpfongfiagaa.WalkD

/-- Of a rising list what is below an index is its beginning. -/
theorem asc_filter {o : List Ent} (h : Asc o) {k i : Nat} (hk : k ≤ o.length) (h1 : ∀ x, o[k - 1]? = some x → 0 < k → x.idx < i) (h2 : ∀ x ∈ o.drop k, i ≤ x.idx) : o.filter (fun x => decide (x.idx < i)) = o.take k := by
  have e : o.filter (fun x => decide (x.idx < i)) = (o.take k).filter (fun x => decide (x.idx < i)) ++ (o.drop k).filter (fun x => decide (x.idx < i)) := by
    rw [← List.filter_append, List.take_append_drop]
  have e2 : (o.drop k).filter (fun x => decide (x.idx < i)) = [] := by
    rw [List.filter_eq_nil_iff]
    intro x hx
    have := h2 x hx
    simp
    omega
  have e1 : (o.take k).filter (fun x => decide (x.idx < i)) = o.take k := by
    rw [List.filter_eq_self]
    intro x hx
    obtain ⟨j, hj, rfl⟩ := List.mem_take_iff_getElem.1 hx
    have hk0 : 0 < k := by omega
    have hl : k - 1 < o.length := by omega
    have := h1 o[k - 1] (List.getElem?_eq_getElem hl) hk0
    simp only [decide_eq_true_eq]
    by_cases hjk : j = k - 1
    · subst hjk; exact this
    · have := List.pairwise_iff_getElem.1 h j (k - 1) (by omega) hl (by omega)
      omega
  rw [e, e1, e2, List.append_nil]
section
variable {B p N : Nat} {z : Seat} {m : Nd} {w : World}
/-- The beginning of what must last, and entries behind: the new row and its field. -/
theorem PAt.rekept (h : PAt B w p z m) {Ak : Option Addr} {K ck k n : Nat} {l : List Ent} (hv : z.vk = .slice Ak K ck) (hk : k ≤ m.kept.length) (hn : l.length = n) {w3 : World} {A' : Option Addr} {c' : Nat}
    (hown : w3.ownsRow B 57 4 (.slice A' (k + n) c') (k + n) (ecells (m.kept.take k) ++ ecells l)) (hg : w.grownBy w3 (Value.slice Ak k ck).ownBlock) (hat : (Value.slice A' (k + n) c').ownBlock = (Value.slice Ak k ck).ownBlock ∨ (Value.slice A' (k + n) c').ownBlock = some w.heap.size) :
    w3.cell? ⟨p, 0, none⟩ = some (.slice Ak K ck) ∧ w3.frozen? ⟨p, 0, none⟩ = false ∧ p < w3.heap.size ∧ LeftP B w p z { m with kept := m.kept.take k ++ l } (w3.setCell ⟨p, 0, none⟩ (.slice A' (k + n) c')) := by
  have hob : (Value.slice Ak k ck).ownBlock = z.vk.ownBlock := by rw [hv]; cases Ak <;> rfl
  rw [hob] at hg hat
  have hat' : ∀ q, (Value.slice A' (k + n) c').ownBlock = some q → z.vk.ownBlock = some q ∨ w.heap.size ≤ q := fun q hq => by
    rcases hat with e | e
    · exact .inl (e ▸ hq)
    · rw [hq] at e; cases e; exact .inr (Nat.le_refl _)
  obtain ⟨r1, r2, r3⟩ := NodeAt.rekept (kept' := m.kept.take k ++ l) h ((Only.refl (fun q => z.vk.ownBlock = some q) w).grown hg (fun q hq => .inr hq)) hown (by rw [List.length_append, List.length_take, hn]; omega) (by rw [ecells_append]) hat' 0
  refine ⟨by rw [cell_at r1, ← hv]; rfl, free_at r1 0, lt_at r1, _, r2, r3⟩
theorem keep_nil (h : PAt B w p z m) (A : Option Addr) (c : Nat) : Calls Try.prog 53 #[.pointer (some ⟨p, 0, none⟩), .slice A 0 c] w (Does B w p z (keep m [])) := by
  have hk : keep m [] = m := rfl
  rw [hk]
  have H := Lib.hid h
  clear h
  go_enter Try.func53, Try.ntmps53
  go_wp2
  (try simp only [Exit.inBlock, Exit.then]); refine bodyPost_ret (results_none rfl _ _ _) rfl ?_
  exact ⟨rfl, LeftP.refl H.out⟩
set_option maxHeartbeats 2000000 in
theorem keep_some (h : PAt B w p z m) (f : NdB N m) (hN : N ≤ 1000000000) (A : Option Addr) (n c : Nat) (l : List Ent) (hr : RE w w.heap.size A n l) (hn : 0 < n) (hfew : n ≤ 1000000000) :
    Calls Try.prog 53 #[.pointer (some ⟨p, 0, none⟩), .slice A n c] w (Does B w p z (keep m l)) := by
  have c0 := h.c0
  have f0 := NodeAt.free h 0
  have hplt := h.plt
  obtain ⟨b, o, e, rfl, hbl, he, hfour⟩ := RE.at_ hr hn
  have hln := RE.len hr
  obtain ⟨Ak, ck, hvk, hnk, hck, hrk⟩ := own_form h.kept
  have hkN := f.kept
  have hkeep : keep m l = { m with kept := (m.kept.filter fun x => decide (x.idx < e.idx)) ++ l } := by
    cases l with
    | nil => simp at hln; omega
    | cons e' r => cases he; rfl
  rw [hkeep]
  have l0 := hfour.c1
  rw [Nat.zero_mul, Nat.add_zero] at l0
  obtain ⟨K, hK⟩ : ∃ K, m.kept.length = K := ⟨_, rfl⟩
  obtain ⟨X, hX⟩ : ∃ X, e.idx = X := ⟨_, rfl⟩
  rw [hX] at l0
  rw [hK] at hvk hrk hkN hnk
  rw [hX]
  rw [hvk] at c0
  have hn0 : ((n : Int) == 0) = false := by simp; omega
  have hn1 : (0 : Int) < (n : Int) := by omega
  have hsl : ∀ (k : Nat), k ≤ K → ∀ w, (Instr.slice 27 (.slice Ak K ck) none (some (.int .i64 (k : Int))) none).run Try.prog w = .ok (.slice Ak k ck) w := by
    intro k hk w
    have ht := Try.underlying27
    have ht' : Try.prog.underlying 27 = some (.slice (Try.prog.elem 27)) := by simp [Program.elem, ht]
    have he' : Try.prog.elem 27 = 57 := by simp [Program.elem, ht]
    rw [run_slice_h w _ _ _ _ ht' .i64 _ (by omega) (by omega), he', Ents.sz4]
    cases Ak with
    | none => simp [Result.andThen, sliced]
    | some ad => simp [Result.andThen, sliced, add_zero]
  have H := Lib.hid h
  have F := Lib.hid f
  have HR := Lib.hid hr
  have HRK := Lib.hid hrk
  have HSL := Lib.hid hsl
  have HVK := Lib.hid hvk
  have HK := Lib.hid hK
  have HL : Hid (b < w.heap.size) := hbl
  have HLn := Lib.hid hln
  unfold maxLen at hck
  clear h f hr hrk hsl hvk hK he hfour hkeep hln hX hbl
  go_enter Try.func53, Try.ntmps53
  go_wp2
  go_loopw [4] (fun i wr => ∃ k : Nat, k ≤ K ∧ i = .int .i64 (k : Int) ∧ Hid (∀ x ∈ m.kept.drop k, X ≤ x.idx) ∧ Below w.heap.size w wr) (fun i _ => (intOf i).toNat)
  case atStart => exact ⟨K, Nat.le_refl _, rfl, Lib.hid (by rw [← HK.out, List.drop_length]; simp), Below.refl _ _⟩
  case round =>
    obtain ⟨k, hk, rfl, hall, hbw⟩ := hrel
    have q0 := (hbw.cell (p := ⟨p, 0, none⟩) hplt).trans c0
    have ql := (hbw.cell (p := ⟨b, o + 1, none⟩) HL.out).trans l0
    by_cases hz : k = 0
    · have hk0 : decide (0 < k) = false := by rw [hz]; rfl
      have HZ := Lib.hid hz
      clear hz
      go_wp2_with fail
      go_quiet (fail)
      have hW : Below w.heap.size w (wr.drewN nq) := below_drewN hbw nq
      generalize wr.drewN nq = W at hW ⊢
      have h2 := H.out.below hW
      have d0 := PAt.c0 h2
      rw [HVK.out] at d0
      have hown : W.ownsRow B 57 4 (.slice Ak k ck) k (ecells (m.kept.take k)) := by
        have := h2.kept
        rw [HVK.out, HK.out] at this
        exact own_take this hk
      have hnews := Kit.Reads.below HR.out hW
      have hbase := h2.base
      have hfil := asc_filter (i := X) F.out.asc (k := k) (by rw [HK.out]; exact hk) (fun x _ h0 => by have := HZ.out; omega) hall.out
      have HFil := Lib.hid hfil
      have H2 := Lib.hid h2
      have HO := Lib.hid hown
      have HNw := Lib.hid hnews
      have HW := Lib.hid hW
      have hs1 := HSL.out k hk
      have hroom : (k + n) * 40 ≤ 140737488355328 := by omega
      have hfin := fun A' c' w3 => PAt.rekept h2 (w3 := w3) (A' := A') (c' := c') HVK.out (by rw [HK.out]; exact hk) HLn.out
      have HFIN := Lib.hid hfin
      clear h2 hown hnews hW hfil q0 ql hfin
      go_wp2_with (first
        | (at_builtin
           refine wpList_app (v := .slice Ak k ck) (c := c) _ rfl _ _ rfl B rfl HO.out rfl HNw.out (ecells_one _) hroom hbase ?_
           intro A' c' w3 hown3 hg3 hat3
           obtain ⟨x0, y0, z0, hl3⟩ := HFIN.out _ _ _ hown3 hg3 hat3
           have HL3 := Lib.hid hl3
           clear hl3 hat3 hg3 hown3))
      go_end0
      rw [HFil.out]
      exact ⟨rfl, LeftP.afterBelow HW.out HL3.out⟩
    · obtain ⟨J, hJ⟩ : ∃ J, k = J + 1 := ⟨k - 1, by omega⟩
      obtain ⟨bk, ok, ek, rfl, hbk, hek, hfk⟩ := RE.at_ HRK.out (show J < K by omega)
      have qk := (hbw.cell (p := ⟨bk, ok + J * 4 + 1, none⟩) hbk).trans hfk.c1
      have hw1 : IntKind.i64.wrap ((k : Int) - 1) = (J : Int) := by rw [show (k : Int) - 1 = (J : Int) by omega]; exact IntWalk.i64_in _ (by omega)
      have hk0 : decide (0 < k) = true := by simp; omega
      have hge : (0 : Int) ≤ (J : Int) := by omega
      have hlk : (J : Int) < (K : Int) := by omega
      obtain ⟨Y, hY⟩ : ∃ Y, ek.idx = Y := ⟨_, rfl⟩
      rw [hY] at qk
      have HJ := Lib.hid hJ
      have HEk : Hid (m.kept[J]? = some ek) := hek
      have HY := Lib.hid hY
      clear hJ hY hek hfk hz
      by_cases hxy : X ≤ Y
      · go_wp2_with fail
        go_quiet (fail)
        go_wp2
        go_roundw
        case rel =>
          refine ⟨J, by have := HJ.out; omega, rfl, Lib.hid fun x hx => ?_, below_drewN hbw nq⟩
          have hlt : J < m.kept.length := by rw [HK.out]; have := HJ.out; omega
          rw [List.drop_eq_getElem_cons hlt, ← HJ.out] at hx
          rcases List.mem_cons.1 hx with rfl | hx
          · have := HEk.out
            rw [List.getElem?_eq_getElem hlt] at this
            cases this
            rw [HY.out]
            exact hxy
          · exact hall.out x hx
        case measure => simp [intOf]; have := HJ.out; omega
      · go_wp2_with fail
        go_quiet (fail)
        have hW : Below w.heap.size w (wr.drewN nq) := below_drewN hbw nq
        generalize wr.drewN nq = W at hW ⊢
        have h2 := H.out.below hW
        have d0 := PAt.c0 h2
        rw [HVK.out] at d0
        have hown : W.ownsRow B 57 4 (.slice (some ⟨bk, ok, none⟩) k ck) k (ecells (m.kept.take k)) := by
          have := h2.kept
          rw [HVK.out, HK.out] at this
          exact own_take this hk
        have hnews := Kit.Reads.below HR.out hW
        have hbase := h2.base
        have hfil := asc_filter (i := X) F.out.asc (k := k) (by rw [HK.out]; exact hk) (fun x hx h0 => by rw [HJ.out, Nat.add_sub_cancel, HEk.out] at hx; cases hx; rw [HY.out]; omega) hall.out
        have HFil := Lib.hid hfil
        have H2 := Lib.hid h2
        have HO := Lib.hid hown
        have HNw := Lib.hid hnews
        have HW := Lib.hid hW
        have hs1 := HSL.out k hk
        have hroom : (k + n) * 40 ≤ 140737488355328 := by omega
        have hfin := fun A' c' w3 => PAt.rekept h2 (w3 := w3) (A' := A') (c' := c') HVK.out (by rw [HK.out]; exact hk) HLn.out
        have HFIN := Lib.hid hfin
        clear h2 hown hnews hW hfil q0 ql hfin
        go_wp2_with (first
          | (at_builtin
             refine wpList_app (v := .slice (some ⟨bk, ok, none⟩) k ck) (c := c) _ rfl _ _ rfl B rfl HO.out rfl HNw.out (ecells_one _) hroom hbase ?_
             intro A' c' w3 hown3 hg3 hat3
             obtain ⟨x0, y0, z0, hl3⟩ := HFIN.out _ _ _ hown3 hg3 hat3
             have HL3 := Lib.hid hl3
             clear hl3 hat3 hg3 hown3))
        go_end0
        rw [HFil.out]
        exact ⟨rfl, LeftP.afterBelow HW.out HL3.out⟩
theorem keep_any (h : PAt B w p z m) (f : NdB N m) (hN : N ≤ 1000000000) (A : Option Addr) (c : Nat) (l : List Ent) (hr : RE w w.heap.size A l.length l) (hfew : l.length ≤ 1000000000) :
    Calls Try.prog 53 #[.pointer (some ⟨p, 0, none⟩), .slice A l.length c] w (Does B w p z (keep m l)) := by
  rcases Nat.eq_zero_or_pos l.length with h0 | h0
  · rw [h0, List.eq_nil_of_length_eq_zero h0]
    exact keep_nil h A c
  · exact keep_some h f hN A l.length c l hr h0 hfew
end
end Go.Proofs.Ytdbmpfongfiagaa.WalkE
