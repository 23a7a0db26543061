/- What Delete and Take leave, walked. No statement is proved here. -/
import Derived.Test.YtfcdaelbbcfgjaaWalkC
import Derived.Deep.RegionLaw
import Derived.Lib.SliceRun
import Derived.Deep.MidRow
set_option linter.unusedVariables false
namespace Go.Proofs.Ytfcdaelbbcfgjaa.WalkD
open Go.RowKit Go.Proofs.Ytfcdaelbbcfgjaa.Kit Go.Proofs.Ytfcdaelbbcfgjaa.Blocks Go.Proofs.Ytfcdaelbbcfgjaa.Ltr Go.Proofs.Ytfcdaelbbcfgjaa.NAt Go.Proofs.Ytfcdaelbbcfgjaa.App Go.Proofs.Ytfcdaelbbcfgjaa.WalkA Go.Proofs.Ytfcdaelbbcfgjaa.WalkB Go.Proofs.Ytfcdaelbbcfgjaa.WalkC

/-! ### Delete -/
theorem heap_setCells {t : TypeId} {g : Nat} : ∀ (vs : List Value) (o : Nat) (w : World) (cur : Array Value), w.heap[g]? = some (.cells cur t (0, 0)) → o + vs.length ≤ cur.size →
    ∃ cur' : Array Value, (w.setCells g o vs).heap[g]? = some (.cells cur' t (0, 0)) ∧ cur'.size = cur.size ∧ cur'.toList = cur.toList.take o ++ vs ++ cur.toList.drop (o + vs.length)
  | [], o, w, cur, h, hl => ⟨cur, h, rfl, by simp⟩
  | v :: vs, o, w, cur, h, hl => by
    obtain ⟨cur', h1, h2, h3⟩ := heap_setCells vs (o + 1) (w.setCell ⟨g, o, none⟩ v) (cur.setIfInBounds o v) (set_at h v) (by simp at hl ⊢; omega)
    refine ⟨cur', h1, by simpa using h2, ?_⟩
    rw [h3]
    have e := list_seg_step cur.toList o v vs (by simp at hl ⊢; omega)
    simpa [Array.toList_setIfInBounds, Nat.add_assoc] using e
theorem only_setCells (g : Nat) : ∀ (vs : List Value) (o : Nat) (w : World), Only (fun q => q = g) w (w.setCells g o vs)
  | [], o, w => Only.refl _ w
  | v :: vs, o, w => ((Only.refl (fun q => q = g) w).setCell (a := ⟨g, o, none⟩) (.inr rfl) v).trans (only_setCells g vs (o + 1) _)
def zz : List Value := ltCs zeroL
theorem run_clear_lt (w : World) (ty : TypeId) (g o k : Nat) (hc : ∀ j, j < 10 → (w.cell? ⟨g, o + j, none⟩).isSome = true) (hf : ∀ j, j < 10 → w.frozen? ⟨g, o + j, none⟩ = false) :
    (Builtin.clear_ #[28] ty #[.slice (some ⟨g, o, none⟩) 1 k]).run Try.prog w = .ok (.tuple #[]) (w.setCells g o zz) := by
  have hv : ∀ w, (zeroValue 34).run Try.prog w = .ok (ltV zeroL) w := fun w => by kernel_rfl
  have hzc : (Builtin.zeroCells (ltV zeroL).cells 1).toList = zz := by kernel_rfl
  have hst := run_storeCells_cells (P := Try.prog) g o zz 0 w (fun j hj => by simpa using hc j hj) (fun j hj => by simpa using hf j hj) (ltCs_one zeroL)
  simp only [Nat.add_zero] at hst
  simp [Builtin.clear_, run_underlying Try.underlying28, hv, hzc, hst]

set_option maxHeartbeats 4000000 in
set_option maxRecDepth 1000000 in
theorem delete_arr {w : World} {g o n c i j : Nat} (hj : j = i + 1) (hi : i < n) (hnc : n ≤ c) (hcm : c ≤ 9223372036854775807) (l : List Lt) (hl : l.length = n) (hcell : ∀ t u, (lcells l)[t]? = some u → w.cell? ⟨g, o + t, none⟩ = some u)
    (hfree : ∀ t, w.frozen? ⟨g, t, none⟩ = false) :
    Calls Try.prog 24 #[.slice (some ⟨g, o, none⟩) n c, .int .i64 (i : Int), .int .i64 (j : Int)] w fun e w' =>
      e = .returned (.slice (some ⟨g, o, none⟩) (i + (n - j)) c) ∧ w' = ((w.drew.setCells g (o + i * 10) (lcells (l.drop j))).setCells g (o + (i + (n - j)) * 10) zz) := by
  obtain ⟨i0, hi0, hz0, hz1, hz2⟩ := info_parts infoL
  obtain ⟨news, hnews⟩ : ∃ news, news = lcells (l.drop j) := ⟨_, rfl⟩
  have hlen : news.length = (n - j) * 10 := by rw [hnews, lcells_length, List.length_drop, hl]
  have hget : ∀ t u, news[t]? = some u → w.cell? ⟨g, o + (j * 10 + t), none⟩ = some u := fun t u hu => by
    rw [hnews, lcells_drop, List.getElem?_drop] at hu
    exact hcell _ _ hu
  obtain ⟨A, hA, hsrc⟩ : ∃ A : Addr, (if c = j then some (⟨g, o, none⟩ : Addr) else some ⟨g, o + j * 10, none⟩) = some A ∧ Hid (∀ t u, news[t]? = some u → w.drew.cell? (A.add t) = some u) := by
    by_cases h : c = j
    · refine ⟨⟨g, o, none⟩, by simp [h], fun t u hu => ?_⟩
      have h0 : news.length = 0 := by rw [hlen]; omega
      rw [List.length_eq_zero_iff.1 h0] at hu
      simp at hu
    · refine ⟨⟨g, o + j * 10, none⟩, by simp [h], fun t u hu => ?_⟩
      rw [Addr.add_lit, Nat.add_assoc]
      exact hget t u hu
  have s1 : Hid (news.length = (n - j) * 10) := hlen
  have s2 : Hid (∀ u ∈ news, u.oneCell' = true) := by rw [hnews]; exact lcells_one _
  have hsome : ∀ t, t < n * 10 → (w.cell? ⟨g, o + t, none⟩).isSome = true := fun t ht => by
    rw [hcell t _ (List.getElem?_eq_getElem (show t < (lcells l).length by rw [lcells_length, hl]; exact ht))]
    rfl
  have s3 : Hid (∀ t, t < news.length → (w.drew.cell? ⟨g, o + i * 10 + t, none⟩).isSome = true ∧ w.drew.frozen? ⟨g, o + i * 10 + t, none⟩ = false) := by
    intro t ht
    rw [hlen] at ht
    rw [Nat.add_assoc]
    exact ⟨hsome (i * 10 + t) (by omega), hfree _⟩
  obtain ⟨W1, hW1⟩ : ∃ W1, W1 = w.drew.setCells g (o + i * 10) news := ⟨_, rfl⟩
  have hcl : ∀ ty, (Builtin.clear_ #[28] ty #[.slice (some ⟨g, o + (i + (n - j)) * 10, none⟩) (n - (i + (n - j))) (c - (i + (n - j)))]).run Try.prog W1 = .ok (.tuple #[]) (W1.setCells g (o + (i + (n - j)) * 10) zz) := fun ty => by
    rw [show n - (i + (n - j)) = 1 by omega]
    refine run_clear_lt W1 ty g _ _ (fun t ht => ?_) (fun t ht => ?_)
    · rw [hW1, Nat.add_assoc]
      exact World.isSome_setCells g _ _ _ _ (hsome ((i + (n - j)) * 10 + t) (by omega))
    · rw [hW1, World.frozen?_setCells]
      exact hfree _
  have hW : Hid (W1 = w.drew.setCells g (o + i * 10) news) := hW1
  have HN : Hid (news = lcells (l.drop j)) := hnews
  have hic : i ≤ c := by omega
  have hjc : j ≤ c := by omega
  have hjn : j ≤ n := by omega
  have hij : i ≤ j := by omega
  have hne : ((i : Int) == (j : Int)) = false := by simp; omega
  have hcM : ¬ c = i + (n - j) := by omega
  have hM : i + (n - j) ≤ n := by omega
  have HJ := Lib.hid hj
  clear hW1 hnews hget hlen hsome hcell hfree hj
  go_enter Try.func24, Try.ntmps24
  go_wp2_with fail
  go_region_law (refine step_append_room rfl (.tmp 22) (.tmp 25) 28 rfl 34 i0 10 Try.underlying28 hi0 hz1 g o i c (by simp [Act.eval, Act.put]) A (n - j) (c - j) news (by simp [Act.eval, Act.put]) s1.out hsrc.out s2.out (by omega) s3.out ?_; rw [← hW.out])
  go_wp2
  go_ret
  exact ⟨rfl, by rw [hW.out, HN.out]⟩
/-- One of a list's timers is gone; the slice stays where it was. -/
theorem delete_any {w : World} {B n i j : Nat} {v : Value} {l : List Lt} (hown : w.ownsRow B 34 10 v n (lcells l)) (hl : l.length = n) (hj : j = i + 1) (hi : i < n) :
    Calls Try.prog 24 #[v, .int .i64 (i : Int), .int .i64 (j : Int)] w fun e w' =>
      ∃ A' c', e = .returned (.slice A' (l.eraseIdx i).length c') ∧ w'.ownsRow B 34 10 (.slice A' (l.eraseIdx i).length c') (l.eraseIdx i).length (lcells (l.eraseIdx i)) ∧ Only (fun q => v.ownBlock = some q) w w' ∧ (Value.slice A' (l.eraseIdx i).length c').ownBlock = v.ownBlock := by
  rcases hown.2 with ⟨rfl, h0⟩ | ⟨g, c, cur, rfl, hbg, hg, hnc, hcm, hcs, htake⟩
  · omega
  have hcell : ∀ t u, (lcells l)[t]? = some u → w.cell? ⟨g, 0 + t, none⟩ = some u := fun t u hu => by
    rw [Nat.zero_add, cell_at hg]
    rw [← htake, List.getElem?_take] at hu
    split at hu
    · simpa using hu
    · cases hu
  unfold maxLen at hcm
  refine (delete_arr (o := 0) hj hi hnc (by omega) l hl hcell (fun t => free_at hg t)).mono ?_
  rintro e w' ⟨rfl, rfl⟩
  obtain ⟨Z, hZ, hZl⟩ : ∃ Z, zz = Z ∧ Z.length = 10 := ⟨_, rfl, rfl⟩
  rw [hZ]
  have hM : i + (n - j) = (l.eraseIdx i).length := by rw [List.length_eraseIdx, if_pos (by omega), hl]; omega
  have hm : (l.eraseIdx i).length + 1 = n := by omega
  rw [hM]
  simp only [Nat.zero_add]
  obtain ⟨c1, h1, h2, h3⟩ := heap_setCells (lcells (l.drop j)) (i * 10) w.drew cur hg (by rw [lcells_length, List.length_drop, hl, hcs]; omega)
  obtain ⟨c2, k1, k2, k3⟩ := heap_setCells Z ((l.eraseIdx i).length * 10) _ c1 h1 (by rw [h2, hcs, hZl]; omega)
  refine ⟨_, _, rfl, ⟨by rw [lcells_length], .inr ⟨g, c, c2, rfl, hbg, k1, by omega, by unfold maxLen; omega, by rw [k2, h2, hcs], ?_⟩⟩, ?_, rfl⟩
  · have e1 : (c1.toList.take ((l.eraseIdx i).length * 10)).length = (l.eraseIdx i).length * 10 := by rw [List.length_take]; simp only [Array.length_toList]; rw [h2, hcs]; omega
    rw [k3, List.append_assoc, List.take_append_of_le_length (by omega), List.take_take, Nat.min_self, h3]
    have e2 : cur.toList.take (i * 10) = lcells (l.take i) := by rw [lcells_take, ← htake, List.take_take]; congr 1; omega
    have e3 : (lcells (l.take i) ++ lcells (l.drop j)).length = (l.eraseIdx i).length * 10 := by
      rw [← lcells_append, lcells_length, hj, ← List.eraseIdx_eq_take_drop_succ]
    rw [e2, ← e3, List.take_left, ← lcells_append, hj, ← List.eraseIdx_eq_take_drop_succ]
  · have ho := (((Only.refl (fun q => q = g) w).drew).trans (only_setCells g _ _ _)).trans (only_setCells g Z ((l.eraseIdx i).length * 10) (w.drew.setCells g (i * 10) (lcells (l.drop j))))
    exact ho.mono fun q _ hq => by rw [hq]; rfl

end Go.Proofs.Ytfcdaelbbcfgjaa.WalkD
