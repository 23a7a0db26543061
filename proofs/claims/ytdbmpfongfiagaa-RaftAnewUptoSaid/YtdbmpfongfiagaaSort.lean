/- The members sorted by what each has, the greatest first: the library's sort at the second closure; what a majority has reached: plain mathematics. No statement is proved here. -/
import Derived.Test.YtdbmpfongfiagaaTold
import Derived.Test.YtdbmpfongfiagaaShelfS
import Derived.Lib.OwnBridge
import Derived.Sort.Grow
namespace Go.Proofs.Ytdbmpfongfiagaa.Sorting
open Go.RowKit Go.Lib Go.Sort Go.Proofs.Ytdbmpfongfiagaa.Kit Go.Proofs.Ytdbmpfongfiagaa.Blocks Go.Proofs.Ytdbmpfongfiagaa.Quorum Go.Proofs.Ytdbmpfongfiagaa.QuoWalkA Go.Proofs.Ytdbmpfongfiagaa.QuoWalkB Go.Proofs.Ytdbmpfongfiagaa.QuoWalkC Go.Proofs.Ytdbmpfongfiagaa.QuoWalkD Go.Proofs.Ytdbmpfongfiagaa.Told

/-- How a number stands as a value. -/
def encN (i : Nat) : Value := .int .i64 (i : Int)
theorem nums_enc (l : List Nat) : nums l = l.map encN := rfl
def cfN (l : List Nat) (x y : Nat) : Int := cmpN (told l y) (told l x)
theorem ltN (l : List Nat) (x y : Nat) : ltOf (cfN l) x y = decide (told l y < told l x) := cmpN_lt _ _
theorem swoN (l : List Nat) : SWO (ltOf (cfN l)) where
  irrefl x := by rw [ltN]; simp
  trans x y z h1 h2 := by rw [ltN] at *; simp at *; omega
  ntrans x y z h1 h2 := by rw [ltN] at *; simp at *; omega

theorem cell_sort {enc : Nat → Value} {w : World} {blk off m : Nat} {dk : Array Nat} {os : Array Obj} {p : Addr} (hp : p.block < w.heap.size) (hne : p.block ≠ blk) : (sortWorld enc w blk off m dk os).cell? p = w.cell? p := by
  unfold sortWorld
  rw [cell?_grow _ _ _ (by rw [size_putRow]; exact hp), cell?_putRow_other _ _ _ _ _ _ (.inl hne)]
  rfl
theorem only_sort {enc : Nat → Value} {w : World} {blk n : Nat} {d : Array Nat} : Only (fun k => k = blk) w ((putRow enc w blk 0 d).drewN n) :=
  ⟨rfl, rfl, rfl, by simp [putRow, mapBlock], fun k _ hk => by simp [putRow, mapBlock, Array.getElem?_modify, show blk ≠ k from fun e => hk e.symm]⟩

theorem len_any (n : Nat) (W : World) (h : n ≤ 12) : Calls Try.prog 85 #[.int .u64 n] W fun e w' => (∃ l : Int, e = .returned (.int .i64 l)) ∧ w' = W :=
  (ShelfS.bits_Len (n : Int) W (by omega) (by omega)).mono fun _ _ h => ⟨⟨_, h.1⟩, h.2⟩

theorem sort_any {w : World} {base g n cap b d nn c B : Nat} {ids l : List Nat} {A : Option Addr} (hown : w.ownsRow base 3 1 (.slice (some ⟨g, 0, none⟩) n cap) n (nums ids)) (h12 : n ≤ 12)
    (hd : w.cell? ⟨d, 0, none⟩ = some (.func (.func 74) #[] #[.pointer (some ⟨b, 0, none⟩)])) (hb : w.cell? ⟨b, 0, none⟩ = some (.slice A nn c)) (hr : Reads w B 1 A nn (unums l))
    (hdg : d ≠ g) (hbg : b ≠ g) (hB : B ≤ g) :
    Calls Try.prog 75 #[.slice (some ⟨g, 0, none⟩) n cap, .func (.func 76) #[] #[.pointer (some ⟨d, 0, none⟩)]] w fun e w' => e = .returned (.tuple #[]) ∧
      ∃ ids' : List Nat, ids'.length = n ∧ ids'.Perm ids ∧ (∀ i j, i < j → j < n → told l (ids'.getD j 0) ≤ told l (ids'.getD i 0)) ∧ w'.ownsRow base 3 1 (.slice (some ⟨g, 0, none⟩) n cap) n (nums ids') ∧ Only (fun k => k = g) w w' := by
  have hl : ids.length = n := by have := hown.1; rw [nums_length] at this; omega
  obtain ⟨g', cap', hv, _, hlt, _, _, _, hH⟩ := holds_of_ownsRow (enc := encN) (zs := ids) (by rw [← nums_enc]; exact hown) (by intro e; cases e)
  cases hv
  have hdl : d < w.heap.size := World.block_lt_of_cell? _ _ hd
  have hbl : b < w.heap.size := World.block_lt_of_cell? _ _ hb
  have hsz : ids.toArray.size = n := by simpa using hl
  have hcmp : CmpReads Try.prog 76 #[.pointer (some ⟨d, 0, none⟩)] encN (cfN l) g 0 ids.toArray.size w := by
    intro m os dk hs x y
    refine after_any b d A nn c l B x y _ ?_ ?_ ?_
    · rw [cell_sort hdl hdg]; exact hd
    · rw [cell_sort hbl hbg]; exact hb
    · exact hr.keep fun p hp => cell_sort (by omega) (by omega)
  have hS := ShelfS.slices_SortFunc_small_sorted encN (fun _ => rfl) (cfN l) (swoN l) 76 #[.pointer (some ⟨d, 0, none⟩)] g 0 cap ids.toArray w (enters_of Try.func76 (by kernel_rfl) rfl) hcmp hH (by omega) len_any
  rw [hsz] at hS
  refine hS.mono ?_
  rintro e w' ⟨he, d', q, hP, hSo, rfl⟩
  have hsz' : d'.size = n := by rw [hP.1, hsz]
  refine ⟨he, d'.toList, by simpa using hsz', ?_, ?_, ?_, only_sort⟩
  · have := hP.2.2
    rw [← hsz] at this
    have e1 : d'.extract 0 ids.toArray.size = d' := by rw [hsz, ← hsz']; exact Array.extract_size
    rw [e1, Array.extract_size] at this
    exact this
  · intro i j hij hj
    have := hSo i j (Nat.zero_le _) hij hj
    rw [ltN] at this
    have k := of_decide_eq_false this
    rw [getElem!_pos d' i (by omega), getElem!_pos d' j (by omega)] at k
    simp only [List.getD, Array.getElem?_toList, Array.getElem?_eq_getElem (show i < d'.size by omega), Array.getElem?_eq_getElem (show j < d'.size by omega), Option.getD_some]
    omega
  · have := ownsRow_putRow (enc := encN) (q := 0) (ys := d'.toList) (k := n) (by rw [← nums_enc]; exact hown) (by simpa using hsz') (Nat.le_refl _)
    rw [List.take_of_length_le (by simp [hsz'])] at this
    rw [nums_enc]
    exact this

/-! ### What a majority has reached -/
def cnt (c : Nat) (l : List Nat) (v : Nat) : Nat := num fun i => c.testBit i && decide (v ≤ told l i)
def IsR (c : Nat) (l : List Nat) (r : Nat) : Prop := (size c = 0 ∧ r = 0) ∨ (0 < size c ∧ need c ≤ cnt c l r ∧ cnt c l (r + 1) < need c)
theorem cnt_anti (c : Nat) (l : List Nat) {v u : Nat} (h : v ≤ u) : cnt c l u ≤ cnt c l v := num_le fun i _ hi => by
  simp only [Bool.and_eq_true, decide_eq_true_eq] at hi ⊢
  exact ⟨hi.1, by omega⟩
theorem IsR.unique {c : Nat} {l : List Nat} {r s : Nat} (h : IsR c l r) (k : IsR c l s) : r = s := by
  rcases h with ⟨h0, h1⟩ | ⟨h0, h1, h2⟩ <;> rcases k with ⟨k0, k1⟩ | ⟨k0, k1, k2⟩
  · omega
  · omega
  · omega
  · rcases Nat.lt_trichotomy r s with e | e | e
    · have := cnt_anti c l (show r + 1 ≤ s by omega)
      omega
    · exact e
    · have := cnt_anti c l (show s + 1 ≤ r by omega)
      omega
theorem cnt_mem (c : Nat) (l : List Nat) (v : Nat) : cnt c l v = (mem c).countP fun i => decide (v ≤ told l i) := by
  unfold cnt num mem
  rw [List.countP_eq_length_filter, List.filter_filter]
  simp only [Bool.and_comm]
/-- Of a list that falls, the one at k. -/
theorem falls (f : Nat → Nat) (L : List Nat) (k : Nat) (hk : k < L.length) (hf : ∀ i j, i < j → j < L.length → f (L.getD j 0) ≤ f (L.getD i 0)) :
    k + 1 ≤ (L.countP fun i => decide (f (L.getD k 0) ≤ f i)) ∧ (L.countP fun i => decide (f (L.getD k 0) + 1 ≤ f i)) ≤ k := by
  have hget : ∀ i (h : i < L.length), L.getD i 0 = L[i] := fun i h => by simp [List.getD, List.getElem?_eq_getElem h]
  constructor
  · have e : L.countP (fun i => decide (f (L.getD k 0) ≤ f i)) = (L.take (k + 1)).countP (fun i => decide (f (L.getD k 0) ≤ f i)) + (L.drop (k + 1)).countP (fun i => decide (f (L.getD k 0) ≤ f i)) := by
      rw [← List.countP_append, List.take_append_drop]
    have h1 : (L.take (k + 1)).countP (fun i => decide (f (L.getD k 0) ≤ f i)) = (L.take (k + 1)).length := by
      rw [List.countP_eq_length]
      intro x hx
      obtain ⟨i, hi, rfl⟩ := List.mem_take_iff_getElem.1 hx
      have hi' : i < L.length ∧ i ≤ k := by omega
      simp only [decide_eq_true_eq]
      rw [← hget i hi'.1]
      rcases Nat.lt_or_ge i k with h | h
      · exact hf i k h hk
      · have : i = k := by omega
        rw [this]
        exact Nat.le_refl _
    rw [e, h1, List.length_take]
    omega
  · have e : L.countP (fun i => decide (f (L.getD k 0) + 1 ≤ f i)) = (L.take k).countP (fun i => decide (f (L.getD k 0) + 1 ≤ f i)) + (L.drop k).countP (fun i => decide (f (L.getD k 0) + 1 ≤ f i)) := by
      rw [← List.countP_append, List.take_append_drop]
    have h1 : (L.drop k).countP (fun i => decide (f (L.getD k 0) + 1 ≤ f i)) = 0 := by
      rw [List.countP_eq_zero]
      intro x hx
      obtain ⟨i, hi, rfl⟩ := List.mem_drop_iff_getElem.1 hx
      simp only [decide_eq_true_eq]
      rw [← hget (k + i) (by omega)]
      rcases Nat.eq_zero_or_pos i with h | h
      · subst h
        show ¬ f (L.getD k 0) + 1 ≤ f (L.getD k 0)
        omega
      · have := hf k (k + i) (by omega) (by omega)
        omega
    have h2 := List.countP_le_length (p := fun i => decide (f (L.getD k 0) + 1 ≤ f i)) (l := L.take k)
    rw [e, h1]
    rw [List.length_take] at h2
    omega
/-- Behind the sort. -/
theorem isR_sorted {c : Nat} {l ids' : List Nat} (hp : ids'.Perm (mem c)) (h0 : 0 < size c) (hf : ∀ i j, i < j → j < ids'.length → told l (ids'.getD j 0) ≤ told l (ids'.getD i 0)) : IsR c l (told l (ids'.getD (need c - 1) 0)) := by
  have hl : ids'.length = size c := hp.length_eq
  have h1 := need_pos c
  have h2 := need_size h0
  obtain ⟨k1, k2⟩ := falls (told l) ids' (need c - 1) (by omega) hf
  rw [hp.countP_eq] at k1 k2
  exact .inr ⟨h0, by rw [cnt_mem]; omega, by rw [cnt_mem]; omega⟩
end Go.Proofs.Ytdbmpfongfiagaa.Sorting
