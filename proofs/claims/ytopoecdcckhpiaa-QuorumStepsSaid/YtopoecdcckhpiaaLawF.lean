/- The statement on what is reached step by step, walked. -/
import Derived.Test.YtopoecdcckhpiaaLawE
import Derived.Laws.CopyOwn
import Derived.Laws.Rows
import Derived.Deep.RegionLaw
import Derived.Lib.MinMax
namespace Go.Proofs.Ytopoecdcckhpiaa.LawF
open Go.RowKit Go.Proofs.Ytopoecdcckhpiaa.Kit Go.Proofs.Ytopoecdcckhpiaa.Blocks Go.Proofs.Ytopoecdcckhpiaa.Quorum Go.Proofs.Ytopoecdcckhpiaa.WalkA Go.Proofs.Ytopoecdcckhpiaa.WalkB Go.Proofs.Ytopoecdcckhpiaa.WalkC Go.Proofs.Ytopoecdcckhpiaa.WalkD Go.Proofs.Ytopoecdcckhpiaa.Told Go.Proofs.Ytopoecdcckhpiaa.Sorting Go.Proofs.Ytopoecdcckhpiaa.Reach Go.Proofs.Ytopoecdcckhpiaa.RefReach Go.Proofs.Ytopoecdcckhpiaa.Change Go.Proofs.Ytopoecdcckhpiaa.Begun

/-- What a majority has reached never falls when one reaches more. -/
theorem grows {c r r' : Nat} {l l' : List Nat} (h : ∀ i, told l i ≤ told l' i) (k : IsR c l r) (k' : IsR c l' r') : r ≤ r' := by
  rcases k with ⟨h0, h1⟩ | ⟨h0, h1, h2⟩
  · omega
  · rcases k' with ⟨h0', _⟩ | ⟨h0', h1', h2'⟩
    · omega
    · rcases Nat.lt_or_ge r' r with e | e
      · have e1 : cnt c l r ≤ cnt c l' r := num_le fun i _ hi => by
          simp only [Bool.and_eq_true, decide_eq_true_eq] at hi ⊢
          exact ⟨hi.1, Nat.le_trans hi.2 (h i)⟩
        have e2 := cnt_anti c l' (show r' + 1 ≤ r by omega)
        omega
      · exact e
/-- The set of those that fit, as far as k. -/
def mask (p : Nat → Bool) : Nat → Nat
  | 0 => 0
  | k + 1 => if p k = true then mask p k ||| 2 ^ k else mask p k
theorem mask_bit (p : Nat → Bool) (i : Nat) : ∀ k, (mask p k).testBit i = (decide (i < k) && p i)
  | 0 => by simp [mask]
  | k + 1 => by
    have ih := mask_bit p i k
    simp only [mask]
    by_cases hp : p k = true
    · rw [if_pos hp, Nat.testBit_or, ih, Nat.testBit_two_pow]
      by_cases e : k = i
      · subst e; simp [hp]
      · by_cases h : i < k
        · simp [h, e, show i < k + 1 by omega]
        · simp [h, e, show ¬ i < k + 1 by omega]
    · rw [if_neg hp, ih]
      by_cases e : k = i
      · subst e; simp [hp]
      · by_cases h : i < k
        · simp [h, show i < k + 1 by omega]
        · simp [h, show ¬ i < k + 1 by omega]
theorem mask_lt (p : Nat → Bool) : ∀ k, mask p k < 2 ^ k
  | 0 => by simp [mask]
  | k + 1 => by
    have ih := mask_lt p k
    have e : 2 ^ (k + 1) = 2 ^ k + 2 ^ k := by rw [Nat.pow_succ]; omega
    simp only [mask]
    split
    · exact Nat.or_lt_two_pow (by omega) (by omega)
    · omega
theorem size_mask (c : Nat) (p : Nat → Bool) : size (c &&& mask p 7) = num fun i => c.testBit i && p i := by
  rw [size_and]
  exact num_congr fun i hi => by rw [mask_bit]; simp [hi]

theorem maj_mask (c : Nat) (l : List Nat) (v : Nat) : maj c (mask (fun i => decide (v ≤ told l i)) 7) = decide (need c ≤ cnt c l v) := by
  unfold maj
  rw [size_mask]
  rfl
theorem told_cat {l : List Nat} {x i : Nat} (h : i < l.length) : told (l ++ [x]) i = told l i := by simp [told, List.getD, List.getElem?_append_left h]
theorem unums_get {l : List Nat} {i : Nat} (h : i < l.length) : (unums l)[i]? = some (.int .u64 (told l i : Nat)) := by simp [unums, told, List.getD, List.getElem?_eq_getElem h]
theorem info64 : (Try.prog.info? 22).map (·.size) = some 1 := by kernel_rfl
theorem size7 : (Try.prog.info? 44).map (·.size) = some 7 := by kernel_rfl
def zeros : List Value := [.int .u64 0, .int .u64 0, .int .u64 0, .int .u64 0, .int .u64 0, .int .u64 0, .int .u64 0]

theorem run_index_cell {P : Program} (w : World) (t e : TypeId) (q : IntKind) (n : Nat) (cs : Array Value) (k : IntKind) (i : Nat) (v : Value) (ht : P.underlying t = some (.array n e)) (he : P.underlying e = some (.int q))
    (hz : (Go.sizeOf e).run P w = .ok 1 w) (hi : i < n) (hv : cs[i]? = some v) : (Instr.index t (.agg cs) (.int k (i : Int))).run P w = .ok v w := by
  simp [Instr.index, run_underlying ht, asIntOf, hi, part, isAgg, run_underlying he, hz, hv, go_sem]
theorem sz64 (w : World) : (Go.sizeOf 22).run Try.prog w = .ok 1 w := by kernel_rfl
theorem told_set (l : List Nat) (j y i : Nat) (hj : j < l.length) (hy : told l j ≤ y) : told l i ≤ told (l.set j y) i := by
  unfold told at *
  by_cases e : i = j
  · subst e
    simp only [List.getD, List.getElem?_set_self hj, Option.getD_some] at hy ⊢
    exact hy
  · simp only [List.getD, List.getElem?_set_ne (Ne.symm e)]
    exact Nat.le_refl _
theorem unums_set (l : List Nat) (j y : Nat) : (unums l).toArray.setIfInBounds j (.int .u64 (y : Int)) = (unums (l.set j y)).toArray := by
  simp [unums, List.map_set]
/-- A row that is known whole reads. -/
theorem reads_row {w : World} {g B n : Nat} {l : List Nat} {t : TypeId} (h : w.heap[g]? = some (.cells (unums l).toArray t (0, 0))) (hB : g < B) (hn : l.length = n) : Reads w B 1 (some ⟨g, 0, none⟩) n (unums l) := by
  refine ⟨by rw [unums_length, hn, Nat.mul_one], fun _ => ⟨_, rfl, hB, fun j u hu => ?_⟩⟩
  rw [Addr.add_lit, Nat.zero_add, cell_at h]
  simpa using hu
theorem splice_whole (l : List Nat) (hl : l.length = 7) : splice zeros 0 (unums l) = unums l := by
  have h1 : (unums l).length = 7 := by rw [unums_length, hl]
  have h2 : zeros.drop 7 = [] := rfl
  simp [splice, h1, h2]
theorem keep_row {w w' : World} {B g : Nat} {o : Obj} (h : w.heap[g]? = some o) (hb : Below B w w') (hg : g < B) : w'.heap[g]? = some o := (hb.block g hg).trans h

set_option maxHeartbeats 4000000 in
set_option maxRecDepth 100000 in
theorem steps_any (c : Nat) (l : List Nat) (more : Nat) (n : Int) (M : Array Value) (w : World) (hM : M = (unums (l ++ [more])).toArray) (hl : l.length = 7) (hc : c < 2 ^ 64) (hn : (Lit.int .i64 n).wf = true) :
    Calls Try.prog 7 #[.int .u64 (c : Int), .agg M, .int .i64 n] w fun e w' => e = .returned (.bool true) ∧ Below w.heap.size w w' := by
  have HM := Lib.hid hM
  clear hM
  go_enter Try.func7, Try.ntmps7
  go_wp2_with fail
  obtain ⟨w2, hw2⟩ : ∃ w2, (w.alloc (.cells M 43)).alloc (.cells #[.int .u64 0, .int .u64 0, .int .u64 0, .int .u64 0, .int .u64 0, .int .u64 0, .int .u64 0] 44) = w2 := ⟨_, rfl⟩
  have hsz2 : w2.heap.size = w.heap.size + 2 := by rw [← hw2]; simp
  have hp0 : w2.heap[w.heap.size]? = some (.cells M 43 (0, 0)) := by
    rw [← hw2, Below.heap_alloc _ _ _ (by simp)]
    exact heap_alloc_new w _
  have hp1 : w2.heap[w.heap.size + 1]? = some (.cells zeros.toArray 44 (0, 0)) := by
    rw [← hw2]
    have := heap_alloc_new (w.alloc (.cells M 43)) (.cells zeros.toArray 44)
    rw [show (w.alloc (.cells M 43)).heap.size = w.heap.size + 1 by simp] at this
    exact this
  have hb2 : Below w.heap.size w w2 := by rw [← hw2]; exact ((Below.refl _ _).alloc (Nat.le_refl _) _).alloc (by simp) _
  rw [hw2]
  clear hw2
  have hc8 : M.size = 8 := by rw [HM.out]; simp [unums, hl]
  have hcs : ∀ j v, (unums l)[j]? = some v → w2.drew.cell? ((⟨w.heap.size, 0, none⟩ : Addr).add j) = some v := by
    intro j v hv
    have hjl : j < l.length := by
      have := (List.getElem?_eq_some_iff.1 hv).1
      rwa [unums_length] at this
    rw [unums_get hjl] at hv
    cases hv
    show w2.cell? _ = _
    rw [Addr.add_lit, Nat.zero_add, cell_at hp0, HM.out]
    simp only [List.getElem?_toArray]
    rw [unums_get (by simp; omega), told_cat hjl]
  go_region_law (refine step_copy_splice rfl (.tmp 14) (.tmp 15) _ _ rfl 22 Try.underlying32 info64 (some ⟨w.heap.size + 1, 0, none⟩) (some ⟨w.heap.size, 0, none⟩) 7 7 7 8 rfl rfl (w.heap.size + 1) 0 zeros 44 hp1 (unums l) (by rw [unums_length, hl]; rfl) (fun _ => ⟨rfl, _, rfl, hcs⟩) (by rw [unums_length, hl]; decide) (by intro v hv; obtain ⟨_, _, rfl⟩ := List.mem_map.1 hv; rfl) (w.heap.size + 1) w2 ((Below.refl _ w2).drew) (Nat.le_refl _) ?_; intro w4 hg4 hb4)
  have hg4' : w4.heap[w.heap.size + 1]? = some (.cells (unums l).toArray 44 (0, 0)) := by have := hg4.out; rwa [splice_whole l hl] at this
  have hcm : w4.cell? ⟨w.heap.size, 7, none⟩ = some (.int .u64 (more : Int)) := by
    rw [cell_at (keep_row hp0 hb4 (by omega)), HM.out]
    simp only [List.getElem?_toArray]
    rw [unums_get (by simp; omega)]
    simp [told, List.getD, hl]
  have hb4' : Below w.heap.size w w4 := hb2.trans (hb4.mono (by omega))
  have hsz4 : w.heap.size + 2 ≤ w4.heap.size := by have := hb4.size; omega
  clear hg4 hb4 hcs hp0 hp1 hb2 hc8 hsz2
  go_wp2_with fail
  refine (begun_any _).mono ?_
  rintro e w5 ⟨rfl, hb5⟩
  have hg5 := keep_row hg4' hb5 (by omega)
  have hb5' : Below w.heap.size w w5 := hb4'.trans (hb5.mono (by omega))
  have hsz5 : w.heap.size + 2 ≤ w5.heap.size := by have := hb5.size; omega
  clear hg4' hb4' hsz4 hb5 hcm
  go_wp2_with fail
  have hr5 : Reads w5 w5.heap.size 1 (some ⟨w.heap.size + 1, 0, none⟩) 7 (unums l) := reads_row hg5 (by omega) hl
  refine (reached_any c hc _ 7 7 l _ hr5).mono ?_
  rintro e w6 ⟨r, rfl, hi, hb6⟩
  have hg6 := keep_row hg5 hb6 (by omega)
  have hb6' : Below w.heap.size w w6 := hb5'.trans (hb6.mono (by omega))
  have hsz6 : w.heap.size + 2 ≤ w6.heap.size := by have := hb6.size; omega
  have HI := Lib.hid hi
  clear hg5 hb5' hsz5 hb6 hr5 hi
  obtain ⟨R, hR⟩ : ∃ R, (unums l).toArray = R := ⟨_, rfl⟩
  rw [hR] at hg6
  have HR := Lib.hid hR
  have hRs : R.size = 7 := by rw [← hR]; simp [unums, hl]
  have HRS := Lib.hid hRs
  clear hR hRs
  go_wp2_with (refine wpList_load_row rfl 44 _ rfl (w.heap.size + 1) rfl 44 R _ _ hg6 Try.underlying44 rfl (by rw [HRS.out]; exact size7) ?_)
  go_loop [10, 11, 25] (fun s a i => ∃ k : Nat, k ≤ 7 ∧ i = .int .i64 (k : Int) ∧ s = .int .u64 (mask (fun i => decide (r ≤ told l i)) k : Nat) ∧ a = .int .u64 (mask (fun i => decide (r + 1 ≤ told l i)) k : Nat)) (fun _ _ i => 7 - (intOf i).toNat)
  case atStart => exact ⟨0, by omega, rfl, rfl, rfl⟩
  case round =>
    obtain ⟨k, hk, rfl, rfl, rfl⟩ := hrel
    by_cases hlt : k < 7
    · have hk7 : (k : Int) < 7 := by omega
      obtain ⟨x, hx0⟩ : ∃ x, told l k = x := ⟨_, rfl⟩
      have hv : R[k]? = some (.int .u64 (x : Int)) := by
        rw [← HR.out, ← hx0]
        simp only [List.getElem?_toArray]
        exact unums_get (by omega)
      have hix := fun w => run_index_cell (P := Try.prog) w 44 22 .u64 7 R .i64 k _ Try.underlying44 Try.underlying22 (sz64 w) hlt hv
      have hS : mask (fun i => decide (r ≤ told l i)) (k + 1) = if r ≤ x then mask (fun i => decide (r ≤ told l i)) k ||| 2 ^ k else mask (fun i => decide (r ≤ told l i)) k := by simp [mask, hx0]
      have hT : mask (fun i => decide (r + 1 ≤ told l i)) (k + 1) = if r + 1 ≤ x then mask (fun i => decide (r + 1 ≤ told l i)) k ||| 2 ^ k else mask (fun i => decide (r + 1 ≤ told l i)) k := by simp [mask, hx0]
      have hs := mask_lt (fun i => decide (r ≤ told l i)) k
      have ht := mask_lt (fun i => decide (r + 1 ≤ told l i)) k
      have hp := pow_lt k hlt
      have hw0 : IntKind.u64.wrap (2 ^ k) = ((2 ^ k : Nat) : Int) := by
        have := wrap_u64 (2 ^ k) (by omega)
        rw [← this, Int.natCast_pow]
        rfl
      generalize mask (fun i => decide (r ≤ told l i)) k = s at hS hs
      generalize mask (fun i => decide (r + 1 ≤ told l i)) k = t at hT ht
      generalize 2 ^ k = q at hS hT hs ht hp hw0
      have o1 : bits .or .u64 (s : Int) (q : Int) = ((s ||| q : Nat) : Int) := u64_or_nat s q (by omega) (by omega)
      have o2 : bits .or .u64 (t : Int) (q : Int) = ((t ||| q : Nat) : Int) := u64_or_nat t q (by omega) (by omega)
      obtain ⟨s', hs'⟩ : ∃ s', s ||| q = s' := ⟨_, rfl⟩
      obtain ⟨t', ht'⟩ : ∃ t', t ||| q = t' := ⟨_, rfl⟩
      rw [hs'] at o1 hS
      rw [ht'] at o2 hT
      clear hs' ht' hx0 hs ht
      by_cases h1 : r ≤ x
      · rw [if_pos h1] at hS
        have HS := Lib.hid hS
        by_cases h2 : r < x
        · rw [if_pos (show r + 1 ≤ x from h2)] at hT
          have HT := Lib.hid hT
          clear hS hT
          go_wp2
          go_round
          case rel => exact ⟨k + 1, by omega, by go_num, by rw [HS.out], by rw [HT.out]⟩
          case measure => simp [intOf]; omega
        · rw [if_neg (show ¬ r + 1 ≤ x from h2)] at hT
          have HT := Lib.hid hT
          clear hS hT
          go_wp2
          go_round
          case rel => exact ⟨k + 1, by omega, by go_num, by rw [HS.out], by rw [HT.out]⟩
          case measure => simp [intOf]; omega
      · have h2 : ¬ r < x := by omega
        rw [if_neg h1] at hS
        rw [if_neg (show ¬ r + 1 ≤ x from h2)] at hT
        have HS := Lib.hid hS
        have HT := Lib.hid hT
        clear hS hT
        go_wp2
        go_round
        case rel => exact ⟨k + 1, by omega, by go_num, by rw [HS.out], by rw [HT.out]⟩
        case measure => simp [intOf]; omega
    · obtain rfl : k = 7 := by omega
      have hm1 := maj_mask c l r
      have hm2 := maj_mask c l (r + 1)
      have hl1 : mask (fun i => decide (r ≤ told l i)) 7 < 2 ^ 64 := Nat.lt_trans (mask_lt _ 7) (by decide)
      have hl2 : mask (fun i => decide (r + 1 ≤ told l i)) 7 < 2 ^ 64 := Nat.lt_trans (mask_lt _ 7) (by decide)
      generalize mask (fun i => decide (r ≤ told l i)) 7 = s at hm1 hl1
      generalize mask (fun i => decide (r + 1 ≤ told l i)) 7 = t at hm2 hl2
      have hlm : (mem c).length = size c := rfl
      have h7 := size_le c
      go_wp2_with fail
      refine (mem_any c hc _).mono ?_
      rintro e w7 ⟨v, rfl, hown, hb7⟩
      rw [hlm] at hown
      have hg7 := keep_row hg6 hb7 (by omega)
      have hb7' : Below w.heap.size w w7 := hb6'.trans (hb7.mono (by omega))
      have hsz7 : w.heap.size + 2 ≤ w7.heap.size := by have := hb7.size; omega
      obtain ⟨A, c', rfl, _⟩ := own_form hown
      clear hg6 hb6' hsz6 hb7 hown hlm
      obtain ⟨j, hj⟩ : ∃ j, ((wrap64 (n.tmod 7 + 7)).tmod 7).toNat = j := ⟨_, rfl⟩
      have hn' : -9223372036854775808 ≤ n ∧ n ≤ 9223372036854775807 := by simpa [Lit.wf, IntKind.min, IntKind.max, IntKind.signed, IntKind.bits] using hn
      have hJ : 0 ≤ (wrap64 (n.tmod 7 + 7)).tmod 7 ∧ (wrap64 (n.tmod 7 + 7)).tmod 7 < 7 := by
        have h1 : -7 < n.tmod 7 ∧ n.tmod 7 < 7 := by
          have ha := Int.tmod_lt_of_pos n (show (0 : Int) < 7 by decide)
          have hb := Int.lt_tmod_of_pos n (show (0 : Int) < 7 by decide)
          exact ⟨hb, ha⟩
        have h2 : wrap64 (n.tmod 7 + 7) = n.tmod 7 + 7 := by
          unfold wrap64
          omega
        rw [h2]
        exact ⟨Int.tmod_nonneg _ (by omega), Int.tmod_lt_of_pos _ (by decide)⟩
      have hj7 : j < 7 := by omega
      obtain ⟨x, hx0⟩ : ∃ x, told l j = x := ⟨_, rfl⟩
      have hcJ : w7.cell? ⟨w.heap.size + 1, ((wrap64 (n.tmod 7 + 7)).tmod 7).toNat, none⟩ = some (.int .u64 (x : Int)) := by
        rw [hj, cell_at hg7, ← HR.out, ← hx0]
        simp only [List.getElem?_toArray]
        exact unums_get (by omega)
      have hfJ : w7.frozen? ⟨w.heap.size + 1, ((wrap64 (n.tmod 7 + 7)).tmod 7).toNat, none⟩ = false := free_at hg7 _
      have hJ0 := hJ.1
      have hJ1 := hJ.2
      have HJ := Lib.hid hj
      clear hj hJ
      -- behind the store
      have hmax : max (x : Int) (more : Int) = ((max x more : Nat) : Int) := by omega
      have hg8 : (w7.setCell ⟨w.heap.size + 1, ((wrap64 (n.tmod 7 + 7)).tmod 7).toNat, none⟩ (.int .u64 (max (x : Int) (more : Int)))).heap[w.heap.size + 1]? = some (.cells (unums (l.set j (max x more))).toArray 44 (0, 0)) := by
        rw [HJ.out, set_at hg7, ← HR.out, hmax, unums_set]
      have hb8 : Below w.heap.size w (w7.setCell ⟨w.heap.size + 1, ((wrap64 (n.tmod 7 + 7)).tmod 7).toNat, none⟩ (.int .u64 (max (x : Int) (more : Int)))) := hb7'.setCell (by show w.heap.size ≤ w.heap.size + 1; omega) _
      have hr8 : Reads (w7.setCell ⟨w.heap.size + 1, ((wrap64 (n.tmod 7 + 7)).tmod 7).toNat, none⟩ (.int .u64 (max (x : Int) (more : Int)))) (w7.setCell ⟨w.heap.size + 1, ((wrap64 (n.tmod 7 + 7)).tmod 7).toNat, none⟩ (.int .u64 (max (x : Int) (more : Int)))).heap.size 1 (some ⟨w.heap.size + 1, 0, none⟩) 7 (unums (l.set j (max x more))) := reads_row hg8 (lt_at hg8) (by rw [List.length_set, hl])
      have hreach := reached_any c hc _ 7 7 (l.set j (max x more)) _ hr8
      have HG : Hid (∀ r', IsR c (l.set j (max x more)) r' → r ≤ r') := fun r' h => grows (fun i => told_set l j (max x more) i (by omega) (by rw [hx0]; omega)) HI.out h
      have HC := Lib.hid hreach
      have HB := Lib.hid hb8
      clear hg8 hr8 hreach hb8 hmax
      rcases HI.out with ⟨h0, -⟩ | ⟨h0, k1, k2⟩
      · rw [h0]
        clear hm1 hm2
        go_wp2_with fail
        refine HC.out.mono ?_
        rintro e w9 ⟨r', rfl, hi', hb9⟩
        have hle := HG.out r' hi'
        have hbz := HB.out.trans (hb9.mono HB.out.size)
        clear hi' hb9 hcJ hfJ hg7
        go_wp2
        go_ret
        exact ⟨rfl, hbz⟩
      · rw [decide_eq_true k1] at hm1
        rw [decide_eq_false (by omega)] at hm2
        have H1 := Lib.hid hm1
        have H2 := Lib.hid hm2
        have hpos : (0 : Int) < (size c : Int) := by omega
        obtain ⟨z, hz⟩ : ∃ z, size c = z := ⟨_, rfl⟩
        rw [hz] at hpos ⊢
        clear hm1 hm2 k1 k2 h0 hz h7
        go_wp2_with fail
        refine (LawE.maj_hid hc hl1 H1 _).mono ?_
        rintro e _ ⟨rfl, rfl⟩
        go_wp2_with fail
        refine (LawE.maj_hid hc hl2 H2 _).mono ?_
        rintro e _ ⟨rfl, rfl⟩
        go_wp2_with fail
        refine HC.out.mono ?_
        rintro e w9 ⟨r', rfl, hi', hb9⟩
        have hle := HG.out r' hi'
        have hbz := HB.out.trans (hb9.mono HB.out.size)
        clear hi' hb9 hcJ hfJ hg7
        go_wp2
        go_ret
        exact ⟨rfl, hbz⟩
theorem steps_walk (x : Int) (zs : List Int) (n : Int) (w : World) (hx : (Lit.int .u64 x).wf = true) (hl : zs.length = 8) (hw : ∀ z ∈ zs, (Lit.int .u64 z).wf = true) (hn : (Lit.int .i64 n).wf = true) :
    Calls Try.prog 7 #[.int .u64 x, .agg (zs.map (Value.int .u64)).toArray, .int .i64 n] w fun e w' => e = .returned (.bool true) ∧ Below w.heap.size w w' := by
  obtain ⟨c, rfl, hc⟩ := u64_nat hx
  obtain ⟨l, h1, h2, _⟩ := LawB.u64s_nat hw
  rw [hl] at h2
  have hne : l ≠ [] := fun e => by rw [e] at h2; cases h2
  have hsp := List.dropLast_concat_getLast hne
  refine steps_any c l.dropLast (l.getLast hne) n _ w (by rw [hsp, h1]) (by simp [h2]) hc hn
end Go.Proofs.Ytopoecdcckhpiaa.LawF
