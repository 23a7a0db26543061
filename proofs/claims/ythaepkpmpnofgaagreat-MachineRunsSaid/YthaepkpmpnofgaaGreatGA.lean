/- The library's sort at numbers of 64 bits without a sign, up to sixteen that are all unlike one another, walked. No statement is proved here. -/
import Derived.Test.YthaepkpmpnofgaaGreatChecked
import Derived.Test.YthaepkpmpnofgaaGreatOnly
import Derived.Sort.Statements
import Derived.Sort.LotA
import Derived.Sort.LotC
import Derived.BigQuiet
import Derived.BigRegion
import Derived.Deep.Cut
import Derived.Test.YthaepkpmpnofgaaGreatShelfS
import Derived.Sort.LotD1
import Derived.Deep.CutBlock
import Derived.Sort.LotD2
import Derived.Sort.LotD3
set_option linter.unusedVariables false
set_option linter.unusedSimpArgs false
namespace Go.Proofs.YthaepkpmpnofgaaGreat.SrtA
open Go.RowKit Go.Sort Go.Proofs.YthaepkpmpnofgaaGreat.Kit Go.Proofs.YthaepkpmpnofgaaGreat.Blocks

def ltN (x y : Nat) : Bool := decide (x < y)
theorem swoN : SWO ltN where
  irrefl x := by simp [ltN]
  trans x y z h1 h2 := by simp [ltN] at *; omega
  ntrans x y z h1 h2 := by simp [ltN] at *; omega
def encU (x : Nat) : Value := .int .u64 (x : Int)
/-- The block g holds the numbers d, from its beginning. -/
def SR (w : World) (g : Nat) (t : TypeId) (cap : Nat) (d : Array Nat) : Prop :=
  ∃ cs : Array Value, w.heap[g]? = some (.cells cs t (0, 0)) ∧ cs.size = cap ∧ d.size ≤ cap ∧ ∀ i, i < d.size → cs[i]? = some (encU d[i]!)
/-- The same behind a call's beginning. -/
structure SS (w0 w : World) (g : Nat) (t : TypeId) (cap : Nat) (d : Array Nat) : Prop where
  row : SR w g t cap d
  only : Only (fun q => q = g) w0 w
section
variable {w w' w0 : World} {g cap : Nat} {t : TypeId} {d : Array Nat}
theorem SR.cell (h : SR w g t cap d) {i : Nat} (hi : i < d.size) : w.cell? ⟨g, i, none⟩ = some (.int .u64 (d[i]! : Int)) := by
  obtain ⟨cs, h1, _, _, h2⟩ := h
  rw [cell_at h1]
  exact h2 i hi
theorem SR.free (h : SR w g t cap d) (i : Nat) : w.frozen? ⟨g, i, none⟩ = false := by
  obtain ⟨cs, h1, _⟩ := h
  exact free_at h1 i
theorem SR.lt (h : SR w g t cap d) : g < w.heap.size := by
  obtain ⟨cs, h1, _⟩ := h
  exact lt_at h1
theorem SR.only {S : Nat → Prop} (h : SR w g t cap d) (k : Only S w w') (hs : ¬ S g) : SR w' g t cap d := by
  obtain ⟨cs, h1, h2⟩ := h
  exact ⟨cs, k.heap h1 hs, h2⟩
theorem SR.drew (h : SR w g t cap d) : SR w.drew g t cap d := h
theorem SR.swp (h : SR w g t cap d) {i j : Nat} (hi : i < d.size) (hj : j < d.size) :
    SR ((w.setCell ⟨g, i, none⟩ (.int .u64 (d[j]! : Int))).setCell ⟨g, j, none⟩ (.int .u64 (d[i]! : Int))) g t cap (swp d i j) := by
  obtain ⟨cs, h1, h2, h3, h4⟩ := h
  refine ⟨_, set_at (set_at h1 _) _, by simpa using h2, by rw [swp_size]; exact h3, fun k hk => ?_⟩
  rw [swp_size] at hk
  rw [swp_get d hi hj]
  simp only [Array.getElem?_setIfInBounds, Array.size_setIfInBounds]
  by_cases e1 : j = k
  · subst e1
    by_cases e2 : i = j
    · subst e2; simp [encU]; omega
    · simp [encU]; omega
  · by_cases e2 : i = k
    · subst e2; simp [e1, encU, Ne.symm e1]; omega
    · simp [e1, e2, Ne.symm e1, Ne.symm e2]; exact h4 k hk
theorem SR.cell_set (h : SR w g t cap d) {i j : Nat} (hi : i < d.size) (hij : i ≠ j) (q : Nat) (v : Value) : ((w.drewN q).setCell ⟨g, j, none⟩ v).cell? ⟨g, i, none⟩ = some (.int .u64 (d[i]! : Int)) := by
  obtain ⟨cs, h1, _, _, h2⟩ := h
  have h1' : (w.drewN q).heap[g]? = some (.cells cs t (0, 0)) := h1
  rw [cell_at (set_at h1' v), Array.getElem?_setIfInBounds_ne (Ne.symm hij)]
  exact h2 i hi
theorem SR.free_set (h : SR w g t cap d) (i j q : Nat) (v : Value) : ((w.drewN q).setCell ⟨g, j, none⟩ v).frozen? ⟨g, i, none⟩ = false := by
  obtain ⟨cs, h1, _, _, h2⟩ := h
  have h1' : (w.drewN q).heap[g]? = some (.cells cs t (0, 0)) := h1
  exact free_at (set_at h1' v) i
/-- What lies at j when v was laid at i. -/
def ovl (v : Value) (i j x : Nat) : Value := if i = j then v else .int .u64 (x : Int)
theorem SR.cell_over (h : SR w g t cap d) {i j x : Nat} (hj : j < d.size) (hx : d[j]! = x) (q : Nat) (v : Value) : ((w.drewN q).setCell ⟨g, i, none⟩ v).cell? ⟨g, j, none⟩ = some (ovl v i j x) := by
  obtain ⟨cs, h1, k2, k3, h2⟩ := h
  have h1' : (w.drewN q).heap[g]? = some (.cells cs t (0, 0)) := h1
  rw [cell_at (set_at h1' v)]
  unfold ovl
  by_cases e : i = j
  · subst e
    rw [if_pos rfl, Array.getElem?_setIfInBounds_self_of_lt (by omega)]
  · rw [if_neg e, Array.getElem?_setIfInBounds_ne e, ← hx]
    exact h2 j hj
theorem SR.cell_over0 (h : SR w g t cap d) {i j x : Nat} (hj : j < d.size) (hx : d[j]! = x) (v : Value) : (w.setCell ⟨g, i, none⟩ v).cell? ⟨g, j, none⟩ = some (ovl v i j x) := h.cell_over hj hx 0 v
theorem SR.free_set0 (h : SR w g t cap d) (i j : Nat) (v : Value) : (w.setCell ⟨g, j, none⟩ v).frozen? ⟨g, i, none⟩ = false := h.free_set i j 0 v
theorem SS.drewN (h : SS w0 w g t cap d) (n : Nat) : SS w0 (w.drewN n) g t cap d := ⟨h.row, h.only.drewN n⟩
theorem SS.drew (h : SS w0 w g t cap d) : SS w0 w.drew g t cap d := ⟨h.row, h.only.drew⟩
theorem SS.swp (h : SS w0 w g t cap d) {i j : Nat} (hi : i < d.size) (hj : j < d.size) :
    SS w0 ((w.setCell ⟨g, i, none⟩ (.int .u64 (d[j]! : Int))).setCell ⟨g, j, none⟩ (.int .u64 (d[i]! : Int))) g t cap (swp d i j) :=
  ⟨h.row.swp hi hj, (h.only.setCell (a := ⟨g, i, none⟩) (.inr rfl) _).setCell (a := ⟨g, j, none⟩) (.inr rfl) _⟩
theorem SS.trans {d' : Array Nat} (h : SS w0 w g t cap d) (k : SS w w' g t cap d') : SS w0 w' g t cap d' := ⟨k.row, h.only.trans k.only⟩
end

set_option maxRecDepth 100000 in
theorem nan_any (x : Nat) (w : World) : Calls Tryz.prog 130 #[.int .u64 (x : Int)] w fun e w' => e = .returned (.bool false) ∧ w' = w := by
  go_enter Tryz.func130, Tryz.ntmps130
  go_wp2
  go_ret
  exact ⟨by simp, rfl⟩
set_option maxRecDepth 100000 in
theorem less_any (x y : Nat) (w : World) : Calls Tryz.prog 117 #[.int .u64 (x : Int), .int .u64 (y : Int)] w fun e w' => e = .returned (.bool (ltN x y)) ∧ w' = w := by
  go_enter Tryz.func117, Tryz.ntmps117
  go_wp2_with (first
    | (go_at_call 130
       refine (nan_any _ _).mono ?_
       rintro e w' ⟨rfl, rfl⟩))
  go_ret
  exact ⟨by simp [ltN], rfl⟩
end Go.Proofs.YthaepkpmpnofgaaGreat.SrtA
set_option linter.unusedVariables false
set_option linter.unusedSimpArgs false
namespace Go.Proofs.YthaepkpmpnofgaaGreat.SrtB
open Go.RowKit Go.Sort Go.Proofs.YthaepkpmpnofgaaGreat.Kit Go.Proofs.YthaepkpmpnofgaaGreat.Blocks Go.Proofs.YthaepkpmpnofgaaGreat.SrtA

theorem outer_go {a b i : Nat} {d : Array Nat} (h : i < b) : insOuter ltN a b i d = insOuter ltN a b (i + 1) (insInner ltN a i d) := by
  rw [insOuter, if_pos h]
theorem outer_end {a b i : Nat} {d : Array Nat} (h : ¬ i < b) : insOuter ltN a b i d = d := by
  rw [insOuter, if_neg h]
theorem inner_go {a j : Nat} {d : Array Nat} (h : a < j) (hl : ltN d[j]! d[j - 1]! = true) : insInner ltN a j d = insInner ltN a (j - 1) (swp d j (j - 1)) := by
  obtain ⟨j, rfl⟩ : ∃ k, j = k + 1 := ⟨j - 1, by omega⟩
  simp only [Nat.add_sub_cancel] at hl ⊢
  rw [insInner, if_pos (by simp [hl]; omega)]
theorem inner_end {a j : Nat} {d : Array Nat} (h : j ≤ a ∨ ltN d[j]! d[j - 1]! = false) : insInner ltN a j d = d := by
  cases j with
  | zero => rfl
  | succ j =>
    rw [insInner, if_neg]
    simp only [Nat.add_sub_cancel] at h
    simp only [Bool.and_eq_true, decide_eq_true_eq, not_and, Bool.not_eq_true]
    intro h1
    rcases h with h | h
    · omega
    · exact h
section
variable {w : World} {g cap nn c : Nat} {t : TypeId} {d : Array Nat}
set_option maxRecDepth 100000 in
theorem ins_any {A : Option Addr} (hA : d.size ≤ 1 ∨ A = some ⟨g, 0, none⟩) (h : SR w g t cap d) {a b : Nat} (hab : a ≤ b) (hb : b ≤ d.size) (h16 : d.size ≤ 16) :
    Calls Tryz.prog 111 #[.slice A d.size c, .int .i64 (a : Int), .int .i64 (b : Int)] w fun e w' => e = .returned (.tuple #[]) ∧ SS w w' g t cap (insertionSort ltN d a b) := by
  obtain ⟨n, hn⟩ : ∃ n, d.size = n := ⟨_, rfl⟩
  have HS : Hid (SS w w g t cap d) := ⟨h, Only.refl _ _⟩
  have HO : Hid (insertionSort ltN d a b = insOuter ltN a b (a + 1) d) := rfl
  have HN := Lib.hid hn
  rw [hn] at hA hb h16 ⊢
  clear h hn
  go_enter Tryz.func111, Tryz.ntmps111
  go_wp2
  go_loopw [6] (fun vi wr => ∃ (i : Nat) (dk : Array Nat), vi = .int .i64 (i : Int) ∧ a < i ∧ i ≤ b + 1 ∧ Hid (dk.size = n) ∧ Hid (SS w wr g t cap dk) ∧ Hid (insOuter ltN a b i dk = insOuter ltN a b (a + 1) d)) (fun vi _ => b + 1 - (intOf vi).toNat)
  case atStart => exact ⟨a + 1, d, by go_num, by omega, by omega, HN, HS, Lib.hid rfl⟩
  case round =>
    obtain ⟨i, dk, rfl, hai, hib, HK, HSk, HOk⟩ := hrel
    by_cases hlt : i < b
    · have hlt' : (i : Int) < (b : Int) := by omega
      obtain rfl : A = some ⟨g, 0, none⟩ := by
        rcases hA with h1 | h1
        · omega
        · exact h1
      go_wp2
      go_loopw [7] (fun vj wr2 => ∃ (j : Nat) (dj : Array Nat), vj = .int .i64 (j : Int) ∧ a ≤ j ∧ j ≤ i ∧ Hid (dj.size = n) ∧ Hid (SS w wr2 g t cap dj) ∧ Hid (insInner ltN a j dj = insInner ltN a i dk)) (fun vj _ => (intOf vj).toNat)
      case atStart => exact ⟨i, dk, rfl, by omega, Nat.le_refl _, HK, HSk, Lib.hid rfl⟩
      case round =>
        obtain ⟨j, dj, rfl, haj, hji, HKj, HSj, HIj⟩ := hrel
        have hlk := HK.out
        by_cases hja : a < j
        · have k1 : j < n := by omega
          obtain ⟨m, hm⟩ : ∃ m, m + 1 = j := ⟨j - 1, by omega⟩
          obtain ⟨x, hx⟩ : ∃ x, dj[j]! = x := ⟨_, rfl⟩
          obtain ⟨y, hy⟩ : ∃ y, dj[m]! = y := ⟨_, rfl⟩
          have c1 : wr.cell? ⟨g, j, none⟩ = some (.int .u64 (x : Int)) := by rw [← hx]; exact HSj.out.row.cell (by rw [HKj.out]; omega)
          have c2 : wr.cell? ⟨g, m, none⟩ = some (.int .u64 (y : Int)) := by rw [← hy]; exact HSj.out.row.cell (by rw [HKj.out]; omega)
          have hgl := HSj.out.row.lt
          have f1 := HSj.out.row.free j
          have f2 := HSj.out.row.free m
          have c3 : ∀ q v, ((wr.drewN q).setCell ⟨g, j, none⟩ v).cell? ⟨g, m, none⟩ = some (.int .u64 (y : Int)) := fun q v => by rw [← hy]; exact HSj.out.row.cell_set (by rw [HKj.out]; omega) (by omega) q v
          have f3 := fun q v => HSj.out.row.free_set m j q v
          have hda : decide ((j : Int) > (a : Int)) = true := decide_eq_true (by omega)
          have hw : IntKind.i64.wrap ((j : Int) - 1) = (m : Int) := by rw [IntKind.wrap_i64]; omega
          have m1 : (m : Int) < (n : Int) := by omega
          have m2 : (0 : Int) ≤ (m : Int) := by omega
          have j1 : (j : Int) < (n : Int) := by omega
          have j2 : (0 : Int) ≤ (j : Int) := by omega
          obtain ⟨l, hl⟩ : ∃ l, ltN x y = l := ⟨_, rfl⟩
          have HC : Hid (∀ W, Calls Tryz.prog 117 #[.int .u64 (x : Int), .int .u64 (y : Int)] W fun e w' => e = .returned (.bool l) ∧ w' = W) := fun W => by rw [← hl]; exact less_any x y W
          have HM : Hid (m + 1 = j) := hm
          have HX := Lib.hid hx
          have HY := Lib.hid hy
          have HLL : Hid (ltN x y = l) := hl
          clear hx hy hl hm
          go_wp2_with fail
          cases l with
          | true =>
            go_quiet (first | (go_at_call 117; exact Calls.quiet_of_same (HC.out _)))
            go_wp2_with fail
            go_region
            all_goals go_wp2
            go_roundw
            case rel =>
              refine ⟨m, swp dj j m, by rfl, by have := HM.out; omega, by have := HM.out; omega, Lib.hid (by rw [swp_size]; exact HKj.out), ?_, ?_⟩
              · have h1 := (HSj.out.drewN (nq + 1)).swp (i := j) (j := m) (by rw [HKj.out]; omega) (by rw [HKj.out]; omega)
                rw [HX.out, HY.out] at h1
                exact Lib.hid h1
              · refine Lib.hid (Eq.trans ?_ HIj.out)
                have := HM.out
                subst this
                exact (inner_go (a := a) (j := m + 1) (d := dj) (by omega) (by simp only [Nat.add_sub_cancel]; rw [HX.out, HY.out]; exact HLL.out)).symm
            case measure => simp [intOf]; have := HM.out; omega
          | false =>
            go_quiet (first | (go_at_call 117; exact Calls.quiet_of_same (HC.out _)))
            go_wp2
            go_roundw
            case rel =>
              refine ⟨i + 1, dj, by go_num, by omega, by omega, HKj, Lib.hid (HSj.out.drewN _), ?_⟩
              have h1 := inner_end (a := a) (j := j) (d := dj) (.inr (by have := HM.out; subst this; simp only [Nat.add_sub_cancel]; rw [HX.out, HY.out]; exact HLL.out))
              exact Lib.hid (by rw [← HOk.out, outer_go hlt, ← HIj.out, h1])
            case measure => simp [intOf]; omega
        · have hda : decide ((j : Int) > (a : Int)) = false := decide_eq_false (by omega)
          go_wp2_with fail
          go_quiet (fail)
          go_wp2
          go_roundw
          case rel =>
            refine ⟨i + 1, dj, by go_num, by omega, by omega, HKj, Lib.hid (HSj.out.drewN _), ?_⟩
            have h1 := inner_end (a := a) (j := j) (d := dj) (.inl (by omega))
            exact Lib.hid (by rw [← HOk.out, outer_go hlt, ← HIj.out, h1])
          case measure => simp [intOf]; omega
    · have hlt' : ¬ (i : Int) < (b : Int) := by omega
      go_wp2
      go_end0
      refine ⟨rfl, ?_⟩
      have h1 := HSk.out
      have h2 := HOk.out
      rw [outer_end hlt] at h2
      rw [HO.out, ← h2]
      exact h1
end
end Go.Proofs.YthaepkpmpnofgaaGreat.SrtB
set_option linter.unusedVariables false
set_option linter.unusedSimpArgs false
namespace Go.Proofs.YthaepkpmpnofgaaGreat.SrtC
open Go.RowKit Go.Sort Go.Proofs.YthaepkpmpnofgaaGreat.Kit Go.Proofs.YthaepkpmpnofgaaGreat.Blocks Go.Proofs.YthaepkpmpnofgaaGreat.SrtA

theorem w64 {z : Int} (h0 : 0 ≤ z) (h1 : z ≤ 1000) : wrap64 z = z := by unfold wrap64; omega
theorem w64a {a q i : Nat} (h : a + q = i) (ha : i ≤ 100) : wrap64 ((a : Int) + wrap64 (wrap64 (q : Int))) = (i : Int) := by
  rw [w64 (z := (q : Int)) (by omega) (by omega), w64 (z := (q : Int)) (by omega) (by omega), w64 (by omega) (by omega)]; omega
theorem w64b {a q i : Nat} (h : a + q * 2 = i) (ha : i ≤ 100) : wrap64 ((a : Int) + wrap64 (wrap64 (q : Int) * 2)) = (i : Int) := by
  rw [w64 (z := (q : Int)) (by omega) (by omega), w64 (z := (q : Int) * 2) (by omega) (by omega), w64 (by omega) (by omega)]; omega
theorem w64c {a q i : Nat} (h : a + q * 3 = i) (ha : i ≤ 100) : wrap64 ((a : Int) + wrap64 (wrap64 (q : Int) * 3)) = (i : Int) := by
  rw [w64 (z := (q : Int)) (by omega) (by omega), w64 (z := (q : Int) * 3) (by omega) (by omega), w64 (by omega) (by omega)]; omega
/-- A number of the call's own. -/
structure Box1 (w : World) (s : Nat) (k : Nat) : Prop where
  blk : w.heap[s]? = some (.cells #[.int .i64 (k : Int)] 3 (0, 0))
section
variable {w w' w0 : World} {g cap c s k n : Nat} {t : TypeId} {d : Array Nat}
theorem Box1.cell (h : Box1 w s k) : w.cell? ⟨s, 0, none⟩ = some (.int .i64 (k : Int)) := by rw [cell_at h.blk]; rfl
theorem Box1.free (h : Box1 w s k) : w.frozen? ⟨s, 0, none⟩ = false := free_at h.blk 0
theorem Box1.lt (h : Box1 w s k) : s < w.heap.size := lt_at h.blk
theorem Box1.set (h : Box1 w s k) (k' : Nat) : Box1 (w.setCell ⟨s, 0, none⟩ (.int .i64 (k' : Int))) s k' ∧ Only (fun q => q = s) w (w.setCell ⟨s, 0, none⟩ (.int .i64 (k' : Int))) :=
  ⟨⟨by rw [set_at h.blk]; rfl⟩, (Only.refl (fun q => q = s) w).setCell (a := ⟨s, 0, none⟩) (.inr rfl) _⟩
/-- What a look at the row leaves: the count in its box alone may have turned. -/
structure Lk (w w' : World) (s k : Nat) : Prop where
  box : ∃ k', k' ≤ k ∧ Box1 w' s k'
  only : Only (fun q => q = s) w w'
theorem sr_ne (h : SR w g t cap d) (hb : Box1 w s k) (hne : s ≠ g) (o : Only (fun q => q = s) w w') : SR w' g t cap d := h.only o (fun e => hne e.symm)
set_option maxRecDepth 100000 in
theorem order_any (h : SR w g t cap d) (hb : Box1 w s k) (hne : s ≠ g) (hk : k ≤ 100) {a b : Nat} (ha : a < d.size) (hbb : b < d.size) (h16 : d.size ≤ 16) :
    Calls Tryz.prog 132 #[.slice (some ⟨g, 0, none⟩) d.size c, .int .i64 (a : Int), .int .i64 (b : Int), .pointer (some ⟨s, 0, none⟩)] w fun e w' =>
      ∃ x y : Nat, e = .returned (.tuple #[.int .i64 (x : Int), .int .i64 (y : Int)]) ∧ (x = a ∧ y = b ∨ x = b ∧ y = a) ∧ Lk w w' s (k + 1) := by
  obtain ⟨n, hn⟩ : ∃ n, d.size = n := ⟨_, rfl⟩
  obtain ⟨x, hx⟩ : ∃ x, d[b]! = x := ⟨_, rfl⟩
  obtain ⟨y, hy⟩ : ∃ y, d[a]! = y := ⟨_, rfl⟩
  have c1 : w.cell? ⟨g, b, none⟩ = some (.int .u64 (x : Int)) := by rw [← hx]; exact h.cell hbb
  have c2 : w.cell? ⟨g, a, none⟩ = some (.int .u64 (y : Int)) := by rw [← hy]; exact h.cell ha
  have c3 := hb.cell
  have f3 := hb.free
  have hs := hb.lt
  have hgl := h.lt
  rw [hn] at ha hbb h16 ⊢
  obtain ⟨l, hl⟩ : ∃ l, ltN x y = l := ⟨_, rfl⟩
  have HC : Hid (∀ W, Calls Tryz.prog 117 #[.int .u64 (x : Int), .int .u64 (y : Int)] W fun e w' => e = .returned (.bool l) ∧ w' = W) := fun W => by rw [← hl]; exact less_any x y W
  have a1 : (a : Int) < (n : Int) := by omega
  have b1 : (b : Int) < (n : Int) := by omega
  have HB := Lib.hid hb
  clear hx hy hl hb h hn
  go_enter Tryz.func132, Tryz.ntmps132
  go_wp2_with fail
  cases l with
  | true =>
    go_quiet (first | (go_at_call 117; exact Calls.quiet_of_same (HC.out _)))
    have hw : IntKind.i64.wrap ((k : Int) + 1) = ((k + 1 : Nat) : Int) := by rw [IntKind.wrap_i64]; omega
    go_wp2
    refine bodyPost_ret (results_tmp2 rfl _ _ _) rfl ?_
    refine ⟨b, a, rfl, .inr ⟨rfl, rfl⟩, ?_⟩
    have hb' : Box1 (w.drewN nq) s k := ⟨HB.out.blk⟩
    have h1 := hb'.set (k + 1)
    exact ⟨⟨k + 1, Nat.le_refl _, h1.1⟩, ((Only.refl _ w).drewN nq).trans h1.2⟩
  | false =>
    go_quiet (first | (go_at_call 117; exact Calls.quiet_of_same (HC.out _)))
    go_wp2
    refine bodyPost_ret (results_tmp2 rfl _ _ _) rfl ?_
    exact ⟨a, b, rfl, .inl ⟨rfl, rfl⟩, ⟨k, Nat.le_succ _, ⟨HB.out.blk⟩⟩, (Only.refl _ w).drewN nq⟩
set_option maxRecDepth 100000 in
theorem median_any (h : SR w g t cap d) (hb : Box1 w s k) (hne : s ≠ g) (hk : k ≤ 90) {a b c' : Nat} (ha : a < d.size) (hbb : b < d.size) (hc : c' < d.size) (h16 : d.size ≤ 16) :
    Calls Tryz.prog 129 #[.slice (some ⟨g, 0, none⟩) d.size c, .int .i64 (a : Int), .int .i64 (b : Int), .int .i64 (c' : Int), .pointer (some ⟨s, 0, none⟩)] w fun e w' =>
      ∃ x : Nat, e = .returned (.int .i64 (x : Int)) ∧ (x = a ∨ x = b ∨ x = c') ∧ Lk w w' s (k + 3) := by
  have HB := Lib.hid hb
  have HH := Lib.hid h
  have HC := Lib.hid (And.intro ha (And.intro hbb hc))
  have H16 := Lib.hid h16
  clear hb h ha hbb hc h16
  go_enter Tryz.func129, Tryz.ntmps129
  go_wp2_with fail
  go_at_call 132
  refine (order_any HH.out HB.out hne (by omega) HC.out.1 HC.out.2.1 H16.out).mono ?_
  rintro e w1 ⟨x1, y1, rfl, q1, k1⟩
  have K1 := Lib.hid k1
  have Q1 := Lib.hid q1
  clear k1 q1
  obtain ⟨⟨n1, hn1, b1⟩, o1⟩ := K1.out
  have K1b := Lib.hid b1
  have K1o := Lib.hid o1
  have h1x : x1 < d.size ∧ y1 < d.size := by
    obtain ⟨q1, q2, q3⟩ := HC.out
    rcases Q1.out with ⟨rfl, rfl⟩ | ⟨rfl, rfl⟩
    · exact ⟨q1, q2⟩
    · exact ⟨q2, q1⟩
  have H1 := Lib.hid h1x
  have R1 := Lib.hid (sr_ne HH.out HB.out hne o1)
  clear b1 o1 h1x
  go_wp2_with fail
  go_at_call 132
  refine (order_any R1.out K1b.out hne (by omega) H1.out.2 HC.out.2.2 H16.out).mono ?_
  rintro e w2 ⟨x2, y2, rfl, q2, ⟨⟨n2, hn2, b2⟩, o2⟩⟩
  have K2b := Lib.hid b2
  have K2o : Hid (Only (fun q => q = s) w w2) := K1o.out.trans o2
  have h2x : x2 < d.size ∧ (x1 = a ∨ x1 = b) ∧ (x2 = a ∨ x2 = b ∨ x2 = c') := by
    obtain ⟨u1, u2, u3⟩ := HC.out
    have u4 := H1.out
    rcases Q1.out with ⟨rfl, rfl⟩ | ⟨rfl, rfl⟩ <;> rcases q2 with ⟨rfl, rfl⟩ | ⟨rfl, rfl⟩ <;> simp <;> omega
  have H2 := Lib.hid h2x
  have R2 := Lib.hid (sr_ne R1.out K1b.out hne o2)
  clear b2 o2 h2x q2
  go_wp2_with fail
  go_at_call 132
  refine (order_any R2.out K2b.out hne (by omega) H1.out.1 H2.out.1 H16.out).mono ?_
  rintro e w3 ⟨x3, y3, rfl, q3, ⟨⟨n3, hn3, b3⟩, o3⟩⟩
  have K3 : Hid (Lk w w3 s (k + 3)) := ⟨⟨n3, by omega, b3⟩, K2o.out.trans o3⟩
  have h3x : y3 = a ∨ y3 = b ∨ y3 = c' := by
    have u1 := H2.out
    rcases q3 with ⟨rfl, rfl⟩ | ⟨rfl, rfl⟩
    · exact u1.2.2
    · rcases u1.2.1 with e1 | e1
      · exact .inl e1
      · exact .inr (.inl e1)
  have H3 := Lib.hid h3x
  clear b3 o3 h3x q3
  go_wp2
  go_ret
  exact ⟨y3, rfl, H3.out, K3.out⟩
set_option maxRecDepth 100000 in
theorem pivot_any (h : SR w g t cap d) {a b : Nat} (hab : a + 12 < b) (hb : b ≤ d.size) (h16 : d.size ≤ 16) :
    Calls Tryz.prog 114 #[.slice (some ⟨g, 0, none⟩) d.size c, .int .i64 (a : Int), .int .i64 (b : Int)] w fun e w' =>
      ∃ x hint : Nat, e = .returned (.tuple #[.int .i64 (x : Int), .int .i64 (hint : Int)]) ∧ a ≤ x ∧ x < b ∧ hint ≤ 1 ∧ SS w w' g t cap d := by
  obtain ⟨l, hl⟩ : ∃ l, b - a = l := ⟨_, rfl⟩
  obtain ⟨q, hq⟩ : ∃ q, l / 4 = q := ⟨_, rfl⟩
  have z1 : (b : Int) - (a : Int) = (l : Int) := by omega
  have z2 : (l : Int).tdiv 4 = (q : Int) := by rw [← hq]; rfl
  have g1 : 8 ≤ (l : Int) := by omega
  have g2 : ¬ 50 ≤ (l : Int) := by omega
  have hn := h.lt
  have hbo := Box1.mk (w := w.alloc (.cells #[.int .i64 0] 3)) (s := w.heap.size) (k := 0) (heap_alloc_new w _)
  have hal : Only (fun q => q = w.heap.size) w (w.alloc (.cells #[.int .i64 0] 3)) := (Only.refl _ w).alloc _
  obtain ⟨w1, hw1⟩ : ∃ w1, w.alloc (.cells #[.int .i64 0] 3) = w1 := ⟨_, rfl⟩
  rw [hw1] at hbo hal
  obtain ⟨s, hs⟩ : ∃ s, w.heap.size = s := ⟨_, rfl⟩
  rw [hs] at hbo hal hn
  have hne : s ≠ g := by omega
  have HR := Lib.hid (h.only hal (fun e => hne e.symm))
  have HW := Lib.hid hw1
  have HS := Lib.hid hs
  have HB := Lib.hid hbo
  have HAL2 : Hid (Only (fun q => q = g) w w1) := by rw [← hw1]; exact (Only.refl _ w).alloc _
  have HX : Hid (a + 12 < b ∧ b ≤ d.size ∧ d.size ≤ 16 ∧ a + q < d.size ∧ a + q * 2 < d.size ∧ a + q * 3 < d.size ∧ a + q < b ∧ a + q * 2 < b ∧ a + q * 3 < b) := by
    have : a + 12 < b ∧ b ≤ d.size ∧ d.size ≤ 16 ∧ a + q < d.size ∧ a + q * 2 < d.size ∧ a + q * 3 < d.size ∧ a + q < b ∧ a + q * 2 < b ∧ a + q * 3 < b := by omega
    exact this
  have HH := Lib.hid h
  obtain ⟨i1, e1⟩ : ∃ i, a + q = i := ⟨_, rfl⟩
  obtain ⟨i2, e2⟩ : ∃ i, a + q * 2 = i := ⟨_, rfl⟩
  obtain ⟨i3, e3⟩ : ∃ i, a + q * 3 = i := ⟨_, rfl⟩
  have HX2 : Hid (a ≤ i1 ∧ a ≤ i2 ∧ a ≤ i3) := by
    have : a ≤ i1 ∧ a ≤ i2 ∧ a ≤ i3 := by omega
    exact this
  have I100 : i1 ≤ 100 ∧ i2 ≤ 100 ∧ i3 ≤ 100 := by omega
  have v1 : wrap64 ((a : Int) + wrap64 (wrap64 (q : Int))) = (i1 : Int) := w64a e1 I100.1
  have v2 : wrap64 ((a : Int) + wrap64 (wrap64 (q : Int) * 2)) = (i2 : Int) := w64b e2 I100.2.1
  have v3 : wrap64 ((a : Int) + wrap64 (wrap64 (q : Int) * 3)) = (i3 : Int) := w64c e3 I100.2.2
  rw [e1, e2, e3] at HX
  have V1 := Lib.hid v1
  have V2 := Lib.hid v2
  have V3 := Lib.hid v3
  clear hbo hal h hw1 hs hl hq e1 e2 e3 v1 v2 v3 I100
  go_enter Tryz.func114, Tryz.ntmps114
  go_wp2_with fail
  rw [V1.out, V2.out, V3.out, HW.out, HS.out]
  go_at_call 129
  obtain ⟨u1, u2, u3, u4, u5, u6, u7, u8, u9⟩ := HX.out
  refine (median_any HR.out HB.out hne (by decide) u4 u5 u6 u3).mono ?_
  rintro e w2 ⟨x, rfl, hx, ⟨⟨k', hk', b'⟩, o'⟩⟩
  have HF : Hid (a ≤ x ∧ x < b ∧ SS w w2 g t cap d) := by
    have h0 : a ≤ i1 ∧ a ≤ i2 ∧ a ≤ i3 := HX2.out
    have h1 : a ≤ x ∧ x < b := by rcases hx with rfl | rfl | rfl <;> omega
    have h2 : SS w w2 g t cap d := ⟨HR.out.only o' (fun e => hne e.symm), by
      refine HAL2.out.trans' o' fun q hq => .inr ?_
      have := HS.out; omega⟩
    exact ⟨h1.1, h1.2, h2⟩
  have c0 := b'.cell
  have hlt := b'.lt
  clear u1 u2 u3 u4 u5 u6 u7 u8 u9 hx b' o'
  by_cases h0 : k' = 0
  · have q0 : ((k' : Int) == 0) = true := by rw [h0]; rfl
    clear h0
    go_wp2
    refine bodyPost_ret (results_tmp2 rfl _ _ _) rfl ?_
    exact ⟨x, 1, rfl, HF.out.1, HF.out.2.1, Nat.le_refl _, HF.out.2.2⟩
  · have q0 : ((k' : Int) == 0) = false := by simp; omega
    have q1 : ((k' : Int) == 12) = false := by simp; omega
    clear h0
    go_wp2
    refine bodyPost_ret (results_tmp2 rfl _ _ _) rfl ?_
    exact ⟨x, 0, rfl, HF.out.1, HF.out.2.1, Nat.zero_le _, HF.out.2.2⟩
set_option maxRecDepth 100000 in
/-- Is the row sorted already? (It is shorter than fifty: nothing is shifted.) -/
theorem partial_any (h : SR w g t cap d) {a b : Nat} (hab : a + 12 < b) (hb : b ≤ d.size) (h16 : d.size ≤ 16) :
    Calls Tryz.prog 116 #[.slice (some ⟨g, 0, none⟩) d.size c, .int .i64 (a : Int), .int .i64 (b : Int)] w fun e w' =>
      ∃ r : Bool, e = .returned (.bool r) ∧ (r = true → SortedIn ltN a b d) ∧ SS w w' g t cap d := by
  obtain ⟨n, hn⟩ : ∃ n, d.size = n := ⟨_, rfl⟩
  have HS : Hid (SS w w g t cap d) := ⟨h, Only.refl _ _⟩
  have HN := Lib.hid hn
  rw [hn] at hb h16 ⊢
  clear h hn
  have hlt50 : (b : Int) - (a : Int) < 50 := by omega
  go_enter Tryz.func116, Tryz.ntmps116
  go_wp2
  go_loopw [7, 8] (fun vi vj wr => vi = .int .i64 ((a : Int) + 1) ∧ vj = .int .i64 0 ∧ Hid (SS w wr g t cap d)) (fun _ _ _ => 0)
  case atStart => exact ⟨rfl, rfl, HS⟩
  case round =>
    obtain ⟨rfl, rfl, HS1⟩ := hrel
    go_wp2
    go_loopw [7] (fun vi wr => ∃ i : Nat, vi = .int .i64 (i : Int) ∧ a < i ∧ i ≤ b ∧ Hid (SS w wr g t cap d) ∧ Hid (SortedIn ltN a i d)) (fun vi _ => b - (intOf vi).toNat)
    case atStart => exact ⟨a + 1, by go_num, by omega, by omega, HS1, Lib.hid (fun i j h1 h2 h3 => by omega)⟩
    case round =>
      obtain ⟨i, rfl, hai, hib, HSj, HT⟩ := hrel
      by_cases hlt : i < b
      · obtain ⟨m, hm⟩ : ∃ m, m + 1 = i := ⟨i - 1, by omega⟩
        obtain ⟨x, hx⟩ : ∃ x, d[i]! = x := ⟨_, rfl⟩
        obtain ⟨y, hy⟩ : ∃ y, d[m]! = y := ⟨_, rfl⟩
        have c1 : wr.cell? ⟨g, i, none⟩ = some (.int .u64 (x : Int)) := by rw [← hx]; exact HSj.out.row.cell (by rw [HN.out]; omega)
        have c2 : wr.cell? ⟨g, m, none⟩ = some (.int .u64 (y : Int)) := by rw [← hy]; exact HSj.out.row.cell (by rw [HN.out]; omega)
        have hgl := HSj.out.row.lt
        have hda : decide ((i : Int) < (b : Int)) = true := decide_eq_true (by omega)
        have hw : IntKind.i64.wrap ((i : Int) - 1) = (m : Int) := by rw [IntKind.wrap_i64]; omega
        have m1 : (m : Int) < (n : Int) := by omega
        have m2 : (0 : Int) ≤ (m : Int) := by omega
        have j1 : (i : Int) < (n : Int) := by omega
        have j2 : (0 : Int) ≤ (i : Int) := by omega
        obtain ⟨l, hl⟩ : ∃ l, ltN x y = l := ⟨_, rfl⟩
        have HC : Hid (∀ W, Calls Tryz.prog 117 #[.int .u64 (x : Int), .int .u64 (y : Int)] W fun e w' => e = .returned (.bool l) ∧ w' = W) := fun W => by rw [← hl]; exact less_any x y W
        have HM : Hid (m + 1 = i) := hm
        have HLL : Hid (ltN d[i]! d[i - 1]! = l) := by
          have e1 : i - 1 = m := by omega
          have : ltN d[i]! d[i - 1]! = l := by rw [e1, hx, hy]; exact hl
          exact this
        clear hx hy hl hm
        go_wp2_with fail
        cases l with
        | true =>
          go_quiet (first | (go_at_call 117; exact Calls.quiet_of_same (HC.out _)))
          have hne : ((i : Int) == (b : Int)) = false := by simp; omega
          go_wp2
          go_ret
          exact ⟨false, rfl, by simp, HSj.out.drewN _⟩
        | false =>
          go_quiet (first | (go_at_call 117; exact Calls.quiet_of_same (HC.out _)))
          go_wp2
          go_roundw
          case rel => exact ⟨i + 1, by go_num, by omega, by omega, Lib.hid (HSj.out.drewN _), Lib.hid (SortedIn.snoc swoN HT.out HLL.out)⟩
          case measure => simp [intOf]; omega
      · obtain rfl : i = b := by omega
        have hda : decide ((i : Int) < (i : Int)) = false := decide_eq_false (by omega)
        go_wp2_with fail
        go_quiet (fail)
        go_wp2
        go_ret
        exact ⟨true, rfl, fun _ => HT.out, HSj.out.drewN _⟩
end
end Go.Proofs.YthaepkpmpnofgaaGreat.SrtC
set_option linter.unusedVariables false
set_option linter.unusedSimpArgs false
namespace Go.Proofs.YthaepkpmpnofgaaGreat.SrtD
open Go.RowKit Go.Sort Go.Proofs.YthaepkpmpnofgaaGreat.Kit Go.Proofs.YthaepkpmpnofgaaGreat.Blocks Go.Proofs.YthaepkpmpnofgaaGreat.SrtA

/-- The state of the random numbers. -/
structure BoxX (w : World) (s : Nat) (k : Nat) : Prop where
  blk : w.heap[s]? = some (.cells #[.int .u64 (k : Int)] 165 (0, 0))
section
variable {w w' w0 : World} {g cap c s k n : Nat} {t : TypeId} {d : Array Nat}
theorem BoxX.cell (h : BoxX w s k) : w.cell? ⟨s, 0, none⟩ = some (.int .u64 (k : Int)) := by rw [cell_at h.blk]; rfl
theorem BoxX.free (h : BoxX w s k) : w.frozen? ⟨s, 0, none⟩ = false := free_at h.blk 0
theorem BoxX.lt (h : BoxX w s k) : s < w.heap.size := lt_at h.blk
theorem BoxX.set (h : BoxX w s k) (k' : Nat) : BoxX (w.setCell ⟨s, 0, none⟩ (.int .u64 (k' : Int))) s k' ∧ Only (fun q => q = s) w (w.setCell ⟨s, 0, none⟩ (.int .u64 (k' : Int))) :=
  ⟨⟨by rw [set_at h.blk]; rfl⟩, (Only.refl (fun q => q = s) w).setCell (a := ⟨s, 0, none⟩) (.inr rfl) _⟩
theorem BoxX.blk_other (h : BoxX w s k) {i j : Nat} {u v : Value} (hne : s ≠ g) : (((w.drewN 1).setCell ⟨g, i, none⟩ u).setCell ⟨g, j, none⟩ v).heap[s]? = some (.cells #[.int .u64 (k : Int)] 165 (0, 0)) := by
  have o : Only (fun q => q = g) w (((w.drewN 1).setCell ⟨g, i, none⟩ u).setCell ⟨g, j, none⟩ v) :=
    ((((Only.refl (fun q => q = g) w).drewN 1).setCell (a := ⟨g, i, none⟩) (.inr rfl) _).setCell (a := ⟨g, j, none⟩) (.inr rfl) _)
  exact o.heap h.blk hne
set_option maxRecDepth 100000 in
theorem two_any (w : World) {l : Nat} (h0 : 13 ≤ l) (h1 : l ≤ 16) :
    Calls Tryz.prog 126 #[.int .i64 (l : Int)] w fun e w' => ∃ M : Nat, e = .returned (.int .u64 (M : Int)) ∧ (M = 16 ∨ M = 32) ∧ M ≤ 2 * l ∧ w' = w := by
  have hl : l = 13 ∨ l = 14 ∨ l = 15 ∨ l = 16 := by omega
  rcases hl with rfl | rfl | rfl | rfl
  all_goals
    go_enter Tryz.func126, Tryz.ntmps126
    go_wp2_with fail
    go_at_call 89
    refine (ShelfS.bits_Len _ _ (by decide) (by decide)).mono ?_
    rintro e w' ⟨rfl, rfl⟩
    go_wp2
    go_ret
    first
      | exact ⟨16, by rfl, .inl rfl, by decide, rfl⟩
      | exact ⟨32, by rfl, .inr rfl, by decide, rfl⟩
theorem xor_some (k : Nat) (z : Int) (hk : k < 18446744073709551616) (h0 : 0 ≤ z) (h1 : z < 18446744073709551616) : ∃ x : Nat, bits .xor .u64 (k : Int) z = (x : Int) ∧ x < 18446744073709551616 := by
  obtain ⟨q, rfl⟩ := Int.eq_ofNat_of_zero_le h0
  exact ⟨k ^^^ q, u64_xor_nat k q hk (by omega), Nat.xor_lt_two_pow (n := 64) hk (by omega)⟩
theorem wrap_some (z : Int) : 0 ≤ IntKind.u64.wrap z ∧ IntKind.u64.wrap z < 18446744073709551616 := by rw [IntKind.wrap_u64]; omega
set_option maxRecDepth 100000 in
theorem next_any (h : BoxX w s k) (hk : k < 18446744073709551616) :
    Calls Tryz.prog 127 #[.pointer (some ⟨s, 0, none⟩)] w fun e w' => ∃ z : Nat, e = .returned (.int .u64 (z : Int)) ∧ z < 18446744073709551616 ∧ BoxX w' s z ∧ Only (fun q => q = s) w w' := by
  obtain ⟨x1, e1, b1⟩ := xor_some k (IntKind.u64.wrap ((k : Int) * 8192)) hk (wrap_some _).1 (wrap_some _).2
  obtain ⟨x2, e2, b2⟩ := xor_some x1 ((x1 : Int) / 128) b1 (by omega) (by omega)
  obtain ⟨x3, e3, b3⟩ := xor_some x2 (IntKind.u64.wrap ((x2 : Int) * 131072)) b2 (wrap_some _).1 (wrap_some _).2
  have c0 := h.cell
  have f0 := h.free
  have hs := h.lt
  obtain ⟨w1, hw1⟩ : ∃ w1, (w.setCell ⟨s, 0, none⟩ (.int .u64 (x1 : Int))).drew = w1 := ⟨_, rfl⟩
  have h1 : BoxX w1 s x1 ∧ Only (fun q => q = s) w w1 := by rw [← hw1]; exact ⟨⟨(h.set x1).1.blk⟩, (h.set x1).2.drew⟩
  obtain ⟨w2, hw2⟩ : ∃ w2, (w1.setCell ⟨s, 0, none⟩ (.int .u64 (x2 : Int))).drew = w2 := ⟨_, rfl⟩
  have h2 : BoxX w2 s x2 ∧ Only (fun q => q = s) w w2 := by rw [← hw2]; exact ⟨⟨(h1.1.set x2).1.blk⟩, h1.2.trans (h1.1.set x2).2.drew⟩
  obtain ⟨w3, hw3⟩ : ∃ w3, (w2.setCell ⟨s, 0, none⟩ (.int .u64 (x3 : Int))).drew = w3 := ⟨_, rfl⟩
  have h3 : BoxX w3 s x3 ∧ Only (fun q => q = s) w w3 := by rw [← hw3]; exact ⟨⟨(h2.1.set x3).1.blk⟩, h2.2.trans (h2.1.set x3).2.drew⟩
  have c1 := h1.1.cell
  have f1 := h1.1.free
  have s1 := h1.1.lt
  have c2 := h2.1.cell
  have f2 := h2.1.free
  have s2 := h2.1.lt
  have c3 := h3.1.cell
  have HW1 := Lib.hid hw1
  have HW2 := Lib.hid hw2
  have HW3 := Lib.hid hw3
  have E1 := Lib.hid e1
  have E2 := Lib.hid e2
  have E3 := Lib.hid e3
  have HF := Lib.hid (And.intro b3 h3)
  clear hw1 hw2 hw3 h1 h2 h3 e1 e2 e3 b1 b2 b3 h
  go_enter Tryz.func127, Tryz.ntmps127
  go_wp2_with fail
  go_region
  rw [E1.out, HW1.out]
  go_wp2_with fail
  go_region
  rw [E2.out, HW2.out]
  go_wp2_with fail
  go_region
  rw [E3.out, HW3.out]
  go_wp2
  go_ret
  exact ⟨x3, rfl, HF.out.1, HF.out.2.1, HF.out.2.2⟩
theorem and_some (z M1 : Nat) (hz : z < 18446744073709551616) (hM : M1 ≤ 31) : ∃ o : Nat, bits .and .u64 (z : Int) (M1 : Int) = (o : Int) ∧ o ≤ M1 :=
  ⟨z &&& M1, u64_and_nat z M1 hz (by omega), Nat.and_le_right⟩
set_option maxRecDepth 100000 in
theorem break_any (h : SR w g t cap d) {a b : Nat} (hab : a + 12 < b) (hb : b ≤ d.size) (h16 : d.size ≤ 16) :
    Calls Tryz.prog 113 #[.slice (some ⟨g, 0, none⟩) d.size c, .int .i64 (a : Int), .int .i64 (b : Int)] w fun e w' =>
      e = .returned (.tuple #[]) ∧ ∃ d', SS w w' g t cap d' ∧ PermIn a b d d' := by
  obtain ⟨n, hn⟩ : ∃ n, d.size = n := ⟨_, rfl⟩
  obtain ⟨l, hl⟩ : ∃ l, b - a = l := ⟨_, rfl⟩
  obtain ⟨q, hq⟩ : ∃ q, l / 4 = q := ⟨_, rfl⟩
  have l13 : 13 ≤ l := by omega
  have l16 : l ≤ 16 := by omega
  obtain ⟨J, hJ⟩ : ∃ J, a + q * 2 = J + 1 := ⟨a + q * 2 - 1, by omega⟩
  have hq4 : q ≤ 4 := by omega
  have ha16 : a ≤ 16 := by omega
  have hJI : (a : Int) + (q : Int) * 2 = (J : Int) + 1 := by omega
  have HL : Hid (b = a + l) := by
    have : b = a + l := by omega
    exact this
  have hJb : a ≤ J ∧ J + 2 < b := by omega
  have hal := h.lt
  have hX0 := BoxX.mk (w := w.alloc (.cells #[.int .u64 (l : Int)] 165)) (s := w.heap.size) (k := l) (heap_alloc_new w _)
  have hO0 : Only (fun q => q = g) w (w.alloc (.cells #[.int .u64 (l : Int)] 165)) := (Only.refl _ w).alloc _
  have hS0 : SS w (w.alloc (.cells #[.int .u64 (l : Int)] 165)) g t cap d := ⟨h.only ((Only.refl (fun q => q = w.heap.size) w).alloc _) (by omega), hO0⟩
  obtain ⟨w1, hw1⟩ : ∃ w1, w.alloc (.cells #[.int .u64 (l : Int)] 165) = w1 := ⟨_, rfl⟩
  obtain ⟨s, hs⟩ : ∃ s, w.heap.size = s := ⟨_, rfl⟩
  rw [hw1] at hX0 hO0 hS0
  rw [hs] at hX0 hal
  have z1 : IntKind.i64.wrap ((b : Int) - (a : Int)) = (l : Int) := by rw [IntKind.wrap_i64]; omega
  have z1b : (b : Int) - (a : Int) = (l : Int) := by omega
  have z2 : (l : Int).tdiv 4 = (q : Int) := by rw [← hq]; rfl
  have z3 : IntKind.u64.wrap (l : Int) = (l : Int) := by rw [IntKind.wrap_u64]; omega
  have HW1 := Lib.hid hw1
  have HS := Lib.hid hs
  have HX := Lib.hid hX0
  have HO := Lib.hid hS0
  have HN := Lib.hid hn
  have HJ := Lib.hid hJ
  have HJB := Lib.hid hJb
  rw [hn] at hb h16 ⊢
  clear hX0 hO0 hS0 hw1 hs hn hJ hl hq h hJb
  have l8 : 8 ≤ (l : Int) := by omega
  go_enter Tryz.func113, Tryz.ntmps113
  go_wp2_with fail
  rw [HW1.out, HS.out]
  go_at_call 126
  refine (two_any _ l13 l16).mono ?_
  rintro e w2 ⟨M, rfl, hM1, hM2, rfl⟩
  obtain ⟨M1, hMM⟩ : ∃ M1, M = M1 + 1 := ⟨M - 1, by omega⟩
  have zM : IntKind.u64.wrap ((M : Int) - 1) = (M1 : Int) := by rw [IntKind.wrap_u64]; omega
  have hM31 : M1 ≤ 31 := by omega
  have hMl : M1 < 2 * l := by omega
  clear hM1 hM2 hMM
  go_wp2_with fail
  go_loopw [9] (fun vi wr => ∃ (i z : Nat) (dk : Array Nat), vi = .int .i64 (i : Int) ∧ J ≤ i ∧ i ≤ J + 3 ∧ z < 18446744073709551616 ∧ Hid (dk.size = n) ∧ Hid (SS w wr g t cap dk) ∧ Hid (BoxX wr s z) ∧ Hid (PermIn a b d dk)) (fun vi _ => J + 3 - (intOf vi).toNat)
  case atStart => exact ⟨J, l, d, rfl, Nat.le_refl _, by omega, by omega, HN, HO, HX, Lib.hid (permIn_refl _ _ _)⟩
  case round =>
    obtain ⟨i, z, dk, rfl, hi0, hi1, hz, HK, HSk, HXk, HP⟩ := hrel
    by_cases hlt : i ≤ J + 2
    · have hle : (i : Int) ≤ (J : Int) + 1 + 1 := by omega
      go_wp2_with fail
      go_at_call 127
      refine (next_any HXk.out hz).mono ?_
      rintro e w3 ⟨z3, rfl, hz3, hX3, hO3⟩
      obtain ⟨o, ho, hoM⟩ := and_some z3 M1 hz3 hM31
      have hS3 : SS w w3 g t cap dk := ⟨HSk.out.row.only hO3 (by omega), HSk.out.only.trans' hO3 fun q hq => .inr (by have := HS.out; omega)⟩
      have HO3 := Lib.hid hS3
      have HX3 := Lib.hid hX3
      have zo : IntKind.i64.wrap (o : Int) = (o : Int) := by rw [IntKind.wrap_i64]; omega
      clear hX3 hO3 hS3 hz
      by_cases hol : l ≤ o
      · have hol' : (l : Int) ≤ (o : Int) := by omega
        obtain ⟨y, hy⟩ : ∃ y, o = l + y := ⟨o - l, by omega⟩
        have zy : (o : Int) - (l : Int) = (y : Int) := by omega
        obtain ⟨A1, hA1⟩ : ∃ A1, A1 = a + y := ⟨_, rfl⟩
        have zA : (a : Int) + (y : Int) = (A1 : Int) := by omega
        have hAl : a ≤ A1 := by omega
        have hJBo := HJB.out
        have hAb : A1 < b := by have := HL.out; omega
        have hiB : a ≤ i ∧ i < b := by omega
        clear hy hA1 hol hJBo
        obtain ⟨x, hx⟩ : ∃ x, dk[i]! = x := ⟨_, rfl⟩
        have c1 : w3.cell? ⟨g, i, none⟩ = some (.int .u64 (x : Int)) := by rw [← hx]; exact HO3.out.row.cell (by rw [HK.out]; omega)
        have hgl := HO3.out.row.lt
        have f1 := HO3.out.row.free i
        have i1 : (i : Int) < (n : Int) := by omega
        have A11 : (A1 : Int) < (n : Int) := by omega
        have A12 : (0 : Int) ≤ (A1 : Int) := by omega
        by_cases hiA : A1 = i
        · have HX1 := Lib.hid hx
          have HAI := Lib.hid hiA
          subst hiA
          have c3 : ∀ q v, ((w3.drewN q).setCell ⟨g, A1, none⟩ v).cell? ⟨g, A1, none⟩ = some v := fun q v => by
            obtain ⟨cs, k1, k2, k3, k4⟩ := HO3.out.row
            have k1' : (w3.drewN q).heap[g]? = some (.cells cs t (0, 0)) := k1
            rw [cell_at (set_at k1' v), Array.getElem?_setIfInBounds_self_of_lt (by rw [k2]; have := HK.out; omega)]
          have f3 := fun q v => HO3.out.row.free_set A1 A1 q v
          clear hx
          go_wp2_with fail
          go_region
          all_goals go_wp2
          go_roundw
          case rel =>
            refine ⟨A1 + 1, z3, swp dk A1 A1, by go_num, by omega, by omega, hz3, Lib.hid (by rw [swp_size]; exact HK.out), ?_, Lib.hid ⟨HX3.out.blk_other (by omega)⟩, Lib.hid (permIn_trans _ _ _ _ _ HP.out (swp_permIn _ _ _ _ _ (by omega) (by omega) (by omega) (by omega) (by rw [HK.out]; omega)))⟩
            have h1 := (HO3.out.drewN 1).swp (i := A1) (j := A1) (by rw [HK.out]; omega) (by rw [HK.out]; omega)
            rw [HX1.out] at h1
            exact Lib.hid h1
          case measure => simp [intOf]; omega
        · obtain ⟨x2, hx2⟩ : ∃ x, dk[A1]! = x := ⟨_, rfl⟩
          have c2 : w3.cell? ⟨g, A1, none⟩ = some (.int .u64 (x2 : Int)) := by rw [← hx2]; exact HO3.out.row.cell (by rw [HK.out]; omega)
          have c3 : ∀ q v, ((w3.drewN q).setCell ⟨g, i, none⟩ v).cell? ⟨g, A1, none⟩ = some (.int .u64 (x2 : Int)) := fun q v => by rw [← hx2]; exact HO3.out.row.cell_set (by rw [HK.out]; omega) hiA q v
          have f2 := HO3.out.row.free A1
          have f3 := fun q v => HO3.out.row.free_set A1 i q v
          have HX1 := Lib.hid hx
          have HX2 := Lib.hid hx2
          clear hx hx2
          go_wp2_with fail
          go_region
          all_goals go_wp2
          go_roundw
          case rel =>
            refine ⟨i + 1, z3, swp dk i A1, by go_num, by omega, by omega, hz3, Lib.hid (by rw [swp_size]; exact HK.out), ?_, Lib.hid ⟨HX3.out.blk_other (by omega)⟩, Lib.hid (permIn_trans _ _ _ _ _ HP.out (swp_permIn _ _ _ _ _ (by omega) (by omega) (by omega) (by omega) (by rw [HK.out]; omega)))⟩
            have h1 := (HO3.out.drewN 1).swp (i := i) (j := A1) (by rw [HK.out]; omega) (by rw [HK.out]; omega)
            rw [HX1.out, HX2.out] at h1
            exact Lib.hid h1
          case measure => simp [intOf]; omega
      · have hol' : ¬ (l : Int) ≤ (o : Int) := by omega
        obtain ⟨A1, hA1⟩ : ∃ A1, A1 = a + o := ⟨_, rfl⟩
        have zA : (a : Int) + (o : Int) = (A1 : Int) := by omega
        have hAl : a ≤ A1 := by omega
        have hJBo := HJB.out
        have hAb : A1 < b := by have := HL.out; omega
        have hiB : a ≤ i ∧ i < b := by omega
        clear hA1 hJBo
        obtain ⟨x, hx⟩ : ∃ x, dk[i]! = x := ⟨_, rfl⟩
        have c1 : w3.cell? ⟨g, i, none⟩ = some (.int .u64 (x : Int)) := by rw [← hx]; exact HO3.out.row.cell (by rw [HK.out]; omega)
        have hgl := HO3.out.row.lt
        have f1 := HO3.out.row.free i
        have i1 : (i : Int) < (n : Int) := by omega
        have A11 : (A1 : Int) < (n : Int) := by omega
        have A12 : (0 : Int) ≤ (A1 : Int) := by omega
        by_cases hiA : A1 = i
        · have HX1 := Lib.hid hx
          have HAI := Lib.hid hiA
          subst hiA
          have c3 : ∀ q v, ((w3.drewN q).setCell ⟨g, A1, none⟩ v).cell? ⟨g, A1, none⟩ = some v := fun q v => by
            obtain ⟨cs, k1, k2, k3, k4⟩ := HO3.out.row
            have k1' : (w3.drewN q).heap[g]? = some (.cells cs t (0, 0)) := k1
            rw [cell_at (set_at k1' v), Array.getElem?_setIfInBounds_self_of_lt (by rw [k2]; have := HK.out; omega)]
          have f3 := fun q v => HO3.out.row.free_set A1 A1 q v
          clear hx
          go_wp2_with fail
          go_region
          all_goals go_wp2
          go_roundw
          case rel =>
            refine ⟨A1 + 1, z3, swp dk A1 A1, by go_num, by omega, by omega, hz3, Lib.hid (by rw [swp_size]; exact HK.out), ?_, Lib.hid ⟨HX3.out.blk_other (by omega)⟩, Lib.hid (permIn_trans _ _ _ _ _ HP.out (swp_permIn _ _ _ _ _ (by omega) (by omega) (by omega) (by omega) (by rw [HK.out]; omega)))⟩
            have h1 := (HO3.out.drewN 1).swp (i := A1) (j := A1) (by rw [HK.out]; omega) (by rw [HK.out]; omega)
            rw [HX1.out] at h1
            exact Lib.hid h1
          case measure => simp [intOf]; omega
        · obtain ⟨x2, hx2⟩ : ∃ x, dk[A1]! = x := ⟨_, rfl⟩
          have c2 : w3.cell? ⟨g, A1, none⟩ = some (.int .u64 (x2 : Int)) := by rw [← hx2]; exact HO3.out.row.cell (by rw [HK.out]; omega)
          have c3 : ∀ q v, ((w3.drewN q).setCell ⟨g, i, none⟩ v).cell? ⟨g, A1, none⟩ = some (.int .u64 (x2 : Int)) := fun q v => by rw [← hx2]; exact HO3.out.row.cell_set (by rw [HK.out]; omega) hiA q v
          have f2 := HO3.out.row.free A1
          have f3 := fun q v => HO3.out.row.free_set A1 i q v
          have HX1 := Lib.hid hx
          have HX2 := Lib.hid hx2
          clear hx hx2
          go_wp2_with fail
          go_region
          all_goals go_wp2
          go_roundw
          case rel =>
            refine ⟨i + 1, z3, swp dk i A1, by go_num, by omega, by omega, hz3, Lib.hid (by rw [swp_size]; exact HK.out), ?_, Lib.hid ⟨HX3.out.blk_other (by omega)⟩, Lib.hid (permIn_trans _ _ _ _ _ HP.out (swp_permIn _ _ _ _ _ (by omega) (by omega) (by omega) (by omega) (by rw [HK.out]; omega)))⟩
            have h1 := (HO3.out.drewN 1).swp (i := i) (j := A1) (by rw [HK.out]; omega) (by rw [HK.out]; omega)
            rw [HX1.out, HX2.out] at h1
            exact Lib.hid h1
          case measure => simp [intOf]; omega
    · have hle : ¬ (i : Int) ≤ (J : Int) + 1 + 1 := by omega
      go_wp2
      go_end0
      exact ⟨rfl, dk, HSk.out, HP.out⟩
end
end Go.Proofs.YthaepkpmpnofgaaGreat.SrtD
set_option linter.unusedVariables false
set_option linter.unusedSimpArgs false
namespace Go.Proofs.YthaepkpmpnofgaaGreat.SrtE
open Go.RowKit Go.Sort Go.Proofs.YthaepkpmpnofgaaGreat.Kit Go.Proofs.YthaepkpmpnofgaaGreat.Blocks Go.Proofs.YthaepkpmpnofgaaGreat.SrtA

theorem up_go {p : Nat → Bool} {d : Array Nat} {j i : Nat} (h : i ≤ j) (hp : p d[i]! = true) : scanUp p d j i = scanUp p d j (i + 1) := by
  rw [scanUp, if_pos (by simp [h, hp])]
theorem up_end {p : Nat → Bool} {d : Array Nat} {j i : Nat} (h : j < i ∨ p d[i]! = false) : scanUp p d j i = i := by
  rw [scanUp, if_neg]
  simp only [Bool.and_eq_true, decide_eq_true_eq, not_and, Bool.not_eq_true]
  intro h1
  rcases h with h | h
  · omega
  · exact h
theorem down_go {p : Nat → Bool} {d : Array Nat} {i j : Nat} (h : i ≤ j + 1) (hp : p d[j + 1]! = true) : scanDown p d i (j + 1) = scanDown p d i j := by
  rw [scanDown, if_pos (by simp [h, hp])]
theorem down_end {p : Nat → Bool} {d : Array Nat} {i j : Nat} (h0 : 0 < i) (h : j < i ∨ p d[j]! = false) : scanDown p d i j = j := by
  cases j with
  | zero => rfl
  | succ j =>
    rw [scanDown, if_neg]
    simp only [Bool.and_eq_true, decide_eq_true_eq, not_and, Bool.not_eq_true]
    intro h1
    rcases h with h | h
    · omega
    · exact h
/-- What the two scans come to. -/
def upT (d : Array Nat) (a j i : Nat) : Nat := scanUp (fun x => ltN x d[a]!) d j i
def dnT (d : Array Nat) (a i j : Nat) : Nat := scanDown (fun x => !ltN x d[a]!) d i j
theorem loop_end {a i j : Nat} {d : Array Nat} (h : upT d a j i > dnT d a (upT d a j i) j) : partLoop ltN a i j d = (dnT d a (upT d a j i) j, d) := by
  rw [partLoop_eq]
  unfold upT dnT at h
  unfold upT dnT
  rw [if_pos h]
theorem loop_go {a i j : Nat} {d : Array Nat} (h : ¬ upT d a j i > dnT d a (upT d a j i) j) : partLoop ltN a i j d = partLoop ltN a (upT d a j i + 1) (dnT d a (upT d a j i) j - 1) (swp d (upT d a j i) (dnT d a (upT d a j i) j)) := by
  rw [partLoop_eq]
  unfold upT dnT at h
  unfold upT dnT
  rw [if_neg h]
section
variable {w w' w0 : World} {g cap c n : Nat} {t : TypeId} {d : Array Nat}
set_option maxRecDepth 100000 in
set_option maxHeartbeats 8000000 in
theorem part_any (h : SR w g t cap d) {a b p : Nat} (hap : a ≤ p) (hpb : p < b) (hab : a + 1 < b) (hb : b ≤ d.size) (h16 : d.size ≤ 16) :
    Calls Tryz.prog 119 #[.slice (some ⟨g, 0, none⟩) d.size c, .int .i64 (a : Int), .int .i64 (b : Int), .int .i64 (p : Int)] w fun e w' =>
      ∃ (x : Nat) (y : Bool), e = .returned (.tuple #[.int .i64 (x : Int), .bool y]) ∧ x = (partition ltN d a b p).1 ∧ SS w w' g t cap (partition ltN d a b p).2.2 := by
  rw [partition_fst, partition_arr]
  obtain ⟨n, hn⟩ : ∃ n, d.size = n := ⟨_, rfl⟩
  obtain ⟨d1, hd1⟩ : ∃ d1, swp d a p = d1 := ⟨_, rfl⟩
  rw [hd1]
  obtain ⟨m1, hm1⟩ : ∃ m1, b = m1 + 1 := ⟨b - 1, by omega⟩
  obtain ⟨s1, hs1⟩ : ∃ s1, s1 = a + 1 := ⟨_, rfl⟩
  have zb : (b : Int) - 1 = (m1 : Int) := by omega
  have zs : (a : Int) + 1 = (s1 : Int) := by omega
  obtain ⟨R, hR⟩ : ∃ R, partLoop ltN a (a + 1) (b - 1) d1 = R := ⟨_, rfl⟩
  rw [hR]
  have HR : Hid (partLoop ltN a s1 m1 d1 = R) := by
    have : partLoop ltN a s1 m1 d1 = R := by rw [← hR, hs1, hm1]; rfl
    exact this
  clear hR hs1 hm1
  obtain ⟨x, hx⟩ : ∃ x, d[a]! = x := ⟨_, rfl⟩
  obtain ⟨y, hy⟩ : ∃ y, d[p]! = y := ⟨_, rfl⟩
  have c1 : w.cell? ⟨g, a, none⟩ = some (.int .u64 (x : Int)) := by rw [← hx]; exact h.cell (by omega)
  have c2 : w.cell? ⟨g, p, none⟩ = some (.int .u64 (y : Int)) := by rw [← hy]; exact h.cell (by omega)
  have c3 := fun v => h.cell_over0 (i := a) (j := p) (x := y) (by omega) hy v
  have f1 := h.free a
  have f2 := h.free p
  have f3 := fun v => h.free_set0 p a v
  have hgl := h.lt
  have HS0 : Hid (SS w (((w.setCell ⟨g, a, none⟩ (.int .u64 (y : Int))).setCell ⟨g, p, none⟩ (.int .u64 (x : Int))).drew) g t cap d1) := by
    have h1 := ((SS.mk (w0 := w) h (Only.refl _ w)).swp (i := a) (j := p) (by omega) (by omega)).drew
    rw [hx, hy, hd1] at h1
    exact h1
  obtain ⟨v, hv⟩ : ∃ v, d1[a]! = v := ⟨_, rfl⟩
  have HV := Lib.hid hv
  have HN : Hid (d1.size = n) := by
    have : d1.size = n := by rw [← hd1, swp_size, hn]
    exact this
  rw [hn] at hb h16 ⊢
  have p1 : (p : Int) < (n : Int) := by omega
  have a1 : (a : Int) < (n : Int) := by omega
  clear h hx hy hv hd1 hn
  go_enter Tryz.func119, Tryz.ntmps119
  go_wp2_with fail
  go_region
  obtain ⟨w1, hw1⟩ : ∃ w1, (((w.setCell ⟨g, a, none⟩ (.int .u64 (y : Int))).setCell ⟨g, p, none⟩ (.int .u64 (x : Int))).drew) = w1 := ⟨_, rfl⟩
  rw [hw1] at HS0
  try rw [hw1]
  clear c1 c2 c3 f1 f2 f3 hgl hw1
  go_upto_block 0 with fail
  go_cut [10] from 30 to 45 (fun s wx => ∃ i : Nat, s = .int .i64 (i : Int) ∧ a < i ∧ i ≤ b ∧ Hid (upT d1 a m1 s1 = i) ∧ Hid (SS w wx g t cap d1))
  case first =>
    go_wp2_with fail
    go_loopw [10] (fun vi wr => ∃ i : Nat, vi = .int .i64 (i : Int) ∧ a < i ∧ i ≤ b ∧ Hid (upT d1 a m1 i = upT d1 a m1 s1) ∧ Hid (SS w wr g t cap d1)) (fun vi _ => b + 1 - (intOf vi).toNat)
    case atStart => exact ⟨s1, by first | rfl | go_num, by omega, by omega, Lib.hid rfl, HS0⟩
    case round =>
      obtain ⟨i, rfl, hi0, hi1, HU, HSi⟩ := hrel
      by_cases hij : i ≤ m1
      · obtain ⟨x, hx⟩ : ∃ x, d1[i]! = x := ⟨_, rfl⟩
        have c1 : wr.cell? ⟨g, i, none⟩ = some (.int .u64 (x : Int)) := by rw [← hx]; exact HSi.out.row.cell (by rw [HN.out]; omega)
        have c2 : wr.cell? ⟨g, a, none⟩ = some (.int .u64 (v : Int)) := by rw [← HV.out]; exact HSi.out.row.cell (by rw [HN.out]; omega)
        have hgl := HSi.out.row.lt
        have hda : decide ((i : Int) ≤ (m1 : Int)) = true := decide_eq_true (by omega)
        have j1 : (i : Int) < (n : Int) := by omega
        obtain ⟨l, hl⟩ : ∃ l, ltN x v = l := ⟨_, rfl⟩
        have HC : Hid (∀ W, Calls Tryz.prog 117 #[.int .u64 (x : Int), .int .u64 (v : Int)] W fun e w' => e = .returned (.bool l) ∧ w' = W) := fun W => by rw [← hl]; exact less_any x v W
        have HLL : Hid (ltN d1[i]! d1[a]! = l) := by
          have : ltN d1[i]! d1[a]! = l := by rw [hx, HV.out]; exact hl
          exact this
        clear hx hl
        go_wp2_with fail
        cases l with
        | true =>
          go_quiet (first | (go_at_call 117; exact Calls.quiet_of_same (HC.out _)))
          go_wp2
          go_roundw
          case rel => exact ⟨i + 1, by go_num, by omega, by omega, Lib.hid ((up_go (p := fun x => ltN x d1[a]!) hij HLL.out).symm.trans HU.out), Lib.hid (HSi.out.drewN _)⟩
          case measure => simp [intOf]; omega
        | false =>
          go_quiet (first | (go_at_call 117; exact Calls.quiet_of_same (HC.out _)))
          go_wp2
          go_meet
          exact ⟨i, rfl, hi0, hi1, Lib.hid (HU.out.symm.trans (up_end (p := fun x => ltN x d1[a]!) (.inr HLL.out))), Lib.hid (HSi.out.drewN _)⟩
      · have hda : decide ((i : Int) ≤ (m1 : Int)) = false := decide_eq_false (by omega)
        go_wp2_with fail
        go_quiet (fail)
        go_wp2
        go_meet
        exact ⟨i, rfl, hi0, hi1, Lib.hid (HU.out.symm.trans (up_end (p := fun x => ltN x d1[a]!) (.inl (by omega)))), Lib.hid (HSi.out.drewN _)⟩
  case rest =>
    obtain ⟨i1, rfl, hi0, hi1, HI, HSa⟩ := hcut
    clear HS0
    go_upto_block 2 with fail
    go_cut [11] from 46 to 62 (fun s wx => ∃ j : Nat, s = .int .i64 (j : Int) ∧ a ≤ j ∧ j < b ∧ Hid (dnT d1 a i1 m1 = j) ∧ Hid (SS w wx g t cap d1))
    case first =>
      go_wp2_with fail
      go_loopw [11] (fun vi wr => ∃ j : Nat, vi = .int .i64 (j : Int) ∧ a ≤ j ∧ j < b ∧ Hid (dnT d1 a i1 j = dnT d1 a i1 m1) ∧ Hid (SS w wr g t cap d1)) (fun vi _ => (intOf vi).toNat)
      case atStart => exact ⟨m1, rfl, by omega, by omega, Lib.hid rfl, HSa⟩
      case round =>
        obtain ⟨j, rfl, hj0, hj1, HU, HSi⟩ := hrel
        by_cases hij : i1 ≤ j
        · obtain ⟨x, hx⟩ : ∃ x, d1[j]! = x := ⟨_, rfl⟩
          have c1 : wr.cell? ⟨g, j, none⟩ = some (.int .u64 (x : Int)) := by rw [← hx]; exact HSi.out.row.cell (by rw [HN.out]; omega)
          have c2 : wr.cell? ⟨g, a, none⟩ = some (.int .u64 (v : Int)) := by rw [← HV.out]; exact HSi.out.row.cell (by rw [HN.out]; omega)
          have hgl := HSi.out.row.lt
          have hda : decide ((i1 : Int) ≤ (j : Int)) = true := decide_eq_true (by omega)
          have j1 : (j : Int) < (n : Int) := by omega
          obtain ⟨m, hm⟩ : ∃ m, j = m + 1 := ⟨j - 1, by omega⟩
          obtain ⟨l, hl⟩ : ∃ l, ltN x v = l := ⟨_, rfl⟩
          have HC : Hid (∀ W, Calls Tryz.prog 117 #[.int .u64 (x : Int), .int .u64 (v : Int)] W fun e w' => e = .returned (.bool l) ∧ w' = W) := fun W => by rw [← hl]; exact less_any x v W
          have HLL : Hid (ltN d1[j]! d1[a]! = l) := by
            have : ltN d1[j]! d1[a]! = l := by rw [hx, HV.out]; exact hl
            exact this
          have HM := Lib.hid hm
          clear hx hl hm
          go_wp2_with fail
          cases l with
          | false =>
            go_quiet (first | (go_at_call 117; exact Calls.quiet_of_same (HC.out _)))
            go_wp2
            go_roundw
            case rel =>
              have hm := HM.out
              have h1 := HLL.out
              have h2 := HU.out
              subst hm
              exact ⟨m, by congr 1; omega, by omega, by omega, Lib.hid ((down_go (p := fun x => !ltN x d1[a]!) hij (by rw [h1]; rfl)).symm.trans h2), Lib.hid (HSi.out.drewN _)⟩
            case measure => have hm := HM.out; simp [intOf]; omega
          | true =>
            go_quiet (first | (go_at_call 117; exact Calls.quiet_of_same (HC.out _)))
            go_wp2
            go_meet
            exact ⟨j, rfl, hj0, hj1, Lib.hid (HU.out.symm.trans (down_end (p := fun x => !ltN x d1[a]!) (by omega) (.inr (by rw [HLL.out]; rfl)))), Lib.hid (HSi.out.drewN _)⟩
        · have hda : decide ((i1 : Int) ≤ (j : Int)) = false := decide_eq_false (by omega)
          go_wp2_with fail
          go_quiet (fail)
          go_wp2
          go_meet
          exact ⟨j, rfl, hj0, hj1, Lib.hid (HU.out.symm.trans (down_end (p := fun x => !ltN x d1[a]!) (by omega) (.inl (by omega)))), Lib.hid (HSi.out.drewN _)⟩
    case rest =>
      obtain ⟨j1, rfl, hj0, hj1, HJ, HSb⟩ := hcut
      clear HSa
      have hIJ : Hid (dnT d1 a (upT d1 a m1 s1) m1 = j1) := by
        have : dnT d1 a (upT d1 a m1 s1) m1 = j1 := by rw [HI.out]; exact HJ.out
        exact this
      by_cases hgt : j1 < i1
      · have hgt' : (j1 : Int) < (i1 : Int) := by omega
        have hR : R = (j1, d1) := by
          rw [← HR.out, loop_end (by rw [hIJ.out, HI.out]; exact hgt), hIJ.out]
        have hRR := Lib.hid hR
        clear hR
        obtain ⟨x, hx⟩ : ∃ x, d1[j1]! = x := ⟨_, rfl⟩
        obtain ⟨y, hy⟩ : ∃ y, d1[a]! = y := ⟨_, rfl⟩
        have c1 : wc.cell? ⟨g, j1, none⟩ = some (.int .u64 (x : Int)) := by rw [← hx]; exact HSb.out.row.cell (by rw [HN.out]; omega)
        have c2 : wc.cell? ⟨g, a, none⟩ = some (.int .u64 (y : Int)) := by rw [← hy]; exact HSb.out.row.cell (by rw [HN.out]; omega)
        have c3 := fun v => HSb.out.row.cell_over0 (i := j1) (j := a) (x := y) (by rw [HN.out]; omega) hy v
        have f1 := HSb.out.row.free j1
        have f2 := HSb.out.row.free a
        have f3 := fun v => HSb.out.row.free_set0 a j1 v
        have hgl := HSb.out.row.lt
        have in1 : (j1 : Int) < (n : Int) := by omega
        have jn1 : (a : Int) < (n : Int) := by omega
        have HT1 : Hid (SS w ((wc.setCell ⟨g, j1, none⟩ (.int .u64 (y : Int))).setCell ⟨g, a, none⟩ (.int .u64 (x : Int))).drew g t cap (swp d1 j1 a)) := by
          have h1 := (HSb.out.swp (i := j1) (j := a) (by rw [HN.out]; omega) (by rw [HN.out]; omega)).drew
          rw [hx, hy] at h1
          exact h1
        clear hx hy
        go_wp2_with fail
        go_region
        go_wp2
        refine bodyPost_ret (results_tmp2 rfl _ _ _) rfl ?_
        exact ⟨j1, true, rfl, by rw [hRR.out], by rw [hRR.out]; exact HT1.out⟩
      · have hgt' : ¬ (j1 : Int) < (i1 : Int) := by omega
        have hR : partLoop ltN a (i1 + 1) (j1 - 1) (swp d1 i1 j1) = R := by
          have e := loop_go (a := a) (i := s1) (j := m1) (d := d1) (by rw [hIJ.out, HI.out]; omega)
          rw [hIJ.out, HI.out] at e
          exact e.symm.trans HR.out
        have HR2 := Lib.hid hR
        clear hR
        obtain ⟨x, hx⟩ : ∃ x, d1[i1]! = x := ⟨_, rfl⟩
        obtain ⟨y, hy⟩ : ∃ y, d1[j1]! = y := ⟨_, rfl⟩
        have c1 : wc.cell? ⟨g, i1, none⟩ = some (.int .u64 (x : Int)) := by rw [← hx]; exact HSb.out.row.cell (by rw [HN.out]; omega)
        have c2 : wc.cell? ⟨g, j1, none⟩ = some (.int .u64 (y : Int)) := by rw [← hy]; exact HSb.out.row.cell (by rw [HN.out]; omega)
        have c3 := fun v => HSb.out.row.cell_over0 (i := i1) (j := j1) (x := y) (by rw [HN.out]; omega) hy v
        have f1 := HSb.out.row.free i1
        have f2 := HSb.out.row.free j1
        have f3 := fun v => HSb.out.row.free_set0 j1 i1 v
        have hgl := HSb.out.row.lt
        have in1 : (i1 : Int) < (n : Int) := by omega
        have jn1 : (j1 : Int) < (n : Int) := by omega
        have HT2 : Hid (SS w ((wc.setCell ⟨g, i1, none⟩ (.int .u64 (y : Int))).setCell ⟨g, j1, none⟩ (.int .u64 (x : Int))).drew g t cap (swp d1 i1 j1)) := by
          have h1 := (HSb.out.swp (i := i1) (j := j1) (by rw [HN.out]; omega) (by rw [HN.out]; omega)).drew
          rw [hx, hy] at h1
          exact h1
        clear hx hy
        have HN2 : Hid ((swp d1 i1 j1).size = n) := by
          have : (swp d1 i1 j1).size = n := by rw [swp_size]; exact HN.out
          exact this
        have HV2 : Hid ((swp d1 i1 j1)[a]! = v) := by
          have : (swp d1 i1 j1)[a]! = v := by rw [swp_other _ _ _ _ (by omega) (by omega)]; exact HV.out
          exact this
        go_wp2_with fail
        go_region
        obtain ⟨w2, hw2⟩ : ∃ w2, ((wc.setCell ⟨g, i1, none⟩ (.int .u64 (y : Int))).setCell ⟨g, j1, none⟩ (.int .u64 (x : Int))).drew = w2 := ⟨_, rfl⟩
        rw [hw2] at HT2
        try rw [hw2]
        clear hw2 c1 c2 c3 f1 f2 f3 hgl
        obtain ⟨i2, hi2⟩ : ∃ i2, i1 + 1 = i2 := ⟨_, rfl⟩
        obtain ⟨j2, hj2⟩ : ∃ j2, j1 - 1 = j2 := ⟨_, rfl⟩
        have zi : (i1 : Int) + 1 = (i2 : Int) := by omega
        have zj : (j1 : Int) - 1 = (j2 : Int) := by omega
        rw [hi2, hj2] at HR2
        clear hi2 hj2
        go_upto_block 4 with fail
        go_wp2_with fail
        go_loopw [10, 11] (fun vi vj wr => ∃ (ii jj : Nat) (dk : Array Nat), vi = .int .i64 (ii : Int) ∧ vj = .int .i64 (jj : Int) ∧ a < ii ∧ ii ≤ b ∧ a ≤ jj ∧ jj < b ∧ Hid (dk.size = n) ∧ Hid (dk[a]! = v) ∧ Hid (SS w wr g t cap dk) ∧ Hid (partLoop ltN a ii jj dk = R)) (fun vi _ _ => b + 1 - (intOf vi).toNat)
        case atStart => exact ⟨i2, j2, _, rfl, rfl, by omega, by omega, by omega, by omega, HN2, HV2, HT2, HR2⟩
        case round =>
          obtain ⟨ii, jj, dk, rfl, rfl, hp1, hp2, hp3, hp4, HK, HVk, HSk, HRk⟩ := hrel
          go_upto_block 6 with fail
          go_cut [10] from 99 to 114 (fun s wx => ∃ i : Nat, s = .int .i64 (i : Int) ∧ a < i ∧ i ≤ b ∧ Hid (upT dk a jj ii = i) ∧ Hid (SS w wx g t cap dk))
          case first =>
            go_wp2_with fail
            go_loopw [10] (fun vi wr => ∃ i : Nat, vi = .int .i64 (i : Int) ∧ a < i ∧ i ≤ b ∧ Hid (upT dk a jj i = upT dk a jj ii) ∧ Hid (SS w wr g t cap dk)) (fun vi _ => b + 1 - (intOf vi).toNat)
            case atStart => exact ⟨ii, by first | rfl | go_num, by omega, by omega, Lib.hid rfl, HSk⟩
            case round =>
              obtain ⟨i, rfl, hi0, hi1, HU, HSi⟩ := hrel
              by_cases hij : i ≤ jj
              · obtain ⟨x, hx⟩ : ∃ x, dk[i]! = x := ⟨_, rfl⟩
                have c1 : wr.cell? ⟨g, i, none⟩ = some (.int .u64 (x : Int)) := by rw [← hx]; exact HSi.out.row.cell (by rw [HK.out]; omega)
                have c2 : wr.cell? ⟨g, a, none⟩ = some (.int .u64 (v : Int)) := by rw [← HVk.out]; exact HSi.out.row.cell (by rw [HK.out]; omega)
                have hgl := HSi.out.row.lt
                have hda : decide ((i : Int) ≤ (jj : Int)) = true := decide_eq_true (by omega)
                have j1 : (i : Int) < (n : Int) := by omega
                obtain ⟨l, hl⟩ : ∃ l, ltN x v = l := ⟨_, rfl⟩
                have HC : Hid (∀ W, Calls Tryz.prog 117 #[.int .u64 (x : Int), .int .u64 (v : Int)] W fun e w' => e = .returned (.bool l) ∧ w' = W) := fun W => by rw [← hl]; exact less_any x v W
                have HLL : Hid (ltN dk[i]! dk[a]! = l) := by
                  have : ltN dk[i]! dk[a]! = l := by rw [hx, HVk.out]; exact hl
                  exact this
                clear hx hl
                go_wp2_with fail
                cases l with
                | true =>
                  go_quiet (first | (go_at_call 117; exact Calls.quiet_of_same (HC.out _)))
                  go_wp2
                  go_roundw
                  case rel => exact ⟨i + 1, by go_num, by omega, by omega, Lib.hid ((up_go (p := fun x => ltN x dk[a]!) hij HLL.out).symm.trans HU.out), Lib.hid (HSi.out.drewN _)⟩
                  case measure => simp [intOf]; omega
                | false =>
                  go_quiet (first | (go_at_call 117; exact Calls.quiet_of_same (HC.out _)))
                  go_wp2
                  go_meet
                  exact ⟨i, rfl, hi0, hi1, Lib.hid (HU.out.symm.trans (up_end (p := fun x => ltN x dk[a]!) (.inr HLL.out))), Lib.hid (HSi.out.drewN _)⟩
              · have hda : decide ((i : Int) ≤ (jj : Int)) = false := decide_eq_false (by omega)
                go_wp2_with fail
                go_quiet (fail)
                go_wp2
                go_meet
                exact ⟨i, rfl, hi0, hi1, Lib.hid (HU.out.symm.trans (up_end (p := fun x => ltN x dk[a]!) (.inl (by omega)))), Lib.hid (HSi.out.drewN _)⟩
          case rest =>
            obtain ⟨i3, rfl, hi30, hi31, HI3, HSa3⟩ := hcut
            clear HSk
            go_upto_block 8 with fail
            go_cut [11] from 115 to 131 (fun s wx => ∃ j : Nat, s = .int .i64 (j : Int) ∧ a ≤ j ∧ j < b ∧ Hid (dnT dk a i3 jj = j) ∧ Hid (SS w wx g t cap dk))
            case first =>
              go_wp2_with fail
              go_loopw [11] (fun vi wr => ∃ j : Nat, vi = .int .i64 (j : Int) ∧ a ≤ j ∧ j < b ∧ Hid (dnT dk a i3 j = dnT dk a i3 jj) ∧ Hid (SS w wr g t cap dk)) (fun vi _ => (intOf vi).toNat)
              case atStart => exact ⟨jj, rfl, by omega, by omega, Lib.hid rfl, HSa3⟩
              case round =>
                obtain ⟨j, rfl, hj0, hj1, HU, HSi⟩ := hrel
                by_cases hij : i3 ≤ j
                · obtain ⟨x, hx⟩ : ∃ x, dk[j]! = x := ⟨_, rfl⟩
                  have c1 : wr.cell? ⟨g, j, none⟩ = some (.int .u64 (x : Int)) := by rw [← hx]; exact HSi.out.row.cell (by rw [HK.out]; omega)
                  have c2 : wr.cell? ⟨g, a, none⟩ = some (.int .u64 (v : Int)) := by rw [← HVk.out]; exact HSi.out.row.cell (by rw [HK.out]; omega)
                  have hgl := HSi.out.row.lt
                  have hda : decide ((i3 : Int) ≤ (j : Int)) = true := decide_eq_true (by omega)
                  have j1 : (j : Int) < (n : Int) := by omega
                  obtain ⟨m, hm⟩ : ∃ m, j = m + 1 := ⟨j - 1, by omega⟩
                  obtain ⟨l, hl⟩ : ∃ l, ltN x v = l := ⟨_, rfl⟩
                  have HC : Hid (∀ W, Calls Tryz.prog 117 #[.int .u64 (x : Int), .int .u64 (v : Int)] W fun e w' => e = .returned (.bool l) ∧ w' = W) := fun W => by rw [← hl]; exact less_any x v W
                  have HLL : Hid (ltN dk[j]! dk[a]! = l) := by
                    have : ltN dk[j]! dk[a]! = l := by rw [hx, HVk.out]; exact hl
                    exact this
                  have HM := Lib.hid hm
                  clear hx hl hm
                  go_wp2_with fail
                  cases l with
                  | false =>
                    go_quiet (first | (go_at_call 117; exact Calls.quiet_of_same (HC.out _)))
                    go_wp2
                    go_roundw
                    case rel =>
                      have hm := HM.out
                      have h1 := HLL.out
                      have h2 := HU.out
                      subst hm
                      exact ⟨m, by congr 1; omega, by omega, by omega, Lib.hid ((down_go (p := fun x => !ltN x dk[a]!) hij (by rw [h1]; rfl)).symm.trans h2), Lib.hid (HSi.out.drewN _)⟩
                    case measure => have hm := HM.out; simp [intOf]; omega
                  | true =>
                    go_quiet (first | (go_at_call 117; exact Calls.quiet_of_same (HC.out _)))
                    go_wp2
                    go_meet
                    exact ⟨j, rfl, hj0, hj1, Lib.hid (HU.out.symm.trans (down_end (p := fun x => !ltN x dk[a]!) (by omega) (.inr (by rw [HLL.out]; rfl)))), Lib.hid (HSi.out.drewN _)⟩
                · have hda : decide ((i3 : Int) ≤ (j : Int)) = false := decide_eq_false (by omega)
                  go_wp2_with fail
                  go_quiet (fail)
                  go_wp2
                  go_meet
                  exact ⟨j, rfl, hj0, hj1, Lib.hid (HU.out.symm.trans (down_end (p := fun x => !ltN x dk[a]!) (by omega) (.inl (by omega)))), Lib.hid (HSi.out.drewN _)⟩
            case rest =>
              obtain ⟨j3, rfl, hj30, hj31, HJ3, HSb3⟩ := hcut
              clear HSa3
              have hIJ3 : Hid (dnT dk a (upT dk a jj ii) jj = j3) := by
                have : dnT dk a (upT dk a jj ii) jj = j3 := by rw [HI3.out]; exact HJ3.out
                exact this
              by_cases hgt3 : j3 < i3
              · have hgt3' : (j3 : Int) < (i3 : Int) := by omega
                have hR : R = (j3, dk) := by
                  rw [← HRk.out, loop_end (by rw [hIJ3.out, HI3.out]; exact hgt3), hIJ3.out]
                have hRR := Lib.hid hR
                clear hR
                obtain ⟨x, hx⟩ : ∃ x, dk[j3]! = x := ⟨_, rfl⟩
                obtain ⟨y, hy⟩ : ∃ y, dk[a]! = y := ⟨_, rfl⟩
                have c1 : wc.cell? ⟨g, j3, none⟩ = some (.int .u64 (x : Int)) := by rw [← hx]; exact HSb3.out.row.cell (by rw [HK.out]; omega)
                have c2 : wc.cell? ⟨g, a, none⟩ = some (.int .u64 (y : Int)) := by rw [← hy]; exact HSb3.out.row.cell (by rw [HK.out]; omega)
                have c3 := fun v => HSb3.out.row.cell_over0 (i := j3) (j := a) (x := y) (by rw [HK.out]; omega) hy v
                have f1 := HSb3.out.row.free j3
                have f2 := HSb3.out.row.free a
                have f3 := fun v => HSb3.out.row.free_set0 a j3 v
                have hgl := HSb3.out.row.lt
                have in1 : (j3 : Int) < (n : Int) := by omega
                have jn1 : (a : Int) < (n : Int) := by omega
                have HT3 : Hid (SS w ((wc.setCell ⟨g, j3, none⟩ (.int .u64 (y : Int))).setCell ⟨g, a, none⟩ (.int .u64 (x : Int))).drew g t cap (swp dk j3 a)) := by
                  have h1 := (HSb3.out.swp (i := j3) (j := a) (by rw [HK.out]; omega) (by rw [HK.out]; omega)).drew
                  rw [hx, hy] at h1
                  exact h1
                clear hx hy
                go_wp2_with fail
                go_region
                go_wp2
                refine bodyPost_ret (results_tmp2 rfl _ _ _) rfl ?_
                exact ⟨j3, false, rfl, by rw [hRR.out], by rw [hRR.out]; exact HT3.out⟩
              · have hgt3' : ¬ (j3 : Int) < (i3 : Int) := by omega
                have hR : partLoop ltN a (i3 + 1) (j3 - 1) (swp dk i3 j3) = R := by
                  have e := loop_go (a := a) (i := ii) (j := jj) (d := dk) (by rw [hIJ3.out, HI3.out]; omega)
                  rw [hIJ3.out, HI3.out] at e
                  exact e.symm.trans HRk.out
                have HR4 := Lib.hid hR
                clear hR
                obtain ⟨x, hx⟩ : ∃ x, dk[i3]! = x := ⟨_, rfl⟩
                obtain ⟨y, hy⟩ : ∃ y, dk[j3]! = y := ⟨_, rfl⟩
                have c1 : wc.cell? ⟨g, i3, none⟩ = some (.int .u64 (x : Int)) := by rw [← hx]; exact HSb3.out.row.cell (by rw [HK.out]; omega)
                have c2 : wc.cell? ⟨g, j3, none⟩ = some (.int .u64 (y : Int)) := by rw [← hy]; exact HSb3.out.row.cell (by rw [HK.out]; omega)
                have c3 := fun v => HSb3.out.row.cell_over0 (i := i3) (j := j3) (x := y) (by rw [HK.out]; omega) hy v
                have f1 := HSb3.out.row.free i3
                have f2 := HSb3.out.row.free j3
                have f3 := fun v => HSb3.out.row.free_set0 j3 i3 v
                have hgl := HSb3.out.row.lt
                have in1 : (i3 : Int) < (n : Int) := by omega
                have jn1 : (j3 : Int) < (n : Int) := by omega
                have HT4 : Hid (SS w ((wc.setCell ⟨g, i3, none⟩ (.int .u64 (y : Int))).setCell ⟨g, j3, none⟩ (.int .u64 (x : Int))).drew g t cap (swp dk i3 j3)) := by
                  have h1 := (HSb3.out.swp (i := i3) (j := j3) (by rw [HK.out]; omega) (by rw [HK.out]; omega)).drew
                  rw [hx, hy] at h1
                  exact h1
                clear hx hy
                have HLE : Hid (ii ≤ i3) := by
                  have : ii ≤ i3 := by rw [← HI3.out]; exact scanUp_ge _ _ _ _
                  exact this
                go_wp2_with fail
                go_region
                obtain ⟨i4, hi4⟩ : ∃ i4, i3 + 1 = i4 := ⟨_, rfl⟩
                obtain ⟨j4, hj4⟩ : ∃ j4, j3 - 1 = j4 := ⟨_, rfl⟩
                have zi4 : (i3 : Int) + 1 = (i4 : Int) := by omega
                have zj4 : (j3 : Int) - 1 = (j4 : Int) := by omega
                rw [hi4, hj4] at HR4
                have H4 : Hid (a < i4 ∧ i4 ≤ b ∧ a ≤ j4 ∧ j4 < b ∧ ii < i4) := by
                  have h1 := HLE.out
                  have : a < i4 ∧ i4 ≤ b ∧ a ≤ j4 ∧ j4 < b ∧ ii < i4 := by omega
                  exact this
                clear hi4 hj4
                go_wp2
                go_roundw
                case rel =>
                  obtain ⟨h1, h2, h3, h4, h5⟩ := H4.out
                  exact ⟨i4, j4, swp dk i3 j3, rfl, rfl, h1, h2, h3, h4, Lib.hid (by rw [swp_size]; exact HK.out), Lib.hid (by rw [swp_other _ _ _ _ (by omega) (by omega)]; exact HVk.out), HT4, HR4⟩
                case measure => have h1 := H4.out; simp [intOf]; omega
end
end Go.Proofs.YthaepkpmpnofgaaGreat.SrtE
set_option linter.unusedVariables false
set_option linter.unusedSimpArgs false
namespace Go.Proofs.YthaepkpmpnofgaaGreat.SrtF
open Go.RowKit Go.Sort Go.Proofs.YthaepkpmpnofgaaGreat.Kit Go.Proofs.YthaepkpmpnofgaaGreat.Blocks Go.Proofs.YthaepkpmpnofgaaGreat.SrtA

/-- All are unlike one another. -/
def Nd (d : Array Nat) : Prop := ∀ i j, i < d.size → j < d.size → d[i]! = d[j]! → i = j
theorem nd_iff (d : Array Nat) : Nd d ↔ d.toList.Nodup := by
  show _ ↔ d.toList.Pairwise (· ≠ ·)
  rw [List.pairwise_iff_getElem]
  constructor
  · intro h i j hi hj hij e
    have hi' : i < d.size := by simpa using hi
    have hj' : j < d.size := by simpa using hj
    have := h i j hi' hj' (by rw [getElem!_pos d i hi', getElem!_pos d j hj']; simpa using e)
    omega
  · intro h i j hi hj e
    rw [getElem!_pos d i hi, getElem!_pos d j hj] at e
    rcases Nat.lt_trichotomy i j with c | c | c
    · exact absurd (show d.toList[i]'(by simpa using hi) = d.toList[j]'(by simpa using hj) by rw [Array.getElem_toList, Array.getElem_toList]; exact e) (h i j (by simpa using hi) (by simpa using hj) c)
    · exact c
    · exact absurd (show d.toList[j]'(by simpa using hj) = d.toList[i]'(by simpa using hi) by rw [Array.getElem_toList, Array.getElem_toList]; exact e.symm) (h j i (by simpa using hj) (by simpa using hi) c)
theorem perm_list {a b : Nat} {d d' : Array Nat} (h : PermIn a b d d') (hb : b ≤ d.size) : d'.toList.Perm d.toList := by
  have h1 := (permIn_mono d d' a b 0 d.size (Nat.zero_le _) hb (Nat.le_refl _) h).2.2
  have e1 : d.extract 0 d.size = d := Array.extract_size
  have e2 : d'.extract 0 d.size = d' := by rw [← h.1]; exact Array.extract_size
  rw [e1, e2] at h1
  exact h1
theorem Nd.perm {a b : Nat} {d d' : Array Nat} (h : Nd d) (hp : PermIn a b d d') (hb : b ≤ d.size) : Nd d' := by
  rw [nd_iff] at h ⊢
  exact (perm_list hp hb).nodup_iff.2 h
/-- What sorting a part will have done. -/
def Then (a b a' b' : Nat) (d dk : Array Nat) : Prop := ∀ d', PermIn a' b' dk d' → SortedIn ltN a' b' d' → PermIn a b d d' ∧ SortedIn ltN a b d'
theorem Then.perm {a b a' b' : Nat} {d dk dl : Array Nat} (h : Then a b a' b' d dk) (hp : PermIn a' b' dk dl) : Then a b a' b' d dl :=
  fun d' h1 h2 => h d' (permIn_trans _ _ _ _ _ hp h1) h2
theorem below_lt {a b : Nat} {d : Array Nat} (h : Below ltN a b d) (hn : Nd d) (h0 : 0 < a) {p : Nat} (h1 : a ≤ p) (h2 : p < b) (hb : b ≤ d.size) : ltN d[a - 1]! d[p]! = true := by
  rcases h with h | h
  · omega
  · have h3 := h p h1 h2
    have h4 : d[a - 1]! ≠ d[p]! := fun e => by have := hn (a - 1) p (by omega) (by omega) e; omega
    simp only [ltN, decide_eq_false_iff_not, decide_eq_true_eq] at *
    omega
section
variable {w w' w0 : World} {g cap c n : Nat} {t : TypeId}
set_option maxRecDepth 100000 in
set_option maxHeartbeats 8000000 in
theorem pdq_any (hn16 : n ≤ 16) : ∀ (N : Nat) {w : World} {d : Array Nat} {A : Option Addr} {a b lim : Nat}, b - a ≤ N → d.size = n → (n ≤ 1 ∨ A = some ⟨g, 0, none⟩) → SR w g t cap d → a ≤ b → b ≤ n → lim ≤ 100 → (b - a ≤ 12 ∨ b - a ≤ lim + 11) → Below ltN a b d → Nd d →
    Calls Tryz.prog 88 #[.slice A n c, .int .i64 (a : Int), .int .i64 (b : Int), .int .i64 (lim : Int)] w fun e w' => e = .returned (.tuple #[]) ∧ ∃ d', SS w w' g t cap d' ∧ PermIn a b d d' ∧ SortedIn ltN a b d' := by
  intro N
  induction N using Nat.strongRecOn with
  | _ N IH =>
  intro w d A a b lim hN hn hA h hab hb hl100 hlim hbel hnd
  have HIH := Lib.hid IH
  have HD : Hid (d.size = n ∧ SS w w g t cap d ∧ Below ltN a b d ∧ Nd d ∧ Then a b a b d d) := ⟨hn, ⟨h, Only.refl _ _⟩, hbel, hnd, fun d' h1 h2 => ⟨h1, h2⟩⟩
  clear IH h hbel hnd hn
  go_enter Tryz.func88, Tryz.ntmps88
  go_wp2_with fail
  go_loopw [1, 2, 3, 8, 9] (fun va vb vl v8 v9 wr => ∃ (a' b' l' : Nat) (wb wp : Bool) (dk : Array Nat), va = .int .i64 (a' : Int) ∧ vb = .int .i64 (b' : Int) ∧ vl = .int .i64 (l' : Int) ∧ v8 = .bool wb ∧ v9 = .bool wp ∧ a ≤ a' ∧ a' ≤ b' ∧ b' ≤ b ∧ l' ≤ 100 ∧ (b' - a' ≤ 12 ∨ b' - a' ≤ l' + 11) ∧ Hid (dk.size = n ∧ SS w wr g t cap dk ∧ Below ltN a' b' dk ∧ Nd dk ∧ Then a b a' b' d dk)) (fun va vb _ _ _ _ => (intOf vb).toNat - (intOf va).toNat)
  case atStart => exact ⟨a, b, lim, true, true, d, rfl, rfl, rfl, rfl, rfl, Nat.le_refl _, hab, Nat.le_refl _, hl100, hlim, HD⟩
  case round =>
    obtain ⟨a', b', l', wb, wp, dk, rfl, rfl, rfl, rfl, rfl, q1, q2, q3, q4, q5, HK⟩ := hrel
    obtain ⟨len, hlen⟩ : ∃ len, b' = a' + len := ⟨b' - a', by omega⟩
    have zl : (b' : Int) - (a' : Int) = (len : Int) := by omega
    clear hlen
    by_cases h12 : len ≤ 12
    · have h12' : (len : Int) ≤ 12 := by omega
      go_wp2_with fail
      go_at_call 111
      obtain ⟨k1, k2, k3, k4, k5⟩ := HK.out
      have hi := SrtB.ins_any (c := c) (a := a') (b := b') (A := A) (by rw [k1]; exact hA) k2.row q2 (by omega) (by omega)
      rw [k1] at hi
      refine hi.mono ?_
      rintro e w' ⟨rfl, hs⟩
      obtain ⟨p1, p2⟩ := insertionSort_holds swoN dk a' b' q2 (by omega)
      obtain ⟨f1, f2⟩ := k5 _ p1 p2
      have HF : Hid (∃ d', SS w w' g t cap d' ∧ PermIn a b d d' ∧ SortedIn ltN a b d') := ⟨_, k2.trans hs, f1, f2⟩
      clear k1 k2 k3 k4 k5 hi hs p1 p2 f1 f2
      go_wp2
      (try simp only [Exit.inBlock, Exit.then])
      refine bodyPost_ret (results_none rfl _ _ _) rfl ?_
      exact ⟨rfl, HF.out⟩
    · have h12' : ¬ (len : Int) ≤ 12 := by omega
      obtain rfl : A = some ⟨g, 0, none⟩ := by
        rcases hA with hA | hA
        · omega
        · exact hA
      have hl0 : ¬ (l' : Int) = 0 := by omega
      have hl0' : ((l' : Int) == 0) = false := by simp; omega
      go_upto_if 35 with fail
      have L12 : 12 < len := by omega
      have LL : len ≤ l' + 11 := by omega
      clear hA h12 h12' hl0 hl0' q5
      go_cut [3] from 35 to 41 (fun s wx => ∃ (l2 : Nat) (d2 : Array Nat), s = .int .i64 (l2 : Int) ∧ l2 ≤ 100 ∧ len ≤ l2 + 12 ∧ Hid (d2.size = n ∧ SS w wx g t cap d2 ∧ Below ltN a' b' d2 ∧ Nd d2 ∧ Then a b a' b' d d2))
      case first =>
        cases wb with
        | true =>
          go_wp2_with fail
          go_meet
          exact ⟨l', dk, rfl, q4, by omega, HK⟩
        | false =>
          have zl1 : (l' : Int) - 1 = ((l' - 1 : Nat) : Int) := by omega
          obtain ⟨l2, hl2⟩ : ∃ l2, l' - 1 = l2 := ⟨_, rfl⟩
          rw [hl2] at zl1
          have hl3 : l2 ≤ 100 ∧ len ≤ l2 + 12 := by omega
          clear hl2
          go_wp2_with fail
          go_at_call 113
          obtain ⟨k1, k2, k3, k4, k5⟩ := HK.out
          have hi := SrtD.break_any (c := c) (a := a') (b := b') k2.row (by omega) (by omega) (by omega)
          rw [k1] at hi
          refine hi.mono ?_
          rintro e w' ⟨rfl, d2, hs, hp⟩
          have HF : Hid (d2.size = n ∧ SS w w' g t cap d2 ∧ Below ltN a' b' d2 ∧ Nd d2 ∧ Then a b a' b' d d2) := ⟨hp.1.trans k1, k2.trans hs, k3.perm (by omega) hp, k4.perm hp (by omega), k5.perm hp⟩
          clear k1 k2 k3 k4 k5 hi hs hp
          go_wp2_with fail
          go_meet
          exact ⟨l2, d2, rfl, hl3.1, hl3.2, HF⟩
      case rest =>
        obtain ⟨l2, d2, rfl, q6, q7, H2⟩ := hcut
        clear HK HD q4 LL
        go_wp2_with fail
        go_at_call 114
        have hi : Calls Tryz.prog 114 #[.slice (some ⟨g, 0, none⟩) n c, .int .i64 (a' : Int), .int .i64 (b' : Int)] wc fun e w' => ∃ x hint : Nat, e = .returned (.tuple #[.int .i64 (x : Int), .int .i64 (hint : Int)]) ∧ a' ≤ x ∧ x < b' ∧ hint ≤ 1 ∧ SS wc w' g t cap d2 := by
          obtain ⟨k1, k2, k3, k4, k5⟩ := H2.out
          have := SrtC.pivot_any (c := c) (a := a') (b := b') k2.row (by omega) (by omega) (by omega)
          rw [k1] at this
          exact this
        refine hi.mono ?_
        rintro e w3 ⟨x, hint, rfl, hx0, hx1, hh, hs3⟩
        have H3 : Hid (d2.size = n ∧ SS w w3 g t cap d2 ∧ Below ltN a' b' d2 ∧ Nd d2 ∧ Then a b a' b' d d2) := by
          obtain ⟨k1, k2, k3, k4, k5⟩ := H2.out
          exact ⟨k1, k2.trans hs3, k3, k4, k5⟩
        clear hi hs3 H2
        have hh2 : ((hint : Int) == 2) = false := by simp; omega
        obtain ⟨hb1, hhb⟩ : ∃ q, ((hint : Int) == 1) = q := ⟨_, rfl⟩
        go_upto_region 15 with fail
        go_cut [68] from 61 to 68 (fun s wx => ∃ q : Bool, s = .bool q ∧ wx = w3)
        case first =>
          cases wb <;> cases wp <;> cases hb1
          all_goals
            go_wp2_with fail
            go_meet
            exact ⟨_, rfl, rfl⟩
        case rest =>
          obtain ⟨q, rfl, rfl⟩ := hcut
          clear hhb
          go_upto_if 68 with fail
          go_cut [8] from 68 to 72 (fun s wx => s = .bool wb ∧ Hid (d2.size = n ∧ SS w wx g t cap d2 ∧ Below ltN a' b' d2 ∧ Nd d2 ∧ Then a b a' b' d d2))
          case first =>
            cases q with
            | false =>
              go_wp2_with fail
              go_meet
              exact ⟨rfl, H3⟩
            | true =>
              go_wp2_with fail
              go_at_call 116
              obtain ⟨k1, k2, k3, k4, k5⟩ := H3.out
              have hi := SrtC.partial_any (c := c) (a := a') (b := b') k2.row (by omega) (by omega) (by omega)
              rw [k1] at hi
              refine hi.mono ?_
              rintro e w4 ⟨r, rfl, hr, hs⟩
              cases r with
              | true =>
                obtain ⟨f1, f2⟩ := k5 _ (permIn_refl _ _ _) (hr rfl)
                have HF : Hid (∃ d', SS w w4 g t cap d' ∧ PermIn a b d d' ∧ SortedIn ltN a b d') := ⟨_, k2.trans hs, f1, f2⟩
                clear k1 k2 k3 k4 k5 hi hs hr f1 f2
                go_wp2
                (try simp only [Exit.inBlock, Exit.then])
                refine bodyPost_ret (results_none rfl _ _ _) rfl ?_
                exact ⟨rfl, HF.out⟩
              | false =>
                have HF : Hid (d2.size = n ∧ SS w w4 g t cap d2 ∧ Below ltN a' b' d2 ∧ Nd d2 ∧ Then a b a' b' d d2) := ⟨k1, k2.trans hs, k3, k4, k5⟩
                clear k1 k2 k3 k4 k5 hi hs hr
                go_wp2_with fail
                go_meet
                exact ⟨rfl, HF⟩
          case rest =>
            obtain ⟨rfl, H4⟩ := hcut
            clear H3
            go_upto_region 17 with fail
            go_cut [87] from 73 to 87 (fun s wx => s = .bool false ∧ Hid (d2.size = n ∧ SS w wx g t cap d2 ∧ Below ltN a' b' d2 ∧ Nd d2 ∧ Then a b a' b' d d2))
            case first =>
              by_cases ha0 : 0 < a'
              · obtain ⟨m, hm⟩ : ∃ m, a' - 1 = m := ⟨_, rfl⟩
                obtain ⟨y, hy⟩ : ∃ y, d2[m]! = y := ⟨_, rfl⟩
                obtain ⟨z, hz⟩ : ∃ z, d2[x]! = z := ⟨_, rfl⟩
                have c1 : wc.cell? ⟨g, m, none⟩ = some (.int .u64 (y : Int)) := by rw [← hy]; exact H4.out.2.1.row.cell (by rw [H4.out.1]; omega)
                have c2 : wc.cell? ⟨g, x, none⟩ = some (.int .u64 (z : Int)) := by rw [← hz]; exact H4.out.2.1.row.cell (by rw [H4.out.1]; omega)
                have hgl := H4.out.2.1.row.lt
                have hda : decide ((a' : Int) > 0) = true := decide_eq_true (by omega)
                have hw : IntKind.i64.wrap ((a' : Int) - 1) = (m : Int) := by rw [IntKind.wrap_i64]; omega
                have m1 : (m : Int) < (n : Int) := by omega
                have x1 : (x : Int) < (n : Int) := by omega
                have HC : Hid (∀ W, Calls Tryz.prog 117 #[.int .u64 (y : Int), .int .u64 (z : Int)] W fun e w' => e = .returned (.bool true) ∧ w' = W) := fun W => by
                  have h1 : ltN y z = true := by
                    rw [← hy, ← hz, ← hm]
                    exact below_lt H4.out.2.2.1 H4.out.2.2.2.1 ha0 hx0 hx1 (by rw [H4.out.1]; omega)
                  have := less_any y z W
                  rw [h1] at this
                  exact this
                clear hy hz hm
                go_wp2_with fail
                go_quiet (first | (go_at_call 117; exact Calls.quiet_of_same (HC.out _)))
                go_wp2_with fail
                go_meet
                obtain ⟨k1, k2, k3, k4, k5⟩ := H4.out
                exact ⟨rfl, Lib.hid ⟨k1, k2.drewN _, k3, k4, k5⟩⟩
              · have hda : decide ((a' : Int) > 0) = false := decide_eq_false (by omega)
                go_wp2_with fail
                go_quiet (fail)
                go_wp2_with fail
                go_meet
                obtain ⟨k1, k2, k3, k4, k5⟩ := H4.out
                exact ⟨rfl, Lib.hid ⟨k1, k2.drewN _, k3, k4, k5⟩⟩
            case rest =>
              obtain ⟨rfl, H5⟩ := hcut
              clear H4
              go_wp2_with fail
              go_at_call 119
              obtain ⟨mid, apx, d4, hx⟩ : ∃ mid apx d4, partition ltN d2 a' b' x = (mid, apx, d4) := ⟨_, _, _, rfl⟩
              obtain ⟨k1, k2, k3, k4, k5⟩ := H5.out
              have hi := SrtE.part_any (c := c) (a := a') (b := b') (p := x) k2.row hx0 hx1 (by omega) (by omega) (by omega)
              rw [k1, hx] at hi
              simp only at hi
              obtain ⟨r1, r2, r3, r4, r5, r6, r7⟩ := round_part swoN (partition_holds ltN) hx0 hx1 (by omega) k3 hx
              have hpm := (partition_holds ltN swoN d2 a' b' x hx0 hx1 (by omega)).2.2.1
              rw [hx] at hpm
              have hnd4 : Nd d4 := k4.perm hpm (by omega)
              refine hi.mono ?_
              rintro e w5 ⟨xx, y, rfl, rfl, hs⟩
              have H6 : Hid (d4.size = n ∧ SS w w5 g t cap d4 ∧ Below ltN a' xx d4 ∧ Below ltN (xx + 1) b' d4 ∧ Nd d4) := ⟨r3.trans k1, k2.trans hs, r4, r5, hnd4⟩
              have HL : Hid (∀ L, PermIn a' xx d4 L → SortedIn ltN a' xx L → Below ltN (xx + 1) b' L ∧ Then a b (xx + 1) b' d L) := fun L l1 l2 => ⟨(r6 L l1 l2).1, fun R z1 z2 => k5 R ((r6 L l1 l2).2 R z1 z2).1 ((r6 L l1 l2).2 R z1 z2).2⟩
              have HR : Hid (∀ L, PermIn (xx + 1) b' d4 L → SortedIn ltN (xx + 1) b' L → Below ltN a' xx L ∧ Then a b a' xx d L) := fun L l1 l2 => ⟨(r7 L l1 l2).1, fun R z1 z2 => k5 R ((r7 L l1 l2).2 R z1 z2).1 ((r7 L l1 l2).2 R z1 z2).2⟩
              clear hi hs k1 k2 k3 k4 k5 r3 r4 r5 r6 r7 hpm hnd4 hx H5
              obtain ⟨lf, hlf⟩ : ∃ lf, xx - a' = lf := ⟨_, rfl⟩
              obtain ⟨rt, hrt⟩ : ∃ rt, b' - xx = rt := ⟨_, rfl⟩
              obtain ⟨x1, hx1'⟩ : ∃ x1, xx + 1 = x1 := ⟨_, rfl⟩
              obtain ⟨e8, he8⟩ : ∃ e8, len / 8 = e8 := ⟨_, rfl⟩
              have zf : (xx : Int) - (a' : Int) = (lf : Int) := by omega
              have zr : (b' : Int) - (xx : Int) = (rt : Int) := by omega
              have zx : (xx : Int) + 1 = (x1 : Int) := by omega
              have z8 : (len : Int).tdiv 8 = (e8 : Int) := by rw [← he8]; rfl
              have b8 : e8 ≤ 100 := by omega
              have hN1 : Hid (xx - a' < N ∧ b' - x1 < N ∧ b' - a' = len) := by
                have : xx - a' < N ∧ b' - x1 < N ∧ b' - a' = len := by omega
                exact this
              have hX1 : Hid (xx + 1 = x1) := hx1'
              clear hlf hrt he8 hx1'
              by_cases hside : lf < rt
              · have hside' : (lf : Int) < (rt : Int) := by omega
                clear hside
                go_wp2_with fail
                go_at_call 88
                obtain ⟨k1, k2, k3, k4, k5⟩ := H6.out
                refine (HIH.out _ hN1.out.1 (Nat.le_refl _) k1 (.inr rfl) k2.row r1 (by omega) q6 (by have := hN1.out; have := hX1.out; omega) k3 k5).mono ?_
                rintro e w6 ⟨rfl, L, hs, hpL, hsL⟩
                obtain ⟨u1, u2⟩ := HL.out L hpL hsL
                have H7 : Hid (L.size = n ∧ SS w w6 g t cap L ∧ Below ltN x1 b' L ∧ Nd L ∧ Then a b x1 b' d L) := by
                  have e1 := hX1.out
                  rw [e1] at u1 u2
                  exact ⟨hpL.1.trans k1, k2.trans hs, u1, k5.perm hpL (by omega), u2⟩
                clear k1 k2 k3 k4 k5 hs hpL hsL u1 u2
                go_wp2
                go_roundw
                case rel =>
                  have e1 := hX1.out
                  have e2 := hN1.out
                  exact ⟨x1, b', l2, _, _, L, rfl, rfl, rfl, rfl, rfl, by omega, by omega, q3, q6, by omega, H7⟩
                case measure => have e1 := hX1.out; simp [intOf]; omega
              · have hside' : ¬ (lf : Int) < (rt : Int) := by omega
                clear hside
                go_wp2_with fail
                go_at_call 88
                obtain ⟨k1, k2, k3, k4, k5⟩ := H6.out
                refine (HIH.out _ hN1.out.2.1 (Nat.le_refl _) k1 (.inr rfl) k2.row (by have := hX1.out; omega) (by omega) q6 (by have := hN1.out; have := hX1.out; omega) (by rw [← hX1.out]; exact k4) k5).mono ?_
                rintro e w6 ⟨rfl, L, hs, hpL, hsL⟩
                have H7 : Hid (L.size = n ∧ SS w w6 g t cap L ∧ Below ltN a' xx L ∧ Nd L ∧ Then a b a' xx d L) := by
                  have e1 := hX1.out
                  have hs2 := hpL.1
                  have hnL := k5.perm hpL (by omega)
                  rw [← e1] at hpL hsL
                  obtain ⟨u1, u2⟩ := HR.out L hpL hsL
                  exact ⟨hs2.trans k1, k2.trans hs, u1, hnL, u2⟩
                clear k1 k2 k3 k4 k5 hs hpL hsL
                go_wp2
                go_roundw
                case rel =>
                  have e1 := hX1.out
                  have e2 := hN1.out
                  exact ⟨a', xx, l2, _, _, L, rfl, rfl, rfl, rfl, rfl, q1, r1, by omega, q6, by omega, H7⟩
                case measure => have e1 := hX1.out; simp [intOf]; omega
set_option maxRecDepth 100000 in
theorem sort_any {d : Array Nat} {A : Option Addr} (hA : d.size ≤ 1 ∨ A = some ⟨g, 0, none⟩) (h : SR w g t cap d) (h16 : d.size ≤ 16) (hnd : Nd d) :
    Calls Tryz.prog 52 #[.slice A d.size c] w fun e w' => e = .returned (.tuple #[]) ∧ ∃ d', SS w w' g t cap d' ∧ d'.toList.Perm d.toList ∧ SortedIn ltN 0 d.size d' := by
  obtain ⟨n, hn⟩ : ∃ n, d.size = n := ⟨_, rfl⟩
  obtain ⟨l, hl⟩ : ∃ l, Lib.bitLen n = l := ⟨_, rfl⟩
  have hl2 : l ≤ 100 ∧ (n - 0 ≤ 12 ∨ n - 0 ≤ l + 11) := by
    have hs : n = 0 ∨ n = 1 ∨ n = 2 ∨ n = 3 ∨ n = 4 ∨ n = 5 ∨ n = 6 ∨ n = 7 ∨ n = 8 ∨ n = 9 ∨ n = 10 ∨ n = 11 ∨ n = 12 ∨ n = 13 ∨ n = 14 ∨ n = 15 ∨ n = 16 := by omega
    rw [← hl]
    rcases hs with rfl | rfl | rfl | rfl | rfl | rfl | rfl | rfl | rfl | rfl | rfl | rfl | rfl | rfl | rfl | rfl | rfl <;> decide
  have HX := Lib.hid (And.intro hn (And.intro h (And.intro hnd (And.intro hl hl2))))
  rw [hn] at hA h16 ⊢
  have zn : IntKind.u64.wrap (n : Int) = (n : Int) := by rw [IntKind.wrap_u64]; omega
  clear h hn hnd hl hl2
  go_enter Tryz.func52, Tryz.ntmps52
  go_wp2_with fail
  go_at_call 89
  refine (ShelfS.bits_Len _ _ (by omega) (by omega)).mono ?_
  rintro e w1 ⟨rfl, hw1⟩
  subst w1
  obtain ⟨k1, k2, k3, k4, k5, k6⟩ := HX.out
  have e0 : ((n : Int)).toNat = n := by omega
  rw [e0, k4]
  go_wp2_with fail
  go_at_call 88
  refine (pdq_any h16 n (d := d) (a := 0) (b := n) (lim := l) (by omega) k1 hA k2 (by omega) (Nat.le_refl _) k5 k6 (.inl rfl) k3).mono ?_
  rintro e w' ⟨rfl, d', hs, hp, hso⟩
  have HF : Hid (∃ d', SS w w' g t cap d' ∧ d'.toList.Perm d.toList ∧ SortedIn ltN 0 n d') := ⟨d', hs, perm_list hp (by omega), hso⟩
  clear k1 k2 k3 k4 k5 k6 hs hp hso
  go_wp2
  go_end0
  exact ⟨rfl, HF.out⟩
end
end Go.Proofs.YthaepkpmpnofgaaGreat.SrtF
