/- Definitions of sagas: what one is, its bytes, and what any bytes say as steps: plain mathematics. No statement is proved here. -/
import Derived.Test.YthaepkpmpnofgaaHRdr
import Derived.Test.YthaepkpmpnofgaaStq
set_option linter.unusedVariables false
set_option linter.unusedSimpArgs false
namespace Go.Proofs.Ythaepkpmpnofgaa.Pln
open Go.RowKit Go.Proofs.Ythaepkpmpnofgaa.Kit Go.Proofs.Ythaepkpmpnofgaa.Num Go.Proofs.Ythaepkpmpnofgaa.Rdr Go.Proofs.Ythaepkpmpnofgaa.Reads Go.Proofs.Ythaepkpmpnofgaa.Stq
open Go.Proofs.Ythaepkpmpnofgaa.PckWalkB (text bit)
open Go.Proofs.Ythaepkpmpnofgaa.PckWalkH (str str_list str_back str_size str_append)
open Go.Proofs.Ythaepkpmpnofgaa.PckWalkC (gotB gotB_lt)
open Go.Proofs.Ythaepkpmpnofgaa.PckWalkE (upV textV)

/-! ### What a definition is -/
def okS (e : Sp) : Bool := decide (0 ≤ e.pt ∧ e.pt ≤ 3 ∧ 1 ≤ e.nm.size ∧ e.nm.size ≤ 16 ∧ 1 ≤ e.bg ∧ e.bg ≤ 9)
def isDef (l : List Sp) : Bool := decide (1 ≤ l.length ∧ l.length ≤ 64) && l.all okS
/-- What Check answers. -/
def chk (l : List Sp) : Int := if isDef l then 0 else 44
theorem okS_yes {e : Sp} (h : okS e = true) : 0 ≤ e.pt ∧ e.pt ≤ 3 ∧ 1 ≤ e.nm.size ∧ e.nm.size ≤ 16 ∧ 1 ≤ e.bg ∧ e.bg ≤ 9 := of_decide_eq_true h
theorem isDef_yes {l : List Sp} (h : isDef l = true) : 1 ≤ l.length ∧ l.length ≤ 64 ∧ ∀ e ∈ l, okS e = true := by
  unfold isDef at h
  simp only [Bool.and_eq_true, decide_eq_true_eq, List.all_eq_true] at h
  exact ⟨h.1.1, h.1.2, h.2⟩
theorem chk_many {l : List Sp} (h : l.length < 1 ∨ 64 < l.length) : chk l = 44 := by
  unfold chk isDef
  rw [if_neg]
  simp only [Bool.and_eq_true, decide_eq_true_eq]
  omega
theorem chk_one {l : List Sp} {e : Sp} {k : Nat} (h : l[k]? = some e) (he : okS e = false) : chk l = 44 := by
  unfold chk
  rw [if_neg]
  intro hd
  rw [(isDef_yes hd).2.2 e (List.mem_of_getElem? h)] at he
  cases he
theorem chk_all {l : List Sp} (h1 : 1 ≤ l.length) (h2 : l.length ≤ 64) (h : ∀ i, i < l.length → ∀ x, l[i]? = some x → okS x = true) : chk l = 0 := by
  unfold chk isDef
  rw [if_pos]
  simp only [Bool.and_eq_true, decide_eq_true_eq, List.all_eq_true]
  refine ⟨⟨h1, h2⟩, fun x hx => ?_⟩
  obtain ⟨i, hi, rfl⟩ := List.mem_iff_getElem.1 hx
  exact h i hi _ (List.getElem?_eq_getElem hi)
theorem chk_def {l : List Sp} (h : chk l = 0) : isDef l = true := by
  unfold chk at h
  split at h
  · assumption
  · cases h
theorem first_more {l : List Sp} {k : Nat} {e : Sp} (he : l[k]? = some e) (h : ∀ i, i < k → ∀ x, l[i]? = some x → okS x = true) (hm : okS e = true) : ∀ i, i < k + 1 → ∀ x, l[i]? = some x → okS x = true := by
  intro i hi x hx
  rcases Nat.lt_succ_iff_lt_or_eq.1 hi with h1 | rfl
  · exact h i h1 x hx
  · rw [he] at hx; cases hx; exact hm

/-! ### Its bytes -/
/-- An int as a uint64. -/
def u64 (z : Int) : Nat := (z % 18446744073709551616).toNat
theorem u64_lt (z : Int) : u64 z < 18446744073709551616 := by unfold u64; omega
theorem u64_wrap (z : Int) : IntKind.u64.wrap z = (u64 z : Int) := by rw [IntKind.wrap_u64]; unfold u64; omega
theorem u64_pos {z : Int} (h0 : 0 ≤ z) (h1 : z < 18446744073709551616) : u64 z = z.toNat := by unfold u64; rw [Int.emod_eq_of_lt h0 h1]
def spB (e : Sp) : List UInt8 := num (u64 e.pt) ++ (text e.nm ++ num (u64 e.bg))
def spsB (l : List Sp) : List UInt8 := l.flatMap spB
def planB (l : List Sp) : List UInt8 := num l.length ++ spsB l
theorem spsB_take {l : List Sp} {j : Nat} {e : Sp} (he : l[j]? = some e) : spsB (l.take (j + 1)) = spsB (l.take j) ++ spB e := by
  obtain ⟨hj, rfl⟩ := List.getElem?_eq_some_iff.1 he
  unfold spsB
  rw [List.take_succ_eq_append_getElem hj, List.flatMap_append, List.flatMap_cons, List.flatMap_nil, List.append_nil]
/-- The names' lengths, added up. -/
def nms (l : List Sp) : Nat := (l.map fun e => e.nm.size).sum
theorem nms_cons (e : Sp) (l : List Sp) : nms (e :: l) = e.nm.size + nms l := by simp [nms]
theorem nms_take (l : List Sp) (k : Nat) : nms (l.take k) ≤ nms l := by
  induction l generalizing k with
  | nil => simp
  | cons e l ih =>
    cases k with
    | zero => simp [nms]
    | succ k => rw [List.take_succ_cons, nms_cons, nms_cons]; have := ih k; omega
theorem nms_at {l : List Sp} {k : Nat} {e : Sp} (h : l[k]? = some e) : nms (l.take k) + e.nm.size ≤ nms l := by
  induction l generalizing k with
  | nil => simp at h
  | cons x l ih =>
    cases k with
    | zero => simp only [List.getElem?_cons_zero, Option.some.injEq] at h; subst h; rw [List.take_zero, nms_cons]; simp [nms]
    | succ k => rw [List.take_succ_cons, nms_cons, nms_cons]; have := ih (k := k) (by simpa using h); omega
theorem spB_le (e : Sp) (h : e.nm.size < 18446744073709551616) : (spB e).length ≤ e.nm.size + 27 := by
  have h1 := num9 (u64_lt e.pt)
  have h2 := num9 (u64_lt e.bg)
  have h3 := text_length e.nm h
  unfold spB
  simp only [List.length_append]
  omega
theorem spsB_le (l : List Sp) (h : nms l < 18446744073709551616) : (spsB l).length ≤ nms l + l.length * 27 := by
  induction l with
  | nil => simp [spsB]
  | cons e l ih =>
    rw [nms_cons] at h ⊢
    have h1 := ih (by omega)
    have h2 := spB_le e (by omega)
    have e0 : spsB (e :: l) = spB e ++ spsB l := by simp [spsB]
    rw [e0, List.length_append, List.length_cons]
    omega

/-! ### What any bytes say -/
def rSp (r : Rd) : Sp := ⟨(upV r.s 3 : Nat), textV (r.up 3).s 16, (upV ((r.up 3).text 16).s 9 : Nat)⟩
def rSpR (r : Rd) : Rd := ((r.up 3).text 16).up 9
def rAt : Nat → Rd → Rd
  | 0, r => r
  | k + 1, r => rSpR (rAt k r)
def rSps : Nat → Rd → List Sp
  | 0, _ => []
  | k + 1, r => rSps k r ++ [rSp (rAt k r)]
theorem rAt_front (k : Nat) (r : Rd) : rAt (k + 1) r = rAt k (rSpR r) := by
  induction k with
  | zero => rfl
  | succ k ih => show rSpR (rAt (k + 1) r) = rSpR (rAt k (rSpR r)); rw [ih]
theorem rSps_front (k : Nat) (r : Rd) : rSps (k + 1) r = rSp r :: rSps k (rSpR r) := by
  induction k with
  | zero => rfl
  | succ k ih =>
    show rSps (k + 1) r ++ [rSp (rAt (k + 1) r)] = _ :: (rSps k (rSpR r) ++ [rSp (rAt k (rSpR r))])
    rw [ih, rAt_front, List.cons_append]
theorem rSps_length (k : Nat) (r : Rd) : (rSps k r).length = k := by
  induction k with
  | zero => rfl
  | succ k ih => show (rSps k r ++ [_]).length = _; rw [List.length_append, ih]; rfl
theorem rSpR_le (r : Rd) : (rSpR r).s.size ≤ r.s.size := Nat.le_trans (Rd.up_le _ _) (Nat.le_trans (Rd.text_le _ _) (Rd.up_le _ _))
theorem rAt_le (k : Nat) (r : Rd) : (rAt k r).s.size ≤ r.s.size := by
  induction k with
  | zero => exact Nat.le_refl _
  | succ k ih => exact Nat.le_trans (rSpR_le _) ih
/-- How many steps stand in front, the reader behind them, the steps that are answered. -/
def rN (r : Rd) : Nat := upV r.s 64
def rEnd (r : Rd) : Rd := rAt (rN r) (r.up 64)
def rPlan (r : Rd) : List Sp := if (rEnd r).bad then [] else rSps (rN r) (r.up 64)
theorem rN_le (r : Rd) : rN r ≤ 64 := by have := upV_nat r.s (k := 64) (by decide); unfold rN; omega
theorem rEnd_le (r : Rd) : (rEnd r).s.size ≤ r.s.size := Nat.le_trans (rAt_le _ _) (Rd.up_le _ _)

theorem sp_go {e : Sp} (h : okS e = true) (r : List UInt8) (b : Bool) : rSp ⟨str (spB e ++ r), b⟩ = e ∧ rSpR ⟨str (spB e ++ r), b⟩ = ⟨str r, b⟩ := by
  obtain ⟨p0, p1, n0, n1, b0, b1⟩ := okS_yes h
  obtain ⟨pt, nm, bg⟩ := e
  simp only at p0 p1 n0 n1 b0 b1
  obtain ⟨p, rfl⟩ := Int.eq_ofNat_of_zero_le p0
  obtain ⟨g, rfl⟩ := Int.eq_ofNat_of_zero_le (show 0 ≤ bg by omega)
  have hp : p < 18446744073709551616 := by omega
  have hg : g < 18446744073709551616 := by omega
  have hs : nm.size < 18446744073709551616 := by omega
  have e0 : spB ⟨(p : Int), nm, (g : Int)⟩ ++ r = num p ++ (text nm ++ (num g ++ r)) := by
    unfold spB
    rw [u64_pos (by show (0 : Int) ≤ (p : Int); omega) (by show (p : Int) < _; omega), u64_pos (by show (0 : Int) ≤ (g : Int); omega) (by show (g : Int) < _; omega)]
    simp [List.append_assoc]
  rw [e0]
  have g1 := up_go hp (text nm ++ (num g ++ r)) b (k := 3) p1
  have g2 := text_go hs (num g ++ r) b (k := 16) (by omega)
  have g3 := up_go hg r b (k := 9) b1
  constructor
  · simp only [rSp]
    rw [g1, g2]
    simp only
    rw [upV_laid hp _ p1, textV_laid hs _ (by omega), upV_laid hg _ b1]
  · unfold rSpR
    rw [g1, g2, g3]
theorem sps_go (l : List Sp) (h : ∀ e ∈ l, okS e = true) (r : List UInt8) (b : Bool) : rSps l.length ⟨str (spsB l ++ r), b⟩ = l ∧ rAt l.length ⟨str (spsB l ++ r), b⟩ = ⟨str r, b⟩ := by
  induction l with
  | nil => exact ⟨rfl, rfl⟩
  | cons e l ih =>
    have he := h e (List.mem_cons_self)
    have e0 : spsB (e :: l) ++ r = spB e ++ (spsB l ++ r) := by simp [spsB, List.append_assoc]
    obtain ⟨g1, g2⟩ := sp_go he (spsB l ++ r) b
    obtain ⟨g3, g4⟩ := ih fun x hx => h x (List.mem_cons_of_mem _ hx)
    rw [List.length_cons, rSps_front, rAt_front, e0, g1, g2, g3, g4]
    exact ⟨rfl, rfl⟩
/-- What was laid of a definition is read. -/
theorem plan_go {l : List Sp} (h : isDef l = true) (r : List UInt8) : rPlan ⟨str (planB l ++ r), false⟩ = l ∧ rEnd ⟨str (planB l ++ r), false⟩ = ⟨str r, false⟩ := by
  obtain ⟨h1, h2, h3⟩ := isDef_yes h
  have hn : l.length < 18446744073709551616 := by omega
  have e0 : planB l ++ r = num l.length ++ (spsB l ++ r) := by unfold planB; rw [List.append_assoc]
  obtain ⟨g1, g2⟩ := sps_go l h3 r false
  have eN : rN ⟨str (planB l ++ r), false⟩ = l.length := by unfold rN; rw [e0]; exact upV_laid hn _ (by omega)
  have eU : Rd.up ⟨str (planB l ++ r), false⟩ 64 = ⟨str (spsB l ++ r), false⟩ := by rw [e0]; exact up_go hn _ _ (by omega)
  have eE : rEnd ⟨str (planB l ++ r), false⟩ = ⟨str r, false⟩ := by unfold rEnd; rw [eN, eU, g2]
  refine ⟨?_, eE⟩
  unfold rPlan
  rw [eE, eN, eU, g1]
  rfl
theorem planB_le {l : List Sp} (h : isDef l = true) : (planB l).length ≤ 10000 := by
  obtain ⟨h1, h2, h3⟩ := isDef_yes h
  have hn : nms l ≤ l.length * 16 := by
    clear h h1 h2
    induction l with
    | nil => simp [nms]
    | cons e l ih =>
      have := (okS_yes (h3 e List.mem_cons_self)).2.2.2.1
      have := ih fun x hx => h3 x (List.mem_cons_of_mem _ hx)
      rw [nms_cons, List.length_cons]; omega
  have := spsB_le l (by omega)
  have := num9 (x := l.length) (by omega)
  unfold planB
  rw [List.length_append]
  omega
end Go.Proofs.Ythaepkpmpnofgaa.Pln
