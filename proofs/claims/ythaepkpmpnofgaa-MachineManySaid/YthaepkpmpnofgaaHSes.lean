/- Clients' sessions: a table, what each call makes of it; plain mathematics. No statement is proved here. -/
import Derived.Test.YthaepkpmpnofgaaHRdr
set_option linter.unusedVariables false
namespace Go.Proofs.Ythaepkpmpnofgaa.Ses
open Go.RowKit Go.Proofs.Ythaepkpmpnofgaa.Kit

/-- A reply. -/
structure Ry where
  err : Int
  num : Nat
  ext : Nat
/-- A session. -/
structure Rw where
  id : Nat
  used : Nat
  seq : Nat
  y : Ry
/-- A table. -/
structure Tb where
  now : Nat
  next : Nat
  rows : List Rw
abbrev U (x : Nat) : Prop := x < 18446744073709551616
def Ry.Ok (y : Ry) : Prop := -9223372036854775808 ≤ y.err ∧ y.err ≤ 9223372036854775807 ∧ U y.num ∧ U y.ext
def y0 : Ry := ⟨0, 0, 0⟩
def yE (e : Int) : Ry := ⟨e, 0, 0⟩
theorem y0_ok : y0.Ok := ⟨by decide, by decide, by decide, by decide⟩
/-- Numbers grow, from above a, up to below n. -/
def Grows (n : Nat) : Nat → List Rw → Prop
  | _, [] => True
  | a, r :: l => a < r.id ∧ r.id < n ∧ Grows n r.id l
/-- A row of a table at a time. -/
def Fits (now : Nat) (r : Rw) : Prop := r.used ≤ now ∧ now - r.used ≤ 1000 ∧ U r.seq ∧ r.y.Ok
structure Sane (m : Tb) : Prop where
  now : U m.now
  next : U m.next
  pos : 0 < m.next
  few : m.rows.length ≤ 16
  grows : Grows m.next 0 m.rows
  fits : ∀ r ∈ m.rows, Fits m.now r

/-! ### Where a session lies -/
def seek : List Rw → Nat → Option Nat
  | [], _ => none
  | r :: l, id => if r.id = id then some 0 else (seek l id).map (· + 1)
theorem seek_some {l : List Rw} {id i : Nat} (h : seek l id = some i) : ∃ r, l[i]? = some r ∧ r.id = id ∧ i < l.length ∧ ∀ j < i, ∀ x, l[j]? = some x → x.id ≠ id := by
  induction l generalizing i with
  | nil => cases h
  | cons a l ih =>
    unfold seek at h
    split at h
    · rename_i h0
      cases h
      exact ⟨a, rfl, h0, by simp, fun j hj => absurd hj (Nat.not_lt_zero _)⟩
    · rename_i h0
      cases hl : seek l id with
      | none => rw [hl] at h; cases h
      | some k =>
        rw [hl] at h
        cases h
        obtain ⟨r, h1, h2, h3, h4⟩ := ih hl
        refine ⟨r, by simpa using h1, h2, by simp; omega, fun j hj x hx => ?_⟩
        cases j with
        | zero => simp at hx; subst hx; exact h0
        | succ j => exact h4 j (by have hj' : j + 1 < k + 1 := hj; omega) x (by simpa using hx)
theorem seek_none {l : List Rw} {id : Nat} (h : seek l id = none) : ∀ r ∈ l, r.id ≠ id := by
  induction l with
  | nil => simp
  | cons a l ih =>
    unfold seek at h
    split at h
    · cases h
    · rename_i h0
      have h1 : seek l id = none := by simpa using h
      intro r hr
      rcases List.mem_cons.1 hr with rfl | hr
      · exact h0
      · exact ih h1 r hr

/-! ### The calls -/
def kept (t : Nat) (r : Rw) : Bool := decide (t - r.used ≤ 1000)
def clock (m : Tb) (t : Nat) : Tb := if t ≤ m.now then m else ⟨t, m.next, m.rows.filter (kept t)⟩
def canReg (m : Tb) : Bool := decide (m.rows.length < 16) && decide (m.next ≠ 18446744073709551615)
def freshRow (m : Tb) : Rw := ⟨m.next, m.now, 0, y0⟩
def regT (m : Tb) : Tb := if canReg m then ⟨m.now, m.next + 1, m.rows ++ [freshRow m]⟩ else m
def regId (m : Tb) : Nat := if canReg m then m.next else 0
def regE (m : Tb) : Int := if canReg m then 0 else 11
/-- A number that comes right behind. -/
def isNext (r : Rw) (s : Nat) : Bool := decide (s ≠ 0) && decide (s - 1 = r.seq)
def isLast (r : Rw) (s : Nat) : Bool := decide (s ≠ 0) && decide (s = r.seq)
def usedRow (m : Tb) (r : Rw) : Rw := ⟨r.id, m.now, r.seq, r.y⟩
def begT (m : Tb) (id : Nat) : Tb := match seek m.rows id with
  | none => m
  | some i => match m.rows[i]? with
    | none => m
    | some r => ⟨m.now, m.next, m.rows.set i (usedRow m r)⟩
def begY (m : Tb) (id s : Nat) : Ry := match seek m.rows id with
  | none => yE 40
  | some i => match m.rows[i]? with
    | none => yE 40
    | some r => if isNext r s then y0 else if isLast r s then r.y else yE 41
def begF (m : Tb) (id s : Nat) : Bool := match seek m.rows id with
  | none => false
  | some i => match m.rows[i]? with
    | none => false
    | some r => isNext r s
def endRow (r : Rw) (s : Nat) (y : Ry) : Rw := ⟨r.id, r.used, s, y⟩
def endF (m : Tb) (id s : Nat) : Bool := begF m id s
def endT (m : Tb) (id s : Nat) (y : Ry) : Tb := match seek m.rows id with
  | none => m
  | some i => match m.rows[i]? with
    | none => m
    | some r => if isNext r s then ⟨m.now, m.next, m.rows.set i (endRow r s y)⟩ else m
def tb0 : Tb := ⟨0, 1, []⟩

/-! ### What stays -/
theorem grows_mono {n n' a a' : Nat} (hn : n ≤ n') (ha : a' ≤ a) : ∀ {l : List Rw}, Grows n a l → Grows n' a' l
  | [], _ => trivial
  | r :: l, ⟨h1, h2, h3⟩ => ⟨by omega, by omega, grows_mono hn (Nat.le_refl _) h3⟩
theorem grows_filter {n : Nat} (p : Rw → Bool) : ∀ {a : Nat} {l : List Rw}, Grows n a l → Grows n a (l.filter p)
  | _, [], _ => trivial
  | a, r :: l, ⟨h1, h2, h3⟩ => by
    rw [List.filter_cons]
    split
    · exact ⟨h1, h2, grows_filter p h3⟩
    · exact grows_mono (Nat.le_refl _) (by omega) (grows_filter p h3)
theorem grows_snoc {n : Nat} {r : Rw} (hr : r.id = n) : ∀ {a : Nat} {l : List Rw}, a < n → Grows n a l → Grows (n + 1) a (l ++ [r])
  | a, [], ha, _ => ⟨by omega, by omega, trivial⟩
  | a, x :: l, ha, ⟨h1, h2, h3⟩ => ⟨h1, by omega, grows_snoc hr h2 h3⟩
theorem grows_set {n : Nat} {r' : Rw} : ∀ {a : Nat} {l : List Rw} {i : Nat}, Grows n a l → (∀ r, l[i]? = some r → r'.id = r.id) → Grows n a (l.set i r')
  | _, [], _, _, _ => trivial
  | a, x :: l, 0, ⟨h1, h2, h3⟩, h => by
    have e := h x rfl
    exact ⟨by omega, by omega, by rw [e]; exact h3⟩
  | a, x :: l, i + 1, ⟨h1, h2, h3⟩, h => ⟨h1, h2, grows_set h3 fun r hr => h r (by simpa using hr)⟩
theorem grows_mem {n : Nat} : ∀ {a : Nat} {l : List Rw}, Grows n a l → ∀ r ∈ l, a < r.id ∧ r.id < n
  | _, [], _, r, hr => by simp at hr
  | a, x :: l, ⟨h1, h2, h3⟩, r, hr => by
    rcases List.mem_cons.1 hr with rfl | hr
    · exact ⟨h1, h2⟩
    · have := grows_mem h3 r hr; omega
theorem good0 : Sane tb0 := ⟨by decide, by decide, by decide, by decide, trivial, by simp [tb0]⟩
theorem Sane.clock {m : Tb} (h : Sane m) {t : Nat} (ht : U t) : Sane (clock m t) := by
  unfold Ses.clock
  split
  · exact h
  · rename_i hh
    refine ⟨ht, h.next, h.pos, Nat.le_trans (List.length_filter_le _ _) h.few, grows_filter _ h.grows, fun r hr => ?_⟩
    obtain ⟨h1, h2⟩ := List.mem_filter.1 hr
    obtain ⟨f1, f2, f3, f4⟩ := h.fits r h1
    unfold kept at h2
    have := of_decide_eq_true h2
    exact ⟨by show r.used ≤ t; omega, this, f3, f4⟩
theorem Sane.reg {m : Tb} (h : Sane m) : Sane (regT m) := by
  unfold regT
  split
  · rename_i hh
    unfold canReg at hh
    simp only [Bool.and_eq_true, decide_eq_true_eq] at hh
    obtain ⟨h1, h2⟩ := hh
    have hn := h.next
    unfold U at hn
    refine ⟨h.now, by show m.next + 1 < _; omega, by show 0 < m.next + 1; omega, by simp; omega, grows_snoc (r := freshRow m) rfl h.pos h.grows, fun r hr => ?_⟩
    rcases List.mem_append.1 hr with hr | hr
    · exact h.fits r hr
    · simp at hr; subst hr; exact ⟨Nat.le_refl _, by show m.now - m.now ≤ 1000; omega, by show U 0; decide, y0_ok⟩
  · exact h
theorem mem_set {l : List Rw} {i : Nat} {x r : Rw} (h : x ∈ l.set i r) : x = r ∨ x ∈ l := by
  rcases List.mem_or_eq_of_mem_set h with h | h
  · exact .inr h
  · exact .inl h
theorem Sane.beg {m : Tb} (h : Sane m) (id : Nat) : Sane (begT m id) := by
  unfold begT
  split
  · exact h
  · split
    · exact h
    · rename_i i _ r hr
      refine ⟨h.now, h.next, h.pos, by simpa using h.few, grows_set h.grows fun x hx => ?_, fun x hx => ?_⟩
      · rw [hr] at hx; cases hx; rfl
      · rcases mem_set hx with rfl | hx
        · obtain ⟨f1, f2, f3, f4⟩ := h.fits r (List.mem_of_getElem? hr)
          exact ⟨Nat.le_refl _, by show m.now - m.now ≤ 1000; omega, f3, f4⟩
        · exact h.fits x hx
theorem Sane.fin {m : Tb} (h : Sane m) (id : Nat) {s : Nat} (hs : U s) {y : Ry} (hy : y.Ok) : Sane (endT m id s y) := by
  unfold endT
  split
  · exact h
  · split
    · exact h
    · rename_i i _ r hr
      split
      · refine ⟨h.now, h.next, h.pos, by simpa using h.few, grows_set h.grows fun x hx => ?_, fun x hx => ?_⟩
        · rw [hr] at hx; cases hx; rfl
        · rcases mem_set hx with rfl | hx
          · obtain ⟨f1, f2, f3, f4⟩ := h.fits r (List.mem_of_getElem? hr)
            exact ⟨f1, f2, hs, hy⟩
          · exact h.fits x hx
      · exact h
end Go.Proofs.Ythaepkpmpnofgaa.Ses
