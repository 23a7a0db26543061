/- A machine: sessions, and sagas by their numbers; what each command makes of it: plain mathematics. No statement is proved here. -/
import Derived.Test.YthaepkpmpnofgaaHSes
import Derived.Test.YthaepkpmpnofgaaHSag
import Derived.Test.YthaepkpmpnofgaaHCmd
set_option linter.unusedVariables false
set_option linter.unusedSimpArgs false
namespace Go.Proofs.Ythaepkpmpnofgaa.Mch
open Go.RowKit Go.Proofs.Ythaepkpmpnofgaa.Kit Go.Proofs.Ythaepkpmpnofgaa.Ses
open Go.Proofs.Ythaepkpmpnofgaa.Pln (chk u64 u64_lt)
open Go.Proofs.Ythaepkpmpnofgaa.Sag (Sg Snd takes outc abort)
open Go.Proofs.Ythaepkpmpnofgaa.Cmd (Cm yes dec mayB may_kind yes_back)

structure Mc where
  t : Tb
  l : List (Nat × Sg)
def mc0 : Mc := ⟨tb0, []⟩
/-- A saga is told. -/
def told (s : Sg) : Ry := ⟨0, u64 s.st, u64 s.cu⟩
def seekS : List (Nat × Sg) → Nat → Option Nat
  | [], _ => none
  | x :: l, id => if x.1 = id then some 0 else (seekS l id).map (· + 1)
/-- A new one is put in its place. -/
def putS : List (Nat × Sg) → Nat → Sg → List (Nat × Sg)
  | [], id, s => [(id, s)]
  | x :: l, id, s => if x.1 < id then x :: putS l id s else (id, s) :: x :: l
def first (c : Cm) : Sg := ⟨c.l, 1, 0, 0⟩
/-- What a client's command that is new makes of the sagas, and its reply. -/
def does (l : List (Nat × Sg)) (c : Cm) : List (Nat × Sg) × Ry :=
  match seekS l c.sg with
  | none => if c.k = 2 then (if 16 ≤ l.length then (l, yE 11) else (putS l c.sg (first c), told (first c))) else (l, yE 43)
  | some i => match l[i]? with
    | none => (l, yE 43)
    | some x => if c.k = 2 then (l, yE 42) else if c.k = 3 then (l.set i (c.sg, abort x.2), told (abort x.2)) else (l, told x.2)
/-- What an outcome makes of the sagas, and its reply. -/
def hears (l : List (Nat × Sg)) (c : Cm) : List (Nat × Sg) × Ry :=
  match seekS l c.sg with
  | none => (l, yE 43)
  | some i => match l[i]? with
    | none => (l, yE 43)
    | some x => if takes x.2 c.st c.bk c.tr c.ok = true then (l.set i (c.sg, outc x.2 c.st c.bk c.tr c.ok), told (outc x.2 c.st c.bk c.tr c.ok)) else (l, yE 41)
/-- A command is applied. -/
def apC (m : Mc) (c : Cm) : Mc × Ry :=
  if c.k = 1 then (⟨regT (clock m.t c.nw), m.l⟩, ⟨regE (clock m.t c.nw), regId (clock m.t c.nw), 0⟩)
  else if c.k = 4 then (⟨clock m.t c.nw, (hears m.l c).1⟩, (hears m.l c).2)
  else if begF (clock m.t c.nw) c.ss c.sq = true then (⟨endT (begT (clock m.t c.nw) c.ss) c.ss c.sq (does m.l c).2, (does m.l c).1⟩, (does m.l c).2)
  else (⟨begT (clock m.t c.nw) c.ss, m.l⟩, begY (clock m.t c.nw) c.ss c.sq)
/-- Any bytes are applied. -/
def ap (m : Mc) (s : ByteArray) : Mc × Ry := if yes s = true then apC m (dec s) else (m, yE 2)
def apAll (m : Mc) : List ByteArray → Mc
  | [] => m
  | s :: l => apAll (ap m s).1 l

/-! ### Where a saga lies -/
theorem seekS_some {l : List (Nat × Sg)} {id i : Nat} (h : seekS l id = some i) : ∃ x, l[i]? = some x ∧ x.1 = id ∧ i < l.length ∧ ∀ j < i, ∀ y, l[j]? = some y → y.1 ≠ id := by
  induction l generalizing i with
  | nil => cases h
  | cons a l ih =>
    unfold seekS at h
    split at h
    · rename_i h0
      cases h
      exact ⟨a, rfl, h0, by simp, fun j hj => absurd hj (Nat.not_lt_zero _)⟩
    · rename_i h0
      cases hl : seekS l id with
      | none => rw [hl] at h; cases h
      | some k =>
        rw [hl] at h
        cases h
        obtain ⟨r, h1, h2, h3, h4⟩ := ih hl
        refine ⟨r, by simpa using h1, h2, by simp; omega, fun j hj x hx => ?_⟩
        cases j with
        | zero => simp at hx; subst hx; exact h0
        | succ j => exact h4 j (by have hj' : j + 1 < k + 1 := hj; omega) x (by simpa using hx)
theorem seekS_none {l : List (Nat × Sg)} {id : Nat} (h : seekS l id = none) : ∀ x ∈ l, x.1 ≠ id := by
  induction l with
  | nil => simp
  | cons a l ih =>
    unfold seekS at h
    split at h
    · cases h
    · rename_i h0
      have h1 : seekS l id = none := by simpa using h
      intro r hr
      rcases List.mem_cons.1 hr with rfl | hr
      · exact h0
      · exact ih h1 r hr
theorem putS_length (l : List (Nat × Sg)) (id : Nat) (s : Sg) : (putS l id s).length = l.length + 1 := by
  induction l with
  | nil => rfl
  | cons x l ih => unfold putS; split <;> simp [ih]
theorem putS_mem {l : List (Nat × Sg)} {id : Nat} {s : Sg} {y : Nat × Sg} (h : y ∈ putS l id s) : y = (id, s) ∨ y ∈ l := by
  induction l with
  | nil => simp [putS] at h; exact .inl h
  | cons x l ih =>
    unfold putS at h
    split at h
    · rcases List.mem_cons.1 h with rfl | h
      · exact .inr List.mem_cons_self
      · exact (ih h).imp (fun h => h) fun h => List.mem_cons_of_mem _ h
    · rcases List.mem_cons.1 h with rfl | h
      · exact .inl rfl
      · exact .inr h
/-- Numbers grow. -/
def Grow (l : List (Nat × Sg)) : Prop := l.Pairwise fun a b => a.1 < b.1
theorem Grow.put {l : List (Nat × Sg)} (h : Grow l) {id : Nat} (hn : ∀ x ∈ l, x.1 ≠ id) (s : Sg) : Grow (putS l id s) := by
  unfold Grow at h ⊢
  induction l with
  | nil => simp [putS]
  | cons x l ih =>
    obtain ⟨h1, h2⟩ := List.pairwise_cons.1 h
    unfold putS
    split
    · rename_i hlt
      refine List.pairwise_cons.2 ⟨fun y hy => ?_, ih h2 fun y hy => hn y (List.mem_cons_of_mem _ hy)⟩
      rcases putS_mem hy with rfl | hy
      · exact hlt
      · exact h1 y hy
    · rename_i hlt
      have := hn x List.mem_cons_self
      refine List.pairwise_cons.2 ⟨fun y hy => ?_, h⟩
      rcases List.mem_cons.1 hy with rfl | hy
      · show id < y.1; omega
      · have := h1 y hy; show id < y.1; omega
theorem Grow.set {l : List (Nat × Sg)} (h : Grow l) {i : Nat} {x : Nat × Sg} (hx : l[i]? = some x) {y : Nat × Sg} (hy : y.1 = x.1) : Grow (l.set i y) := by
  unfold Grow at h ⊢
  rw [List.pairwise_iff_getElem] at h ⊢
  obtain ⟨hi, rfl⟩ := List.getElem?_eq_some_iff.1 hx
  intro a b ha hb hab
  simp only [List.length_set] at ha hb
  have := h a b ha hb hab
  rw [List.getElem_set, List.getElem_set]
  split <;> split
  · omega
  · rename_i h1 h2; subst h1; rw [hy]; exact this
  · rename_i h1 h2; subst h2; rw [hy]; exact this
  · exact this

/-! ### What stays -/
structure Fit (m : Mc) : Prop where
  tb : Sane m.t
  few : m.l.length ≤ 16
  grow : Grow m.l
  u : ∀ x ∈ m.l, U x.1
  snd : ∀ x ∈ m.l, Snd x.2
theorem fit0 : Fit mc0 := ⟨good0, by decide, List.Pairwise.nil, by simp [mc0], by simp [mc0]⟩
theorem told_ok (s : Sg) : (told s).Ok := ⟨by show (-9223372036854775808 : Int) ≤ 0; decide, by show (0 : Int) ≤ 9223372036854775807; decide, u64_lt _, u64_lt _⟩
theorem yE_ok {e : Int} (h0 : 0 ≤ e) (h1 : e ≤ 100) : (yE e).Ok := ⟨by show (-9223372036854775808 : Int) ≤ e; omega, by show e ≤ 9223372036854775807; omega, by show U 0; decide, by show U 0; decide⟩
theorem mem_set' {l : List (Nat × Sg)} {i : Nat} {x r : Nat × Sg} (h : x ∈ l.set i r) : x = r ∨ x ∈ l := by
  rcases List.mem_or_eq_of_mem_set h with h | h
  · exact .inr h
  · exact .inl h
/-- The sagas' part of what stays. -/
structure FitL (l : List (Nat × Sg)) : Prop where
  few : l.length ≤ 16
  grow : Grow l
  u : ∀ x ∈ l, U x.1
  snd : ∀ x ∈ l, Snd x.2
theorem FitL.set {l : List (Nat × Sg)} (h : FitL l) {i : Nat} {x : Nat × Sg} (hx : l[i]? = some x) {id : Nat} (hid : x.1 = id) {s : Sg} (hs : Snd s) : FitL (l.set i (id, s)) := by
  refine ⟨by rw [List.length_set]; exact h.few, h.grow.set hx hid.symm, fun y hy => ?_, fun y hy => ?_⟩
  · rcases mem_set' hy with rfl | hy
    · rw [← hid]; exact h.u x (List.mem_of_getElem? hx)
    · exact h.u y hy
  · rcases mem_set' hy with rfl | hy
    · exact hs
    · exact h.snd y hy
theorem first_snd {c : Cm} (h : chk c.l = 0) : Snd (first c) := by
  have hl := Sag.len_def h
  exact ⟨h, .inl ⟨rfl, ⟨by show (0 : Int) ≤ 0; decide, by show (0 : Int) < c.l.length; omega⟩, rfl⟩⟩
theorem outc_snd {s : Sg} (h : Snd s) (step : Int) (taken : Bool) (tr : Int) (ok : Bool) : Snd (outc s step taken tr ok) := by
  unfold Sag.outc
  split
  · rename_i ht
    obtain ⟨h1, _, h3, _⟩ := Sag.takes_yes ht
    exact Sag.next_snd h1 h3
  · exact h
theorem does_fit {l : List (Nat × Sg)} (h : FitL l) {c : Cm} (hm : mayB c = true) (hu : U c.sg) : FitL (does l c).1 ∧ (does l c).2.Ok := by
  unfold does
  split
  · rename_i hn
    split
    · rename_i hk
      split
      · exact ⟨h, yE_ok (by decide) (by decide)⟩
      · rename_i hlen
        have hc : chk c.l = 0 := by
          rcases may_kind hm with ⟨h1, _⟩ | ⟨_, h2, _⟩ | ⟨h1, _⟩
          · omega
          · exact h2
          · omega
        refine ⟨⟨by rw [putS_length]; omega, h.grow.put (seekS_none hn) _, fun y hy => ?_, fun y hy => ?_⟩, told_ok _⟩
        · rcases putS_mem hy with rfl | hy
          · exact hu
          · exact h.u y hy
        · rcases putS_mem hy with rfl | hy
          · exact first_snd hc
          · exact h.snd y hy
    · exact ⟨h, yE_ok (by decide) (by decide)⟩
  · rename_i i hi
    split
    · exact ⟨h, yE_ok (by decide) (by decide)⟩
    · rename_i x hx
      obtain ⟨y, hy1, hy2, _, _⟩ := seekS_some hi
      rw [hx] at hy1
      cases hy1
      split
      · exact ⟨h, yE_ok (by decide) (by decide)⟩
      · split
        · exact ⟨h.set hx hy2 (Sag.abort_snd (h.snd x (List.mem_of_getElem? hx))), told_ok _⟩
        · exact ⟨h, told_ok _⟩
theorem hears_fit {l : List (Nat × Sg)} (h : FitL l) (c : Cm) : FitL (hears l c).1 ∧ (hears l c).2.Ok := by
  unfold hears
  split
  · exact ⟨h, yE_ok (by decide) (by decide)⟩
  · rename_i i hi
    split
    · exact ⟨h, yE_ok (by decide) (by decide)⟩
    · rename_i x hx
      obtain ⟨y, hy1, hy2, _, _⟩ := seekS_some hi
      rw [hx] at hy1
      cases hy1
      split
      · exact ⟨h.set hx hy2 (outc_snd (h.snd x (List.mem_of_getElem? hx)) _ _ _ _), told_ok _⟩
      · exact ⟨h, yE_ok (by decide) (by decide)⟩
theorem Fit.list {m : Mc} (h : Fit m) : FitL m.l := ⟨h.few, h.grow, h.u, h.snd⟩
theorem FitL.fit {t : Tb} {l : List (Nat × Sg)} (h : FitL l) (ht : Sane t) : Fit ⟨t, l⟩ := ⟨ht, h.few, h.grow, h.u, h.snd⟩
theorem begY_ok {m : Tb} (h : Sane m) (id s : Nat) : (begY m id s).Ok := by
  unfold begY
  split
  · exact yE_ok (by decide) (by decide)
  · split
    · exact yE_ok (by decide) (by decide)
    · rename_i r hr
      split
      · exact y0_ok
      · split
        · exact (h.fits r (List.mem_of_getElem? hr)).2.2.2
        · exact yE_ok (by decide) (by decide)
theorem regE_ok (m : Tb) (h : U m.next) : (⟨regE m, regId m, 0⟩ : Ry).Ok := by
  unfold regE regId
  split
  · exact ⟨by show (-9223372036854775808 : Int) ≤ 0; decide, by show (0 : Int) ≤ 9223372036854775807; decide, h, by show U 0; decide⟩
  · exact yE_ok (by decide) (by decide)
theorem apC_fit {m : Mc} (h : Fit m) {c : Cm} (hm : mayB c = true) (hf : Cmd.Fin c) : Fit (apC m c).1 ∧ (apC m c).2.Ok := by
  have hc : Sane (clock m.t c.nw) := h.tb.clock hf.nw
  unfold apC
  split
  · exact ⟨h.list.fit hc.reg, regE_ok _ hc.next⟩
  · split
    · obtain ⟨h1, h2⟩ := hears_fit h.list c
      exact ⟨h1.fit hc, h2⟩
    · split
      · obtain ⟨h1, h2⟩ := does_fit h.list hm hf.sg
        exact ⟨h1.fit ((hc.beg c.ss).fin c.ss hf.sq h2), h2⟩
      · exact ⟨h.list.fit (hc.beg c.ss), begY_ok hc _ _⟩
theorem ap_fit {m : Mc} (h : Fit m) (s : ByteArray) : Fit (ap m s).1 ∧ (ap m s).2.Ok := by
  unfold ap
  split
  · rename_i hy
    obtain ⟨h1, _, h3⟩ := yes_back hy
    exact apC_fit h h1 h3
  · exact ⟨h, yE_ok (by decide) (by decide)⟩
theorem apAll_fit {m : Mc} (h : Fit m) (l : List ByteArray) : Fit (apAll m l) := by
  induction l generalizing m with
  | nil => exact h
  | cons s l ih => exact ih (ap_fit h s).1
theorem apAll_snoc (m : Mc) (l : List ByteArray) (s : ByteArray) : apAll m (l ++ [s]) = (ap (apAll m l) s).1 := by
  induction l generalizing m with
  | nil => rfl
  | cons x l ih => exact ih _
end Go.Proofs.Ythaepkpmpnofgaa.Mch
