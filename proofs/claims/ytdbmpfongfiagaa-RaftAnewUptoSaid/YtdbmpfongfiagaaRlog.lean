/- Plain mathematics of layer 7: a log as a snapshot and a list of entries. No program's text; no statement is proved here. -/
import Derived.Test.YtdbmpfongfiagaaNum
import Derived.Test.YtdbmpfongfiagaaQuorum
namespace Go.Proofs.Ytdbmpfongfiagaa.Rlog
open Go.Proofs.Ytdbmpfongfiagaa.Num (num got front rest)
open Go.Proofs.Ytdbmpfongfiagaa.Quorum (sound)

structure Ent where
  term : Nat
  idx : Nat
  kind : Int
  data : ByteArray
structure Snap where
  idx : Nat
  term : Nat
  cfg : Nat
  data : ByteArray
structure G where
  snap : Snap
  es : List Ent

/-- An entry that came in. -/
structure EntB (e : Ent) : Prop where
  term : e.term < 18446744073709551616
  idx : e.idx < 18446744073709551616
  k0 : -9223372036854775808 ≤ e.kind
  k1 : e.kind ≤ 9223372036854775807
  size : e.data.size ≤ 9223372036854775807
structure SnapB (s : Snap) : Prop where
  idx : s.idx < 18446744073709551616
  term : s.term < 18446744073709551616
  cfg : s.cfg < 18446744073709551616

/-- The number that data says; whether it says a set, and nothing else. -/
def setOf (d : ByteArray) : Nat := got d.data.toList
def says (d : ByteArray) : Bool := sound (setOf d) && decide (d.data.toList = num (setOf d))
def sortOk (e : Ent) : Bool := decide (e.kind = 0) || (decide (e.kind = 1) || (decide (e.kind = 2) && says e.data))
/-- May it lie behind index i, of term t? -/
def may (e : Ent) (i t : Nat) : Bool := decide (e.idx = i + 1 ∧ t ≤ e.term ∧ e.data.size ≤ 32768) && sortOk e
def chained : List Ent → Nat → Nat → Bool
  | [], _, _ => true
  | e :: r, i, t => may e i t && chained r e.idx e.term
/-- Index and term of the last one. -/
def lasts (l : List Ent) (i t : Nat) : Nat × Nat := l.foldl (fun _ e => (e.idx, e.term)) (i, t)

theorem says_iff {d : ByteArray} : says d = true ↔ (front d.data.toList ≠ 0 ∧ rest d.data.toList = []) ∧ sound (setOf d) = true := by
  unfold says
  rw [Bool.and_eq_true, decide_eq_true_eq]
  have hlt : setOf d < 18446744073709551616 := Num.got_lt _
  constructor
  · rintro ⟨h1, h2⟩
    refine ⟨?_, h1⟩
    have e : d.data.toList = num (setOf d) ++ [] := by rw [List.append_nil]; exact h2
    rw [e, Num.front_num hlt, Num.rest_num hlt]
    exact ⟨by omega, rfl⟩
  · rintro ⟨⟨h1, h2⟩, h3⟩
    refine ⟨h3, ?_⟩
    unfold rest at h2
    rw [if_neg h1] at h2
    have := Num.num_got h1
    unfold setOf
    rw [this]
    conv => lhs; rw [← List.take_append_drop (front d.data.toList) d.data.toList]
    rw [h2, List.append_nil]

theorem may_iff {e : Ent} {i t : Nat} : may e i t = true ↔ (e.idx = i + 1 ∧ t ≤ e.term ∧ e.data.size ≤ 32768) ∧ sortOk e = true := by
  unfold may; rw [Bool.and_eq_true, decide_eq_true_eq]
theorem lasts_nil (i t : Nat) : lasts [] i t = (i, t) := rfl
theorem lasts_cons (e : Ent) (r : List Ent) (i t : Nat) : lasts (e :: r) i t = lasts r e.idx e.term := rfl
theorem lasts_append (l r : List Ent) (i t : Nat) : lasts (l ++ r) i t = lasts r (lasts l i t).1 (lasts l i t).2 := by simp [lasts, List.foldl_append]
theorem lasts_snoc (l : List Ent) (e : Ent) (i t : Nat) : lasts (l ++ [e]) i t = (e.idx, e.term) := by simp [lasts, List.foldl_append]
theorem take_snoc {α : Type} (l : List α) (k : Nat) (e : α) (h : l[k]? = some e) : l.take (k + 1) = l.take k ++ [e] := by
  obtain ⟨hk, rfl⟩ := List.getElem?_eq_some_iff.1 h
  exact List.take_succ_eq_append_getElem hk
theorem lasts_take (l : List Ent) (i t k : Nat) (e : Ent) (h : l[k]? = some e) : lasts (l.take (k + 1)) i t = (e.idx, e.term) := by rw [take_snoc l k e h, lasts_snoc]
theorem follow_append (l r : List Ent) : ∀ i t, chained (l ++ r) i t = (chained l i t && chained r (lasts l i t).1 (lasts l i t).2) := by
  induction l with
  | nil => intro i t; simp [chained, lasts_nil]
  | cons e l ih => intro i t; simp only [List.cons_append, chained, ih, lasts_cons, Bool.and_assoc]
theorem follow_snoc (l : List Ent) (e : Ent) (i t : Nat) : chained (l ++ [e]) i t = (chained l i t && may e (lasts l i t).1 (lasts l i t).2) := by
  rw [follow_append]; simp [chained]
theorem follow_lasts {l : List Ent} : ∀ {i t : Nat}, chained l i t = true → (lasts l i t).1 = i + l.length ∧ t ≤ (lasts l i t).2 := by
  induction l with
  | nil => intro i t _; simp [lasts_nil]
  | cons e l ih =>
    intro i t h
    simp only [chained, Bool.and_eq_true] at h
    obtain ⟨⟨h1, h2, _⟩, _⟩ := may_iff.1 h.1
    obtain ⟨h3, h4⟩ := ih h.2
    rw [lasts_cons, h3, List.length_cons]
    omega
theorem follow_take {l : List Ent} {i t : Nat} (h : chained l i t = true) (k : Nat) : chained (l.take k) i t = true := by
  have := follow_append (l.take k) (l.drop k) i t
  rw [List.take_append_drop, h] at this
  exact (Bool.and_eq_true_iff.1 this.symm).1
theorem follow_drop {l : List Ent} {i t : Nat} (h : chained l i t = true) (k : Nat) : chained (l.drop k) (lasts (l.take k) i t).1 (lasts (l.take k) i t).2 = true := by
  have := follow_append (l.take k) (l.drop k) i t
  rw [List.take_append_drop, h] at this
  exact (Bool.and_eq_true_iff.1 this.symm).2
theorem follow_at {l : List Ent} {i t k : Nat} {e : Ent} (h : chained l i t = true) (he : l[k]? = some e) : e.idx = i + k + 1 ∧ may e (lasts (l.take k) i t).1 (lasts (l.take k) i t).2 = true := by
  have h1 := follow_take h (k + 1)
  rw [take_snoc l k e he, follow_snoc, Bool.and_eq_true] at h1
  obtain ⟨⟨h3, _⟩, _⟩ := may_iff.1 h1.2
  have h4 := (follow_lasts h1.1).1
  obtain ⟨hk, _⟩ := List.getElem?_eq_some_iff.1 he
  rw [List.length_take, Nat.min_eq_left (by omega)] at h4
  exact ⟨by omega, h1.2⟩
theorem follow_mem {l : List Ent} {i t : Nat} {e : Ent} (h : chained l i t = true) (he : e ∈ l) : e.data.size ≤ 32768 ∧ i < e.idx ∧ e.idx ≤ i + l.length ∧ sortOk e = true ∧ (e.kind = 0 ∨ e.kind = 1 ∨ e.kind = 2) := by
  obtain ⟨k, hk⟩ := List.mem_iff_getElem?.1 he
  obtain ⟨h1, h2⟩ := follow_at h hk
  obtain ⟨⟨_, _, h3⟩, h4⟩ := may_iff.1 h2
  obtain ⟨hlt, _⟩ := List.getElem?_eq_some_iff.1 hk
  refine ⟨h3, by omega, by omega, h4, ?_⟩
  unfold sortOk at h4
  simp only [Bool.or_eq_true, decide_eq_true_eq, Bool.and_eq_true] at h4
  rcases h4 with h | h | ⟨h, _⟩ <;> simp [h]

/-! ### A log's answers -/
def last (g : G) : Nat × Nat := lasts g.es g.snap.idx g.snap.term
def place (g : G) (i : Nat) : Option Nat := if g.snap.idx < i ∧ i - g.snap.idx - 1 < g.es.length then some (i - g.snap.idx - 1) else none
def term (g : G) (i : Nat) : Option Nat := if i = g.snap.idx then some g.snap.term else (place g i).bind fun k => (g.es[k]?).map Ent.term
def get (g : G) (i : Nat) (n : Int) : List Ent := match place g i with
  | none => []
  | some k => (g.es.drop k).take n.toNat
def pick (es : List Ent) (i : Nat) : Option Ent := es.foldl (fun o e => if e.kind = 2 ∧ e.idx ≤ i then some e else o) none
def members (g : G) (i : Nat) : Nat × Nat := match pick g.es i with
  | none => (g.snap.cfg, g.snap.idx)
  | some e => (setOf e.data, e.idx)
/-- What lies ahead of an index; all, if that isn't in the log. -/
def upto (g : G) (i : Nat) : List Ent := match place g i with
  | none => g.es
  | some k => g.es.take k
def cut (g : G) (i : Nat) : G := { g with es := upto g i }
def new (g : G) (t : Nat) (kind : Int) (d : ByteArray) : Ent := ⟨t, (last g).1 + 1, kind, d⟩
def noEnt : Ent := ⟨0, 0, 0, ByteArray.empty⟩
def addOk (g : G) (t : Nat) (kind : Int) (d : ByteArray) : Bool := decide ((last g).1 ≠ 18446744073709551615) && may (new g t kind d) (last g).1 (last g).2
def add (g : G) (t : Nat) (kind : Int) (d : ByteArray) : (Ent × Int) × G :=
  if addOk g t kind d = true then ((new g t kind d, 0), { g with es := g.es ++ [new g t kind d] }) else ((noEnt, 1), g)
def has (g : G) (i t : Nat) : Bool := decide (term g i = some t)
def old (g : G) (e : Ent) : Bool := decide (e.idx ≤ g.snap.idx)
def there (g : G) (e : Ent) : Bool := has g e.idx e.term
def lay (g : G) (l : List Ent) : (List Ent × Bool) × G := match l with
  | [] => (([], true), g)
  | e :: r => ((e :: r, true), { g with es := upto g e.idx ++ (e :: r) })
def merge (g : G) (i t : Nat) (l : List Ent) : (List Ent × Bool) × G :=
  if chained l i t = false then (([], false), g)
  else if (lasts (l.takeWhile (old g)) i t).1 < g.snap.idx then (([], true), g)
  else if has g (lasts (l.takeWhile (old g)) i t).1 (lasts (l.takeWhile (old g)) i t).2 = false then (([], false), g)
  else lay g ((l.dropWhile (old g)).dropWhile (there g))
def compact (g : G) (i : Nat) (d : ByteArray) : Int × G := match place g i with
  | none => (20, g)
  | some k => (0, ⟨⟨i, ((g.es[k]?).map Ent.term).getD 0, (members g i).1, d⟩, g.es.drop (k + 1)⟩)
def behind (g : G) (s : Snap) : List Ent := match place g s.idx with
  | none => []
  | some k => if (g.es[k]?).map Ent.term = some s.term then g.es.drop (k + 1) else []
def install (g : G) (s : Snap) : Int × G :=
  if sound s.cfg = false then (1, g) else if s.idx ≤ g.snap.idx then (20, g) else (0, ⟨s, behind g s⟩)

structure Fine (g : G) : Prop where
  cfg : sound g.snap.cfg = true
  runs : chained g.es g.snap.idx g.snap.term = true
  snap : SnapB g.snap
  ents : ∀ e ∈ g.es, EntB e

theorem pick_mem {es : List Ent} {i : Nat} {e : Ent} (h : pick es i = some e) : e ∈ es ∧ e.kind = 2 ∧ e.idx ≤ i := by
  have : ∀ (l : List Ent) (o : Option Ent), (∀ x, o = some x → x ∈ es ∧ x.kind = 2 ∧ x.idx ≤ i) → (∀ x ∈ l, x ∈ es) → ∀ x, l.foldl (fun o e => if e.kind = 2 ∧ e.idx ≤ i then some e else o) o = some x → x ∈ es ∧ x.kind = 2 ∧ x.idx ≤ i := by
    intro l
    induction l with
    | nil => intro o ho _ x hx; exact ho x hx
    | cons y l ih =>
      intro o ho hl x hx
      refine ih _ ?_ (fun z hz => hl z (by simp [hz])) x hx
      intro z hz
      simp only at hz
      split at hz
      · cases hz; rename_i hc; exact ⟨hl _ (by simp), hc⟩
      · exact ho z hz
  exact this es none (by simp) (fun _ h => h) e h
theorem pick_snoc (es : List Ent) (e : Ent) (i : Nat) : pick (es ++ [e]) i = if e.kind = 2 ∧ e.idx ≤ i then some e else pick es i := by simp [pick, List.foldl_append]
theorem pick_none (es r : List Ent) (i : Nat) (h : ∀ e ∈ r, ¬ (e.kind = 2 ∧ e.idx ≤ i)) : pick (es ++ r) i = pick es i := by
  unfold pick
  rw [List.foldl_append]
  generalize List.foldl _ none es = o
  induction r generalizing o with
  | nil => rfl
  | cons x r ih =>
    simp only [List.foldl_cons]
    rw [if_neg (h x (by simp))]
    exact ih (fun e he => h e (by simp [he])) o

section
variable {g : G} (f : Fine g)
theorem place_lt {i k : Nat} (h : place g i = some k) : k < g.es.length ∧ i = g.snap.idx + k + 1 := by
  unfold place at h
  split at h
  · cases h; omega
  · cases h
theorem place_of {i k : Nat} (hk : k < g.es.length) (h : i = g.snap.idx + k + 1) : place g i = some k := by
  unfold place
  rw [if_pos (by omega)]
  congr 1
  omega
theorem place_none {i : Nat} (h : place g i = none) : i ≤ g.snap.idx ∨ g.snap.idx + g.es.length < i := by
  unfold place at h
  split at h
  · cases h
  · omega
include f
theorem Fine.last_idx : (last g).1 = g.snap.idx + g.es.length := (follow_lasts f.runs).1
theorem Fine.at_ {k : Nat} {e : Ent} (h : g.es[k]? = some e) : e.idx = g.snap.idx + k + 1 ∧ EntB e ∧ place g e.idx = some k ∧ e.data.size ≤ 32768 := by
  obtain ⟨h1, h2⟩ := follow_at f.runs h
  obtain ⟨hk, _⟩ := List.getElem?_eq_some_iff.1 h
  refine ⟨h1, f.ents e (List.mem_of_getElem? h), place_of hk h1, (may_iff.1 h2).1.2.2⟩
theorem Fine.room : g.snap.idx + g.es.length < 18446744073709551616 := by
  rcases Nat.eq_zero_or_pos g.es.length with h | h
  · have := f.snap.idx; omega
  · have hk : g.es[g.es.length - 1]? = some g.es[g.es.length - 1] := List.getElem?_eq_getElem (by omega)
    have h1 := (f.at_ hk).1
    have h2 := (f.at_ hk).2.1.idx
    omega
theorem Fine.last_b : (last g).1 < 18446744073709551616 ∧ (last g).2 < 18446744073709551616 := by
  refine ⟨by rw [f.last_idx]; exact f.room, ?_⟩
  unfold last
  rcases List.eq_nil_or_concat g.es with h | ⟨l, e, h⟩
  · rw [h, lasts_nil]; exact f.snap.term
  · rw [List.concat_eq_append] at h
    rw [h, lasts_snoc]
    exact (f.ents e (by rw [h]; simp)).term
theorem Fine.term_lt {i t : Nat} (h : term g i = some t) : t < 18446744073709551616 := by
  unfold term at h
  split at h
  · cases h; exact f.snap.term
  · cases hp : place g i with
    | none => rw [hp] at h; cases h
    | some k =>
      rw [hp] at h
      simp only [Option.bind_some, Option.map_eq_some_iff] at h
      obtain ⟨e, he, rfl⟩ := h
      exact (f.ents e (List.mem_of_getElem? he)).term
theorem term_at {k : Nat} {e : Ent} (h : g.es[k]? = some e) : term g e.idx = some e.term := by
  obtain ⟨h1, _, h3, _⟩ := f.at_ h
  unfold term
  rw [if_neg (by omega), h3]
  simp [h]
end
theorem term_snap (g : G) : term g g.snap.idx = some g.snap.term := by simp [term]
theorem term_some {g : G} {i t : Nat} (h : term g i = some t) : (i = g.snap.idx ∧ t = g.snap.term) ∨ ∃ k e, place g i = some k ∧ g.es[k]? = some e ∧ e.term = t := by
  unfold term at h
  split at h
  · cases h; exact .inl ⟨by assumption, rfl⟩
  · cases hp : place g i with
    | none => rw [hp] at h; cases h
    | some k =>
      rw [hp] at h
      simp only [Option.bind_some, Option.map_eq_some_iff] at h
      obtain ⟨e, he, ht⟩ := h
      exact .inr ⟨k, e, rfl, he, ht⟩
section
variable {g : G} (f : Fine g)
include f
theorem Fine.has_in {i t : Nat} (h : has g i t = true) : g.snap.idx ≤ i ∧ i ≤ g.snap.idx + g.es.length ∧ lasts (g.es.take (i - g.snap.idx)) g.snap.idx g.snap.term = (i, t) := by
  unfold has at h
  rw [decide_eq_true_eq] at h
  rcases term_some h with ⟨rfl, rfl⟩ | ⟨k, e, hp, he, rfl⟩
  · simp [lasts_nil]
  · obtain ⟨hk, hi⟩ := place_lt hp
    refine ⟨by omega, by omega, ?_⟩
    rw [show i - g.snap.idx = k + 1 by omega, lasts_take _ _ _ _ _ he]
    have := (f.at_ he).1
    congr 1
    omega
/-- What lies up to an index and its term, and entries behind. -/
theorem Fine.graft {i t : Nat} {l : List Ent} (h : has g i t = true) (hl : chained l i t = true) (hb : ∀ e ∈ l, EntB e) : Fine { g with es := g.es.take (i - g.snap.idx) ++ l } := by
  obtain ⟨h1, h2, h3⟩ := f.has_in h
  refine ⟨f.cfg, ?_, f.snap, fun e he => ?_⟩
  · rw [follow_append, h3, follow_take f.runs]
    simpa using hl
  · rcases List.mem_append.1 he with he | he
    · exact f.ents e (List.mem_of_mem_take he)
    · exact hb e he
theorem fine_cut (i : Nat) : Fine (cut g i) := by
  unfold cut upto
  cases hp : place g i with
  | none => exact f
  | some k => exact ⟨f.cfg, follow_take f.runs k, f.snap, fun e he => f.ents e (List.mem_of_mem_take he)⟩
theorem Fine.last_has : has g (last g).1 (last g).2 = true := by
  unfold has
  rw [decide_eq_true_eq]
  rcases List.eq_nil_or_concat g.es with h | ⟨l, e, h⟩
  · unfold last; rw [h, lasts_nil]; exact term_snap g
  · rw [List.concat_eq_append] at h
    have he : g.es[l.length]? = some e := by rw [h]; simp
    unfold last
    rw [h, lasts_snoc]
    exact term_at f he
theorem fine_add (t : Nat) (kind : Int) (d : ByteArray) (ht : t < 18446744073709551616) (k0 : -9223372036854775808 ≤ kind) (k1 : kind ≤ 9223372036854775807) (hd : d.size ≤ 9223372036854775807) : Fine (add g t kind d).2 := by
  unfold add
  by_cases h : addOk g t kind d = true
  · rw [if_pos h]
    unfold addOk at h
    rw [Bool.and_eq_true, decide_eq_true_eq] at h
    have hb := f.last_b.1
    refine ⟨f.cfg, ?_, f.snap, fun e he => ?_⟩
    · rw [follow_snoc, f.runs]; exact h.2
    · rcases List.mem_append.1 he with he | he
      · exact f.ents e he
      · simp at he
        subst he
        exact ⟨ht, by simp only [new]; omega, k0, k1, hd⟩
  · rw [if_neg h]; exact f
theorem fine_compact (i : Nat) (d : ByteArray) : Fine (compact g i d).2 := by
  unfold compact
  cases hp : place g i with
  | none => exact f
  | some k =>
    obtain ⟨hk, hi⟩ := place_lt hp
    have he : g.es[k]? = some g.es[k] := List.getElem?_eq_getElem hk
    obtain ⟨h1, h2, _, _⟩ := f.at_ he
    have hl : lasts (g.es.take (k + 1)) g.snap.idx g.snap.term = (i, g.es[k].term) := by rw [lasts_take _ _ _ _ _ he, h1, hi]
    have hm : sound (members g i).1 = true := by
      unfold members
      cases hq : pick g.es i with
      | none => exact f.cfg
      | some e =>
        have hin := pick_mem hq
        have := (follow_mem f.runs hin.1).2.2.2.1
        unfold sortOk says at this
        rw [hin.2.1] at this
        have h2 : sound (setOf e.data) = true ∧ e.data.data.toList = num (setOf e.data) := by simpa using this
        exact h2.1
    have hd := follow_drop f.runs (k + 1)
    rw [hl] at hd
    simp only [he, Option.map_some, Option.getD_some]
    have hsm : (members g i).1 < 128 := by
      unfold sound at hm
      have := of_decide_eq_true hm
      omega
    exact ⟨hm, hd, ⟨by have := h2.idx; simp only; omega, h2.term, by simp only; omega⟩, fun e hx => f.ents e (List.mem_of_mem_drop hx)⟩
theorem fine_install {s : Snap} (hs : SnapB s) : Fine (install g s).2 := by
  unfold install
  by_cases h1 : sound s.cfg = false
  · rw [if_pos h1]; exact f
  rw [if_neg h1]
  by_cases h2 : s.idx ≤ g.snap.idx
  · rw [if_pos h2]; exact f
  rw [if_neg h2]
  refine ⟨by simpa using h1, ?_, hs, fun e he => ?_⟩
  · show chained (behind g s) s.idx s.term = true
    unfold behind
    cases hp : place g s.idx with
    | none => rfl
    | some k =>
      obtain ⟨hk, hi⟩ := place_lt hp
      have he : g.es[k]? = some g.es[k] := List.getElem?_eq_getElem hk
      simp only [he, Option.map_some, Option.some.injEq]
      by_cases ht : g.es[k].term = s.term
      · rw [if_pos ht]
        have hl : lasts (g.es.take (k + 1)) g.snap.idx g.snap.term = (s.idx, s.term) := by rw [lasts_take _ _ _ _ _ he, (f.at_ he).1, hi, ht]
        have hd := follow_drop f.runs (k + 1)
        rwa [hl] at hd
      · rw [if_neg ht]; rfl
  · have he' : e ∈ behind g s := he
    unfold behind at he'
    cases hp : place g s.idx with
    | none => rw [hp] at he'; simp at he'
    | some k =>
      rw [hp] at he'
      simp only at he'
      split at he'
      · exact f.ents e (List.mem_of_mem_drop he')
      · simp at he'
end
theorem fine_new {s : Snap} {l : List Ent} (h1 : sound s.cfg = true) (h2 : chained l s.idx s.term = true) (h3 : SnapB s) (h4 : ∀ e ∈ l, EntB e) : Fine ⟨s, l⟩ := ⟨h1, h2, h3, h4⟩

/-! ### Merge -/
theorem takeWhile_at {α : Type} {p : α → Bool} {l : List α} {k : Nat} (h1 : ∀ e ∈ l.take k, p e = true) (h2 : ∀ e, l[k]? = some e → p e = false) : l.takeWhile p = l.take k ∧ l.dropWhile p = l.drop k := by
  induction l generalizing k with
  | nil => simp
  | cons x l ih =>
    cases k with
    | zero =>
      have := h2 x rfl
      simp [this]
    | succ k =>
      have hx := h1 x (by simp)
      obtain ⟨a, b⟩ := ih (k := k) (fun e he => h1 e (by simp [he])) (fun e he => h2 e (by simpa using he))
      simp [hx, a, b]
theorem while_split {α : Type} (p : α → Bool) (l : List α) : ∃ k, k ≤ l.length ∧ l.takeWhile p = l.take k ∧ l.dropWhile p = l.drop k ∧ (∀ e ∈ l.take k, p e = true) ∧ ∀ e, l[k]? = some e → p e = false := by
  induction l with
  | nil => exact ⟨0, by simp⟩
  | cons x l ih =>
    by_cases hx : p x = true
    · obtain ⟨k, h0, h1, h2, h3, h4⟩ := ih
      refine ⟨k + 1, by simpa using h0, by simp [hx, h1], by simp [hx, h2], fun e he => ?_, fun e he => h4 e (by simpa using he)⟩
      simp only [List.take_succ_cons, List.mem_cons] at he
      rcases he with rfl | he
      · exact hx
      · exact h3 e he
    · refine ⟨0, by simp, by simp [hx], by simp [hx], by simp, fun e he => ?_⟩
      simp at he
      subst he
      simpa using hx
/-- What is there already, in a row, behind what is there. -/
theorem has_take {g : G} {i t : Nat} {l : List Ent} (h0 : has g i t = true) {k : Nat} (hk : ∀ e ∈ l.take k, there g e = true) : has g (lasts (l.take k) i t).1 (lasts (l.take k) i t).2 = true := by
  rcases List.eq_nil_or_concat (l.take k) with h | ⟨l', e, h⟩
  · rw [h, lasts_nil]; exact h0
  · rw [List.concat_eq_append] at h
    have := hk e (by rw [h]; simp)
    rw [h, lasts_snoc]
    exact this
section
variable {g : G} (f : Fine g)
include f
theorem Fine.ahead_of {i t : Nat} (h : has g i t = true) : upto g (i + 1) = g.es.take (i - g.snap.idx) := by
  obtain ⟨h1, h2, _⟩ := f.has_in h
  unfold upto
  cases hp : place g (i + 1) with
  | none =>
    have := place_none hp
    rw [List.take_of_length_le (by omega)]
  | some k =>
    have := place_lt hp
    simp only
    congr 1
    omega
theorem fine_lay {i t : Nat} {l : List Ent} (h0 : has g i t = true) (hf : chained l i t = true) (hb : ∀ e ∈ l, EntB e) : Fine (lay g l).2 := by
  unfold lay
  cases l with
  | nil => exact f
  | cons e r =>
    have hi : e.idx = i + 1 := by
      simp only [chained, Bool.and_eq_true] at hf
      exact (may_iff.1 hf.1).1.1
    simp only
    rw [hi, f.ahead_of h0]
    exact f.graft h0 hf hb
theorem fine_merge {i t : Nat} {l : List Ent} (hb : ∀ e ∈ l, EntB e) : Fine (merge g i t l).2 := by
  unfold merge
  by_cases h1 : chained l i t = false
  · rw [if_pos h1]; exact f
  rw [if_neg h1]
  have hf : chained l i t = true := by simpa using h1
  obtain ⟨k, hk, e1, e2, _, _⟩ := while_split (old g) l
  rw [e1, e2]
  by_cases h2 : (lasts (l.take k) i t).1 < g.snap.idx
  · rw [if_pos h2]; exact f
  rw [if_neg h2]
  by_cases h3 : has g (lasts (l.take k) i t).1 (lasts (l.take k) i t).2 = false
  · rw [if_pos h3]; exact f
  rw [if_neg h3]
  have h3' : has g (lasts (l.take k) i t).1 (lasts (l.take k) i t).2 = true := by simpa using h3
  have hd := follow_drop hf k
  obtain ⟨j, hj, _, e4, h5, _⟩ := while_split (there g) (l.drop k)
  rw [e4]
  exact fine_lay f (has_take h3' h5) (follow_drop hd j) fun e he => hb e (List.mem_of_mem_drop (List.mem_of_mem_drop he))
end
end Go.Proofs.Ytdbmpfongfiagaa.Rlog
