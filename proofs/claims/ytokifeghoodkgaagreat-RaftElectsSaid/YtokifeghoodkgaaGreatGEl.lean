/- Plain mathematics of layer 12: letters that go out are such as may come in. No program's text; no statement is proved here. -/
import Derived.Test.YtokifeghoodkgaaGreatNodB
set_option linter.unusedVariables false
namespace Go.Proofs.YtokifeghoodkgaaGreat.ElA
open Go.Proofs.YtokifeghoodkgaaGreat.Rlog Go.Proofs.YtokifeghoodkgaaGreat.Nod
open Go.Proofs.YtokifeghoodkgaaGreat.Quorum (mem size need sound maj node has turn change size_num num_meet num_pos num_le num_congr num_zero num_and_or size_and flip_bit flip_more flip_less)

/-! ### Logs up to an index -/
theorem take_get {α : Type} {l r : List α} {i j : Nat} (h : l.take i = r.take i) (hj : j < i) : l[j]? = r[j]? := by
  rw [← List.getElem?_take_of_lt hj, h, List.getElem?_take_of_lt hj]
theorem take_less {α : Type} {l r : List α} {i j : Nat} (h : l.take i = r.take i) (hj : j ≤ i) : l.take j = r.take j := by
  rw [← Nat.min_eq_left hj, ← List.take_take, h, List.take_take]
theorem take_len {α : Type} {l r : List α} {i : Nat} (h : l.take i = r.take i) (hi : i ≤ l.length) : i ≤ r.length := by
  have := congrArg List.length h
  simp only [List.length_take] at this
  omega
theorem take_ext {α : Type} {l r : List α} {n : Nat} (h : ∀ j, j < n → l[j]? = r[j]?) : l.take n = r.take n := by
  refine List.ext_getElem? fun j => ?_
  by_cases hj : j < n
  · rw [List.getElem?_take_of_lt hj, List.getElem?_take_of_lt hj, h j hj]
  · rw [List.getElem?_eq_none (by rw [List.length_take]; omega), List.getElem?_eq_none (by rw [List.length_take]; omega)]
theorem get_lt {α : Type} {l : List α} {k : Nat} {e : α} (h : l[k]? = some e) : k < l.length := (List.getElem?_eq_some_iff.1 h).1
theorem get_of {α : Type} {l : List α} {k : Nat} (h : k < l.length) : ∃ e, l[k]? = some e := ⟨l[k], List.getElem?_eq_getElem h⟩
theorem get_snoc {α : Type} {l : List α} {e f : α} {i : Nat} (h : (l ++ [e])[i]? = some f) : (i < l.length ∧ l[i]? = some f) ∨ (i = l.length ∧ f = e) := by
  rcases Nat.lt_or_ge i l.length with h1 | h1
  · rw [List.getElem?_append_left h1] at h; exact .inl ⟨h1, h⟩
  · obtain ⟨h2, h3⟩ := List.getElem?_eq_some_iff.1 h
    simp at h2
    obtain rfl : i = l.length := by omega
    simp at h3
    exact .inr ⟨rfl, h3.symm⟩
theorem take_app {α : Type} {l r : List α} {i : Nat} (h : i ≤ l.length) : (l ++ r).take i = l.take i := List.take_append_of_le_length h
/-- The greatest one that fits. -/
theorem max_of {P : Nat → Prop} {N : Nat} (hN : ∀ k, P k → k ≤ N) {k0 : Nat} (h0 : P k0) : ∃ k, P k ∧ ∀ j, P j → j ≤ k := by
  induction N generalizing P k0 with
  | zero => exact ⟨k0, h0, fun j hj => by have := hN j hj; omega⟩
  | succ N ih =>
    by_cases h : P (N + 1)
    · exact ⟨N + 1, h, hN⟩
    · exact ih (fun k hk => by
        have := hN k hk
        rcases Nat.lt_or_ge N k with h1 | h1
        · exact absurd (show P (N + 1) by rwa [show N + 1 = k by omega]) h
        · exact h1) h0

/-! ### The members that a log says -/
def snapC (c : Nat) : Snap := ⟨0, 0, c, ByteArray.empty⟩
def cf (c : Nat) (L : List Ent) : Nat := (members ⟨snapC c, L⟩ topN).1
def sn (c : Nat) (L : List Ent) : Nat := (members ⟨snapC c, L⟩ topN).2
/-- Entries lie at their indices, and those that say members say some. -/
def Okl (L : List Ent) : Prop := ∀ k e, L[k]? = some e → e.idx = k + 1 ∧ e.idx ≤ topN ∧ (e.kind = 2 → sound (setOf e.data) = true)
theorem Okl.take {L : List Ent} (h : Okl L) (n : Nat) : Okl (L.take n) := fun k e hk => by
  have hlt := get_lt hk
  rw [List.length_take] at hlt
  rw [List.getElem?_take_of_lt (by omega)] at hk
  exact h k e hk
theorem okl_fine {c : Nat} {L : List Ent} (f : Fine ⟨snapC c, L⟩) : Okl L := fun k e hk => by
  obtain ⟨h1, h2, _, _⟩ := f.at_ hk
  have h3 : e.idx = k + 1 := by rw [h1]; show 0 + k + 1 = _; omega
  refine ⟨h3, by have := h2.idx; unfold topN; omega, fun e2 => ?_⟩
  have := (follow_mem f.runs (List.mem_of_getElem? hk)).2.2.2.1
  unfold sortOk says at this
  rw [e2] at this
  have h2 : sound (setOf e.data) = true ∧ e.data.data.toList = Num.num (setOf e.data) := by simpa using this
  exact h2.1
section
variable {c : Nat} {L : List Ent}
theorem step_cf (o : Okl L) {k : Nat} {e : Ent} (h : L[k]? = some e) : cf c (L.take (k + 1)) = (if e.kind = 2 then setOf e.data else cf c (L.take k)) ∧ sn c (L.take (k + 1)) = (if e.kind = 2 then k + 1 else sn c (L.take k)) := by
  obtain ⟨h1, h2, _⟩ := o k e h
  unfold cf sn members
  rw [take_snoc L k e h, pick_snoc]
  by_cases h3 : e.kind = 2
  · rw [if_pos ⟨h3, h2⟩]
    rw [if_pos h3, if_pos h3]
    exact ⟨rfl, h1⟩
  · rw [if_neg (fun x => h3 x.1), if_neg h3, if_neg h3]
    exact ⟨rfl, rfl⟩
theorem cf_nil : cf c ([] : List Ent) = c ∧ sn c ([] : List Ent) = 0 := ⟨rfl, rfl⟩
theorem sn_le (o : Okl L) : ∀ n, n ≤ L.length → sn c (L.take n) ≤ n := by
  intro n
  induction n with
  | zero => intro _; rw [List.take_zero]; exact Nat.le_refl _
  | succ n ih =>
    intro h
    obtain ⟨e, he⟩ := get_of (show n < L.length by omega)
    rw [(step_cf o he).2]
    have := ih (by omega)
    split <;> omega
theorem cf_still (o : Okl L) {k : Nat} : ∀ n, k ≤ n → n ≤ L.length → sn c (L.take n) ≤ k → cf c (L.take n) = cf c (L.take k) := by
  intro n
  induction n with
  | zero => intro h1 _ _; rw [show k = 0 by omega]
  | succ n ih =>
    intro h1 h2 h3
    rcases Nat.lt_or_ge n k with h4 | h4
    · rw [show k = n + 1 by omega]
    obtain ⟨e, he⟩ := get_of (show n < L.length by omega)
    obtain ⟨k1, k2⟩ := step_cf (c := c) o he
    rw [k2] at h3
    rw [k1]
    by_cases hk : e.kind = 2
    · rw [if_pos hk] at h3; omega
    · rw [if_neg hk] at h3 ⊢
      exact ih h4 (by omega) h3
theorem cf_late (o : Okl L) {k : Nat} : ∀ n, n ≤ L.length → k < sn c (L.take n) → ∃ j e, k ≤ j ∧ j < n ∧ L[j]? = some e ∧ e.kind = 2 ∧ cf c (L.take n) = setOf e.data ∧ sn c (L.take n) = j + 1 := by
  intro n
  induction n with
  | zero => intro _ h; rw [List.take_zero, cf_nil.2] at h; omega
  | succ n ih =>
    intro h2 h3
    obtain ⟨e, he⟩ := get_of (show n < L.length by omega)
    obtain ⟨k1, k2⟩ := step_cf (c := c) o he
    rw [k2] at h3
    rw [k1, k2]
    by_cases hk : e.kind = 2
    · rw [if_pos hk] at h3
      rw [if_pos hk, if_pos hk]
      exact ⟨n, e, by omega, by omega, he, hk, rfl, rfl⟩
    · rw [if_neg hk] at h3
      rw [if_neg hk, if_neg hk]
      obtain ⟨j, f, a1, a2, a3⟩ := ih (by omega) h3
      exact ⟨j, f, a1, by omega, a3⟩
theorem sn_ge (o : Okl L) {j : Nat} {e : Ent} (he : L[j]? = some e) (hk : e.kind = 2) : ∀ n, j < n → n ≤ L.length → j + 1 ≤ sn c (L.take n) := by
  intro n
  induction n with
  | zero => intro h _; omega
  | succ n ih =>
    intro h1 h2
    obtain ⟨f, hf⟩ := get_of (show n < L.length by omega)
    rw [(step_cf o hf).2]
    by_cases h3 : j = n
    · subst h3
      rw [he] at hf
      cases hf
      rw [if_pos hk]
      exact Nat.le_refl _
    · split
      · omega
      · exact ih (by omega) (by omega)
theorem cf_sound (hc : sound c = true) (o : Okl L) : sound (cf c L) = true := by
  have := fun n => cf_late (c := c) (k := 0) o n
  rw [← List.take_length (l := L)]
  rcases Nat.eq_zero_or_pos (sn c (L.take L.length)) with h | h
  · rw [cf_still (c := c) (k := 0) o _ (Nat.zero_le _) (Nat.le_refl _) (by omega), List.take_zero]
    exact hc
  · obtain ⟨j, e, _, _, h3, h4, h5, _⟩ := this L.length (Nat.le_refl _) h
    rw [h5]
    exact (o j e h3).2.2 h4
end

/-! ### Majorities -/
/-- One member apart. -/
def Adj (c d : Nat) : Prop := ∃ add n, change c add n = (d, 0)
/-- Those that q names are a majority. -/
def majP (c : Nat) (q : Nat → Bool) : Prop := need c ≤ Quorum.num fun i => c.testBit i && q i
theorem majP_of {c s : Nat} (h : maj c s = true) : majP c s.testBit := by
  have := of_decide_eq_true h
  rw [size_and] at this
  exact this
theorem meet_one {c : Nat} {a b : Nat → Bool} (h1 : majP c a) (h2 : majP c b) : ∃ i, i < 7 ∧ a i = true ∧ b i = true := by
  unfold majP need at h1 h2
  obtain ⟨i, hi, hb⟩ := num_pos (num_meet (p := fun i => c.testBit i && a i) (q := fun i => c.testBit i && b i) (r := fun i => c.testBit i) (fun i _ e => (Bool.and_eq_true_iff.1 e).1) (fun i _ e => (Bool.and_eq_true_iff.1 e).1) (by rw [← size_num]; omega))
  simp only [Bool.and_eq_true] at hb
  exact ⟨i, hi, hb.1.2, hb.2.2⟩
theorem meet_two {c d : Nat} {a b : Nat → Bool} (hch : Adj c d) (h1 : majP c a) (h2 : majP d b) : ∃ i, i < 7 ∧ a i = true ∧ b i = true := by
  obtain ⟨add, n, hch⟩ := hch
  have k1 : size c / 2 + 1 ≤ _ := h1
  have k2 : size d / 2 + 1 ≤ _ := h2
  clear h1 h2
  unfold change at hch
  by_cases hs : sound c = true ∧ node n = true
  case neg => rw [if_neg hs] at hch; simp at hch
  rw [if_pos hs] at hch
  have hc : 0 < c ∧ c < 128 := of_decide_eq_true hs.1
  have hn : 0 ≤ n ∧ n < 7 := of_decide_eq_true hs.2
  obtain ⟨i, hi⟩ : ∃ i, n.toNat = i := ⟨_, rfl⟩
  have hi7 : i < 7 := by omega
  rw [hi] at hch
  have hd : d = c ^^^ 2 ^ i ∧ c.testBit i = !add := by
    unfold turn at hch
    by_cases e : c.testBit i = add ∨ c = 2 ^ i
    · rw [if_pos e] at hch; simp at hch
    · rw [if_neg e] at hch
      refine ⟨by have := congrArg Prod.fst hch; exact this.symm, ?_⟩
      have e1 : ¬ c.testBit i = add := fun h => e (.inl h)
      cases hb : c.testBit i <;> cases add <;> simp_all
  have hbits : ∀ j, j ≠ i → d.testBit j = c.testBit j := fun j hj => by rw [hd.1, flip_bit]; simp [Ne.symm hj]
  have hbit : d.testBit i = add := by rw [hd.1, flip_bit, hd.2]; simp
  have hbn : ∀ j, (j = i ∧ c.testBit j = (!add) ∧ d.testBit j = add) ∨ (j ≠ i ∧ d.testBit j = c.testBit j) := fun j => by
    by_cases e : j = i
    · subst e; exact .inl ⟨rfl, hd.2, hbit⟩
    · exact .inr ⟨e, hbits j e⟩
  have hone : ∀ p : Nat → Bool, Quorum.num p ≤ (Quorum.num fun j => p j && (c.testBit j && d.testBit j)) + (Quorum.num fun j => p j && !(c.testBit j && d.testBit j)) := fun p => by
    have h := num_and_or (fun j => p j && (c.testBit j && d.testBit j)) (fun j => p j && !(c.testBit j && d.testBit j))
    have : Quorum.num p ≤ Quorum.num fun j => (p j && (c.testBit j && d.testBit j)) || (p j && !(c.testBit j && d.testBit j)) := num_le fun j _ e => by rw [e]; cases c.testBit j <;> cases d.testBit j <;> rfl
    omega
  have hsing : ∀ p : Nat → Bool, (∀ j, p j = true → j = i) → Quorum.num p ≤ 1 := fun p hp => by
    have : Quorum.num p ≤ Quorum.num fun j => decide (j = i) := num_le fun j _ e => by simp [hp j e]
    have h7 : ∀ i, i < 7 → (Quorum.num fun j => decide (j = i)) = 1 := by decide
    rw [h7 i hi7] at this
    exact this
  obtain ⟨j, hj7, hj⟩ : ∃ j, j < 7 ∧ ((c.testBit j && a j && (c.testBit j && d.testBit j)) && (d.testBit j && b j && (c.testBit j && d.testBit j))) = true := by
    refine num_pos (num_meet (r := fun j => c.testBit j && d.testBit j) (fun j _ e => (Bool.and_eq_true_iff.1 e).2) (fun j _ e => (Bool.and_eq_true_iff.1 e).2) ?_)
    have e1 := hone fun j => c.testBit j && a j
    have e2 := hone fun j => d.testBit j && b j
    have hm := flip_more c hc.2 i hi7
    have hl := flip_less c hc.2 i hi7
    cases add with
    | true =>
      have hs := (hm hd.2).2.2.1
      rw [← hd.1] at hs
      have hcd : (Quorum.num fun j => c.testBit j && d.testBit j) = size c := by
        rw [size_num]
        refine num_congr fun j _ => ?_
        rcases hbn j with ⟨_, h1, h2⟩ | ⟨_, h⟩
        · rw [h1]; rfl
        · rw [h]; cases c.testBit j <;> rfl
      have z1 : (Quorum.num fun j => c.testBit j && a j && !(c.testBit j && d.testBit j)) = 0 := num_zero fun j _ => by
        rcases hbn j with ⟨_, h1, h2⟩ | ⟨_, h⟩
        · rw [h1]; rfl
        · rw [h]; cases c.testBit j <;> simp
      have z2 := hsing (fun j => d.testBit j && b j && !(c.testBit j && d.testBit j)) fun j e => by
        rcases hbn j with ⟨h, _, _⟩ | ⟨_, h⟩
        · exact h
        · rw [h] at e; cases hx : c.testBit j <;> simp [hx] at e
      omega
    | false =>
      have hs := (hl hd.2).2.2.1
      rw [← hd.1] at hs
      have hcd : (Quorum.num fun j => c.testBit j && d.testBit j) = size d := by
        rw [size_num]
        refine num_congr fun j _ => ?_
        rcases hbn j with ⟨_, h1, h2⟩ | ⟨_, h⟩
        · rw [h2]; simp
        · rw [h]; cases c.testBit j <;> rfl
      have z1 : (Quorum.num fun j => d.testBit j && b j && !(c.testBit j && d.testBit j)) = 0 := num_zero fun j _ => by
        rcases hbn j with ⟨_, h1, h2⟩ | ⟨_, h⟩
        · rw [h2]; rfl
        · rw [h]; cases c.testBit j <;> simp
      have z2 := hsing (fun j => c.testBit j && a j && !(c.testBit j && d.testBit j)) fun j e => by
        rcases hbn j with ⟨h, _, _⟩ | ⟨_, h⟩
        · exact h
        · rw [h] at e; cases hx : c.testBit j <;> simp [hx] at e
      omega
  simp only [Bool.and_eq_true] at hj
  exact ⟨j, hj7, hj.1.1.2, hj.2.1.2⟩
/-- One set, or one member apart. -/
def Near (c d : Nat) : Prop := c = d ∨ Adj c d ∨ Adj d c
theorem meet_near {c d : Nat} {a b : Nat → Bool} (h : Near c d) (h1 : majP c a) (h2 : majP d b) : ∃ i, i < 7 ∧ a i = true ∧ b i = true := by
  rcases h with rfl | h | h
  · exact meet_one h1 h2
  · exact meet_two h h1 h2
  · obtain ⟨i, h3, h4, h5⟩ := meet_two h h2 h1
    exact ⟨i, h3, h5, h4⟩

/-! ### Two logs whose members are near -/
/-- What an entry of members beyond k says: the ones ahead of it lie up to k, where an entry of its own term lies, too. -/
def Wit (c k : Nat) (A : List Ent) : Prop := ∀ (j : Nat) (e : Ent), A[j]? = some e → k ≤ j → e.kind = 2 → Adj (cf c (A.take j)) (setOf e.data) ∧ sn c (A.take j) ≤ k ∧ ∃ i f, i < k ∧ A[i]? = some f ∧ f.term = e.term
def Rising (A : List Ent) : Prop := ∀ (i j : Nat) (a b : Ent), i ≤ j → A[i]? = some a → A[j]? = some b → a.term ≤ b.term
def Match (A D : List Ent) : Prop := ∀ (i j : Nat) (a d : Ent), i ≤ j → A[i]? = some a → D[j]? = some d → a.term = d.term → A.take (i + 1) = D.take (i + 1)
theorem near_one {c k : Nat} {A : List Ent} (o : Okl A) (hk : k ≤ A.length) (wa : Wit c k A) : cf c A = cf c (A.take k) ∨ ∃ j e, k ≤ j ∧ A[j]? = some e ∧ e.kind = 2 ∧ cf c A = setOf e.data ∧ Adj (cf c (A.take k)) (cf c A) := by
  have hA : A.take A.length = A := List.take_length
  rcases Nat.lt_or_ge k (sn c A) with h | h
  · right
    obtain ⟨j, e, h1, h2, h3, h4, h5, h6⟩ := cf_late (c := c) (k := k) o A.length (Nat.le_refl _) (by rwa [hA])
    rw [hA] at h5 h6
    obtain ⟨w1, w2, _⟩ := wa j e h3 h1 h4
    rw [cf_still (c := c) o j h1 (by omega) w2] at w1
    exact ⟨j, e, h1, h3, h4, h5, by rw [h5]; exact w1⟩
  · left
    have := cf_still (c := c) (k := k) o A.length hk (Nat.le_refl _) (by rwa [hA])
    rwa [hA] at this
theorem term_same {c k : Nat} {A : List Ent} (r : Rising A) (wa : Wit c k A) {j : Nat} {e g : Ent} (hj : A[j]? = some e) (hkj : k ≤ j) (h2 : e.kind = 2) (hg : A[k - 1]? = some g) : g.term = e.term ∧ 0 < k := by
  obtain ⟨_, _, i, f, h3, h4, h5⟩ := wa j e hj hkj h2
  have a1 := r i (k - 1) f g (by omega) h4 hg
  have a2 := r (k - 1) j g e (by omega) hg hj
  exact ⟨by omega, by omega⟩
theorem near_logs {c k : Nat} {A D : List Ent} (oa : Okl A) (od : Okl D) (ka : k ≤ A.length) (kd : k ≤ D.length) (hK : A.take k = D.take k) (ra : Rising A) (rd : Rising D) (wa : Wit c k A) (wd : Wit c k D) (m1 : Match A D) (m2 : Match D A) : Near (cf c A) (cf c D) := by
  rcases near_one oa ka wa with h1 | ⟨j, e, j1, j2, j3, j4, j5⟩
  · rcases near_one od kd wd with h2 | ⟨j, e, j1, j2, j3, j4, j5⟩
    · exact .inl (by rw [h1, h2, hK])
    · exact .inr (.inl (by rw [h1, hK]; exact j5))
  · rcases near_one od kd wd with h2 | ⟨i, f, i1, i2, i3, i4, i5⟩
    · exact .inr (.inr (by rw [h2, ← hK]; exact j5))
    · left
      have hk0 : 0 < k := by
        obtain ⟨_, _, i, f, h3, h4, h5⟩ := wa j e j2 j1 j3
        omega
      obtain ⟨g, hg⟩ := get_of (show k - 1 < A.length by omega)
      have hg' := hg
      rw [take_get hK (by omega)] at hg'
      have t1 := (term_same ra wa j2 j1 j3 hg).1
      have t2 := (term_same rd wd i2 i1 i3 hg').1
      rcases Nat.lt_trichotomy j i with h | h | h
      · exfalso
        have ht := m1 j i e f (by omega) j2 i2 (by omega)
        have hd : D[j]? = some e := by rw [← take_get ht (by omega)]; exact j2
        have := sn_ge (c := c) od hd j3 i h (by have := get_lt i2; omega)
        have := (wd i f i2 i1 i3).2.1
        omega
      · subst h
        have ht := m1 j j e f (Nat.le_refl _) j2 i2 (by omega)
        have hd : D[j]? = some e := by rw [← take_get ht (by omega)]; exact j2
        rw [hd] at i2
        cases i2
        rw [j4, i4]
      · exfalso
        have ht := m2 i j f e (by omega) i2 j2 (by omega)
        have hd : A[i]? = some f := by rw [← take_get ht (by omega)]; exact i2
        have := sn_ge (c := c) oa hd i3 j h (by have := get_lt j2; omega)
        have := (wa j e j2 j1 j3).2.1
        omega
end Go.Proofs.YtokifeghoodkgaaGreat.ElA
set_option linter.unusedVariables false
namespace Go.Proofs.YtokifeghoodkgaaGreat.ElB
open Go.Proofs.YtokifeghoodkgaaGreat.Rlog Go.Proofs.YtokifeghoodkgaaGreat.Nod Go.Proofs.YtokifeghoodkgaaGreat.ElA
open Go.Proofs.YtokifeghoodkgaaGreat.Quorum (need sound maj node change)

/-- Of a node what elections ask for. -/
structure Co where
  term : Nat
  vote : Int
  es : List Ent
  role : Nat
  commit : Nat
  votes : Nat
  next : Nat → Nat
  mat : Nat → Nat
/-- All nodes, the letters that were sent; of each term who led, its log at first and since, who voted for it; of each node and term for whom it voted, its log then, and whether somebody led in that term; its log when it stood; up to where it has what the term's leader has; the commits. -/
structure St where
  nd : Nat → Co
  M : Msg → Prop
  ld : Nat → Option Nat
  B : Nat → List Ent
  G : Nat → List Ent
  V : Nat → Nat → Bool
  vd : Nat → Nat → Option (Nat × List Ent × Bool)
  cl : Nat → Nat → List Ent
  ack : Nat → Nat → Nat
  E : Nat → Nat → Nat → Prop

def lastT (L : List Ent) : Nat := (lasts L 0 0).2
theorem lastT_of {L : List Ent} {e : Ent} (h : L[L.length - 1]? = some e) : lastT L = e.term := by
  have hl := get_lt h
  have := lasts_take L 0 0 (L.length - 1) e h
  rw [show L.length - 1 + 1 = L.length by omega, List.take_length] at this
  unfold lastT
  rw [this]
theorem lastT_nil : lastT [] = 0 := rfl
/-- A isn't elder than L. -/
def Newer (A L : List Ent) : Prop := lastT L < lastT A ∨ (lastT L = lastT A ∧ L.length ≤ A.length)
/-- Each entry of a log is its term's leader's, with all ahead of it. -/
def Good (s : St) (L : List Ent) : Prop := ∀ k e, L[k]? = some e → (∃ l, s.ld e.term = some l) ∧ (s.B e.term).length ≤ k ∧ L.take (k + 1) = (s.G e.term).take (k + 1)
/-- What is committed up to c in L was committed by a leader of a term not above. -/
def Cov (s : St) (T : Nat) (L : List Ent) (c : Nat) : Prop := c ≤ L.length ∧ (c = 0 ∨ ∃ t p m, s.E t p m ∧ t ≤ T ∧ c ≤ p ∧ L.take c = (s.G t).take c)
structure Sent (s : St) (x : Msg) : Prop where
  k5 : x.k ≠ 5
  k1 : x.k = 1 → ∃ c, c < 7 ∧ x.f = ((c : Nat) : Int) ∧ x.tm ≤ (s.nd c).term ∧ x.ix = (s.cl c x.tm).length ∧ x.pv = lastT (s.cl c x.tm)
  k2 : x.k = 2 → x.ok = true → ∃ v c L b, v < 7 ∧ x.f = ((v : Nat) : Int) ∧ x.t = ((c : Nat) : Int) ∧ s.vd v x.tm = some (c, L, b)
  k3 : x.k = 3 → ∃ l, s.ld x.tm = some l ∧ x.f = ((l : Nat) : Int) ∧ x.ix + x.es.length ≤ (s.G x.tm).length ∧ x.es = ((s.G x.tm).drop x.ix).take x.es.length ∧ x.pv = lastT ((s.G x.tm).take x.ix) ∧ Cov s x.tm (s.G x.tm) x.cm
  k4 : x.k = 4 → x.ok = true → ∃ v, v < 7 ∧ x.f = ((v : Nat) : Int) ∧ x.ix ≤ s.ack v x.tm
structure Led (c0 : Nat) (s : St) (t l : Nat) : Prop where
  id : l < 7
  low : t ≤ (s.nd l).term
  pos : 1 ≤ t
  beg : (s.G t).take (s.B t).length = s.B t
  terms : ∀ k e, (s.G t)[k]? = some e → ((s.B t).length ≤ k → e.term = t) ∧ (k < (s.B t).length → e.term < t)
  good : Good s (s.G t)
  okl : Okl (s.G t)
  wit : ∀ k e, (s.G t)[k]? = some e → (s.B t).length ≤ k → e.kind = 2 → Adj (cf c0 ((s.G t).take k)) (setOf e.data) ∧ ∃ c m, s.E t c m ∧ m ≤ k ∧ sn c0 ((s.G t).take k) ≤ c
  stood : s.B t = s.cl l t
  most : majP (cf c0 (s.B t)) (s.V t)
  votes : ∀ v, v < 7 → s.V t v = true → ∃ L, s.vd v t = some (l, L, false)
structure Leads (s : St) (i : Nat) (n : Co) : Prop where
  ld : s.ld n.term = some i
  es : n.es = s.G n.term
  mat : ∀ v, v < 7 → n.mat v ≤ s.ack v n.term ∧ 1 ≤ n.next v ∧ n.next v ≤ n.es.length + 1
  com : n.commit ≤ (s.B n.term).length ∨ ∃ m, s.E n.term n.commit m
  all : ∀ p m, s.E n.term p m → p ≤ n.commit
structure Runs (s : St) (i : Nat) (n : Co) : Prop where
  ld : s.ld n.term ≠ some i
  es : n.es = s.cl i n.term
  pos : 1 ≤ n.term
  votes : ∀ v, v < 7 → n.votes.testBit v = true → ∃ L b, s.vd v n.term = some (i, L, b)
  low : ∀ e ∈ n.es, e.term < n.term
structure Sane (s : St) (i : Nat) (n : Co) : Prop where
  good : Good s n.es
  low : ∀ e ∈ n.es, e.term ≤ n.term
  cov : Cov s n.term n.es n.commit
  later : ∀ T, n.term < T → s.vd i T = none
  vote : (n.vote = -1 ∧ s.vd i n.term = none) ∨ ∃ c L b, n.vote = ((c : Nat) : Int) ∧ s.vd i n.term = some (c, L, b)
structure Voted (s : St) (v T c : Nat) (L : List Ent) (b : Bool) : Prop where
  id : c < 7
  low : T ≤ (s.nd c).term
  good : Good s L
  newer : Newer (s.cl c T) L
  late : b = true → ∃ l, s.ld T = some l
  hold : ∀ t p, t < T → p ≤ s.ack v t → (∀ u l, t < u → (u < T ∨ (u = T ∧ b = true)) → s.ld u = some l → (s.G t).take p = (s.B u).take p) → (s.G t).take p = L.take p
/-- Leader t's commit of p, its log m long. -/
structure Comm (c0 : Nat) (s : St) (t p m : Nat) : Prop where
  led : ∃ l, s.ld t = some l
  le : p ≤ m
  len : m ≤ (s.G t).length
  own : (s.B t).length < p
  most : ∃ Q, majP (cf c0 ((s.G t).take m)) Q ∧ ∀ v, v < 7 → Q v = true → p ≤ s.ack v t
structure Inv (c0 : Nat) (s : St) : Prop where
  led : ∀ t l, s.ld t = some l → Led c0 s t l
  n2 : ∀ i, i < 7 → (s.nd i).role = 2 → Leads s i (s.nd i)
  n1 : ∀ i, i < 7 → (s.nd i).role = 1 → Runs s i (s.nd i)
  n0 : ∀ i, i < 7 → Sane s i (s.nd i)
  vd : ∀ v T c L b, v < 7 → s.vd v T = some (c, L, b) → Voted s v T c L b
  cl : ∀ c T, c < 7 → Good s (s.cl c T) ∧ ∀ e ∈ s.cl c T, e.term < T
  ak : ∀ v t, v < 7 → 0 < s.ack v t → t ≤ (s.nd v).term ∧ (∃ l, s.ld t = some l) ∧ s.ack v t ≤ (s.G t).length
  aj : ∀ v t p, v < 7 → p ≤ s.ack v t → (∀ u l, t < u → u ≤ (s.nd v).term → s.ld u = some l → (s.G t).take p = (s.B u).take p) → (s.G t).take p = (s.nd v).es.take p
  ev : ∀ t p m, s.E t p m → Comm c0 s t p m
  eo : ∀ t p m p' m', s.E t p m → s.E t p' m' → p ≤ p' → m ≤ m'
  ec : ∀ t p m, s.E t p m → ∀ u l, t < u → s.ld u = some l → (s.G t).take p = (s.B u).take p
  ms : ∀ x, s.M x → Sent s x

section
variable {c0 t l : Nat} {s : St}
theorem Led.blen (h : Led c0 s t l) : (s.B t).length ≤ (s.G t).length := by
  have := congrArg List.length h.beg
  rw [List.length_take] at this
  omega
theorem Led.bget (h : Led c0 s t l) {k : Nat} (hk : k < (s.B t).length) : (s.B t)[k]? = (s.G t)[k]? := by
  have := List.getElem?_take_of_lt (l := s.G t) hk
  rw [h.beg] at this
  exact this
theorem Led.btake (h : Led c0 s t l) {p : Nat} (hp : p ≤ (s.B t).length) : (s.B t).take p = (s.G t).take p := by
  have := congrArg (List.take p) h.beg
  rw [List.take_take, Nat.min_eq_left hp] at this
  exact this.symm
theorem Led.bterm (h : Led c0 s t l) : ∀ e ∈ s.B t, e.term < t := fun e he => by
  obtain ⟨k, hk⟩ := List.mem_iff_getElem?.1 he
  have hlt := get_lt hk
  rw [h.bget hlt] at hk
  exact (h.terms k e hk).2 hlt
theorem Good.take {L : List Ent} (h : Good s L) (n : Nat) : Good s (L.take n) := fun k e hk => by
  have hlt := get_lt hk
  rw [List.length_take] at hlt
  rw [List.getElem?_take_of_lt (by omega)] at hk
  obtain ⟨h1, h2, h3⟩ := h k e hk
  refine ⟨h1, h2, ?_⟩
  rw [List.take_take, Nat.min_eq_left (by omega)]
  exact h3
theorem Led.bgood (h : Led c0 s t l) : Good s (s.B t) := by
  rw [← h.beg]
  exact h.good.take _
theorem Good.nil : Good s [] := fun k e hk => by simp at hk
theorem Good.rising (h : Inv c0 s) {L : List Ent} (g : Good s L) : Rising L := fun i j a b hij hi hj => by
  obtain ⟨⟨l, h1⟩, h2, h3⟩ := g j b hj
  have hi' : (s.G b.term)[i]? = some a := by rw [← take_get h3 (by omega)]; exact hi
  obtain ⟨k1, k2⟩ := (h.led _ _ h1).terms i a hi'
  rcases Nat.lt_or_ge i (s.B b.term).length with h4 | h4
  · exact Nat.le_of_lt (k2 h4)
  · exact Nat.le_of_eq (k1 h4)
theorem Good.okl (h : Inv c0 s) {L : List Ent} (g : Good s L) : Okl L := fun k e hk => by
  obtain ⟨⟨l, h1⟩, h2, h3⟩ := g k e hk
  exact (h.led _ _ h1).okl k e (by rw [← take_get h3 (by omega)]; exact hk)
theorem Good.match {A D : List Ent} (ga : Good s A) (gd : Good s D) : Match A D := fun i j a d hij hi hj ht => by
  obtain ⟨_, _, h3⟩ := ga i a hi
  obtain ⟨_, _, k3⟩ := gd j d hj
  rw [h3, ht, take_less k3 (by omega)]
/-- The last term of what holds an entry isn't below that. -/
theorem lastT_ge (h : Inv c0 s) {L : List Ent} (g : Good s L) {k : Nat} {e : Ent} (hk : L[k]? = some e) : e.term ≤ lastT L ∧ ∃ f, L[L.length - 1]? = some f ∧ lastT L = f.term := by
  have hlt := get_lt hk
  obtain ⟨f, hf⟩ := get_of (show L.length - 1 < L.length by omega)
  have e2 := lastT_of hf
  rw [e2]
  exact ⟨Good.rising h g k _ e f (by omega) hk hf, f, hf, rfl⟩
def Earlier (t' p' t p : Nat) : Prop := t' < t ∨ (t' = t ∧ p' < p)
/-- All that was committed is in log A, which a majority of its members voted for in T. -/
theorem core (h : Inv c0 s) {t p m : Nat} (hc : Comm c0 s t p m) (hord : ∀ c mc, s.E t c mc → p ≤ c → m ≤ mc)
    {A : List Ent} {T : Nat} {V : Nat → Bool} (ht : t < T) (gA : Good s A) (hAT : ∀ e ∈ A, e.term < T) (hV : majP (cf c0 A) V)
    (hear : ∀ t' p' m', s.E t' p' m' → Earlier t' p' t p → (s.G t').take p' = A.take p')
    (hB : ∀ u l, t < u → u < T → s.ld u = some l → (s.G t).take p = (s.B u).take p)
    (hv : ∀ v, v < 7 → V v = true → p ≤ s.ack v t → ∃ L, Good s L ∧ Newer A L ∧ (s.G t).take p = L.take p) :
    (s.G t).take p = A.take p := by
  apply Classical.byContradiction
  intro hX
  obtain ⟨lt, hlt⟩ := hc.led
  have hL := h.led _ _ hlt
  have hpG : p ≤ (s.G t).length := Nat.le_trans hc.le hc.len
  have hBp := hc.own
  have f1 : ∀ (j : Nat) (e : Ent), A[j]? = some e → e.term ≤ t := fun j e hj => by
    apply Classical.byContradiction
    intro hn
    obtain ⟨⟨l, h1⟩, h2, h3⟩ := gA j e hj
    have hb := hB e.term l (by omega) (hAT e (List.mem_of_getElem? hj)) h1
    have hpB := take_len hb hpG
    have hLe := h.led _ _ h1
    refine hX (hb.trans ?_)
    rw [hLe.btake hpB]
    exact (take_less h3 (by omega)).symm
  have f2 : ∀ (j : Nat) (e : Ent), A[j]? = some e → e.term = t → j + 1 < p := fun j e hj he => by
    apply Classical.byContradiction
    intro hn
    obtain ⟨_, _, h3⟩ := gA j e hj
    rw [he] at h3
    exact hX (take_less h3 (by omega)).symm
  obtain ⟨g0, hg0⟩ := get_of (show p - 1 < (s.G t).length by omega)
  have hg0t : g0.term = t := (hL.terms _ _ hg0).1 (by omega)
  -- so nobody voted who has it
  have hno : ∀ v, v < 7 → V v = true → p ≤ s.ack v t → False := fun v h7 hvv hp => by
    obtain ⟨L, gL, hn, hLp⟩ := hv v h7 hvv hp
    have hpL := take_len hLp hpG
    have hLg : L[p - 1]? = some g0 := by rw [← take_get hLp (by omega)]; exact hg0
    have hge := (lastT_ge h gL hLg).1
    rw [hg0t] at hge
    have hAl : ∀ x, lastT A = x → t ≤ x → A ≠ [] := fun x hx hx2 e => by
      subst e
      rw [lastT_nil] at hx
      have := hL.pos
      omega
    rcases hn with hn | ⟨hn1, hn2⟩
    · have hne := hAl _ rfl (by omega)
      obtain ⟨f, hf⟩ := get_of (show A.length - 1 < A.length by have := List.length_pos_iff.2 hne; omega)
      have := lastT_of hf
      have := f1 _ _ hf
      omega
    · have hne := hAl _ rfl (by omega)
      obtain ⟨f, hf⟩ := get_of (show A.length - 1 < A.length by have := List.length_pos_iff.2 hne; omega)
      have e1 := lastT_of hf
      have e2 := f1 _ _ hf
      have := f2 _ _ hf (by omega)
      omega
  -- up to k both have what was committed ahead
  obtain ⟨k, hk, hmax⟩ := max_of (P := fun k => k = 0 ∨ ∃ t' m', s.E t' k m' ∧ Earlier t' k t p) (N := A.length) (k0 := 0) (fun k hk => by
    rcases hk with rfl | ⟨t', m', h1, h2⟩
    · exact Nat.zero_le _
    · have hc' := h.ev _ _ _ h1
      exact take_len (hear _ _ _ h1 h2) (Nat.le_trans hc'.le hc'.len)) (.inl rfl)
  have hbound : ∀ t' c mc, s.E t' c mc → Earlier t' c t p → c ≤ k := fun t' c mc h1 h2 => hmax c (.inr ⟨t', mc, h1, h2⟩)
  have hpm := hc.le
  have hmG := hc.len
  have hKK : k ≤ A.length ∧ k ≤ m ∧ A.take k = ((s.G t).take m).take k := by
    rcases hk with rfl | ⟨t', m', h1, h2⟩
    · exact ⟨Nat.zero_le _, Nat.zero_le _, by simp⟩
    · have hc' := h.ev _ _ _ h1
      have hkl := Nat.le_trans hc'.le hc'.len
      have ha := hear _ _ _ h1 h2
      have hkm : k ≤ m ∧ (s.G t').take k = (s.G t).take k := by
        rcases h2 with h2 | ⟨rfl, h2⟩
        · have := h.ec _ _ _ h1 _ _ h2 hlt
          have hkB := take_len this hkl
          exact ⟨by omega, this.trans (hL.btake hkB)⟩
        · exact ⟨by omega, rfl⟩
      refine ⟨take_len ha hkl, hkm.1, ?_⟩
      rw [List.take_take, Nat.min_eq_left hkm.1, ← hkm.2]
      exact ha.symm
  have wAny : ∀ (D : List Ent), Good s D → (∀ (j : Nat) (e : Ent) (c mc : Nat), D[j]? = some e → k ≤ j → s.E e.term c mc → mc ≤ j → c ≤ k) → Wit c0 k D := fun D gD hcom j e hj hkj hk2 => by
    obtain ⟨⟨l, h1⟩, h2, h3⟩ := gD j e hj
    have hLs := h.led _ _ h1
    have hGj : (s.G e.term)[j]? = some e := by rw [← take_get h3 (by omega)]; exact hj
    obtain ⟨w1, c, mc, w2, w3, w4⟩ := hLs.wit j e hGj h2 hk2
    have hce := h.ev _ _ _ w2
    have hck := hcom j e c mc hj hkj w2 w3
    rw [← take_less h3 (by omega)] at w1 w4
    have hle := hce.le
    have hown := hce.own
    have hlen := hce.len
    obtain ⟨f, hf⟩ := get_of (show c - 1 < (s.G e.term).length by omega)
    refine ⟨w1, by omega, c - 1, f, by omega, ?_, (hLs.terms _ _ hf).1 (by omega)⟩
    rw [take_get h3 (by omega)]
    exact hf
  have wA : Wit c0 k A := wAny A gA fun j e c mc hj hkj he hmc => by
    refine hbound _ _ _ he ?_
    rcases Nat.lt_or_ge e.term t with h4 | h4
    · exact .inl h4
    · have h5 : e.term = t := by have := f1 _ _ hj; omega
      refine .inr ⟨h5, ?_⟩
      apply Classical.byContradiction
      intro hn
      rw [h5] at he
      have := hord _ _ he (by omega)
      have := f2 _ _ hj h5
      omega
  have gD : Good s ((s.G t).take m) := hL.good.take m
  have wD : Wit c0 k ((s.G t).take m) := wAny _ gD fun j e c mc hj hkj he hmc => by
    have hjl := get_lt hj
    rw [List.length_take] at hjl
    rw [List.getElem?_take_of_lt (by omega)] at hj
    refine hbound _ _ _ he ?_
    obtain ⟨a1, a2⟩ := hL.terms _ _ hj
    rcases Nat.lt_or_ge j (s.B t).length with h4 | h4
    · exact .inl (a2 h4)
    · have h5 := a1 h4
      refine .inr ⟨h5, ?_⟩
      apply Classical.byContradiction
      intro hn
      rw [h5] at he
      have := hord _ _ he (by omega)
      omega
  have hnear := near_logs (Good.okl h gA) (Good.okl h gD) hKK.1 (by rw [List.length_take]; omega) hKK.2.2 (Good.rising h gA) (Good.rising h gD) wA wD (Good.match gA gD) (Good.match gD gA)
  obtain ⟨Q, hQ, hQa⟩ := hc.most
  obtain ⟨v, h7, hv1, hv2⟩ := meet_near hnear hV hQ
  exact hno v h7 hv1 (hQa v h7 hv2)
/-- Who is elected has all that was committed in terms below. -/
theorem elected (h : Inv c0 s) {i : Nat} (hi : i < 7) (hr : (s.nd i).role = 1) (hm : majP (cf c0 (s.nd i).es) (s.nd i).votes.testBit) :
    ∀ t p m, s.E t p m → t < (s.nd i).term → (s.G t).take p = (s.nd i).es.take p := by
  have hn1 := h.n1 i hi hr
  intro t
  induction t using Nat.strongRecOn with
  | ind t iht =>
    intro p
    induction p using Nat.strongRecOn with
    | ind p ihp =>
      intro m he hT
      have hn0 := h.n0 i hi
      refine core h (h.ev _ _ _ he) (fun c mc h1 h2 => h.eo _ _ _ _ _ he h1 h2) hT hn0.good hn1.low hm (fun t' p' m' h1 h2 => ?_) (fun u l h1 _ h3 => h.ec _ _ _ he u l h1 h3) fun v h7 hv hp => ?_
      · rcases h2 with h2 | ⟨rfl, h2⟩
        · exact iht t' h2 p' m' h1 (by omega)
        · exact ihp p' h2 m' h1 hT
      · obtain ⟨L, b, hvd⟩ := hn1.votes v h7 hv
        have hV := h.vd _ _ _ _ _ h7 hvd
        refine ⟨L, hV.good, by rw [hn1.es]; exact hV.newer, hV.hold t p hT hp fun u l h1 _ h3 => h.ec _ _ _ he u l h1 h3⟩
/-- Nobody else was. -/
theorem alone (h : Inv c0 s) {i : Nat} (hi : i < 7) (hr : (s.nd i).role = 1) (hm : majP (cf c0 (s.nd i).es) (s.nd i).votes.testBit) : s.ld (s.nd i).term = none := by
  cases hld : s.ld (s.nd i).term with
  | none => rfl
  | some l =>
    exfalso
    have hn1 := h.n1 i hi hr
    have hn0 := h.n0 i hi
    obtain ⟨T, hT⟩ : ∃ T, (s.nd i).term = T := ⟨_, rfl⟩
    obtain ⟨A, hA⟩ : ∃ A, (s.nd i).es = A := ⟨_, rfl⟩
    have hel := elected h hi hr hm
    have gA := hn0.good
    have hAT := hn1.low
    rw [hT] at hld hel hAT
    rw [hA] at hm hel gA hAT
    have hL := h.led _ _ hld
    have gD := hL.bgood
    have hDT := hL.bterm
    obtain ⟨k, hk, hmax⟩ := max_of (P := fun k => k = 0 ∨ ∃ t' m', s.E t' k m' ∧ t' < T) (N := A.length) (k0 := 0) (fun k hk => by
      rcases hk with rfl | ⟨t', m', h1, h2⟩
      · exact Nat.zero_le _
      · have hc' := h.ev _ _ _ h1
        exact take_len (hel _ _ _ h1 h2) (Nat.le_trans hc'.le hc'.len)) (.inl rfl)
    have hKK : k ≤ A.length ∧ k ≤ (s.B T).length ∧ A.take k = (s.B T).take k := by
      rcases hk with rfl | ⟨t', m', h1, h2⟩
      · exact ⟨Nat.zero_le _, Nat.zero_le _, by simp⟩
      · have hc' := h.ev _ _ _ h1
        have hkl := Nat.le_trans hc'.le hc'.len
        have ha := hel _ _ _ h1 h2
        have hb := h.ec _ _ _ h1 _ _ h2 hld
        exact ⟨take_len ha hkl, take_len hb hkl, ha.symm.trans hb⟩
    have wAny : ∀ (D : List Ent), Good s D → (∀ e ∈ D, e.term < T) → Wit c0 k D := fun D gD hDT j e hj hkj hk2 => by
      obtain ⟨⟨l, h1⟩, h2, h3⟩ := gD j e hj
      have hLs := h.led _ _ h1
      have hGj : (s.G e.term)[j]? = some e := by rw [← take_get h3 (by omega)]; exact hj
      obtain ⟨w1, c, mc, w2, w3, w4⟩ := hLs.wit j e hGj h2 hk2
      have hce := h.ev _ _ _ w2
      have hck : c ≤ k := hmax c (.inr ⟨_, _, w2, hDT e (List.mem_of_getElem? hj)⟩)
      rw [← take_less h3 (by omega)] at w1 w4
      have hle := hce.le
      have hown := hce.own
      have hlen := hce.len
      obtain ⟨f, hf⟩ := get_of (show c - 1 < (s.G e.term).length by omega)
      refine ⟨w1, by omega, c - 1, f, by omega, ?_, (hLs.terms _ _ hf).1 (by omega)⟩
      rw [take_get h3 (by omega)]
      exact hf
    have hnear := near_logs (Good.okl h gA) (Good.okl h gD) hKK.1 hKK.2.1 hKK.2.2 (Good.rising h gA) (Good.rising h gD) (wAny A gA hAT) (wAny _ gD hDT) (Good.match gA gD) (Good.match gD gA)
    obtain ⟨v, h7, hv1, hv2⟩ := meet_near hnear hm hL.most
    obtain ⟨L1, b1, e1⟩ := hn1.votes v h7 hv1
    obtain ⟨L2, e2⟩ := hL.votes v h7 hv2
    rw [hT, e2] at e1
    cases e1
    exact hn1.ld (by rw [hT]; exact hld)
/-- What is committed anew is in the logs of those who were elected since. -/
theorem committed (h : Inv c0 s) {t p m : Nat} (hc : Comm c0 s t p m) (hord : ∀ c mc, s.E t c mc → p ≤ c → m ≤ mc) :
    ∀ u l, t < u → s.ld u = some l → (s.G t).take p = (s.B u).take p := by
  intro u
  induction u using Nat.strongRecOn with
  | ind u ih =>
    intro l hu hl
    have hL := h.led _ _ hl
    refine core h hc hord hu hL.bgood hL.bterm hL.most (fun t' p' m' h1 h2 => h.ec _ _ _ h1 u l (by rcases h2 with h2 | ⟨h2, _⟩ <;> omega) hl) (fun u' l' h1 h2 h3 => ih u' h2 l' h1 h3) fun v h7 hv hp => ?_
    obtain ⟨L, hvd⟩ := hL.votes v h7 hv
    have hV := h.vd _ _ _ _ _ h7 hvd
    refine ⟨L, hV.good, by rw [hL.stood]; exact hV.newer, hV.hold t p hu hp fun u' l' h1 h2 h3 => ?_⟩
    rcases h2 with h2 | ⟨_, h2⟩
    · exact ih u' h2 l' h1 h3
    · cases h2
end
end Go.Proofs.YtokifeghoodkgaaGreat.ElB
set_option linter.unusedVariables false
namespace Go.Proofs.YtokifeghoodkgaaGreat.ElB
open Go.Proofs.YtokifeghoodkgaaGreat.Rlog Go.Proofs.YtokifeghoodkgaaGreat.Nod Go.Proofs.YtokifeghoodkgaaGreat.ElA
open Go.Proofs.YtokifeghoodkgaaGreat.Quorum (need sound maj node change)

def upd {α : Type} (f : Nat → α) (a : Nat) (x : α) (b : Nat) : α := if b = a then x else f b
theorem upd_eq {α : Type} (f : Nat → α) (a : Nat) (x : α) : upd f a x a = x := if_pos rfl
theorem upd_ne {α : Type} (f : Nat → α) {a b : Nat} (x : α) (h : b ≠ a) : upd f a x b = f b := if_neg h
/-- Of a node and a term. -/
def upt {α : Type} (f : Nat → Nat → α) (i T : Nat) (x : α) (a b : Nat) : α := if a = i ∧ b = T then x else f a b
theorem upt_eq {α : Type} (f : Nat → Nat → α) (i T : Nat) (x : α) : upt f i T x i T = x := if_pos ⟨rfl, rfl⟩
theorem upt_ne {α : Type} (f : Nat → Nat → α) {i T a b : Nat} (x : α) (h : ¬ (a = i ∧ b = T)) : upt f i T x a b = f a b := if_neg h

/-- What is there stays. -/
structure Ext (s s' : St) : Prop where
  tm : ∀ i, (s.nd i).term ≤ (s'.nd i).term
  cl : ∀ c T, T ≤ (s.nd c).term → s'.cl c T = s.cl c T
  vd : ∀ v T x, s.vd v T = some x → s'.vd v T = some x
  ld : ∀ t l, s.ld t = some l → s'.ld t = some l
  G : ∀ t l, s.ld t = some l → (s'.G t).take (s.G t).length = s.G t
  B : ∀ t l, s.ld t = some l → s'.B t = s.B t
  V : ∀ t l, s.ld t = some l → s'.V t = s.V t
  ack : ∀ v t, s.ack v t ≤ s'.ack v t
  E : ∀ t p m, s.E t p m → s'.E t p m
  M : ∀ x, s.M x → s'.M x
section
variable {c0 : Nat} {s s' s2 : St}
theorem Ext.refl (s : St) : Ext s s := ⟨fun _ => Nat.le_refl _, fun _ _ _ => rfl, fun _ _ _ h => h, fun _ _ h => h, fun _ _ _ => List.take_length, fun _ _ _ => rfl, fun _ _ _ => rfl, fun _ _ => Nat.le_refl _, fun _ _ _ h => h, fun _ h => h⟩
theorem Ext.glen (x : Ext s s') {t l : Nat} (h : s.ld t = some l) : (s.G t).length ≤ (s'.G t).length := by
  have := congrArg List.length (x.G t l h)
  rw [List.length_take] at this
  omega
theorem Ext.gtake (x : Ext s s') {t l n : Nat} (h : s.ld t = some l) (hn : n ≤ (s.G t).length) : (s'.G t).take n = (s.G t).take n := by
  have := congrArg (List.take n) (x.G t l h)
  rwa [List.take_take, Nat.min_eq_left hn] at this
theorem Ext.trans (a : Ext s s') (b : Ext s' s2) : Ext s s2 :=
  ⟨fun i => Nat.le_trans (a.tm i) (b.tm i), fun c T h => (b.cl c T (Nat.le_trans h (a.tm c))).trans (a.cl c T h), fun v T x h => b.vd v T x (a.vd v T x h), fun t l h => b.ld t l (a.ld t l h),
    fun t l h => by rw [b.gtake (a.ld t l h) (a.glen h)]; exact a.G t l h, fun t l h => (b.B t l (a.ld t l h)).trans (a.B t l h), fun t l h => (b.V t l (a.ld t l h)).trans (a.V t l h), fun v t => Nat.le_trans (a.ack v t) (b.ack v t), fun t p m h => b.E t p m (a.E t p m h), fun x h => b.M x (a.M x h)⟩
theorem Good.mono (x : Ext s s') {L : List Ent} (h : Good s L) : Good s' L := fun k e hk => by
  obtain ⟨⟨l, h1⟩, h2, h3⟩ := h k e hk
  refine ⟨⟨l, x.ld _ _ h1⟩, by rw [x.B _ _ h1]; exact h2, ?_⟩
  have := take_len h3 (by have := get_lt hk; omega)
  rw [h3, x.gtake h1 this]
theorem Cov.mono (x : Ext s s') (h : Inv c0 s) {T T' c : Nat} {L : List Ent} (hc : Cov s T L c) (hT : T ≤ T') : Cov s' T' L c := by
  refine ⟨hc.1, hc.2.imp id ?_⟩
  rintro ⟨t, p, m, h1, h2, h3, h4⟩
  have he := h.ev _ _ _ h1
  obtain ⟨l, hl⟩ := he.led
  have hlen := Nat.le_trans he.le he.len
  exact ⟨t, p, m, x.E _ _ _ h1, by omega, h3, by rw [h4, x.gtake hl (by omega)]⟩
theorem Cov.log {T c n : Nat} {L R : List Ent} (hc : Cov s T L c) (hR : R.take n = L.take n) (hn : c ≤ n) : Cov s T R c := by
  have h1 := take_less hR hn
  refine ⟨take_len h1.symm hc.1, hc.2.imp id ?_⟩
  rintro ⟨t, p, m, k1, k2, k3, k4⟩
  exact ⟨t, p, m, k1, k2, k3, h1.trans k4⟩
theorem Sent.mono (x : Ext s s') (h : Inv c0 s) {y : Msg} (k : Sent s y) : Sent s' y where
  k5 := k.k5
  k1 e := by
    obtain ⟨c, h1, h2, h3, h4, h5⟩ := k.k1 e
    have := x.cl c _ h3
    exact ⟨c, h1, h2, Nat.le_trans h3 (x.tm c), by rw [this]; exact h4, by rw [this]; exact h5⟩
  k2 e o := by
    obtain ⟨v, c, L, b, h1, h2, h3, h4⟩ := k.k2 e o
    exact ⟨v, c, L, b, h1, h2, h3, x.vd _ _ _ h4⟩
  k3 e := by
    obtain ⟨l, h1, h2, h3, h4, h5, h6⟩ := k.k3 e
    have hg := x.gtake (n := y.ix + y.es.length) h1 h3
    refine ⟨l, x.ld _ _ h1, h2, Nat.le_trans h3 (x.glen h1), ?_, ?_, ?_⟩
    · rw [h4, List.length_take, List.length_drop, Nat.min_eq_left (by omega), List.take_drop, List.take_drop, hg]
    · rw [h5, x.gtake h1 (by omega)]
    · exact Cov.log (Cov.mono x h h6 (Nat.le_refl _)) (x.gtake h1 (Nat.le_refl _)) h6.1
  k4 e o := by
    obtain ⟨v, h1, h2, h3⟩ := k.k4 e o
    exact ⟨v, h1, h2, Nat.le_trans h3 (x.ack _ _)⟩
theorem Voted.mono (x : Ext s s') (hG : ∀ t l, s.ld t = some l → ∀ v, v < 7 → s.ack v t ≤ (s.G t).length) {v T c : Nat} {L : List Ent} {b : Bool} (k : Voted s v T c L b)
    (hak : ∀ t, t < T → s'.ack v t = s.ack v t) (hal : ∀ t, 0 < s.ack v t → ∃ l, s.ld t = some l) (h7 : v < 7) : Voted s' v T c L b where
  id := k.id
  low := Nat.le_trans k.low (x.tm c)
  good := Good.mono x k.good
  newer := by rw [x.cl c T k.low]; exact k.newer
  late hb := by
    obtain ⟨l, hl⟩ := k.late hb
    exact ⟨l, x.ld _ _ hl⟩
  hold t p ht hp ha := by
    rw [hak t ht] at hp
    rcases Nat.eq_zero_or_pos p with rfl | hp0
    · simp
    obtain ⟨l, hl⟩ := hal t (by omega)
    have hlen := hG t l hl v h7
    rw [x.gtake hl (by omega)]
    refine k.hold t p ht hp fun u l' h1 h2 h3 => ?_
    have := ha u l' h1 h2 (x.ld _ _ h3)
    rw [x.gtake hl (by omega), x.B _ _ h3] at this
    exact this
theorem Led.mono (x : Ext s s') (h : Inv c0 s) {t l : Nat} (hl : s.ld t = some l) (hG : s'.G t = s.G t) : Led c0 s' t l := by
  have k := h.led t l hl
  have hB := x.B t l hl
  exact {
    id := k.id
    low := Nat.le_trans k.low (x.tm l)
    pos := k.pos
    beg := by rw [hB, hG]; exact k.beg
    terms := by rw [hB, hG]; exact k.terms
    good := by rw [hG]; exact Good.mono x k.good
    okl := by rw [hG]; exact k.okl
    wit := by
      rw [hB, hG]
      intro i e h1 h2 h3
      obtain ⟨w1, c, m, w2, w3⟩ := k.wit i e h1 h2 h3
      exact ⟨w1, c, m, x.E _ _ _ w2, w3⟩
    stood := by rw [hB, x.cl l t k.low]; exact k.stood
    most := by rw [hB, x.V t l hl]; exact k.most
    votes := by
      rw [x.V t l hl]
      intro v h1 h2
      obtain ⟨L, h3⟩ := k.votes v h1 h2
      exact ⟨L, x.vd _ _ _ h3⟩ }
theorem Comm.mono (x : Ext s s') {t p m : Nat} (k : Comm c0 s t p m) : Comm c0 s' t p m := by
  obtain ⟨l, hl⟩ := k.led
  obtain ⟨Q, h1, h2⟩ := k.most
  exact ⟨⟨l, x.ld _ _ hl⟩, k.le, Nat.le_trans k.len (x.glen hl), by rw [x.B _ _ hl]; exact k.own, Q, by rw [x.gtake hl k.len]; exact h1, fun v h7 hq => Nat.le_trans (h2 v h7 hq) (x.ack _ _)⟩
theorem Inv.acklen (h : Inv c0 s) : ∀ t l, s.ld t = some l → ∀ v, v < 7 → s.ack v t ≤ (s.G t).length := fun t l hl v h7 => by
  rcases Nat.eq_zero_or_pos (s.ack v t) with h0 | h0
  · omega
  · exact (h.ak v t h7 h0).2.2
theorem Inv.ackled (h : Inv c0 s) {v : Nat} (h7 : v < 7) : ∀ t, 0 < s.ack v t → ∃ l, s.ld t = some l := fun t h0 => (h.ak v t h7 h0).2.1

/-! ### A letter is sent -/
def St.say (s : St) (x : Msg) : St := { s with M := fun y => s.M y ∨ y = x }
theorem ext_say (s : St) (x : Msg) : Ext s (s.say x) := { Ext.refl s with M := fun y h => .inl h }
theorem inv_say (h : Inv c0 s) {x : Msg} (hx : Sent s x) : Inv c0 (s.say x) where
  led t l hl := Led.mono (ext_say s x) h hl rfl
  n2 i hi hr := ⟨(h.n2 i hi hr).ld, (h.n2 i hi hr).es, (h.n2 i hi hr).mat, (h.n2 i hi hr).com, (h.n2 i hi hr).all⟩
  n1 i hi hr := ⟨(h.n1 i hi hr).ld, (h.n1 i hi hr).es, (h.n1 i hi hr).pos, (h.n1 i hi hr).votes, (h.n1 i hi hr).low⟩
  n0 i hi := ⟨(h.n0 i hi).good, (h.n0 i hi).low, (h.n0 i hi).cov, (h.n0 i hi).later, (h.n0 i hi).vote⟩
  vd v T c L b h7 hv := Voted.mono (ext_say s x) h.acklen (h.vd v T c L b h7 hv) (fun _ _ => rfl) (h.ackled h7) h7
  cl := h.cl
  ak := h.ak
  aj := h.aj
  ev t p m he := Comm.mono (ext_say s x) (h.ev t p m he)
  eo := h.eo
  ec := h.ec
  ms y hy := by
    rcases hy with hy | rfl
    · exact Sent.mono (ext_say s x) h (h.ms y hy)
    · exact Sent.mono (ext_say s y) h hx

/-! ### A node changes -/
def St.put (s : St) (i : Nat) (n : Co) : St := { s with nd := upd s.nd i n }
theorem put_at (s : St) (i : Nat) (n : Co) : (s.put i n).nd i = n := upd_eq _ _ _
theorem put_off (s : St) {i j : Nat} (n : Co) (h : j ≠ i) : (s.put i n).nd j = s.nd j := upd_ne _ _ h
theorem ext_put (s : St) (i : Nat) (n : Co) (ht : (s.nd i).term ≤ n.term) : Ext s (s.put i n) := by
  have h : ∀ j, (s.nd j).term ≤ ((s.put i n).nd j).term := fun j => by
    by_cases e : j = i
    · subst e; rw [put_at]; exact ht
    · rw [put_off _ _ e]; exact Nat.le_refl _
  exact { Ext.refl s with tm := h }
/-- The node's log is as it was; its term may be greater. -/
theorem inv_put (h : Inv c0 s) {i : Nat} (hi : i < 7) {n : Co} (ht : (s.nd i).term ≤ n.term) (he : n.es = (s.nd i).es) (k0 : Sane s i n) (k1 : n.role = 1 → Runs s i n) (k2 : n.role = 2 → Leads s i n) : Inv c0 (s.put i n) := by
  have x := ext_put s i n ht
  have hnd : ∀ {P : Nat → Co → Prop}, P i n → (∀ j, j ≠ i → P j (s.nd j)) → ∀ j, P j ((s.put i n).nd j) := fun {P} h1 h2 j => by
    by_cases e : j = i
    · subst e; rw [put_at]; exact h1
    · rw [put_off _ _ e]; exact h2 j e
  exact {
    led := fun t l hl => Led.mono x h hl rfl
    n2 := hnd (P := fun j m => j < 7 → m.role = 2 → Leads (s.put i n) j m) (fun _ hr => ⟨(k2 hr).ld, (k2 hr).es, (k2 hr).mat, (k2 hr).com, (k2 hr).all⟩) (fun j _ hj hr => ⟨(h.n2 j hj hr).ld, (h.n2 j hj hr).es, (h.n2 j hj hr).mat, (h.n2 j hj hr).com, (h.n2 j hj hr).all⟩)
    n1 := hnd (P := fun j m => j < 7 → m.role = 1 → Runs (s.put i n) j m) (fun _ hr => ⟨(k1 hr).ld, (k1 hr).es, (k1 hr).pos, (k1 hr).votes, (k1 hr).low⟩) (fun j _ hj hr => ⟨(h.n1 j hj hr).ld, (h.n1 j hj hr).es, (h.n1 j hj hr).pos, (h.n1 j hj hr).votes, (h.n1 j hj hr).low⟩)
    n0 := hnd (P := fun j m => j < 7 → Sane (s.put i n) j m) (fun _ => ⟨k0.good, k0.low, k0.cov, k0.later, k0.vote⟩) (fun j _ hj => ⟨(h.n0 j hj).good, (h.n0 j hj).low, (h.n0 j hj).cov, (h.n0 j hj).later, (h.n0 j hj).vote⟩)
    vd := fun v T c L b h7 hv => Voted.mono x h.acklen (h.vd v T c L b h7 hv) (fun _ _ => rfl) (h.ackled h7) h7
    cl := h.cl
    ak := fun v t h7 h0 => ⟨Nat.le_trans (h.ak v t h7 h0).1 (x.tm v), (h.ak v t h7 h0).2⟩
    aj := hnd (P := fun v m => ∀ t p, v < 7 → p ≤ s.ack v t → (∀ u l, t < u → u ≤ m.term → s.ld u = some l → (s.G t).take p = (s.B u).take p) → (s.G t).take p = m.es.take p)
      (fun t p h7 hp ha => by rw [he]; exact h.aj i t p h7 hp fun u l h1 h2 h3 => ha u l h1 (Nat.le_trans h2 ht) h3) (fun v _ t p h7 hp ha => h.aj v t p h7 hp ha)
      |> fun f v t p h7 => f v t p h7
    ev := fun t p m he => Comm.mono x (h.ev t p m he)
    eo := h.eo
    ec := h.ec
    ms := fun y hy => Sent.mono x h (h.ms y hy) }
/-- A node follows a greater term. -/
theorem inv_follow (h : Inv c0 s) {i : Nat} (hi : i < 7) {n : Co} (ht : (s.nd i).term < n.term) (he : n.es = (s.nd i).es) (hc : n.commit = (s.nd i).commit) (hr : n.role = 0) (hv : n.vote = -1) : Inv c0 (s.put i n) := by
  have k := h.n0 i hi
  refine inv_put h hi (Nat.le_of_lt ht) he ⟨by rw [he]; exact k.good, fun e hx => ?_, ?_, fun T hT => k.later T (by omega), .inl ⟨hv, k.later _ ht⟩⟩ (fun e => by omega) (fun e => by omega)
  · rw [he] at hx
    have := k.low e hx
    omega
  · rw [he, hc]
    exact Cov.mono (Ext.refl s) h k.cov (Nat.le_of_lt ht)
/-- A node's term, vote, log and commit are as they were. -/
theorem inv_turn (h : Inv c0 s) {i : Nat} (hi : i < 7) {n : Co} (ht : n.term = (s.nd i).term) (he : n.es = (s.nd i).es) (hc : n.commit = (s.nd i).commit) (hv : n.vote = (s.nd i).vote) (k1 : n.role = 1 → Runs s i n) (k2 : n.role = 2 → Leads s i n) : Inv c0 (s.put i n) := by
  have k := h.n0 i hi
  exact inv_put h hi (by omega) he ⟨by rw [he]; exact k.good, by rw [he, ht]; exact k.low, by rw [he, hc, ht]; exact k.cov, by rw [ht]; exact k.later, by rw [hv, ht]; exact k.vote⟩ k1 k2

/-! ### A node stands -/
def St.stand (s : St) (i : Nat) (n : Co) : St := { s.put i n with cl := upt s.cl i n.term n.es, vd := upt s.vd i n.term (some (i, n.es, (s.ld n.term).isSome)) }
theorem inv_stand (h : Inv c0 s) {i : Nat} (hi : i < 7) {n : Co} (ht : n.term = (s.nd i).term + 1) (he : n.es = (s.nd i).es) (hc : n.commit = (s.nd i).commit) (hr : n.role = 1) (hv : n.vote = ((i : Nat) : Int)) (hb : ∀ v, v < 7 → n.votes.testBit v = true → v = i) : Inv c0 (s.stand i n) ∧ Ext s (s.stand i n) := by
  have k := h.n0 i hi
  have hlow : ∀ e ∈ n.es, e.term < n.term := fun e hx => by
    rw [he] at hx
    have := k.low e hx
    omega
  have x : Ext s (s.stand i n) := { ext_put s i n (by omega) with
    cl := fun c T hT => upt_ne _ _ fun e => by obtain ⟨rfl, rfl⟩ := e; omega
    vd := fun v T y hy => by
      by_cases e : v = i ∧ T = n.term
      · obtain ⟨rfl, rfl⟩ := e
        rw [k.later _ (by omega)] at hy
        cases hy
      · exact (upt_ne _ _ e).trans hy }
  have hnd : ∀ {P : Nat → Co → Prop}, P i n → (∀ j, j ≠ i → P j (s.nd j)) → ∀ j, P j ((s.stand i n).nd j) := fun {P} h1 h2 j => by
    by_cases e : j = i
    · subst e; rw [show (s.stand j n).nd j = n from put_at s j n]; exact h1
    · have : (s.stand i n).nd j = s.nd j := put_off _ _ e
      rw [this]; exact h2 j e
  have gl : Good s n.es := by rw [he]; exact k.good
  have hvi : (s.stand i n).vd i n.term = some (i, n.es, (s.ld n.term).isSome) := upt_eq _ _ _ _
  have hci : (s.stand i n).cl i n.term = n.es := upt_eq _ _ _ _
  have hld : s.ld n.term ≠ some i := fun e => by
    have := (h.led _ _ e).low
    omega
  refine ⟨{
    led := fun t l hl => Led.mono x h hl rfl
    n2 := hnd (P := fun j m => j < 7 → m.role = 2 → Leads (s.stand i n) j m) (fun _ hr' => by omega) (fun j _ hj hr => ⟨(h.n2 j hj hr).ld, (h.n2 j hj hr).es, (h.n2 j hj hr).mat, (h.n2 j hj hr).com, (h.n2 j hj hr).all⟩)
    n1 := hnd (P := fun j m => j < 7 → m.role = 1 → Runs (s.stand i n) j m) (fun _ _ => ⟨hld, hci.symm, by omega, fun v h7 hb' => ?_, hlow⟩) (fun j hj hj7 hr => ?_)
    n0 := hnd (P := fun j m => j < 7 → Sane (s.stand i n) j m) (fun _ => ⟨gl, fun e hx => Nat.le_of_lt (hlow e hx), by rw [he, hc]; exact Cov.mono x h k.cov (by omega), fun T hT => ?_, .inr ⟨i, n.es, _, hv, hvi⟩⟩) (fun j hj hj7 => ⟨(h.n0 j hj7).good, (h.n0 j hj7).low, (h.n0 j hj7).cov, fun T hT => ?_, ?_⟩)
    vd := fun v T c L b h7 hv' => ?_
    cl := fun c T h7 => ?_
    ak := fun v t h7 h0 => ⟨Nat.le_trans (h.ak v t h7 h0).1 (x.tm v), (h.ak v t h7 h0).2⟩
    aj := hnd (P := fun v m => ∀ t p, v < 7 → p ≤ s.ack v t → (∀ u l, t < u → u ≤ m.term → s.ld u = some l → (s.G t).take p = (s.B u).take p) → (s.G t).take p = m.es.take p)
      (fun t p h7 hp ha => by rw [he]; exact h.aj i t p h7 hp fun u l h1 h2 h3 => ha u l h1 (by omega) h3) (fun v _ t p h7 hp ha => h.aj v t p h7 hp ha)
      |> fun f v t p h7 => f v t p h7
    ev := fun t p m he => Comm.mono x (h.ev t p m he)
    eo := h.eo
    ec := h.ec
    ms := fun y hy => Sent.mono x h (h.ms y hy) }, x⟩
  · obtain rfl := hb v h7 hb'
    exact ⟨_, _, hvi⟩
  · have k1 := h.n1 j hj7 hr
    refine ⟨k1.ld, k1.es.trans (upt_ne _ _ fun e => hj e.1).symm, k1.pos, fun v h7 hb' => ?_, k1.low⟩
    obtain ⟨L, b, h3⟩ := k1.votes v h7 hb'
    exact ⟨L, b, x.vd _ _ _ h3⟩
  · exact (upt_ne _ _ fun e => by omega).trans (k.later T (by omega))
  · exact (upt_ne _ _ fun e => hj e.1).trans ((h.n0 j hj7).later T hT)
  · have : (s.stand i n).vd j (s.nd j).term = s.vd j (s.nd j).term := upt_ne _ _ fun e => hj e.1
    rw [this]
    exact (h.n0 j hj7).vote
  · by_cases e : v = i ∧ T = n.term
    · obtain ⟨rfl, rfl⟩ := e
      rw [hvi] at hv'
      cases hv'
      refine ⟨hi, by rw [show (s.stand v n).nd v = n from put_at _ _ _]; exact Nat.le_refl _, gl, by rw [hci]; exact .inr ⟨rfl, Nat.le_refl _⟩, fun hb' => ?_, fun t p h1 h2 h3 => ?_⟩
      · cases hl : s.ld n.term with
        | none => rw [hl] at hb'; cases hb'
        | some l => exact ⟨l, hl⟩
      · rw [he]
        exact h.aj v t p h7 h2 fun u l k1 k2 k3 => h3 u l k1 (.inl (by omega)) k3
    · have : (s.stand i n).vd v T = s.vd v T := upt_ne _ _ e
      rw [this] at hv'
      exact Voted.mono x h.acklen (h.vd v T c L b h7 hv') (fun _ _ => rfl) (h.ackled h7) h7
  · by_cases e : c = i ∧ T = n.term
    · obtain ⟨rfl, rfl⟩ := e
      rw [hci]
      exact ⟨gl, hlow⟩
    · have : (s.stand i n).cl c T = s.cl c T := upt_ne _ _ e
      rw [this]
      exact h.cl c T h7

/-! ### A node votes -/
def St.grant (s : St) (i c : Nat) (n : Co) : St := { s.put i n with vd := upt s.vd i n.term (some (c, n.es, (s.ld n.term).isSome)) }
theorem inv_grant (h : Inv c0 s) {i c : Nat} (hi : i < 7) (hc7 : c < 7) {n : Co} (ht : n.term = (s.nd i).term) (he : n.es = (s.nd i).es) (hc : n.commit = (s.nd i).commit) (hr : n.role = 0) (hv0 : (s.nd i).vote = -1) (hv : n.vote = ((c : Nat) : Int))
    (hl : n.term ≤ (s.nd c).term) (hnew : Newer (s.cl c n.term) n.es) : Inv c0 (s.grant i c n) ∧ Ext s (s.grant i c n) := by
  have k := h.n0 i hi
  have hnone : s.vd i n.term = none := by
    rcases k.vote with ⟨_, h1⟩ | ⟨c', L, b, h1, _⟩
    · rw [ht]; exact h1
    · omega
  have x : Ext s (s.grant i c n) := { ext_put s i n (by omega) with
    vd := fun v T y hy => by
      by_cases e : v = i ∧ T = n.term
      · obtain ⟨rfl, rfl⟩ := e
        rw [hnone] at hy
        cases hy
      · exact (upt_ne _ _ e).trans hy }
  have hnd : ∀ {P : Nat → Co → Prop}, P i n → (∀ j, j ≠ i → P j (s.nd j)) → ∀ j, P j ((s.grant i c n).nd j) := fun {P} h1 h2 j => by
    by_cases e : j = i
    · subst e; rw [show (s.grant j c n).nd j = n from put_at s j n]; exact h1
    · have : (s.grant i c n).nd j = s.nd j := put_off _ _ e
      rw [this]; exact h2 j e
  have gl : Good s n.es := by rw [he]; exact k.good
  have hvi : (s.grant i c n).vd i n.term = some (c, n.es, (s.ld n.term).isSome) := upt_eq _ _ _ _
  refine ⟨{
    led := fun t l hl => Led.mono x h hl rfl
    n2 := hnd (P := fun j m => j < 7 → m.role = 2 → Leads (s.grant i c n) j m) (fun _ hr' => by omega) (fun j _ hj hr => ⟨(h.n2 j hj hr).ld, (h.n2 j hj hr).es, (h.n2 j hj hr).mat, (h.n2 j hj hr).com, (h.n2 j hj hr).all⟩)
    n1 := hnd (P := fun j m => j < 7 → m.role = 1 → Runs (s.grant i c n) j m) (fun _ hr' => by omega) (fun j hj hj7 hr => ?_)
    n0 := hnd (P := fun j m => j < 7 → Sane (s.grant i c n) j m) (fun _ => ⟨gl, by rw [he, ht]; exact k.low, by rw [he, hc, ht]; exact k.cov, fun T hT => ?_, .inr ⟨c, n.es, _, hv, hvi⟩⟩) (fun j hj hj7 => ⟨(h.n0 j hj7).good, (h.n0 j hj7).low, (h.n0 j hj7).cov, fun T hT => ?_, ?_⟩)
    vd := fun v T c' L b h7 hv' => ?_
    cl := h.cl
    ak := fun v t h7 h0 => ⟨Nat.le_trans (h.ak v t h7 h0).1 (x.tm v), (h.ak v t h7 h0).2⟩
    aj := hnd (P := fun v m => ∀ t p, v < 7 → p ≤ s.ack v t → (∀ u l, t < u → u ≤ m.term → s.ld u = some l → (s.G t).take p = (s.B u).take p) → (s.G t).take p = m.es.take p)
      (fun t p h7 hp ha => by rw [he]; exact h.aj i t p h7 hp fun u l h1 h2 h3 => ha u l h1 (by omega) h3) (fun v _ t p h7 hp ha => h.aj v t p h7 hp ha)
      |> fun f v t p h7 => f v t p h7
    ev := fun t p m he => Comm.mono x (h.ev t p m he)
    eo := h.eo
    ec := h.ec
    ms := fun y hy => Sent.mono x h (h.ms y hy) }, x⟩
  · have k1 := h.n1 j hj7 hr
    refine ⟨k1.ld, k1.es, k1.pos, fun v h7 hb' => ?_, k1.low⟩
    obtain ⟨L, b, h3⟩ := k1.votes v h7 hb'
    exact ⟨L, b, x.vd _ _ _ h3⟩
  · exact (upt_ne _ _ fun e => by omega).trans (k.later T (by omega))
  · exact (upt_ne _ _ fun e => hj e.1).trans ((h.n0 j hj7).later T hT)
  · have : (s.grant i c n).vd j (s.nd j).term = s.vd j (s.nd j).term := upt_ne _ _ fun e => hj e.1
    rw [this]
    exact (h.n0 j hj7).vote
  · by_cases e : v = i ∧ T = n.term
    · obtain ⟨rfl, rfl⟩ := e
      rw [hvi] at hv'
      cases hv'
      refine ⟨hc7, Nat.le_trans hl (x.tm c), gl, hnew, fun hb' => ?_, fun t p h1 h2 h3 => ?_⟩
      · cases hl : s.ld n.term with
        | none => rw [hl] at hb'; cases hb'
        | some l => exact ⟨l, hl⟩
      · rw [he]
        refine h.aj v t p h7 h2 fun u l k1 k2 k3 => h3 u l k1 ?_ k3
        rcases Nat.lt_or_ge u n.term with h4 | h4
        · exact .inl h4
        · have : u = n.term := by omega
          refine .inr ⟨this, ?_⟩
          rw [← this, k3]
          rfl
    · have : (s.grant i c n).vd v T = s.vd v T := upt_ne _ _ e
      rw [this] at hv'
      exact Voted.mono x h.acklen (h.vd v T c' L b h7 hv') (fun _ _ => rfl) (h.ackled h7) h7
end
end Go.Proofs.YtokifeghoodkgaaGreat.ElB
set_option linter.unusedVariables false
namespace Go.Proofs.YtokifeghoodkgaaGreat.ElB
open Go.Proofs.YtokifeghoodkgaaGreat.Rlog Go.Proofs.YtokifeghoodkgaaGreat.Nod Go.Proofs.YtokifeghoodkgaaGreat.ElA
open Go.Proofs.YtokifeghoodkgaaGreat.Quorum (need sound maj node change)

section
variable {c0 : Nat} {s s' : St}
theorem Leads.mono {j : Nat} {m : Co} (k : Leads s j m) (x : Ext s s') (hG : s'.G m.term = s.G m.term) (hE : ∀ p q, s'.E m.term p q → s.E m.term p q) : Leads s' j m where
  ld := x.ld _ _ k.ld
  es := by rw [hG]; exact k.es
  mat v h7 := ⟨Nat.le_trans (k.mat v h7).1 (x.ack _ _), (k.mat v h7).2⟩
  com := by
    rw [x.B _ _ k.ld]
    rcases k.com with h | ⟨q, h⟩
    · exact .inl h
    · exact .inr ⟨q, x.E _ _ _ h⟩
  all p q h := k.all p q (hE p q h)
theorem Runs.mono {j : Nat} {m : Co} (k : Runs s j m) (x : Ext s s') (hl : s'.ld m.term ≠ some j) (hc : s'.cl j m.term = s.cl j m.term) : Runs s' j m where
  ld := hl
  es := k.es.trans hc.symm
  pos := k.pos
  votes v h7 hb := by
    obtain ⟨L, b, h⟩ := k.votes v h7 hb
    exact ⟨L, b, x.vd _ _ _ h⟩
  low := k.low
theorem Sane.mono {j : Nat} {m : Co} (k : Sane s j m) (x : Ext s s') (h : Inv c0 s) (hv : ∀ T, m.term ≤ T → s'.vd j T = s.vd j T) : Sane s' j m where
  good := Good.mono x k.good
  low := k.low
  cov := Cov.mono x h k.cov (Nat.le_refl _)
  later T hT := (hv T (Nat.le_of_lt hT)).trans (k.later T hT)
  vote := by rw [hv _ (Nat.le_refl _)]; exact k.vote

/-! ### Who is elected -/
def St.elect (s : St) (i : Nat) (n : Co) : St := { s.put i n with ld := upd s.ld n.term (some i), B := upd s.B n.term n.es, G := upd s.G n.term n.es, V := upd s.V n.term (s.nd i).votes.testBit }
theorem inv_elect (h : Inv c0 s) {i : Nat} (hi : i < 7) (hr : (s.nd i).role = 1) (hm : majP (cf c0 (s.nd i).es) (s.nd i).votes.testBit) {n : Co} (ht : n.term = (s.nd i).term) (he : n.es = (s.nd i).es) (hc : n.commit = (s.nd i).commit) (hv : n.vote = (s.nd i).vote)
    (hr2 : n.role = 2) (hmat : ∀ v, v < 7 → n.mat v = 0 ∧ n.next v = n.es.length + 1) : Inv c0 (s.elect i n) ∧ Ext s (s.elect i n) := by
  have hnone : s.ld n.term = none := by rw [ht]; exact alone h hi hr hm
  have hel := elected h hi hr hm
  rw [← ht, ← he] at hel
  have k1 := h.n1 i hi hr
  have k0 := h.n0 i hi
  have hne : ∀ t l, s.ld t = some l → t ≠ n.term := fun t l hl e => by
    rw [e, hnone] at hl
    cases hl
  have x : Ext s (s.elect i n) := { ext_put s i n (by omega) with
    ld := fun t l hl => (upd_ne _ _ (hne t l hl)).trans hl
    G := fun t l hl => by
      have : (s.elect i n).G t = s.G t := upd_ne _ _ (hne t l hl)
      rw [this]; exact List.take_length
    B := fun t l hl => upd_ne _ _ (hne t l hl)
    V := fun t l hl => upd_ne _ _ (hne t l hl) }
  have hG : ∀ t, t ≠ n.term → (s.elect i n).G t = s.G t := fun t e => upd_ne _ _ e
  have hB : ∀ t, t ≠ n.term → (s.elect i n).B t = s.B t := fun t e => upd_ne _ _ e
  have hL : ∀ t, t ≠ n.term → (s.elect i n).ld t = s.ld t := fun t e => upd_ne _ _ e
  have gT : (s.elect i n).G n.term = n.es := upd_eq _ _ _
  have bT : (s.elect i n).B n.term = n.es := upd_eq _ _ _
  have lT : (s.elect i n).ld n.term = some i := upd_eq _ _ _
  have vT : (s.elect i n).V n.term = (s.nd i).votes.testBit := upd_eq _ _ _
  have ni : (s.elect i n).nd i = n := put_at s i n
  have nj : ∀ j, j ≠ i → (s.elect i n).nd j = s.nd j := fun j e => put_off s n e
  have hnd : ∀ {P : Nat → Co → Prop}, P i n → (∀ j, j ≠ i → P j (s.nd j)) → ∀ j, P j ((s.elect i n).nd j) := fun {P} h1 h2 j => by
    by_cases e : j = i
    · subst e; rw [ni]; exact h1
    · rw [nj j e]; exact h2 j e
  have g0 : Good s n.es := by rw [he]; exact k0.good
  have noE : ∀ p m, ¬ s.E n.term p m := fun p m e => by
    obtain ⟨l, hl⟩ := (h.ev _ _ _ e).led
    exact hne _ _ hl rfl
  have noA : ∀ v, v < 7 → s.ack v n.term = 0 := fun v h7 => by
    rcases Nat.eq_zero_or_pos (s.ack v n.term) with h0 | h0
    · exact h0
    · obtain ⟨l, hl⟩ := (h.ak v _ h7 h0).2.1
      exact absurd rfl (hne _ _ hl)
  refine ⟨{
    led := fun t l hl => ?_
    n2 := hnd (P := fun j m => j < 7 → m.role = 2 → Leads (s.elect i n) j m) (fun _ _ => ⟨lT, gT.symm, fun v h7 => ?_, .inl ?_, fun p m e => absurd e (noE p m)⟩) (fun j _ hj hr' => ?_)
    n1 := hnd (P := fun j m => j < 7 → m.role = 1 → Runs (s.elect i n) j m) (fun _ hr' => by omega) (fun j hj hj7 hr' => Runs.mono (h.n1 j hj7 hr') x ?_ rfl)
    n0 := hnd (P := fun j m => j < 7 → Sane (s.elect i n) j m) (fun _ => ⟨Good.mono x g0, by rw [he, ht]; exact k0.low, by rw [he, hc, ht]; exact Cov.mono x h k0.cov (Nat.le_refl _), by rw [ht]; exact k0.later, by rw [hv, ht]; exact k0.vote⟩) (fun j _ hj7 => Sane.mono (h.n0 j hj7) x h fun _ _ => rfl)
    vd := fun v T c L b h7 hv' => Voted.mono x h.acklen (h.vd v T c L b h7 hv') (fun _ _ => rfl) (h.ackled h7) h7
    cl := fun c T h7 => ⟨Good.mono x (h.cl c T h7).1, (h.cl c T h7).2⟩
    ak := fun v t h7 h0 => ?_
    aj := fun v t p h7 hp ha => ?_
    ev := fun t p m he => Comm.mono x (h.ev t p m he)
    eo := h.eo
    ec := fun t p m he u l hu hl => ?_
    ms := fun y hy => Sent.mono x h (h.ms y hy) }, x⟩
  · by_cases e : t = n.term
    · subst e
      rw [lT] at hl
      cases hl
      exact {
        id := hi
        low := by rw [ni]; exact Nat.le_refl _
        pos := by rw [ht]; exact k1.pos
        beg := by rw [gT, bT]; exact List.take_length
        terms := by
          rw [gT, bT]
          intro k e hk
          refine ⟨fun h1 => absurd (get_lt hk) (by omega), fun _ => ?_⟩
          rw [ht]
          rw [he] at hk
          exact k1.low e (List.mem_of_getElem? hk)
        good := by rw [gT]; exact Good.mono x g0
        okl := by rw [gT]; exact Good.okl h g0
        wit := by
          rw [gT, bT]
          intro k e hk h1
          exact absurd (get_lt hk) (by omega)
        stood := by rw [bT, he, ht]; exact k1.es
        most := by rw [bT, vT, he]; exact hm
        votes := by
          rw [vT]
          intro v h7 hb
          obtain ⟨L, b, h3⟩ := k1.votes v h7 hb
          rw [← ht] at h3
          cases b with
          | false => exact ⟨L, h3⟩
          | true =>
            obtain ⟨l, hl⟩ := (h.vd _ _ _ _ _ h7 h3).late rfl
            exact absurd rfl (hne _ _ hl) }
    · rw [hL t e] at hl
      exact Led.mono x h hl (hG t e)
  · obtain ⟨a1, a2⟩ := hmat v h7
    exact ⟨by rw [a1]; exact Nat.zero_le _, by rw [a2]; exact Nat.succ_pos _, by rw [a2]; exact Nat.le_refl _⟩
  · rw [bT, hc, he]
    exact k0.cov.1
  · have k := h.n2 j hj hr'
    exact Leads.mono k x (hG _ (hne _ _ k.ld)) fun p q e => e
  · by_cases e : (s.nd j).term = n.term
    · rw [e, lT]
      intro e2
      cases e2
      exact hj rfl
    · rw [hL _ e]
      exact (h.n1 j hj7 hr').ld
  · obtain ⟨a1, ⟨l, a2⟩, a3⟩ := h.ak v t h7 h0
    refine ⟨Nat.le_trans a1 (x.tm v), ⟨l, x.ld _ _ a2⟩, ?_⟩
    rw [hG t (hne _ _ a2)]
    exact a3
  · have hp' : p ≤ s.ack v t := hp
    by_cases e : t = n.term
    · subst e
      rw [noA v h7] at hp'
      rw [show p = 0 by omega]
      simp
    · rw [hG t e] at ha ⊢
      have hes : ((s.elect i n).nd v).es = (s.nd v).es := by
        by_cases e2 : v = i
        · subst e2; rw [ni, he]
        · rw [nj v e2]
      have htm : ((s.elect i n).nd v).term = (s.nd v).term := by
        by_cases e2 : v = i
        · subst e2; rw [ni, ht]
        · rw [nj v e2]
      rw [hes]
      refine h.aj v t p h7 hp' fun u l k1 k2 k3 => ?_
      have := ha u l k1 (by rw [htm]; exact k2) (x.ld _ _ k3)
      rw [hB u (hne _ _ k3)] at this
      exact this
  · have he' : s.E t p m := he
    obtain ⟨l', hl'⟩ := (h.ev _ _ _ he').led
    rw [hG t (hne _ _ hl')]
    by_cases e : u = n.term
    · subst e
      rw [bT]
      exact hel t p m he' hu
    · rw [hL u e] at hl
      rw [hB u e]
      exact h.ec t p m he' u l hu hl

/-! ### An entry more -/
def St.grow (s : St) (i : Nat) (n : Co) : St := { s.put i n with G := upd s.G n.term n.es, ack := upt s.ack i n.term n.es.length }
theorem inv_grow (h : Inv c0 s) {i : Nat} (hi : i < 7) (hr : (s.nd i).role = 2) {n : Co} {e : Ent} (ht : n.term = (s.nd i).term) (he : n.es = (s.nd i).es ++ [e]) (hc : n.commit = (s.nd i).commit) (hv : n.vote = (s.nd i).vote) (hr2 : n.role = 2)
    (hmat : ∀ v, v < 7 → (v = i → n.mat v ≤ n.es.length) ∧ (v ≠ i → n.mat v ≤ s.ack v n.term) ∧ 1 ≤ n.next v ∧ n.next v ≤ n.es.length + 1)
    (het : e.term = n.term) (hei : e.idx = (s.nd i).es.length + 1) (hez : e.idx ≤ topN)
    (hek : e.kind = 2 → sound (setOf e.data) = true ∧ Adj (cf c0 (s.nd i).es) (setOf e.data) ∧ sn c0 (s.nd i).es ≤ (s.nd i).commit ∧ ∃ f, 0 < (s.nd i).commit ∧ (s.nd i).es[(s.nd i).commit - 1]? = some f ∧ f.term = n.term) :
    Inv c0 (s.grow i n) ∧ Ext s (s.grow i n) := by
  have k2 := h.n2 i hi hr
  have k0 := h.n0 i hi
  have hld := k2.ld
  rw [← ht] at hld
  have hes : (s.nd i).es = s.G n.term := by rw [ht]; exact k2.es
  have hT := h.led _ _ hld
  have gT : (s.grow i n).G n.term = s.G n.term ++ [e] := by rw [← hes, ← he]; exact upd_eq _ _ _
  have hG : ∀ t, t ≠ n.term → (s.grow i n).G t = s.G t := fun t e => upd_ne _ _ e
  have hpre : ∀ t p, p ≤ (s.G t).length → ((s.grow i n).G t).take p = (s.G t).take p := fun t p hp => by
    by_cases e2 : t = n.term
    · subst e2; rw [gT, take_app hp]
    · rw [hG t e2]
  have aT : (s.grow i n).ack i n.term = n.es.length := upt_eq _ _ _ _
  have ha : ∀ v t, ¬ (v = i ∧ t = n.term) → (s.grow i n).ack v t = s.ack v t := fun v t e => upt_ne _ _ e
  have hlen : n.es.length = (s.G n.term).length + 1 := by rw [he, hes]; simp
  have x : Ext s (s.grow i n) := { ext_put s i n (by omega) with
    G := fun t l hl => by rw [hpre t _ (Nat.le_refl _)]; exact List.take_length
    ack := fun v t => by
      by_cases e2 : v = i ∧ t = n.term
      · obtain ⟨rfl, rfl⟩ := e2
        rw [aT]
        have := h.acklen _ _ hld v hi
        omega
      · rw [ha v t e2]; exact Nat.le_refl _ }
  have ni : (s.grow i n).nd i = n := put_at s i n
  have nj : ∀ j, j ≠ i → (s.grow i n).nd j = s.nd j := fun j e => put_off s n e
  have hnd : ∀ {P : Nat → Co → Prop}, P i n → (∀ j, j ≠ i → P j (s.nd j)) → ∀ j, P j ((s.grow i n).nd j) := fun {P} h1 h2 j => by
    by_cases e : j = i
    · subst e; rw [ni]; exact h1
    · rw [nj j e]; exact h2 j e
  have hBl := hT.blen
  have gg : Good (s.grow i n) (s.G n.term ++ [e]) := fun k f hk => by
    rcases get_snoc hk with ⟨h1, h2⟩ | ⟨rfl, rfl⟩
    · obtain ⟨b1, b2, b3⟩ := Good.mono x hT.good k f h2
      exact ⟨b1, b2, by rw [take_app (by omega)]; exact b3⟩
    · rw [het]
      exact ⟨⟨i, hld⟩, hBl, by rw [gT]⟩
  have hGn : n.es = s.G n.term ++ [e] := by rw [he, hes]
  refine ⟨{
    led := fun t l hl => ?_
    n2 := hnd (P := fun j m => j < 7 → m.role = 2 → Leads (s.grow i n) j m) (fun _ _ => ⟨hld, by rw [gT, hGn], fun v h7 => ?_, ?_, ?_⟩) (fun j hj hj7 hr' => ?_)
    n1 := hnd (P := fun j m => j < 7 → m.role = 1 → Runs (s.grow i n) j m) (fun _ hr' => by omega) (fun j hj hj7 hr' => Runs.mono (h.n1 j hj7 hr') x (h.n1 j hj7 hr').ld rfl)
    n0 := hnd (P := fun j m => j < 7 → Sane (s.grow i n) j m) (fun _ => ⟨by rw [hGn]; exact gg, fun f hf => ?_, ?_, by rw [ht]; exact k0.later, by rw [hv, ht]; exact k0.vote⟩) (fun j _ hj7 => Sane.mono (h.n0 j hj7) x h fun _ _ => rfl)
    vd := fun v T c L b h7 hv' => Voted.mono x h.acklen (h.vd v T c L b h7 hv') (fun t ht' => ?_) (h.ackled h7) h7
    cl := fun c T h7 => ⟨Good.mono x (h.cl c T h7).1, (h.cl c T h7).2⟩
    ak := fun v t h7 h0 => ?_
    aj := fun v t p h7 hp hh => ?_
    ev := fun t p m he => Comm.mono x (h.ev t p m he)
    eo := h.eo
    ec := fun t p m he u l hu hl => ?_
    ms := fun y hy => Sent.mono x h (h.ms y hy) }, x⟩
  · by_cases e2 : t = n.term
    · subst e2
      have hl' : s.ld n.term = some l := hl
      rw [hld] at hl'
      cases hl'
      exact {
        id := hi
        low := by rw [ni]; exact Nat.le_refl _
        pos := hT.pos
        beg := by rw [gT]; exact (take_app hBl).trans hT.beg
        terms := by
          rw [gT]
          intro k f hk
          rcases get_snoc hk with ⟨h1, h2⟩ | ⟨rfl, rfl⟩
          · exact hT.terms k f h2
          · exact ⟨fun _ => het, fun h3 => by have h4 : (s.G n.term).length < (s.B n.term).length := h3; omega⟩
        good := by rw [gT]; exact gg
        okl := by
          rw [gT]
          intro k f hk
          rcases get_snoc hk with ⟨h1, h2⟩ | ⟨rfl, rfl⟩
          · exact hT.okl k f h2
          · exact ⟨by rw [hei, hes], hez, fun h3 => (hek h3).1⟩
        wit := by
          rw [gT]
          intro k f hk h1 h2
          rcases get_snoc hk with ⟨h3, h4⟩ | ⟨rfl, rfl⟩
          · rw [take_app (by omega)]
            exact hT.wit k f h4 h1 h2
          · rw [take_app (Nat.le_refl _), List.take_length]
            obtain ⟨_, b1, b2, g, b3, b4, b5⟩ := hek h2
            rw [hes] at b1 b2 b4
            refine ⟨b1, (s.nd i).commit, ?_⟩
            rcases k2.com with h5 | ⟨m, h5⟩
            · exfalso
              rw [← ht] at h5
              have := (hT.terms _ _ b4).2 (by omega)
              omega
            · rw [← ht] at h5
              exact ⟨m, h5, (h.ev _ _ _ h5).len, b2⟩
        stood := hT.stood
        most := hT.most
        votes := hT.votes }
    · exact Led.mono x h hl (hG t e2)
  · obtain ⟨b1, b2, b3⟩ := hmat v h7
    refine ⟨?_, b3⟩
    by_cases e2 : v = i
    · subst e2; rw [aT]; exact b1 rfl
    · rw [ha v _ (fun e3 => e2 e3.1)]; exact b2 e2
  · rw [hc, ht]
    exact k2.com
  · rw [hc, ht]
    exact k2.all
  · have k := h.n2 j hj7 hr'
    refine Leads.mono k x (hG _ fun e2 => ?_) fun p q e => e
    have := k.ld
    rw [e2, hld] at this
    cases this
    exact hj rfl
  · rw [hGn] at hf
    rcases List.mem_append.1 hf with hf | hf
    · rw [ht]; exact k0.low f (by rw [hes]; exact hf)
    · simp at hf
      subst hf
      omega
  · rw [hc, hGn]
    have hcov := Cov.mono x h k0.cov (Nat.le_of_eq ht.symm)
    refine Cov.log (n := (s.nd i).es.length) hcov ?_ k0.cov.1
    rw [hes, take_app (Nat.le_refl _)]
  · refine ha v t fun e2 => ?_
    obtain ⟨rfl, rfl⟩ := e2
    have hv2 : s.vd v T = some (c, L, b) := hv'
    rw [k0.later T (by omega)] at hv2
    cases hv2
  · by_cases e2 : v = i ∧ t = n.term
    · obtain ⟨rfl, rfl⟩ := e2
      refine ⟨by rw [ni]; exact Nat.le_refl _, ⟨v, hld⟩, ?_⟩
      rw [aT, gT, hlen]
      simp
    · rw [ha v t e2] at h0 ⊢
      obtain ⟨a1, ⟨l, a2⟩, a3⟩ := h.ak v t h7 h0
      exact ⟨Nat.le_trans a1 (x.tm v), ⟨l, a2⟩, Nat.le_trans a3 (x.glen a2)⟩
  · by_cases e2 : v = i ∧ t = n.term
    · obtain ⟨rfl, rfl⟩ := e2
      rw [ni, gT, hGn]
    · rw [ha v t e2] at hp
      rcases Nat.eq_zero_or_pos p with rfl | hp0
      · simp
      obtain ⟨a1, ⟨l, a2⟩, a3⟩ := h.ak v t h7 (by omega)
      rw [hpre t p (by omega)] at hh ⊢
      by_cases e3 : v = i
      · subst e3
        rw [ni] at hh ⊢
        have := h.aj v t p h7 hp fun u l k1 k2 k3 => hh u l k1 (by omega) k3
        have hpl := take_len this (by omega)
        rw [he, take_app hpl]
        exact this
      · rw [nj v e3] at hh ⊢
        exact h.aj v t p h7 hp hh
  · have he' : s.E t p m := he
    have hc' := h.ev _ _ _ he'
    rw [hpre t p (Nat.le_trans hc'.le hc'.len)]
    exact h.ec t p m he' u l hu hl

/-! ### A commit -/
def St.comm (s : St) (i : Nat) (n : Co) : St := { s.put i n with E := fun t p m => s.E t p m ∨ (t = n.term ∧ p = n.commit ∧ m = n.es.length) }
theorem inv_comm (h : Inv c0 s) {i : Nat} (hi : i < 7) (hr : (s.nd i).role = 2) {n : Co} (ht : n.term = (s.nd i).term) (he : n.es = (s.nd i).es) (hv : n.vote = (s.nd i).vote) (hr2 : n.role = 2) (hmat : ∀ v, v < 7 → n.mat v = (s.nd i).mat v ∧ n.next v = (s.nd i).next v)
    (hlt : (s.nd i).commit < n.commit) {f : Ent} (hf : (s.nd i).es[n.commit - 1]? = some f) (hft : f.term = n.term) {Q : Nat → Bool} (hQ : majP (cf c0 (s.nd i).es) Q) (hQm : ∀ v, v < 7 → Q v = true → n.commit ≤ (s.nd i).mat v) :
    Inv c0 (s.comm i n) ∧ Ext s (s.comm i n) := by
  have k2 := h.n2 i hi hr
  have k0 := h.n0 i hi
  have hld := k2.ld
  rw [← ht] at hld
  have hes : (s.nd i).es = s.G n.term := by rw [ht]; exact k2.es
  have hT := h.led _ _ hld
  have hfl := get_lt hf
  rw [hes] at hf hQ hfl
  have x : Ext s (s.comm i n) := { ext_put s i n (by omega) with E := fun t p m he => .inl he }
  have hcm : Comm c0 s n.term n.commit (s.G n.term).length := by
    refine ⟨⟨i, hld⟩, by omega, Nat.le_refl _, ?_, Q, by rw [List.take_length]; exact hQ, fun v h7 hq => Nat.le_trans (hQm v h7 hq) (by rw [ht]; exact (k2.mat v h7).1)⟩
    rcases Nat.lt_or_ge (n.commit - 1) (s.B n.term).length with h1 | h1
    · have := (hT.terms _ _ hf).2 h1
      omega
    · omega
  have hall : ∀ p m, s.E n.term p m → p ≤ (s.nd i).commit := by rw [ht]; exact k2.all
  have hnl : n.es.length = (s.G n.term).length := by rw [he, hes]
  have hE := committed h hcm fun c mc h1 h2 => by have := hall _ _ h1; omega
  have ni : (s.comm i n).nd i = n := put_at s i n
  have nj : ∀ j, j ≠ i → (s.comm i n).nd j = s.nd j := fun j e => put_off s n e
  have hnd : ∀ {P : Nat → Co → Prop}, P i n → (∀ j, j ≠ i → P j (s.nd j)) → ∀ j, P j ((s.comm i n).nd j) := fun {P} h1 h2 j => by
    by_cases e : j = i
    · subst e; rw [ni]; exact h1
    · rw [nj j e]; exact h2 j e
  refine ⟨{
    led := fun t l hl => Led.mono x h hl rfl
    n2 := hnd (P := fun j m => j < 7 → m.role = 2 → Leads (s.comm i n) j m) (fun _ _ => ⟨hld, by rw [he, hes]; rfl, fun v h7 => ?_, .inr ⟨_, .inr ⟨rfl, rfl, rfl⟩⟩, fun p m e => ?_⟩) (fun j hj hj7 hr' => ?_)
    n1 := hnd (P := fun j m => j < 7 → m.role = 1 → Runs (s.comm i n) j m) (fun _ hr' => by omega) (fun j hj hj7 hr' => Runs.mono (h.n1 j hj7 hr') x (h.n1 j hj7 hr').ld rfl)
    n0 := hnd (P := fun j m => j < 7 → Sane (s.comm i n) j m) (fun _ => ⟨by rw [he]; exact Good.mono x k0.good, by rw [he, ht]; exact k0.low, ⟨by omega, .inr ⟨n.term, n.commit, n.es.length, .inr ⟨rfl, rfl, rfl⟩, Nat.le_refl _, Nat.le_refl _, by rw [he, hes]; rfl⟩⟩, by rw [ht]; exact k0.later, by rw [hv, ht]; exact k0.vote⟩) (fun j _ hj7 => Sane.mono (h.n0 j hj7) x h fun _ _ => rfl)
    vd := fun v T c L b h7 hv' => Voted.mono x h.acklen (h.vd v T c L b h7 hv') (fun _ _ => rfl) (h.ackled h7) h7
    cl := h.cl
    ak := fun v t h7 h0 => ⟨Nat.le_trans (h.ak v t h7 h0).1 (x.tm v), (h.ak v t h7 h0).2⟩
    aj := hnd (P := fun v m => ∀ t p, v < 7 → p ≤ s.ack v t → (∀ u l, t < u → u ≤ m.term → s.ld u = some l → (s.G t).take p = (s.B u).take p) → (s.G t).take p = m.es.take p)
      (fun t p h7 hp ha => by rw [he]; exact h.aj i t p h7 hp fun u l h1 h2 h3 => ha u l h1 (by omega) h3) (fun v _ t p h7 hp ha => h.aj v t p h7 hp ha)
      |> fun f v t p h7 => f v t p h7
    ev := fun t p m he => ?_
    eo := fun t p m p' m' h1 h2 hp => ?_
    ec := fun t p m he u l hu hl => ?_
    ms := fun y hy => Sent.mono x h (h.ms y hy) }, x⟩
  · obtain ⟨a1, a2⟩ := hmat v h7
    rw [a1, a2, he, ht]
    exact k2.mat v h7
  · rcases e with e | ⟨_, rfl, _⟩
    · have := hall _ _ e; omega
    · exact Nat.le_refl _
  · have k := h.n2 j hj7 hr'
    refine Leads.mono k x rfl fun p q e => ?_
    rcases e with e | ⟨e, _, _⟩
    · exact e
    · exfalso
      have := k.ld
      rw [e, hld] at this
      cases this
      exact hj rfl
  · rcases he with he | ⟨rfl, rfl, rfl⟩
    · exact Comm.mono x (h.ev t p m he)
    · rw [hnl]
      exact Comm.mono x hcm
  · rcases h1 with h1 | ⟨rfl, rfl, rfl⟩
    · rcases h2 with h2 | ⟨rfl, rfl, rfl⟩
      · exact h.eo _ _ _ _ _ h1 h2 hp
      · rw [hnl]; exact (h.ev _ _ _ h1).len
    · rcases h2 with h2 | ⟨_, rfl, rfl⟩
      · have := hall _ _ h2; omega
      · exact Nat.le_refl _
  · rcases he with he | ⟨rfl, rfl, rfl⟩
    · exact h.ec t p m he u l hu hl
    · exact hE u l hu hl

/-! ### What a leader wrote is merged -/
def St.told (s : St) (i : Nat) (n : Co) (a : Nat) : St := { s.put i n with ack := upt s.ack i n.term (max (s.ack i n.term) a) }
theorem inv_told (h : Inv c0 s) {i l a : Nat} (hi : i < 7) {n : Co} (ht : n.term = (s.nd i).term) (hv : n.vote = (s.nd i).vote) (hr : n.role = 0) (hld : s.ld n.term = some l) (ha : a ≤ (s.G n.term).length)
    (hP : ∀ k, (s.nd i).es.take k = (s.G n.term).take k → k ≤ (s.nd i).es.length → n.es.take k = (s.G n.term).take k) (hP2 : n.es.take a = (s.G n.term).take a)
    (hg : Good s n.es) (hlow : ∀ e ∈ n.es, e.term ≤ n.term) (hc : n.commit = (s.nd i).commit ∨ (n.commit ≤ a ∧ Cov s n.term (s.G n.term) n.commit)) :
    Inv c0 (s.told i n a) ∧ Ext s (s.told i n a) := by
  have k0 := h.n0 i hi
  have hT := h.led _ _ hld
  have aT : (s.told i n a).ack i n.term = max (s.ack i n.term) a := upt_eq _ _ _ _
  have hak : ∀ v t, ¬ (v = i ∧ t = n.term) → (s.told i n a).ack v t = s.ack v t := fun v t e => upt_ne _ _ e
  have x : Ext s (s.told i n a) := { ext_put s i n (by omega) with
    ack := fun v t => by
      by_cases e2 : v = i ∧ t = n.term
      · obtain ⟨rfl, rfl⟩ := e2
        rw [aT]
        omega
      · rw [hak v t e2]; exact Nat.le_refl _ }
  have ni : (s.told i n a).nd i = n := put_at s i n
  have nj : ∀ j, j ≠ i → (s.told i n a).nd j = s.nd j := fun j e => put_off s n e
  have hnd : ∀ {P : Nat → Co → Prop}, P i n → (∀ j, j ≠ i → P j (s.nd j)) → ∀ j, P j ((s.told i n a).nd j) := fun {P} h1 h2 j => by
    by_cases e : j = i
    · subst e; rw [ni]; exact h1
    · rw [nj j e]; exact h2 j e
  -- what was committed is the leader's
  have hcov : Cov s n.term n.es n.commit := by
    rcases hc with e | ⟨h1, h2⟩
    · rw [e]
      obtain ⟨c1, c2⟩ := k0.cov
      have hcG : (s.nd i).es.take (s.nd i).commit = (s.G n.term).take (s.nd i).commit := by
        rcases c2 with c2 | ⟨t, p, m, d1, d2, d3, d4⟩
        · rw [c2]; simp
        · rcases Nat.lt_or_ge t n.term with h5 | h5
          · have he := h.ev _ _ _ d1
            have h6 := h.ec _ _ _ d1 _ _ h5 hld
            have h7 := take_len h6 (Nat.le_trans he.le he.len)
            rw [d4, take_less (h6.trans (hT.btake h7)) d3]
          · have : t = n.term := by omega
            rw [d4, this]
      have h3 := hP _ hcG c1
      have := k0.cov
      rw [← ht] at this
      exact Cov.log this (h3.trans hcG.symm) (Nat.le_refl _)
    · exact Cov.log h2 hP2 h1
  refine ⟨{
    led := fun t l hl => Led.mono x h hl rfl
    n2 := hnd (P := fun j m => j < 7 → m.role = 2 → Leads (s.told i n a) j m) (fun _ hr' => by omega) (fun j hj hj7 hr' => Leads.mono (h.n2 j hj7 hr') x rfl fun _ _ e => e)
    n1 := hnd (P := fun j m => j < 7 → m.role = 1 → Runs (s.told i n a) j m) (fun _ hr' => by omega) (fun j hj hj7 hr' => Runs.mono (h.n1 j hj7 hr') x (h.n1 j hj7 hr').ld rfl)
    n0 := hnd (P := fun j m => j < 7 → Sane (s.told i n a) j m) (fun _ => ⟨Good.mono x hg, hlow, Cov.mono x h hcov (Nat.le_refl _), by rw [ht]; exact k0.later, by rw [hv, ht]; exact k0.vote⟩) (fun j _ hj7 => Sane.mono (h.n0 j hj7) x h fun _ _ => rfl)
    vd := fun v T c L b h7 hv' => Voted.mono x h.acklen (h.vd v T c L b h7 hv') (fun t ht' => ?_) (h.ackled h7) h7
    cl := fun c T h7 => ⟨Good.mono x (h.cl c T h7).1, (h.cl c T h7).2⟩
    ak := fun v t h7 h0 => ?_
    aj := fun v t p h7 hp hh => ?_
    ev := fun t p m he => Comm.mono x (h.ev t p m he)
    eo := h.eo
    ec := h.ec
    ms := fun y hy => Sent.mono x h (h.ms y hy) }, x⟩
  · refine hak v t fun e2 => ?_
    obtain ⟨rfl, rfl⟩ := e2
    have hv2 : s.vd v T = some (c, L, b) := hv'
    rw [k0.later T (by omega)] at hv2
    cases hv2
  · by_cases e2 : v = i ∧ t = n.term
    · obtain ⟨rfl, rfl⟩ := e2
      refine ⟨by rw [ni]; exact Nat.le_refl _, ⟨l, hld⟩, ?_⟩
      rw [aT]
      have := h.acklen _ _ hld v h7
      exact Nat.max_le.2 ⟨this, ha⟩
    · rw [hak v t e2] at h0 ⊢
      obtain ⟨a1, a2, a3⟩ := h.ak v t h7 h0
      exact ⟨Nat.le_trans a1 (x.tm v), a2, a3⟩
  · have hh' : ∀ u l, t < u → u ≤ ((s.told i n a).nd v).term → s.ld u = some l → (s.G t).take p = (s.B u).take p := hh
    show (s.G t).take p = _
    by_cases e3 : v = i
    case neg =>
      rw [hak v t fun e => e3 e.1] at hp
      rw [nj v e3] at hh' ⊢
      exact h.aj v t p h7 hp hh'
    subst e3
    rw [ni] at hh' ⊢
    by_cases e2 : t = n.term
    · subst e2
      rw [aT] at hp
      rcases Nat.lt_or_ge a p with h1 | h1
      case inr => exact (take_less hP2 h1).symm
      · have hp1 : p ≤ s.ack v n.term := by omega
        have h2 := h.aj v n.term p h7 hp1 fun u l k1 k2 k3 => by omega
        have h3 := take_len h2 (Nat.le_trans hp1 (h.acklen _ _ hld v h7))
        exact (hP p h2.symm h3).symm
    · rw [hak v t fun e => e2 e.2] at hp
      rcases Nat.eq_zero_or_pos p with rfl | hp0
      · simp
      obtain ⟨a1, ⟨l', a2⟩, a3⟩ := h.ak v t h7 (by omega)
      have htT : t < n.term := by omega
      have h2 := h.aj v t p h7 hp fun u l k1 k2 k3 => hh' u l k1 (by omega) k3
      have h3 := hh' _ _ htT (Nat.le_refl _) hld
      have h4 := take_len h3 (by omega)
      have h5 := h3.trans (hT.btake h4)
      have h6 := take_len h2 (by omega)
      rw [h5]
      exact (hP p (h2.symm.trans h5) h6).symm
end
end Go.Proofs.YtokifeghoodkgaaGreat.ElB
set_option linter.unusedVariables false
namespace Go.Proofs.YtokifeghoodkgaaGreat.ElB
open Go.Proofs.YtokifeghoodkgaaGreat.Rlog Go.Proofs.YtokifeghoodkgaaGreat.Nod Go.Proofs.YtokifeghoodkgaaGreat.ElA
open Go.Proofs.YtokifeghoodkgaaGreat.Quorum (need sound maj node change has)
open Go.Proofs.YtokifeghoodkgaaGreat.Num (num got)

def co (m : Nd) : Co := ⟨m.term, m.vote, m.g.es, m.role, m.commit, m.votes, told m.next, told m.mat⟩
/-- A node among all. -/
structure At (c0 : Nat) (s : St) (m : Nd) : Prop where
  inv : Inv c0 s
  nd : s.nd m.id = co m
  id : m.id < 7
  snap : m.g.snap = snapC c0
  fine : Fine m.g
  nl : m.next.length = 7
  ml : m.mat.length = 7
  out : ∀ x ∈ m.out, s.M x
def Step (c0 : Nat) (s : St) (m m' : Nd) : Prop := ∃ s', Ext s s' ∧ At c0 s' m' ∧ m'.id = m.id ∧ ∀ j, j ≠ m.id → s'.nd j = s.nd j
section
variable {c0 : Nat} {s s' : St} {m m' m2 : Nd}
theorem Step.refl (h : At c0 s m) : Step c0 s m m := ⟨s, Ext.refl s, h, rfl, fun _ _ => rfl⟩
theorem Step.then (h : Step c0 s m m') (k : ∀ s', Ext s s' → At c0 s' m' → Step c0 s' m' m2) : Step c0 s m m2 := by
  obtain ⟨s1, h1, h2, h3, h4⟩ := h
  obtain ⟨s2, k1, k2, k3, k4⟩ := k s1 h1 h2
  exact ⟨s2, h1.trans k1, k2, k3.trans h3, fun j hj => (k4 j (by rw [h3]; exact hj)).trans (h4 j hj)⟩
theorem told_set (l : List Nat) (k x v : Nat) : told (l.set k x) v = if v = k ∧ k < l.length then x else told l v := by
  unfold told
  by_cases h : v = k
  · subst h
    by_cases h2 : v < l.length
    · simp [List.getD, h2]
    · simp [List.getD, h2]
  · rw [if_neg fun e => h e.1]
    simp [List.getD, List.getElem?_set_ne (Ne.symm h)]

/-! ### What the log says -/
theorem At.glog (h : At c0 s m) : m.g = ⟨snapC c0, m.g.es⟩ := by
  have := h.snap
  cases hg : m.g with
  | mk a b => rw [hg] at this; simp only at this; rw [this]
theorem At.cfg (h : At c0 s m) : cfg m = cf c0 m.g.es := by
  unfold Nod.cfg cf
  rw [← h.glog]
theorem At.since (h : At c0 s m) : since m = sn c0 m.g.es := by
  unfold Nod.since sn
  rw [← h.glog]
theorem At.last (h : At c0 s m) : last m.g = (m.g.es.length, lastT m.g.es) := by
  have h1 := h.fine.last_idx
  rw [h.snap] at h1
  have h2 : (Rlog.last m.g).1 = m.g.es.length := by rw [h1]; show 0 + _ = _; omega
  refine Prod.ext h2 ?_
  unfold Rlog.last lastT
  rw [h.snap]
  rfl
theorem At.get (h : At c0 s m) {k : Nat} {e : Ent} (hk : m.g.es[k]? = some e) : e.idx = k + 1 ∧ term m.g (k + 1) = some e.term := by
  have h1 := (h.fine.at_ hk).1
  rw [h.snap] at h1
  have h2 : e.idx = k + 1 := by rw [h1]; show 0 + k + 1 = _; omega
  have := term_at h.fine hk
  rw [h2] at this
  exact ⟨h2, this⟩
theorem At.term (h : At c0 s m) {i t : Nat} (ht : term m.g i = some t) : (i = 0 ∧ t = 0) ∨ (0 < i ∧ ∃ e, m.g.es[i - 1]? = some e ∧ e.term = t) := by
  rcases term_some ht with ⟨h1, h2⟩ | ⟨k, e, hp, he, ht2⟩
  · rw [h.snap] at h1 h2
    exact .inl ⟨h1, h2⟩
  · have := (place_lt hp).2
    rw [h.snap] at this
    have h3 : i = k + 1 := by rw [this]; show 0 + k + 1 = _; omega
    subst h3
    exact .inr ⟨by omega, e, he, ht2⟩
theorem lastT_take {L : List Ent} {k : Nat} {e : Ent} (h : L[k]? = some e) : lastT (L.take (k + 1)) = e.term := by
  have := lasts_take L 0 0 k e h
  unfold lastT
  rw [this]

/-! ### Letters go out -/
theorem step_say (h : At c0 s m) {x : Msg} (hx : Sent s (sign m x)) : Step c0 s m (post m x) := by
  refine ⟨s.say (sign m x), ext_say s _, ⟨inv_say h.inv hx, h.nd, h.id, h.snap, h.fine, h.nl, h.ml, fun y hy => ?_⟩, rfl, fun _ _ => rfl⟩
  rcases List.mem_append.1 hy with hy | hy
  · exact .inl (h.out y hy)
  · simp at hy
    exact .inr hy
theorem sent_plain (s : St) {x : Msg} (h1 : x.k = 2 ∨ x.k = 4) (h2 : x.ok = false) : Sent s x :=
  ⟨by omega, fun e => by omega, fun _ e => absurd (h2.symm.trans e) (by decide), fun e => by omega, fun _ e => absurd (h2.symm.trans e) (by decide)⟩
theorem At.leads (h : At c0 s m) (hr : m.role = 2) : Leads s m.id (co m) := by
  have := h.inv.n2 m.id h.id (by rw [h.nd]; exact hr)
  rwa [h.nd] at this
theorem At.runs (h : At c0 s m) (hr : m.role = 1) : Runs s m.id (co m) := by
  have := h.inv.n1 m.id h.id (by rw [h.nd]; exact hr)
  rwa [h.nd] at this
theorem At.sane (h : At c0 s m) : Sane s m.id (co m) := by
  have := h.inv.n0 m.id h.id
  rwa [h.nd] at this
theorem step_write (h : At c0 s m) (hr : m.role = 2) {to_ : Nat} (ht : to_ < 7) : Step c0 s m (write m to_) := by
  have k := h.leads hr
  have hes : m.g.es = s.G m.term := k.es
  obtain ⟨_, k2, k3⟩ := k.mat to_ ht
  have k2 : 1 ≤ told m.next to_ := k2
  have k3 : told m.next to_ ≤ m.g.es.length + 1 := k3
  unfold write letterTo
  have hs : m.g.snap.idx = 0 := by rw [h.snap]; rfl
  rw [if_neg (by rw [hs]; omega)]
  refine step_say h ⟨by show (3 : Int) ≠ 5; decide, fun e => absurd e (by show (3 : Int) ≠ 1; decide), fun e => absurd e (by show (3 : Int) ≠ 2; decide), fun _ => ⟨m.id, k.ld, rfl, ?_⟩, fun e => absurd e (by show (3 : Int) ≠ 4; decide)⟩
  obtain ⟨n, hn⟩ : ∃ n, told m.next to_ = n + 1 := ⟨told m.next to_ - 1, by omega⟩
  have he : Rlog.get m.g (told m.next to_) 8 = (m.g.es.drop n).take 8 := by
    unfold Rlog.get
    cases hp : place m.g (told m.next to_) with
    | none =>
      have := place_none hp
      rw [hs] at this
      rw [List.drop_eq_nil_of_le (by omega)]
      rfl
    | some i =>
      have := (place_lt hp).2
      rw [hs] at this
      rw [show n = i by omega]
      rfl
  show told m.next to_ - 1 + (Rlog.get m.g (told m.next to_) 8).length ≤ (s.G m.term).length ∧ Rlog.get m.g (told m.next to_) 8 = ((s.G m.term).drop (told m.next to_ - 1)).take (Rlog.get m.g (told m.next to_) 8).length ∧
    (term m.g (told m.next to_ - 1)).getD 0 = lastT ((s.G m.term).take (told m.next to_ - 1)) ∧ Cov s m.term (s.G m.term) m.commit
  rw [he, hn, show n + 1 - 1 = n by omega, ← hes]
  refine ⟨by rw [List.length_take, List.length_drop]; omega, ?_, ?_, h.sane.cov⟩
  · rw [List.length_take, ← List.take_take, List.take_length]
  · rcases Nat.eq_zero_or_pos n with rfl | h0
    · rw [List.take_zero, lastT_nil]
      have : term m.g 0 = some 0 := by have := term_snap m.g; rw [h.snap] at this; exact this
      rw [this]
      rfl
    · obtain ⟨e, he2⟩ := get_of (show n - 1 < m.g.es.length by omega)
      have h1 := (h.get he2).2
      have h2 := lastT_take he2
      rw [show n - 1 + 1 = n by omega] at h1 h2
      rw [h1, h2]
      rfl
theorem write_same (m : Nd) (to_ : Nat) : (write m to_).role = m.role ∧ co (write m to_) = co m ∧ (write m to_).id = m.id := ⟨rfl, rfl, rfl⟩
theorem step_writes (l : List Nat) (hl : ∀ i ∈ l, i < 7) : ∀ {s : St} {m : Nd}, At c0 s m → m.role = 2 → Step c0 s m (l.foldl write m) := by
  induction l with
  | nil => intro s m h _; exact Step.refl h
  | cons i l ih =>
    intro s m h hr
    exact (step_write h hr (hl i (by simp))).then fun s' _ h' => ih (fun j hj => hl j (by simp [hj])) h' hr
theorem step_beat (h : At c0 s m) : Step c0 s m (beat m) := by
  unfold beat
  split
  · rename_i hr
    exact step_writes _ (fun i hi => rest_lt hi) h hr
  · exact Step.refl h
theorem fold_same (l : List Nat) : ∀ (m : Nd), co (l.foldl write m) = co m ∧ (l.foldl write m).g = m.g ∧ (l.foldl write m).id = m.id ∧ (l.foldl write m).role = m.role := by
  induction l with
  | nil => intro m; exact ⟨rfl, rfl, rfl, rfl⟩
  | cons i l ih => intro m; exact ih (write m i)
theorem beat_same (m : Nd) : co (beat m) = co m ∧ (beat m).g = m.g ∧ (beat m).id = m.id ∧ (beat m).role = m.role := by
  unfold beat
  split
  · exact fold_same _ m
  · exact ⟨rfl, rfl, rfl, rfl⟩
theorem step_ask (h : At c0 s m) (hr : m.role = 1) (to_ : Nat) : Step c0 s m (askN m to_) := by
  have k := h.runs hr
  have hes : m.g.es = s.cl m.id m.term := k.es
  refine step_say h ⟨by show (1 : Int) ≠ 5; decide, fun _ => ⟨m.id, h.id, rfl, ?_, ?_, ?_⟩, fun e => absurd e (by show (1 : Int) ≠ 2; decide), fun e => absurd e (by show (1 : Int) ≠ 3; decide), fun e => absurd e (by show (1 : Int) ≠ 4; decide)⟩
  · show m.term ≤ _
    rw [h.nd]
    exact Nat.le_refl _
  · show (Rlog.last m.g).1 = (s.cl m.id m.term).length
    rw [h.last, ← hes]
  · show (Rlog.last m.g).2 = lastT (s.cl m.id m.term)
    rw [h.last, ← hes]
theorem step_asks (l : List Nat) : ∀ {s : St} {m : Nd}, At c0 s m → m.role = 1 → Step c0 s m (l.foldl askN m) := by
  induction l with
  | nil => intro s m h _; exact Step.refl h
  | cons i l ih =>
    intro s m h hr
    exact (step_ask h hr i).then fun s' _ h' => ih h' hr
theorem askfold_same (l : List Nat) : ∀ (m : Nd), (l.foldl askN m).role = m.role := by
  induction l with
  | nil => intro m; rfl
  | cons i l ih => intro m; exact ih (askN m i)

/-! ### A node changes alone -/
theorem step_put (h : At c0 s m) (hi : m'.id = m.id) (hg : m'.g = m.g) (hnl : m'.next.length = 7) (hml : m'.mat.length = 7) (ho : m'.out = m.out) (k : Inv c0 (s.put m.id (co m'))) (ht : m.term ≤ m'.term) : Step c0 s m m' :=
  ⟨s.put m.id (co m'), ext_put s m.id (co m') (by rw [h.nd]; exact ht), ⟨k, by rw [hi]; exact put_at _ _ _, by rw [hi]; exact h.id, by rw [hg]; exact h.snap, by rw [hg]; exact h.fine, hnl, hml, by rw [ho]; exact h.out⟩, hi, fun j hj => put_off _ _ hj⟩
theorem step_turn (h : At c0 s m) (hi : m'.id = m.id) (hg : m'.g = m.g) (hnl : m'.next.length = 7) (hml : m'.mat.length = 7) (ho : m'.out = m.out) (ht : m'.term = m.term) (hv : m'.vote = m.vote) (hc : m'.commit = m.commit) (k1 : m'.role = 1 → Runs s m.id (co m')) (k2 : m'.role = 2 → Leads s m.id (co m')) : Step c0 s m m' :=
  step_put h hi hg hnl hml ho (inv_turn h.inv h.id (by rw [h.nd]; exact ht) (by rw [h.nd]; exact congrArg G.es hg) (by rw [h.nd]; exact hc) (by rw [h.nd]; exact hv) k1 k2) (Nat.le_of_eq ht.symm)
theorem step_retire (h : At c0 s m) : Step c0 s m (retire m) :=
  step_turn h rfl rfl rfl rfl rfl rfl rfl rfl (fun e => by cases e) (fun e => by cases e)
theorem step_follow (h : At c0 s m) (t : Nat) : Step c0 s m (followN m t) := by
  unfold followN
  split
  · rename_i hlt
    exact step_put h rfl rfl rfl rfl rfl (inv_follow h.inv h.id (by rw [h.nd]; exact hlt) (by rw [h.nd]; rfl) (by rw [h.nd]; rfl) rfl rfl) (Nat.le_of_lt hlt)
  · exact step_retire h
/-- What isn't looked at. -/
theorem step_same (h : At c0 s m) (hc : co m' = co m) (hi : m'.id = m.id) (hg : m'.g = m.g) (hnl : m'.next = m.next) (hml : m'.mat = m.mat) (ho : m'.out = m.out) : Step c0 s m m' :=
  ⟨s, Ext.refl s, ⟨h.inv, by rw [hi, hc]; exact h.nd, by rw [hi]; exact h.id, by rw [hg]; exact h.snap, by rw [hg]; exact h.fine, by rw [hnl]; exact h.nl, by rw [hml]; exact h.ml, by rw [ho]; exact h.out⟩, hi, fun _ _ => rfl⟩

/-! ### A commit, an entry, an election -/
theorem step_advance (h : At c0 s m) (hr : m.role = 2) : Step c0 s m (advance m) := by
  unfold advance
  split
  case isFalse => exact Step.refl h
  rename_i hm
  unfold mayAdvance ofTerm at hm
  rw [Bool.and_eq_true, decide_eq_true_eq, decide_eq_true_eq] at hm
  obtain ⟨hof, hlt⟩ := hm
  have hpos : 0 < best m := by omega
  obtain ⟨f, hf, hft⟩ : ∃ f, m.g.es[best m - 1]? = some f ∧ f.term = m.term := by
    rcases h.term hof with ⟨h1, _⟩ | ⟨_, e, h2, h3⟩
    · omega
    · exact ⟨e, h2, h3⟩
  have hq : majP (cf c0 m.g.es) fun v => decide (best m ≤ told m.mat v) := by
    have hb : best m = reach (cfg m) m.mat := rfl
    unfold reach at hb
    split at hb
    · rename_i hx
      have := Classical.choose_spec hx
      rw [← hb] at this
      rcases this with ⟨_, h0⟩ | ⟨_, h1, _⟩
      · omega
      · rw [h.cfg] at h1
        exact h1
    · omega
  have hc : Step c0 s m (reached m) := by
    obtain ⟨h1, h2⟩ := inv_comm h.inv (n := co (reached m)) h.id (by rw [h.nd]; exact hr) (by rw [h.nd]; rfl) (by rw [h.nd]; rfl) (by rw [h.nd]; rfl) hr (fun v _ => by rw [h.nd]; exact ⟨rfl, rfl⟩) (by rw [h.nd]; exact hlt) (f := f) (by rw [h.nd]; exact hf) hft (Q := fun v => decide (best m ≤ told m.mat v)) (by rw [h.nd]; exact hq) (fun v _ hv => by rw [h.nd]; exact of_decide_eq_true hv)
    exact ⟨_, h2, ⟨h1, put_at _ _ _, h.id, h.snap, h.fine, h.nl, h.ml, h.out⟩, rfl, fun j hj => put_off _ _ hj⟩
  split
  · refine hc.then fun s1 _ h1 => (step_beat h1).then fun s2 _ h2 => (step_retire h2).then fun s3 _ h3 => ?_
    exact step_same h3 rfl rfl rfl rfl rfl rfl
  · exact hc
theorem step_added (h : At c0 s m) (hr : m.role = 2) (kind : Int) (d : ByteArray) (k0 : -9223372036854775808 ≤ kind) (k1 : kind ≤ 9223372036854775807) (hd : d.size ≤ 9223372036854775807) (hb : m.term < 18446744073709551616) (hc : canAdd m kind d = true)
    (hk : kind = 2 → Adj (cf c0 m.g.es) (setOf d) ∧ sn c0 m.g.es ≤ m.commit ∧ ∃ f, 0 < m.commit ∧ m.g.es[m.commit - 1]? = some f ∧ f.term = m.term) : Step c0 s m (added m kind d) := by
  have k := h.leads hr
  have hf : Fine (added m kind d).g := by
    have := fine_add h.fine m.term kind d hb k0 k1 hd
    have hc' : addOk m.g m.term kind d = true := hc
    unfold Rlog.add at this
    rw [if_pos hc'] at this
    exact this
  have hi : (ent m kind d).idx = m.g.es.length + 1 := by show (Rlog.last m.g).1 + 1 = _; rw [h.last]
  have hlen : (added m kind d).g.es.length = m.g.es.length + 1 := by show (m.g.es ++ [ent m kind d]).length = _; simp
  have hbnd : (ent m kind d).idx ≤ topN := by
    have := h.fine.last_b.1
    have hc' : addOk m.g m.term kind d = true := hc
    unfold addOk at hc'
    rw [Bool.and_eq_true, decide_eq_true_eq] at hc'
    show (Rlog.last m.g).1 + 1 ≤ 18446744073709551615
    omega
  refine And.elim (fun h1 h2 => ?_) (inv_grow h.inv (n := co (added m kind d)) (e := ent m kind d) h.id (by rw [h.nd]; exact hr) (by rw [h.nd]; rfl) (by rw [h.nd]; rfl) (by rw [h.nd]; rfl) (by rw [h.nd]; rfl) hr (fun v h7 => ?_) rfl (by rw [h.nd]; exact hi) hbnd (fun e2 => ?_))
  · exact ⟨_, h2, ⟨h1, put_at _ _ _, h.id, h.snap, hf, h.nl, by show (m.mat.set _ _).length = 7; rw [List.length_set]; exact h.ml, fun x hx => h.out x hx⟩, rfl, fun j hj => put_off _ _ hj⟩
  · obtain ⟨a1, a2, a3⟩ := k.mat v h7
    have a1 : told m.mat v ≤ s.ack v m.term := a1
    have a3 : told m.next v ≤ m.g.es.length + 1 := a3
    refine ⟨fun e => ?_, fun e => ?_, a2, ?_⟩
    · show told (m.mat.set m.id (ent m kind d).idx) v ≤ (added m kind d).g.es.length
      rw [told_set, hlen, hi, if_pos ⟨e, by rw [h.ml]; exact h.id⟩]
      exact Nat.le_refl _
    · show told (m.mat.set m.id (ent m kind d).idx) v ≤ s.ack v m.term
      rw [told_set, if_neg fun x => e x.1]
      exact a1
    · show told m.next v ≤ (added m kind d).g.es.length + 1
      omega
  · obtain ⟨b1, b2, b3⟩ := hk e2
    rw [h.nd]
    refine ⟨?_, b1, b2, b3⟩
    have := okl_fine (c := c0) (L := (added m kind d).g.es) (by
      have e3 : (added m kind d).g = ⟨snapC c0, (added m kind d).g.es⟩ := by rw [← h.snap]; rfl
      rw [← e3]; exact hf) m.g.es.length (ent m kind d) (by show (m.g.es ++ [ent m kind d])[_]? = _; simp)
    exact this.2.2 e2
theorem step_add (h : At c0 s m) (hr : m.role = 2) (kind : Int) (d : ByteArray) (k0 : -9223372036854775808 ≤ kind) (k1 : kind ≤ 9223372036854775807) (hd : d.size ≤ 9223372036854775807) (hb : m.term < 18446744073709551616)
    (hk : kind = 2 → canAdd m kind d = true → Adj (cf c0 m.g.es) (setOf d) ∧ sn c0 m.g.es ≤ m.commit ∧ ∃ f, 0 < m.commit ∧ m.g.es[m.commit - 1]? = some f ∧ f.term = m.term) : Step c0 s m (Nod.add m kind d).2 := by
  unfold Nod.add
  split
  · rename_i hc
    exact (step_added h hr kind d k0 k1 hd hb hc fun e => hk e hc).then fun s1 _ h1 => (step_beat h1).then fun s2 _ h2 => step_advance h2 ((beat_same _).2.2.2.trans hr)
  · exact Step.refl h
theorem step_lead (h : At c0 s m) (hb : m.term < 18446744073709551616) : Step c0 s m (lead m) := by
  unfold lead
  split
  case isFalse => exact Step.refl h
  rename_i hc
  obtain ⟨hr, hm⟩ := hc
  rw [h.cfg] at hm
  have hx : Step c0 s m (leads m) := by
    refine And.elim (fun h1 h2 => ?_) (inv_elect h.inv (n := co (leads m)) h.id (by rw [h.nd]; exact hr) (by rw [h.nd]; exact majP_of hm) (by rw [h.nd]; rfl) (by rw [h.nd]; rfl) (by rw [h.nd]; rfl) (by rw [h.nd]; rfl) rfl (fun v h7 => ⟨told_zeros v, ?_⟩))
    · exact ⟨_, h2, ⟨h1, put_at _ _ _, h.id, h.snap, h.fine, rfl, rfl, h.out⟩, rfl, fun j hj => put_off _ _ hj⟩
    · show told (evens ((Rlog.last m.g).1 + 1)) v = m.g.es.length + 1
      rw [h.last]
      show told (evens (m.g.es.length + 1)) v = m.g.es.length + 1
      generalize m.g.es.length + 1 = n
      have hs : v = 0 ∨ v = 1 ∨ v = 2 ∨ v = 3 ∨ v = 4 ∨ v = 5 ∨ v = 6 := by omega
      rcases hs with rfl | rfl | rfl | rfl | rfl | rfl | rfl <;> rfl
  exact hx.then fun s1 _ h1 => step_add h1 rfl 0 ByteArray.empty (by decide) (by decide) (by decide) hb fun e => by cases e
theorem lead_term_b (h : At c0 s m) : m.term ≤ (s.nd m.id).term := by rw [h.nd]; exact Nat.le_refl _

/-! ### The calls -/
theorem step_timeout (h : At c0 s m) (hb : m.term < 18446744073709551616) : Step c0 s m (timeout m) := by
  unfold timeout
  split
  · exact Step.refl h
  rename_i hc
  have hx : Step c0 s m (stands m) := by
    refine And.elim (fun h1 h2 => ?_) (inv_stand h.inv (n := co (stands m)) h.id (by rw [h.nd]; rfl) (by rw [h.nd]; rfl) (by rw [h.nd]; rfl) rfl rfl (fun v _ hv => ?_))
    · exact ⟨_, h2, ⟨h1, put_at _ _ _, h.id, h.snap, h.fine, h.nl, h.ml, h.out⟩, rfl, fun j hj => put_off _ _ hj⟩
    · have hv : (2 ^ m.id).testBit v = true := hv
      rw [Nat.testBit_two_pow, decide_eq_true_eq] at hv
      exact hv.symm
  have htn : m.term ≠ topN := fun e => hc (.inr (.inl e))
  have htn' : m.term ≠ 18446744073709551615 := htn
  refine hx.then fun s1 _ h1 => (step_asks _ h1 rfl).then fun s2 _ h2 => step_lead h2 ?_
  have : (asks (stands m)).term = m.term + 1 := by
    unfold asks
    have hf : ∀ (l : List Nat) (x : Nd), (l.foldl askN x).term = x.term := fun l => by
      induction l with
      | nil => intro x; rfl
      | cons i l ih => intro x; exact ih (askN x i)
    exact hf _ _
  show (asks (stands m)).term < _
  omega
theorem step_propose (h : At c0 s m) (hb : m.term < 18446744073709551616) (d : ByteArray) (hd : d.size ≤ 9223372036854775807) : Step c0 s m (propose m d).2 := by
  unfold propose
  split
  · rename_i hr
    exact step_add h hr 1 d (by decide) (by decide) hd hb fun e => by cases e
  · exact Step.refl h
theorem set_back {c : Nat} (hc : c < 18446744073709551616) : setOf (str (num c)) = c := by
  have h1 : (str (num c)).data.toList = num c := by simp [str]
  unfold setOf
  rw [h1]
  have := Num.got_num hc []
  rwa [List.append_nil] at this
theorem step_changes (h : At c0 s m) (hb : m.term < 18446744073709551616) (ad : Bool) (i : Int) : Step c0 s m (changes m ad i).2 := by
  unfold changes
  split
  case isFalse => exact Step.refl h
  rename_i hr
  split
  · exact Step.refl h
  rename_i he
  split
  case isFalse => exact Step.refl h
  rename_i hch
  have k := h.leads hr
  unfold earlyN ofTerm at he
  rw [Bool.not_eq_true, Bool.or_eq_false_iff, decide_eq_false_iff_not, Bool.not_eq_false', decide_eq_true_eq, h.since] at he
  have h1 := (h.inv.led _ _ k.ld).pos
  have hpos : 1 ≤ m.term := h1
  have hx : Step c0 s m (fresh m ad i.toNat) := by
    unfold fresh
    split
    · refine step_turn h rfl rfl (by rw [List.length_set]; exact h.nl) (by rw [List.length_set]; exact h.ml) rfl rfl rfl rfl (fun e => absurd (hr.symm.trans e) (by decide)) fun _ => ⟨k.ld, k.es, fun v h7 => ?_, k.com, k.all⟩
      obtain ⟨a1, a2, a3⟩ := k.mat v h7
      show told (m.mat.set i.toNat 0) v ≤ _ ∧ 1 ≤ told (m.next.set i.toNat ((Rlog.last m.g).1 + 1)) v ∧ told (m.next.set i.toNat ((Rlog.last m.g).1 + 1)) v ≤ m.g.es.length + 1
      rw [told_set, told_set, h.last]
      constructor
      · split
        · exact Nat.zero_le _
        · exact a1
      · split
        · exact ⟨by show 1 ≤ m.g.es.length + 1; omega, Nat.le_refl _⟩
        · exact ⟨a2, a3⟩
    · exact Step.refl h
  have hsame : (fresh m ad i.toNat).g = m.g ∧ (fresh m ad i.toNat).role = m.role ∧ (fresh m ad i.toNat).commit = m.commit ∧ (fresh m ad i.toNat).term = m.term := by
    unfold fresh
    split <;> exact ⟨rfl, rfl, rfl, rfl⟩
  refine hx.then fun s1 _ h1 => step_add h1 (hsame.2.1.trans hr) 2 _ (by decide) (by decide) (str_num_b _ change_lt) (by rw [hsame.2.2.2]; exact hb) fun _ _ => ?_
  rw [hsame.1, hsame.2.2.1, hsame.2.2.2, set_back change_lt]
  refine ⟨⟨ad, i, ?_⟩, by omega, ?_⟩
  · rw [← h.cfg]
    exact Prod.ext rfl hch
  · rcases h.term he.2 with ⟨_, h3⟩ | ⟨h2, e, h3, h4⟩
    · omega
    · exact ⟨e, h2, h3, h4⟩

/-! ### Letters that come -/
theorem step_asked (h : At c0 s m) {x : Msg} (hx : Sent s x) (hk : x.k = 1) : Step c0 s m (asked m x) := by
  unfold asked
  by_cases hg : grants m x = true
  case neg =>
    rw [if_neg hg]
    exact step_say h (sent_plain s (.inl rfl) (by show grants m x = false; simpa using hg))
  rw [if_pos hg, hg]
  unfold grants newer at hg
  simp only [Bool.and_eq_true, Bool.or_eq_true, decide_eq_true_eq] at hg
  obtain ⟨g1, g2, g3, g4⟩ := hg
  obtain ⟨c, c1, c2, c3, c4, c5⟩ := hx.k1 hk
  have hsay : ∀ s1, Ext s s1 → At c0 s1 (votesFor m x.f) → (∃ L b, s1.vd m.id m.term = some (c, L, b)) → Step c0 s1 (votesFor m x.f) (post (votesFor m x.f) { blankM with k := 2, t := x.f, ok := true }) := fun s1 _ h1 ⟨L, b, hv⟩ =>
    step_say h1 ⟨by show (2 : Int) ≠ 5; decide, fun e => absurd e (by show (2 : Int) ≠ 1; decide), fun _ _ => ⟨m.id, c, L, b, h.id, rfl, c2, hv⟩, fun e => absurd e (by show (2 : Int) ≠ 3; decide), fun e => absurd e (by show (2 : Int) ≠ 4; decide)⟩
  by_cases hv : m.vote = -1
  · refine And.elim (fun h1 h2 => ?_) (inv_grant h.inv (n := co (votesFor m x.f)) (c := c) h.id c1 (by rw [h.nd]; rfl) (by rw [h.nd]; rfl) (by rw [h.nd]; rfl) g2 (by rw [h.nd]; exact hv) c2 (by show m.term ≤ _; rw [← g1]; exact c3) ?_)
    · have ha : At c0 (s.grant m.id c (co (votesFor m x.f))) (votesFor m x.f) := ⟨h1, put_at _ _ _, h.id, h.snap, h.fine, h.nl, h.ml, h.out⟩
      have hst : Step c0 s m (votesFor m x.f) := ⟨_, h2, ha, rfl, fun j hj => put_off _ _ hj⟩
      obtain ⟨s2, e2, a2, i2, o2⟩ := hsay _ h2 ha ⟨_, _, upt_eq _ _ _ _⟩
      exact ⟨s2, h2.trans e2, a2, i2, fun j hj => (o2 j hj).trans (put_off _ _ hj)⟩
    · show Newer (s.cl c m.term) m.g.es
      rw [h.last] at g4
      rw [g1] at c4 c5
      rw [c4, c5] at g4
      rcases g4 with g4 | ⟨g4, g5⟩
      · exact .inl g4
      · exact .inr ⟨g4.symm, g5⟩
  · have hvf : m.vote = x.f := by rcases g3 with e | e; exact absurd e hv; exact e
    obtain ⟨L, b, hvd⟩ : ∃ L b, s.vd m.id m.term = some (c, L, b) := by
      rcases h.sane.vote with ⟨e, _⟩ | ⟨c', L, b, e1, e2⟩
      · exact absurd e hv
      · have e1 : m.vote = ((c' : Nat) : Int) := e1
        have : c' = c := by omega
        subst this
        exact ⟨L, b, e2⟩
    have hst : Step c0 s m (votesFor m x.f) := step_same h (by unfold votesFor co; simp only [hvf]) rfl rfl rfl rfl rfl
    exact hst.then fun s1 hx1 h1 => hsay s1 hx1 h1 ⟨L, b, hx1.vd _ _ _ hvd⟩
theorem step_voted (h : At c0 s m) (hb : m.term < 18446744073709551616) {x : Msg} (hx : Sent s x) (hk : x.k = 2) (ht : x.t = (m.id : Int)) : Step c0 s m (voted m x) := by
  unfold voted
  split
  case isFalse => exact Step.refl h
  rename_i hc
  obtain ⟨hr, htm, hok⟩ := hc
  obtain ⟨v, c, L, b, h1, h2, h3, h4⟩ := hx.k2 hk hok
  have hci : c = m.id := by omega
  subst hci
  have k := h.runs hr
  have hst : Step c0 s m { m with votes := m.votes ||| 2 ^ x.f.toNat } := by
    refine step_turn h rfl rfl h.nl h.ml rfl rfl rfl rfl (fun _ => ⟨k.ld, k.es, k.pos, fun u h7 hu => ?_, k.low⟩) (fun e => absurd (hr.symm.trans e) (by decide))
    have hu : (m.votes ||| 2 ^ x.f.toNat).testBit u = true := hu
    rw [Nat.testBit_or, Bool.or_eq_true, Nat.testBit_two_pow, decide_eq_true_eq] at hu
    rcases hu with hu | hu
    · exact k.votes u h7 hu
    · have : u = v := by omega
      subst this
      rw [htm] at h4
      exact ⟨L, b, h4⟩
  exact hst.then fun s1 _ h1 => step_lead h1 hb
theorem step_answered (h : At c0 s m) {x : Msg} (hx : Sent s x) (hk : x.k = 4) (hf : node x.f = true) : Step c0 s m (answered m x) := by
  have hn := node_lt hf
  unfold answered
  split
  case isFalse => exact Step.refl h
  rename_i hc
  obtain ⟨hr, htm⟩ := hc
  have k := h.leads hr
  have hes : m.g.es = s.G m.term := k.es
  have hal : ∀ v, v < 7 → told m.mat v ≤ m.g.es.length := fun v h7 => by
    rw [hes]
    exact Nat.le_trans (k.mat v h7).1 (h.inv.acklen _ _ k.ld v h7)
  split
  · rename_i hok
    split
    · exact Step.refl h
    rename_i hle
    rw [h.last] at hle
    have hle : x.ix ≤ m.g.es.length := Nat.le_of_not_lt hle
    obtain ⟨v, h1, h2, h3⟩ := hx.k4 hk hok
    rw [htm] at h3
    have hfv : x.f.toNat = v := by omega
    have h2m : has2 m x ≤ s.ack v m.term ∧ has2 m x ≤ m.g.es.length := by
      unfold has2
      rw [hfv]
      exact ⟨Nat.max_le.2 ⟨(k.mat v h1).1, h3⟩, Nat.max_le.2 ⟨hal v h1, hle⟩⟩
    have hst : Step c0 s m (hasIt m x) := by
      refine step_turn h rfl rfl (by unfold hasIt; simp only [List.length_set]; exact h.nl) (by unfold hasIt; simp only [List.length_set]; exact h.ml) rfl rfl rfl rfl (fun e => absurd (hr.symm.trans e) (by decide)) fun _ => ⟨k.ld, k.es, fun u h7 => ?_, k.com, k.all⟩
      obtain ⟨a1, a2, a3⟩ := k.mat u h7
      have a2 : 1 ≤ told m.next u := a2
      have a3 : told m.next u ≤ m.g.es.length + 1 := a3
      show told (m.mat.set x.f.toNat (has2 m x)) u ≤ s.ack u m.term ∧ 1 ≤ told (m.next.set x.f.toNat (max (told m.next x.f.toNat) (has2 m x + 1))) u ∧ told (m.next.set x.f.toNat (max (told m.next x.f.toNat) (has2 m x + 1))) u ≤ m.g.es.length + 1
      rw [told_set, told_set, hfv]
      constructor
      · split
        · rename_i e
          rw [e.1]; exact h2m.1
        · exact a1
      · split
        · rename_i e
          rw [e.1] at a2 a3
          omega
        · exact ⟨a2, a3⟩
    have hst2 := hst.then fun s1 _ h1 => step_advance h1 (show (hasIt m x).role = 2 from hr)
    split
    · rename_i hm
      unfold more at hm
      simp only [Bool.and_eq_true, decide_eq_true_eq] at hm
      refine hst2.then fun s2 _ h2 => ?_
      have k2 := h2.leads hm.1
      have hes2 : (advance (hasIt m x)).g.es = s2.G (advance (hasIt m x)).term := k2.es
      have hst3 : Step c0 s2 (advance (hasIt m x)) (onward (advance (hasIt m x)) x.f.toNat) := by
        refine step_turn h2 rfl rfl (by unfold onward; simp only [List.length_set]; exact h2.nl) h2.ml rfl rfl rfl rfl (fun e => absurd (hm.1.symm.trans e) (by decide)) fun _ => ⟨k2.ld, k2.es, fun u h7 => ?_, k2.com, k2.all⟩
        obtain ⟨a1, a2, a3⟩ := k2.mat u h7
        have hu : told (advance (hasIt m x)).mat u ≤ (advance (hasIt m x)).g.es.length := by
          rw [hes2]
          exact Nat.le_trans a1 (h2.inv.acklen _ _ k2.ld u h7)
        refine ⟨a1, ?_⟩
        show 1 ≤ told ((advance (hasIt m x)).next.set x.f.toNat (told (advance (hasIt m x)).mat x.f.toNat + 1)) u ∧ told ((advance (hasIt m x)).next.set x.f.toNat (told (advance (hasIt m x)).mat x.f.toNat + 1)) u ≤ (advance (hasIt m x)).g.es.length + 1
        rw [told_set]
        split
        · rename_i e
          rw [e.1] at hu
          omega
        · exact ⟨a2, a3⟩
      exact hst3.then fun s3 _ h3 => step_write h3 hm.1 (by omega)
    · exact hst2
  · have hst : Step c0 s m (retry m x) := by
      refine step_turn h rfl rfl (by unfold retry; simp only [List.length_set]; exact h.nl) h.ml rfl rfl rfl rfl (fun e => absurd (hr.symm.trans e) (by decide)) fun _ => ⟨k.ld, k.es, fun u h7 => ?_, k.com, k.all⟩
      obtain ⟨a1, a2, a3⟩ := k.mat u h7
      refine ⟨a1, ?_⟩
      show 1 ≤ told (m.next.set x.f.toNat (max (told m.mat x.f.toNat) (min x.ix (Rlog.last m.g).1) + 1)) u ∧ told (m.next.set x.f.toNat (max (told m.mat x.f.toNat) (min x.ix (Rlog.last m.g).1) + 1)) u ≤ m.g.es.length + 1
      rw [told_set, h.last]
      split
      · rename_i e
        have := hal x.f.toNat (by omega)
        refine ⟨by omega, ?_⟩
        show max (told m.mat x.f.toNat) (min x.ix m.g.es.length) + 1 ≤ _
        omega
      · exact ⟨a2, a3⟩
    exact hst.then fun s1 _ h1 => step_write h1 hr (by omega)
end
end Go.Proofs.YtokifeghoodkgaaGreat.ElB
set_option linter.unusedVariables false
namespace Go.Proofs.YtokifeghoodkgaaGreat.ElG
open Go.Proofs.YtokifeghoodkgaaGreat.Rlog Go.Proofs.YtokifeghoodkgaaGreat.Nod
open Go.Proofs.YtokifeghoodkgaaGreat.Quorum (mem size need sound maj node has turn change)
open Go.Proofs.YtokifeghoodkgaaGreat.Num (num)

/-- A letter to a node. -/
structure LtOk (x : Msg) : Prop where
  b : MsgB x
  t0 : 0 ≤ x.t
  t7 : x.t < 7
  few : x.es.length ≤ 8
def Outs (m : Nd) : Prop := ∀ x ∈ m.out, LtOk x
section
variable {N : Nat} {m : Nd}
theorem post_ok (o : Outs m) {x : Msg} (h : LtOk (sign m x)) : Outs (post m x) := fun y hy => by
  rcases List.mem_append.1 hy with hy | hy
  · exact o y hy
  · rw [List.mem_singleton.1 hy]; exact h
theorem plain_ok (h : NdB N m) {k t : Int} {ix pv : Nat} {ok : Bool} (hk : 1 ≤ k ∧ k ≤ 5) (ht : 0 ≤ t ∧ t < 7) (hix : ix < 18446744073709551616) (hpv : pv < 18446744073709551616) : LtOk (sign m { blankM with k := k, t := t, ix := ix, pv := pv, ok := ok }) := by
  have h1 := h.id
  have h2 := h.term
  refine ⟨⟨?_, ?_, ?_, ?_, ?_, ?_, h2, hix, hpv, by show 0 < _; decide, fun e he => (by cases he), by show 0 * 40 ≤ _; omega⟩, ht.1, ht.2, by show 0 ≤ 8; decide⟩
  · show _ ≤ k; omega
  · show k ≤ _; omega
  · show _ ≤ (m.id : Int); omega
  · show (m.id : Int) ≤ _; omega
  · show _ ≤ t; omega
  · show t ≤ _; omega
theorem write_ok (h : NdB N m) (hN : N ≤ 1000000000) (o : Outs m) {to_ : Nat} (ht : to_ < 7) : Outs (write m to_) := by
  have h1 := h.id
  have h2 := h.term
  unfold write
  refine post_ok o ?_
  unfold letterTo
  split
  · refine ⟨⟨by show -9223372036854775808 ≤ (5 : Int); decide, by show (5 : Int) ≤ _; decide, by show _ ≤ (m.id : Int); omega, by show (m.id : Int) ≤ _; omega, by show _ ≤ (to_ : Int); omega, by show (to_ : Int) ≤ _; omega, h2, h.fine.snap.idx, h.fine.snap.term, h.fine.snap.cfg, fun e he => (by cases he), by show 0 * 40 ≤ _; omega⟩, by show (0 : Int) ≤ (to_ : Int); omega, by show (to_ : Int) < 7; omega, by show 0 ≤ 8; decide⟩
  · have hnx := told_b h.nb (by decide) to_
    have hg : (get m.g (told m.next to_) 8).length ≤ 8 ∧ ∀ e ∈ get m.g (told m.next to_) 8, EntB e := by
      unfold Rlog.get
      cases place m.g (told m.next to_) with
      | none => exact ⟨by show 0 ≤ 8; decide, fun e he => by cases he⟩
      | some k =>
        refine ⟨?_, fun e he => h.fine.ents e (List.mem_of_mem_drop (List.mem_of_mem_take he))⟩
        show (List.take 8 _).length ≤ 8
        rw [List.length_take]
        omega
    have hpv : (term m.g (told m.next to_ - 1)).getD 0 < 18446744073709551616 := by
      cases ht' : term m.g (told m.next to_ - 1) with
      | none => show 0 < _; decide
      | some t => exact h.fine.term_lt ht'
    have hcm := h.commit
    refine ⟨⟨by show -9223372036854775808 ≤ (3 : Int); decide, by show (3 : Int) ≤ _; decide, by show _ ≤ (m.id : Int); omega, by show (m.id : Int) ≤ _; omega, by show _ ≤ (to_ : Int); omega, by show (to_ : Int) ≤ _; omega, h2, by show told m.next to_ - 1 < _; omega, hpv, by show m.commit < _; omega, hg.2, ?_⟩, by show (0 : Int) ≤ (to_ : Int); omega, by show (to_ : Int) < 7; omega, hg.1⟩
    show (get m.g (told m.next to_) 8).length * 40 ≤ _
    have := hg.1
    omega
theorem writes_ok (l : List Nat) (hl : ∀ i ∈ l, i < 7) : ∀ {N : Nat} {m : Nd}, NdB N m → N + l.length ≤ 1000000000 → Outs m → Outs (l.foldl write m) := by
  induction l with
  | nil => intro N m _ _ o; exact o
  | cons i l ih =>
    intro N m h hN o
    rw [List.length_cons] at hN
    exact ih (fun j hj => hl j (by simp [hj])) (write_b h i) (by omega) (write_ok h (by omega) o (hl i (by simp)))
theorem beat_ok (h : NdB N m) (hN : N ≤ 900000000) (o : Outs m) : Outs (beat m) := by
  unfold beat
  split
  · exact writes_ok _ (fun i hi => rest_lt hi) h (by have := rest_len m; omega) o
  · exact o
theorem asks_ok (l : List Nat) (hl : ∀ i ∈ l, i < 7) : ∀ {N : Nat} {m : Nd}, NdB N m → Outs m → Outs (l.foldl askN m) := by
  induction l with
  | nil => intro N m _ o; exact o
  | cons i l ih =>
    intro N m h o
    have hi := hl i (by simp)
    refine ih (fun j hj => hl j (by simp [hj])) (askN_b h i) (post_ok o ?_)
    have hb := h.fine.last_b
    exact plain_ok h (k := 1) (t := (i : Int)) (ok := false) (by omega) (by omega) hb.1 hb.2
theorem advance_ok (h : NdB N m) (hN : N ≤ 900000000) (o : Outs m) : Outs (advance m) := by
  unfold advance
  split
  · split
    · exact beat_ok (reached_b h) hN o
    · exact o
  · exact o
theorem add_ok (h : NdB N m) (hr : m.role = 2) (hN : N ≤ 800000000) (o : Outs m) (kind : Int) (d : ByteArray) (k0 : -9223372036854775808 ≤ kind) (k1 : kind ≤ 9223372036854775807) (hd : d.size ≤ 9223372036854775807) : Outs (Nod.add m kind d).2 := by
  unfold Nod.add
  split
  · rename_i hc
    have h1 := added_b h hr (by omega) kind d k0 k1 hd hc
    exact advance_ok (beat_b h1) (by omega) (beat_ok h1 (by omega) o)
  · exact o
theorem lead_ok (h : NdB N m) (hN : N ≤ 800000000) (o : Outs m) : Outs (lead m) := by
  unfold lead
  split
  · exact add_ok (leads_b h (by omega)) rfl hN o 0 ByteArray.empty (by decide) (by decide) (by decide)
  · exact o
theorem timeout_ok (h : NdB N m) (hN : N ≤ 700000000) (o : Outs m) : Outs (timeout m) := by
  unfold timeout
  split
  · exact o
  · rename_i hc
    have h1 := stands_b h (fun e => hc (.inl e)) (fun e => hc (.inr (.inl e)))
    exact lead_ok (asks_b h1) (by omega) (asks_ok _ (fun i hi => rest_lt hi) h1 o)
theorem propose_ok (h : NdB N m) (hN : N ≤ 800000000) (o : Outs m) (d : ByteArray) (hd : d.size ≤ 9223372036854775807) : Outs (propose m d).2 := by
  unfold propose
  split
  · rename_i hr
    exact add_ok h hr hN o 1 d (by decide) (by decide) hd
  · exact o
theorem changes_ok (h : NdB N m) (hN : N ≤ 800000000) (o : Outs m) (ad : Bool) (i : Int) : Outs (changes m ad i).2 := by
  unfold changes
  split
  · rename_i hr
    split
    · exact o
    · split
      · obtain ⟨f1, f2⟩ := fresh_b h hr (by omega) ad i.toNat
        refine add_ok f1 f2 hN ?_ 2 _ (by decide) (by decide) (str_num_b _ change_lt)
        unfold fresh
        split <;> exact o
      · exact o
  · exact o
theorem asked_ok (h : NdB N m) (o : Outs m) {x : Msg} (hf : node x.f = true) : Outs (asked m x) := by
  have hn := node_lt hf
  unfold asked
  split
  · exact post_ok o (plain_ok (m := votesFor m x.f) { h with v0 := by show -1 ≤ x.f; omega, v1 := by show x.f < 7; omega } (k := 2) (t := x.f) (ix := 0) (pv := 0) (by omega) hn (by decide) (by decide))
  · exact post_ok o (plain_ok h (k := 2) (t := x.f) (ix := 0) (pv := 0) (by omega) hn (by decide) (by decide))
theorem voted_ok (h : NdB N m) (hN : N ≤ 800000000) (o : Outs m) {x : Msg} (hf : node x.f = true) : Outs (voted m x) := by
  have := node_lt hf
  unfold voted
  split
  · refine lead_ok { h with votes := ?_ } hN o
    show m.votes ||| 2 ^ x.f.toNat < 2 ^ 7
    exact Nat.or_lt_two_pow h.votes (pow_lt (by omega))
  · exact o
theorem reply_ok (h : NdB N m) (o : Outs m) {to_ : Int} (ht : 0 ≤ to_ ∧ to_ < 7) {ix : Nat} (hix : ix < 18446744073709551616) (ok : Bool) : Outs (reply m to_ ix ok) :=
  post_ok o (plain_ok h (k := 4) (pv := 0) (by omega) ht hix (by decide))
theorem answered_ok (h : NdB N m) (hN : N ≤ 800000000) (o : Outs m) {x : Msg} (hf : node x.f = true) (hix : x.ix ≤ 4611686018427387904) : Outs (answered m x) := by
  have hn := node_lt hf
  have h7 : x.f.toNat < 7 := by omega
  unfold answered
  split
  · rename_i hr
    split
    · split
      · exact o
      have hb := hasIt_b h hr.1 (by omega) hix
      have ha := advance_b hb
      have oa : Outs (advance (hasIt m x)) := advance_ok hb (by omega) o
      split
      · rename_i hm
        unfold more at hm
        simp only [Bool.and_eq_true, decide_eq_true_eq] at hm
        exact write_ok (onward_b ha hm.1 (by omega) _) (by omega) oa h7
      · exact oa
    · exact write_ok (retry_b h hr.1 (by omega) hix) (by omega) o h7
  · exact o
theorem before_lt (h : NdB N m) (hN : N ≤ 1000000000) (i : Nat) : before m i < 18446744073709551616 := by
  have h1 := h.commit
  have h2 := h.top
  unfold before
  split <;> omega
theorem written_ok (h : NdB N m) (hN : N ≤ 800000000) (o : Outs m) {x : Msg} (hx : MsgB x) (hf : node x.f = true) (hix : x.ix ≤ 4611686018427387904) : Outs (writtenN m x) := by
  have hn := node_lt hf
  have hh := hearsOf_b h hx hf
  have hw := hx.few
  have oh : Outs (hearsOf m x) := by
    have : (hearsOf m x).out = m.out := by unfold hearsOf followN; split <;> rfl
    intro y hy
    rw [this] at hy
    exact o y hy
  unfold writtenN
  split
  · exact reply_ok h o hn (by decide) _
  split
  · exact o
  split
  · unfold merged
    split
    · exact oh
    split
    · have hl := laid_b hh hx hix
      exact reply_ok hl oh hn (by unfold aheadN; omega) _
    · exact reply_ok hh oh hn (before_lt hh (by omega) _) _
  · unfold laysDown
    split
    · split
      · exact oh
      · exact reply_ok (installs_b hh hx hix) oh hn (by omega) _
    · exact reply_ok hh oh hn (by omega) _
theorem receive_ok (h : NdB N m) (hN : N ≤ 700000000) (o : Outs m) {x : Msg} (hx : MsgB x) : Outs (receive m x) := by
  unfold receive
  split
  case isFalse => exact o
  rename_i hh
  have hn := hears_node hh
  have hix := hears_ix hh
  have hb := heard_b h hx
  have ob : Outs (heard m x) := by
    have : (heard m x).out = m.out := by unfold heard followN; split <;> (try split) <;> rfl
    intro y hy
    rw [this] at hy
    exact o y hy
  unfold handles
  split
  · exact asked_ok hb ob hn
  split
  · exact voted_ok hb (by omega) ob hn
  split
  · exact answered_ok hb (by omega) ob hn hix
  · exact written_ok hb (by omega) ob hx hn hix
end
end Go.Proofs.YtokifeghoodkgaaGreat.ElG
