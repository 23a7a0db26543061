/- Plain mathematics of layer 12: how great a node may be, and what each call adds. No program's text; no statement is proved here. -/
import Derived.Test.YtdbmpfongfiagaaNod
set_option linter.unusedVariables false
namespace Go.Proofs.Ytdbmpfongfiagaa.Nod
open Go.Proofs.Ytdbmpfongfiagaa.Rlog
open Go.Proofs.Ytdbmpfongfiagaa.Quorum (mem size need sound maj node has turn change)
open Go.Proofs.Ytdbmpfongfiagaa.Num (num)

def Asc (l : List Ent) : Prop := l.Pairwise fun a b => a.idx < b.idx
structure NdB (N : Nat) (m : Nd) : Prop where
  id : m.id < 7
  term : m.term < 18446744073709551616
  v0 : -1 ≤ m.vote
  v1 : m.vote < 7
  fine : Fine m.g
  es : m.g.es.length ≤ N
  kept : m.kept.length ≤ N
  out : m.out.length ≤ N
  top : (last m.g).1 ≤ 9223372036854775808 + N
  commit : m.commit < 9223372036854775809 + N
  votes : m.votes < 128
  role : m.role ≤ 2
  l0 : -1 ≤ m.leader
  l1 : m.leader < 7
  nl : m.next.length = 7
  nb : ∀ x ∈ m.next, x < 18446744073709551616
  ml : m.mat.length = 7
  mb : ∀ x ∈ m.mat, x < 9223372036854775809 + N
  asc : Asc m.kept
  quiet : m.role ≠ 2 → m.next = zeros ∧ m.mat = zeros
/-- A letter that comes. -/
structure MsgB (x : Msg) : Prop where
  k0 : -9223372036854775808 ≤ x.k
  k1 : x.k ≤ 9223372036854775807
  f0 : -9223372036854775808 ≤ x.f
  f1 : x.f ≤ 9223372036854775807
  t0 : -9223372036854775808 ≤ x.t
  t1 : x.t ≤ 9223372036854775807
  tm : x.tm < 18446744073709551616
  ix : x.ix < 18446744073709551616
  pv : x.pv < 18446744073709551616
  cm : x.cm < 18446744073709551616
  es : ∀ e ∈ x.es, EntB e
  few : x.es.length * 40 ≤ 140737488355328

section
variable {N N' : Nat} {m : Nd}
theorem NdB.mono (h : NdB N m) (hN : N ≤ N') : NdB N' m :=
  { h with es := Nat.le_trans h.es hN, kept := Nat.le_trans h.kept hN, out := Nat.le_trans h.out hN, top := by have := h.top; omega, commit := by have := h.commit; omega, mb := fun x hx => by have := h.mb x hx; omega }
theorem told_b {l : List Nat} {b : Nat} (h : ∀ x ∈ l, x < b) (hb : 0 < b) (i : Nat) : told l i < b := by
  unfold told
  by_cases hi : i < l.length
  · simp only [List.getD, List.getElem?_eq_getElem hi, Option.getD_some]
    exact h _ (List.getElem_mem hi)
  · simp only [List.getD, List.getElem?_eq_none (Nat.le_of_not_lt hi), Option.getD_none]
    exact hb
theorem told_zeros (i : Nat) : told zeros i = 0 := by
  have h : ∀ x ∈ zeros, x < 1 := by decide
  have := told_b h (by decide) i
  omega
theorem set_b {l : List Nat} {b : Nat} (h : ∀ x ∈ l, x < b) (i x : Nat) (hx : x < b) : ∀ y ∈ l.set i x, y < b := by
  intro y hy
  rcases List.mem_or_eq_of_mem_set hy with h1 | h1
  · exact h y h1
  · omega
theorem reach_b {c b : Nat} {l : List Nat} (h : ∀ x ∈ l, x < b) (hb : 0 < b) : reach c l < b := by
  unfold reach
  split
  · rename_i hx
    have hr := Classical.choose_spec hx
    generalize Classical.choose hx = r at hr ⊢
    rcases hr with ⟨_, h0⟩ | ⟨h0, h1, h2⟩
    · omega
    · have hp := Quorum.need_pos c
      have : 0 < cnt c l r := by omega
      unfold cnt at this
      obtain ⟨i, _, hi⟩ := Quorum.num_pos this
      simp only [Bool.and_eq_true, decide_eq_true_eq] at hi
      have := told_b h hb i
      omega
  · exact hb
theorem best_b (h : NdB N m) : best m < 9223372036854775809 + N := reach_b h.mb (by omega)
theorem members_sound {g : G} (f : Fine g) (i : Nat) : sound (members g i).1 = true := by
  unfold members
  cases hq : pick g.es i with
  | none => exact f.cfg
  | some e =>
    have hin := pick_mem hq
    have := (follow_mem f.runs hin.1).2.2.2.1
    unfold sortOk says at this
    rw [hin.2.1] at this
    have h2 : sound (setOf e.data) = true ∧ e.data.data.toList = num (setOf e.data) := by simpa using this
    exact h2.1
theorem members_lt {g : G} (f : Fine g) (i : Nat) : (members g i).1 < 128 := (of_decide_eq_true (members_sound f i)).2
theorem cfg_lt (h : NdB N m) : cfg m < 128 := members_lt h.fine _
theorem since_lt (h : NdB N m) (hN : N ≤ 1000000000) : since m < 18446744073709551616 := by
  unfold since members
  cases hq : pick m.g.es topN with
  | none => exact h.fine.snap.idx
  | some e => exact (h.fine.ents e (pick_mem hq).1).idx
theorem rest_len (m : Nd) : (rest m).length ≤ 7 := Nat.le_trans (List.length_filter_le _ _) (Quorum.size_le _)
theorem rest_lt {m : Nd} {i : Nat} (h : i ∈ rest m) : i < 7 := Quorum.mem_lt (List.mem_filter.1 h).1
theorem evens_b {n b : Nat} (h : n < b) : ∀ x ∈ evens n, x < b := by
  intro x hx
  simp only [evens, List.mem_cons, List.not_mem_nil, or_false] at hx
  omega
theorem zeros_b {N : Nat} : ∀ x ∈ zeros, x < 9223372036854775809 + N := by
  intro x hx
  have h : ∀ x ∈ zeros, x < 1 := by decide
  have := h x hx
  omega
theorem post_b (h : NdB N m) (x : Msg) : NdB (N + 1) (post m x) :=
  { h.mono (Nat.le_succ N) with out := by have := h.out; simp only [post, List.length_append, List.length_singleton]; omega }
theorem write_b (h : NdB N m) (to : Nat) : NdB (N + 1) (write m to) := post_b h _
theorem askN_b (h : NdB N m) (to : Nat) : NdB (N + 1) (askN m to) := post_b h _
theorem fold_b {f : Nd → Nat → Nd} (hf : ∀ {N m} to, NdB N m → NdB (N + 1) (f m to)) : ∀ (l : List Nat) {N : Nat} {m : Nd}, NdB N m → NdB (N + l.length) (l.foldl f m)
  | [], _, _, h => h
  | i :: l, N, m, h => by
    have := fold_b hf l (hf i h)
    rw [List.foldl_cons, List.length_cons]
    rwa [show N + (l.length + 1) = N + 1 + l.length by omega]
theorem beat_b (h : NdB N m) : NdB (N + 7) (beat m) := by
  unfold beat
  split
  · exact (fold_b (fun to h => write_b h to) (rest m) h).mono (by have := rest_len m; omega)
  · exact h.mono (by omega)
theorem retire_b (h : NdB N m) : NdB N (retire m) :=
  { h with votes := by show 0 < 128; decide, role := Nat.zero_le _, nl := rfl, nb := by show ∀ x ∈ zeros, _; decide, ml := rfl, mb := zeros_b, quiet := fun _ => ⟨rfl, rfl⟩ }
theorem reached_b (h : NdB N m) : NdB N (reached m) := { h with commit := best_b h }
theorem gone_b (h : NdB N m) : NdB (N + 7) (gone m) :=
  { retire_b (beat_b (reached_b h)) with l0 := by show (-1 : Int) ≤ -1; decide, l1 := by show (-1 : Int) < 7; decide }
theorem advance_b (h : NdB N m) : NdB (N + 7) (advance m) := by
  unfold advance
  split
  · split
    · exact gone_b h
    · exact (reached_b h).mono (by omega)
  · exact h.mono (by omega)
theorem asc_append {o l : List Ent} (h1 : Asc o) (h2 : Asc l) (h3 : ∀ a ∈ o, ∀ b ∈ l, a.idx < b.idx) : Asc (o ++ l) := List.pairwise_append.2 ⟨h1, h2, h3⟩
theorem keep_asc {o l : List Ent} (h1 : Asc o) (h2 : Asc l) : Asc (keepL o l) := by
  unfold keepL
  split
  · exact h1
  · rename_i e r
    refine asc_append (List.Pairwise.filter _ h1) h2 fun a ha b hb => ?_
    have := of_decide_eq_true (List.mem_filter.1 ha).2
    rcases List.mem_cons.1 hb with rfl | hb
    · exact this
    · have := (List.pairwise_cons.1 h2).1 b hb
      omega
theorem keep_len (o l : List Ent) : (keepL o l).length ≤ o.length + l.length := by
  unfold keepL
  split
  · simp
  · rename_i e r
    have := List.length_filter_le (fun x : Ent => decide (x.idx < e.idx)) o
    simp only [List.length_append]
    omega
theorem added_fine (h : NdB N m) (kind : Int) (d : ByteArray) (k0 : -9223372036854775808 ≤ kind) (k1 : kind ≤ 9223372036854775807) (hd : d.size ≤ 9223372036854775807) (hc : canAdd m kind d = true) : Fine (added m kind d).g ∧ (last (added m kind d).g).1 = (last m.g).1 + 1 := by
  have := fine_add h.fine m.term kind d h.term k0 k1 hd
  have hc' : addOk m.g m.term kind d = true := hc
  unfold Rlog.add at this
  rw [if_pos hc'] at this
  refine ⟨this, ?_⟩
  show (lasts (m.g.es ++ [ent m kind d]) _ _).1 = _
  rw [lasts_snoc]
  rfl
theorem added_b (h : NdB N m) (hr : m.role = 2) (hN : N ≤ 1000000000) (kind : Int) (d : ByteArray) (k0 : -9223372036854775808 ≤ kind) (k1 : kind ≤ 9223372036854775807) (hd : d.size ≤ 9223372036854775807) (hc : canAdd m kind d = true) : NdB (N + 1) (added m kind d) := by
  obtain ⟨f1, f2⟩ := added_fine h kind d k0 k1 hd hc
  have ht := h.top
  refine { h.mono (Nat.le_succ N) with
    fine := f1
    es := by have := h.es; simp only [added, List.length_append, List.length_singleton]; omega
    kept := by have h1 := h.kept; have h2 := keep_len m.kept [ent m kind d]; simp only [List.length_singleton] at h2; simp only [added]; omega
    top := by rw [f2]; omega
    ml := by simp only [added, List.length_set]; exact h.ml
    mb := set_b (h.mono (Nat.le_succ N)).mb _ _ (by show (last m.g).1 + 1 < _; omega)
    asc := keep_asc h.asc (List.pairwise_singleton _ _)
    quiet := fun e => absurd hr e }
theorem add_b (h : NdB N m) (hr : m.role = 2) (hN : N ≤ 1000000000) (kind : Int) (d : ByteArray) (k0 : -9223372036854775808 ≤ kind) (k1 : kind ≤ 9223372036854775807) (hd : d.size ≤ 9223372036854775807) : NdB (N + 15) (add m kind d).2 := by
  unfold add
  split
  · rename_i hc
    exact (advance_b (beat_b (added_b h hr hN kind d k0 k1 hd hc))).mono (by omega)
  · exact h.mono (by omega)
theorem leads_b (h : NdB N m) (hN : N ≤ 1000000000) : NdB N (leads m) := by
  have ht := h.top
  have hi := h.id
  exact { h with
    role := Nat.le_refl _
    l0 := by show (-1 : Int) ≤ (m.id : Int); omega
    l1 := by show (m.id : Int) < 7; omega
    nl := rfl
    nb := evens_b (by omega)
    ml := rfl
    mb := zeros_b
    quiet := fun e => absurd rfl e }
theorem lead_b (h : NdB N m) (hN : N ≤ 1000000000) : NdB (N + 15) (lead m) := by
  unfold lead
  split
  · exact add_b (leads_b h hN) rfl hN 0 ByteArray.empty (by decide) (by decide) (by decide)
  · exact h.mono (by omega)
theorem pow_lt {i : Nat} (h : i < 7) : 2 ^ i < 128 := by
  have : ∀ i, i < 7 → 2 ^ i < 128 := by decide
  exact this i h
theorem stands_b (h : NdB N m) (hr : m.role ≠ 2) (ht : m.term ≠ topN) : NdB N (stands m) := by
  have h1 := h.term
  have hi := h.id
  exact { h with
    term := by show m.term + 1 < _; have ht' : m.term ≠ 18446744073709551615 := ht; omega
    v0 := by show (-1 : Int) ≤ (m.id : Int); omega
    v1 := by show (m.id : Int) < 7; omega
    l0 := by show (-1 : Int) ≤ -1; decide
    l1 := by show (-1 : Int) < 7; decide
    role := by show 1 ≤ 2; decide
    votes := pow_lt h.id
    quiet := fun _ => h.quiet hr }
theorem asks_b (h : NdB N m) : NdB (N + 7) (asks m) := (fold_b (fun to h => askN_b h to) (rest m) h).mono (by have := rest_len m; omega)
theorem timeout_b (h : NdB N m) (hN : N ≤ 900000000) : NdB (N + 22) (timeout m) := by
  unfold timeout
  split
  · exact h.mono (by omega)
  · rename_i hc
    exact (lead_b (asks_b (stands_b h (fun e => hc (.inl e)) (fun e => hc (.inr (.inl e))))) (by omega)).mono (by omega)
theorem propose_b (h : NdB N m) (hN : N ≤ 1000000000) (d : ByteArray) (hd : d.size ≤ 9223372036854775807) : NdB (N + 15) (propose m d).2 := by
  unfold propose
  split
  · rename_i hr
    exact add_b h hr hN 1 d (by decide) (by decide) hd
  · exact h.mono (by omega)
theorem fresh_b (h : NdB N m) (hr : m.role = 2) (hN : N ≤ 1000000000) (ad : Bool) (i : Nat) : NdB N (fresh m ad i) ∧ (fresh m ad i).role = 2 := by
  have ht := h.top
  unfold fresh
  split
  · refine ⟨{ h with nl := by simp only [List.length_set]; exact h.nl, nb := set_b h.nb _ _ (by omega), ml := by simp only [List.length_set]; exact h.ml, mb := set_b h.mb _ _ (by omega), quiet := fun e => absurd hr e }, hr⟩
  · exact ⟨h, hr⟩
theorem str_num_b (c : Nat) (hc : c < 18446744073709551616) : (str (num c)).size ≤ 9223372036854775807 := by
  have h1 : (str (num c)).size = (num c).length := by simp [str, ByteArray.size]
  have h2 := Num.num_length c
  have h3 := Num.wide_le8 hc
  omega
theorem change_lt {c : Nat} {ad : Bool} {i : Int} : (change c ad i).1 < 18446744073709551616 := by
  unfold change
  split
  · rename_i h
    have hs : 0 < c ∧ c < 128 := of_decide_eq_true h.1
    have hi : 0 ≤ i ∧ i < 7 := of_decide_eq_true h.2
    unfold turn
    split
    · show 0 < _; decide
    · have : c ^^^ 2 ^ i.toNat < 2 ^ 7 := Nat.xor_lt_two_pow hs.2 (pow_lt (by omega))
      show c ^^^ 2 ^ i.toNat < _
      omega
  · show 0 < _; decide
theorem changes_b (h : NdB N m) (hN : N ≤ 1000000000) (ad : Bool) (i : Int) : NdB (N + 15) (changes m ad i).2 := by
  unfold changes
  split
  · rename_i hr
    split
    · exact h.mono (by omega)
    · split
      · obtain ⟨f1, f2⟩ := fresh_b h hr hN ad i.toNat
        exact add_b f1 f2 hN 2 _ (by decide) (by decide) (str_num_b _ change_lt)
      · exact h.mono (by omega)
  · exact h.mono (by omega)
theorem last_compact (f : Fine m.g) (i : Nat) (d : ByteArray) : (last (compact m.g i d).2).1 = (last m.g).1 ∧ (compact m.g i d).2.es.length ≤ m.g.es.length := by
  have hf := fine_compact f i d
  rw [hf.last_idx, f.last_idx]
  unfold compact
  cases hp : place m.g i with
  | none => simp
  | some k =>
    obtain ⟨hk, hi⟩ := place_lt hp
    simp only [List.length_drop]
    omega
theorem compacts_b (h : NdB N m) (i : Nat) (d : ByteArray) : NdB N (compacts m i d).2 := by
  unfold compacts
  split
  · exact h
  · obtain ⟨h1, h2⟩ := last_compact h.fine i d
    exact { h with fine := fine_compact h.fine i d, es := Nat.le_trans h2 h.es, top := by show (last (compact m.g i d).2).1 ≤ _; rw [h1]; exact h.top }
theorem taken_b (h : NdB N m) : NdB N (taken m) := { h with kept := Nat.zero_le _, out := Nat.zero_le _, asc := List.Pairwise.nil }
theorem followN_b (h : NdB N m) {t : Nat} (ht : t < 18446744073709551616) : NdB N (followN m t) := by
  unfold followN
  split
  · exact { retire_b h with term := ht, v0 := by show (-1 : Int) ≤ -1; decide, v1 := by show (-1 : Int) < 7; decide, l0 := by show (-1 : Int) ≤ -1; decide, l1 := by show (-1 : Int) < 7; decide }
  · exact retire_b h
theorem node_lt {f : Int} (h : node f = true) : 0 ≤ f ∧ f < 7 := of_decide_eq_true h
theorem hears_node {x : Msg} (h : hears m x = true) : node x.f = true := (Bool.and_eq_true_iff.1 h).2
theorem hears_ix {x : Msg} (h : hears m x = true) : x.ix ≤ 4611686018427387904 := (of_decide_eq_true (Bool.and_eq_true_iff.1 h).1).2.2.1
theorem heard_b (h : NdB N m) {x : Msg} (hx : MsgB x) : NdB N (heard m x) := by
  unfold heard
  split
  · exact followN_b h hx.tm
  · exact h
theorem asked_b (h : NdB N m) {x : Msg} (hf : node x.f = true) : NdB (N + 1) (asked m x) := by
  have := node_lt hf
  unfold asked
  refine post_b ?_ _
  split
  · exact { h with v0 := by show -1 ≤ x.f; omega, v1 := by show x.f < 7; omega }
  · exact h
theorem voted_b (h : NdB N m) (hN : N ≤ 1000000000) {x : Msg} (hf : node x.f = true) : NdB (N + 15) (voted m x) := by
  have := node_lt hf
  unfold voted
  split
  · refine lead_b { h with votes := ?_ } hN
    show m.votes ||| 2 ^ x.f.toNat < 2 ^ 7
    exact Nat.or_lt_two_pow h.votes (pow_lt (by omega))
  · exact h.mono (by omega)
theorem reply_b (h : NdB N m) (to : Int) (ix : Nat) (ok : Bool) : NdB (N + 1) (reply m to ix ok) := post_b h _
theorem dropWhile_len {α : Type} (p : α → Bool) (l : List α) : (l.dropWhile p).length ≤ l.length := by
  obtain ⟨k, _, _, h, _⟩ := while_split p l
  rw [h, List.length_drop]
  omega
theorem merge_len (g : G) (i t : Nat) (l : List Ent) : (merge g i t l).1.1.length ≤ l.length := by
  unfold merge
  split
  · simp
  split
  · simp
  split
  · simp
  have h1 := dropWhile_len (there g) (l.dropWhile (old g))
  have h2 := dropWhile_len (old g) l
  unfold lay
  split
  · simp
  · rename_i e r hl
    simp only
    rw [hl] at h1
    omega
theorem upto_len (g : G) (i : Nat) : (upto g i).length ≤ g.es.length := by
  unfold upto
  split
  · exact Nat.le_refl _
  · rw [List.length_take]; omega
theorem merge_grows (g : G) (i t : Nat) (l : List Ent) : (merge g i t l).2.es.length ≤ g.es.length + l.length ∧ (merge g i t l).2.snap = g.snap := by
  unfold merge
  split
  · simp
  split
  · simp
  split
  · simp
  have h1 := dropWhile_len (there g) (l.dropWhile (old g))
  have h2 := dropWhile_len (old g) l
  unfold lay
  split
  · simp
  · rename_i e r hl
    have h3 := upto_len g e.idx
    refine ⟨?_, rfl⟩
    simp only [List.length_append]
    rw [hl] at h1
    omega
theorem chained_asc {l : List Ent} : ∀ {i t : Nat}, chained l i t = true → Asc l ∧ ∀ e ∈ l, i < e.idx := by
  induction l with
  | nil => intro i t _; exact ⟨List.Pairwise.nil, by simp⟩
  | cons e l ih =>
    intro i t h
    simp only [chained, Bool.and_eq_true] at h
    obtain ⟨⟨h1, _, _⟩, _⟩ := may_iff.1 h.1
    obtain ⟨h2, h3⟩ := ih h.2
    refine ⟨List.pairwise_cons.2 ⟨h3, h2⟩, fun x hx => ?_⟩
    rcases List.mem_cons.1 hx with rfl | hx
    · omega
    · have := h3 x hx; omega
theorem asc_drop {l : List Ent} (h : Asc l) (k : Nat) : Asc (l.drop k) := List.Pairwise.sublist (List.drop_sublist k l) h
theorem merge_asc (g : G) (i t : Nat) (l : List Ent) : Asc (merge g i t l).1.1 := by
  unfold merge
  split
  · exact List.Pairwise.nil
  rename_i h1
  split
  · exact List.Pairwise.nil
  split
  · exact List.Pairwise.nil
  have hl := (chained_asc (show chained l i t = true by simpa using h1)).1
  obtain ⟨k, _, _, e1, _⟩ := while_split (old g) l
  obtain ⟨j, _, _, e2, _⟩ := while_split (there g) (l.dropWhile (old g))
  have : Asc ((l.dropWhile (old g)).dropWhile (there g)) := by rw [e2, e1]; exact asc_drop (asc_drop hl k) j
  unfold lay
  split
  · exact List.Pairwise.nil
  · rename_i e r hl2
    rw [hl2] at this
    exact this
theorem laid_b (h : NdB N m) {x : Msg} (hx : MsgB x) (hix : x.ix ≤ 4611686018427387904) : NdB (N + x.es.length) (laid m x) := by
  obtain ⟨g1, g2⟩ := merge_grows m.g x.ix x.pv x.es
  have k1 := merge_len m.g x.ix x.pv x.es
  have k2 := keep_len m.kept (merge m.g x.ix x.pv x.es).1.1
  have hf := fine_merge h.fine (i := x.ix) (t := x.pv) hx.es
  have ht := h.top
  have hc := h.commit
  have hmb := (h.mono (Nat.le_add_right N x.es.length)).mb
  have hw := hx.few
  have he := h.es
  have hk := h.kept
  rw [h.fine.last_idx] at ht
  refine { h.mono (Nat.le_add_right N x.es.length) with
    fine := hf
    es := ?_
    kept := ?_
    top := ?_
    commit := ?_
    asc := keep_asc h.asc (merge_asc _ _ _ _) }
  · show (merge m.g x.ix x.pv x.es).2.es.length ≤ _; omega
  · show (keepL m.kept (merge m.g x.ix x.pv x.es).1.1).length ≤ _; omega
  · show (last (merge m.g x.ix x.pv x.es).2).1 ≤ _
    rw [hf.last_idx, g2]
    omega
  · show max m.commit (min x.cm (aheadN x)) < _
    have : aheadN x = x.ix + x.es.length := rfl
    omega
theorem merged_b (h : NdB N m) {x : Msg} (hx : MsgB x) (hix : x.ix ≤ 4611686018427387904) : NdB (N + x.es.length + 1) (merged m x) := by
  unfold merged
  split
  · exact h.mono (by omega)
  split
  · exact reply_b (laid_b h hx hix) _ _ _
  · exact (reply_b h _ _ _).mono (by omega)
theorem install_b (f : Fine m.g) {s : Snap} (hs : SnapB s) : (install m.g s).2.es.length ≤ m.g.es.length ∧ ((last (install m.g s).2).1 ≤ (last m.g).1 ∨ (last (install m.g s).2).1 ≤ s.idx) := by
  have hf := fine_install f hs
  rw [hf.last_idx, f.last_idx]
  unfold install
  split
  · exact ⟨Nat.le_refl _, .inl (Nat.le_refl _)⟩
  split
  · exact ⟨Nat.le_refl _, .inl (Nat.le_refl _)⟩
  · rename_i h1 h2
    show (behind m.g s).length ≤ _ ∧ (s.idx + (behind m.g s).length ≤ _ ∨ s.idx + (behind m.g s).length ≤ _)
    unfold behind
    cases hp : place m.g s.idx with
    | none => simp
    | some k =>
      obtain ⟨hk, hi⟩ := place_lt hp
      simp only
      split
      · simp only [List.length_drop]; omega
      · simp
theorem snapOf_b {x : Msg} (hx : MsgB x) : SnapB (snapOf x) := ⟨hx.ix, hx.pv, hx.cm⟩
theorem installs_b (h : NdB N m) {x : Msg} (hx : MsgB x) (hix : x.ix ≤ 4611686018427387904) : NdB N (installs m x) := by
  obtain ⟨h1, h2⟩ := install_b h.fine (snapOf_b hx)
  have ht := h.top
  refine { h with fine := fine_install h.fine (snapOf_b hx), es := Nat.le_trans h1 h.es, kept := Nat.zero_le _, top := ?_, commit := by show x.ix < _; omega, asc := List.Pairwise.nil }
  show (last (install m.g (snapOf x)).2).1 ≤ _
  have : (snapOf x).idx = x.ix := rfl
  omega
theorem laysDown_b (h : NdB N m) {x : Msg} (hx : MsgB x) (hix : x.ix ≤ 4611686018427387904) : NdB (N + 1) (laysDown m x) := by
  unfold laysDown
  split
  · split
    · exact h.mono (by omega)
    · exact reply_b (installs_b h hx hix) _ _ _
  · exact reply_b h _ _ _
theorem hearsOf_b (h : NdB N m) {x : Msg} (hx : MsgB x) (hf : node x.f = true) : NdB N (hearsOf m x) := by
  have := node_lt hf
  exact { followN_b h hx.tm with l0 := by show -1 ≤ x.f; omega, l1 := by show x.f < 7; omega }
theorem written_b (h : NdB N m) {x : Msg} (hx : MsgB x) (hf : node x.f = true) (hix : x.ix ≤ 4611686018427387904) : NdB (N + x.es.length + 1) (writtenN m x) := by
  unfold writtenN
  split
  · exact (reply_b h _ _ _).mono (by omega)
  split
  · exact h.mono (by omega)
  split
  · exact merged_b (hearsOf_b h hx hf) hx hix
  · exact (laysDown_b (hearsOf_b h hx hf) hx hix).mono (by omega)
theorem retry_b (h : NdB N m) (hr : m.role = 2) (hN : N ≤ 1000000000) {x : Msg} (hix : x.ix ≤ 4611686018427387904) : NdB N (retry m x) := by
  have ht := h.top
  have hm := told_b h.mb (by omega) x.f.toNat
  exact { h with nl := by simp only [retry, List.length_set]; exact h.nl, nb := set_b h.nb _ _ (by omega), quiet := fun e => absurd hr e }
theorem hasIt_b (h : NdB N m) (hr : m.role = 2) (hN : N ≤ 1000000000) {x : Msg} (hix : x.ix ≤ 4611686018427387904) : NdB N (hasIt m x) := by
  have hm := told_b h.mb (by omega) x.f.toNat
  have hn := told_b h.nb (by decide) x.f.toNat
  exact { h with
    nl := by simp only [hasIt, List.length_set]; exact h.nl
    nb := set_b h.nb _ _ (by unfold has2; omega)
    ml := by simp only [hasIt, List.length_set]; exact h.ml
    mb := set_b h.mb _ _ (by unfold has2; omega)
    quiet := fun e => absurd hr e }
theorem onward_b (h : NdB N m) (hr : m.role = 2) (hN : N ≤ 1000000000) (f : Nat) : NdB N (onward m f) := by
  have hm := told_b h.mb (by omega) f
  exact { h with nl := by simp only [onward, List.length_set]; exact h.nl, nb := set_b h.nb _ _ (by omega), quiet := fun e => absurd hr e }
theorem answered_b (h : NdB N m) (hN : N ≤ 900000000) {x : Msg} (hix : x.ix ≤ 4611686018427387904) : NdB (N + 8) (answered m x) := by
  unfold answered
  split
  · rename_i hr
    split
    · split
      · exact h.mono (by omega)
      have ha := advance_b (hasIt_b h hr.1 (by omega) hix)
      split
      · rename_i hm
        unfold more at hm
        simp only [Bool.and_eq_true, decide_eq_true_eq] at hm
        exact (write_b (onward_b ha hm.1 (by omega) _) _).mono (by omega)
      · exact ha.mono (by omega)
    · exact (write_b (retry_b h hr.1 (by omega) hix) _).mono (by omega)
  · exact h.mono (by omega)
theorem handles_b (h : NdB N m) (hN : N ≤ 900000000) {x : Msg} (hx : MsgB x) (hf : node x.f = true) (hix : x.ix ≤ 4611686018427387904) : NdB (N + x.es.length + 15) (handles m x) := by
  unfold handles
  split
  · exact (asked_b h hf).mono (by omega)
  split
  · exact (voted_b h (by omega) hf).mono (by omega)
  split
  · exact (answered_b h hN hix).mono (by omega)
  · exact (written_b h hx hf hix).mono (by omega)
theorem receive_b (h : NdB N m) (hN : N ≤ 900000000) {x : Msg} (hx : MsgB x) : NdB (N + x.es.length + 15) (receive m x) := by
  unfold receive
  split
  · rename_i hh
    exact handles_b (heard_b h hx) hN hx (hears_node hh) (hears_ix hh)
  · exact h.mono (by omega)
end
end Go.Proofs.Ytdbmpfongfiagaa.Nod
