/- Plain mathematics of layer 12: what no call of a node takes back. No program's text; no statement is proved here. -/
import Derived.Test.YtdbmpfongfiagaaNodB
set_option linter.unusedVariables false
namespace Go.Proofs.Ytdbmpfongfiagaa.Fwd
open Go.Proofs.Ytdbmpfongfiagaa.Rlog Go.Proofs.Ytdbmpfongfiagaa.Nod
open Go.Proofs.Ytdbmpfongfiagaa.Quorum (mem size need sound maj node has turn change)
open Go.Proofs.Ytdbmpfongfiagaa.Num (num)

/-- What a node's letters say of it. -/
def Sents (m : Nd) : Prop := ∀ x ∈ m.out, x.f = (m.id : Int) ∧ x.tm ≤ m.term ∧ (x.k = 2 → x.ok = true → x.tm = m.term → 0 ≤ m.vote ∧ x.t = m.vote)
/-- m' is what m became. -/
structure Fwd (m m' : Nd) : Prop where
  id : m'.id = m.id
  term : m.term ≤ m'.term
  commit : m.commit ≤ m'.commit
  vote : m'.term = m.term → 0 ≤ m.vote → m'.vote = m.vote
  sent : Sents m → Sents m'
  base : m.g.snap.idx ≤ m.commit → m'.g.snap.idx ≤ m'.commit
/-- The log only grew. -/
def Gs (m m' : Nd) : Prop := m'.g.snap = m.g.snap ∧ ∃ r, m'.g.es = m.g.es ++ r
section
variable {m m' m1 m2 : Nd} {N : Nat}
theorem Fwd.refl (m : Nd) : Fwd m m := ⟨rfl, Nat.le_refl _, Nat.le_refl _, fun _ _ => rfl, fun h => h, fun h => h⟩
theorem Fwd.trans (h : Fwd m m1) (k : Fwd m1 m2) : Fwd m m2 :=
  ⟨k.id.trans h.id, Nat.le_trans h.term k.term, Nat.le_trans h.commit k.commit, fun e hv => by
    have h1 := h.term
    have h2 := k.term
    have e1 : m1.term = m.term := by omega
    have e2 : m2.term = m1.term := by omega
    have v1 := h.vote e1 hv
    rw [k.vote e2 (by rw [v1]; exact hv), v1], fun s => k.sent (h.sent s), fun b => k.base (h.base b)⟩
/-- Nothing of it changed but the commit, the log behind the snapshot, or what isn't asked. -/
theorem Fwd.still (h1 : m'.id = m.id) (h2 : m'.term = m.term) (h3 : m.commit ≤ m'.commit) (h4 : m'.vote = m.vote) (h5 : m'.out = m.out) (h6 : m'.g.snap = m.g.snap) : Fwd m m' :=
  ⟨h1, Nat.le_of_eq h2.symm, h3, fun _ _ => h4, fun s x hx => by rw [h5] at hx; rw [h1, h2, h4]; exact s x hx, fun b => by rw [h6]; exact Nat.le_trans b h3⟩
theorem Gs.refl (m : Nd) : Gs m m := ⟨rfl, [], by simp⟩
theorem Gs.of (h : m'.g = m.g) : Gs m m' := ⟨by rw [h], [], by rw [h]; simp⟩
theorem Gs.trans (h : Gs m m1) (k : Gs m1 m2) : Gs m m2 := by
  obtain ⟨h1, r, h2⟩ := h
  obtain ⟨k1, s, k2⟩ := k
  exact ⟨k1.trans h1, r ++ s, by rw [k2, h2, List.append_assoc]⟩

theorem post_f {x : Msg} (hx : x.k = 2 → x.ok = true → 0 ≤ m.vote ∧ x.t = m.vote) : Fwd m (post m x) := by
  refine ⟨rfl, Nat.le_refl _, Nat.le_refl _, fun _ _ => rfl, fun s y hy => ?_, fun h => h⟩
  simp only [post, List.mem_append, List.mem_singleton] at hy
  rcases hy with hy | rfl
  · exact s y hy
  · exact ⟨rfl, Nat.le_refl _, fun h1 h2 _ => hx h1 h2⟩
theorem letterTo_k (m : Nd) (to : Nat) : (letterTo m to).k ≠ 2 := by
  unfold letterTo
  split
  · show (5 : Int) ≠ 2; decide
  · show (3 : Int) ≠ 2; decide
theorem write_f (m : Nd) (to : Nat) : Fwd m (write m to) := post_f fun h => absurd h (letterTo_k m to)
theorem fold_f {f : Nd → Nat → Nd} (hf : ∀ m i, Fwd m (f m i)) : ∀ (l : List Nat) (m : Nd), Fwd m (l.foldl f m)
  | [], m => Fwd.refl m
  | i :: l, m => (hf m i).trans (fold_f hf l (f m i))
theorem beat_f (m : Nd) : Fwd m (beat m) := by
  unfold beat
  split
  · exact fold_f write_f _ _
  · exact Fwd.refl m
theorem retire_f (m : Nd) : Fwd m (retire m) := Fwd.still rfl rfl (Nat.le_refl _) rfl rfl rfl
theorem may_commit (h : mayAdvance m = true) : m.commit < best m := by
  unfold mayAdvance at h
  exact of_decide_eq_true (Bool.and_eq_true_iff.1 h).2
theorem reached_f (h : mayAdvance m = true) : Fwd m (reached m) := Fwd.still rfl rfl (Nat.le_of_lt (may_commit h)) rfl rfl rfl
theorem gone_f (h : mayAdvance m = true) : Fwd m (gone m) :=
  (((reached_f h).trans (beat_f _)).trans (retire_f _)).trans (Fwd.still rfl rfl (Nat.le_refl _) rfl rfl rfl)
theorem advance_f (m : Nd) : Fwd m (advance m) := by
  unfold advance
  split
  · rename_i h
    split
    · exact gone_f h
    · exact reached_f h
  · exact Fwd.refl m
theorem added_f (m : Nd) (kind : Int) (d : ByteArray) : Fwd m (added m kind d) := Fwd.still rfl rfl (Nat.le_refl _) rfl rfl rfl
theorem add_f (m : Nd) (kind : Int) (d : ByteArray) : Fwd m (add m kind d).2 := by
  unfold Nod.add
  split
  · exact ((added_f m kind d).trans (beat_f _)).trans (advance_f _)
  · exact Fwd.refl m
theorem lead_f (m : Nd) : Fwd m (lead m) := by
  unfold lead
  split
  · exact (Fwd.still (m := m) (m' := leads m) rfl rfl (Nat.le_refl _) rfl rfl rfl).trans (add_f _ _ _)
  · exact Fwd.refl m
theorem stands_f (m : Nd) : Fwd m (stands m) := by
  refine ⟨rfl, Nat.le_succ _, Nat.le_refl _, fun e _ => ?_, fun s x hx => ?_, fun h => h⟩
  · have : m.term + 1 = m.term := e
    omega
  · obtain ⟨h1, h2, _⟩ := s x hx
    refine ⟨h1, Nat.le_succ_of_le h2, fun _ _ e => ?_⟩
    have : x.tm = m.term + 1 := e
    omega
theorem asks_f (m : Nd) : Fwd m (asks m) := fold_f (fun m i => post_f fun h => absurd h (by show (1 : Int) ≠ 2; decide)) _ _
theorem timeout_f (m : Nd) : Fwd m (timeout m) := by
  unfold timeout
  split
  · exact Fwd.refl m
  · exact ((stands_f m).trans (asks_f _)).trans (lead_f _)
theorem propose_f (m : Nd) (d : ByteArray) : Fwd m (propose m d).2 := by
  unfold propose
  split
  · exact add_f _ _ _
  · exact Fwd.refl m
theorem fresh_f (m : Nd) (ad : Bool) (i : Nat) : Fwd m (fresh m ad i) := by
  unfold fresh
  split
  · exact Fwd.still rfl rfl (Nat.le_refl _) rfl rfl rfl
  · exact Fwd.refl m
theorem changes_f (m : Nd) (ad : Bool) (i : Int) : Fwd m (changes m ad i).2 := by
  unfold changes
  split
  · split
    · exact Fwd.refl m
    · split
      · exact (fresh_f m ad _).trans (add_f _ _ _)
      · exact Fwd.refl m
  · exact Fwd.refl m
theorem followN_f (m : Nd) (t : Nat) : Fwd m (followN m t) := by
  unfold followN
  split
  · rename_i h
    refine ⟨rfl, Nat.le_of_lt h, Nat.le_refl _, fun e _ => ?_, fun s x hx => ?_, fun h => h⟩
    · have : t = m.term := e
      omega
    · obtain ⟨h1, h2, _⟩ := s x hx
      refine ⟨h1, Nat.le_trans h2 (Nat.le_of_lt h), fun _ _ e => ?_⟩
      have : x.tm = t := e
      omega
  · exact retire_f m
theorem heard_f (m : Nd) (x : Msg) : Fwd m (heard m x) := by
  unfold heard
  split
  · exact followN_f m _
  · exact Fwd.refl m
theorem grants_vote {x : Msg} (h : grants m x = true) : m.vote = -1 ∨ m.vote = x.f := by
  unfold grants at h
  simp only [Bool.and_eq_true, Bool.or_eq_true, decide_eq_true_eq] at h
  exact h.2.2.1
theorem votesFor_f {x : Msg} (h : grants m x = true) : Fwd m (votesFor m x.f) := by
  have hv := grants_vote h
  have key : 0 ≤ m.vote → x.f = m.vote := fun h0 => by omega
  refine ⟨rfl, Nat.le_refl _, Nat.le_refl _, fun _ h0 => key h0, fun s y hy => ?_, fun h => h⟩
  obtain ⟨h1, h2, h3⟩ := s y hy
  refine ⟨h1, h2, fun k1 k2 k3 => ?_⟩
  obtain ⟨j1, j2⟩ := h3 k1 k2 k3
  show 0 ≤ x.f ∧ y.t = x.f
  rw [key j1]
  exact ⟨j1, j2⟩
theorem asked_f {x : Msg} (hn : node x.f = true) : Fwd m (asked m x) := by
  have hf := node_lt hn
  unfold asked
  cases hg : grants m x with
  | true =>
    rw [if_pos rfl]
    refine (votesFor_f hg).trans (post_f fun _ _ => ?_)
    show 0 ≤ x.f ∧ x.f = x.f
    exact ⟨hf.1, rfl⟩
  | false =>
    rw [if_neg (by decide)]
    exact post_f fun _ h => by cases h
theorem voted_f (m : Nd) (x : Msg) : Fwd m (voted m x) := by
  unfold voted
  split
  · exact (Fwd.still (m := m) (m' := { m with votes := m.votes ||| 2 ^ x.f.toNat }) rfl rfl (Nat.le_refl _) rfl rfl rfl).trans (lead_f _)
  · exact Fwd.refl m
theorem reply_f (m : Nd) (to : Int) (ix : Nat) (ok : Bool) : Fwd m (reply m to ix ok) := post_f fun h => absurd h (by show (4 : Int) ≠ 2; decide)
theorem laid_f (m : Nd) (x : Msg) : Fwd m (laid m x) := Fwd.still rfl rfl (Nat.le_max_left _ _) rfl rfl (merge_grows m.g x.ix x.pv x.es).2
theorem merged_f (m : Nd) (x : Msg) : Fwd m (merged m x) := by
  unfold merged
  split
  · exact Fwd.refl m
  split
  · exact (laid_f m x).trans (reply_f _ _ _ _)
  · exact reply_f _ _ _ _
theorem installs_f {x : Msg} (h : m.commit < x.ix) (hi : (install m.g (snapOf x)).1 = 0) : Fwd m (installs m x) := by
  refine ⟨rfl, Nat.le_refl _, Nat.le_of_lt h, fun _ _ => rfl, fun h => h, fun _ => ?_⟩
  show (install m.g (snapOf x)).2.snap.idx ≤ x.ix
  unfold install at hi ⊢
  split
  · rename_i h1
    rw [if_pos h1] at hi
    cases hi
  split
  · rename_i h1 h2
    rw [if_neg h1, if_pos h2] at hi
    cases hi
  · exact Nat.le_refl _
theorem laysDown_f (m : Nd) (x : Msg) : Fwd m (laysDown m x) := by
  unfold laysDown
  split
  · rename_i h
    split
    · exact Fwd.refl m
    · rename_i h2
      exact (installs_f h (Decidable.byContradiction fun e => h2 (.inr e))).trans (reply_f _ _ _ _)
  · exact reply_f _ _ _ _
theorem hearsOf_f (m : Nd) (x : Msg) : Fwd m (hearsOf m x) := (followN_f m x.tm).trans (Fwd.still rfl rfl (Nat.le_refl _) rfl rfl rfl)
theorem writtenN_f (m : Nd) (x : Msg) : Fwd m (writtenN m x) := by
  unfold writtenN
  split
  · exact reply_f _ _ _ _
  split
  · exact Fwd.refl m
  split
  · exact (hearsOf_f m x).trans (merged_f _ x)
  · exact (hearsOf_f m x).trans (laysDown_f _ x)
theorem hasIt_f (m : Nd) (x : Msg) : Fwd m (hasIt m x) := Fwd.still rfl rfl (Nat.le_refl _) rfl rfl rfl
theorem onward_f (m : Nd) (f : Nat) : Fwd m (onward m f) := Fwd.still rfl rfl (Nat.le_refl _) rfl rfl rfl
theorem retry_f (m : Nd) (x : Msg) : Fwd m (retry m x) := Fwd.still rfl rfl (Nat.le_refl _) rfl rfl rfl
theorem answered_f (m : Nd) (x : Msg) : Fwd m (answered m x) := by
  unfold answered
  split
  · split
    · split
      · exact Fwd.refl m
      split
      · exact (((hasIt_f m x).trans (advance_f _)).trans (onward_f _ _)).trans (write_f _ _)
      · exact (hasIt_f m x).trans (advance_f _)
    · exact (retry_f m x).trans (write_f _ _)
  · exact Fwd.refl m
theorem handles_f {x : Msg} (hn : node x.f = true) : Fwd m (handles m x) := by
  unfold handles
  split
  · exact asked_f hn
  split
  · exact voted_f m x
  split
  · exact answered_f m x
  · exact writtenN_f m x
theorem receive_f (m : Nd) (x : Msg) : Fwd m (receive m x) := by
  unfold receive
  split
  · rename_i h
    exact (heard_f m x).trans (handles_f (hears_node h))
  · exact Fwd.refl m
theorem taken_f (m : Nd) : Fwd m (taken m) := ⟨rfl, Nat.le_refl _, Nat.le_refl _, fun _ _ => rfl, fun _ x hx => (by cases hx), fun h => h⟩
theorem taken_sents (m : Nd) : Sents (taken m) := fun x hx => (by cases hx)

/-! ### A leader's log -/
theorem post_g (m : Nd) (x : Msg) : (post m x).g = m.g := rfl
theorem fold_g {f : Nd → Nat → Nd} (hf : ∀ m i, (f m i).g = m.g) : ∀ (l : List Nat) (m : Nd), (l.foldl f m).g = m.g
  | [], m => rfl
  | i :: l, m => by rw [List.foldl_cons, fold_g hf l, hf]
theorem beat_g (m : Nd) : (beat m).g = m.g := by
  unfold beat
  split
  · exact fold_g (f := write) (fun m i => rfl) _ _
  · rfl
theorem advance_g (m : Nd) : (advance m).g = m.g := by
  unfold advance
  split
  · split
    · show (beat (reached m)).g = _
      rw [beat_g]
      rfl
    · rfl
  · rfl
theorem add_gs (m : Nd) (kind : Int) (d : ByteArray) : Gs m (add m kind d).2 := by
  unfold Nod.add
  split
  · exact (show Gs m (added m kind d) from ⟨rfl, _, rfl⟩).trans ((Gs.of (beat_g _)).trans (Gs.of (advance_g _)))
  · exact Gs.refl m
theorem timeout_gs (h : m.role = 2) : Gs m (timeout m) := by
  unfold timeout
  rw [if_pos (.inl h)]
  exact Gs.refl m
theorem propose_gs (m : Nd) (d : ByteArray) : Gs m (propose m d).2 := by
  unfold propose
  split
  · exact add_gs _ _ _
  · exact Gs.refl m
theorem changes_gs (m : Nd) (ad : Bool) (i : Int) : Gs m (changes m ad i).2 := by
  unfold changes
  split
  · split
    · exact Gs.refl m
    · split
      · refine (Gs.of (m' := fresh m ad i.toNat) ?_).trans (add_gs _ _ _)
        unfold fresh
        split <;> rfl
      · exact Gs.refl m
  · exact Gs.refl m
theorem handles_gs {x : Msg} (hr : m.role = 2) : Gs m (handles m x) := by
  unfold handles
  split
  · refine Gs.of ?_
    unfold asked
    rw [post_g]
    split <;> rfl
  split
  · unfold voted
    rw [if_neg (fun e => by have := e.1; omega)]
    exact Gs.refl m
  split
  · refine Gs.of ?_
    unfold answered
    split
    · split
      · split
        · rfl
        split
        · show (advance (hasIt m x)).g = _
          rw [advance_g]
          rfl
        · rw [advance_g]
          rfl
      · rfl
    · rfl
  · unfold writtenN
    split
    · exact Gs.of rfl
    first
      | exact Gs.refl m
      | (rw [if_pos hr]
         exact Gs.refl m)
theorem receive_gs {x : Msg} (hr : m.role = 2) (ht : (receive m x).term = m.term) : Gs m (receive m x) := by
  unfold receive at ht ⊢
  split
  · rename_i h
    rw [if_pos h] at ht
    by_cases hl : m.term < x.tm
    · have h1 := (handles_f (m := heard m x) (hears_node h)).term
      have h2 : (heard m x).term = x.tm := by
        unfold heard followN
        rw [if_pos hl, if_pos hl]
      omega
    · have e : heard m x = m := by
        unfold heard
        rw [if_neg hl]
      rw [e]
      exact handles_gs hr
  · exact Gs.refl m
/-- What was there is there. -/
theorem Gs.term {x : Ent} (h : Gs m m') (f : Fine m'.g) (hx : x ∈ m.g.es) : Rlog.term m'.g x.idx = some x.term := by
  obtain ⟨h1, r, h2⟩ := h
  obtain ⟨k, hk⟩ := List.getElem?_of_mem hx
  refine term_at f (k := k) ?_
  rw [h2, List.getElem?_append_left (List.getElem?_eq_some_iff.1 hk).1]
  exact hk
theorem get_sub {g : G} {i : Nat} {n : Int} {x : Ent} (h : x ∈ get g i n) : x ∈ g.es := by
  unfold Rlog.get at h
  split at h
  · cases h
  · exact List.mem_of_mem_drop (List.mem_of_mem_take h)

/-! ### A node that only listens -/
structure Listens (s : Snap) (i N : Nat) (m : Nd) : Prop where
  role : m.role = 0
  id : m.id = i
  snap : m.g.snap = s
  term : (last m.g).2 ≤ m.term
  top : (last m.g).1 ≤ 9223372036854775808
  es : m.g.es.length ≤ N
theorem lasts_mem : ∀ (l : List Ent) (i t : Nat), l ≠ [] → ∃ e ∈ l, lasts l i t = (e.idx, e.term)
  | [], _, _, h => absurd rfl h
  | [e], _, _, _ => ⟨e, by simp, rfl⟩
  | e :: e' :: l, i, t, _ => by
    obtain ⟨x, hx, hl⟩ := lasts_mem (e' :: l) e.idx e.term (by simp)
    exact ⟨x, List.mem_cons_of_mem _ hx, by rw [lasts_cons]; exact hl⟩
/-- The last of a merged log. -/
theorem last_merge (g : G) (i t : Nat) (l : List Ent) : last (merge g i t l).2 = last g ∨ ∃ e ∈ l, last (merge g i t l).2 = (e.idx, e.term) ∧ e.idx ≤ i + l.length := by
  unfold merge
  split
  · exact .inl rfl
  rename_i hc
  split
  · exact .inl rfl
  split
  · exact .inl rfl
  have hch : chained l i t = true := by simpa using hc
  obtain ⟨k, _, _, e1, _⟩ := while_split (old g) l
  obtain ⟨j, _, _, e2, _⟩ := while_split (there g) (l.dropWhile (old g))
  have hsub : ∀ e ∈ (l.dropWhile (old g)).dropWhile (there g), e ∈ l := fun e he => by
    rw [e2, e1] at he
    exact List.mem_of_mem_drop (List.mem_of_mem_drop he)
  unfold lay
  split
  · exact .inl rfl
  · rename_i e r hl
    rw [hl] at hsub
    refine .inr ?_
    obtain ⟨x, hx, hlx⟩ := lasts_mem (e :: r) (lasts (upto g e.idx) g.snap.idx g.snap.term).1 (lasts (upto g e.idx) g.snap.idx g.snap.term).2 (by simp)
    refine ⟨x, hsub x hx, ?_, (follow_mem hch (hsub x hx)).2.2.1⟩
    show lasts (upto g e.idx ++ (e :: r)) _ _ = _
    rw [lasts_append, hlx]
theorem listens_retire {s : Snap} {i : Nat} (h : Listens s i N m) : Listens s i N (retire m) := ⟨rfl, h.id, h.snap, h.term, h.top, h.es⟩
theorem listens_follow {s : Snap} {i t : Nat} (h : Listens s i N m) : Listens s i N (followN m t) := by
  unfold followN
  split
  · rename_i hl
    exact ⟨rfl, h.id, h.snap, Nat.le_trans h.term (Nat.le_of_lt hl), h.top, h.es⟩
  · exact listens_retire h
theorem listens_receive {s : Snap} {i : Nat} (h : Listens s i N m) {x : Msg} (hb : ∀ e ∈ x.es, EntB e) (h5 : x.k ≠ 5) (hfew : x.es.length * 40 ≤ 140737488355328) : Listens s i (N + x.es.length) (receive m x) := by
  have up : ∀ {m : Nd}, Listens s i N m → Listens s i (N + x.es.length) m := fun h => ⟨h.role, h.id, h.snap, h.term, h.top, by have := h.es; omega⟩
  unfold receive
  split
  · rename_i hh
    have hix := hears_ix hh
    have hk : 1 ≤ x.k ∧ x.k ≤ 5 := by
      have := (of_decide_eq_true (Bool.and_eq_true_iff.1 hh).1)
      exact ⟨this.1, this.2.1⟩
    have h1 : Listens s i N (heard m x) := by
      unfold heard
      split
      · exact listens_follow h
      · exact h
    generalize heard m x = m1 at h1 ⊢
    unfold handles
    split
    · refine up ?_
      unfold asked
      split
      · exact ⟨h1.role, h1.id, h1.snap, h1.term, h1.top, h1.es⟩
      · exact ⟨h1.role, h1.id, h1.snap, h1.term, h1.top, h1.es⟩
    split
    · unfold voted
      rw [if_neg (fun e => by have := e.1; have := h1.role; omega)]
      exact up h1
    split
    · unfold answered
      rw [if_neg (fun e => by have := e.1; have := h1.role; omega)]
      exact up h1
    · rename_i g1 g2 g4
      unfold writtenN
      split
      · exact up ⟨h1.role, h1.id, h1.snap, h1.term, h1.top, h1.es⟩
      rename_i hge
      rw [if_neg (fun e => by have := h1.role; omega), if_pos (by omega)]
      have ht : (hearsOf m1 x).term = x.tm := by
        unfold hearsOf followN
        split
        · rfl
        · show m1.term = x.tm
          omega
      have h2 : Listens s i N (hearsOf m1 x) := by
        have := listens_follow (t := x.tm) h1
        exact ⟨this.role, this.id, this.snap, this.term, this.top, this.es⟩
      generalize hearsOf m1 x = m2 at h2 ht ⊢
      unfold merged
      split
      · exact up h2
      rename_i hw
      split
      · have hwild : ∀ e ∈ x.es, e.term ≤ x.tm := fun e he => by
          have : wild x = false := by simpa using hw
          unfold wild at this
          have := List.any_eq_false.1 this e he
          simpa using this
        obtain ⟨g1, g2⟩ := merge_grows m2.g x.ix x.pv x.es
        have hes := h2.es
        have hls : (last (merge m2.g x.ix x.pv x.es).2).2 ≤ m2.term ∧ (last (merge m2.g x.ix x.pv x.es).2).1 ≤ 9223372036854775808 := by
          rcases last_merge m2.g x.ix x.pv x.es with e | ⟨e, he, hl, hi⟩
          · rw [e]; exact ⟨h2.term, h2.top⟩
          · rw [hl]
            have := hwild e he
            exact ⟨by show e.term ≤ _; omega, by show e.idx ≤ _; omega⟩
        exact ⟨h2.role, h2.id, g2.trans h2.snap, hls.1, hls.2, by show (merge m2.g x.ix x.pv x.es).2.es.length ≤ _; omega⟩
      · exact up ⟨h2.role, h2.id, h2.snap, h2.term, h2.top, h2.es⟩
  · exact up h
theorem listens_taken {s : Snap} {i : Nat} (h : Listens s i N m) : Listens s i N (taken m) := ⟨h.role, h.id, h.snap, h.term, h.top, h.es⟩
/-- All of a log. -/
theorem get_all {g : G} (f : Fine g) (h : g.es.length ≤ 2000) : get g (g.snap.idx + 1) 2000 = g.es := by
  unfold Rlog.get
  cases he : g.es with
  | nil =>
    have : place g (g.snap.idx + 1) = none := by
      unfold place
      rw [if_neg (by rw [he]; simp)]
    rw [this]
  | cons e r =>
    have : place g (g.snap.idx + 1) = some 0 := by
      refine place_of ?_ (by omega)
      rw [he]; simp
    rw [this]
    show (List.drop 0 (e :: r)).take 2000 = _
    rw [List.drop_zero, List.take_of_length_le (by rw [← he]; exact h)]
end
end Go.Proofs.Ytdbmpfongfiagaa.Fwd
