/- Plain mathematics of layer 12: what is merged, any letter that comes, seven nodes that begin, and what they agree upon. No program's text; no statement is proved here. -/
import Derived.Test.YtokifeghoodkgaaGreatGEl
import Derived.Test.YtokifeghoodkgaaGreatGX
set_option linter.unusedVariables false
namespace Go.Proofs.YtokifeghoodkgaaGreat.ElB
open Go.Proofs.YtokifeghoodkgaaGreat.Rlog Go.Proofs.YtokifeghoodkgaaGreat.Nod Go.Proofs.YtokifeghoodkgaaGreat.ElA
open Go.Proofs.YtokifeghoodkgaaGreat.Quorum (need sound maj node change has)
open Go.Proofs.YtokifeghoodkgaaGreat.Num (num got)
open Go.Proofs.YtokifeghoodkgaaGreat.WalkJ (newNd)

section
variable {c0 : Nat} {s s' : St} {m m' m2 : Nd}
theorem merge_says (h : At c0 s m) {T l : Nat} (hT : s.ld T = some l) {ix pv : Nat} {xs : List Ent} (hin : ix + xs.length ≤ (s.G T).length) (hxs : xs = ((s.G T).drop ix).take xs.length) (hpv : pv = lastT ((s.G T).take ix)) (hok : (merge m.g ix pv xs).1.2 = true) :
    (∀ k, m.g.es.take k = (s.G T).take k → k ≤ m.g.es.length → (merge m.g ix pv xs).2.es.take k = (s.G T).take k) ∧ (merge m.g ix pv xs).2.es.take (ix + xs.length) = (s.G T).take (ix + xs.length) ∧
      ((merge m.g ix pv xs).2.es = m.g.es ∨ (merge m.g ix pv xs).2.es = (s.G T).take (ix + xs.length)) := by
  have hL := h.inv.led _ _ hT
  have hs : m.g.snap.idx = 0 := by rw [h.snap]; rfl
  have hget : ∀ j e, xs[j]? = some e → j < xs.length ∧ (s.G T)[ix + j]? = some e := fun j e hj => by
    have hlt := get_lt hj
    rw [hxs, List.getElem?_take_of_lt hlt, List.getElem?_drop] at hj
    exact ⟨hlt, hj⟩
  have hidx : ∀ j e, xs[j]? = some e → e.idx = ix + j + 1 := fun j e hj => (hL.okl _ _ (hget j e hj).2).1
  have hold : xs.takeWhile (old m.g) = [] ∧ xs.dropWhile (old m.g) = xs := by
    cases hc : xs with
    | nil => exact ⟨rfl, rfl⟩
    | cons e r =>
      have := hidx 0 e (by rw [hc]; rfl)
      have h2 : old m.g e = false := by unfold old; rw [hs]; exact decide_eq_false (by omega)
      simp [h2]
  have gG := hL.good
  have gL := h.sane.good
  have gL : Good s m.g.es := gL
  have hmt := Good.match gL gG
  unfold merge at hok ⊢
  by_cases h1 : chained xs ix pv = false
  · rw [if_pos h1] at hok; cases hok
  rw [if_neg h1, hold.1, hold.2] at hok ⊢
  rw [lasts_nil, if_neg (by rw [hs]; exact Nat.not_lt_zero _)] at hok ⊢
  by_cases h2 : has m.g ix pv = false
  · rw [if_pos h2] at hok; cases hok
  rw [if_neg h2] at hok ⊢
  have h2 : has m.g ix pv = true := by simpa using h2
  unfold Rlog.has at h2
  rw [decide_eq_true_eq] at h2
  have hix : m.g.es.take ix = (s.G T).take ix := by
    rcases h.term h2 with ⟨h3, _⟩ | ⟨h3, e, h4, h5⟩
    · rw [h3]; simp
    · obtain ⟨g, hg⟩ := get_of (show ix - 1 < (s.G T).length by omega)
      have := lastT_take hg
      rw [show ix - 1 + 1 = ix by omega, ← hpv] at this
      have := hmt (ix - 1) (ix - 1) e g (Nat.le_refl _) h4 hg (by omega)
      rwa [show ix - 1 + 1 = ix by omega] at this
  obtain ⟨k, hk, _, hk2, hk3, hk4⟩ := while_split (there m.g) xs
  rw [hk2]
  have hthere : ∀ j e, xs[j]? = some e → there m.g e = true → m.g.es.take (ix + j + 1) = (s.G T).take (ix + j + 1) := fun j e hj ht => by
    unfold there Rlog.has at ht
    rw [decide_eq_true_eq, hidx j e hj] at ht
    rcases h.term ht with ⟨h3, _⟩ | ⟨_, f, h4, h5⟩
    · omega
    · rw [show ix + j + 1 - 1 = ix + j by omega] at h4
      exact hmt (ix + j) (ix + j) f e (Nat.le_refl _) h4 (hget j e hj).2 h5
  have hkk : m.g.es.take (ix + k) = (s.G T).take (ix + k) := by
    rcases Nat.eq_zero_or_pos k with rfl | h0
    · exact hix
    · obtain ⟨e, he⟩ := get_of (show k - 1 < xs.length by omega)
      have hm : e ∈ xs.take k := List.mem_iff_getElem?.2 ⟨k - 1, by rw [List.getElem?_take_of_lt (by omega)]; exact he⟩
      have := hthere (k - 1) e he (hk3 e hm)
      rwa [show ix + (k - 1) + 1 = ix + k by omega] at this
  rcases Nat.lt_or_ge k xs.length with h3 | h3
  · obtain ⟨e, he⟩ := get_of h3
    obtain ⟨r, hr⟩ : ∃ r, xs.drop k = e :: r := ⟨xs.drop (k + 1), by
      rw [List.drop_eq_getElem_cons h3]
      congr 1
      have := List.getElem?_eq_getElem h3
      rw [this] at he
      cases he
      rfl⟩
    rw [hr]
    have hup : upto m.g e.idx = m.g.es.take (ix + k) := by
      rw [hidx k e he]
      unfold upto
      cases hp : place m.g (ix + k + 1) with
      | none =>
        have := place_none hp
        rw [hs] at this
        rw [List.take_of_length_le (by omega)]
      | some i =>
        have := (place_lt hp).2
        rw [hs] at this
        simp only
        rw [show i = ix + k by omega]
    have hall : upto m.g e.idx ++ (e :: r) = (s.G T).take (ix + xs.length) := by
      rw [hup, hkk, ← hr]
      have hd : xs.drop k = ((s.G T).drop (ix + k)).take (xs.length - k) := by
        conv => lhs; rw [hxs]
        rw [List.drop_take, List.drop_drop]
      rw [hd]
      rw [show ix + xs.length = (ix + k) + (xs.length - k) by omega]
      exact List.take_add.symm
    show (∀ i, m.g.es.take i = (s.G T).take i → i ≤ m.g.es.length → (upto m.g e.idx ++ (e :: r)).take i = (s.G T).take i) ∧ (upto m.g e.idx ++ (e :: r)).take (ix + xs.length) = (s.G T).take (ix + xs.length) ∧ (upto m.g e.idx ++ (e :: r) = m.g.es ∨ upto m.g e.idx ++ (e :: r) = (s.G T).take (ix + xs.length))
    rw [hall]
    refine ⟨fun i hi hil => ?_, by rw [List.take_take, Nat.min_self], .inr rfl⟩
    rcases Nat.lt_or_ge (ix + xs.length) i with h4 | h4
    · exfalso
      have hei : m.g.es[ix + k]? = some e := by rw [take_get hi (by omega)]; exact (hget k e he).2
      have := (h.get hei).2
      have hno := hk4 e he
      unfold there Rlog.has at hno
      rw [hidx k e he, this] at hno
      simp at hno
    · rw [List.take_take, Nat.min_eq_left h4]
  · have hnil : xs.drop k = [] := List.drop_eq_nil_of_le h3
    rw [hnil]
    have : k = xs.length := by omega
    subst this
    exact ⟨fun i hi _ => hi, hkk, .inl rfl⟩
theorem merge_snap (g : G) (i t : Nat) (l : List Ent) : (merge g i t l).2.snap = g.snap := (merge_grows g i t l).2
theorem Cov.less (h : Inv c0 s) {T c c' : Nat} {L : List Ent} (hc : Cov s T L c) (hle : c' ≤ c) : Cov s T L c' := by
  refine ⟨Nat.le_trans hle hc.1, ?_⟩
  rcases hc.2 with h1 | ⟨t, p, m, h1, h2, h3, h4⟩
  · exact .inl (by omega)
  · exact .inr ⟨t, p, m, h1, h2, by omega, take_less h4 hle⟩
theorem step_merged (h : At c0 s m) {x : Msg} (hx : Sent s x) (hk : x.k = 3) (htm : x.tm = m.term) (hr : m.role = 0) (hb : ∀ e ∈ x.es, EntB e) : Step c0 s m (merged m x) := by
  unfold merged
  split
  · exact Step.refl h
  split
  case isFalse => exact step_say h (sent_plain s (.inr rfl) rfl)
  rename_i hok
  obtain ⟨l, h1, h2, h3, h4, h5, h6⟩ := hx.k3 hk
  have hmg := merge_says h h1 h3 h4 h5 hok
  obtain ⟨p1, p2, p3⟩ := hmg
  have hL := h.inv.led _ _ h1
  have gl : Good s m.g.es := h.sane.good
  have hg : Good s (merge m.g x.ix x.pv x.es).2.es := by
    rcases p3 with e | e
    · rw [e]; exact gl
    · rw [e]; exact hL.good.take _
  rw [htm] at h1 h3 h6 p1 p2 p3 hL
  have hlow : ∀ e ∈ (merge m.g x.ix x.pv x.es).2.es, e.term ≤ m.term := fun e he => by
    rcases p3 with e2 | e2
    · rw [e2] at he
      exact h.sane.low e he
    · rw [e2] at he
      obtain ⟨k, hk2⟩ := List.mem_iff_getElem?.1 (List.mem_of_mem_take he)
      obtain ⟨a1, a2⟩ := hL.terms _ _ hk2
      rcases Nat.lt_or_ge k (s.B m.term).length with h7 | h7
      · exact Nat.le_of_lt (a2 h7)
      · exact Nat.le_of_eq (a1 h7)
  · obtain ⟨k1, k2⟩ := inv_told h.inv (n := co (laid m x)) (a := aheadN x) h.id (by rw [h.nd]; rfl) (by rw [h.nd]; rfl) hr h1 h3 (by rw [h.nd]; exact p1) p2 hg hlow (by
      rw [h.nd]
      show max m.commit (min x.cm (aheadN x)) = m.commit ∨ _
      rcases Nat.le_total (min x.cm (aheadN x)) m.commit with h7 | h7
      · exact .inl (Nat.max_eq_left h7)
      · right
        have e : (co (laid m x)).commit = min x.cm (aheadN x) := Nat.max_eq_right h7
        rw [e]
        exact ⟨Nat.min_le_right _ _, Cov.less h.inv h6 (Nat.min_le_left _ _)⟩)
    have ha : At c0 (s.told m.id (co (laid m x)) (aheadN x)) (laid m x) := ⟨k1, put_at _ _ _, h.id, (merge_snap _ _ _ _).trans h.snap, fine_merge h.fine hb, h.nl, h.ml, h.out⟩
    have hst : Step c0 s m (laid m x) := ⟨_, k2, ha, rfl, fun j hj => put_off _ _ hj⟩
    obtain ⟨s2, e2, a2, i2, o2⟩ := step_say ha (x := { blankM with k := 4, t := x.f, ix := aheadN x, ok := true }) ⟨by show (4 : Int) ≠ 5; decide, fun e => absurd e (by show (4 : Int) ≠ 1; decide), fun e => absurd e (by show (4 : Int) ≠ 2; decide), fun e => absurd e (by show (4 : Int) ≠ 3; decide), fun _ _ => ⟨m.id, h.id, rfl, by
      show aheadN x ≤ (s.told m.id (co (laid m x)) (aheadN x)).ack m.id m.term
      rw [show (s.told m.id (co (laid m x)) (aheadN x)).ack m.id m.term = max (s.ack m.id m.term) (aheadN x) from upt_eq _ _ _ _]
      exact Nat.le_max_right _ _⟩⟩
    exact ⟨s2, k2.trans e2, a2, i2, fun j hj => (o2 j hj).trans (put_off _ _ hj)⟩
theorem step_written (h : At c0 s m) {x : Msg} (hx : Sent s x) (hk : x.k = 3) (htm : x.tm ≤ m.term) (hb : ∀ e ∈ x.es, EntB e) : Step c0 s m (writtenN m x) := by
  unfold writtenN
  split
  · exact step_say h (sent_plain s (.inr rfl) rfl)
  rename_i h1
  split
  · exact Step.refl h
  have ht : x.tm = m.term := by omega
  have hst : Step c0 s m (hearsOf m x) := by
    have e : hearsOf m x = { retire m with leader := x.f, reset := true } := by
      unfold hearsOf followN
      rw [if_neg (by omega)]
    rw [e]
    exact (step_retire h).then fun s1 _ h1 => step_same h1 rfl rfl rfl rfl rfl rfl
  refine hst.then fun s1 hx1 h1 => step_merged h1 (Sent.mono hx1 h.inv hx) hk ?_ ?_ hb
  · unfold hearsOf followN
    rw [if_neg (by omega)]
    exact ht
  · unfold hearsOf followN
    rw [if_neg (by omega)]
    rfl
theorem step_receive (h : At c0 s m) {x : Msg} (hM : s.M x) (hb : m.term < 18446744073709551616) (hxb : MsgB x) : Step c0 s m (receive m x) := by
  unfold receive
  split
  case isFalse => exact Step.refl h
  rename_i hh
  have hn := hears_node hh
  have hx := h.inv.ms x hM
  have hst : Step c0 s m (heard m x) := by
    unfold heard
    split
    · exact step_follow h _
    · exact Step.refl h
  have hid : (heard m x).id = m.id ∧ x.tm ≤ (heard m x).term ∧ (heard m x).term < 18446744073709551616 := by
    have := hxb.tm
    unfold heard followN
    split
    · exact ⟨rfl, Nat.le_refl _, this⟩
    · exact ⟨rfl, by omega, hb⟩
  have ht : x.t = ((heard m x).id : Int) := by
    rw [hid.1]
    exact (of_decide_eq_true (Bool.and_eq_true_iff.1 hh).1).2.2.2.1
  have hkk := (of_decide_eq_true (Bool.and_eq_true_iff.1 hh).1)
  refine hst.then fun s1 hx1 h1 => ?_
  have hx2 := Sent.mono hx1 h.inv hx
  unfold handles
  split
  · rename_i hk
    exact step_asked h1 hx2 hk
  split
  · rename_i hk
    exact step_voted h1 hid.2.2 hx2 hk ht
  split
  · rename_i hk
    exact step_answered h1 hx2 hk hn
  · have := hx2.k5
    exact step_written h1 hx2 (by omega) hid.2.1 hxb.es

/-! ### All nodes -/
structure Sys (c0 : Nat) (s : St) (nds : Nat → Nd) (net : List Msg) : Prop where
  at_ : ∀ i, i < 7 → At c0 s (nds i) ∧ (nds i).id = i
  net : ∀ x ∈ net, s.M x
theorem Sys.step {nds : Nat → Nd} {net : List Msg} (h : Sys c0 s nds net) {i : Nat} (hi : i < 7) (hst : Step c0 s (nds i) m') : ∃ s', Ext s s' ∧ Sys c0 s' (upd nds i m') net := by
  obtain ⟨s1, h1, h2, h3, h4⟩ := hst
  have hid := (h.at_ i hi).2
  refine ⟨s1, h1, fun j hj => ?_, fun x hx => h1.M x (h.net x hx)⟩
  by_cases e : j = i
  · subst e
    rw [upd_eq]
    exact ⟨h2, h3.trans hid⟩
  · rw [upd_ne _ _ e]
    obtain ⟨a, b⟩ := h.at_ j hj
    refine ⟨⟨h2.inv, ?_, a.id, a.snap, a.fine, a.nl, a.ml, fun x hx => h1.M x (a.out x hx)⟩, b⟩
    have hn := a.nd
    rw [b] at hn ⊢
    rw [h4 j (by rw [hid]; exact e)]
    exact hn
def s0 (c0 : Nat) : St := ⟨fun i => co (newNd i 0 (-1) ⟨snapC c0, []⟩), fun _ => False, fun _ => none, fun _ => [], fun _ => [], fun _ _ => false, fun _ _ => none, fun _ _ => [], fun _ _ => 0, fun _ _ _ => False⟩
theorem inv0 (c0 : Nat) : Inv c0 (s0 c0) where
  led t l h := by cases h
  n2 i _ h := by cases h
  n1 i _ h := by cases h
  n0 i _ := ⟨Good.nil, fun e h => (by cases h), ⟨Nat.le_refl _, .inl rfl⟩, fun _ _ => rfl, .inl ⟨rfl, rfl⟩⟩
  vd v T c L b _ h := by cases h
  cl c T _ := ⟨Good.nil, fun e h => by cases h⟩
  ak v t _ h := absurd h (Nat.lt_irrefl 0)
  aj v t p _ hp _ := by
    have : p = 0 := Nat.le_zero.1 hp
    subst this
    simp
  ev t p m h := h.elim
  eo t p m p' m' h := h.elim
  ec t p m h := h.elim
  ms x h := h.elim
theorem sys0 {c0 : Nat} (hc : sound c0 = true) : Sys c0 (s0 c0) (fun i => newNd i 0 (-1) ⟨snapC c0, []⟩) [] :=
  ⟨fun i hi => ⟨⟨inv0 c0, rfl, hi, rfl, fine_new hc rfl ⟨by show 0 < _; decide, by show 0 < _; decide, by
    have : 0 < c0 ∧ c0 < 128 := of_decide_eq_true hc
    show c0 < _
    omega⟩ (fun e h => by cases h), rfl, rfl, fun x h => by cases h⟩, rfl⟩, fun x h => by cases h⟩

/-! ### What is agreed upon -/
def Agreed (s : St) (i : Nat) (e : Ent) : Prop := ∃ t p m, s.E t p m ∧ i < p ∧ (s.G t)[i]? = some e
theorem Agreed.mono (x : Ext s s') (h : Inv c0 s) {i : Nat} {e : Ent} (k : Agreed s i e) : Agreed s' i e := by
  obtain ⟨t, p, m, h1, h2, h3⟩ := k
  have he := h.ev _ _ _ h1
  obtain ⟨l, hl⟩ := he.led
  refine ⟨t, p, m, x.E _ _ _ h1, h2, ?_⟩
  rw [take_get (x.gtake hl (n := p) (Nat.le_trans he.le he.len)) h2]
  exact h3
theorem agreed_up (h : Inv c0 s) {t p m t' p' m' : Nat} (h1 : s.E t p m) (h2 : s.E t' p' m') (hlt : t < t') : (s.G t).take p = (s.G t').take p := by
  obtain ⟨l, hl⟩ := (h.ev _ _ _ h2).led
  have he := h.ev _ _ _ h1
  have h3 := h.ec _ _ _ h1 _ _ hlt hl
  exact h3.trans ((h.led _ _ hl).btake (ElA.take_len h3 (Nat.le_trans he.le he.len)))
theorem Agreed.same (h : Inv c0 s) {i : Nat} {e f : Ent} (a : Agreed s i e) (b : Agreed s i f) : e = f := by
  obtain ⟨t, p, m, h1, h2, h3⟩ := a
  obtain ⟨t', p', m', k1, k2, k3⟩ := b
  have : (s.G t)[i]? = (s.G t')[i]? := by
    rcases Nat.lt_trichotomy t t' with hlt | rfl | hlt
    · exact take_get (agreed_up h h1 k1 hlt) h2
    · rfl
    · exact (take_get (agreed_up h k1 h1 hlt) k2).symm
  rw [h3, k3] at this
  cases this
  rfl
theorem At.agreed (h : At c0 s m) {i : Nat} (hi : i < m.commit) : ∃ e, m.g.es[i]? = some e ∧ Agreed s i e ∧ Rlog.get m.g (i + 1) 1 = [e] := by
  obtain ⟨c1, c2⟩ := h.sane.cov
  have c1 : m.commit ≤ m.g.es.length := c1
  obtain ⟨e, he⟩ := get_of (show i < m.g.es.length by omega)
  refine ⟨e, he, ?_, ?_⟩
  · rcases c2 with c2 | ⟨t, p, k, d1, d2, d3, d4⟩
    · have c2 : m.commit = 0 := c2
      omega
    · have d3 : m.commit ≤ p := d3
      have d4 : m.g.es.take m.commit = (s.G t).take m.commit := d4
      exact ⟨t, p, k, d1, by omega, by rw [← take_get d4 hi]; exact he⟩
  · have hp := (h.fine.at_ he).2.2.1
    rw [(h.get he).1] at hp
    unfold Rlog.get
    rw [hp]
    simp only
    have := List.drop_eq_getElem_cons (show i < m.g.es.length by omega)
    rw [this, List.getElem?_eq_getElem (by omega)] at *
    cases he
    rfl
theorem At.leader (h : At c0 s m) (hr : m.role = 2) : s.ld m.term = some m.id := (h.leads hr).ld
end
end Go.Proofs.YtokifeghoodkgaaGreat.ElB
