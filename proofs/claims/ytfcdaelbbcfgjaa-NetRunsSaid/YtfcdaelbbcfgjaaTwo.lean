/- Both nets beside each other, and a box beside them: what each call of either leaves. No statement is proved here. -/
import Derived.Test.YtfcdaelbbcfgjaaOut
import Derived.Test.YtfcdaelbbcfgjaaRTake
set_option linter.unusedVariables false
namespace Go.Proofs.Ytfcdaelbbcfgjaa.Two
open Go.RowKit Go.Proofs.Ytfcdaelbbcfgjaa.Kit Go.Proofs.Ytfcdaelbbcfgjaa.Blocks Go.Proofs.Ytfcdaelbbcfgjaa.Ltr Go.Proofs.Ytfcdaelbbcfgjaa.NAt Go.Proofs.Ytfcdaelbbcfgjaa.App Go.Proofs.Ytfcdaelbbcfgjaa.WalkA Go.Proofs.Ytfcdaelbbcfgjaa.WalkB Go.Proofs.Ytfcdaelbbcfgjaa.WalkC Go.Proofs.Ytfcdaelbbcfgjaa.WalkE Go.Proofs.Ytfcdaelbbcfgjaa.WalkF Go.Proofs.Ytfcdaelbbcfgjaa.WalkG Go.Proofs.Ytfcdaelbbcfgjaa.Sol Go.Proofs.Ytfcdaelbbcfgjaa.Opens Go.Proofs.Ytfcdaelbbcfgjaa.LawB Go.Proofs.Ytfcdaelbbcfgjaa.Out Go.Proofs.Ytfcdaelbbcfgjaa.RAll Go.Proofs.Ytfcdaelbbcfgjaa.RNet Go.Proofs.Ytfcdaelbbcfgjaa.RTake

/-- The program's net at p, the document's at q; they share no block; the document's letters' entries lie in what came in. -/
structure Both (w0 : World) (p : Nat) (v : Value) (E : Nat → Prop) (L : List Lt) (l : Nat) (q : Nat) (u : Value) (M : List Lt) (l' : Nat) (w : World) : Prop where
  net : NAt w0.heap.size 54 E w p v L l
  ref : NAt w0.heap.size 30 (fun g => g < w0.heap.size) w q u M l'
  apart : ∀ g, Mine p v g ∨ E g → ¬ Mine q u g
  high : ∀ g, E g → w0.heap.size ≤ g
  bel : Below w0.heap.size w0 w
section
variable {w0 w w' : World} {p q l l' l1 : Nat} {v u : Value} {E E' : Nat → Prop} {L M L1 M1 : List Lt}
theorem Both.below (h : Both w0 p v E L l q u M l' w) (k : Below w.heap.size w w') : Both w0 p v E L l q u M l' w' := ⟨h.net.below k, h.ref.below k, h.apart, h.high, h.bel.trans (k.mono h.net.base)⟩
/-- The program's net has turned. -/
theorem Both.turn (h : Both w0 p v E L l q u M l' w) (k : LeftN w0.heap.size 54 E E' w p v L1 l1 w') :
    ∃ v', Both w0 p v' E' L1 l1 q u M l' w' ∧ (∀ g, E g → E' g) ∧ (∀ g, E g → ¬ Mine p v g) ∧ Only (Mine p v) w w' ∧ ∀ g, Out w p v E g → ¬ Mine q u g → Out w' p v' E' g ∧ w'.heap[g]? = w.heap[g]? := by
  obtain ⟨v', h1, o, b, e1, k1⟩ := left_out h.net k
  obtain ⟨_, _, _, _, _, e2⟩ := k
  refine ⟨v', ⟨h1, h.ref.keep o (fun g hg hm => h.apart g (.inl hm) hg) fun g hg hm => ?_, fun g hg hm => ?_, fun g hg => ?_, h.bel.trans b⟩, e1, fun g hg hm => ?_, o, fun g hg _ => k1 g hg⟩
  · have := (h.net.mine_lt hm).1; omega
  · have hq := (k1 g ⟨(h.ref.mine_lt hm).2, fun e => h.apart g (.inl e) hm, fun e => h.apart g (.inr e) hm⟩).1
    exact hg.elim hq.mine hq.ent
  · rcases e2 g hg with e | e
    · exact h.high g e
    · exact Nat.le_trans h.net.base e
  · rcases hm with e | e
    · exact (h.net.off g hg).1 e
    · exact (h.net.off g hg).2.1 e
/-- The document's net has turned. -/
theorem Both.rturn (h : Both w0 p v E L l q u M l' w) (k : LeftN w0.heap.size 30 (fun g => g < w0.heap.size) (fun g => g < w0.heap.size) w q u M1 l1 w') :
    ∃ u', Both w0 p v E L l q u' M1 l1 w' ∧ Only (Mine q u) w w' ∧ ∀ g, g < w.heap.size → ¬ Mine q u g → ¬ Mine q u' g ∧ w'.heap[g]? = w.heap[g]? := by
  obtain ⟨u', h1, o, f, _, _⟩ := k
  have hm' : ∀ g, g < w.heap.size → ¬ Mine q u g → ¬ Mine q u' g := fun g hg hn hm => by
    rcases hm with e | e
    · exact hn (.inl e)
    · rcases f g e with e1 | e1
      · exact hn (.inr e1)
      · omega
  refine ⟨u', ⟨h.net.keep o (fun g hg => h.apart g (.inl hg)) fun g hg => h.apart g (.inr hg), h1, fun g hg => hm' g ?_ (h.apart g hg), h.high, h.bel.trans (o.below h.ref.base fun g hg => (h.ref.mine_lt hg).1)⟩, o, fun g hg hn => ⟨hm' g hg hn, o.block g hg hn⟩⟩
  rcases hg with e | e
  · exact (h.net.mine_lt e).2
  · exact (h.net.off g e).2.2
end
/-- By what the letters say. -/
def Pr (w0 : World) (p q : Nat) (D : List Sd) (l : Nat) (D' : List Sd) (l' : Nat) (w : World) : Prop :=
  ∃ v E L u M, Both w0 p v E L l q u M l' w ∧ L.map Lt.said = D ∧ M.map Lt.said = D'
/-- Beside them a block that is theirs not. -/
def Q2 (w0 : World) (bx : Nat) (o : Obj) (p q : Nat) (D : List Sd) (l : Nat) (D' : List Sd) (l' : Nat) (w : World) : Prop :=
  w.heap[bx]? = some o ∧ ∃ v E L u M, Both w0 p v E L l q u M l' w ∧ L.map Lt.said = D ∧ M.map Lt.said = D' ∧ Out w p v E bx ∧ ¬ Mine q u bx
section
variable {w0 w w' : World} {bx p q l l' : Nat} {D D' : List Sd} {o : Obj}
theorem Pr.below (h : Pr w0 p q D l D' l' w) (k : Below w.heap.size w w') : Pr w0 p q D l D' l' w' := by
  obtain ⟨v, E, L, u, M, h, e⟩ := h
  exact ⟨v, E, L, u, M, h.below k, e⟩
theorem Pr.bel (h : Pr w0 p q D l D' l' w) : Below w0.heap.size w0 w := by
  obtain ⟨v, E, L, u, M, h, e⟩ := h
  exact h.bel
theorem Pr.boxed (h : Pr w0 p q D l D' l' w) (o : Obj) : Q2 w0 w.heap.size o p q D l D' l' (w.alloc o) := by
  have hb := (Below.refl w.heap.size w).alloc (Nat.le_refl _) o
  obtain ⟨v, E, L, u, M, h, e1, e2⟩ := h
  exact ⟨heap_alloc_new w o, v, E, L, u, M, h.below hb, e1, e2, ⟨by simp, fun e => by have := (h.net.mine_lt e).2; omega, fun e => by have := (h.net.off _ e).2.2; omega⟩, fun e => by have := (h.ref.mine_lt e).2; omega⟩
theorem Q2.pr (h : Q2 w0 bx o p q D l D' l' w) : Pr w0 p q D l D' l' w := by
  obtain ⟨_, v, E, L, u, M, h, e1, e2, _⟩ := h
  exact ⟨v, E, L, u, M, h, e1, e2⟩
theorem Q2.next (h : Q2 w0 bx o p q D l D' l' w) (k : Below w.heap.size w w') : Q2 w0 bx o p q D l D' l' w' := by
  obtain ⟨hb, v, E, L, u, M, h, e1, e2, e3, e4⟩ := h
  exact ⟨(k.block bx e3.lt).trans hb, v, E, L, u, M, h.below k, e1, e2, e3.keep k.size, e4⟩
theorem Q2.drew (h : Q2 w0 bx o p q D l D' l' w) : Q2 w0 bx o p q D l D' l' w.drew := h.next ((Below.refl _ _).drew)
theorem Q2.cell {cs : Array Value} {t : TypeId} (h : Q2 w0 bx (.cells cs t (0, 0)) p q D l D' l' w) (j : Nat) : w.cell? ⟨bx, j, none⟩ = cs[j]? := by rw [cell_at h.1]
theorem Q2.bel (h : Q2 w0 bx o p q D l D' l' w) : Below w0.heap.size w0 w := h.pr.bel
theorem q_turn {v u : Value} {E E' : Nat → Prop} {L M L1 : List Lt} {l1 : Nat} (hb : w.heap[bx]? = some o) (h : Both w0 p v E L l q u M l' w) (e2 : M.map Lt.said = D') (e3 : Out w p v E bx) (e4 : ¬ Mine q u bx)
    (k : LeftN w0.heap.size 54 E E' w p v L1 l1 w') : Q2 w0 bx o p q (L1.map Lt.said) l1 D' l' w' := by
  obtain ⟨v', h1, _, _, _, h3⟩ := h.turn k
  obtain ⟨k1, k2⟩ := h3 bx e3 e4
  exact ⟨k2.trans hb, v', E', L1, u, M, h1, rfl, e2, k1, e4⟩
theorem q_rturn {v u : Value} {E : Nat → Prop} {L M M1 : List Lt} {l1 : Nat} (hb : w.heap[bx]? = some o) (h : Both w0 p v E L l q u M l' w) (e1 : L.map Lt.said = D) (e3 : Out w p v E bx) (e4 : ¬ Mine q u bx)
    (k : LeftN w0.heap.size 30 (fun g => g < w0.heap.size) (fun g => g < w0.heap.size) w q u M1 l1 w') : Q2 w0 bx o p q D l (M1.map Lt.said) l1 w' := by
  obtain ⟨u', h1, ho, h3⟩ := h.rturn k
  obtain ⟨k1, k2⟩ := h3 bx e3.lt e4
  exact ⟨k2.trans hb, v, E, L, u', M1, h1, e1, rfl, e3.keep ho.size, k1⟩
/-! ### The calls, by what the letters say -/
def sent (D : List Sd) (d : Sd) : List Sd := if D.length < 256 then D ++ [d] else D
def slost (D : List Sd) (l : Nat) : Nat := if D.length < 256 then l else l + 1
theorem p_send {x : Lt} {d : Sd} (h : Q2 w0 bx o p q D l D' l' w) (hl : l < 4611686018427387904) (hx : Came w0 x) (hd : x.said = d) {b : Bool} {D1 : List Sd} {l1 : Nat} (hs : Hid (decide (D.length < 256) = b)) (hD : Hid (sent D d = D1)) (hl1 : Hid (slost D l = l1)) :
    Calls Try.prog 11 #[.pointer (some ⟨p, 0, none⟩), ltV x] w fun e w' => e = .returned (.bool b) ∧ Q2 w0 bx o p q D1 l1 D' l' w' := by
  have hxw := Came.below hx h.bel
  obtain ⟨hb, v, E, L, u, M, h, rfl, e2, e3, e4⟩ := h
  subst hd
  rw [← hs.out, ← hD.out, ← hl1.out]
  unfold sent slost
  by_cases hr : (L.map Lt.said).length < 256
  · rw [if_pos hr, if_pos hr, decide_eq_true hr]
    rw [List.length_map] at hr
    refine (send_room h.net hr hxw).mono ?_
    rintro e w' ⟨rfl, E', A, c, k⟩
    have := q_turn hb h e2 e3 e4 k
    rw [List.map_append] at this
    exact ⟨rfl, this⟩
  · rw [if_neg hr, if_neg hr, decide_eq_false hr]
    rw [List.length_map] at hr
    refine (send_full h.net (by omega) hl).mono ?_
    rintro e w' ⟨rfl, k⟩
    exact ⟨rfl, q_turn hb h e2 e3 e4 k⟩
theorem m_send {x : Lt} {d : Sd} (h : Q2 w0 bx o p q D l D' l' w) (hl : l' < 4611686018427387904) (hx : Fit w (fun g => g < w0.heap.size) x) (hd : x.said = d) {b : Bool} {D1 : List Sd} {l1 : Nat} (hs : Hid (decide (D'.length < 256) = b)) (hD : Hid (sent D' d = D1)) (hl1 : Hid (slost D' l' = l1)) :
    Calls Try.prog 12 #[.pointer (some ⟨q, 0, none⟩), ltV x] w fun e w' => e = .returned (.bool b) ∧ Q2 w0 bx o p q D l D1 l1 w' := by
  obtain ⟨hb, v, E, L, u, M, h, e1, rfl, e3, e4⟩ := h
  subst hd
  rw [← hs.out, ← hD.out, ← hl1.out]
  unfold sent slost
  by_cases hr : (M.map Lt.said).length < 256
  · rw [if_pos hr, if_pos hr, decide_eq_true hr]
    rw [List.length_map] at hr
    refine (rsend_room h.ref hr hx).mono ?_
    rintro e w' ⟨rfl, k⟩
    have := q_rturn hb h e1 e3 e4 k
    rw [List.map_append] at this
    exact ⟨rfl, this⟩
  · rw [if_neg hr, if_neg hr, decide_eq_false hr]
    rw [List.length_map] at hr
    refine (rsend_full h.ref (by omega) hl).mono ?_
    rintro e w' ⟨rfl, k⟩
    exact ⟨rfl, q_rturn hb h e1 e3 e4 k⟩
theorem came_fit {x : Lt} (hx : Came w0 x) (h : Below w0.heap.size w0 w) : Fit w (fun g => g < w0.heap.size) x := Fit.below hx h
/-- The document's Send of what came in. -/
theorem m_sendC {x : Lt} {d : Sd} (h : Q2 w0 bx o p q D l D' l' w) (hl : l' < 4611686018427387904) (hx : Came w0 x) (hd : x.said = d) {b : Bool} {D1 : List Sd} {l1 : Nat} (hs : Hid (decide (D'.length < 256) = b)) (hD : Hid (sent D' d = D1)) (hl1 : Hid (slost D' l' = l1)) :
    Calls Try.prog 12 #[.pointer (some ⟨q, 0, none⟩), ltV x] w fun e w' => e = .returned (.bool b) ∧ Q2 w0 bx o p q D l D1 l1 w' := m_send h hl (came_fit hx h.bel) hd hs hD hl1
theorem p_loseN (h : Q2 w0 bx o p q [] l D' l' w) (i : Int) : Calls Try.prog 16 #[.pointer (some ⟨p, 0, none⟩), .int .i64 i] w fun e w' => e = .returned (.bool false) ∧ Q2 w0 bx o p q [] l D' l' w' := by
  have h' := h
  obtain ⟨hb, v, E, L, u, M, h, e1, e2, e3, e4⟩ := h
  obtain rfl := List.map_eq_nil_iff.1 e1
  exact (lose_none h.net i).mono fun e w' ⟨he, k⟩ => ⟨he, h'.next k⟩
theorem p_lose (h : Q2 w0 bx o p q D l D' l' w) (hn : 0 < D.length) (hf : D.length ≤ 256) (hl : l < 4611686018427387904) (i : Int) {k : Nat} (hk : Hid (plc i D.length = k)) : Calls Try.prog 16 #[.pointer (some ⟨p, 0, none⟩), .int .i64 i] w fun e w' => e = .returned (.bool true) ∧ Q2 w0 bx o p q (D.eraseIdx k) (l + 1) D' l' w' := by
  obtain ⟨hb, v, E, L, u, M, h, rfl, e2, e3, e4⟩ := h
  rw [← hk.out]
  rw [List.length_map] at hn hf ⊢
  refine (lose_any h.net hn hf hl i).mono ?_
  rintro e w' ⟨rfl, k⟩
  have := q_turn hb h e2 e3 e4 k
  rw [map_erase] at this
  exact ⟨rfl, this⟩
theorem m_takeN (h : Q2 w0 bx o p q D l [] l' w) (i : Int) : Calls Try.prog 14 #[.pointer (some ⟨q, 0, none⟩), .int .i64 i] w fun e w' => e = .returned (.tuple #[ltV zeroL, .bool false]) ∧ Q2 w0 bx o p q D l [] l' w' := by
  have h' := h
  obtain ⟨hb, v, E, L, u, M, h, e1, e2, e3, e4⟩ := h
  obtain rfl := List.map_eq_nil_iff.1 e2
  exact (rtake_none h.ref i).mono fun e w' ⟨he, k⟩ => ⟨he, h'.next k⟩
theorem m_take (h : Q2 w0 bx o p q D l D' l' w) (hn : 0 < D'.length) (hf : D'.length ≤ 256) (i : Int) {k : Nat} (hk : Hid (plc i D'.length = k)) : Calls Try.prog 14 #[.pointer (some ⟨q, 0, none⟩), .int .i64 i] w fun e w' =>
    ∃ y d, D'[k]? = some d ∧ y.said = d ∧ e = .returned (.tuple #[ltV y, .bool true]) ∧ Fit w' (fun g => g < w0.heap.size) y ∧ Q2 w0 bx o p q D l (D'.eraseIdx k) l' w' := by
  obtain ⟨hb, v, E, L, u, M, h, e1, rfl, e3, e4⟩ := h
  rw [← hk.out]
  rw [List.length_map] at hn hf ⊢
  refine (rtake_any h.ref hn hf i).mono ?_
  rintro e w' ⟨y, hy, rfl, k⟩
  have h1 := q_rturn hb h e1 e3 e4 k
  rw [map_erase] at h1
  obtain ⟨_, _, ho, _⟩ := k
  refine ⟨y, y.said, by rw [List.getElem?_map, hy]; rfl, rfl, rfl, (h.ref.fit y (List.mem_of_getElem? hy)).keep ho fun g hg hm => ?_, h1⟩
  have := (h.ref.mine_lt hm).1
  omega
theorem m_placeN (h : Q2 w0 bx o p q D l [] l' w) (i : Int) : Calls Try.prog 17 #[.pointer (some ⟨q, 0, none⟩), .int .i64 i] w fun e w' => e = .returned (.int .i64 (-1)) ∧ Q2 w0 bx o p q D l [] l' w' := by
  have h' := h
  obtain ⟨hb, v, E, L, u, M, h, e1, e2, e3, e4⟩ := h
  obtain rfl := List.map_eq_nil_iff.1 e2
  exact (rplace_none h.ref i).mono fun e w' ⟨he, k⟩ => ⟨he, h'.next k⟩
theorem m_place (h : Q2 w0 bx o p q D l D' l' w) (hn : 0 < D'.length) (hf : D'.length ≤ 256) (i : Int) {k : Nat} (hk : Hid (plc i D'.length = k)) : Calls Try.prog 17 #[.pointer (some ⟨q, 0, none⟩), .int .i64 i] w fun e w' =>
    e = .returned (.int .i64 (k : Int)) ∧ Q2 w0 bx o p q D l D' l' w' := by
  have h' := h
  obtain ⟨hb, v, E, L, u, M, h, e1, rfl, e3, e4⟩ := h
  rw [← hk.out]
  rw [List.length_map] at hn hf ⊢
  exact (rplace_any h.ref hn hf i).mono fun e w' ⟨he, k⟩ => ⟨he, h'.next k⟩
theorem p_doubleN (h : Q2 w0 bx o p q [] l D' l' w) (i : Int) : Calls Try.prog 18 #[.pointer (some ⟨p, 0, none⟩), .int .i64 i] w fun e w' => e = .returned (.bool false) ∧ Q2 w0 bx o p q [] l D' l' w' := by
  have h' := h
  obtain ⟨hb, v, E, L, u, M, h, e1, e2, e3, e4⟩ := h
  obtain rfl := List.map_eq_nil_iff.1 e1
  exact (double_none h.net i).mono fun e w' ⟨he, k⟩ => ⟨he, h'.next k⟩
theorem p_double (h : Q2 w0 bx o p q D l D' l' w) (hn : 0 < D.length) (hf : D.length ≤ 256) (hl : l < 4611686018427387904) (i : Int) {k : Nat} {d : Sd} (hk : Hid (plc i D.length = k)) (hd : Hid (D[k]? = some d)) {b : Bool} {D1 : List Sd} {l1 : Nat} (hs : Hid (decide (D.length < 256) = b)) (hD : Hid (sent D d = D1)) (hl1 : Hid (slost D l = l1)) :
    Calls Try.prog 18 #[.pointer (some ⟨p, 0, none⟩), .int .i64 i] w fun e w' => e = .returned (.bool b) ∧ Q2 w0 bx o p q D1 l1 D' l' w' := by
  obtain ⟨hb, v, E, L, u, M, h, rfl, e2, e3, e4⟩ := h
  have hd' := hd.out
  rw [← hs.out, ← hD.out, ← hl1.out]
  rw [← hk.out] at hd'
  unfold sent slost
  by_cases hr : (L.map Lt.said).length < 256
  · rw [if_pos hr, if_pos hr, decide_eq_true hr]
    rw [List.length_map] at hr hn hd'
    refine (double_any h.net hn hr i).mono ?_
    rintro e w' ⟨rfl, x, E', A, c, hx, k⟩
    have := q_turn hb h e2 e3 e4 k
    rw [List.map_append] at this
    rw [List.getElem?_map, hx] at hd'
    cases hd'
    exact ⟨rfl, this⟩
  · rw [if_neg hr, if_neg hr, decide_eq_false hr]
    rw [List.length_map] at hr hf
    refine (double_full h.net (by omega) hl i).mono ?_
    rintro e w' ⟨rfl, k⟩
    exact ⟨rfl, q_turn hb h e2 e3 e4 k⟩
theorem p_count (h : Pr w0 p q D l D' l' w) {m : Nat} (hm : Hid (D.length = m)) : Calls Try.prog 19 #[.pointer (some ⟨p, 0, none⟩)] w fun e w' => e = .returned (.tuple #[.int .i64 (m : Int), .int .i64 (l : Int)]) ∧ Pr w0 p q D l D' l' w' := by
  have h' := h
  obtain ⟨v, E, L, u, M, h, rfl, e2⟩ := h
  rw [← hm.out, List.length_map]
  exact (count_any h.net).mono fun e w' ⟨he, k⟩ => ⟨he, h'.below k⟩
/-! ### What is asked of both -/
/-- Both nets, the document's slice known. -/
def Sta (w0 : World) (p q : Nat) (D : List Sd) (l : Nat) (A : Option Addr) (m c : Nat) (w : World) : Prop :=
  Pr w0 p q D l D l w ∧ w.cell? ⟨q, 0, none⟩ = some (.slice A m c) ∧ w.cell? ⟨q, 1, none⟩ = some (.int .i64 (l : Int)) ∧ q < w.heap.size
theorem sta_of (h : Pr w0 p q D l D l w) {m : Nat} (hm : Hid (D.length = m)) : ∃ A c, Sta w0 p q D l A m c w := by
  have h' := h
  obtain ⟨v, E, L, u, M, h, e1, e2⟩ := h
  obtain ⟨A, c, hv, _⟩ := h.ref.form
  have hl : M.length = m := by rw [← hm.out, ← e2, List.length_map]
  rw [hl] at hv
  exact ⟨A, c, h', by rw [h.ref.c0, hv], h.ref.c1, h.ref.plt⟩
theorem Sta.next {A : Option Addr} {m c : Nat} (h : Sta w0 p q D l A m c w) (k : Below w.heap.size w w') : Sta w0 p q D l A m c w' :=
  ⟨h.1.below k, (k.cell (p := ⟨q, 0, none⟩) h.2.2.2).trans h.2.1, (k.cell (p := ⟨q, 1, none⟩) h.2.2.2).trans h.2.2.1, Nat.lt_of_lt_of_le h.2.2.2 k.size⟩
theorem Sta.drew {A : Option Addr} {m c : Nat} (h : Sta w0 p q D l A m c w) : Sta w0 p q D l A m c w.drew := h.next ((Below.refl _ _).drew)
/-- The program's list, told. -/
def Told (w0 : World) (p q : Nat) (D : List Sd) (l : Nat) (A : Option Addr) (m c : Nat) (A2 : Option Addr) (w : World) : Prop :=
  Sta w0 p q D l A m c w ∧ ∃ N, RL w w.heap.size A2 m N ∧ (∀ x ∈ N, Fit w (fun _ => True) x) ∧ N.map Lt.said = D
theorem s_all {A : Option Addr} {m c : Nat} (h : Sta w0 p q D l A m c w) (hf : m ≤ 256) (hm : Hid (D.length = m)) : Calls Try.prog 21 #[.pointer (some ⟨p, 0, none⟩)] w fun e w' => ∃ A2 c2, e = .returned (.slice A2 m c2) ∧ Told w0 p q D l A m c A2 w' := by
  have h' := h
  obtain ⟨⟨v, E, L, u, M, h, e1, e2⟩, _⟩ := h
  have hl : L.length = m := by rw [← hm.out, ← e1, List.length_map]
  refine (all_any h.net (by omega)).mono ?_
  rintro e w' ⟨A2, c2, N, rfl, hc, k⟩
  have hN : N.length = m := by have := congrArg List.length hc.said; simp only [List.length_map] at this; omega
  refine ⟨A2, c2, by rw [hl], h'.next k, N, ?_, fun x hx => ?_, hc.said.trans e1⟩
  · have := hc.row
    rw [hN, hl] at this
    exact Reads.of_own this
  · obtain ⟨k1, k2, _⟩ := hc.ents x hx
    exact own_fit (h := x.h) k1 (fun _ _ => trivial) k2
theorem s_rall {A : Option Addr} {m c : Nat} {A2 : Option Addr} {c2 : Nat} (h : Told w0 p q D l A m c A2 w) (hf : m ≤ 256) : Calls Try.prog 20 #[.slice A2 m c2, .slice A m c] w fun e w' => e = .returned (.bool true) ∧ Sta w0 p q D l A m c w' := by
  obtain ⟨h1, N, hr, hfit, hs⟩ := h
  have h' := h1
  obtain ⟨⟨v, E, L, u, M, h, e1, e2⟩, c0, _⟩ := h1
  obtain ⟨A', c', hv, _, _, hrd⟩ := h.ref.form
  have hu := h.ref.c0
  rw [c0, hv] at hu
  cases hu
  exact (rall_any hr hrd (by omega) hfit h.ref.fit (hs.trans e2.symm)).mono fun e w' ⟨he, k⟩ => ⟨he, h'.next k⟩
/-- Both nets, as they begin. -/
theorem pr_new (h : NAt w0.heap.size 54 (fun _ => False) w p (.slice none 0 0) [] 0) (hb : Below w0.heap.size w0 w) :
    Pr w0 p w.heap.size [] 0 [] 0 (w.alloc (.cells #[.slice none 0 0, .int .i64 0] 30)) := by
  have hba : Below w.heap.size w (w.alloc (.cells #[.slice none 0 0, .int .i64 0] 30)) := (Below.refl _ _).alloc (Nat.le_refl _) _
  refine ⟨_, _, [], .slice none 0 0, [], ⟨h.below hba, ⟨hb.size, heap_alloc_new w _, World.ownsRow_nil _ _ _ _, by simp [Value.ownBlock], by simp, fun g hg => ⟨?_, by simp [Value.ownBlock], ?_⟩⟩, fun g hg hm => ?_, fun g hg => hg.elim, hb.trans (hba.mono hb.size)⟩, rfl, rfl⟩
  · have := hb.size; omega
  · have := hb.size; simp; omega
  · rcases hm with e | e
    · rcases hg with h1 | h1
      · have := (h.mine_lt h1).2; omega
      · exact h1
    · simp [Value.ownBlock] at e
end
end Go.Proofs.Ytfcdaelbbcfgjaa.Two
