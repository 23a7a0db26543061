/- Both nets: a letter that was taken, a letter of the document's, one more that is lost. No statement is proved here. -/
import Derived.Test.YtfcdaelbbcfgjaaTwo
set_option linter.unusedVariables false
namespace Go.Proofs.Ytfcdaelbbcfgjaa.TwoB
open Go.RowKit Go.Proofs.Ytfcdaelbbcfgjaa.Kit Go.Proofs.Ytfcdaelbbcfgjaa.Blocks Go.Proofs.Ytfcdaelbbcfgjaa.Ltr Go.Proofs.Ytfcdaelbbcfgjaa.NAt Go.Proofs.Ytfcdaelbbcfgjaa.App Go.Proofs.Ytfcdaelbbcfgjaa.WalkA Go.Proofs.Ytfcdaelbbcfgjaa.WalkB Go.Proofs.Ytfcdaelbbcfgjaa.WalkC Go.Proofs.Ytfcdaelbbcfgjaa.WalkE Go.Proofs.Ytfcdaelbbcfgjaa.WalkF Go.Proofs.Ytfcdaelbbcfgjaa.WalkG Go.Proofs.Ytfcdaelbbcfgjaa.Sol Go.Proofs.Ytfcdaelbbcfgjaa.Opens Go.Proofs.Ytfcdaelbbcfgjaa.LawB Go.Proofs.Ytfcdaelbbcfgjaa.Out Go.Proofs.Ytfcdaelbbcfgjaa.RAll Go.Proofs.Ytfcdaelbbcfgjaa.RNet Go.Proofs.Ytfcdaelbbcfgjaa.RTake Go.Proofs.Ytfcdaelbbcfgjaa.Two

/-- A box beside both, and a letter that was the program's. -/
def Q3 (w0 : World) (bx : Nat) (o : Obj) (p q : Nat) (x : Lt) (D : List Sd) (l : Nat) (D' : List Sd) (l' : Nat) (w : World) : Prop :=
  w.heap[bx]? = some o ∧ ∃ v E L u M, Both w0 p v E L l q u M l' w ∧ L.map Lt.said = D ∧ M.map Lt.said = D' ∧ Out w p v E bx ∧ ¬ Mine q u bx ∧ Fit w E x
section
variable {w0 w w' : World} {bx p q l l' : Nat} {D D' : List Sd} {o : Obj} {x : Lt}
theorem Q3.q2 (h : Q3 w0 bx o p q x D l D' l' w) : Q2 w0 bx o p q D l D' l' w := by
  obtain ⟨hb, v, E, L, u, M, h, e1, e2, e3, e4, _⟩ := h
  exact ⟨hb, v, E, L, u, M, h, e1, e2, e3, e4⟩
theorem Q3.reboxed (h : Q3 w0 bx o p q x D l D' l' w) (o' : Obj) : Q3 w0 w.heap.size o' p q x D l D' l' (w.alloc o') := by
  have hb := (Below.refl w.heap.size w).alloc (Nat.le_refl _) o'
  obtain ⟨_, v, E, L, u, M, h, e1, e2, _, _, hf⟩ := h
  exact ⟨heap_alloc_new w o', v, E, L, u, M, h.below hb, e1, e2, ⟨by simp, fun e => by have := (h.net.mine_lt e).2; omega, fun e => by have := (h.net.off _ e).2.2; omega⟩, (fun e => by have := (h.ref.mine_lt e).2; omega), hf.below hb⟩
theorem p_takeN (h : Q2 w0 bx o p q [] l D' l' w) (i : Int) : Calls Try.prog 13 #[.pointer (some ⟨p, 0, none⟩), .int .i64 i] w fun e w' => e = .returned (.tuple #[ltV zeroL, .bool false]) ∧ Q3 w0 bx o p q zeroL [] l D' l' w' := by
  obtain ⟨hb, v, E, L, u, M, h, e1, e2, e3, e4⟩ := h
  obtain rfl := List.map_eq_nil_iff.1 e1
  refine (take_none h.net i).mono fun e w' ⟨he, k⟩ => ⟨he, (k.block bx e3.lt).trans hb, v, E, [], u, M, h.below k, rfl, e2, e3.keep k.size, e4, Fit.zero _ _⟩
theorem p_take (h : Q2 w0 bx o p q D l D' l' w) (hn : 0 < D.length) (hf : D.length ≤ 256) (i : Int) {k : Nat} (hk : Hid (plc i D.length = k)) : Calls Try.prog 13 #[.pointer (some ⟨p, 0, none⟩), .int .i64 i] w fun e w' =>
    ∃ x d, D[k]? = some d ∧ x.said = d ∧ e = .returned (.tuple #[ltV x, .bool true]) ∧ Q3 w0 bx o p q x (D.eraseIdx k) l D' l' w' := by
  obtain ⟨hb, v, E, L, u, M, h, rfl, e2, e3, e4⟩ := h
  rw [← hk.out]
  rw [List.length_map] at hn hf ⊢
  refine (take_any h.net hn hf i).mono ?_
  rintro e w' ⟨x, hx, rfl, k⟩
  obtain ⟨v', h1, h2, h3, h4, h5⟩ := h.turn k
  obtain ⟨k1, k2⟩ := h5 bx e3 e4
  exact ⟨x, x.said, by rw [List.getElem?_map, hx]; rfl, rfl, rfl, k2.trans hb, v', E, _, u, M, h1, by rw [map_erase], e2, k1, e4, (h.net.fit x (List.mem_of_getElem? hx)).keep h4 h3⟩
theorem m_take3N (h : Q3 w0 bx o p q x D l [] l' w) (i : Int) : Calls Try.prog 14 #[.pointer (some ⟨q, 0, none⟩), .int .i64 i] w fun e w' => e = .returned (.tuple #[ltV zeroL, .bool false]) ∧ (∃ E, Fit w' E x) ∧ Q2 w0 bx o p q D l [] l' w' := by
  have h' := h.q2
  obtain ⟨hb, v, E, L, u, M, h, e1, e2, e3, e4, hf⟩ := h
  obtain rfl := List.map_eq_nil_iff.1 e2
  exact (rtake_none h.ref i).mono fun e w' ⟨he, k⟩ => ⟨he, ⟨E, hf.below k⟩, h'.next k⟩
theorem m_take3 (h : Q3 w0 bx o p q x D l D' l' w) (hn : 0 < D'.length) (hf : D'.length ≤ 256) (i : Int) {k : Nat} (hk : Hid (plc i D'.length = k)) : Calls Try.prog 14 #[.pointer (some ⟨q, 0, none⟩), .int .i64 i] w fun e w' =>
    ∃ y d, D'[k]? = some d ∧ y.said = d ∧ e = .returned (.tuple #[ltV y, .bool true]) ∧ (∃ E, Fit w' E y) ∧ (∃ E, Fit w' E x) ∧ Q2 w0 bx o p q D l (D'.eraseIdx k) l' w' := by
  obtain ⟨hb, v, E, L, u, M, h, e1, rfl, e3, e4, hx⟩ := h
  rw [← hk.out]
  rw [List.length_map] at hn hf ⊢
  refine (rtake_any h.ref hn hf i).mono ?_
  rintro e w' ⟨y, hy, rfl, k⟩
  have h1 := q_rturn hb h e1 e3 e4 k
  rw [map_erase] at h1
  obtain ⟨_, _, ho, _⟩ := k
  refine ⟨y, y.said, by rw [List.getElem?_map, hy]; rfl, rfl, rfl, ⟨_, (h.ref.fit y (List.mem_of_getElem? hy)).keep ho fun g hg hm => ?_⟩, ⟨_, hx.keep ho fun g hg hm => h.apart g (.inr hg) hm⟩, h1⟩
  have := (h.ref.mine_lt hm).1
  omega
/-- One of the document's letters, where it lies. -/
theorem q_letter (h : Q2 w0 bx o p q D l D' l' w) {k : Nat} {d : Sd} (hd : D'[k]? = some d) {m : Nat} (hm : Hid (D'.length = m)) : ∃ c b off y, w.cell? ⟨q, 0, none⟩ = some (.slice (some ⟨b, off, none⟩) m c) ∧ m ≤ c ∧ b < w.heap.size ∧ q < w.heap.size ∧ Ten w b (off + k * 10) y ∧ y.said = d ∧ Fit w (fun g => g < w0.heap.size) y := by
  obtain ⟨hb, v, E, L, u, M, h, e1, rfl, e3, e4⟩ := h
  have hkm : k < M.length := by have := (List.getElem?_eq_some_iff.1 hd).1; simpa using this
  obtain ⟨A, c, hv, hc, _, hr⟩ := h.ref.form
  obtain ⟨b, off, y, rfl, hbl, hy, ht⟩ := RL.at_ hr hkm
  rw [List.getElem?_map, hy] at hd
  rw [List.length_map] at hm
  rw [hm.out] at hv hc
  exact ⟨c, b, off, y, by rw [h.ref.c0, hv], hc, hbl, h.ref.plt, ht, Option.some.inj hd, h.ref.fit y (List.mem_of_getElem? hy)⟩
/-- The document's count of the lost goes on. -/
theorem q_lost (h : Q2 w0 bx o p q D l D' l' w) (n : Nat) : w.cell? ⟨q, 1, none⟩ = some (.int .i64 (l' : Int)) ∧ w.frozen? ⟨q, 1, none⟩ = false ∧ q < w.heap.size ∧ Q2 w0 bx o p q D l D' n (w.setCell ⟨q, 1, none⟩ (.int .i64 (n : Int))) := by
  obtain ⟨hb, v, E, L, u, M, h, e1, rfl, e3, e4⟩ := h
  exact ⟨h.ref.c1, h.ref.free 1, h.ref.plt, q_rturn hb h e1 e3 e4 (h.ref.losing n)⟩
/-- The box of a call. -/
theorem q_ten {i0 i1 f0 f1 f2 f3 f4 f5 f6 : Int} {f7 : Bool} {A : Option Addr} {m c : Nat} {f9 : ByteArray} {T : TypeId} (h : Q2 w0 bx (.cells #[.int .i64 i0, .int .i64 i1, .int .i64 f0, .int .i64 f1, .int .i64 f2, .int .u64 f3, .int .u64 f4, .int .u64 f5, .int .u64 f6, .bool f7, .slice A m c, .string f9] T (0, 0)) p q D l D' l' w) :
    w.cell? ⟨bx, 2, none⟩ = some (.int .i64 f0) ∧ w.cell? ⟨bx, 3, none⟩ = some (.int .i64 f1) ∧ w.cell? ⟨bx, 4, none⟩ = some (.int .i64 f2) ∧ w.cell? ⟨bx, 5, none⟩ = some (.int .u64 f3) ∧ w.cell? ⟨bx, 6, none⟩ = some (.int .u64 f4) ∧ w.cell? ⟨bx, 7, none⟩ = some (.int .u64 f5) ∧ w.cell? ⟨bx, 8, none⟩ = some (.int .u64 f6) ∧ w.cell? ⟨bx, 9, none⟩ = some (.bool f7) ∧ w.cell? ⟨bx, 10, none⟩ = some (.slice A m c) ∧ w.cell? ⟨bx, 11, none⟩ = some (.string f9) :=
  ⟨h.cell 2, h.cell 3, h.cell 4, h.cell 5, h.cell 6, h.cell 7, h.cell 8, h.cell 9, h.cell 10, h.cell 11⟩
theorem q_ne (h : Q2 w0 bx o p q D l D' l' w) : bx ≠ q := by
  obtain ⟨_, v, E, L, u, M, _, _, _, _, e4⟩ := h
  exact fun e => e4 (.inl e)
/-- One more. -/
theorem one_more {l : Nat} (h : l < 4611686018427387904) : wrap64 ((l : Int) + 1) = (l : Int) + 1 := by unfold wrap64; omega
theorem max_zero (k : Nat) : max (k : Int) 0 = (k : Int) := Int.max_eq_left (Int.natCast_nonneg k)
theorem Q2.lt (h : Q2 w0 bx o p q D l D' l' w) : bx < w.heap.size := lt_at h.1
theorem sent_le {d : Sd} (h : D.length ≤ 256) : (sent D d).length ≤ 256 := by
  unfold sent
  split
  · simp; omega
  · exact h
theorem slost_le : slost D l ≤ l + 1 := by unfold slost; split <;> omega
end
end Go.Proofs.Ytfcdaelbbcfgjaa.TwoB
