/- A writer beside one block that stays: what each call leaves; how long a letter's bytes are. No statement is proved here. -/
import Derived.Test.YtkimeggojcgacaaWr
set_option linter.unusedVariables false
set_option linter.unusedSimpArgs false
namespace Go.Proofs.Ytkimeggojcgacaa.Wrk
open Go.RowKit Go.Proofs.Ytkimeggojcgacaa.Kit Go.Proofs.Ytkimeggojcgacaa.Ltr Go.Proofs.Ytkimeggojcgacaa.Lmt Go.Proofs.Ytkimeggojcgacaa.Wr
open Go.Proofs.Ytkimeggojcgacaa.Num (num num_length wide_le8)
open Go.Proofs.Ytkimeggojcgacaa.State (WV RV cell_at free_at set_at lt_at)
open Go.Proofs.Ytkimeggojcgacaa.PckWalkB (text bit)
open Go.Proofs.Ytkimeggojcgacaa.PckWalkH (str)

/-- A writer that came behind a world, and a block g that it has not. -/
structure Wrk (w0 W : World) (p : Nat) (l : List UInt8) (g : Nat) (ob : Obj) : Prop where
  ex : ∃ v, WV W p v l ∧ v.ownBlock ≠ some g
  ne : g ≠ p
  at_ : W.heap[g]? = some ob
  low : w0.heap.size ≤ p
  bel : Below w0.heap.size w0 W
section
variable {w0 W W' : World} {p g : Nat} {ob : Obj} {l : List UInt8}
theorem Wrk.wrt (h : Wrk w0 W p l g ob) : Wrt w0 W p l := by
  obtain ⟨v, hv, _⟩ := h.ex
  exact ⟨⟨v, hv⟩, h.low, h.bel⟩
theorem wrk_new {w : World} (h : Wrt w0 w p l) (o : Obj) : Wrk w0 (w.alloc o) p l w.heap.size o := by
  have ha := h.alloc o
  obtain ⟨v, hv⟩ := h.ex
  have hb : Below w.heap.size w (w.alloc o) := (Below.refl _ _).alloc (Nat.le_refl _) o
  refine ⟨⟨v, hv.below hb, fun e => ?_⟩, fun e => ?_, heap_alloc_new w o, ha.low, ha.bel⟩
  · have := (hv.row _ e).2
    omega
  · have := hv.lt
    omega
theorem Wrk.drew (h : Wrk w0 W p l g ob) : Wrk w0 W.drew p l g ob := by
  obtain ⟨v, hv, hn⟩ := h.ex
  exact ⟨⟨v, hv.below ((Below.refl _ _).drew), hn⟩, h.ne, h.at_, h.low, h.bel.drew⟩
theorem Wrk.cell {cs : Array Value} {t : TypeId} (h : Wrk w0 W p l g (.cells cs t (0, 0))) (i : Nat) : W.cell? ⟨g, i, none⟩ = cs[i]? := cell_at h.at_ i
theorem Wrk.next (h : Wrk w0 W p l g ob) {l' : List UInt8} {v : Value} (hv : WV W p v l) (hn : v.ownBlock ≠ some g) {e : Ending} (k : State.Wrote p v.ownBlock l' W e W') : e = .returned (.pointer (some ⟨p, 0, none⟩)) ∧ Wrk w0 W' p l' g ob := by
  have hw := h.wrt.next hv k
  obtain ⟨rfl, v', h1, h2⟩ := k
  have hg := lt_at h.at_
  refine ⟨rfl, ⟨v', h1, fun e => ?_⟩, h.ne, ?_, h.low, hw.2.bel⟩
  · rcases h2.next with e1 | ⟨q, e1, hq⟩
    · exact hn (e1 ▸ e)
    · rw [e1] at e
      cases e
      omega
  · have hk : ¬ (g = p ∨ v.ownBlock = some g) := fun e => by
      rcases e with e | e
      · exact h.ne e
      · exact hn e
    exact (h2.only.block g hg hk).trans h.at_
theorem wrk_num {l' : List UInt8} (x : Nat) (h : Wrk w0 W p l g ob) (hx : x < 18446744073709551616) (hl : l.length ≤ 140737488355000) (he : Hid (l ++ num x = l')) :
    Calls Try.prog 15 #[.pointer (some ⟨p, 0, none⟩), .int .u64 (x : Int)] W fun e W' => e = .returned (.pointer (some ⟨p, 0, none⟩)) ∧ Wrk w0 W' p l' g ob := by
  obtain ⟨v, hv, hn⟩ := h.ex
  refine (PckWalkA.num_any p v l x W hv hx hl).mono ?_
  intro e W' k
  rw [he.out] at k
  exact h.next hv hn k
theorem wrk_text {l' : List UInt8} (s : ByteArray) (h : Wrk w0 W p l g ob) (hl : l.length + s.size ≤ 140737488355000) (he : Hid (l ++ text s = l')) :
    Calls Try.prog 17 #[.pointer (some ⟨p, 0, none⟩), .string s] W fun e W' => e = .returned (.pointer (some ⟨p, 0, none⟩)) ∧ Wrk w0 W' p l' g ob := by
  obtain ⟨v, hv, hn⟩ := h.ex
  refine (PckWalkB.text_any p v l s W hv hl).mono ?_
  intro e W' k
  rw [he.out] at k
  exact h.next hv hn k
end

/-! ### Lengths -/
theorem num9 {x : Nat} (h : x < 18446744073709551616) : (num x).length ≤ 9 := by rw [num_length]; have := wide_le8 h; omega
theorem text_length (s : ByteArray) (h : s.size < 18446744073709551616) : (text s).length ≤ s.size + 9 := by
  have := num9 h
  unfold text
  rw [List.length_append, ← Lib.size_eq]
  omega
theorem entB_le {e : Ent} (h : EIn e) (m : EMay e) : (entB e).length ≤ 65572 := by
  obtain ⟨t0, t1, i0, i1⟩ := h
  obtain ⟨k0, k1, hd⟩ := m
  have h1 := num9 (x := e.term.toNat) (by omega)
  have h2 := num9 (x := e.idx.toNat) (by omega)
  have h3 := num9 (x := e.kind.toNat) (by omega)
  have h4 := text_length e.data (by omega)
  unfold entB
  simp only [List.length_append]
  omega
theorem entsB_le (l : List Ent) (h : ∀ e ∈ l, EIn e ∧ EMay e) : (entsB l).length ≤ l.length * 65572 := by
  induction l with
  | nil => simp [entsB]
  | cons e l ih =>
    have h1 := ih fun x hx => h x (List.mem_cons_of_mem _ hx)
    have h2 := entB_le (h e List.mem_cons_self).1 (h e List.mem_cons_self).2
    have e0 : entsB (e :: l) = entB e ++ entsB l := by simp [entsB]
    rw [e0, List.length_append, List.length_cons]
    omega
theorem entsB_take {l : List Ent} {j : Nat} {e : Ent} (he : l[j]? = some e) : entsB (l.take (j + 1)) = entsB (l.take j) ++ entB e := by
  obtain ⟨hj, rfl⟩ := List.getElem?_eq_some_iff.1 he
  unfold entsB
  rw [List.take_succ_eq_append_getElem hj, List.flatMap_append, List.flatMap_cons, List.flatMap_nil, List.append_nil]
theorem headB_le {h : Hd} {n : Nat} (hin : HIn h) (lim : 0 ≤ h.k ∧ h.k ≤ 9 ∧ 0 ≤ h.f ∧ h.f ≤ 255 ∧ 0 ≤ h.t ∧ h.t ≤ 255) (hn : n ≤ 8) : (headB h n).length ≤ 81 := by
  obtain ⟨tm0, tm1, ix0, ix1, pv0, pv1, cm0, cm1⟩ := hin
  have h1 := num9 (x := h.k.toNat) (by omega)
  have h2 := num9 (x := h.f.toNat) (by omega)
  have h3 := num9 (x := h.t.toNat) (by omega)
  have h4 := num9 (x := h.tm.toNat) (by omega)
  have h5 := num9 (x := h.ix.toNat) (by omega)
  have h6 := num9 (x := h.pv.toNat) (by omega)
  have h7 := num9 (x := h.cm.toNat) (by omega)
  have h8 := num9 (bit_lt h.ok)
  have h9 := num9 (x := n) (by omega)
  unfold headB
  simp only [List.length_append]
  omega
theorem lmtB_le {h : Hd} {l : List Ent} (hin : HIn h) (ein : ∀ e ∈ l, EIn e) (m : Lim h l) : (lmtB h l).length ≤ 600000 := by
  have h1 := headB_le hin ⟨m.k0, m.k1, m.f0, m.f1, m.t0, m.t1⟩ m.n
  have h2 := entsB_le l fun e he => ⟨ein e he, m.e e he⟩
  have h3 := text_length h.d (by have := m.d; omega)
  have h4 := m.n
  have h5 := m.d
  unfold lmtB
  simp only [List.length_append]
  omega
end Go.Proofs.Ytkimeggojcgacaa.Wrk
