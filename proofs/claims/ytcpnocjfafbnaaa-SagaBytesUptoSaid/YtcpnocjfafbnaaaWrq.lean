/- A writer beside a world: since w0 nothing but the writer's own was written. No statement is proved here. -/
import Derived.Test.YtcpnocjfafbnaaaWtr
set_option linter.unusedVariables false
set_option linter.unusedSimpArgs false
namespace Go.Proofs.Ytcpnocjfafbnaaa.Wrq
open Go.RowKit Go.Proofs.Ytcpnocjfafbnaaa.Kit Go.Proofs.Ytcpnocjfafbnaaa.Rdr
open Go.Proofs.Ytcpnocjfafbnaaa.Num (num)
open Go.Proofs.Ytcpnocjfafbnaaa.State (WV Wrote Step cell_at free_at lt_at)

/-! ### A writer beside a world -/
/-- Since w0 nothing but the writer's own was written; a block g that it has not. -/
structure Wrb (w0 W : World) (q : Nat) (u0 : Option Nat) (l : List UInt8) (g : Nat) (ob : Obj) : Prop where
  ex : ∃ u, WV W q u l ∧ Step q u0 u.ownBlock w0 W ∧ u.ownBlock ≠ some g
  ne : g ≠ q
  at_ : W.heap[g]? = some ob
structure Wrq (w0 W : World) (q : Nat) (u0 : Option Nat) (l : List UInt8) : Prop where
  ex : ∃ u, WV W q u l ∧ Step q u0 u.ownBlock w0 W
section
variable {w0 W W' : World} {q g : Nat} {u0 : Option Nat} {l : List UInt8} {ob : Obj}
theorem Wrq.new {w : World} {u : Value} (h : WV w q u l) : Wrq w w q u.ownBlock l := ⟨⟨u, h, Step.refl _ _ _⟩⟩
theorem Wrq.only (h : Wrq w0 W q u0 l) : State.Only (fun k => k = q ∨ u0 = some k) w0 W := by
  obtain ⟨u, _, h2⟩ := h.ex
  exact h2.only
theorem Wrq.heap (h : Wrq w0 W q u0 l) {k : Nat} {o : Obj} (hk : w0.heap[k]? = some o) (h1 : k ≠ q) (h2 : u0 ≠ some k) : W.heap[k]? = some o :=
  (h.only.block k (lt_at hk) fun e => e.elim h1 h2).trans hk
theorem Wrq.cell (h : Wrq w0 W q u0 l) {a : Addr} {v : Value} (hc : w0.cell? a = some v) (ha : a.block < w0.heap.size) (h1 : a.block ≠ q) (h2 : u0 ≠ some a.block) : W.cell? a = some v :=
  (World.cell?_of_block (h.only.block a.block ha fun e => e.elim h1 h2)).trans hc
theorem Wrb.wrq (h : Wrb w0 W q u0 l g ob) : Wrq w0 W q u0 l := by
  obtain ⟨u, h1, h2, _⟩ := h.ex
  exact ⟨⟨u, h1, h2⟩⟩
theorem Wrq.drew (h : Wrq w0 W q u0 l) : Wrq w0 W.drew q u0 l := by
  obtain ⟨u, h1, h2⟩ := h.ex
  exact ⟨⟨u, h1.below ((Below.refl _ _).drew), h2.only.drew, h2.next⟩⟩
theorem Wrb.drew (h : Wrb w0 W q u0 l g ob) : Wrb w0 W.drew q u0 l g ob := by
  obtain ⟨u, h1, h2, h3⟩ := h.ex
  exact ⟨⟨u, h1.below ((Below.refl _ _).drew), ⟨h2.only.drew, h2.next⟩, h3⟩, h.ne, h.at_⟩
theorem Wrq.alloc (h : Wrq w0 W q u0 l) (o : Obj) : Wrb w0 (W.alloc o) q u0 l W.heap.size o := by
  obtain ⟨u, h1, h2⟩ := h.ex
  have hb : Below W.heap.size W (W.alloc o) := (Below.refl _ _).alloc (Nat.le_refl _) o
  refine ⟨⟨u, h1.below hb, h2.trans ⟨State.Only.of_below hb, .inl rfl⟩, fun e => ?_⟩, fun e => ?_, heap_alloc_new W o⟩
  · have := (h1.row _ e).2; omega
  · have := h1.lt; omega
theorem Wrb.cell (h : Wrb w0 W q u0 l g ob) {cs : Array Value} {t : TypeId} (e : ob = .cells cs t (0, 0)) (i : Nat) : W.cell? ⟨g, i, none⟩ = cs[i]? := by
  subst e
  exact cell_at h.at_ i
theorem wrq_num {l' : List UInt8} (x : Nat) (h : Wrq w0 W q u0 l) (hx : x < 18446744073709551616) (hl : l.length ≤ 140737488355000) (he : Hid (l ++ num x = l')) :
    Calls Try.prog 38 #[.pointer (some ⟨q, 0, none⟩), .int .u64 (x : Int)] W fun e W' => e = .returned (.pointer (some ⟨q, 0, none⟩)) ∧ Wrq w0 W' q u0 l' := by
  obtain ⟨u, hu, hs⟩ := h.ex
  refine (PckWalkA.num_any q u l x W hu hx hl).mono ?_
  intro e W' k
  rw [he.out] at k
  obtain ⟨rfl, v', h1, h2⟩ := k
  exact ⟨rfl, ⟨v', h1, hs.trans h2⟩⟩
theorem wrb_num {l' : List UInt8} (x : Nat) (h : Wrb w0 W q u0 l g ob) (hx : x < 18446744073709551616) (hl : l.length ≤ 140737488355000) (he : Hid (l ++ num x = l')) :
    Calls Try.prog 38 #[.pointer (some ⟨q, 0, none⟩), .int .u64 (x : Int)] W fun e W' => e = .returned (.pointer (some ⟨q, 0, none⟩)) ∧ Wrb w0 W' q u0 l' g ob := by
  obtain ⟨u, hu, hs, hn⟩ := h.ex
  refine (PckWalkA.num_any q u l x W hu hx hl).mono ?_
  intro e W' k
  rw [he.out] at k
  obtain ⟨rfl, v', h1, h2⟩ := k
  have hg := lt_at h.at_
  refine ⟨rfl, ⟨v', h1, hs.trans h2, fun e => ?_⟩, h.ne, ?_⟩
  · rcases h2.next with e1 | ⟨k, e1, hk⟩
    · exact hn (e1 ▸ e)
    · rw [e1] at e; cases e; omega
  · exact (h2.only.block g hg fun e => e.elim h.ne hn).trans h.at_
end
section
variable {w0 W W' : World} {q g : Nat} {u0 : Option Nat} {l : List UInt8} {ob : Obj}
theorem wrb_text {l' : List UInt8} (s : ByteArray) (h : Wrb w0 W q u0 l g ob) (hl : l.length + s.size ≤ 140737488355000) (he : Hid (l ++ PckWalkB.text s = l')) :
    Calls Try.prog 46 #[.pointer (some ⟨q, 0, none⟩), .string s] W fun e W' => e = .returned (.pointer (some ⟨q, 0, none⟩)) ∧ Wrb w0 W' q u0 l' g ob := by
  obtain ⟨u, hu, hs, hn⟩ := h.ex
  refine (PckWalkB.text_any q u l s W hu hl).mono ?_
  intro e W' k
  rw [he.out] at k
  obtain ⟨rfl, v', h1, h2⟩ := k
  have hg := lt_at h.at_
  refine ⟨rfl, ⟨v', h1, hs.trans h2, fun e => ?_⟩, h.ne, ?_⟩
  · rcases h2.next with e1 | ⟨k, e1, hk⟩
    · exact hn (e1 ▸ e)
    · rw [e1] at e; cases e; omega
  · exact (h2.only.block g hg fun e => e.elim h.ne hn).trans h.at_
end
end Go.Proofs.Ytcpnocjfafbnaaa.Wrq
