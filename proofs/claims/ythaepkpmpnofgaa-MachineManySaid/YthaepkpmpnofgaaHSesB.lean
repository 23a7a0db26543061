/- A table's bytes; what is read back from them: plain mathematics; a writer beside a world. No statement is proved here. -/
import Derived.Test.YthaepkpmpnofgaaHWtr
import Derived.Test.YthaepkpmpnofgaaHRws
set_option linter.unusedVariables false
set_option linter.unusedSimpArgs false
namespace Go.Proofs.Ythaepkpmpnofgaa.SesB
open Go.RowKit Go.Proofs.Ythaepkpmpnofgaa.Kit Go.Proofs.Ythaepkpmpnofgaa.Rdr Go.Proofs.Ythaepkpmpnofgaa.Ses Go.Proofs.Ythaepkpmpnofgaa.Rws
open Go.Proofs.Ythaepkpmpnofgaa.Num (num)
open Go.Proofs.Ythaepkpmpnofgaa.State (WV Wrote Step cell_at free_at lt_at)

def u64 (z : Int) : Nat := (z % 18446744073709551616).toNat
theorem u64_lt (z : Int) : u64 z < 18446744073709551616 := by unfold u64; omega
theorem u64_wrap (z : Int) : IntKind.u64.wrap z = (u64 z : Int) := by rw [IntKind.wrap_u64]; unfold u64; omega
theorem u64_nat {n : Nat} (h : n < 18446744073709551616) : u64 (n : Int) = n := by unfold u64; omega
theorem wrap_u (n : Nat) (h : n < 18446744073709551616) : IntKind.u64.wrap (n : Int) = (n : Int) := by rw [IntKind.wrap_u64]; omega
def rwB (r : Rw) : List UInt8 := num r.id ++ (num r.used ++ (num r.seq ++ (num (u64 r.y.err) ++ (num r.y.num ++ num r.y.ext))))
def rwsB (l : List Rw) : List UInt8 := l.flatMap rwB
def tbB (m : Tb) : List UInt8 := num m.now ++ (num m.next ++ (num m.rows.length ++ rwsB m.rows))
theorem rwsB_take {l : List Rw} {j : Nat} {r : Rw} (h : l[j]? = some r) : rwsB (l.take (j + 1)) = rwsB (l.take j) ++ rwB r := by
  obtain ⟨hj, rfl⟩ := List.getElem?_eq_some_iff.1 h
  unfold rwsB
  rw [List.take_succ_eq_append_getElem hj, List.flatMap_append, List.flatMap_singleton]
/-- A row's numbers are each one of 64 bits. -/
structure Fine (r : Rw) : Prop where
  id : U r.id
  used : U r.used
  seq : U r.seq
  num : U r.y.num
  ext : U r.y.ext
theorem rwB_le {r : Rw} (h : Fine r) : (rwB r).length ≤ 54 := by
  unfold rwB
  simp only [List.length_append]
  have h1 := num9 h.id
  have h2 := num9 h.used
  have h3 := num9 h.seq
  have h4 := num9 (u64_lt r.y.err)
  have h5 := num9 h.num
  have h6 := num9 h.ext
  omega
theorem rwsB_le : ∀ {l : List Rw}, (∀ r ∈ l, Fine r) → (rwsB l).length ≤ l.length * 54
  | [], _ => by simp [rwsB]
  | r :: l, h => by
    have h1 := rwB_le (h r (by simp))
    have h2 := rwsB_le (l := l) fun x hx => h x (by simp [hx])
    show (rwB r ++ rwsB l).length ≤ (l.length + 1) * 54
    rw [List.length_append]
    omega
theorem sane_fine {m : Tb} (h : Sane m) : ∀ r ∈ m.rows, Fine r := fun r hr => by
  obtain ⟨f1, f2, f3, f4⟩ := h.fits r hr
  have hn := h.now
  have hx := h.next
  have hi := (grows_mem h.grows r hr).2
  exact ⟨by show r.id < _; omega, by show r.used < _; omega, f3, f4.2.2.1, f4.2.2.2⟩

/-! ### A writer beside a world -/
/-- Since w0 nothing but the writer's own was written; a block g that it has not. -/
structure Wrb (w0 W : World) (q : Nat) (u0 : Option Nat) (l : List UInt8) (g : Nat) (ob : Obj) : Prop where
  ex : ∃ u, WV W q u l ∧ Step q u0 u.ownBlock w0 W ∧ u.ownBlock ≠ some g
  ne : g ≠ q
  at_ : W.heap[g]? = some ob
structure Wrq (w0 W : World) (q : Nat) (u0 : Option Nat) (l : List UInt8) : Prop where
  ex : ∃ u, WV W q u l ∧ Step q u0 u.ownBlock w0 W
section
variable {w0 W W' : World} {q g : Nat} {u0 : Option Nat} {l : List UInt8} {ob : Obj}
theorem Wrq.new {w : World} {u : Value} (h : WV w q u l) : Wrq w w q u.ownBlock l := ⟨⟨u, h, Step.refl _ _ _⟩⟩
theorem Wrq.only (h : Wrq w0 W q u0 l) : State.Only (fun k => k = q ∨ u0 = some k) w0 W := by
  obtain ⟨u, _, h2⟩ := h.ex
  exact h2.only
theorem Wrq.heap (h : Wrq w0 W q u0 l) {k : Nat} {o : Obj} (hk : w0.heap[k]? = some o) (h1 : k ≠ q) (h2 : u0 ≠ some k) : W.heap[k]? = some o :=
  (h.only.block k (lt_at hk) fun e => e.elim h1 h2).trans hk
theorem Wrq.cell (h : Wrq w0 W q u0 l) {a : Addr} {v : Value} (hc : w0.cell? a = some v) (ha : a.block < w0.heap.size) (h1 : a.block ≠ q) (h2 : u0 ≠ some a.block) : W.cell? a = some v :=
  (World.cell?_of_block (h.only.block a.block ha fun e => e.elim h1 h2)).trans hc
theorem Wrb.wrq (h : Wrb w0 W q u0 l g ob) : Wrq w0 W q u0 l := by
  obtain ⟨u, h1, h2, _⟩ := h.ex
  exact ⟨⟨u, h1, h2⟩⟩
theorem Wrq.drew (h : Wrq w0 W q u0 l) : Wrq w0 W.drew q u0 l := by
  obtain ⟨u, h1, h2⟩ := h.ex
  exact ⟨⟨u, h1.below ((Below.refl _ _).drew), h2.only.drew, h2.next⟩⟩
theorem Wrb.drew (h : Wrb w0 W q u0 l g ob) : Wrb w0 W.drew q u0 l g ob := by
  obtain ⟨u, h1, h2, h3⟩ := h.ex
  exact ⟨⟨u, h1.below ((Below.refl _ _).drew), ⟨h2.only.drew, h2.next⟩, h3⟩, h.ne, h.at_⟩
theorem Wrq.alloc (h : Wrq w0 W q u0 l) (o : Obj) : Wrb w0 (W.alloc o) q u0 l W.heap.size o := by
  obtain ⟨u, h1, h2⟩ := h.ex
  have hb : Below W.heap.size W (W.alloc o) := (Below.refl _ _).alloc (Nat.le_refl _) o
  refine ⟨⟨u, h1.below hb, h2.trans ⟨State.Only.of_below hb, .inl rfl⟩, fun e => ?_⟩, fun e => ?_, heap_alloc_new W o⟩
  · have := (h1.row _ e).2; omega
  · have := h1.lt; omega
theorem Wrb.cell (h : Wrb w0 W q u0 l g ob) {cs : Array Value} {t : TypeId} (e : ob = .cells cs t (0, 0)) (i : Nat) : W.cell? ⟨g, i, none⟩ = cs[i]? := by
  subst e
  exact cell_at h.at_ i
theorem wrq_num {l' : List UInt8} (x : Nat) (h : Wrq w0 W q u0 l) (hx : x < 18446744073709551616) (hl : l.length ≤ 140737488355000) (he : Hid (l ++ num x = l')) :
    Calls Try.prog 24 #[.pointer (some ⟨q, 0, none⟩), .int .u64 (x : Int)] W fun e W' => e = .returned (.pointer (some ⟨q, 0, none⟩)) ∧ Wrq w0 W' q u0 l' := by
  obtain ⟨u, hu, hs⟩ := h.ex
  refine (PckWalkA.num_any q u l x W hu hx hl).mono ?_
  intro e W' k
  rw [he.out] at k
  obtain ⟨rfl, v', h1, h2⟩ := k
  exact ⟨rfl, ⟨v', h1, hs.trans h2⟩⟩
theorem wrb_num {l' : List UInt8} (x : Nat) (h : Wrb w0 W q u0 l g ob) (hx : x < 18446744073709551616) (hl : l.length ≤ 140737488355000) (he : Hid (l ++ num x = l')) :
    Calls Try.prog 24 #[.pointer (some ⟨q, 0, none⟩), .int .u64 (x : Int)] W fun e W' => e = .returned (.pointer (some ⟨q, 0, none⟩)) ∧ Wrb w0 W' q u0 l' g ob := by
  obtain ⟨u, hu, hs, hn⟩ := h.ex
  refine (PckWalkA.num_any q u l x W hu hx hl).mono ?_
  intro e W' k
  rw [he.out] at k
  obtain ⟨rfl, v', h1, h2⟩ := k
  have hg := lt_at h.at_
  refine ⟨rfl, ⟨v', h1, hs.trans h2, fun e => ?_⟩, h.ne, ?_⟩
  · rcases h2.next with e1 | ⟨k, e1, hk⟩
    · exact hn (e1 ▸ e)
    · rw [e1] at e; cases e; omega
  · exact (h2.only.block g hg fun e => e.elim h.ne hn).trans h.at_
end
end Go.Proofs.Ythaepkpmpnofgaa.SesB
