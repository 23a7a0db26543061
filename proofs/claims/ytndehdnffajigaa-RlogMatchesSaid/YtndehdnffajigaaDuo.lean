/- A log of the program's and one of the document's beside each other, and a call that came in; what a call on either leaves. No statement is proved here. -/
import Derived.Test.YtndehdnffajigaaRefI
import Derived.Test.YtndehdnffajigaaCals
set_option linter.unusedVariables false
namespace Go.Proofs.Ytndehdnffajigaa.Duos
open Go.RowKit Go.Proofs.Ytndehdnffajigaa.Kit Go.Proofs.Ytndehdnffajigaa.Blocks Go.Proofs.Ytndehdnffajigaa.Rlog Go.Proofs.Ytndehdnffajigaa.Ents Go.Proofs.Ytndehdnffajigaa.LogAt Go.Proofs.Ytndehdnffajigaa.WalkB Go.Proofs.Ytndehdnffajigaa.WalkC Go.Proofs.Ytndehdnffajigaa.WalkD Go.Proofs.Ytndehdnffajigaa.WalkE Go.Proofs.Ytndehdnffajigaa.WalkF Go.Proofs.Ytndehdnffajigaa.WalkG Go.Proofs.Ytndehdnffajigaa.WalkH Go.Proofs.Ytndehdnffajigaa.WalkI Go.Proofs.Ytndehdnffajigaa.WalkK Go.Proofs.Ytndehdnffajigaa.RefB Go.Proofs.Ytndehdnffajigaa.Cals

/-- The program's log at p is g1, the document's at q is g2; neither lies in a block of R. -/
structure DX (R : Nat → Prop) (B p : Nat) (v : Value) (q : Nat) (u : Value) (g1 g2 : G) (W : World) : Prop where
  a : LP B W p v g1
  b : LR B W q u g2
  c : ∀ k, Foot p v k → ¬ Foot q u k
  d : ∀ r, R r → r < W.heap.size ∧ ¬ Foot p v r ∧ ¬ Foot q u r
structure Duo (R : Nat → Prop) (B p q : Nat) (g1 g2 : G) (W : World) : Prop where
  ex : ∃ v u, DX R B p v q u g1 g2 W
/-- What lies below B, or in a block of R, is as it was. -/
structure Kept (R : Nat → Prop) (B : Nat) (w W : World) : Prop where
  since : Below B w W
  block : ∀ r, R r → W.heap[r]? = w.heap[r]?
section
variable {R S : Nat → Prop} {B p q : Nat} {g1 g2 g1' g2' : G} {w W W' : World}
theorem Kept.refl (R : Nat → Prop) (B : Nat) (w : World) : Kept R B w w := ⟨Below.refl _ _, fun _ _ => rfl⟩
theorem Kept.trans (h : Kept R B w W) (k : Kept R B W W') : Kept R B w W' := ⟨h.since.trans k.since, fun r hr => (k.block r hr).trans (h.block r hr)⟩
theorem Kept.less (h : Kept R B w W) (hs : ∀ r, S r → R r) : Kept S B w W := ⟨h.since, fun r hr => h.block r (hs r hr)⟩
theorem Kept.of_below (hs : ∀ r, R r → r < w.heap.size) (hB : B ≤ w.heap.size) (k : Below w.heap.size w W) : Kept R B w W := ⟨k.mono hB, fun r hr => k.block r (hs r hr)⟩
theorem Duo.less (h : Duo R B p q g1 g2 W) (hs : ∀ r, S r → R r) : Duo S B p q g1 g2 W := by
  obtain ⟨v, u, ⟨a, b, c, d⟩⟩ := h.ex
  exact ⟨v, u, ⟨a, b, c, fun r hr => d r (hs r hr)⟩⟩
theorem Duo.base (h : Duo R B p q g1 g2 W) : B ≤ W.heap.size := by
  obtain ⟨v, u, ⟨a, _, _, _⟩⟩ := h.ex
  exact a.base
theorem Duo.old (h : Duo R B p q g1 g2 W) {r : Nat} (hr : R r) : r < W.heap.size := by
  obtain ⟨v, u, ⟨_, _, _, d⟩⟩ := h.ex
  exact (d r hr).1
theorem Duo.below (h : Duo R B p q g1 g2 W) (k : Below W.heap.size W W') : Duo R B p q g1 g2 W' ∧ Kept R B W W' := by
  have hk := Kept.of_below (R := R) (fun r hr => h.old hr) h.base k
  obtain ⟨v, u, ⟨a, b, c, d⟩⟩ := h.ex
  exact ⟨⟨v, u, ⟨a.below k, b.below k, c, fun r hr => ⟨Nat.lt_of_lt_of_le (d r hr).1 k.size, (d r hr).2⟩⟩⟩, hk⟩
theorem Duo.alloc (h : Duo R B p q g1 g2 W) (o : Obj) : Duo (fun r => R r ∨ r = W.heap.size) B p q g1 g2 (W.alloc o) ∧ Kept R B W (W.alloc o) := by
  have hb : Below W.heap.size W (W.alloc o) := (Below.refl _ _).alloc (Nat.le_refl _) _
  obtain ⟨hd, hk⟩ := h.below hb
  obtain ⟨v, u, ⟨a, b, c, d⟩⟩ := h.ex
  refine ⟨⟨v, u, ⟨a.below hb, b.below hb, c, fun r hr => ?_⟩⟩, hk⟩
  rcases hr with hr | rfl
  · exact ⟨by have := (d r hr).1; simp; omega, (d r hr).2⟩
  · exact ⟨by simp, fun e => by have := (a.foot_lt e).2; omega, fun e => by have := (b.foot_lt e).2; omega⟩
theorem DX.left {v u : Value} (h : DX R B p v q u g1 g2 W) (k : LeftL 70 B W p v g1' W') : ∃ v', DX R B p v' q u g1' g2 W' ∧ Kept R B W W' ∧ Only (Foot p v) W W' := by
  obtain ⟨a, b, c, d⟩ := h
  obtain ⟨v', h', o', f'⟩ := k
  have hf : ∀ k, Foot p v' k → k < W.heap.size → Foot p v k := fun k hk hl => by
    rcases hk with rfl | hk
    · exact .inl rfl
    · rcases f' k hk with h1 | h1
      · exact .inr h1
      · omega
  exact ⟨v', ⟨h', b.keep o' (fun k hk hk' => c k hk' hk), fun k hk hk' => c k (hf k hk (b.foot_lt hk').2) hk', fun r hr => ⟨Nat.lt_of_lt_of_le (d r hr).1 o'.size, fun e => (d r hr).2.1 (hf r e (d r hr).1), (d r hr).2.2⟩⟩,
    ⟨o'.below a.base fun k hk => (a.foot_lt hk).1, fun r hr => o'.block r (d r hr).1 (d r hr).2.1⟩, o'⟩
theorem DX.right {v u : Value} (h : DX R B p v q u g1 g2 W) (k : LeftL 73 B W q u g2' W') : ∃ u', DX R B p v q u' g1 g2' W' ∧ Kept R B W W' ∧ Only (Foot q u) W W' := by
  obtain ⟨a, b, c, d⟩ := h
  obtain ⟨u', h', o', f'⟩ := k
  have hf : ∀ k, Foot q u' k → k < W.heap.size → Foot q u k := fun k hk hl => by
    rcases hk with rfl | hk
    · exact .inl rfl
    · rcases f' k hk with h1 | h1
      · exact .inr h1
      · omega
  exact ⟨u', ⟨a.keep o' (fun k hk hk' => c k hk hk'), h', fun k hk hk' => c k hk (hf k hk' (a.foot_lt hk).2), fun r hr => ⟨Nat.lt_of_lt_of_le (d r hr).1 o'.size, (d r hr).2.1, fun e => (d r hr).2.2 (hf r e (d r hr).1)⟩⟩,
    ⟨o'.below b.base fun k hk => (b.foot_lt hk).1, fun r hr => o'.block r (d r hr).1 (d r hr).2.2⟩, o'⟩
/-- A call on the program's log. -/
theorem Duo.pcall {F : FuncId} {args : Array Value} {Post : Ending → World → Prop} (h : Duo R B p q g1 g2 W) (hc : ∀ v, LP B W p v g1 → Calls Try.prog F args W fun e W' => Post e W' ∧ LeftL 70 B W p v g1' W') :
    Calls Try.prog F args W fun e W' => Post e W' ∧ Duo R B p q g1' g2 W' ∧ Kept R B W W' := by
  obtain ⟨v, u, h⟩ := h.ex
  refine (hc v h.a).mono ?_
  rintro e W' ⟨he, hl⟩
  obtain ⟨v', h', k', _⟩ := h.left hl
  exact ⟨he, ⟨v', u, h'⟩, k'⟩
/-- A call on the document's log. -/
theorem Duo.qcall {F : FuncId} {args : Array Value} {Post : Ending → World → Prop} (h : Duo R B p q g1 g2 W) (hc : ∀ u, LR B W q u g2 → Calls Try.prog F args W fun e W' => Post e W' ∧ LeftL 73 B W q u g2' W') :
    Calls Try.prog F args W fun e W' => Post e W' ∧ Duo R B p q g1 g2' W' ∧ Kept R B W W' := by
  obtain ⟨v, u, h⟩ := h.ex
  refine (hc u h.b).mono ?_
  rintro e W' ⟨he, hl⟩
  obtain ⟨u', h', k', _⟩ := h.right hl
  exact ⟨he, ⟨v, u', h'⟩, k'⟩
end

/-- Both logs, and a call's box. -/
structure PS (R : Nat → Prop) (B p q : Nat) (g1 g2 : G) (r : Nat) (x : Cal) (w W : World) : Prop where
  duo : Duo (fun k => R k ∨ k = r) B p q g1 g2 W
  box : W.heap[r]? = some (.cells (callCs x).toArray 37 (0, 0))
  kept : Kept R B w W
section
variable {R : Nat → Prop} {B p q r : Nat} {g1 g2 g1' g2' : G} {x : Cal} {w W W' : World}
theorem PS.new (h : Duo R B p q g1 g2 w) (x : Cal) : PS R B p q g1 g2 w.heap.size x w (w.alloc (.cells (callCs x).toArray 37)) :=
  ⟨(h.alloc _).1, heap_alloc_new w _, (h.alloc _).2⟩
theorem PS.next (h : PS R B p q g1 g2 r x w W) (d : Duo (fun k => R k ∨ k = r) B p q g1' g2' W') (k : Kept (fun k => R k ∨ k = r) B W W') : PS R B p q g1' g2' r x w W' :=
  ⟨d, (k.block r (.inr rfl)).trans h.box, h.kept.trans (k.less fun _ h => .inl h)⟩
theorem PS.below (h : PS R B p q g1 g2 r x w W) (k : Below W.heap.size W W') : PS R B p q g1 g2 r x w W' := h.next (h.duo.below k).1 (h.duo.below k).2
theorem PS.drew (h : PS R B p q g1 g2 r x w W) : PS R B p q g1 g2 r x w W.drew := h.below ((Below.refl _ _).drew)
theorem PS.lt (h : PS R B p q g1 g2 r x w W) : r < W.heap.size := lt_at h.box
theorem PS.c0 (h : PS R B p q g1 g2 r x w W) : W.cell? ⟨r, 0, none⟩ = some (.int .i64 x.kind) := by rw [cell_at h.box]; rfl
theorem PS.c1 (h : PS R B p q g1 g2 r x w W) : W.cell? ⟨r, 1, none⟩ = some (.int .u64 (x.idx : Int)) := by rw [cell_at h.box]; rfl
theorem PS.c2 (h : PS R B p q g1 g2 r x w W) : W.cell? ⟨r, 2, none⟩ = some (.int .u64 (x.term : Int)) := by rw [cell_at h.box]; rfl
theorem PS.c3 (h : PS R B p q g1 g2 r x w W) : W.cell? ⟨r, 3, none⟩ = some (.int .i64 x.what) := by rw [cell_at h.box]; rfl
theorem PS.c4 (h : PS R B p q g1 g2 r x w W) : W.cell? ⟨r, 4, none⟩ = some (.string x.data) := by rw [cell_at h.box]; rfl
theorem PS.c5 (h : PS R B p q g1 g2 r x w W) : W.cell? ⟨r, 5, none⟩ = some (.slice x.A x.n x.c) := by rw [cell_at h.box]; rfl
theorem PS.c6 (h : PS R B p q g1 g2 r x w W) : W.cell? ⟨r, 6, none⟩ = some (.int .u64 (x.snap.idx : Int)) := by rw [cell_at h.box]; rfl
theorem PS.c7 (h : PS R B p q g1 g2 r x w W) : W.cell? ⟨r, 7, none⟩ = some (.int .u64 (x.snap.term : Int)) := by rw [cell_at h.box]; rfl
theorem PS.c8 (h : PS R B p q g1 g2 r x w W) : W.cell? ⟨r, 8, none⟩ = some (.int .u64 (x.snap.cfg : Int)) := by rw [cell_at h.box]; rfl
theorem PS.c9 (h : PS R B p q g1 g2 r x w W) : W.cell? ⟨r, 9, none⟩ = some (.string x.snap.data) := by rw [cell_at h.box]; rfl
theorem PS.pcall {F : FuncId} {args : Array Value} {Post : Ending → World → Prop} (h : PS R B p q g1 g2 r x w W) (hc : ∀ v, LP B W p v g1 → Calls Try.prog F args W fun e W' => Post e W' ∧ LeftL 70 B W p v g1' W') :
    Calls Try.prog F args W fun e W' => Post e W' ∧ PS R B p q g1' g2 r x w W' :=
  (h.duo.pcall hc).mono fun e W' ⟨he, hd, hk⟩ => ⟨he, h.next hd hk⟩
theorem PS.qcall {F : FuncId} {args : Array Value} {Post : Ending → World → Prop} (h : PS R B p q g1 g2 r x w W) (hc : ∀ u, LR B W q u g2 → Calls Try.prog F args W fun e W' => Post e W' ∧ LeftL 73 B W q u g2' W') :
    Calls Try.prog F args W fun e W' => Post e W' ∧ PS R B p q g1 g2' r x w W' :=
  (h.duo.qcall hc).mono fun e W' ⟨he, hd, hk⟩ => ⟨he, h.next hd hk⟩
end

/-! ### What a call does to a log -/
def act (g : G) (x : Cal) : G :=
  if x.kind = 0 then (add g x.term x.what x.data).2
  else if x.kind = 1 then (merge g x.idx x.term x.l).2
  else if x.kind = 2 then cut g x.idx
  else if x.kind = 3 then (compact g x.idx x.data).2
  else if x.kind = 4 then (install g x.snap).2
  else g
theorem fine_act {g : G} (f : Fine g) {w : World} {B : Nat} {x : Cal} (h : CalB w B x) : Fine (act g x) := by
  unfold act
  split
  · exact fine_add f _ _ _ h.term h.w0 h.w1 h.data
  split
  · exact fine_merge f h.ents
  split
  · exact fine_cut f _
  split
  · exact fine_compact f _ _
  split
  · exact fine_install f h.snap
  · exact f
/-- What a call of both logs leaves. -/
def Acted (R : Nat → Prop) (B p q : Nat) (g' : G) (w : World) (e : Ending) (W : World) : Prop := e = .returned (.bool true) ∧ Duo R B p q g' g' W ∧ Kept R B w W
theorem PS.acted {R : Nat → Prop} {B p q r : Nat} {g' : G} {x : Cal} {w W : World} (h : PS R B p q g' g' r x w W) : Duo R B p q g' g' W ∧ Kept R B w W := ⟨h.duo.less fun _ h => .inl h, h.kept⟩
end Go.Proofs.Ytndehdnffajigaa.Duos
