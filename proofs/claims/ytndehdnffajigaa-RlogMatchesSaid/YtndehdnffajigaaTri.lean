/- Three logs in memory, and the array of their addresses; a slice of triples that came in. No statement is proved here. -/
import Derived.Test.YtndehdnffajigaaMatch
import Derived.Test.YtndehdnffajigaaOpens
import Derived.Test.YtndehdnffajigaaMade
import Derived.Test.YtndehdnffajigaaBegun
import Derived.Test.YtndehdnffajigaaArrs
set_option linter.unusedVariables false
namespace Go.Proofs.Ytndehdnffajigaa.Tri
open Go.ChangeShapes Go.WideShapes Go.WideMaps Go.Deep
open Go.RowKit Go.Proofs.Ytndehdnffajigaa.Kit Go.Proofs.Ytndehdnffajigaa.Blocks Go.Proofs.Ytndehdnffajigaa.Rlog Go.Proofs.Ytndehdnffajigaa.Ents Go.Proofs.Ytndehdnffajigaa.LogAt Go.Proofs.Ytndehdnffajigaa.WalkB Go.Proofs.Ytndehdnffajigaa.WalkD Go.Proofs.Ytndehdnffajigaa.WalkE Go.Proofs.Ytndehdnffajigaa.Match Go.Proofs.Ytndehdnffajigaa.Opens

/-- The first k of three logs; their addresses lie in block r. -/
structure Tri (B r k : Nat) (ps : Nat → Nat) (vs : Nat → Value) (gs : Nat → G) (W : World) : Prop where
  lp : ∀ a, a < k → LP B W (ps a) (vs a) (gs a)
  apart : ∀ a b, a < k → b < k → a ≠ b → ∀ q, Foot (ps a) (vs a) q → ¬ Foot (ps b) (vs b) q
  arr : ∃ cs : Array Value, W.heap[r]? = some (.cells cs 52 (0, 0)) ∧ cs.size = 3 ∧ ∀ a, a < k → cs[a]? = some (.pointer (some ⟨ps a, 0, none⟩))
  off : ∀ a, a < k → ¬ Foot (ps a) (vs a) r
  low : B ≤ r
section
variable {B r k : Nat} {ps : Nat → Nat} {vs : Nat → Value} {gs : Nat → G} {w W W' : World}
theorem Tri.lt (h : Tri B r k ps vs gs W) : r < W.heap.size := by obtain ⟨cs, hc, _⟩ := h.arr; exact lt_at hc
theorem Tri.base (h : Tri B r k ps vs gs W) : B ≤ W.heap.size := by have := h.low; have := h.lt; omega
theorem Tri.cell (h : Tri B r k ps vs gs W) {a : Nat} (ha : a < k) : W.cell? ⟨r, a, none⟩ = some (.pointer (some ⟨ps a, 0, none⟩)) := by
  obtain ⟨cs, hc, _, hv⟩ := h.arr
  rw [cell_at hc, hv a ha]
theorem Tri.below (h : Tri B r k ps vs gs W) (hb : Below W.heap.size W W') : Tri B r k ps vs gs W' := by
  obtain ⟨cs, hc, hs, hv⟩ := h.arr
  exact ⟨fun a ha => (h.lp a ha).below hb, h.apart, ⟨cs, (hb.block r (lt_at hc)).trans hc, hs, hv⟩, h.off, h.low⟩
theorem Tri.drew (h : Tri B r k ps vs gs W) : Tri B r k ps vs gs W.drew := h.below ((Below.refl _ _).drew)
/-- A call that changes one of them. -/
theorem Tri.left (h : Tri B r k ps vs gs W) {a : Nat} (ha : a < k) {g' : G} (c : LeftL 70 B W (ps a) (vs a) g' W') : (∃ vs', Tri B r k ps vs' (upd gs a g') W') ∧ Below B W W' := by
  obtain ⟨v', h', o', f'⟩ := c
  have hf : ∀ q, Foot (ps a) v' q → q < W.heap.size → Foot (ps a) (vs a) q := fun q hq hl => by
    rcases hq with rfl | hq
    · exact .inl rfl
    · rcases f' q hq with h1 | h1
      · exact .inr h1
      · omega
  refine ⟨⟨upd vs a v', ⟨fun b hb => ?_, fun b c hb hc hbc q hq hq' => ?_, ?_, fun b hb hq => ?_, h.low⟩⟩, o'.below h.base fun q hq => ((h.lp a ha).foot_lt hq).1⟩
  · by_cases hba : b = a
    · subst hba; rw [upd_eq, upd_eq]; exact h'
    · rw [upd_ne _ _ hba, upd_ne _ _ hba]; exact (h.lp b hb).keep o' fun q hq hq' => h.apart b a hb ha hba q hq hq'
  · by_cases hba : b = a
    · subst hba
      rw [upd_eq] at hq
      rw [upd_ne _ _ (Ne.symm hbc)] at hq'
      exact h.apart b c ha hc hbc q (hf q hq ((h.lp c hc).foot_lt hq').2) hq'
    · rw [upd_ne _ _ hba] at hq
      by_cases hca : c = a
      · subst hca
        rw [upd_eq] at hq'
        exact h.apart b c hb ha hbc q hq (hf q hq' ((h.lp b hb).foot_lt hq).2)
      · rw [upd_ne _ _ hca] at hq'
        exact h.apart b c hb hc hbc q hq hq'
  · obtain ⟨cs, hc, hs, hv⟩ := h.arr
    exact ⟨cs, (o'.block r (lt_at hc) (h.off a ha)).trans hc, hs, hv⟩
  · by_cases hba : b = a
    · subst hba
      rw [upd_eq] at hq
      exact h.off b ha (hf r hq h.lt)
    · rw [upd_ne _ _ hba] at hq
      exact h.off b hb hq
/-- One log more. -/
theorem Tri.more (h : Tri B r k ps vs gs W) (hk : k < 3) {w1 : World} {p : Nat} {v : Value} {g : G} (hb : Below W.heap.size W w1) (hp : LP W.heap.size w1 p v g) :
    Tri B r (k + 1) (upd ps k p) (upd vs k v) (upd gs k g) (w1.setCell ⟨r, k, none⟩ (.pointer (some ⟨p, 0, none⟩))) := by
  have h1 := h.below hb
  obtain ⟨cs, hc, hs, hv⟩ := h1.arr
  have hset : Only (fun q => q = r) w1 (w1.setCell ⟨r, k, none⟩ (.pointer (some ⟨p, 0, none⟩))) := (Only.refl (fun q => q = r) w1).setCell (a := ⟨r, k, none⟩) (.inr rfl) _
  have hne : ∀ a, a < k → ∀ q, Foot (ps a) (vs a) q → q < W.heap.size := fun a ha q hq => ((h.lp a ha).foot_lt hq).2
  have hpl : ∀ q, Foot p v q → W.heap.size ≤ q := fun q hq => (hp.foot_lt hq).1
  refine ⟨fun a ha => ?_, fun a b ha hb' hab q hq hq' => ?_, ⟨_, set_at hc _, by simp [hs], fun a ha => ?_⟩, fun a ha hq => ?_, h.low⟩
  · by_cases hak : a = k
    · subst hak; rw [upd_eq, upd_eq, upd_eq]
      exact (hp.lower h.base).keep hset fun q hq e => by have := hpl q hq; have := h.lt; omega
    · rw [upd_ne _ _ hak, upd_ne _ _ hak, upd_ne _ _ hak]
      exact (h1.lp a (by omega)).keep hset fun q hq e => h.off a (by omega) (e ▸ hq)
  · by_cases hak : a = k
    · subst hak
      rw [upd_eq, upd_eq] at hq
      rw [upd_ne _ _ (Ne.symm hab), upd_ne _ _ (Ne.symm hab)] at hq'
      have := hpl q hq
      have := hne b (by omega) q hq'
      omega
    · rw [upd_ne _ _ hak, upd_ne _ _ hak] at hq
      by_cases hbk : b = k
      · subst hbk
        rw [upd_eq, upd_eq] at hq'
        have := hpl q hq'
        have := hne a (by omega) q hq
        omega
      · rw [upd_ne _ _ hbk, upd_ne _ _ hbk] at hq'
        exact h.apart a b (by omega) (by omega) hab q hq hq'
  · by_cases hak : a = k
    · subst hak
      rw [upd_eq]
      simp [hs, hk]
    · rw [upd_ne _ _ hak]
      have := hv a (by omega)
      rw [Array.getElem?_setIfInBounds_ne (by omega)]
      exact this
  · by_cases hak : a = k
    · subst hak
      rw [upd_eq, upd_eq] at hq
      have := hpl r hq
      have := h.lt
      omega
    · rw [upd_ne _ _ hak, upd_ne _ _ hak] at hq
      exact h.off a (by omega) hq
theorem Tri.free (h : Tri B r k ps vs gs W) (a : Nat) : W.frozen? ⟨r, a, none⟩ = false := by
  obtain ⟨cs, hc, _⟩ := h.arr
  exact free_at hc a
theorem Tri.some_ (h : Tri B r k ps vs gs W) {a : Nat} (ha : a < 3) : ∃ u, W.cell? ⟨r, a, none⟩ = some u := by
  obtain ⟨cs, hc, hs, _⟩ := h.arr
  rw [cell_at hc]
  exact ⟨_, Array.getElem?_eq_getElem (by omega)⟩
theorem Tri.new (hB : B ≤ W.heap.size) (cs : Array Value) (hs : cs.size = 3) (ps : Nat → Nat) (vs : Nat → Value) (gs : Nat → G) : Tri B W.heap.size 0 ps vs gs (W.alloc (.cells cs 52)) :=
  ⟨fun a ha => absurd ha (by omega), fun a b ha => absurd ha (by omega), ⟨cs, heap_alloc_new W _, hs, fun a ha => absurd ha (by omega)⟩, fun a ha => absurd ha (by omega), hB⟩
end

/-! ### A slice of triples -/
structure Trip where
  x : Int
  y : Int
  z : Int
structure TripB (t : Trip) : Prop where
  x0 : -9223372036854775808 ≤ t.x
  x1 : t.x ≤ 9223372036854775807
  y0 : -9223372036854775808 ≤ t.y
  y1 : t.y ≤ 9223372036854775807
  z0 : -9223372036854775808 ≤ t.z
  z1 : t.z ≤ 9223372036854775807
/-- The slice holds n triples. -/
def HoldsT (w : World) (a : Option Addr) (n : Nat) : Prop :=
  ∀ k, k < n → ∃ b o t, a = some ⟨b, o, none⟩ ∧ b < w.heap.size ∧ w.cell? ⟨b, o + k * 3, none⟩ = some (.int .i64 t.x) ∧ w.cell? ⟨b, o + k * 3 + 1, none⟩ = some (.int .i64 t.y) ∧ w.cell? ⟨b, o + k * 3 + 2, none⟩ = some (.int .i64 t.z) ∧ TripB t
theorem HoldsT.at_ {w W : World} {a : Option Addr} {n : Nat} (h : HoldsT w a n) (hb : Below w.heap.size w W) {k : Nat} (hk : k < n) :
    ∃ b o t, a = some ⟨b, o, none⟩ ∧ W.cell? ⟨b, o + k * 3, none⟩ = some (.int .i64 t.x) ∧ W.cell? ⟨b, o + k * 3 + 1, none⟩ = some (.int .i64 t.y) ∧ W.cell? ⟨b, o + k * 3 + 2, none⟩ = some (.int .i64 t.z) ∧ TripB t := by
  obtain ⟨b, o, t, ha, hl, h0, h1, h2, ht⟩ := h k hk
  exact ⟨b, o, t, ha, (hb.cell (p := ⟨b, o + k * 3, none⟩) hl).trans h0, (hb.cell (p := ⟨b, o + k * 3 + 1, none⟩) hl).trans h1, (hb.cell (p := ⟨b, o + k * 3 + 2, none⟩) hl).trans h2, ht⟩
section
variable {H : Type} {enc : TypeId × Value → H} {w : World}
/-- An array of integers, of its cells. -/
theorem open_arr_cells {P : Program} {k e : TypeId} {n : Nat} {q : IntKind} {W : World} {base : Nat} {sp : Nat → Bool} {held : Bool} (A : ArrKey P k e n) (he : P.underlying e = some (.int q)) {fuel : Nat} {cs : List Value} {x : DataW H × List MemPlace} (hn : cs.length = n)
    (hf : DataW.trod enc P W base sp held fuel k cs = some x) : ∃ zs : List Int, zs.length = n ∧ cs = zs.map (Value.int q) ∧ ∀ z ∈ zs, (Lit.int q z).wf = true := by
  cases fuel with
  | zero => simp [DataW.trod] at hf
  | succ m =>
    rw [DataW.trod_step] at hf
    unfold DataW.trodStep at hf
    simp only [A.hu] at hf
    rw [if_pos (by rw [A.size]; simpa using hn)] at hf
    simp only [Option.map_eq_some_iff, A.one] at hf
    obtain ⟨ys, hy, e1⟩ := hf
    obtain ⟨zs, rfl, hl, hw⟩ := Arrs.mapM_ints he _ ys hy
    rw [← hn, Arrs.pieces] at hl
    have hcs := Arrs.ones_inj hl
    exact ⟨zs, by rw [← hn, hcs]; simp, hcs, hw⟩
theorem arr3 : ArrKey Try.prog 53 3 3 := ⟨Try.underlying53, by kernel_rfl, by kernel_rfl, by kernel_rfl⟩
set_option maxRecDepth 100000 in
theorem arg_trips {b0 : Nat} {v : Value} {d : DataW H} {p : List MemPlace} (hv : Value.okWide Try.prog w .any b0 51 v) (h : DataW.Trod enc Try.prog w 0 (fun _ => true) true 51 v d p) :
    ∃ A n c, v = .slice A n c ∧ HoldsT w A n ∧ n ≤ 9223372036854775807 := by
  obtain ⟨A, n, c, rfl⟩ := okWide_slice Try.underlying51 hv
  obtain ⟨fuel, hf⟩ := h
  rcases open_slice Try.underlying51 hf with ⟨hcs, _⟩ | ⟨a, len, cap, m, q, D, Pl, hcs, _, hl, hm, hmm, _, hi⟩
  · simp [Value.cells] at hcs
    obtain ⟨rfl, rfl, rfl⟩ := hcs
    exact ⟨_, _, _, rfl, fun k hk => absurd hk (by omega), by omega⟩
  · simp [Value.cells] at hcs
    obtain ⟨rfl, rfl, rfl⟩ := hcs
    unfold maxLen at hm
    simp only [if_true] at hmm
    refine ⟨_, _, _, rfl, fun k hk => ?_, by omega⟩
    obtain ⟨cs', h1, h2⟩ := hi k (by omega)
    rw [show Try.prog.cellsOf 53 = 3 by kernel_rfl] at h1
    obtain ⟨_, hlen, hcell⟩ := World.cells?_some h1
    obtain ⟨zs, hzl, rfl, hw⟩ := open_arr_cells arr3 Try.underlying3 hlen h2
    match zs, hzl with
    | [z0, z1, z2], _ =>
      have g0 := hcell 0 (by decide)
      have g1 := hcell 1 (by decide)
      have g2 := hcell 2 (by decide)
      rw [Go.Deep.add_add] at g0 g1 g2
      have hsp : a.spot = none := by
        obtain ⟨cs0, k1, k2⟩ := hi 0 (by omega)
        rw [show Try.prog.cellsOf 53 = 3 by kernel_rfl] at k1
        obtain ⟨_, hlen0, hcell0⟩ := World.cells?_some k1
        have j0 := hcell0 0 (by decide)
        rw [Nat.zero_mul, Kit.add_zero, Kit.add_zero, List.getElem?_eq_getElem (by omega)] at j0
        exact World.cell?_spot j0
      obtain ⟨b, o, s⟩ := a
      simp only at hsp
      subst hsp
      have hadd : ∀ i, (⟨b, o, none⟩ : Addr).add i = ⟨b, o + i, none⟩ := fun i => add_lit ⟨b, o, none⟩ rfl i
      rw [hadd] at g0 g1 g2
      have w0 := i64_wf (hw z0 (by simp))
      have w1 := i64_wf (hw z1 (by simp))
      have w2 := i64_wf (hw z2 (by simp))
      exact ⟨b, o, ⟨z0, z1, z2⟩, rfl, World.block_lt_of_cell? w (⟨b, o + (k * 3 + 0), none⟩ : Addr) g0, g0, g1, g2, ⟨w0.1, w0.2, w1.1, w1.2, w2.1, w2.2⟩⟩
end
end Go.Proofs.Ytndehdnffajigaa.Tri
