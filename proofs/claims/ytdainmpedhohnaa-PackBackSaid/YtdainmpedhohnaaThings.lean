/- How an argument that is a slice of things is opened: a number of a kind, a number, a text each. No statement is proved here. -/
import Derived.Test.YtdainmpedhohnaaReads
import Derived.Test.YtdainmpedhohnaaFrame
import Derived.Deep.Slices
import Derived.Deep.Strs
namespace Go.Proofs.Ytdainmpedhohnaa.Things
open Go.ChangeShapes Go.WideShapes Go.RowKit Go.Deep Go.Proofs.Ytdainmpedhohnaa.Kit

structure Thing where
  kind : Int
  num : Nat
  text : ByteArray

/-- The slice with address a and n elements holds these things. -/
def Things (w : World) (a : Option Addr) (n : Nat) (L : List Thing) : Prop :=
  L.length = n ∧ ∀ k (hk : k < L.length), ∃ b o, a = some ⟨b, o, none⟩ ∧ b < w.heap.size ∧ w.cell? ⟨b, o + k * 3, none⟩ = some (.int .i64 L[k].kind) ∧ w.cell? ⟨b, o + k * 3 + 1, none⟩ = some (.int .u64 L[k].num) ∧
    w.cell? ⟨b, o + k * 3 + 2, none⟩ = some (.string L[k].text) ∧ -9223372036854775808 ≤ L[k].kind ∧ L[k].kind ≤ 9223372036854775807 ∧ L[k].num < 18446744073709551616 ∧ L[k].text.size ≤ 9223372036854775807

theorem add_lit3 (a : Addr) (h : a = ⟨a.block, a.off, none⟩) (i : Nat) : a.add i = ⟨a.block, a.off + i, none⟩ := by
  rw [h]
  unfold Addr.add
  split
  · rename_i e; subst e; rfl
  · rfl

section
variable {H : Type} {enc : TypeId × Value → H} {P : Program} {w : World}
theorem open_things {t e : TypeId} {f0 f1 f2 : Field} {fuel len cap : Nat} {a0 : Option Addr} {x : DataW H × List MemPlace} (ht : P.underlying t = some (.slice e)) (he : P.underlying e = some (.struct #[f0, f1, f2]))
    (ce : P.cellsOf e = 3) (o0 : f0.offset = 0) (o1 : f1.offset = 1) (o2 : f2.offset = 2) (c0 : P.cellsOf f0.type = 1) (c1 : P.cellsOf f1.type = 1) (c2 : P.cellsOf f2.type = 1)
    (u0 : P.underlying f0.type = some (.int .i64)) (u1 : P.underlying f1.type = some (.int .u64)) (u2 : P.underlying f2.type = some .string)
    (h : DataW.trod enc P w 0 (fun _ => true) true fuel t (Value.slice a0 len cap).cells.toList = some x) : (∃ L, Things w a0 len L) ∧ len ≤ cap ∧ cap ≤ 9223372036854775807 := by
  rcases open_slice ht h with ⟨hcs, hx⟩ | ⟨a, len', cap', m, n, D, Pl, hcs, _, hl, hm, hmm, hx, hi⟩
  · simp [Value.cells] at hcs
    obtain ⟨rfl, rfl, rfl⟩ := hcs
    exact ⟨⟨[], rfl, fun k hk => absurd hk (by simp)⟩, by omega, by omega⟩
  · simp [Value.cells] at hcs
    obtain ⟨rfl, rfl, rfl⟩ := hcs
    unfold maxLen at hm
    simp only [if_true] at hmm
    subst hmm
    refine ⟨?_, hl, by omega⟩
    have hsp : 0 < len → a = ⟨a.block, a.off, none⟩ := fun hp => by
      obtain ⟨cs', h1, _⟩ := hi 0 (by omega)
      rw [ce] at h1
      obtain ⟨_, hlen, hcell⟩ := World.cells?_some h1
      have g0 := hcell 0 (by decide)
      have hc : cs'[0]? = some (cs'[0]'(by omega)) := List.getElem?_eq_getElem (by omega)
      rw [hc, Nat.zero_mul, Kit.add_zero, Kit.add_zero] at g0
      have hs := World.cell?_spot g0
      obtain ⟨b, o, s⟩ := a
      have : s = none := hs
      subst this
      rfl
    have each : ∀ i, i < len → ∃ q : Thing, a = ⟨a.block, a.off, none⟩ ∧ a.block < w.heap.size ∧ w.cell? ⟨a.block, a.off + i * 3, none⟩ = some (.int .i64 q.kind) ∧ w.cell? ⟨a.block, a.off + i * 3 + 1, none⟩ = some (.int .u64 q.num) ∧
        w.cell? ⟨a.block, a.off + i * 3 + 2, none⟩ = some (.string q.text) ∧ -9223372036854775808 ≤ q.kind ∧ q.kind ≤ 9223372036854775807 ∧ q.num < 18446744073709551616 ∧ q.text.size ≤ 9223372036854775807 := by
      intro i hil
      obtain ⟨cs', h1, h2⟩ := hi i (by omega)
      rw [ce] at h1
      obtain ⟨_, hlen, hcell⟩ := World.cells?_some h1
      obtain ⟨y0, y1, y2, n', _, _, k0, k1, k2⟩ := trod_struct3 he h2
      match cs', hlen with
      | [v0, v1, v2], _ =>
        rw [o0, c0] at k0
        rw [o1, c1] at k1
        rw [o2, c2] at k2
        obtain ⟨z0, e0, _, r0⟩ := DataW.trod_int u0 k0
        obtain ⟨z1, e1, _, r1⟩ := DataW.trod_int u1 k1
        obtain ⟨z2, e2, _, r2⟩ := DataW.trod_string u2 k2
        simp at e0 e1 e2
        subst e0 e1 e2
        have g0 := hcell 0 (by decide)
        have g1 := hcell 1 (by decide)
        have g2 := hcell 2 (by decide)
        simp only [List.getElem?_cons_zero, List.getElem?_cons_succ] at g0 g1 g2
        have hsp2 : a.add (i * 3) = ⟨a.block, a.off + i * 3, none⟩ := add_lit3 a (hsp (by omega)) _
        rw [hsp2] at g0 g1 g2
        rw [add_lit3 _ rfl] at g0 g1 g2
        have b0 : -9223372036854775808 ≤ z0 ∧ z0 ≤ 9223372036854775807 := by simpa [Lit.wf, IntKind.min, IntKind.max, IntKind.signed, IntKind.bits] using r0
        have b1 : 0 ≤ z1 ∧ z1 ≤ 18446744073709551615 := by simpa [Lit.wf, IntKind.min, IntKind.max, IntKind.signed, IntKind.bits] using r1
        unfold maxLen at r2
        obtain ⟨x1, rfl⟩ := Int.eq_ofNat_of_zero_le b1.1
        exact ⟨⟨z0, x1, z2⟩, hsp (by omega), World.block_lt_of_cell? w (⟨a.block, a.off + i * 3 + 0, none⟩ : Addr) g0, g0, g1, g2, b0.1, b0.2, by simp only []; omega, by simp only []; omega⟩
    have : Inhabited Thing := ⟨⟨0, 0, ByteArray.empty⟩⟩
    obtain ⟨f, hf⟩ := choose_lt (p := fun i (q : Thing) => a = ⟨a.block, a.off, none⟩ ∧ a.block < w.heap.size ∧ w.cell? ⟨a.block, a.off + i * 3, none⟩ = some (.int .i64 q.kind) ∧ w.cell? ⟨a.block, a.off + i * 3 + 1, none⟩ = some (.int .u64 q.num) ∧
        w.cell? ⟨a.block, a.off + i * 3 + 2, none⟩ = some (.string q.text) ∧ -9223372036854775808 ≤ q.kind ∧ q.kind ≤ 9223372036854775807 ∧ q.num < 18446744073709551616 ∧ q.text.size ≤ 9223372036854775807) each
    refine ⟨(List.range len).map f, by simp, fun k hk => ?_⟩
    have hkl : k < len := by simpa using hk
    obtain ⟨h1, h2, h3⟩ := hf k hkl
    simp only [List.getElem_map, List.getElem_range]
    exact ⟨a.block, a.off, by rw [← h1], h2, h3⟩
end
/-- One thing, in a later world. -/
theorem Things.at_ {w w' : World} {a : Option Addr} {n : Nat} {L : List Thing} (h : Things w a n L) (hb : Below w.heap.size w w') (k : Nat) (hk : k < n) :
    ∃ (x : Thing) (b o : Nat), L[k]? = some x ∧ a = some ⟨b, o, none⟩ ∧ b < w.heap.size ∧ w'.cell? ⟨b, o + k * 3, none⟩ = some (.int .i64 x.kind) ∧ w'.cell? ⟨b, o + k * 3 + 1, none⟩ = some (.int .u64 x.num) ∧
      w'.cell? ⟨b, o + k * 3 + 2, none⟩ = some (.string x.text) ∧ -9223372036854775808 ≤ x.kind ∧ x.kind ≤ 9223372036854775807 ∧ x.num < 18446744073709551616 ∧ x.text.size ≤ 9223372036854775807 := by
  have hl := h.1
  obtain ⟨b, o, rfl, hlt, c0, c1, c2, hr⟩ := h.2 k (by omega)
  exact ⟨L[k], b, o, List.getElem?_eq_getElem (by omega), rfl, hlt, (hb.cell (p := ⟨b, _, none⟩) hlt).trans c0, (hb.cell (p := ⟨b, _, none⟩) hlt).trans c1, (hb.cell (p := ⟨b, _, none⟩) hlt).trans c2, hr⟩
end Go.Proofs.Ytdainmpedhohnaa.Things
