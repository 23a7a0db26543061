/- How an argument that is a slice of calls is opened, and one that is a slice of numbers. No statement is proved here. -/
import Derived.Test.YtgfignagaemfeaaBothB
import Derived.Test.YtgfignagaemfeaaFrame
import Derived.Deep.Slices
import Derived.Deep.Strs
namespace Go.Proofs.Ytgfignagaemfeaa.Calls
open Go.ChangeShapes Go.WideShapes Go.RowKit Go.Deep Go.Proofs.Ytgfignagaemfeaa.Kit Go.Proofs.Ytgfignagaemfeaa.WalkJ Go.Proofs.Ytgfignagaemfeaa.Both

/-- What is known of a call that came in. -/
structure Known (w : World) (c : Cl) : Prop where
  keep : Reads w w.heap.size 1 c.A c.kn (inums c.keep)
  k0 : -9223372036854775808 ≤ c.kind
  k1 : c.kind ≤ 9223372036854775807
  n0 : -9223372036854775808 ≤ c.n
  n1 : c.n ≤ 9223372036854775807
  f0 : -9223372036854775808 ≤ c.fuel
  f1 : c.fuel ≤ 9223372036854775807
  s1 : c.s.size ≤ 9223372036854775807
/-- The call lies at these five cells. -/
def Five (w : World) (b o : Nat) (c : Cl) : Prop := w.cell? ⟨b, o, none⟩ = some (.int .i64 c.kind) ∧ w.cell? ⟨b, o + 1, none⟩ = some (.int .i64 c.n) ∧ w.cell? ⟨b, o + 2, none⟩ = some (.string c.s) ∧
  w.cell? ⟨b, o + 3, none⟩ = some (.int .i64 c.fuel) ∧ w.cell? ⟨b, o + 4, none⟩ = some (.slice c.A c.kn c.kc)
/-- The slice with address a and n elements holds these calls. -/
def Holds (w : World) (a : Option Addr) (n : Nat) (L : List Cl) : Prop :=
  L.length = n ∧ ∀ k (hk : k < L.length), ∃ b o, a = some ⟨b, o, none⟩ ∧ b < w.heap.size ∧ Five w b (o + k * 5) L[k] ∧ Known w L[k]
theorem Holds.at_ {w w' : World} {a : Option Addr} {n : Nat} {L : List Cl} (h : Holds w a n L) (hb : Below w.heap.size w w') (k : Nat) (hk : k < n) :
    ∃ (c : Cl) (b o : Nat), L[k]? = some c ∧ a = some ⟨b, o, none⟩ ∧ b < w.heap.size ∧ Five w' b (o + k * 5) c ∧ Known w c := by
  have hl := h.1
  obtain ⟨b, o, rfl, hlt, ⟨c0, c1, c2, c3, c4⟩, hr⟩ := h.2 k (by omega)
  have hc : ∀ j, w'.cell? ⟨b, j, none⟩ = w.cell? ⟨b, j, none⟩ := fun j => hb.cell (p := ⟨b, j, none⟩) hlt
  exact ⟨L[k], b, o, List.getElem?_eq_getElem (by omega), rfl, hlt, ⟨(hc _).trans c0, (hc _).trans c1, (hc _).trans c2, (hc _).trans c3, (hc _).trans c4⟩, hr⟩
theorem Known.lies {w w' : World} {c : Cl} (h : Known w c) (hb : Below w.heap.size w w') (hs : c.s.size ≤ 140737488351232) : Lies w.heap.size w' c :=
  ⟨h.keep.below hb, h.n0, h.n1, h.f0, h.f1, hs⟩

theorem add_lit5 (a : Addr) (h : a = ⟨a.block, a.off, none⟩) (i : Nat) : a.add i = ⟨a.block, a.off + i, none⟩ := by
  rw [h]
  unfold Addr.add
  split
  · rename_i e; subst e; rfl
  · rfl
theorem i64_wf {z : Int} (h : (Lit.int .i64 z).wf = true) : -9223372036854775808 ≤ z ∧ z ≤ 9223372036854775807 := by
  simpa [Lit.wf, IntKind.min, IntKind.max, IntKind.signed, IntKind.bits] using h
section
variable {H : Type} {enc : TypeId × Value → H} {P : Program} {w : World}
/-- A slice of numbers that came in. -/
theorem open_nums {t e : TypeId} {fuel len cap : Nat} {a0 : Option Addr} {x : DataW H × List MemPlace} (ht : P.underlying t = some (.slice e)) (he : P.underlying e = some (.int .i64)) (hc : P.cellsOf e = 1)
    (h : DataW.trod enc P w 0 (fun _ => true) true fuel t [Value.slice a0 len cap] = some x) : ∃ l, Reads w w.heap.size 1 a0 len (inums l) := by
  rcases open_ints ht he hc h with ⟨hcs, hx⟩ | ⟨y, l, c, zs, hcs, _, hl, hm, hz, hx, hcell, hwz⟩
  · simp at hcs
    obtain ⟨rfl, rfl, rfl⟩ := hcs
    exact ⟨[], Reads.none_⟩
  · simp at hcs
    obtain ⟨rfl, rfl, rfl⟩ := hcs
    simp only [if_true] at hz
    refine ⟨zs.take len, by simp [inums]; omega, fun hn => ?_⟩
    have h0 := hcell 0 (by omega)
    rw [add_zero] at h0
    refine ⟨y, rfl, World.block_lt_of_cell? _ _ h0, fun j u hj => ?_⟩
    have hjl : j < len := by
      have := (List.getElem?_eq_some_iff.1 hj).1
      simp [inums] at this
      omega
    rw [hcell j (by omega), ← hj]
    simp [inums, hjl, List.getD, List.getElem?_eq_getElem (show j < zs.length by omega)]
theorem open_calls {t e : TypeId} {f0 f1 f2 f3 f4 : Field} {fuel len cap : Nat} {a0 : Option Addr} {x : DataW H × List MemPlace} {ei : TypeId} (ht : P.underlying t = some (.slice e)) (he : P.underlying e = some (.struct #[f0, f1, f2, f3, f4]))
    (ce : P.cellsOf e = 5) (o0 : f0.offset = 0) (o1 : f1.offset = 1) (o2 : f2.offset = 2) (o3 : f3.offset = 3) (o4 : f4.offset = 4) (c0 : P.cellsOf f0.type = 1) (c1 : P.cellsOf f1.type = 1) (c2 : P.cellsOf f2.type = 1) (c3 : P.cellsOf f3.type = 1) (c4 : P.cellsOf f4.type = 1)
    (u0 : P.underlying f0.type = some (.int .i64)) (u1 : P.underlying f1.type = some (.int .i64)) (u2 : P.underlying f2.type = some .string) (u3 : P.underlying f3.type = some (.int .i64)) (u4 : P.underlying f4.type = some (.slice ei)) (u5 : P.underlying ei = some (.int .i64)) (c5 : P.cellsOf ei = 1)
    (h : DataW.trod enc P w 0 (fun _ => true) true fuel t (Value.slice a0 len cap).cells.toList = some x) : (∃ L, Holds w a0 len L) ∧ len ≤ cap ∧ cap ≤ 9223372036854775807 := by
  rcases open_slice ht h with ⟨hcs, hx⟩ | ⟨a, len', cap', m, n, D, Pl, hcs, _, hl, hm, hmm, hx, hi⟩
  · simp [Value.cells] at hcs
    obtain ⟨rfl, rfl, rfl⟩ := hcs
    exact ⟨⟨[], rfl, fun k hk => absurd hk (by simp)⟩, by omega, by omega⟩
  · simp [Value.cells] at hcs
    obtain ⟨rfl, rfl, rfl⟩ := hcs
    unfold maxLen at hm
    simp only [if_true] at hmm
    subst hmm
    refine ⟨?_, hl, by omega⟩
    have hsp : 0 < len → a = ⟨a.block, a.off, none⟩ := fun hp => by
      obtain ⟨cs', h1, _⟩ := hi 0 (by omega)
      rw [ce] at h1
      obtain ⟨_, hlen, hcell⟩ := World.cells?_some h1
      have g0 := hcell 0 (by decide)
      have hc : cs'[0]? = some (cs'[0]'(by omega)) := List.getElem?_eq_getElem (by omega)
      rw [hc, Nat.zero_mul, Kit.add_zero, Kit.add_zero] at g0
      have hs := World.cell?_spot g0
      obtain ⟨b, o, s⟩ := a
      have : s = none := hs
      subst this
      rfl
    have each : ∀ i, i < len → ∃ q : Cl, a = ⟨a.block, a.off, none⟩ ∧ a.block < w.heap.size ∧ Five w a.block (a.off + i * 5) q ∧ Known w q := by
      intro i hil
      obtain ⟨cs', h1, h2⟩ := hi i (by omega)
      rw [ce] at h1
      obtain ⟨_, hlen, hcell⟩ := World.cells?_some h1
      obtain ⟨ys, n', _, _, _, hyl, hfs⟩ := DataW.trod_struct he h2
      have k0 := hfs 0 f0 rfl
      have k1 := hfs 1 f1 rfl
      have k2 := hfs 2 f2 rfl
      have k3 := hfs 3 f3 rfl
      have k4 := hfs 4 f4 rfl
      match cs', hlen, ys, hyl with
      | [v0, v1, v2, v3, v4], _, [y0, y1, y2, y3, y4], _ =>
        rw [o0, c0] at k0
        rw [o1, c1] at k1
        rw [o2, c2] at k2
        rw [o3, c3] at k3
        rw [o4, c4] at k4
        simp at k0 k1 k2 k3 k4
        obtain ⟨z0, e0, _, r0⟩ := DataW.trod_int u0 k0
        obtain ⟨z1, e1, _, r1⟩ := DataW.trod_int u1 k1
        obtain ⟨z2, e2, _, r2⟩ := DataW.trod_string u2 k2
        obtain ⟨z3, e3, _, r3⟩ := DataW.trod_int u3 k3
        simp at e0 e1 e2 e3
        subst e0 e1 e2 e3
        obtain ⟨ka, kn, kc, rfl⟩ : ∃ ka kn kc, v4 = .slice ka kn kc := by
          rcases open_ints u4 u5 c5 k4 with ⟨hcs, _⟩ | ⟨y, l, c, zs, hcs, _⟩
          · simp at hcs; exact ⟨_, _, _, hcs⟩
          · simp at hcs; exact ⟨_, _, _, hcs⟩
        obtain ⟨kl, hkl⟩ := open_nums u4 u5 c5 k4
        have g0 := hcell 0 (by decide)
        have g1 := hcell 1 (by decide)
        have g2 := hcell 2 (by decide)
        have g3 := hcell 3 (by decide)
        have g4 := hcell 4 (by decide)
        simp only [List.getElem?_cons_zero, List.getElem?_cons_succ] at g0 g1 g2 g3 g4
        have hsp2 : a.add (i * 5) = ⟨a.block, a.off + i * 5, none⟩ := add_lit5 a (hsp (by omega)) _
        rw [hsp2] at g0 g1 g2 g3 g4
        rw [add_lit5 _ rfl] at g0 g1 g2 g3 g4
        have b0 := i64_wf r0
        have b1 := i64_wf r1
        have b3 := i64_wf r3
        unfold maxLen at r2
        exact ⟨⟨z0, z1, z2, z3, ka, kn, kc, kl⟩, hsp (by omega), World.block_lt_of_cell? w (⟨a.block, a.off + i * 5 + 0, none⟩ : Addr) g0, ⟨g0, g1, g2, g3, g4⟩, ⟨hkl, b0.1, b0.2, b1.1, b1.2, b3.1, b3.2, by simp only []; omega⟩⟩
    have : Inhabited Cl := ⟨⟨0, 0, ByteArray.empty, 0, none, 0, 0, []⟩⟩
    obtain ⟨f, hf⟩ := choose_lt (p := fun i (q : Cl) => a = ⟨a.block, a.off, none⟩ ∧ a.block < w.heap.size ∧ Five w a.block (a.off + i * 5) q ∧ Known w q) each
    refine ⟨(List.range len).map f, by simp, fun k hk => ?_⟩
    have hkl : k < len := by simpa using hk
    obtain ⟨h1, h2, h3⟩ := hf k hkl
    simp only [List.getElem_map, List.getElem_range]
    exact ⟨a.block, a.off, by rw [← h1], h2, h3⟩
end
end Go.Proofs.Ytgfignagaemfeaa.Calls
