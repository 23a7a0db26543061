/- How arguments are opened: a slice of calls, a slice of numbers, a truth. No statement is proved here. -/
import Derived.Test.YtecejikolgkihaaCals
import Derived.Test.YtecejikolgkihaaFrame
import Derived.Deep.Slices
import Derived.Deep.Strs
set_option linter.unusedVariables false
namespace Go.Proofs.Ytecejikolgkihaa.Opens
open Go.ChangeShapes Go.WideShapes Go.RowKit Go.Deep Go.Proofs.Ytecejikolgkihaa.Kit Go.Proofs.Ytecejikolgkihaa.WalkG Go.Proofs.Ytecejikolgkihaa.Sol Go.Proofs.Ytecejikolgkihaa.Cals

theorem add_lit3 (a : Addr) (h : a = ⟨a.block, a.off, none⟩) (i : Nat) : a.add i = ⟨a.block, a.off + i, none⟩ := by
  rw [h]
  unfold Addr.add
  split
  · rename_i e; subst e; rfl
  · rfl
theorem choose_below {α : Type} [Inhabited α] {p : Nat → α → Prop} {n : Nat} (h : ∀ i, i < n → ∃ x, p i x) : ∃ f : Nat → α, ∀ i, i < n → p i (f i) := by
  refine ⟨fun i => if hi : i < n then (h i hi).choose else default, fun i hi => ?_⟩
  simp only [hi, dif_pos]
  exact (h i hi).choose_spec
section
variable {H : Type} {enc : TypeId × Value → H} {P : Program} {w : World}
theorem open_nums {t e : TypeId} {fuel len cap : Nat} {a0 : Option Addr} {x : DataW H × List MemPlace} (ht : P.underlying t = some (.slice e)) (he : P.underlying e = some (.int .i64)) (hc : P.cellsOf e = 1)
    (h : DataW.trod enc P w 0 (fun _ => true) true fuel t [Value.slice a0 len cap] = some x) : (∃ l, Reads w w.heap.size 1 a0 len (ivals l)) ∧ len ≤ 9223372036854775807 := by
  rcases open_ints ht he hc h with ⟨hcs, hx⟩ | ⟨y, l, c, zs, hcs, _, hl, hm, hz, hx, hcell, hwz⟩
  · simp at hcs
    obtain ⟨rfl, rfl, rfl⟩ := hcs
    exact ⟨⟨[], Reads.none_⟩, by omega⟩
  · simp at hcs
    obtain ⟨rfl, rfl, rfl⟩ := hcs
    simp only [if_true] at hz
    unfold maxLen at hm
    refine ⟨⟨zs.take len, by simp [ivals]; omega, fun hn => ?_⟩, by omega⟩
    have h0 := hcell 0 (by omega)
    rw [Kit.add_zero] at h0
    refine ⟨y, rfl, World.block_lt_of_cell? _ _ h0, fun j u hj => ?_⟩
    have hjl : j < len := by
      have := (List.getElem?_eq_some_iff.1 hj).1
      simp [ivals] at this
      omega
    rw [hcell j (by omega), ← hj]
    simp [ivals, hjl, List.getD, List.getElem?_eq_getElem (show j < zs.length by omega)]
theorem open_calls {t e : TypeId} {f0 f1 f2 : Field} {fuel len cap : Nat} {a0 : Option Addr} {x : DataW H × List MemPlace} (ht : P.underlying t = some (.slice e)) (he : P.underlying e = some (.struct #[f0, f1, f2]))
    (ce : P.cellsOf e = 3) (o0 : f0.offset = 0) (o1 : f1.offset = 1) (o2 : f2.offset = 2) (c0 : P.cellsOf f0.type = 1) (c1 : P.cellsOf f1.type = 1) (c2 : P.cellsOf f2.type = 1)
    (u0 : P.underlying f0.type = some (.int .i64)) (u1 : P.underlying f1.type = some (.int .i64)) (u2 : P.underlying f2.type = some (.int .i64))
    (h : DataW.trod enc P w 0 (fun _ => true) true fuel t [Value.slice a0 len cap] = some x) : (∃ L, Holds w a0 len L) ∧ len ≤ 9223372036854775807 := by
  rcases open_slice ht h with ⟨hcs, hx⟩ | ⟨a, len', cap', m, n, D, Pl, hcs, _, hl, hm, hmm, hx, hi⟩
  · simp at hcs
    obtain ⟨rfl, rfl, rfl⟩ := hcs
    exact ⟨⟨[], rfl, fun k hk => absurd hk (by simp)⟩, by omega⟩
  · simp at hcs
    obtain ⟨rfl, rfl, rfl⟩ := hcs
    unfold maxLen at hm
    simp only [if_true] at hmm
    subst hmm
    refine ⟨?_, by omega⟩
    have hsp : 0 < len → a = ⟨a.block, a.off, none⟩ := fun hp => by
      obtain ⟨cs', h1, _⟩ := hi 0 (by omega)
      rw [ce] at h1
      obtain ⟨_, hlen, hcell⟩ := World.cells?_some h1
      have g0 := hcell 0 (by decide)
      have hc : cs'[0]? = some (cs'[0]'(by omega)) := List.getElem?_eq_getElem (by omega)
      rw [hc, Nat.zero_mul, Kit.add_zero, Kit.add_zero] at g0
      have hs := World.cell?_spot g0
      obtain ⟨b, o, s⟩ := a
      have : s = none := hs
      subst this
      rfl
    have each : ∀ i, i < len → ∃ q : Cal, a = ⟨a.block, a.off, none⟩ ∧ a.block < w.heap.size ∧ Three w a.block (a.off + i * 3) q ∧ CalB q := by
      intro i hil
      obtain ⟨cs', h1, h2⟩ := hi i (by omega)
      rw [ce] at h1
      obtain ⟨_, hlen, hcell⟩ := World.cells?_some h1
      obtain ⟨ys, n', _, _, _, hyl, hfs⟩ := DataW.trod_struct he h2
      have k0 := hfs 0 f0 rfl
      have k1 := hfs 1 f1 rfl
      have k2 := hfs 2 f2 rfl
      match cs', hlen, ys, hyl with
      | [v0, v1, v2], _, [y0, y1, y2], _ =>
        rw [o0, c0] at k0
        rw [o1, c1] at k1
        rw [o2, c2] at k2
        simp at k0 k1 k2
        obtain ⟨z0, e0, _, r0⟩ := DataW.trod_int u0 k0
        obtain ⟨z1, e1, _, r1⟩ := DataW.trod_int u1 k1
        obtain ⟨z2, e2, _, r2⟩ := DataW.trod_int u2 k2
        simp at e0 e1 e2
        subst e0 e1 e2
        have g0 := hcell 0 (by decide)
        have g1 := hcell 1 (by decide)
        have g2 := hcell 2 (by decide)
        simp only [List.getElem?_cons_zero, List.getElem?_cons_succ] at g0 g1 g2
        have hsp2 : a.add (i * 3) = ⟨a.block, a.off + i * 3, none⟩ := add_lit3 a (hsp (by omega)) _
        rw [hsp2] at g0 g1 g2
        rw [add_lit3 _ rfl] at g0 g1 g2
        have b0 := i64_wf r0
        have b1 := i64_wf r1
        have b2 := i64_wf r2
        exact ⟨⟨z0, z1, z2⟩, hsp (by omega), World.block_lt_of_cell? w (⟨a.block, a.off + i * 3 + 0, none⟩ : Addr) g0, ⟨g0, g1, g2⟩, ⟨b0.1, b0.2, b1.1, b1.2, b2.1, b2.2⟩⟩
    have : Inhabited Cal := ⟨⟨0, 0, 0⟩⟩
    obtain ⟨f, hf⟩ := choose_below (p := fun i (q : Cal) => a = ⟨a.block, a.off, none⟩ ∧ a.block < w.heap.size ∧ Three w a.block (a.off + i * 3) q ∧ CalB q) each
    refine ⟨(List.range len).map f, by simp, fun k hk => ?_⟩
    have hkl : k < len := by simpa using hk
    obtain ⟨h1, h2, h3⟩ := hf k hkl
    simp only [List.getElem_map, List.getElem_range]
    exact ⟨a.block, a.off, by rw [← h1], h2, h3⟩
end
section
variable {H : Type} {enc : TypeId × Value → H} {w : World} {b0 : Nat} {v : Value} {d : DataW H} {p : List MemPlace}
set_option maxRecDepth 100000 in
theorem arg_ints (hv : Value.okWide Try.prog w .any b0 28 v) (h : DataW.Trod enc Try.prog w 0 (fun _ => true) true 28 v d p) :
    ∃ A n c l, v = .slice A n c ∧ Reads w w.heap.size 1 A n (ivals l) ∧ n ≤ 9223372036854775807 := by
  obtain ⟨A, n, c, rfl⟩ := okWide_slice Try.underlying28 hv
  obtain ⟨fuel, hf⟩ := h
  obtain ⟨⟨l, h1⟩, h2⟩ := open_nums (len := n) (cap := c) (a0 := A) Try.underlying28 Try.underlying3 (by kernel_rfl) hf
  exact ⟨_, _, _, l, rfl, h1, h2⟩
set_option maxRecDepth 100000 in
theorem arg_calls (hv : Value.okWide Try.prog w .any b0 22 v) (h : DataW.Trod enc Try.prog w 0 (fun _ => true) true 22 v d p) :
    ∃ A n c L, v = .slice A n c ∧ Holds w A n L ∧ n ≤ 9223372036854775807 := by
  obtain ⟨A, n, c, rfl⟩ := okWide_slice Try.underlying22 hv
  obtain ⟨fuel, hf⟩ := h
  obtain ⟨⟨L, h1⟩, h2⟩ := open_calls (len := n) (cap := c) (a0 := A) Try.underlying22 Try.underlying33 (by kernel_rfl) rfl rfl rfl (by kernel_rfl) (by kernel_rfl) (by kernel_rfl) Try.underlying3 Try.underlying3 Try.underlying3 hf
  exact ⟨_, _, _, L, rfl, h1, h2⟩
theorem arg_bool (hv : Value.okWide Try.prog w .any b0 4 v) (h : DataW.Trod enc Try.prog w 0 (fun _ => true) true 4 v d p) : ∃ b : Bool, v = .bool b := by
  obtain ⟨b, rfl, _, _⟩ := open_bool Try.underlying4 hv h
  exact ⟨b, rfl⟩
end
end Go.Proofs.Ytecejikolgkihaa.Opens
