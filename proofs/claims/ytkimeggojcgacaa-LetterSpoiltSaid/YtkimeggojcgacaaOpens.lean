/- How arguments are opened: a letter that came in. No statement is proved here. -/
import Derived.Test.YtkimeggojcgacaaWr
import Derived.Test.YtkimeggojcgacaaFrame
import Derived.Deep.Slices
import Derived.Lib.SmallJoins
set_option linter.unusedVariables false
set_option linter.unusedSimpArgs false
namespace Go.Proofs.Ytkimeggojcgacaa.Opens
open Go.ChangeShapes Go.WideShapes Go.ChangeAt Go.RowKit Go.Deep Go.Proofs.Ytkimeggojcgacaa.Frame Go.Proofs.Ytkimeggojcgacaa.Kit Go.Proofs.Ytkimeggojcgacaa.Ltr Go.Proofs.Ytkimeggojcgacaa.Lmt Go.Proofs.Ytkimeggojcgacaa.Wr

theorem u64_in {z : Int} (h : (Lit.int .u64 z).wf = true) : 0 ≤ z ∧ z < 18446744073709551616 := by
  have : 0 ≤ z ∧ z ≤ 18446744073709551615 := by simpa [Lit.wf, IntKind.min, IntKind.max, IntKind.signed, IntKind.bits] using h
  omega
/-! ### What is read -/
section
variable {H : Type} {enc : TypeId × Value → H} {w : World}
set_option maxRecDepth 100000 in
theorem open_ent {fuel : Nat} {cs : List Value} {x : DataW H × List MemPlace} (h : DataW.trod enc Try.prog w 0 (fun _ => true) true fuel 47 cs = some x) : ∃ e : Ent, cs = entCs e ∧ EIn e := by
  have hlen := (DataW.trod_struct Try.underlying47 h).choose_spec.choose_spec.2.2.1
  rw [show Try.prog.cellsOf 47 = 4 by kernel_rfl] at hlen
  match cs, hlen with
  | [v0, v1, v2, v3], _ =>
    obtain ⟨y0, y1, y2, y3, n, rfl, _, h0, h1, h2, h3⟩ := Joins.trod_struct4 Try.underlying47 h
    have k0 : DataW.trod enc Try.prog w 0 (fun _ => true) true n 22 [v0] = some y0 := h0
    have k1 : DataW.trod enc Try.prog w 0 (fun _ => true) true n 22 [v1] = some y1 := h1
    have k2 : DataW.trod enc Try.prog w 0 (fun _ => true) true n 3 [v2] = some y2 := h2
    have k3 : DataW.trod enc Try.prog w 0 (fun _ => true) true n 9 [v3] = some y3 := h3
    obtain ⟨z0, e0, rfl, r0⟩ := DataW.trod_int Try.underlying22 k0
    obtain ⟨z1, e1, rfl, r1⟩ := DataW.trod_int Try.underlying22 k1
    obtain ⟨z2, e2, rfl, r2⟩ := DataW.trod_int Try.underlying3 k2
    obtain ⟨s, e3, rfl, r3⟩ := DataW.trod_string Try.underlying9 k3
    simp at e0 e1 e2 e3
    subst e0 e1 e2 e3
    have g0 := u64_in r0
    have g1 := u64_in r1
    exact ⟨⟨z0, z1, z2, s⟩, rfl, g0.1, g0.2, g1.1, g1.2⟩
/-- A slice of entries that came in. -/
structure CameE (w : World) (A : Option Addr) (n c : Nat) (l : List Ent) : Prop where
  reads : RE w w.heap.size A n l
  fits : n ≤ c
  max : c ≤ 9223372036854775807
  ein : ∀ e ∈ l, EIn e
set_option maxRecDepth 100000 in
theorem open_list {fuel : Nat} {cs : List Value} {x : DataW H × List MemPlace} (h : DataW.trod enc Try.prog w 0 (fun _ => true) true fuel 23 cs = some x) :
    ∃ A n c l, cs = [.slice A n c] ∧ CameE w A n c l ∧ ((∀ m ∈ x.1.weights Try.prog 23, m ≤ reachBytes) → c * 40 ≤ 140737488351232) := by
  rcases open_slice Try.underlying23 h with ⟨rfl, rfl⟩ | ⟨a, len, cap, m, n, D, Pl, rfl, _, hl, hm, hmm, rfl, hi⟩
  · exact ⟨none, 0, 0, [], rfl, ⟨RE.nil _ _ _, by omega, by omega, fun e he => by cases he⟩, fun _ => by omega⟩
  · unfold maxLen at hm
    simp only [if_true] at hmm
    subst hmm
    have each : ∀ i, i < len → ∃ e : Ent, w.cells? 0 (a.add (i * 4)) 4 = some (entCs e) ∧ EIn e := fun i hil => by
      obtain ⟨cs', h1, h2⟩ := hi i (by omega)
      obtain ⟨e, rfl, he⟩ := open_ent h2
      exact ⟨e, h1, he⟩
    have : Inhabited Ent := ⟨⟨0, 0, 0, ByteArray.empty⟩⟩
    obtain ⟨f, hf⟩ := choose_lt (p := fun i (e : Ent) => w.cells? 0 (a.add (i * 4)) 4 = some (entCs e) ∧ EIn e) each
    have hat : ∀ k, k < len → ((List.range len).map f)[k]? = some (f k) := fun k hk => by simp [hk]
    refine ⟨some a, len, _, (List.range len).map f, rfl, ⟨⟨?_, fun hn => ?_⟩, hl, by omega, fun e he => ?_⟩, fun hw => ?_⟩
    · rw [ecells_length]; simp
    · have hb : a.block < w.heap.size := by
        obtain ⟨_, _, hc⟩ := World.cells?_some (hf 0 hn).1
        have h0 := hc 0 (by decide)
        rw [Nat.zero_mul, Kit.add_zero, Kit.add_zero] at h0
        exact World.block_lt_of_cell? _ _ h0
      refine ⟨a, rfl, hb, fun j u hj => ?_⟩
      have hjl : j < len * 4 := by
        have := (List.getElem?_eq_some_iff.1 hj).1
        rw [ecells_length] at this
        simpa using this
      obtain ⟨k, r, hr, rfl⟩ : ∃ k r, r < 4 ∧ j = k * 4 + r := ⟨j / 4, j % 4, by omega, by omega⟩
      have hk : k < len := by omega
      rw [ecells_get _ k r _ (hat k hk) hr] at hj
      obtain ⟨_, _, hc⟩ := World.cells?_some (hf k hk).1
      have h0 := hc r hr
      rw [Go.Deep.add_add, hj] at h0
      exact h0
    · obtain ⟨i, hi, rfl⟩ := List.mem_map.1 he
      exact (hf i (List.mem_range.1 hi)).2
    · have := hw ((((List.range len).map D).length + ((List.range (m - len)).map fun j => D (len + j)).length) * Try.prog.bytesOf 47) (by simp [DataW.weights, Try.underlying23])
      rw [show Try.prog.bytesOf 47 = 40 by kernel_rfl] at this
      simp only [List.length_map, List.length_range, reachBytes] at this
      omega

/-- A letter that came in. -/
def Came (w : World) (x : Lt) : Prop := LAt w x
set_option maxRecDepth 100000 in
set_option maxHeartbeats 2000000 in
theorem open_letter {fuel : Nat} {cs : List Value} {x : DataW H × List MemPlace} (h : DataW.trod enc Try.prog w 0 (fun _ => true) true fuel 25 cs = some x) :
    ∃ y : Lt, cs = ltCs y ∧ ((∀ m ∈ x.1.weights Try.prog 25, m ≤ reachBytes) → Came w y) := by
  obtain ⟨xs, n, _, rfl, hlen, hxl, hfs⟩ := DataW.trod_struct Try.underlying25 h
  rw [show Try.prog.cellsOf 25 = 10 by kernel_rfl] at hlen
  match cs, hlen, xs, hxl with
  | [v0, v1, v2, v3, v4, v5, v6, v7, v8, v9], _, [y0, y1, y2, y3, y4, y5, y6, y7, y8, y9], _ =>
    have k0 : DataW.trod enc Try.prog w 0 (fun _ => true) true n 3 [v0] = some y0 := hfs 0 _ rfl
    have k1 : DataW.trod enc Try.prog w 0 (fun _ => true) true n 3 [v1] = some y1 := hfs 1 _ rfl
    have k2 : DataW.trod enc Try.prog w 0 (fun _ => true) true n 3 [v2] = some y2 := hfs 2 _ rfl
    have k3 : DataW.trod enc Try.prog w 0 (fun _ => true) true n 22 [v3] = some y3 := hfs 3 _ rfl
    have k4 : DataW.trod enc Try.prog w 0 (fun _ => true) true n 22 [v4] = some y4 := hfs 4 _ rfl
    have k5 : DataW.trod enc Try.prog w 0 (fun _ => true) true n 22 [v5] = some y5 := hfs 5 _ rfl
    have k6 : DataW.trod enc Try.prog w 0 (fun _ => true) true n 22 [v6] = some y6 := hfs 6 _ rfl
    have k7 : DataW.trod enc Try.prog w 0 (fun _ => true) true n 4 [v7] = some y7 := hfs 7 _ rfl
    have k8 : DataW.trod enc Try.prog w 0 (fun _ => true) true n 23 [v8] = some y8 := hfs 8 _ rfl
    have k9 : DataW.trod enc Try.prog w 0 (fun _ => true) true n 9 [v9] = some y9 := hfs 9 _ rfl
    obtain ⟨z0, e0, _, _⟩ := DataW.trod_int Try.underlying3 k0
    obtain ⟨z1, e1, _, _⟩ := DataW.trod_int Try.underlying3 k1
    obtain ⟨z2, e2, _, _⟩ := DataW.trod_int Try.underlying3 k2
    obtain ⟨z3, e3, _, g3⟩ := DataW.trod_int Try.underlying22 k3
    obtain ⟨z4, e4, _, g4⟩ := DataW.trod_int Try.underlying22 k4
    obtain ⟨z5, e5, _, g5⟩ := DataW.trod_int Try.underlying22 k5
    obtain ⟨z6, e6, _, g6⟩ := DataW.trod_int Try.underlying22 k6
    obtain ⟨z7, e7, _⟩ := DataW.trod_bool Try.underlying4 k7
    obtain ⟨A, ln, cp, l, e8, hl, hr⟩ := open_list k8
    obtain ⟨s, e9, _, _⟩ := DataW.trod_string Try.underlying9 k9
    simp only [List.cons.injEq, and_true] at e0 e1 e2 e3 e4 e5 e6 e7 e8 e9
    subst e0 e1 e2 e3 e4 e5 e6 e7 e8 e9
    have := hl.fits
    have := hl.max
    have g3 := u64_in g3
    have g4 := u64_in g4
    have g5 := u64_in g5
    have g6 := u64_in g6
    exact ⟨⟨⟨z0, z1, z2, z3, z4, z5, z6, z7, s⟩, A, ln, cp, l⟩, rfl, fun hw => ⟨hl.reads, by show ln ≤ _; omega, ⟨g3.1, g3.2, g4.1, g4.2, g5.1, g5.2, g6.1, g6.2⟩, hl.ein⟩⟩
end
/-! ### By the row's own hands -/
section
variable {H : Type} {enc : TypeId × Value → H} {w : World} {b0 : Nat} {v : Value} {d : DataW H} {p : List MemPlace}
set_option maxRecDepth 100000 in
theorem arg_letter (hv : Value.okWide Try.prog w .any b0 25 v) (h : DataW.Trod enc Try.prog w 0 (fun _ => true) true 25 v d p) :
    ∃ x : Lt, v = ltV x ∧ ((∀ m ∈ d.weights Try.prog 25, m ≤ reachBytes) → Came w x) := by
  obtain ⟨cs, rfl, _⟩ := okWide_struct Try.underlying25 hv
  obtain ⟨fuel, hf⟩ := h
  obtain ⟨x, hx, hr⟩ := open_letter hf
  exact ⟨x, by unfold ltV; rw [← Array.toArray_toList (xs := cs)]; show Value.agg (List.toArray cs.toList) = _; rw [show cs.toList = _ from hx]; rfl, hr⟩
theorem arg_text (hv : Value.okWide Try.prog w .any b0 9 v) (h : DataW.Trod enc Try.prog w 0 (fun _ => true) true 9 v d p) :
    ∃ s : ByteArray, v = .string s ∧ ((∀ m ∈ d.weights Try.prog 9, m ≤ reachBytes) → s.size ≤ 281474976710656) := by
  obtain ⟨s, rfl⟩ := okWide_string Try.underlying9 hv
  obtain ⟨fuel, hf⟩ := h
  obtain ⟨s', h', hx, _⟩ := DataW.trod_string Try.underlying9 hf
  simp [Value.cells] at h'
  subst h'
  simp only [Prod.mk.injEq] at hx
  obtain ⟨rfl, rfl⟩ := hx
  refine ⟨s, rfl, fun hr => ?_⟩
  have := hr s.size (by rw [Lib.size_eq]; exact List.mem_cons_self)
  simp only [reachBytes] at this
  omega
theorem arg_int (hv : Value.okWide Try.prog w .any b0 3 v) (h : DataW.Trod enc Try.prog w 0 (fun _ => true) true 3 v d p) :
    ∃ z : Int, v = .int .i64 z ∧ (-9223372036854775808 ≤ z ∧ z ≤ 9223372036854775807) := by
  obtain ⟨z, rfl, _, _, hw⟩ := open_int Try.underlying3 hv h
  exact ⟨z, rfl, by simpa [Lit.wf, IntKind.min, IntKind.max, IntKind.signed, IntKind.bits] using hw⟩
theorem arg_byte (hv : Value.okWide Try.prog w .any b0 5 v) (h : DataW.Trod enc Try.prog w 0 (fun _ => true) true 5 v d p) :
    ∃ z : Int, v = .int .u8 z ∧ (0 ≤ z ∧ z ≤ 255) := by
  obtain ⟨z, rfl, _, _, hw⟩ := open_int Try.underlying5 hv h
  exact ⟨z, rfl, by simpa [Lit.wf, IntKind.min, IntKind.max, IntKind.signed, IntKind.bits] using hw⟩
end
end Go.Proofs.Ytkimeggojcgacaa.Opens
