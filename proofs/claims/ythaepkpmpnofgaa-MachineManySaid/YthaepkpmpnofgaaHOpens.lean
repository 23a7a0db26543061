/- How arguments are opened: a slice of steps, a text, four integers by value that came in. No statement is proved here. -/
import Derived.Test.YthaepkpmpnofgaaHPln
import Derived.Test.YthaepkpmpnofgaaFrame
import Derived.Test.YthaepkpmpnofgaaArrs
import Derived.Deep.Slices
import Derived.Lib.SmallJoins
set_option linter.unusedVariables false
set_option maxRecDepth 100000
set_option linter.unusedSimpArgs false
namespace Go.Proofs.Ythaepkpmpnofgaa.Opens
open Go.ChangeShapes Go.WideShapes Go.ChangeAt Go.RowKit Go.Deep Go.Proofs.Ythaepkpmpnofgaa.Frame Go.Proofs.Ythaepkpmpnofgaa.Kit Go.Proofs.Ythaepkpmpnofgaa.Stq Go.Proofs.Ythaepkpmpnofgaa.Pln

theorem i64_wf {z : Int} (h : (Lit.int .i64 z).wf = true) : -9223372036854775808 ≤ z ∧ z ≤ 9223372036854775807 := by
  simpa [Lit.wf, IntKind.min, IntKind.max, IntKind.signed, IntKind.bits] using h
theorem u64_wf {z : Int} (h : (Lit.int .u64 z).wf = true) : ∃ n : Nat, z = (n : Int) ∧ n < 18446744073709551616 := by
  have hb : 0 ≤ z ∧ z ≤ 18446744073709551615 := by simpa [Lit.wf, IntKind.min, IntKind.max, IntKind.signed, IntKind.bits] using h
  exact ⟨z.toNat, by omega, by omega⟩
/-! ### What is read -/
def strD {H : Type} (s : ByteArray) : DataW H := .lit (.string s.data.toList)
def spD {H : Type} (e : Sp) : DataW H := .agg [.lit (.int .i64 e.pt), strD e.nm, .lit (.int .i64 e.bg)]
def listD {H : Type} (d : DataW H) (l : List Sp) : Prop := (d = .nil ∧ l = []) ∨ ∃ sp, d = .slice (l.map spD) sp
/-- A step's fields lie in memory. -/
structure SIn (e : Sp) : Prop where
  p0 : -9223372036854775808 ≤ e.pt
  p1 : e.pt ≤ 9223372036854775807
  n : e.nm.size ≤ 9223372036854775807
  b0 : -9223372036854775808 ≤ e.bg
  b1 : e.bg ≤ 9223372036854775807
section
variable {H : Type} {enc : TypeId × Value → H} {w : World}
set_option maxRecDepth 100000 in
theorem open_sp {fuel : Nat} {cs : List Value} {x : DataW H × List MemPlace} (h : DataW.trod enc Try.prog w 0 (fun _ => true) true fuel 44 cs = some x) : ∃ e : Sp, cs = spCs e ∧ SIn e ∧ x.1 = spD e := by
  obtain ⟨xs, n, _, hx, hlen, hxl, hfs⟩ := DataW.trod_struct Try.underlying44 h
  rw [show Try.prog.cellsOf 44 = 3 by kernel_rfl] at hlen
  match cs, hlen, xs, hxl with
  | [v0, v1, v2], _, [y0, y1, y2], _ =>
    have k0 : DataW.trod enc Try.prog w 0 (fun _ => true) true n 3 [v0] = some y0 := hfs 0 _ rfl
    have k1 : DataW.trod enc Try.prog w 0 (fun _ => true) true n 9 [v1] = some y1 := hfs 1 _ rfl
    have k2 : DataW.trod enc Try.prog w 0 (fun _ => true) true n 3 [v2] = some y2 := hfs 2 _ rfl
    obtain ⟨z0, e0, rfl, r0⟩ := DataW.trod_int Try.underlying3 k0
    obtain ⟨s, e1, rfl, r1⟩ := DataW.trod_string Try.underlying9 k1
    obtain ⟨z2, e2, rfl, r2⟩ := DataW.trod_int Try.underlying3 k2
    simp only [List.cons.injEq, and_true] at e0 e1 e2
    subst e0 e1 e2
    have a0 := i64_wf r0
    have a2 := i64_wf r2
    unfold maxLen at r1
    exact ⟨⟨z0, s, z2⟩, rfl, ⟨a0.1, a0.2, by simp only []; omega, a2.1, a2.2⟩, by rw [hx]; rfl⟩
/-- A slice of steps that came in. -/
structure CameS (w : World) (A : Option Addr) (n c : Nat) (l : List Sp) : Prop where
  reads : RS w w.heap.size A n l
  fits : n ≤ c
  max : c ≤ 9223372036854775807
  sin : ∀ e ∈ l, SIn e
set_option maxRecDepth 100000 in
theorem open_steps {fuel : Nat} {cs : List Value} {x : DataW H × List MemPlace} (h : DataW.trod enc Try.prog w 0 (fun _ => true) true fuel 39 cs = some x) :
    ∃ A n c l, cs = [.slice A n c] ∧ CameS w A n c l ∧ listD x.1 l ∧ ((∀ m ∈ x.1.weights Try.prog 39, m ≤ reachBytes) → c * 32 ≤ 140737488351232) := by
  rcases open_slice Try.underlying39 h with ⟨rfl, rfl⟩ | ⟨a, len, cap, m, n, D, Pl, rfl, _, hl, hm, hmm, rfl, hi⟩
  · exact ⟨none, 0, 0, [], rfl, ⟨RS.nil _ _ _, by omega, by omega, fun e he => by cases he⟩, .inl ⟨rfl, rfl⟩, fun _ => by omega⟩
  · unfold maxLen at hm
    simp only [if_true] at hmm
    subst hmm
    have each : ∀ i, i < len → ∃ e : Sp, w.cells? 0 (a.add (i * 3)) 3 = some (spCs e) ∧ SIn e ∧ D i = spD e := fun i hil => by
      obtain ⟨cs', h1, h2⟩ := hi i (by omega)
      obtain ⟨e, rfl, he, hd⟩ := open_sp h2
      exact ⟨e, h1, he, hd⟩
    have : Inhabited Sp := ⟨⟨0, ByteArray.empty, 0⟩⟩
    obtain ⟨f, hf⟩ := choose_lt (p := fun i (e : Sp) => w.cells? 0 (a.add (i * 3)) 3 = some (spCs e) ∧ SIn e ∧ D i = spD e) each
    have hat : ∀ k, k < len → ((List.range len).map f)[k]? = some (f k) := fun k hk => by simp [hk]
    refine ⟨some a, len, _, (List.range len).map f, rfl, ⟨⟨?_, fun hn => ?_⟩, hl, by omega, fun e he => ?_⟩, .inr ⟨(List.range (m - len)).map fun j => D (len + j), ?_⟩, fun hw => ?_⟩
    · rw [scells_length]; simp
    · have hb : a.block < w.heap.size := by
        obtain ⟨_, _, hc⟩ := World.cells?_some (hf 0 hn).1
        have h0 := hc 0 (by decide)
        rw [Nat.zero_mul, Kit.add_zero, Kit.add_zero] at h0
        exact World.block_lt_of_cell? _ _ h0
      refine ⟨a, rfl, hb, fun j u hj => ?_⟩
      have hjl : j < len * 3 := by
        have := (List.getElem?_eq_some_iff.1 hj).1
        rw [scells_length] at this
        simpa using this
      obtain ⟨k, r, hr, rfl⟩ : ∃ k r, r < 3 ∧ j = k * 3 + r := ⟨j / 3, j % 3, by omega, by omega⟩
      have hk : k < len := by omega
      rw [scells_get _ k r _ (hat k hk) hr] at hj
      obtain ⟨_, _, hc⟩ := World.cells?_some (hf k hk).1
      have h0 := hc r hr
      rw [Go.Deep.add_add, hj] at h0
      exact h0
    · obtain ⟨k, hk, rfl⟩ := List.mem_map.1 he
      exact (hf k (List.mem_range.1 hk)).2.1
    · simp only [List.map_map]
      congr 1
      exact List.map_congr_left fun k hk => (hf k (List.mem_range.1 hk)).2.2
    · have := hw ((((List.range len).map D).length + ((List.range (m - len)).map fun j => D (len + j)).length) * Try.prog.bytesOf 44) (by simp [DataW.weights, Try.underlying39])
      rw [show Try.prog.bytesOf 44 = 32 by kernel_rfl] at this
      simp only [List.length_map, List.length_range, reachBytes] at this
      omega
/-! ### The second form's bound -/
theorem bulk_sps {l : List Sp} : l.length + nms l ≤ Rows.uptoBulkAll (H := H) (l.map spD) := by
  induction l with
  | nil => simp [nms, Rows.uptoBulkAll]
  | cons e l ih =>
    have hs : e.nm.data.toList.length = e.nm.size := by simp
    rw [nms_cons]
    simp only [List.map_cons, Rows.uptoBulkAll, List.length_cons, spD, strD, Rows.uptoBulk, hs]
    omega
theorem bulk_list {d : DataW H} {l : List Sp} (h : listD d l) : l.length + nms l + 1 ≤ Rows.uptoBulk d := by
  rcases h with ⟨rfl, rfl⟩ | ⟨sp, rfl⟩
  · simp [nms, Rows.uptoBulk]
  · have := bulk_sps (H := H) (l := l)
    simp only [Rows.uptoBulk]
    omega
/-- The bulk of a list and a number. -/
theorem small {d0 d1 : DataW H} {l : List Sp} (h : listD d0 l) (hall : Rows.uptoBulkAll [d0, d1] ≤ 1048576) : l.length + nms l ≤ 1048576 := by
  have := bulk_list h
  simp only [Rows.uptoBulkAll] at hall
  omega
end
/-! ### By the row's own hands -/
section
variable {H : Type} {enc : TypeId × Value → H} {w : World} {b0 : Nat} {v : Value} {d : DataW H} {p : List MemPlace}
set_option maxRecDepth 100000 in
theorem arg_steps (hv : Value.okWide Try.prog w .any b0 39 v) (h : DataW.Trod enc Try.prog w 0 (fun _ => true) true 39 v d p) :
    ∃ A n c l, v = .slice A n c ∧ CameS w A n c l ∧ listD d l := by
  obtain ⟨A, n, c, rfl⟩ := okWide_slice Try.underlying39 hv
  obtain ⟨fuel, hf⟩ := h
  obtain ⟨A', n', c', l, he, hl, hd, _⟩ := open_steps hf
  simp [Value.cells] at he
  obtain ⟨rfl, rfl, rfl⟩ := he
  exact ⟨_, _, _, l, rfl, hl, hd⟩
theorem arg_num (hv : Value.okWide Try.prog w .any b0 28 v) (h : DataW.Trod enc Try.prog w 0 (fun _ => true) true 28 v d p) :
    ∃ n : Nat, v = .int .u64 (n : Int) ∧ n < 18446744073709551616 := by
  obtain ⟨z, rfl, _, _, hw⟩ := open_int Try.underlying28 hv h
  obtain ⟨n, rfl, hn⟩ := u64_wf hw
  exact ⟨n, rfl, hn⟩
theorem arg_text (hv : Value.okWide Try.prog w .any b0 9 v) (h : DataW.Trod enc Try.prog w 0 (fun _ => true) true 9 v d p) :
    ∃ s : ByteArray, v = .string s ∧ ((∀ m ∈ d.weights Try.prog 9, m ≤ reachBytes) → s.size ≤ 281474976710656) := by
  obtain ⟨s, rfl⟩ := okWide_string Try.underlying9 hv
  obtain ⟨fuel, hf⟩ := h
  obtain ⟨s', h', hx, _⟩ := DataW.trod_string Try.underlying9 hf
  simp [Value.cells] at h'
  subst h'
  simp only [Prod.mk.injEq] at hx
  obtain ⟨rfl, rfl⟩ := hx
  refine ⟨s, rfl, fun hr => ?_⟩
  have := hr s.size (by rw [Lib.size_eq]; exact List.mem_cons_self)
  simp only [reachBytes] at this
  omega
end
end Go.Proofs.Ythaepkpmpnofgaa.Opens
