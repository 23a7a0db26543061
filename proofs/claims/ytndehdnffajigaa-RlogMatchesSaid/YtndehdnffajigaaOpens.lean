/- How the arguments of layer 7's statements are opened: entries, snapshots, calls, slices of them. No statement is proved here. -/
import Derived.Test.YtndehdnffajigaaCals
import Derived.Test.YtndehdnffajigaaFrame
import Derived.Deep.Slices
import Derived.Lib.SmallJoins
set_option linter.unusedVariables false
set_option linter.unusedSimpArgs false
namespace Go.Proofs.Ytndehdnffajigaa.Opens
open Go.ChangeShapes Go.WideShapes Go.ChangeAt Go.RowKit Go.Deep Go.Proofs.Ytndehdnffajigaa.Kit Go.Proofs.Ytndehdnffajigaa.Rlog Go.Proofs.Ytndehdnffajigaa.Ents Go.Proofs.Ytndehdnffajigaa.WalkB Go.Proofs.Ytndehdnffajigaa.WalkD Go.Proofs.Ytndehdnffajigaa.Cals

theorem i64_wf {z : Int} (h : (Lit.int .i64 z).wf = true) : -9223372036854775808 ≤ z ∧ z ≤ 9223372036854775807 := by
  simpa [Lit.wf, IntKind.min, IntKind.max, IntKind.signed, IntKind.bits] using h
theorem u64_wf {z : Int} (h : (Lit.int .u64 z).wf = true) : ∃ n : Nat, z = (n : Int) ∧ n < 18446744073709551616 := by
  have hb : 0 ≤ z ∧ z ≤ 18446744073709551615 := by simpa [Lit.wf, IntKind.min, IntKind.max, IntKind.signed, IntKind.bits] using h
  exact ⟨z.toNat, by omega, by omega⟩
theorem add_lit (a : Addr) (h : a = ⟨a.block, a.off, none⟩) (i : Nat) : a.add i = ⟨a.block, a.off + i, none⟩ := by
  rw [h]
  unfold Addr.add
  split
  · rename_i e; subst e; rfl
  · rfl

/-! ### What is read -/
def strD {H : Type} (s : ByteArray) : DataW H := .lit (.string s.data.toList)
def entD {H : Type} (e : Ent) : DataW H := .agg [.lit (.int .u64 (e.term : Int)), .lit (.int .u64 (e.idx : Int)), .lit (.int .i64 e.kind), strD e.data]
def listD {H : Type} (d : DataW H) (l : List Ent) : Prop := (d = .nil ∧ l = []) ∨ ∃ sp, d = .slice (l.map entD) sp
section
variable {H : Type} {enc : TypeId × Value → H} {w : World}
set_option maxRecDepth 100000 in
theorem open_ent {fuel : Nat} {cs : List Value} {x : DataW H × List MemPlace} (h : DataW.trod enc Try.prog w 0 (fun _ => true) true fuel 47 cs = some x) : ∃ e : Ent, cs = entCs e ∧ EntB e ∧ x.1 = entD e := by
  have hlen := (DataW.trod_struct Try.underlying47 h).choose_spec.choose_spec.2.2.1
  rw [show Try.prog.cellsOf 47 = 4 by kernel_rfl] at hlen
  match cs, hlen with
  | [v0, v1, v2, v3], _ =>
    obtain ⟨y0, y1, y2, y3, n, rfl, _, h0, h1, h2, h3⟩ := Joins.trod_struct4 Try.underlying47 h
    have k0 : DataW.trod enc Try.prog w 0 (fun _ => true) true n 22 [v0] = some y0 := h0
    have k1 : DataW.trod enc Try.prog w 0 (fun _ => true) true n 22 [v1] = some y1 := h1
    have k2 : DataW.trod enc Try.prog w 0 (fun _ => true) true n 3 [v2] = some y2 := h2
    have k3 : DataW.trod enc Try.prog w 0 (fun _ => true) true n 9 [v3] = some y3 := h3
    obtain ⟨z0, e0, rfl, r0⟩ := DataW.trod_int Try.underlying22 k0
    obtain ⟨z1, e1, rfl, r1⟩ := DataW.trod_int Try.underlying22 k1
    obtain ⟨z2, e2, rfl, r2⟩ := DataW.trod_int Try.underlying3 k2
    obtain ⟨s, e3, rfl, r3⟩ := DataW.trod_string Try.underlying9 k3
    simp at e0 e1 e2 e3
    subst e0 e1 e2 e3
    obtain ⟨t, rfl, ht⟩ := u64_wf r0
    obtain ⟨i, rfl, hi⟩ := u64_wf r1
    have hk := i64_wf r2
    unfold maxLen at r3
    exact ⟨⟨t, i, z2, s⟩, rfl, ⟨ht, hi, hk.1, hk.2, by simp only []; omega⟩, rfl⟩
set_option maxRecDepth 100000 in
theorem open_snapC {fuel : Nat} {cs : List Value} {x : DataW H × List MemPlace} (h : DataW.trod enc Try.prog w 0 (fun _ => true) true fuel 24 cs = some x) :
    ∃ s : Snap, cs = [.int .u64 (s.idx : Int), .int .u64 (s.term : Int), .int .u64 (s.cfg : Int), .string s.data] ∧ SnapB s := by
  have hlen := (DataW.trod_struct Try.underlying24 h).choose_spec.choose_spec.2.2.1
  rw [show Try.prog.cellsOf 24 = 4 by kernel_rfl] at hlen
  match cs, hlen with
  | [v0, v1, v2, v3], _ =>
    obtain ⟨y0, y1, y2, y3, n, rfl, _, h0, h1, h2, h3⟩ := Joins.trod_struct4 Try.underlying24 h
    have k0 : DataW.trod enc Try.prog w 0 (fun _ => true) true n 22 [v0] = some y0 := h0
    have k1 : DataW.trod enc Try.prog w 0 (fun _ => true) true n 22 [v1] = some y1 := h1
    have k2 : DataW.trod enc Try.prog w 0 (fun _ => true) true n 22 [v2] = some y2 := h2
    have k3 : DataW.trod enc Try.prog w 0 (fun _ => true) true n 9 [v3] = some y3 := h3
    obtain ⟨z0, e0, rfl, r0⟩ := DataW.trod_int Try.underlying22 k0
    obtain ⟨z1, e1, rfl, r1⟩ := DataW.trod_int Try.underlying22 k1
    obtain ⟨z2, e2, rfl, r2⟩ := DataW.trod_int Try.underlying22 k2
    obtain ⟨s, e3, rfl, r3⟩ := DataW.trod_string Try.underlying9 k3
    simp at e0 e1 e2 e3
    subst e0 e1 e2 e3
    obtain ⟨t, rfl, ht⟩ := u64_wf r0
    obtain ⟨i, rfl, hi⟩ := u64_wf r1
    obtain ⟨c, rfl, hc⟩ := u64_wf r2
    exact ⟨⟨t, i, c, s⟩, rfl, ⟨ht, hi, hc⟩⟩
/-- A slice of entries that came in. -/
structure CameE (w : World) (A : Option Addr) (n c : Nat) (l : List Ent) : Prop where
  reads : RE w w.heap.size A n l
  fits : n ≤ c
  max : c ≤ 9223372036854775807
  ents : ∀ e ∈ l, EntB e
set_option maxRecDepth 100000 in
theorem open_list {fuel : Nat} {cs : List Value} {x : DataW H × List MemPlace} (h : DataW.trod enc Try.prog w 0 (fun _ => true) true fuel 25 cs = some x) :
    ∃ A n c l, cs = [.slice A n c] ∧ CameE w A n c l ∧ listD x.1 l ∧ ((∀ m ∈ x.1.weights Try.prog 25, m ≤ reachBytes) → c * 40 ≤ 140737488351232) := by
  rcases open_slice Try.underlying25 h with ⟨rfl, rfl⟩ | ⟨a, len, cap, m, n, D, Pl, rfl, _, hl, hm, hmm, rfl, hi⟩
  · exact ⟨none, 0, 0, [], rfl, ⟨RE.nil _ _ _, by omega, by omega, by simp⟩, .inl ⟨rfl, rfl⟩, fun _ => by omega⟩
  · unfold maxLen at hm
    simp only [if_true] at hmm
    subst hmm
    have each : ∀ i, i < len → ∃ e : Ent, w.cells? 0 (a.add (i * 4)) 4 = some (entCs e) ∧ EntB e ∧ D i = entD e := fun i hil => by
      obtain ⟨cs', h1, h2⟩ := hi i (by omega)
      obtain ⟨e, rfl, he, hd⟩ := open_ent h2
      exact ⟨e, h1, he, hd⟩
    have : Inhabited Ent := ⟨⟨0, 0, 0, ByteArray.empty⟩⟩
    obtain ⟨f, hf⟩ := choose_lt (p := fun i (e : Ent) => w.cells? 0 (a.add (i * 4)) 4 = some (entCs e) ∧ EntB e ∧ D i = entD e) each
    have hat : ∀ k, k < len → ((List.range len).map f)[k]? = some (f k) := fun k hk => by simp [hk]
    refine ⟨some a, len, _, (List.range len).map f, rfl, ⟨⟨?_, fun hn => ?_⟩, hl, by omega, fun e he => ?_⟩, .inr ⟨(List.range (m - len)).map fun j => D (len + j), ?_⟩, fun hw => ?_⟩
    · rw [ecells_length]; simp
    · have hb : a.block < w.heap.size := by
        obtain ⟨_, _, hc⟩ := World.cells?_some (hf 0 hn).1
        have h0 := hc 0 (by decide)
        rw [Nat.zero_mul, Kit.add_zero, Kit.add_zero] at h0
        exact World.block_lt_of_cell? _ _ h0
      refine ⟨a, rfl, hb, fun j u hj => ?_⟩
      have hjl : j < len * 4 := by
        have := (List.getElem?_eq_some_iff.1 hj).1
        rw [ecells_length] at this
        simpa using this
      obtain ⟨k, r, hr, rfl⟩ : ∃ k r, r < 4 ∧ j = k * 4 + r := ⟨j / 4, j % 4, by omega, by omega⟩
      have hk : k < len := by omega
      rw [ecells_get _ k r _ (hat k hk) hr] at hj
      obtain ⟨_, _, hc⟩ := World.cells?_some (hf k hk).1
      have h0 := hc r hr
      rw [Go.Deep.add_add, hj] at h0
      exact h0
    · obtain ⟨k, hk, rfl⟩ := List.mem_map.1 he
      exact (hf k (List.mem_range.1 hk)).2.1
    · simp only [List.map_map]
      congr 1
      exact List.map_congr_left fun k hk => (hf k (List.mem_range.1 hk)).2.2
    · have := hw ((((List.range len).map D).length + ((List.range (m - len)).map fun j => D (len + j)).length) * Try.prog.bytesOf 47) (by simp [DataW.weights, Try.underlying25])
      rw [show Try.prog.bytesOf 47 = 40 by kernel_rfl] at this
      simp only [List.length_map, List.length_range, reachBytes] at this
      omega

/-! ### The second form's bound -/
theorem bulk_ents {l : List Ent} : l.length + dataW l ≤ Rows.uptoBulkAll (H := H) (l.map entD) := by
  induction l with
  | nil => simp [dataW, Rows.uptoBulkAll]
  | cons e l ih =>
    have h2 : dataW (e :: l) = e.data.size / 100 + dataW l := by simp [dataW]
    have hs : e.data.data.toList.length = e.data.size := by simp
    simp only [List.map_cons, Rows.uptoBulkAll, List.length_cons, entD, strD, Rows.uptoBulk, hs]
    omega
theorem bulk_list {d : DataW H} {l : List Ent} (h : listD d l) : l.length + dataW l + 1 ≤ Rows.uptoBulk d := by
  rcases h with ⟨rfl, rfl⟩ | ⟨sp, rfl⟩
  · simp [dataW, Rows.uptoBulk]
  · have := bulk_ents (H := H) (l := l)
    simp only [Rows.uptoBulk]
    omega
set_option maxRecDepth 100000 in
theorem open_callC {fuel : Nat} {cs : List Value} {x : DataW H × List MemPlace} (h : DataW.trod enc Try.prog w 0 (fun _ => true) true fuel 37 cs = some x) :
    ∃ c : Cal, cs = callCs c ∧ CalB w w.heap.size c ∧ weigh c + 1 ≤ Rows.uptoBulk x.1 ∧ ((∀ m ∈ x.1.weights Try.prog 37, m ≤ reachBytes) → c.n * 40 ≤ 140737488351232) := by
  obtain ⟨xs, n, _, rfl, hlen, hxl, hfs⟩ := DataW.trod_struct Try.underlying37 h
  rw [show Try.prog.cellsOf 37 = 10 by kernel_rfl] at hlen
  match cs, hlen, xs, hxl with
  | [v0, v1, v2, v3, v4, v5, v6, v7, v8, v9], _, [y0, y1, y2, y3, y4, y5, y6], _ =>
    have k0 : DataW.trod enc Try.prog w 0 (fun _ => true) true n 3 [v0] = some y0 := hfs 0 _ rfl
    have k1 : DataW.trod enc Try.prog w 0 (fun _ => true) true n 22 [v1] = some y1 := hfs 1 _ rfl
    have k2 : DataW.trod enc Try.prog w 0 (fun _ => true) true n 22 [v2] = some y2 := hfs 2 _ rfl
    have k3 : DataW.trod enc Try.prog w 0 (fun _ => true) true n 3 [v3] = some y3 := hfs 3 _ rfl
    have k4 : DataW.trod enc Try.prog w 0 (fun _ => true) true n 9 [v4] = some y4 := hfs 4 _ rfl
    have k5 : DataW.trod enc Try.prog w 0 (fun _ => true) true n 25 [v5] = some y5 := hfs 5 _ rfl
    have k6 : DataW.trod enc Try.prog w 0 (fun _ => true) true n 24 [v6, v7, v8, v9] = some y6 := hfs 6 _ rfl
    obtain ⟨z0, e0, rfl, r0⟩ := DataW.trod_int Try.underlying3 k0
    obtain ⟨z1, e1, rfl, r1⟩ := DataW.trod_int Try.underlying22 k1
    obtain ⟨z2, e2, rfl, r2⟩ := DataW.trod_int Try.underlying22 k2
    obtain ⟨z3, e3, rfl, r3⟩ := DataW.trod_int Try.underlying3 k3
    obtain ⟨s, e4, rfl, r4⟩ := DataW.trod_string Try.underlying9 k4
    obtain ⟨A, ln, cp, l, e5, hl, hd, hr⟩ := open_list k5
    obtain ⟨sn, e6, hsn⟩ := open_snapC k6
    simp only [List.cons.injEq, and_true] at e0 e1 e2 e3 e4 e5 e6
    obtain ⟨rfl, rfl, rfl, rfl⟩ := e6
    subst e0 e1 e2 e3 e4 e5
    obtain ⟨ix, rfl, hix⟩ := u64_wf r1
    obtain ⟨tm, rfl, htm⟩ := u64_wf r2
    have b0 := i64_wf r0
    have b3 := i64_wf r3
    unfold maxLen at r4
    refine ⟨⟨z0, ix, tm, z3, s, A, ln, cp, l, sn⟩, rfl, ⟨b0.1, b0.2, hix, htm, b3.1, b3.2, by simp only []; omega, hl.reads, hl.fits, hl.max, hl.ents, hsn⟩, ?_, fun hw => ?_⟩
    · have h1 := bulk_list hd
      have hs : s.data.toList.length = s.size := by simp
      simp only [weigh, Rows.uptoBulk, Rows.uptoBulkAll, List.map_cons, List.map_nil, hs]
      omega
    · have h1 := hr fun m hm => hw m (by
        simp only [DataW.weights, Try.underlying37, List.map_cons, List.map_nil, DataW.weightsEach, List.mem_append]
        exact .inr (.inr (.inr (.inr (.inr (.inl hm))))))
      have := hl.fits
      simp only []
      omega
theorem bulk_all {n : Nat} {D : Nat → DataW H} {f : Nat → Cal} (h : ∀ i, i < n → weigh (f i) + 1 ≤ Rows.uptoBulk (D i)) : n + (((List.range n).map f).map weigh).sum ≤ Rows.uptoBulkAll ((List.range n).map D) := by
  have key : ∀ L : List Nat, (∀ i ∈ L, i < n) → L.length + ((L.map f).map weigh).sum ≤ Rows.uptoBulkAll (L.map D) := by
    intro L
    induction L with
    | nil => intro _; simp [Rows.uptoBulkAll]
    | cons i L ih =>
      intro hL
      have h1 := ih fun j hj => hL j (by simp [hj])
      have h2 := h i (hL i (by simp))
      simp only [List.map_cons, List.sum_cons, List.length_cons, Rows.uptoBulkAll]
      omega
  have := key (List.range n) fun i hi => List.mem_range.1 hi
  simpa using this
set_option maxRecDepth 100000 in
theorem open_calls {fuel : Nat} {cs : List Value} {x : DataW H × List MemPlace} (h : DataW.trod enc Try.prog w 0 (fun _ => true) true fuel 26 cs = some x) :
    ∃ A n c L, cs = [.slice A n c] ∧ Holds w w.heap.size A n L ∧ n ≤ c ∧ c ≤ 9223372036854775807 ∧ L.length + (L.map weigh).sum + 1 ≤ Rows.uptoBulk x.1 := by
  rcases open_slice Try.underlying26 h with ⟨rfl, rfl⟩ | ⟨a, len, cap, m, n, D, Pl, rfl, _, hl, hm, hmm, rfl, hi⟩
  · exact ⟨none, 0, 0, [], rfl, Holds.nil _ _ _, by omega, by omega, by simp [Rows.uptoBulk]⟩
  · unfold maxLen at hm
    simp only [if_true] at hmm
    subst hmm
    have each : ∀ i, i < len → ∃ c : Cal, w.cells? 0 (a.add (i * 10)) 10 = some (callCs c) ∧ CalB w w.heap.size c ∧ weigh c + 1 ≤ Rows.uptoBulk (D i) := fun i hil => by
      obtain ⟨cs', h1, h2⟩ := hi i (by omega)
      obtain ⟨c, rfl, hc, hd, _⟩ := open_callC h2
      exact ⟨c, h1, hc, hd⟩
    have : Inhabited Cal := ⟨⟨0, 0, 0, 0, ByteArray.empty, none, 0, 0, [], ⟨0, 0, 0, ByteArray.empty⟩⟩⟩
    obtain ⟨f, hf⟩ := choose_lt (p := fun i (c : Cal) => w.cells? 0 (a.add (i * 10)) 10 = some (callCs c) ∧ CalB w w.heap.size c ∧ weigh c + 1 ≤ Rows.uptoBulk (D i)) each
    have hsp : 0 < len → a = ⟨a.block, a.off, none⟩ := fun hn => by
      obtain ⟨_, _, hc⟩ := World.cells?_some (hf 0 hn).1
      have h0 := hc 0 (by decide)
      rw [Nat.zero_mul, Kit.add_zero, Kit.add_zero] at h0
      have hs := World.cell?_spot h0
      obtain ⟨b, o, s⟩ := a
      have : s = none := hs
      subst this
      rfl
    refine ⟨some a, len, _, (List.range len).map f, rfl, ⟨by simp, fun k c hk => ?_⟩, hl, by omega, ?_⟩
    · have hkl : k < len := by
        have := (List.getElem?_eq_some_iff.1 hk).1
        simpa using this
      have hc : f k = c := by simpa [hkl] using hk
      subst hc
      obtain ⟨h1, h2, _⟩ := hf k hkl
      obtain ⟨_, _, hc⟩ := World.cells?_some h1
      have ha := hsp (by omega)
      have hcell : ∀ j, j < 10 → w.cell? ⟨a.block, a.off + k * 10 + j, none⟩ = (callCs (f k))[j]? := fun j hj => by
        have := hc j hj
        rw [Go.Deep.add_add, add_lit a ha, ← Nat.add_assoc] at this
        exact this
      have h0 := hcell 0 (by decide)
      have hb : a.block < w.heap.size := World.block_lt_of_cell? w (⟨a.block, a.off + k * 10 + 0, none⟩ : Addr) h0
      exact ⟨a.block, a.off, by rw [← ha], hb, ⟨h0, hcell 1 (by decide), hcell 2 (by decide), hcell 3 (by decide), hcell 4 (by decide), hcell 5 (by decide), hcell 6 (by decide), hcell 7 (by decide), hcell 8 (by decide), hcell 9 (by decide)⟩, h2⟩
    · have := bulk_all (D := D) (f := f) fun i hi => (hf i hi).2.2
      simp only [Rows.uptoBulk, List.length_map, List.length_range]
      omega
end
theorem total_of {H : Type} {d0 d1 d2 : DataW H} {l : List Ent} {L : List Cal} (h1 : listD d1 l) (h2 : L.length + (L.map weigh).sum + 1 ≤ Rows.uptoBulk d2) (hall : Rows.uptoBulkAll [d0, d1, d2] ≤ 1048576) : total l L ≤ 1048576 := by
  have := bulk_list h1
  simp only [Rows.uptoBulkAll] at hall
  unfold total
  omega
/-! ### By the row's own hands -/
section
variable {H : Type} {enc : TypeId × Value → H} {w : World} {b0 : Nat} {v : Value} {d : DataW H} {p : List MemPlace}
set_option maxRecDepth 100000 in
theorem arg_snap (hv : Value.okWide Try.prog w .any b0 24 v) (h : DataW.Trod enc Try.prog w 0 (fun _ => true) true 24 v d p) : ∃ s, v = snapV s ∧ SnapB s := by
  obtain ⟨cs, rfl, _⟩ := okWide_struct Try.underlying24 hv
  obtain ⟨fuel, hf⟩ := h
  obtain ⟨s, hs, hb⟩ := open_snapC hf
  exact ⟨s, by unfold snapV; rw [← Array.toArray_toList (xs := cs)]; show Value.agg (List.toArray cs.toList) = _; rw [show cs.toList = _ from hs], hb⟩
set_option maxRecDepth 100000 in
theorem arg_list (hv : Value.okWide Try.prog w .any b0 25 v) (h : DataW.Trod enc Try.prog w 0 (fun _ => true) true 25 v d p) :
    ∃ A n c l, v = .slice A n c ∧ CameE w A n c l ∧ listD d l ∧ ((∀ m ∈ d.weights Try.prog 25, m ≤ reachBytes) → c * 40 ≤ 140737488351232) := by
  obtain ⟨A, n, c, rfl⟩ := okWide_slice Try.underlying25 hv
  obtain ⟨fuel, hf⟩ := h
  obtain ⟨A', n', c', l, he, h1, h2, h3⟩ := open_list hf
  simp [Value.cells] at he
  obtain ⟨rfl, rfl, rfl⟩ := he
  exact ⟨_, _, _, l, rfl, h1, h2, h3⟩
set_option maxRecDepth 100000 in
theorem arg_call (hv : Value.okWide Try.prog w .any b0 37 v) (h : DataW.Trod enc Try.prog w 0 (fun _ => true) true 37 v d p) :
    ∃ c : Cal, v = callV c ∧ CalB w w.heap.size c ∧ ((∀ m ∈ d.weights Try.prog 37, m ≤ reachBytes) → c.n * 40 ≤ 140737488351232) := by
  obtain ⟨cs, rfl, _⟩ := okWide_struct Try.underlying37 hv
  obtain ⟨fuel, hf⟩ := h
  obtain ⟨c, hc, hb, _, hr⟩ := open_callC hf
  exact ⟨c, by unfold callV; rw [← Array.toArray_toList (xs := cs)]; show Value.agg (List.toArray cs.toList) = _; rw [show cs.toList = _ from hc]; rfl, hb, hr⟩
set_option maxRecDepth 100000 in
theorem arg_calls (hv : Value.okWide Try.prog w .any b0 26 v) (h : DataW.Trod enc Try.prog w 0 (fun _ => true) true 26 v d p) :
    ∃ A n c L, v = .slice A n c ∧ Holds w w.heap.size A n L ∧ n ≤ 9223372036854775807 ∧ L.length + (L.map weigh).sum + 1 ≤ Rows.uptoBulk d := by
  obtain ⟨A, n, c, rfl⟩ := okWide_slice Try.underlying26 hv
  obtain ⟨fuel, hf⟩ := h
  obtain ⟨A', n', c', L, he, h1, h2, h3, h4⟩ := open_calls hf
  simp [Value.cells] at he
  obtain ⟨rfl, rfl, rfl⟩ := he
  exact ⟨_, _, _, L, rfl, h1, by omega, h4⟩
end
end Go.Proofs.Ytndehdnffajigaa.Opens
