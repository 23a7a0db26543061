/- How this layer's arguments are opened: calls, integers, a text, numbers that came in. No statement is proved here. -/
import Derived.Test.YtdmlfnknmilhcaaRws
import Derived.Test.YtdmlfnknmilhcaaFrame
import Derived.Test.YtdmlfnknmilhcaaArrs
import Derived.Deep.Slices
import Derived.Lib.SmallJoins
set_option linter.unusedVariables false
set_option linter.unusedSimpArgs false
namespace Go.Proofs.Ytdmlfnknmilhcaa.Opn
open Go.ChangeShapes Go.WideShapes Go.ChangeAt Go.RowKit Go.Deep Go.Proofs.Ytdmlfnknmilhcaa.Frame Go.Proofs.Ytdmlfnknmilhcaa.Kit Go.Proofs.Ytdmlfnknmilhcaa.Ses Go.Proofs.Ytdmlfnknmilhcaa.Rws

theorem i64_wf {z : Int} (h : (Lit.int .i64 z).wf = true) : -9223372036854775808 ≤ z ∧ z ≤ 9223372036854775807 := by
  simpa [Lit.wf, IntKind.min, IntKind.max, IntKind.signed, IntKind.bits] using h
theorem u64_wf {z : Int} (h : (Lit.int .u64 z).wf = true) : ∃ n : Nat, z = (n : Int) ∧ n < 18446744073709551616 := by
  have hb : 0 ≤ z ∧ z ≤ 18446744073709551615 := by simpa [Lit.wf, IntKind.min, IntKind.max, IntKind.signed, IntKind.bits] using h
  exact ⟨z.toNat, by omega, by omega⟩
/-! ### Calls -/
structure Cl where
  k : Int
  id : Nat
  s : Nat
  y : Ry
def clCs (x : Cl) : List Value := [.int .i64 x.k, .int .u64 (x.id : Int), .int .u64 (x.s : Int), .int .i64 x.y.err, .int .u64 (x.y.num : Int), .int .u64 (x.y.ext : Int)]
def ccells (l : List Cl) : List Value := l.flatMap clCs
theorem ccells_length (l : List Cl) : (ccells l).length = l.length * 6 := by
  induction l with
  | nil => rfl
  | cons e l ih => show (clCs e ++ ccells l).length = _; rw [List.length_append, ih]; simp [clCs]; omega
theorem ccells_drop (l : List Cl) (k : Nat) : ccells (l.drop k) = (ccells l).drop (k * 6) := by
  induction l generalizing k with
  | nil => simp [ccells]
  | cons e l ih =>
    cases k with
    | zero => simp
    | succ k =>
      rw [List.drop_succ_cons]
      show _ = (clCs e ++ ccells l).drop _
      rw [ih, List.drop_append, List.drop_of_length_le (l := clCs e) (by show 6 ≤ _; omega), List.nil_append]
      show _ = List.drop ((k + 1) * 6 - 6) _
      rw [show (k + 1) * 6 - 6 = k * 6 by omega]
theorem ccells_get (l : List Cl) (k j : Nat) (e : Cl) (h : l[k]? = some e) (hj : j < 6) : (ccells l)[k * 6 + j]? = (clCs e)[j]? := by
  obtain ⟨hk, rfl⟩ := List.getElem?_eq_some_iff.1 h
  have h1 : (ccells (l.drop k))[j]? = (ccells l)[k * 6 + j]? := by rw [ccells_drop, List.getElem?_drop]
  rw [← h1, List.drop_eq_getElem_cons hk]
  show (clCs _ ++ ccells _)[j]? = _
  rw [List.getElem?_append_left (by show j < 6; exact hj)]
/-- The slice with address A and n elements holds these calls. -/
abbrev RC (w : World) (B : Nat) (A : Option Addr) (n : Nat) (l : List Cl) : Prop := Reads w B 6 A n (ccells l)
structure SixC (w : World) (b o : Nat) (e : Cl) : Prop where
  c0 : w.cell? ⟨b, o, none⟩ = some (.int .i64 e.k)
  c1 : w.cell? ⟨b, o + 1, none⟩ = some (.int .u64 (e.id : Int))
  c2 : w.cell? ⟨b, o + 2, none⟩ = some (.int .u64 (e.s : Int))
  c3 : w.cell? ⟨b, o + 3, none⟩ = some (.int .i64 e.y.err)
  c4 : w.cell? ⟨b, o + 4, none⟩ = some (.int .u64 (e.y.num : Int))
  c5 : w.cell? ⟨b, o + 5, none⟩ = some (.int .u64 (e.y.ext : Int))
theorem SixC.below {w w' : World} {b o B : Nat} {e : Cl} (h : SixC w b o e) (k : Below B w w') (hb : b < B) : SixC w' b o e :=
  ⟨(k.cell (p := ⟨b, o, none⟩) hb).trans h.c0, (k.cell (p := ⟨b, o + 1, none⟩) hb).trans h.c1, (k.cell (p := ⟨b, o + 2, none⟩) hb).trans h.c2, (k.cell (p := ⟨b, o + 3, none⟩) hb).trans h.c3, (k.cell (p := ⟨b, o + 4, none⟩) hb).trans h.c4, (k.cell (p := ⟨b, o + 5, none⟩) hb).trans h.c5⟩
section
variable {w : World} {B n : Nat} {A : Option Addr} {l : List Cl}
theorem RC.len (h : RC w B A n l) : l.length = n := by have := h.1; rw [ccells_length] at this; omega
theorem RC.spot {ad : Addr} (h : RC w B (some ad) n l) (hn : 0 < n) : ad = ⟨ad.block, ad.off, none⟩ := by
  obtain ⟨ad', e, _, hc⟩ := h.2 hn
  cases e
  have hl := RC.len h
  have h0 := hc 0 _ (by rw [ccells_get l 0 0 l[0] (List.getElem?_eq_getElem (by omega)) (by omega)]; rfl)
  rw [add_zero] at h0
  have hs := World.cell?_spot h0
  obtain ⟨b, o, s⟩ := ad
  have : s = none := hs
  subst this
  rfl
theorem RC.at_ (h : RC w B A n l) {k : Nat} (hk : k < n) : ∃ b o e, A = some ⟨b, o, none⟩ ∧ b < B ∧ l[k]? = some e ∧ SixC w b (o + k * 6) e := by
  obtain ⟨ad, rfl, hb, hc⟩ := h.2 (by omega)
  have hsp := RC.spot h (by omega)
  have hl := RC.len h
  have he : l[k]? = some l[k] := List.getElem?_eq_getElem (by omega)
  have hj : ∀ j u, j < 6 → (clCs l[k])[j]? = some u → w.cell? ⟨ad.block, ad.off + (k * 6 + j), none⟩ = some u := fun j u hj hu => by
    have := hc (k * 6 + j) u (by rw [ccells_get l k j _ he hj, hu])
    rw [hsp, Addr.add_lit] at this
    exact this
  exact ⟨ad.block, ad.off, l[k], by rw [← hsp], hb, he, hj 0 _ (by omega) rfl, hj 1 _ (by omega) rfl, hj 2 _ (by omega) rfl, hj 3 _ (by omega) rfl, hj 4 _ (by omega) rfl, hj 5 _ (by omega) rfl⟩
end
def I64 (z : Int) : Prop := -9223372036854775808 ≤ z ∧ z ≤ 9223372036854775807
def ivals (l : List Int) : List Value := l.map fun z => .int .i64 z
structure InC (e : Cl) : Prop where
  k : I64 e.k
  id : U e.id
  s : U e.s
  y : e.y.Ok
section
variable {H : Type} {enc : TypeId × Value → H} {w : World}
set_option maxRecDepth 100000 in
theorem open_ry {fuel : Nat} {cs : List Value} {x : DataW H × List MemPlace} (h : DataW.trod enc Try.prog w 0 (fun _ => true) true fuel 33 cs = some x) : ∃ y : Ry, cs = ryCs y ∧ y.Ok := by
  obtain ⟨xs, n, _, hx, hlen, hxl, hfs⟩ := DataW.trod_struct Try.underlying33 h
  rw [show Try.prog.cellsOf 33 = 3 by kernel_rfl] at hlen
  match cs, hlen, xs, hxl with
  | [v0, v1, v2], _, [y0, y1, y2], _ =>
    have k0 : DataW.trod enc Try.prog w 0 (fun _ => true) true n 31 [v0] = some y0 := hfs 0 _ rfl
    have k1 : DataW.trod enc Try.prog w 0 (fun _ => true) true n 27 [v1] = some y1 := hfs 1 _ rfl
    have k2 : DataW.trod enc Try.prog w 0 (fun _ => true) true n 27 [v2] = some y2 := hfs 2 _ rfl
    obtain ⟨z0, e0, _, r0⟩ := DataW.trod_int Try.underlying31 k0
    obtain ⟨z1, e1, _, r1⟩ := DataW.trod_int Try.underlying27 k1
    obtain ⟨z2, e2, _, r2⟩ := DataW.trod_int Try.underlying27 k2
    simp only [List.cons.injEq, and_true] at e0 e1 e2
    subst e0 e1 e2
    obtain ⟨n1, rfl, h1⟩ := u64_wf r1
    obtain ⟨n2, rfl, h2⟩ := u64_wf r2
    exact ⟨⟨z0, n1, n2⟩, rfl, (i64_wf r0).1, (i64_wf r0).2, h1, h2⟩
set_option maxRecDepth 100000 in
theorem open_cl {fuel : Nat} {cs : List Value} {x : DataW H × List MemPlace} (h : DataW.trod enc Try.prog w 0 (fun _ => true) true fuel 35 cs = some x) : ∃ e : Cl, cs = clCs e ∧ InC e := by
  obtain ⟨xs, n, _, hx, hlen, hxl, hfs⟩ := DataW.trod_struct Try.underlying35 h
  rw [show Try.prog.cellsOf 35 = 6 by kernel_rfl] at hlen
  match cs, hlen, xs, hxl with
  | [v0, v1, v2, v3, v4, v5], _, [y0, y1, y2, y3], _ =>
    have k0 : DataW.trod enc Try.prog w 0 (fun _ => true) true n 3 [v0] = some y0 := hfs 0 _ rfl
    have k1 : DataW.trod enc Try.prog w 0 (fun _ => true) true n 27 [v1] = some y1 := hfs 1 _ rfl
    have k2 : DataW.trod enc Try.prog w 0 (fun _ => true) true n 27 [v2] = some y2 := hfs 2 _ rfl
    have k3 : DataW.trod enc Try.prog w 0 (fun _ => true) true n 33 [v3, v4, v5] = some y3 := hfs 3 _ rfl
    obtain ⟨z0, e0, _, r0⟩ := DataW.trod_int Try.underlying3 k0
    obtain ⟨z1, e1, _, r1⟩ := DataW.trod_int Try.underlying27 k1
    obtain ⟨z2, e2, _, r2⟩ := DataW.trod_int Try.underlying27 k2
    obtain ⟨y, e3, hy⟩ := open_ry k3
    simp only [List.cons.injEq, and_true, ryCs] at e0 e1 e2 e3
    obtain ⟨rfl, rfl, rfl⟩ := e3
    subst e0 e1 e2
    obtain ⟨n1, rfl, h1⟩ := u64_wf r1
    obtain ⟨n2, rfl, h2⟩ := u64_wf r2
    exact ⟨⟨z0, n1, n2, y⟩, rfl, i64_wf r0, h1, h2, hy⟩
set_option maxRecDepth 100000 in
theorem open_cls {fuel : Nat} {cs : List Value} {x : DataW H × List MemPlace} (h : DataW.trod enc Try.prog w 0 (fun _ => true) true fuel 22 cs = some x) :
    ∃ A n c l, cs = [.slice A n c] ∧ RC w w.heap.size A n l ∧ n ≤ 9223372036854775807 ∧ ∀ e ∈ l, InC e := by
  rcases open_slice Try.underlying22 h with ⟨rfl, rfl⟩ | ⟨a, len, cap, m, n, D, Pl, rfl, _, hl, hm, hmm, rfl, hi⟩
  · exact ⟨none, 0, 0, [], rfl, ⟨rfl, fun h => absurd h (by omega)⟩, by omega, fun e he => by cases he⟩
  · unfold maxLen at hm
    simp only [if_true] at hmm
    subst hmm
    have each : ∀ i, i < len → ∃ e : Cl, w.cells? 0 (a.add (i * 6)) 6 = some (clCs e) ∧ InC e := fun i hil => by
      obtain ⟨cs', h1, h2⟩ := hi i (by omega)
      obtain ⟨e, rfl, he⟩ := open_cl h2
      exact ⟨e, h1, he⟩
    have : Inhabited Cl := ⟨⟨0, 0, 0, ⟨0, 0, 0⟩⟩⟩
    obtain ⟨f, hf⟩ := choose_lt (p := fun i (e : Cl) => w.cells? 0 (a.add (i * 6)) 6 = some (clCs e) ∧ InC e) each
    have hat : ∀ k, k < len → ((List.range len).map f)[k]? = some (f k) := fun k hk => by simp [hk]
    refine ⟨some a, len, _, (List.range len).map f, rfl, ⟨?_, fun hn => ?_⟩, by omega, fun e he => ?_⟩
    · rw [ccells_length]; simp
    · have hb : a.block < w.heap.size := by
        obtain ⟨_, _, hc⟩ := World.cells?_some (hf 0 hn).1
        have h0 := hc 0 (by decide)
        rw [Nat.zero_mul, Kit.add_zero, Kit.add_zero] at h0
        exact World.block_lt_of_cell? _ _ h0
      refine ⟨a, rfl, hb, fun j u hj => ?_⟩
      have hjl : j < len * 6 := by
        have := (List.getElem?_eq_some_iff.1 hj).1
        rw [ccells_length] at this
        simpa using this
      obtain ⟨k, r, hr, rfl⟩ : ∃ k r, r < 6 ∧ j = k * 6 + r := ⟨j / 6, j % 6, by omega, by omega⟩
      have hk : k < len := by omega
      rw [ccells_get _ k r _ (hat k hk) hr] at hj
      obtain ⟨_, _, hc⟩ := World.cells?_some (hf k hk).1
      have h0 := hc r hr
      rw [Go.Deep.add_add, hj] at h0
      exact h0
    · obtain ⟨k, hk, rfl⟩ := List.mem_map.1 he
      exact (hf k (List.mem_range.1 hk)).2
set_option maxRecDepth 100000 in
theorem open_ints {fuel : Nat} {cs : List Value} {x : DataW H × List MemPlace} (h : DataW.trod enc Try.prog w 0 (fun _ => true) true fuel 63 cs = some x) :
    ∃ A n c, ∃ l : List Int, cs = [.slice A n c] ∧ Reads w w.heap.size 1 A n (ivals l) ∧ n ≤ 9223372036854775807 := by
  rcases open_slice Try.underlying63 h with ⟨rfl, rfl⟩ | ⟨a, len, cap, m, n, D, Pl, rfl, _, hl, hm, hmm, rfl, hi⟩
  · exact ⟨none, 0, 0, [], rfl, ⟨rfl, fun h => absurd h (by omega)⟩, by omega⟩
  · unfold maxLen at hm
    simp only [if_true] at hmm
    subst hmm
    have each : ∀ i, i < len → ∃ e : Int, w.cells? 0 (a.add (i * 1)) 1 = some [Value.int .i64 e] ∧ I64 e := fun i hil => by
      obtain ⟨cs', h1, h2⟩ := hi i (by omega)
      obtain ⟨_, hlen, _⟩ := World.cells?_some h1
      rw [show Try.prog.cellsOf 3 = 1 by kernel_rfl] at h1
      obtain ⟨_, hlen, _⟩ := World.cells?_some h1
      match cs', hlen with
      | [v0], _ =>
        obtain ⟨z, e, _, r⟩ := DataW.trod_int Try.underlying3 h2
        simp only [List.cons.injEq, and_true] at e
        subst e
        exact ⟨z, h1, i64_wf r⟩
    obtain ⟨f, hf⟩ := choose_lt (p := fun i (e : Int) => w.cells? 0 (a.add (i * 1)) 1 = some [Value.int .i64 e] ∧ I64 e) each
    refine ⟨some a, len, _, (List.range len).map f, rfl, ⟨by simp [ivals], fun hn => ?_⟩, by omega⟩
    have hb : a.block < w.heap.size := by
      obtain ⟨_, _, hc⟩ := World.cells?_some (hf 0 hn).1
      have h0 := hc 0 (by decide)
      rw [Nat.zero_mul, Kit.add_zero, Kit.add_zero] at h0
      exact World.block_lt_of_cell? _ _ h0
    refine ⟨a, rfl, hb, fun j u hj => ?_⟩
    have hjl : j < len := by
      have := (List.getElem?_eq_some_iff.1 hj).1
      simpa [ivals] using this
    obtain ⟨_, _, hc⟩ := World.cells?_some (hf j hjl).1
    have h0 := hc 0 (by decide)
    rw [Nat.mul_one, Kit.add_zero] at h0
    rw [h0, ← hj]
    simp [ivals, hjl]
end
section
variable {H : Type} {enc : TypeId × Value → H} {w : World} {b0 : Nat} {v : Value} {d : DataW H} {p : List MemPlace}
set_option maxRecDepth 100000 in
theorem arg_cls (hv : Value.okWide Try.prog w .any b0 22 v) (h : DataW.Trod enc Try.prog w 0 (fun _ => true) true 22 v d p) :
    ∃ A n c l, v = .slice A n c ∧ RC w w.heap.size A n l ∧ n ≤ 9223372036854775807 ∧ ∀ e ∈ l, InC e := by
  obtain ⟨A, n, c, rfl⟩ := okWide_slice Try.underlying22 hv
  obtain ⟨fuel, hf⟩ := h
  obtain ⟨A', n', c', l, he, hl, hn, hi⟩ := open_cls hf
  simp [Value.cells] at he
  obtain ⟨rfl, rfl, rfl⟩ := he
  exact ⟨_, _, _, l, rfl, hl, hn, hi⟩
set_option maxRecDepth 100000 in
theorem arg_ints (hv : Value.okWide Try.prog w .any b0 63 v) (h : DataW.Trod enc Try.prog w 0 (fun _ => true) true 63 v d p) :
    ∃ A n c, ∃ l : List Int, v = .slice A n c ∧ Reads w w.heap.size 1 A n (ivals l) ∧ n ≤ 9223372036854775807 := by
  obtain ⟨A, n, c, rfl⟩ := okWide_slice Try.underlying63 hv
  obtain ⟨fuel, hf⟩ := h
  obtain ⟨A', n', c', l, he, hl, hn⟩ := open_ints hf
  simp [Value.cells] at he
  obtain ⟨rfl, rfl, rfl⟩ := he
  exact ⟨_, _, _, l, rfl, hl, hn⟩
theorem arg_u64 (hv : Value.okWide Try.prog w .any b0 27 v) (h : DataW.Trod enc Try.prog w 0 (fun _ => true) true 27 v d p) :
    ∃ z : Nat, v = .int .u64 (z : Int) ∧ U z := by
  obtain ⟨z, rfl, _, _, hw⟩ := open_int Try.underlying27 hv h
  obtain ⟨n, rfl, hn⟩ := u64_wf hw
  exact ⟨n, rfl, hn⟩
theorem arg_text (hv : Value.okWide Try.prog w .any b0 9 v) (h : DataW.Trod enc Try.prog w 0 (fun _ => true) true 9 v d p) :
    ∃ s : ByteArray, v = .string s ∧ ((∀ m ∈ d.weights Try.prog 9, m ≤ reachBytes) → s.size ≤ 281474976710656) := by
  obtain ⟨s, rfl⟩ := okWide_string Try.underlying9 hv
  obtain ⟨fuel, hf⟩ := h
  obtain ⟨s', h', hx, _⟩ := DataW.trod_string Try.underlying9 hf
  simp [Value.cells] at h'
  subst h'
  simp only [Prod.mk.injEq] at hx
  obtain ⟨rfl, rfl⟩ := hx
  refine ⟨s, rfl, fun hr => ?_⟩
  have := hr s.size (by rw [Lib.size_eq]; exact List.mem_cons_self)
  simp only [reachBytes] at this
  omega
theorem arg_int (hv : Value.okWide Try.prog w .any b0 3 v) (h : DataW.Trod enc Try.prog w 0 (fun _ => true) true 3 v d p) :
    ∃ z : Int, v = .int .i64 z ∧ (-9223372036854775808 ≤ z ∧ z ≤ 9223372036854775807) := by
  obtain ⟨z, rfl, _, _, hw⟩ := open_int Try.underlying3 hv h
  exact ⟨z, rfl, i64_wf hw⟩
end
end Go.Proofs.Ytdmlfnknmilhcaa.Opn
