/- How the arguments of layer 12's statements are opened: a node's beginning, a slice of calls; what is known of a call. No statement is proved here. -/
import Derived.Test.YtdbmpfongfiagaaFwd
import Derived.Test.YtdbmpfongfiagaaNodAt
import Derived.Test.YtdbmpfongfiagaaRlgWalkD
import Derived.Test.YtdbmpfongfiagaaFrame
import Derived.Deep.Slices
import Derived.Lib.SmallJoins
set_option linter.unusedVariables false
set_option linter.unusedSimpArgs false
namespace Go.Proofs.Ytdbmpfongfiagaa.OpensC
open Go.ChangeShapes Go.WideShapes Go.ChangeAt Go.RowKit Go.Deep Go.Proofs.Ytdbmpfongfiagaa.Kit Go.Proofs.Ytdbmpfongfiagaa.Blocks Go.Proofs.Ytdbmpfongfiagaa.Rlog Go.Proofs.Ytdbmpfongfiagaa.Ents Go.Proofs.Ytdbmpfongfiagaa.LogAt Go.Proofs.Ytdbmpfongfiagaa.Nod Go.Proofs.Ytdbmpfongfiagaa.NodAt

theorem i64_wf {z : Int} (h : (Lit.int .i64 z).wf = true) : -9223372036854775808 ≤ z ∧ z ≤ 9223372036854775807 := by
  simpa [Lit.wf, IntKind.min, IntKind.max, IntKind.signed, IntKind.bits] using h
theorem u64_wf {z : Int} (h : (Lit.int .u64 z).wf = true) : ∃ n : Nat, z = (n : Int) ∧ n < 18446744073709551616 := by
  have hb : 0 ≤ z ∧ z ≤ 18446744073709551615 := by simpa [Lit.wf, IntKind.min, IntKind.max, IntKind.signed, IntKind.bits] using h
  exact ⟨z.toNat, by omega, by omega⟩
theorem add_lit (a : Addr) (h : a = ⟨a.block, a.off, none⟩) (i : Nat) : a.add i = ⟨a.block, a.off + i, none⟩ := by
  rw [h]
  unfold Addr.add
  split
  · rename_i e; subst e; rfl
  · rfl

/-! ### Calls -/
structure Cal where
  kind : Int
  x : Msg
  a : Pl
  data : ByteArray
  id : Int
  idx : Nat
  add : Bool
def callCs (c : Cal) : List Value := [.int .i64 c.kind, .int .i64 c.x.k, .int .i64 c.x.f, .int .i64 c.x.t, .int .u64 (c.x.tm : Int), .int .u64 (c.x.ix : Int), .int .u64 (c.x.pv : Int), .int .u64 (c.x.cm : Int), .bool c.x.ok, .slice c.a.A c.a.n c.a.c, .string c.x.d, .string c.data, .int .i64 c.id, .int .u64 (c.idx : Int), .bool c.add]
def dataW (l : List Ent) : Nat := (l.map fun e => e.data.size / 100).sum
def bigW (c : Cal) : Nat := c.x.es.length + c.data.size + c.x.d.size + dataW c.x.es
def weigh (c : Cal) : Nat := c.x.es.length + (c.data.size + c.x.d.size) / 100 + dataW c.x.es
def total (l : List Ent) (L : List Cal) : Nat := l.length + L.length + dataW l + (L.map weigh).sum
theorem dataW_snoc (l : List Ent) (e : Ent) : dataW (l ++ [e]) = dataW l + e.data.size / 100 := by simp [dataW]
theorem weigh_snoc (L : List Cal) (x : Cal) : ((L ++ [x]).map weigh).sum = (L.map weigh).sum + weigh x := by simp
/-- What is known of a call that came in. -/
structure CalB (w : World) (B : Nat) (c : Cal) : Prop where
  k0 : -9223372036854775808 ≤ c.kind
  k1 : c.kind ≤ 9223372036854775807
  msg : MsgB c.x
  list : RE w B c.a.A c.a.n c.x.es
  fits : c.a.n ≤ c.a.c
  max : c.a.c ≤ 9223372036854775807
  i0 : -9223372036854775808 ≤ c.id
  i1 : c.id ≤ 9223372036854775807
  idx : c.idx < 18446744073709551616
  small : bigW c ≤ 1048576
theorem CalB.below {w w' : World} {B B' : Nat} {c : Cal} (h : CalB w B c) (k : Below B w w') (hB : B ≤ B') : CalB w' B' c :=
  ⟨h.k0, h.k1, h.msg, (Kit.Reads.below h.list k).more hB, h.fits, h.max, h.i0, h.i1, h.idx, h.small⟩
/-- The call lies at these cells. -/
structure Fifteen (w : World) (b o : Nat) (c : Cal) : Prop where
  c0 : w.cell? ⟨b, o, none⟩ = some (.int .i64 c.kind)
  c1 : w.cell? ⟨b, o + 1, none⟩ = some (.int .i64 c.x.k)
  c2 : w.cell? ⟨b, o + 2, none⟩ = some (.int .i64 c.x.f)
  c3 : w.cell? ⟨b, o + 3, none⟩ = some (.int .i64 c.x.t)
  c4 : w.cell? ⟨b, o + 4, none⟩ = some (.int .u64 (c.x.tm : Int))
  c5 : w.cell? ⟨b, o + 5, none⟩ = some (.int .u64 (c.x.ix : Int))
  c6 : w.cell? ⟨b, o + 6, none⟩ = some (.int .u64 (c.x.pv : Int))
  c7 : w.cell? ⟨b, o + 7, none⟩ = some (.int .u64 (c.x.cm : Int))
  c8 : w.cell? ⟨b, o + 8, none⟩ = some (.bool c.x.ok)
  c9 : w.cell? ⟨b, o + 9, none⟩ = some (.slice c.a.A c.a.n c.a.c)
  c10 : w.cell? ⟨b, o + 10, none⟩ = some (.string c.x.d)
  c11 : w.cell? ⟨b, o + 11, none⟩ = some (.string c.data)
  c12 : w.cell? ⟨b, o + 12, none⟩ = some (.int .i64 c.id)
  c13 : w.cell? ⟨b, o + 13, none⟩ = some (.int .u64 (c.idx : Int))
  c14 : w.cell? ⟨b, o + 14, none⟩ = some (.bool c.add)
theorem Fifteen.below {w w' : World} {b o : Nat} {c : Cal} {B : Nat} (h : Fifteen w b o c) (k : Below B w w') (hb : b < B) : Fifteen w' b o c :=
  ⟨(k.cell (p := ⟨b, o, none⟩) hb).trans h.c0, (k.cell (p := ⟨b, o + 1, none⟩) hb).trans h.c1, (k.cell (p := ⟨b, o + 2, none⟩) hb).trans h.c2, (k.cell (p := ⟨b, o + 3, none⟩) hb).trans h.c3, (k.cell (p := ⟨b, o + 4, none⟩) hb).trans h.c4,
    (k.cell (p := ⟨b, o + 5, none⟩) hb).trans h.c5, (k.cell (p := ⟨b, o + 6, none⟩) hb).trans h.c6, (k.cell (p := ⟨b, o + 7, none⟩) hb).trans h.c7, (k.cell (p := ⟨b, o + 8, none⟩) hb).trans h.c8, (k.cell (p := ⟨b, o + 9, none⟩) hb).trans h.c9,
    (k.cell (p := ⟨b, o + 10, none⟩) hb).trans h.c10, (k.cell (p := ⟨b, o + 11, none⟩) hb).trans h.c11, (k.cell (p := ⟨b, o + 12, none⟩) hb).trans h.c12, (k.cell (p := ⟨b, o + 13, none⟩) hb).trans h.c13, (k.cell (p := ⟨b, o + 14, none⟩) hb).trans h.c14⟩
/-- The slice with address a and n elements holds these calls. -/
def Holds (w : World) (B : Nat) (a : Option Addr) (n : Nat) (L : List Cal) : Prop :=
  L.length = n ∧ ∀ (k : Nat) (c : Cal), L[k]? = some c → ∃ b o, a = some ⟨b, o, none⟩ ∧ b < B ∧ Fifteen w b (o + k * 15) c ∧ CalB w B c
theorem Holds.below {w w' : World} {B B' : Nat} {a : Option Addr} {n : Nat} {L : List Cal} (h : Holds w B a n L) (k : Below B w w') (hB : B ≤ B') : Holds w' B' a n L := by
  refine ⟨h.1, fun i x hx => ?_⟩
  obtain ⟨b, o, ha, hb, ht, hc⟩ := h.2 i x hx
  exact ⟨b, o, ha, by omega, ht.below k hb, hc.below k hB⟩
theorem Holds.nil (w : World) (B : Nat) (a : Option Addr) : Holds w B a 0 [] := ⟨rfl, fun k x hx => by simp at hx⟩

/-! ### What is read -/
def strD {H : Type} (s : ByteArray) : DataW H := .lit (.string s.data.toList)
def entD {H : Type} (e : Ent) : DataW H := .agg [.lit (.int .u64 (e.term : Int)), .lit (.int .u64 (e.idx : Int)), .lit (.int .i64 e.kind), strD e.data]
def listD {H : Type} (d : DataW H) (l : List Ent) : Prop := (d = .nil ∧ l = []) ∨ ∃ sp, d = .slice (l.map entD) sp
section
variable {H : Type} {enc : TypeId × Value → H} {w : World}
set_option maxRecDepth 100000 in
theorem open_ent {fuel : Nat} {cs : List Value} {x : DataW H × List MemPlace} (h : DataW.trod enc Try.prog w 0 (fun _ => true) true fuel 57 cs = some x) : ∃ e : Ent, cs = entCs e ∧ EntB e ∧ x.1 = entD e := by
  have hlen := (DataW.trod_struct Try.underlying57 h).choose_spec.choose_spec.2.2.1
  rw [show Try.prog.cellsOf 57 = 4 by kernel_rfl] at hlen
  match cs, hlen with
  | [v0, v1, v2, v3], _ =>
    obtain ⟨y0, y1, y2, y3, n, rfl, _, h0, h1, h2, h3⟩ := Joins.trod_struct4 Try.underlying57 h
    have k0 : DataW.trod enc Try.prog w 0 (fun _ => true) true n 22 [v0] = some y0 := h0
    have k1 : DataW.trod enc Try.prog w 0 (fun _ => true) true n 22 [v1] = some y1 := h1
    have k2 : DataW.trod enc Try.prog w 0 (fun _ => true) true n 3 [v2] = some y2 := h2
    have k3 : DataW.trod enc Try.prog w 0 (fun _ => true) true n 9 [v3] = some y3 := h3
    obtain ⟨z0, e0, rfl, r0⟩ := DataW.trod_int Try.underlying22 k0
    obtain ⟨z1, e1, rfl, r1⟩ := DataW.trod_int Try.underlying22 k1
    obtain ⟨z2, e2, rfl, r2⟩ := DataW.trod_int Try.underlying3 k2
    obtain ⟨s, e3, rfl, r3⟩ := DataW.trod_string Try.underlying9 k3
    simp at e0 e1 e2 e3
    subst e0 e1 e2 e3
    obtain ⟨t, rfl, ht⟩ := u64_wf r0
    obtain ⟨i, rfl, hi⟩ := u64_wf r1
    have hk := i64_wf r2
    unfold maxLen at r3
    exact ⟨⟨t, i, z2, s⟩, rfl, ⟨ht, hi, hk.1, hk.2, by simp only []; omega⟩, rfl⟩
set_option maxRecDepth 100000 in
theorem open_snapC {fuel : Nat} {cs : List Value} {x : DataW H × List MemPlace} (h : DataW.trod enc Try.prog w 0 (fun _ => true) true fuel 26 cs = some x) :
    ∃ s : Snap, cs = [.int .u64 (s.idx : Int), .int .u64 (s.term : Int), .int .u64 (s.cfg : Int), .string s.data] ∧ SnapB s := by
  have hlen := (DataW.trod_struct Try.underlying26 h).choose_spec.choose_spec.2.2.1
  rw [show Try.prog.cellsOf 26 = 4 by kernel_rfl] at hlen
  match cs, hlen with
  | [v0, v1, v2, v3], _ =>
    obtain ⟨y0, y1, y2, y3, n, rfl, _, h0, h1, h2, h3⟩ := Joins.trod_struct4 Try.underlying26 h
    have k0 : DataW.trod enc Try.prog w 0 (fun _ => true) true n 22 [v0] = some y0 := h0
    have k1 : DataW.trod enc Try.prog w 0 (fun _ => true) true n 22 [v1] = some y1 := h1
    have k2 : DataW.trod enc Try.prog w 0 (fun _ => true) true n 22 [v2] = some y2 := h2
    have k3 : DataW.trod enc Try.prog w 0 (fun _ => true) true n 9 [v3] = some y3 := h3
    obtain ⟨z0, e0, rfl, r0⟩ := DataW.trod_int Try.underlying22 k0
    obtain ⟨z1, e1, rfl, r1⟩ := DataW.trod_int Try.underlying22 k1
    obtain ⟨z2, e2, rfl, r2⟩ := DataW.trod_int Try.underlying22 k2
    obtain ⟨s, e3, rfl, r3⟩ := DataW.trod_string Try.underlying9 k3
    simp at e0 e1 e2 e3
    subst e0 e1 e2 e3
    obtain ⟨t, rfl, ht⟩ := u64_wf r0
    obtain ⟨i, rfl, hi⟩ := u64_wf r1
    obtain ⟨c, rfl, hc⟩ := u64_wf r2
    exact ⟨⟨t, i, c, s⟩, rfl, ⟨ht, hi, hc⟩⟩
/-- A slice of entries that came in. -/
structure CameE (w : World) (A : Option Addr) (n c : Nat) (l : List Ent) : Prop where
  reads : RE w w.heap.size A n l
  fits : n ≤ c
  max : c ≤ 9223372036854775807
  ents : ∀ e ∈ l, EntB e
set_option maxRecDepth 100000 in
theorem open_list {fuel : Nat} {cs : List Value} {x : DataW H × List MemPlace} (h : DataW.trod enc Try.prog w 0 (fun _ => true) true fuel 27 cs = some x) :
    ∃ A n c l, cs = [.slice A n c] ∧ CameE w A n c l ∧ listD x.1 l ∧ ((∀ m ∈ x.1.weights Try.prog 27, m ≤ reachBytes) → c * 40 ≤ 140737488351232) := by
  rcases open_slice Try.underlying27 h with ⟨rfl, rfl⟩ | ⟨a, len, cap, m, n, D, Pl, rfl, _, hl, hm, hmm, rfl, hi⟩
  · exact ⟨none, 0, 0, [], rfl, ⟨RE.nil _ _ _, by omega, by omega, by simp⟩, .inl ⟨rfl, rfl⟩, fun _ => by omega⟩
  · unfold maxLen at hm
    simp only [if_true] at hmm
    subst hmm
    have each : ∀ i, i < len → ∃ e : Ent, w.cells? 0 (a.add (i * 4)) 4 = some (entCs e) ∧ EntB e ∧ D i = entD e := fun i hil => by
      obtain ⟨cs', h1, h2⟩ := hi i (by omega)
      obtain ⟨e, rfl, he, hd⟩ := open_ent h2
      exact ⟨e, h1, he, hd⟩
    have : Inhabited Ent := ⟨⟨0, 0, 0, ByteArray.empty⟩⟩
    obtain ⟨f, hf⟩ := choose_lt (p := fun i (e : Ent) => w.cells? 0 (a.add (i * 4)) 4 = some (entCs e) ∧ EntB e ∧ D i = entD e) each
    have hat : ∀ k, k < len → ((List.range len).map f)[k]? = some (f k) := fun k hk => by simp [hk]
    refine ⟨some a, len, _, (List.range len).map f, rfl, ⟨⟨?_, fun hn => ?_⟩, hl, by omega, fun e he => ?_⟩, .inr ⟨(List.range (m - len)).map fun j => D (len + j), ?_⟩, fun hw => ?_⟩
    · rw [ecells_length]; simp
    · have hb : a.block < w.heap.size := by
        obtain ⟨_, _, hc⟩ := World.cells?_some (hf 0 hn).1
        have h0 := hc 0 (by decide)
        rw [Nat.zero_mul, Kit.add_zero, Kit.add_zero] at h0
        exact World.block_lt_of_cell? _ _ h0
      refine ⟨a, rfl, hb, fun j u hj => ?_⟩
      have hjl : j < len * 4 := by
        have := (List.getElem?_eq_some_iff.1 hj).1
        rw [ecells_length] at this
        simpa using this
      obtain ⟨k, r, hr, rfl⟩ : ∃ k r, r < 4 ∧ j = k * 4 + r := ⟨j / 4, j % 4, by omega, by omega⟩
      have hk : k < len := by omega
      rw [ecells_get _ k r _ (hat k hk) hr] at hj
      obtain ⟨_, _, hc⟩ := World.cells?_some (hf k hk).1
      have h0 := hc r hr
      rw [Go.Deep.add_add, hj] at h0
      exact h0
    · obtain ⟨k, hk, rfl⟩ := List.mem_map.1 he
      exact (hf k (List.mem_range.1 hk)).2.1
    · simp only [List.map_map]
      congr 1
      exact List.map_congr_left fun k hk => (hf k (List.mem_range.1 hk)).2.2
    · have := hw ((((List.range len).map D).length + ((List.range (m - len)).map fun j => D (len + j)).length) * Try.prog.bytesOf 57) (by simp [DataW.weights, Try.underlying27])
      rw [show Try.prog.bytesOf 57 = 40 by kernel_rfl] at this
      simp only [List.length_map, List.length_range, reachBytes] at this
      omega

/-! ### The second form's bound -/
theorem bulk_ents {l : List Ent} : l.length + dataW l ≤ Rows.uptoBulkAll (H := H) (l.map entD) := by
  induction l with
  | nil => simp [dataW, Rows.uptoBulkAll]
  | cons e l ih =>
    have h2 : dataW (e :: l) = e.data.size / 100 + dataW l := by simp [dataW]
    have hs : e.data.data.toList.length = e.data.size := by simp
    simp only [List.map_cons, Rows.uptoBulkAll, List.length_cons, entD, strD, Rows.uptoBulk, hs]
    omega
theorem bulk_list {d : DataW H} {l : List Ent} (h : listD d l) : l.length + dataW l + 1 ≤ Rows.uptoBulk d := by
  rcases h with ⟨rfl, rfl⟩ | ⟨sp, rfl⟩
  · simp [dataW, Rows.uptoBulk]
  · have := bulk_ents (H := H) (l := l)
    simp only [Rows.uptoBulk]
    omega
end
section
variable {H : Type} {enc : TypeId × Value → H} {w : World}
set_option maxRecDepth 100000 in
set_option maxHeartbeats 2000000 in
theorem open_letter {fuel : Nat} {cs : List Value} {x : DataW H × List MemPlace} (h : DataW.trod enc Try.prog w 0 (fun _ => true) true fuel 41 cs = some x) :
    ∃ (y : Msg) (a : Pl), cs = ltCs y a ∧ (y.es.length ≤ 1048576 → MsgB y) ∧ RE w w.heap.size a.A a.n y.es ∧ a.n ≤ a.c ∧ a.c ≤ 9223372036854775807 ∧ y.es.length + dataW y.es + y.d.size + 1 ≤ Rows.uptoBulk x.1 := by
  obtain ⟨xs, n, _, rfl, hlen, hxl, hfs⟩ := DataW.trod_struct Try.underlying41 h
  rw [show Try.prog.cellsOf 41 = 10 by kernel_rfl] at hlen
  match cs, hlen, xs, hxl with
  | [v0, v1, v2, v3, v4, v5, v6, v7, v8, v9], _, [y0, y1, y2, y3, y4, y5, y6, y7, y8, y9], _ =>
    have k0 : DataW.trod enc Try.prog w 0 (fun _ => true) true n 3 [v0] = some y0 := hfs 0 _ rfl
    have k1 : DataW.trod enc Try.prog w 0 (fun _ => true) true n 3 [v1] = some y1 := hfs 1 _ rfl
    have k2 : DataW.trod enc Try.prog w 0 (fun _ => true) true n 3 [v2] = some y2 := hfs 2 _ rfl
    have k3 : DataW.trod enc Try.prog w 0 (fun _ => true) true n 22 [v3] = some y3 := hfs 3 _ rfl
    have k4 : DataW.trod enc Try.prog w 0 (fun _ => true) true n 22 [v4] = some y4 := hfs 4 _ rfl
    have k5 : DataW.trod enc Try.prog w 0 (fun _ => true) true n 22 [v5] = some y5 := hfs 5 _ rfl
    have k6 : DataW.trod enc Try.prog w 0 (fun _ => true) true n 22 [v6] = some y6 := hfs 6 _ rfl
    have k7 : DataW.trod enc Try.prog w 0 (fun _ => true) true n 4 [v7] = some y7 := hfs 7 _ rfl
    have k8 : DataW.trod enc Try.prog w 0 (fun _ => true) true n 27 [v8] = some y8 := hfs 8 _ rfl
    have k9 : DataW.trod enc Try.prog w 0 (fun _ => true) true n 9 [v9] = some y9 := hfs 9 _ rfl
    obtain ⟨z0, e0, rfl, r0⟩ := DataW.trod_int Try.underlying3 k0
    obtain ⟨z1, e1, rfl, r1⟩ := DataW.trod_int Try.underlying3 k1
    obtain ⟨z2, e2, rfl, r2⟩ := DataW.trod_int Try.underlying3 k2
    obtain ⟨z3, e3, rfl, r3⟩ := DataW.trod_int Try.underlying22 k3
    obtain ⟨z4, e4, rfl, r4⟩ := DataW.trod_int Try.underlying22 k4
    obtain ⟨z5, e5, rfl, r5⟩ := DataW.trod_int Try.underlying22 k5
    obtain ⟨z6, e6, rfl, r6⟩ := DataW.trod_int Try.underlying22 k6
    obtain ⟨z7, e7, rfl⟩ := DataW.trod_bool Try.underlying4 k7
    obtain ⟨A, ln, cp, l, e8, hl, hd, _⟩ := open_list k8
    obtain ⟨s, e9, rfl, r9⟩ := DataW.trod_string Try.underlying9 k9
    simp only [List.cons.injEq, and_true] at e0 e1 e2 e3 e4 e5 e6 e7 e8 e9
    subst e0 e1 e2 e3 e4 e5 e6 e7 e8 e9
    obtain ⟨t3, rfl, h3⟩ := u64_wf r3
    obtain ⟨t4, rfl, h4⟩ := u64_wf r4
    obtain ⟨t5, rfl, h5⟩ := u64_wf r5
    obtain ⟨t6, rfl, h6⟩ := u64_wf r6
    have b0 := i64_wf r0
    have b1 := i64_wf r1
    have b2 := i64_wf r2
    refine ⟨⟨z0, z1, z2, t3, t4, t5, t6, z7, l, s⟩, ⟨A, ln, cp⟩, rfl, fun hs => ⟨b0.1, b0.2, b1.1, b1.2, b2.1, b2.2, h3, h4, h5, h6, hl.ents, ?_⟩, hl.reads, hl.fits, hl.max, ?_⟩
    · have hs' : l.length ≤ 1048576 := hs
      show l.length * 40 ≤ _
      omega
    · have q1 := bulk_list hd
      have hs : s.data.toList.length = s.size := by simp
      simp only [Rows.uptoBulk, Rows.uptoBulkAll, List.map_cons, List.map_nil, hs]
      omega
set_option maxRecDepth 100000 in
set_option maxHeartbeats 2000000 in
theorem open_callC {fuel : Nat} {cs : List Value} {x : DataW H × List MemPlace} (h : DataW.trod enc Try.prog w 0 (fun _ => true) true fuel 43 cs = some x) :
    ∃ c : Cal, cs = callCs c ∧ (bigW c ≤ 1048576 → CalB w w.heap.size c) ∧ bigW c + 1 ≤ Rows.uptoBulk x.1 := by
  obtain ⟨xs, n, _, rfl, hlen, hxl, hfs⟩ := DataW.trod_struct Try.underlying43 h
  rw [show Try.prog.cellsOf 43 = 15 by kernel_rfl] at hlen
  match cs, hlen, xs, hxl with
  | [v0, v1, v2, v3, v4, v5, v6, v7, v8, v9, v10, v11, v12, v13, v14], _, [y0, y1, y2, y3, y4, y5], _ =>
    have k0 : DataW.trod enc Try.prog w 0 (fun _ => true) true n 3 [v0] = some y0 := hfs 0 _ rfl
    have k1 : DataW.trod enc Try.prog w 0 (fun _ => true) true n 41 [v1, v2, v3, v4, v5, v6, v7, v8, v9, v10] = some y1 := hfs 1 _ rfl
    have k2 : DataW.trod enc Try.prog w 0 (fun _ => true) true n 9 [v11] = some y2 := hfs 2 _ rfl
    have k3 : DataW.trod enc Try.prog w 0 (fun _ => true) true n 3 [v12] = some y3 := hfs 3 _ rfl
    have k4 : DataW.trod enc Try.prog w 0 (fun _ => true) true n 22 [v13] = some y4 := hfs 4 _ rfl
    have k5 : DataW.trod enc Try.prog w 0 (fun _ => true) true n 4 [v14] = some y5 := hfs 5 _ rfl
    obtain ⟨z0, e0, rfl, r0⟩ := DataW.trod_int Try.underlying3 k0
    obtain ⟨y, a, e1, hm, hr, hf, hx, hb⟩ := open_letter k1
    obtain ⟨s, e2, rfl, r2⟩ := DataW.trod_string Try.underlying9 k2
    obtain ⟨z3, e3, rfl, r3⟩ := DataW.trod_int Try.underlying3 k3
    obtain ⟨z4, e4, rfl, r4⟩ := DataW.trod_int Try.underlying22 k4
    obtain ⟨z5, e5, rfl⟩ := DataW.trod_bool Try.underlying4 k5
    simp only [ltCs, List.cons.injEq, and_true] at e0 e1 e2 e3 e4 e5
    obtain ⟨rfl, rfl, rfl, rfl, rfl, rfl, rfl, rfl, rfl, rfl⟩ := e1
    subst e0 e2 e3 e4 e5
    obtain ⟨ix, rfl, hix⟩ := u64_wf r4
    have b0 := i64_wf r0
    have b3 := i64_wf r3
    refine ⟨⟨z0, y, a, s, z3, ix, z5⟩, rfl, fun hsm => ⟨b0.1, b0.2, hm ?_, hr, hf, hx, b3.1, b3.2, hix, hsm⟩, ?_⟩
    · have : y.es.length + s.size + y.d.size + dataW y.es ≤ 1048576 := hsm
      omega
    · have hs : s.data.toList.length = s.size := by simp
      show y.es.length + s.size + y.d.size + dataW y.es + 1 ≤ _
      simp only [Rows.uptoBulk, Rows.uptoBulkAll, List.map_cons, List.map_nil, hs]
      omega
theorem bulk_all {n : Nat} {D : Nat → DataW H} {f : Nat → Cal} (h : ∀ i, i < n → bigW (f i) + 1 ≤ Rows.uptoBulk (D i)) : n + (((List.range n).map f).map bigW).sum ≤ Rows.uptoBulkAll ((List.range n).map D) := by
  have key : ∀ L : List Nat, (∀ i ∈ L, i < n) → L.length + ((L.map f).map bigW).sum ≤ Rows.uptoBulkAll (L.map D) := by
    intro L
    induction L with
    | nil => intro _; simp [Rows.uptoBulkAll]
    | cons i L ih =>
      intro hL
      have h1 := ih fun j hj => hL j (by simp [hj])
      have h2 := h i (hL i (by simp))
      simp only [List.map_cons, List.sum_cons, List.length_cons, Rows.uptoBulkAll]
      omega
  have := key (List.range n) fun i hi => List.mem_range.1 hi
  simpa using this
theorem sum_mem {α : Type} {f : α → Nat} {l : List α} {x : α} (h : x ∈ l) : f x ≤ (l.map f).sum := by
  induction l with
  | nil => cases h
  | cons y l ih =>
    rw [List.map_cons, List.sum_cons]
    rcases List.mem_cons.1 h with rfl | h
    · omega
    · have := ih h; omega
set_option maxRecDepth 100000 in
theorem open_calls {fuel : Nat} {cs : List Value} {x : DataW H × List MemPlace} (h : DataW.trod enc Try.prog w 0 (fun _ => true) true fuel 30 cs = some x) :
    ∃ A n c L, cs = [.slice A n c] ∧ (Rows.uptoBulk x.1 ≤ 1048576 → Holds w w.heap.size A n L) ∧ n ≤ c ∧ c ≤ 9223372036854775807 ∧ L.length + (L.map bigW).sum + 1 ≤ Rows.uptoBulk x.1 := by
  rcases open_slice Try.underlying30 h with ⟨rfl, rfl⟩ | ⟨a, len, cap, m, n, D, Pl, rfl, _, hl, hm, hmm, rfl, hi⟩
  · exact ⟨none, 0, 0, [], rfl, fun _ => Holds.nil _ _ _, by omega, by omega, by simp [Rows.uptoBulk]⟩
  · unfold maxLen at hm
    simp only [if_true] at hmm
    subst hmm
    have each : ∀ i, i < len → ∃ c : Cal, w.cells? 0 (a.add (i * 15)) 15 = some (callCs c) ∧ (bigW c ≤ 1048576 → CalB w w.heap.size c) ∧ bigW c + 1 ≤ Rows.uptoBulk (D i) := fun i hil => by
      obtain ⟨cs', h1, h2⟩ := hi i (by omega)
      obtain ⟨c, rfl, hc, hd⟩ := open_callC h2
      exact ⟨c, h1, hc, hd⟩
    have : Inhabited Cal := ⟨⟨0, blankM, noPl, ByteArray.empty, 0, 0, false⟩⟩
    obtain ⟨f, hf⟩ := choose_lt (p := fun i (c : Cal) => w.cells? 0 (a.add (i * 15)) 15 = some (callCs c) ∧ (bigW c ≤ 1048576 → CalB w w.heap.size c) ∧ bigW c + 1 ≤ Rows.uptoBulk (D i)) each
    have hsp : 0 < len → a = ⟨a.block, a.off, none⟩ := fun hn => by
      obtain ⟨_, _, hc⟩ := World.cells?_some (hf 0 hn).1
      have h0 := hc 0 (by decide)
      rw [Nat.zero_mul, Kit.add_zero, Kit.add_zero] at h0
      have hs := World.cell?_spot h0
      obtain ⟨b, o, s⟩ := a
      have : s = none := hs
      subst this
      rfl
    have hsum : ((List.range len).map f).length + (((List.range len).map f).map bigW).sum + 1 ≤ Rows.uptoBulk (DataW.slice ((List.range len).map D) ((List.range (m - len)).map fun j => D (len + j))) := by
      have := bulk_all (D := D) (f := f) fun i hi => (hf i hi).2.2
      simp only [Rows.uptoBulk, List.length_map, List.length_range]
      omega
    refine ⟨some a, len, _, (List.range len).map f, rfl, fun hbulk => ⟨by simp, fun k c hk => ?_⟩, hl, by omega, hsum⟩
    have hkl : k < len := by
      have := (List.getElem?_eq_some_iff.1 hk).1
      simpa using this
    have hin : c ∈ (List.range len).map f := List.mem_of_getElem? hk
    have hc : f k = c := by simpa [hkl] using hk
    have hsm := sum_mem (f := bigW) hin
    have hbulk' : Rows.uptoBulk (DataW.slice ((List.range len).map D) ((List.range (m - len)).map fun j => D (len + j))) ≤ 1048576 := hbulk
    subst hc
    obtain ⟨h1, h2, _⟩ := hf k hkl
    obtain ⟨_, _, hc⟩ := World.cells?_some h1
    have ha := hsp (by omega)
    have hcell : ∀ j, j < 15 → w.cell? ⟨a.block, a.off + k * 15 + j, none⟩ = (callCs (f k))[j]? := fun j hj => by
      have := hc j hj
      rw [Go.Deep.add_add, add_lit a ha, ← Nat.add_assoc] at this
      exact this
    have h0 := hcell 0 (by decide)
    have hb : a.block < w.heap.size := World.block_lt_of_cell? w (⟨a.block, a.off + k * 15 + 0, none⟩ : Addr) h0
    exact ⟨a.block, a.off, by rw [← ha], hb, ⟨h0, hcell 1 (by decide), hcell 2 (by decide), hcell 3 (by decide), hcell 4 (by decide), hcell 5 (by decide), hcell 6 (by decide), hcell 7 (by decide), hcell 8 (by decide), hcell 9 (by decide), hcell 10 (by decide), hcell 11 (by decide), hcell 12 (by decide), hcell 13 (by decide), hcell 14 (by decide)⟩, h2 (by omega)⟩
/-! ### A node's beginning -/
structure Beg where
  id : Int
  t : Nat
  vt : Int
  s : Snap
structure BegB (z : Beg) : Prop where
  i0 : -9223372036854775808 ≤ z.id
  i1 : z.id ≤ 9223372036854775807
  t : z.t < 18446744073709551616
  v0 : -9223372036854775808 ≤ z.vt
  v1 : z.vt ≤ 9223372036854775807
  s : SnapB z.s
def begCs (z : Beg) (A : Option Addr) (n c : Nat) : List Value := [.int .i64 z.id, .int .u64 (z.t : Int), .int .i64 z.vt, .int .u64 (z.s.idx : Int), .int .u64 (z.s.term : Int), .int .u64 (z.s.cfg : Int), .string z.s.data, .slice A n c]
def begV (z : Beg) (A : Option Addr) (n c : Nat) : Value := .agg #[.int .i64 z.id, .int .u64 (z.t : Int), .int .i64 z.vt, .int .u64 (z.s.idx : Int), .int .u64 (z.s.term : Int), .int .u64 (z.s.cfg : Int), .string z.s.data, .slice A n c]
set_option maxRecDepth 100000 in
set_option maxHeartbeats 2000000 in
theorem open_start {fuel : Nat} {cs : List Value} {x : DataW H × List MemPlace} (h : DataW.trod enc Try.prog w 0 (fun _ => true) true fuel 29 cs = some x) :
    ∃ (z : Beg) (A : Option Addr) (n c : Nat) (l : List Ent), cs = begCs z A n c ∧ BegB z ∧ CameE w A n c l ∧ l.length + dataW l + 1 ≤ Rows.uptoBulk x.1 := by
  obtain ⟨xs, n, _, rfl, hlen, hxl, hfs⟩ := DataW.trod_struct Try.underlying29 h
  rw [show Try.prog.cellsOf 29 = 8 by kernel_rfl] at hlen
  match cs, hlen, xs, hxl with
  | [v0, v1, v2, v3, v4, v5, v6, v7], _, [y0, y1, y2, y3], _ =>
    have k0 : DataW.trod enc Try.prog w 0 (fun _ => true) true n 3 [v0] = some y0 := hfs 0 _ rfl
    have k1 : DataW.trod enc Try.prog w 0 (fun _ => true) true n 24 [v1, v2] = some y1 := hfs 1 _ rfl
    have k2 : DataW.trod enc Try.prog w 0 (fun _ => true) true n 26 [v3, v4, v5, v6] = some y2 := hfs 2 _ rfl
    have k3 : DataW.trod enc Try.prog w 0 (fun _ => true) true n 27 [v7] = some y3 := hfs 3 _ rfl
    obtain ⟨z0, e0, rfl, r0⟩ := DataW.trod_int Try.underlying3 k0
    obtain ⟨s, es, hs⟩ := open_snapC k2
    obtain ⟨A, ln, cp, l, e7, hl, hd, _⟩ := open_list k3
    obtain ⟨us, n1, _, rfl, _, hul, hu⟩ := DataW.trod_struct Try.underlying24 k1
    match us, hul with
    | [p0, p1], _ =>
      have a0 : DataW.trod enc Try.prog w 0 (fun _ => true) true n1 22 [v1] = some p0 := hu 0 _ rfl
      have a1 : DataW.trod enc Try.prog w 0 (fun _ => true) true n1 3 [v2] = some p1 := hu 1 _ rfl
      obtain ⟨z1, e1, rfl, g1⟩ := DataW.trod_int Try.underlying22 a0
      obtain ⟨z2, e2, rfl, g2⟩ := DataW.trod_int Try.underlying3 a1
      simp only [List.cons.injEq, and_true] at e0 e1 e2 es e7
      obtain ⟨rfl, rfl, rfl, rfl⟩ := es
      subst e0 e1 e2 e7
      obtain ⟨t1, rfl, ht⟩ := u64_wf g1
      have b0 := i64_wf r0
      have b2 := i64_wf g2
      refine ⟨⟨z0, t1, z2, s⟩, A, ln, cp, l, rfl, ⟨b0.1, b0.2, ht, b2.1, b2.2, hs⟩, hl, ?_⟩
      have q1 := bulk_list hd
      simp only [Rows.uptoBulk, Rows.uptoBulkAll, List.map_cons, List.map_nil]
      omega
end
theorem weigh_big (L : List Cal) : (L.map weigh).sum ≤ (L.map bigW).sum := by
  induction L with
  | nil => simp
  | cons c L ih =>
    have : weigh c ≤ bigW c := by unfold weigh bigW; omega
    simp only [List.map_cons, List.sum_cons]
    omega
/-- What the second form's bound gives. -/
theorem small {H : Type} {w : World} {A : Option Addr} {n : Nat} {d0 d1 : DataW H} {l : List Ent} {L : List Cal} (h1 : l.length + dataW l + 1 ≤ Rows.uptoBulk d0) (hh : Rows.uptoBulk d1 ≤ 1048576 → Holds w w.heap.size A n L) (h2 : L.length + (L.map bigW).sum + 1 ≤ Rows.uptoBulk d1) (hall : Rows.uptoBulkAll [d0, d1] ≤ 1048576) :
    Holds w w.heap.size A n L ∧ total l L ≤ 1048576 := by
  simp only [Rows.uptoBulkAll] at hall
  have := weigh_big L
  refine ⟨hh (by omega), ?_⟩
  unfold total
  omega
theorem small3 {H : Type} {w : World} {A : Option Addr} {n : Nat} {d0 d1 d2 : DataW H} {l : List Ent} {L : List Cal} (h1 : l.length + dataW l + 1 ≤ Rows.uptoBulk d0) (hh : Rows.uptoBulk d1 ≤ 1048576 → Holds w w.heap.size A n L) (h2 : L.length + (L.map bigW).sum + 1 ≤ Rows.uptoBulk d1) (hall : Rows.uptoBulkAll [d0, d1, d2] ≤ 1048576) :
    Holds w w.heap.size A n L ∧ total l L ≤ 1048576 := by
  simp only [Rows.uptoBulkAll] at hall
  have := weigh_big L
  refine ⟨hh (by omega), ?_⟩
  unfold total
  omega
/-! ### By the row's own hands -/
section
variable {H : Type} {enc : TypeId × Value → H} {w : World} {b0 : Nat} {v : Value} {d : DataW H} {p : List MemPlace}
set_option maxRecDepth 100000 in
theorem arg_start (hv : Value.okWide Try.prog w .any b0 29 v) (h : DataW.Trod enc Try.prog w 0 (fun _ => true) true 29 v d p) :
    ∃ (z : Beg) (A : Option Addr) (n c : Nat) (l : List Ent), v = begV z A n c ∧ BegB z ∧ CameE w A n c l ∧ l.length + dataW l + 1 ≤ Rows.uptoBulk d := by
  obtain ⟨cs, rfl, _⟩ := okWide_struct Try.underlying29 hv
  obtain ⟨fuel, hf⟩ := h
  obtain ⟨z, A, n, c, l, hx, h1, h2, h3⟩ := open_start hf
  exact ⟨z, A, n, c, l, by unfold begV; rw [← Array.toArray_toList (xs := cs)]; show Value.agg (List.toArray cs.toList) = _; rw [show cs.toList = _ from hx]; rfl, h1, h2, h3⟩
set_option maxRecDepth 100000 in
theorem arg_calls (hv : Value.okWide Try.prog w .any b0 30 v) (h : DataW.Trod enc Try.prog w 0 (fun _ => true) true 30 v d p) :
    ∃ A n c L, v = .slice A n c ∧ n ≤ 9223372036854775807 ∧ (Rows.uptoBulk d ≤ 1048576 → Holds w w.heap.size A n L) ∧ L.length + (L.map bigW).sum + 1 ≤ Rows.uptoBulk d := by
  obtain ⟨A, n, c, rfl⟩ := okWide_slice Try.underlying30 hv
  obtain ⟨fuel, hf⟩ := h
  obtain ⟨A', n', c', L, he, h1, h2, h3, h4⟩ := open_calls hf
  simp [Value.cells] at he
  obtain ⟨rfl, rfl, rfl⟩ := he
  exact ⟨_, _, _, L, rfl, by omega, h1, h4⟩
end
end Go.Proofs.Ytdbmpfongfiagaa.OpensC
