/- How this layer's arguments are opened: a saga, a call, slices of steps, calls and truths that came in. No statement is proved here. -/
import Derived.Test.YtcpnocjfafbnaaaOpens
import Derived.Test.YtcpnocjfafbnaaaSagAt
set_option linter.unusedVariables false
set_option linter.unusedSimpArgs false
namespace Go.Proofs.Ytcpnocjfafbnaaa.Opn
open Go.ChangeShapes Go.WideShapes Go.ChangeAt Go.RowKit Go.Deep Go.Proofs.Ytcpnocjfafbnaaa.Frame Go.Proofs.Ytcpnocjfafbnaaa.Kit Go.Proofs.Ytcpnocjfafbnaaa.Stq Go.Proofs.Ytcpnocjfafbnaaa.Pln Go.Proofs.Ytcpnocjfafbnaaa.Opens Go.Proofs.Ytcpnocjfafbnaaa.Sag Go.Proofs.Ytcpnocjfafbnaaa.SagAt

/-! ### Calls -/
structure Cl where
  sp : Int
  tk : Bool
  tr : Int
  ok : Bool
def clCs (x : Cl) : List Value := [.int .i64 x.sp, .bool x.tk, .int .i64 x.tr, .bool x.ok]
def ccells (l : List Cl) : List Value := l.flatMap clCs
theorem ccells_length (l : List Cl) : (ccells l).length = l.length * 4 := by
  induction l with
  | nil => rfl
  | cons e l ih => show (clCs e ++ ccells l).length = _; rw [List.length_append, ih]; simp [clCs]; omega
theorem ccells_drop (l : List Cl) (k : Nat) : ccells (l.drop k) = (ccells l).drop (k * 4) := by
  induction l generalizing k with
  | nil => simp [ccells]
  | cons e l ih =>
    cases k with
    | zero => simp
    | succ k =>
      rw [List.drop_succ_cons]
      show _ = (clCs e ++ ccells l).drop _
      rw [ih, List.drop_append, List.drop_of_length_le (l := clCs e) (by show 4 ≤ _; omega), List.nil_append]
      show _ = List.drop ((k + 1) * 4 - 4) _
      rw [show (k + 1) * 4 - 4 = k * 4 by omega]
theorem ccells_get (l : List Cl) (k j : Nat) (e : Cl) (h : l[k]? = some e) (hj : j < 4) : (ccells l)[k * 4 + j]? = (clCs e)[j]? := by
  obtain ⟨hk, rfl⟩ := List.getElem?_eq_some_iff.1 h
  have h1 : (ccells (l.drop k))[j]? = (ccells l)[k * 4 + j]? := by rw [ccells_drop, List.getElem?_drop]
  rw [← h1, List.drop_eq_getElem_cons hk]
  show (clCs _ ++ ccells _)[j]? = _
  rw [List.getElem?_append_left (by show j < 4; exact hj)]
/-- The slice with address A and n elements holds these calls. -/
abbrev RC (w : World) (B : Nat) (A : Option Addr) (n : Nat) (l : List Cl) : Prop := Reads w B 4 A n (ccells l)
structure FourC (w : World) (b o : Nat) (e : Cl) : Prop where
  c0 : w.cell? ⟨b, o, none⟩ = some (.int .i64 e.sp)
  c1 : w.cell? ⟨b, o + 1, none⟩ = some (.bool e.tk)
  c2 : w.cell? ⟨b, o + 2, none⟩ = some (.int .i64 e.tr)
  c3 : w.cell? ⟨b, o + 3, none⟩ = some (.bool e.ok)
theorem FourC.below {w w' : World} {b o B : Nat} {e : Cl} (h : FourC w b o e) (k : Below B w w') (hb : b < B) : FourC w' b o e :=
  ⟨(k.cell (p := ⟨b, o, none⟩) hb).trans h.c0, (k.cell (p := ⟨b, o + 1, none⟩) hb).trans h.c1, (k.cell (p := ⟨b, o + 2, none⟩) hb).trans h.c2, (k.cell (p := ⟨b, o + 3, none⟩) hb).trans h.c3⟩
section
variable {w : World} {B n : Nat} {A : Option Addr} {l : List Cl}
theorem RC.len (h : RC w B A n l) : l.length = n := by have := h.1; rw [ccells_length] at this; omega
theorem RC.spot {ad : Addr} (h : RC w B (some ad) n l) (hn : 0 < n) : ad = ⟨ad.block, ad.off, none⟩ := by
  obtain ⟨ad', e, _, hc⟩ := h.2 hn
  cases e
  have hl := RC.len h
  have h0 := hc 0 _ (by rw [ccells_get l 0 0 l[0] (List.getElem?_eq_getElem (by omega)) (by omega)]; rfl)
  rw [add_zero] at h0
  have hs := World.cell?_spot h0
  obtain ⟨b, o, s⟩ := ad
  have : s = none := hs
  subst this
  rfl
theorem RC.at_ (h : RC w B A n l) {k : Nat} (hk : k < n) : ∃ b o e, A = some ⟨b, o, none⟩ ∧ b < B ∧ l[k]? = some e ∧ FourC w b (o + k * 4) e := by
  obtain ⟨ad, rfl, hb, hc⟩ := h.2 (by omega)
  have hsp := RC.spot h (by omega)
  have hl := RC.len h
  have he : l[k]? = some l[k] := List.getElem?_eq_getElem (by omega)
  have hj : ∀ j u, j < 4 → (clCs l[k])[j]? = some u → w.cell? ⟨ad.block, ad.off + (k * 4 + j), none⟩ = some u := fun j u hj hu => by
    have := hc (k * 4 + j) u (by rw [ccells_get l k j _ he hj, hu])
    rw [hsp, Addr.add_lit] at this
    exact this
  exact ⟨ad.block, ad.off, l[k], by rw [← hsp], hb, he, hj 0 _ (by omega) rfl, hj 1 _ (by omega) rfl, hj 2 _ (by omega) rfl, hj 3 _ (by omega) rfl⟩
end
/-- A call's numbers are an int each. -/
def InC (e : Cl) : Prop := (-9223372036854775808 ≤ e.sp ∧ e.sp ≤ 9223372036854775807) ∧ (-9223372036854775808 ≤ e.tr ∧ e.tr ≤ 9223372036854775807)
section
variable {H : Type} {enc : TypeId × Value → H} {w : World}
set_option maxRecDepth 100000 in
theorem open_cl {fuel : Nat} {cs : List Value} {x : DataW H × List MemPlace} (h : DataW.trod enc Try.prog w 0 (fun _ => true) true fuel 26 cs = some x) : ∃ e : Cl, cs = clCs e ∧ InC e := by
  obtain ⟨xs, n, _, hx, hlen, hxl, hfs⟩ := DataW.trod_struct Try.underlying26 h
  rw [show Try.prog.cellsOf 26 = 4 by kernel_rfl] at hlen
  match cs, hlen, xs, hxl with
  | [v0, v1, v2, v3], _, [y0, y1, y2, y3], _ =>
    have k0 : DataW.trod enc Try.prog w 0 (fun _ => true) true n 3 [v0] = some y0 := hfs 0 _ rfl
    have k1 : DataW.trod enc Try.prog w 0 (fun _ => true) true n 4 [v1] = some y1 := hfs 1 _ rfl
    have k2 : DataW.trod enc Try.prog w 0 (fun _ => true) true n 3 [v2] = some y2 := hfs 2 _ rfl
    have k3 : DataW.trod enc Try.prog w 0 (fun _ => true) true n 4 [v3] = some y3 := hfs 3 _ rfl
    obtain ⟨z0, e0, _, r0⟩ := DataW.trod_int Try.underlying3 k0
    obtain ⟨z1, e1, _⟩ := DataW.trod_bool Try.underlying4 k1
    obtain ⟨z2, e2, _, r2⟩ := DataW.trod_int Try.underlying3 k2
    obtain ⟨z3, e3, _⟩ := DataW.trod_bool Try.underlying4 k3
    simp only [List.cons.injEq, and_true] at e0 e1 e2 e3
    subst e0 e1 e2 e3
    exact ⟨⟨z0, z1, z2, z3⟩, rfl, i64_wf r0, i64_wf r2⟩
set_option maxRecDepth 100000 in
theorem open_cls {fuel : Nat} {cs : List Value} {x : DataW H × List MemPlace} (h : DataW.trod enc Try.prog w 0 (fun _ => true) true fuel 36 cs = some x) :
    ∃ A n c l, cs = [.slice A n c] ∧ RC w w.heap.size A n l ∧ n ≤ 9223372036854775807 ∧ ∀ e ∈ l, InC e := by
  rcases open_slice Try.underlying36 h with ⟨rfl, rfl⟩ | ⟨a, len, cap, m, n, D, Pl, rfl, _, hl, hm, hmm, rfl, hi⟩
  · exact ⟨none, 0, 0, [], rfl, ⟨rfl, fun h => absurd h (by omega)⟩, by omega, fun e he => by cases he⟩
  · unfold maxLen at hm
    simp only [if_true] at hmm
    subst hmm
    have each : ∀ i, i < len → ∃ e : Cl, w.cells? 0 (a.add (i * 4)) 4 = some (clCs e) ∧ InC e := fun i hil => by
      obtain ⟨cs', h1, h2⟩ := hi i (by omega)
      obtain ⟨e, rfl, he⟩ := open_cl h2
      exact ⟨e, h1, he⟩
    have : Inhabited Cl := ⟨⟨0, false, 0, false⟩⟩
    obtain ⟨f, hf⟩ := choose_lt (p := fun i (e : Cl) => w.cells? 0 (a.add (i * 4)) 4 = some (clCs e) ∧ InC e) each
    have hat : ∀ k, k < len → ((List.range len).map f)[k]? = some (f k) := fun k hk => by simp [hk]
    refine ⟨some a, len, _, (List.range len).map f, rfl, ⟨?_, fun hn => ?_⟩, by omega, fun e he => ?_⟩
    · rw [ccells_length]; simp
    · have hb : a.block < w.heap.size := by
        obtain ⟨_, _, hc⟩ := World.cells?_some (hf 0 hn).1
        have h0 := hc 0 (by decide)
        rw [Nat.zero_mul, Kit.add_zero, Kit.add_zero] at h0
        exact World.block_lt_of_cell? _ _ h0
      refine ⟨a, rfl, hb, fun j u hj => ?_⟩
      have hjl : j < len * 4 := by
        have := (List.getElem?_eq_some_iff.1 hj).1
        rw [ccells_length] at this
        simpa using this
      obtain ⟨k, r, hr, rfl⟩ : ∃ k r, r < 4 ∧ j = k * 4 + r := ⟨j / 4, j % 4, by omega, by omega⟩
      have hk : k < len := by omega
      rw [ccells_get _ k r _ (hat k hk) hr] at hj
      obtain ⟨_, _, hc⟩ := World.cells?_some (hf k hk).1
      have h0 := hc r hr
      rw [Go.Deep.add_add, hj] at h0
      exact h0
    · obtain ⟨k, hk, rfl⟩ := List.mem_map.1 he
      exact (hf k (List.mem_range.1 hk)).2
set_option maxRecDepth 100000 in
theorem open_bools {fuel : Nat} {cs : List Value} {x : DataW H × List MemPlace} (h : DataW.trod enc Try.prog w 0 (fun _ => true) true fuel 44 cs = some x) :
    ∃ A n c, ∃ l : List Bool, cs = [.slice A n c] ∧ Reads w w.heap.size 1 A n (l.map Value.bool) ∧ n ≤ 9223372036854775807 := by
  rcases open_slice Try.underlying44 h with ⟨rfl, rfl⟩ | ⟨a, len, cap, m, n, D, Pl, rfl, _, hl, hm, hmm, rfl, hi⟩
  · exact ⟨none, 0, 0, [], rfl, ⟨rfl, fun h => absurd h (by omega)⟩, by omega⟩
  · unfold maxLen at hm
    simp only [if_true] at hmm
    subst hmm
    have each : ∀ i, i < len → ∃ e : Bool, w.cells? 0 (a.add (i * 1)) 1 = some [Value.bool e] := fun i hil => by
      obtain ⟨cs', h1, h2⟩ := hi i (by omega)
      obtain ⟨_, hlen, _⟩ := World.cells?_some h1
      rw [show Try.prog.cellsOf 4 = 1 by kernel_rfl] at h1
      obtain ⟨_, hlen, _⟩ := World.cells?_some h1
      match cs', hlen with
      | [v0], _ =>
        obtain ⟨z, e, _⟩ := DataW.trod_bool Try.underlying4 h2
        simp only [List.cons.injEq, and_true] at e
        subst e
        exact ⟨z, h1⟩
    obtain ⟨f, hf⟩ := choose_lt (p := fun i (e : Bool) => w.cells? 0 (a.add (i * 1)) 1 = some [Value.bool e]) each
    refine ⟨some a, len, _, (List.range len).map f, rfl, ⟨by simp, fun hn => ?_⟩, by omega⟩
    have hb : a.block < w.heap.size := by
      obtain ⟨_, _, hc⟩ := World.cells?_some (hf 0 hn)
      have h0 := hc 0 (by decide)
      rw [Nat.zero_mul, Kit.add_zero, Kit.add_zero] at h0
      exact World.block_lt_of_cell? _ _ h0
    refine ⟨a, rfl, hb, fun j u hj => ?_⟩
    have hjl : j < len := by
      have := (List.getElem?_eq_some_iff.1 hj).1
      simpa using this
    obtain ⟨_, _, hc⟩ := World.cells?_some (hf j hjl)
    have h0 := hc 0 (by decide)
    rw [Nat.mul_one, Kit.add_zero] at h0
    rw [h0, ← hj]
    simp [hjl]
set_option maxRecDepth 100000 in
theorem open_saga {fuel : Nat} {cs : List Value} {x : DataW H × List MemPlace} (h : DataW.trod enc Try.prog w 0 (fun _ => true) true fuel 24 cs = some x) :
    ∃ A c, ∃ s : Sg, cs = [.slice A s.l.length c, .int .i64 s.st, .int .i64 s.cu, .int .i64 s.fa] ∧ CameS w A s.l.length c s.l ∧ ((∀ m ∈ x.1.weights Try.prog 24, m ≤ reachBytes) → s.l.length * 32 ≤ 140737488355328) ∧ s.l.length + nms s.l + 1 ≤ Rows.uptoBulk x.1 := by
  obtain ⟨xs, n, _, rfl, hlen, hxl, hfs⟩ := DataW.trod_struct Try.underlying24 h
  rw [show Try.prog.cellsOf 24 = 4 by kernel_rfl] at hlen
  match cs, hlen, xs, hxl with
  | [v0, v1, v2, v3], _, [y0, y1, y2, y3], _ =>
    have k0 : DataW.trod enc Try.prog w 0 (fun _ => true) true n 22 [v0] = some y0 := hfs 0 _ rfl
    have k1 : DataW.trod enc Try.prog w 0 (fun _ => true) true n 3 [v1] = some y1 := hfs 1 _ rfl
    have k2 : DataW.trod enc Try.prog w 0 (fun _ => true) true n 3 [v2] = some y2 := hfs 2 _ rfl
    have k3 : DataW.trod enc Try.prog w 0 (fun _ => true) true n 3 [v3] = some y3 := hfs 3 _ rfl
    obtain ⟨A, ln, cp, l, e0, hl, hd, hr⟩ := open_steps k0
    obtain ⟨z1, e1, _⟩ := DataW.trod_int Try.underlying3 k1
    obtain ⟨z2, e2, _⟩ := DataW.trod_int Try.underlying3 k2
    obtain ⟨z3, e3, _⟩ := DataW.trod_int Try.underlying3 k3
    simp only [List.cons.injEq, and_true] at e0 e1 e2 e3
    subst e0 e1 e2 e3
    have hln := RS.len hl.reads
    subst hln
    refine ⟨A, cp, ⟨l, z1, z2, z3⟩, rfl, hl, fun hw => ?_, ?_⟩
    · have h1 : cp * 32 ≤ 140737488351232 := hr fun m hm => hw m (by simp [DataW.weights, DataW.weightsEach, Try.underlying24, hm])
      have := hl.fits
      simp only
      omega
    · have := bulk_list hd
      simp only [Rows.uptoBulk, Rows.uptoBulkAll, List.map_cons, List.map_nil]
      omega
end
section
variable {H : Type} {enc : TypeId × Value → H} {w : World} {b0 : Nat} {v : Value} {d : DataW H} {p : List MemPlace}
theorem came_at {A : Option Addr} {n c : Nat} {l : List Sp} (h : CameS w A n c l) (hr : l.length * 32 ≤ 140737488355328) : At w A l := ⟨by have := h.reads; rwa [← RS.len this] at this, hr, fun e he => (h.sin e he).n⟩
set_option maxRecDepth 100000 in
theorem arg_saga (hv : Value.okWide Try.prog w .any b0 24 v) (h : DataW.Trod enc Try.prog w 0 (fun _ => true) true 24 v d p) :
    ∃ A c, ∃ s : Sg, v = sgV A c s ∧ CameS w A s.l.length c s.l ∧ ((∀ m ∈ d.weights Try.prog 24, m ≤ reachBytes) → s.l.length * 32 ≤ 140737488355328) ∧ s.l.length + nms s.l + 1 ≤ Rows.uptoBulk d := by
  obtain ⟨cs, rfl, _⟩ := okWide_struct Try.underlying24 hv
  obtain ⟨fuel, hf⟩ := h
  obtain ⟨A, c, s, hx, hc, hr, hb⟩ := open_saga hf
  exact ⟨A, c, s, by unfold sgV; rw [← Array.toArray_toList (xs := cs)]; show Value.agg (List.toArray cs.toList) = _; rw [show cs.toList = _ from hx], hc, hr, hb⟩
set_option maxRecDepth 100000 in
theorem arg_call (hv : Value.okWide Try.prog w .any b0 26 v) (h : DataW.Trod enc Try.prog w 0 (fun _ => true) true 26 v d p) :
    ∃ x : Cl, v = .agg #[.int .i64 x.sp, .bool x.tk, .int .i64 x.tr, .bool x.ok] ∧ InC x := by
  obtain ⟨cs, rfl, _⟩ := okWide_struct Try.underlying26 hv
  obtain ⟨fuel, hf⟩ := h
  obtain ⟨x, hx, hi⟩ := open_cl hf
  exact ⟨x, by rw [← Array.toArray_toList (xs := cs)]; show Value.agg (List.toArray cs.toList) = _; rw [show cs.toList = _ from hx]; rfl, hi⟩
set_option maxRecDepth 100000 in
theorem arg_cls (hv : Value.okWide Try.prog w .any b0 36 v) (h : DataW.Trod enc Try.prog w 0 (fun _ => true) true 36 v d p) :
    ∃ A n c l, v = .slice A n c ∧ RC w w.heap.size A n l ∧ n ≤ 9223372036854775807 ∧ ∀ e ∈ l, InC e := by
  obtain ⟨A, n, c, rfl⟩ := okWide_slice Try.underlying36 hv
  obtain ⟨fuel, hf⟩ := h
  obtain ⟨A', n', c', l, he, hl, hn, hi⟩ := open_cls hf
  simp [Value.cells] at he
  obtain ⟨rfl, rfl, rfl⟩ := he
  exact ⟨_, _, _, l, rfl, hl, hn, hi⟩
set_option maxRecDepth 100000 in
theorem arg_bools (hv : Value.okWide Try.prog w .any b0 44 v) (h : DataW.Trod enc Try.prog w 0 (fun _ => true) true 44 v d p) :
    ∃ A n c, ∃ l : List Bool, v = .slice A n c ∧ Reads w w.heap.size 1 A n (l.map Value.bool) ∧ n ≤ 9223372036854775807 := by
  obtain ⟨A, n, c, rfl⟩ := okWide_slice Try.underlying44 hv
  obtain ⟨fuel, hf⟩ := h
  obtain ⟨A', n', c', l, he, hl, hn⟩ := open_bools hf
  simp [Value.cells] at he
  obtain ⟨rfl, rfl, rfl⟩ := he
  exact ⟨_, _, _, l, rfl, hl, hn⟩
set_option maxRecDepth 100000 in
theorem arg_defs (hv : Value.okWide Try.prog w .any b0 22 v) (h : DataW.Trod enc Try.prog w 0 (fun _ => true) true 22 v d p) :
    ∃ A c l, v = .slice A l.length c ∧ CameS w A l.length c l ∧ ((∀ m ∈ d.weights Try.prog 22, m ≤ reachBytes) → l.length * 32 ≤ 140737488355328) := by
  obtain ⟨A, n, c, rfl⟩ := okWide_slice Try.underlying22 hv
  obtain ⟨fuel, hf⟩ := h
  obtain ⟨A', n', c', l, he, hl, _, hr⟩ := open_steps hf
  simp [Value.cells] at he
  obtain ⟨rfl, rfl, rfl⟩ := he
  have hn := RS.len hl.reads
  subst hn
  exact ⟨_, _, l, rfl, hl, fun hw => by have := hr hw; have := hl.fits; omega⟩
theorem arg_int (hv : Value.okWide Try.prog w .any b0 3 v) (h : DataW.Trod enc Try.prog w 0 (fun _ => true) true 3 v d p) :
    ∃ z : Int, v = .int .i64 z ∧ (-9223372036854775808 ≤ z ∧ z ≤ 9223372036854775807) := by
  obtain ⟨z, rfl, _, _, hw⟩ := open_int Try.underlying3 hv h
  exact ⟨z, rfl, i64_wf hw⟩
end
end Go.Proofs.Ytcpnocjfafbnaaa.Opn
