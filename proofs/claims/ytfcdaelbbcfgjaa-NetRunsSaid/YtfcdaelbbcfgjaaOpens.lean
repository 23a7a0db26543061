/- How arguments are opened: a letter, a slice of numbers, a slice of calls. No statement is proved here. -/
import Derived.Test.YtfcdaelbbcfgjaaBegun
import Derived.Test.YtfcdaelbbcfgjaaFrame
import Derived.Deep.Slices
import Derived.Lib.SmallJoins
set_option linter.unusedVariables false
set_option linter.unusedSimpArgs false
namespace Go.Proofs.Ytfcdaelbbcfgjaa.Opens
open Go.ChangeShapes Go.WideShapes Go.ChangeAt Go.RowKit Go.Deep Go.Proofs.Ytfcdaelbbcfgjaa.Kit Go.Proofs.Ytfcdaelbbcfgjaa.Blocks Go.Proofs.Ytfcdaelbbcfgjaa.Ltr Go.Proofs.Ytfcdaelbbcfgjaa.NAt Go.Proofs.Ytfcdaelbbcfgjaa.Sol

theorem add_lit (a : Addr) (h : a = ⟨a.block, a.off, none⟩) (i : Nat) : a.add i = ⟨a.block, a.off + i, none⟩ := by
  rw [h]
  unfold Addr.add
  split
  · rename_i e; subst e; rfl
  · rfl
/-- Numbers as cells. -/
def ivals (l : List Int) : List Value := l.map fun z => .int .i64 z
theorem Reads.int {w : World} {B n k : Nat} {A : Option Addr} {l : List Int} (h : Reads w B 1 A n (ivals l)) (hk : k < n) : ∃ b o z, A = some ⟨b, o, none⟩ ∧ b < B ∧ w.cell? ⟨b, o + k, none⟩ = some (.int .i64 z) := by
  obtain ⟨ad, u, rfl, hb, hx, hc⟩ := h.at_ hk
  have hs := h.spot (by omega)
  obtain ⟨z, _, rfl⟩ : ∃ z, l[k]? = some z ∧ Value.int .i64 z = u := by
    simp only [ivals, List.getElem?_map, Option.map_eq_some_iff] at hx
    exact hx
  refine ⟨ad.block, ad.off, z, by rw [← hs], hb, ?_⟩
  rw [hs, Addr.add_lit] at hc
  exact hc

/-! ### What is read -/
section
variable {H : Type} {enc : TypeId × Value → H} {w : World}
set_option maxRecDepth 100000 in
theorem open_ent {fuel : Nat} {cs : List Value} {x : DataW H × List MemPlace} (h : DataW.trod enc Try.prog w 0 (fun _ => true) true fuel 51 cs = some x) : ∃ e : Ent, cs = entCs e := by
  have hlen := (DataW.trod_struct Try.underlying51 h).choose_spec.choose_spec.2.2.1
  rw [show Try.prog.cellsOf 51 = 4 by kernel_rfl] at hlen
  match cs, hlen with
  | [v0, v1, v2, v3], _ =>
    obtain ⟨y0, y1, y2, y3, n, rfl, _, h0, h1, h2, h3⟩ := Joins.trod_struct4 Try.underlying51 h
    have k0 : DataW.trod enc Try.prog w 0 (fun _ => true) true n 31 [v0] = some y0 := h0
    have k1 : DataW.trod enc Try.prog w 0 (fun _ => true) true n 31 [v1] = some y1 := h1
    have k2 : DataW.trod enc Try.prog w 0 (fun _ => true) true n 3 [v2] = some y2 := h2
    have k3 : DataW.trod enc Try.prog w 0 (fun _ => true) true n 9 [v3] = some y3 := h3
    obtain ⟨z0, e0, rfl, r0⟩ := DataW.trod_int Try.underlying31 k0
    obtain ⟨z1, e1, rfl, r1⟩ := DataW.trod_int Try.underlying31 k1
    obtain ⟨z2, e2, rfl, r2⟩ := DataW.trod_int Try.underlying3 k2
    obtain ⟨s, e3, rfl, r3⟩ := DataW.trod_string Try.underlying9 k3
    simp at e0 e1 e2 e3
    subst e0 e1 e2 e3
    exact ⟨⟨z0, z1, z2, s⟩, rfl⟩
/-- A slice of entries that came in. -/
structure CameE (w : World) (A : Option Addr) (n c : Nat) (l : List Ent) : Prop where
  reads : RE w w.heap.size A n l
  fits : n ≤ c
  max : c ≤ 9223372036854775807
set_option maxRecDepth 100000 in
theorem open_list {fuel : Nat} {cs : List Value} {x : DataW H × List MemPlace} (h : DataW.trod enc Try.prog w 0 (fun _ => true) true fuel 32 cs = some x) :
    ∃ A n c l, cs = [.slice A n c] ∧ CameE w A n c l ∧ ((∀ m ∈ x.1.weights Try.prog 32, m ≤ reachBytes) → c * 40 ≤ 140737488351232) := by
  rcases open_slice Try.underlying32 h with ⟨rfl, rfl⟩ | ⟨a, len, cap, m, n, D, Pl, rfl, _, hl, hm, hmm, rfl, hi⟩
  · exact ⟨none, 0, 0, [], rfl, ⟨RE.nil _ _ _, by omega, by omega⟩, fun _ => by omega⟩
  · unfold maxLen at hm
    simp only [if_true] at hmm
    subst hmm
    have each : ∀ i, i < len → ∃ e : Ent, w.cells? 0 (a.add (i * 4)) 4 = some (entCs e) := fun i hil => by
      obtain ⟨cs', h1, h2⟩ := hi i (by omega)
      obtain ⟨e, rfl⟩ := open_ent h2
      exact ⟨e, h1⟩
    have : Inhabited Ent := ⟨⟨0, 0, 0, ByteArray.empty⟩⟩
    obtain ⟨f, hf⟩ := choose_lt (p := fun i (e : Ent) => w.cells? 0 (a.add (i * 4)) 4 = some (entCs e)) each
    have hat : ∀ k, k < len → ((List.range len).map f)[k]? = some (f k) := fun k hk => by simp [hk]
    refine ⟨some a, len, _, (List.range len).map f, rfl, ⟨⟨?_, fun hn => ?_⟩, hl, by omega⟩, fun hw => ?_⟩
    · rw [ecells_length]; simp
    · have hb : a.block < w.heap.size := by
        obtain ⟨_, _, hc⟩ := World.cells?_some (hf 0 hn)
        have h0 := hc 0 (by decide)
        rw [Nat.zero_mul, Kit.add_zero, Kit.add_zero] at h0
        exact World.block_lt_of_cell? _ _ h0
      refine ⟨a, rfl, hb, fun j u hj => ?_⟩
      have hjl : j < len * 4 := by
        have := (List.getElem?_eq_some_iff.1 hj).1
        rw [ecells_length] at this
        simpa using this
      obtain ⟨k, r, hr, rfl⟩ : ∃ k r, r < 4 ∧ j = k * 4 + r := ⟨j / 4, j % 4, by omega, by omega⟩
      have hk : k < len := by omega
      rw [ecells_get _ k r _ (hat k hk) hr] at hj
      obtain ⟨_, _, hc⟩ := World.cells?_some (hf k hk)
      have h0 := hc r hr
      rw [Go.Deep.add_add, hj] at h0
      exact h0
    · have := hw ((((List.range len).map D).length + ((List.range (m - len)).map fun j => D (len + j)).length) * Try.prog.bytesOf 51) (by simp [DataW.weights, Try.underlying32])
      rw [show Try.prog.bytesOf 51 = 40 by kernel_rfl] at this
      simp only [List.length_map, List.length_range, reachBytes] at this
      omega

/-- A letter that came in. -/
def Came (w : World) (x : Lt) : Prop := Fit w (fun g => g < w.heap.size) x
set_option maxRecDepth 100000 in
set_option maxHeartbeats 2000000 in
theorem open_letter {fuel : Nat} {cs : List Value} {x : DataW H × List MemPlace} (h : DataW.trod enc Try.prog w 0 (fun _ => true) true fuel 34 cs = some x) :
    ∃ y : Lt, cs = ltCs y ∧ ((∀ m ∈ x.1.weights Try.prog 34, m ≤ reachBytes) → Came w y) := by
  obtain ⟨xs, n, _, rfl, hlen, hxl, hfs⟩ := DataW.trod_struct Try.underlying34 h
  rw [show Try.prog.cellsOf 34 = 10 by kernel_rfl] at hlen
  match cs, hlen, xs, hxl with
  | [v0, v1, v2, v3, v4, v5, v6, v7, v8, v9], _, [y0, y1, y2, y3, y4, y5, y6, y7, y8, y9], _ =>
    have k0 : DataW.trod enc Try.prog w 0 (fun _ => true) true n 3 [v0] = some y0 := hfs 0 _ rfl
    have k1 : DataW.trod enc Try.prog w 0 (fun _ => true) true n 3 [v1] = some y1 := hfs 1 _ rfl
    have k2 : DataW.trod enc Try.prog w 0 (fun _ => true) true n 3 [v2] = some y2 := hfs 2 _ rfl
    have k3 : DataW.trod enc Try.prog w 0 (fun _ => true) true n 31 [v3] = some y3 := hfs 3 _ rfl
    have k4 : DataW.trod enc Try.prog w 0 (fun _ => true) true n 31 [v4] = some y4 := hfs 4 _ rfl
    have k5 : DataW.trod enc Try.prog w 0 (fun _ => true) true n 31 [v5] = some y5 := hfs 5 _ rfl
    have k6 : DataW.trod enc Try.prog w 0 (fun _ => true) true n 31 [v6] = some y6 := hfs 6 _ rfl
    have k7 : DataW.trod enc Try.prog w 0 (fun _ => true) true n 4 [v7] = some y7 := hfs 7 _ rfl
    have k8 : DataW.trod enc Try.prog w 0 (fun _ => true) true n 32 [v8] = some y8 := hfs 8 _ rfl
    have k9 : DataW.trod enc Try.prog w 0 (fun _ => true) true n 9 [v9] = some y9 := hfs 9 _ rfl
    obtain ⟨z0, e0, _, _⟩ := DataW.trod_int Try.underlying3 k0
    obtain ⟨z1, e1, _, _⟩ := DataW.trod_int Try.underlying3 k1
    obtain ⟨z2, e2, _, _⟩ := DataW.trod_int Try.underlying3 k2
    obtain ⟨z3, e3, _, _⟩ := DataW.trod_int Try.underlying31 k3
    obtain ⟨z4, e4, _, _⟩ := DataW.trod_int Try.underlying31 k4
    obtain ⟨z5, e5, _, _⟩ := DataW.trod_int Try.underlying31 k5
    obtain ⟨z6, e6, _, _⟩ := DataW.trod_int Try.underlying31 k6
    obtain ⟨z7, e7, _⟩ := DataW.trod_bool Try.underlying4 k7
    obtain ⟨A, ln, cp, l, e8, hl, hr⟩ := open_list k8
    obtain ⟨s, e9, _, _⟩ := DataW.trod_string Try.underlying9 k9
    simp only [List.cons.injEq, and_true] at e0 e1 e2 e3 e4 e5 e6 e7 e8 e9
    subst e0 e1 e2 e3 e4 e5 e6 e7 e8 e9
    refine ⟨⟨⟨z0, z1, z2, z3, z4, z5, z6, z7, s⟩, A, ln, cp, l⟩, rfl, fun hw => ?_⟩
    have h1 := hr fun m hm => hw m (by
        simp only [DataW.weights, Try.underlying34, List.map_cons, List.map_nil, DataW.weightsEach, List.mem_append]
        exact .inr (.inr (.inr (.inr (.inr (.inr (.inr (.inr (.inl hm)))))))))
    have := hl.fits
    refine ⟨hl.reads, hl.fits, hl.max, by show ln * 40 ≤ _; omega, fun ad e hn => ?_⟩
    obtain ⟨ad', e', hb, _⟩ := hl.reads.2 hn
    have e2 : A = some ad := e
    rw [e2] at e'
    cases e'
    exact hb
/-- A call that came in. -/
structure Cal where
  k : Int
  i : Int
  x : Lt
def callCs (c : Cal) : List Value := .int .i64 c.k :: .int .i64 c.i :: ltCs c.x
/-- A call lies at these cells. -/
structure Twelve (w : World) (b o : Nat) (c : Cal) : Prop where
  c0 : w.cell? ⟨b, o, none⟩ = some (.int .i64 c.k)
  c1 : w.cell? ⟨b, o + 1, none⟩ = some (.int .i64 c.i)
  c2 : Ten w b (o + 2) c.x
/-- The slice with address A and n elements holds these calls. -/
def Holds (w : World) (A : Option Addr) (n : Nat) (L : List Cal) : Prop :=
  L.length = n ∧ ∀ (k : Nat) (c : Cal), L[k]? = some c → ∃ b o, A = some ⟨b, o, none⟩ ∧ b < w.heap.size ∧ Twelve w b (o + k * 12) c ∧ Came w c.x
theorem Holds.nil (w : World) (A : Option Addr) : Holds w A 0 [] := ⟨rfl, fun k c hk => by simp at hk⟩
set_option maxRecDepth 100000 in
theorem open_callC {fuel : Nat} {cs : List Value} {x : DataW H × List MemPlace} (h : DataW.trod enc Try.prog w 0 (fun _ => true) true fuel 36 cs = some x) :
    ∃ c : Cal, cs = callCs c ∧ ((∀ m ∈ x.1.weights Try.prog 36, m ≤ reachBytes) → Came w c.x) := by
  obtain ⟨xs, n, _, rfl, hlen, hxl, hfs⟩ := DataW.trod_struct Try.underlying36 h
  rw [show Try.prog.cellsOf 36 = 12 by kernel_rfl] at hlen
  match cs, hlen, xs, hxl with
  | v0 :: v1 :: cs, hcl, [y0, y1, y2], _ =>
    have hcl' : cs.length = 10 := by simpa using hcl
    have k0 : DataW.trod enc Try.prog w 0 (fun _ => true) true n 3 [v0] = some y0 := hfs 0 _ rfl
    have k1 : DataW.trod enc Try.prog w 0 (fun _ => true) true n 3 [v1] = some y1 := hfs 1 _ rfl
    have k2' : DataW.trod enc Try.prog w 0 (fun _ => true) true n 34 (cs.take 10) = some y2 := hfs 2 _ rfl
    rw [List.take_of_length_le (by omega)] at k2'
    obtain ⟨z0, e0, _, _⟩ := DataW.trod_int Try.underlying3 k0
    obtain ⟨z1, e1, _, _⟩ := DataW.trod_int Try.underlying3 k1
    obtain ⟨y, rfl, hy⟩ := open_letter k2'
    simp only [List.cons.injEq, and_true] at e0 e1
    subst e0 e1
    refine ⟨⟨z0, z1, y⟩, rfl, fun hw => hy fun m hm => hw m ?_⟩
    simp only [DataW.weights, Try.underlying36, List.map_cons, List.map_nil, DataW.weightsEach, List.mem_append]
    exact .inr (.inr (.inl hm))
theorem weights_mem {P : Program} {e : TypeId} {ds : List (DataW H)} {d : DataW H} (h : d ∈ ds) {m : Nat} (hm : m ∈ d.weights P e) : m ∈ DataW.weightsAll P e ds := by
  induction ds with
  | nil => cases h
  | cons a ds ih =>
    simp only [DataW.weightsAll, List.mem_append]
    rcases List.mem_cons.1 h with rfl | h
    · exact .inl hm
    · exact .inr (ih h)
set_option maxRecDepth 100000 in
theorem open_calls {fuel : Nat} {cs : List Value} {x : DataW H × List MemPlace} (h : DataW.trod enc Try.prog w 0 (fun _ => true) true fuel 22 cs = some x) :
    ∃ A n c L, cs = [.slice A n c] ∧ n ≤ 9223372036854775807 ∧ ((∀ m ∈ x.1.weights Try.prog 22, m ≤ reachBytes) → Holds w A n L) := by
  rcases open_slice Try.underlying22 h with ⟨rfl, rfl⟩ | ⟨a, len, cap, m, n, D, Pl, rfl, _, hl, hm, hmm, rfl, hi⟩
  · exact ⟨none, 0, 0, [], rfl, by omega, fun _ => Holds.nil _ _⟩
  · unfold maxLen at hm
    simp only [if_true] at hmm
    subst hmm
    have each : ∀ i, i < len → ∃ c : Cal, w.cells? 0 (a.add (i * 12)) 12 = some (callCs c) ∧ ((∀ m ∈ (D i).weights Try.prog 36, m ≤ reachBytes) → Came w c.x) := fun i hil => by
      obtain ⟨cs', h1, h2⟩ := hi i (by omega)
      obtain ⟨c, rfl, hc⟩ := open_callC h2
      exact ⟨c, h1, hc⟩
    have : Inhabited Cal := ⟨⟨0, 0, zeroL⟩⟩
    obtain ⟨f, hf⟩ := choose_lt (p := fun i (c : Cal) => w.cells? 0 (a.add (i * 12)) 12 = some (callCs c) ∧ ((∀ m ∈ (D i).weights Try.prog 36, m ≤ reachBytes) → Came w c.x)) each
    have hsp : 0 < len → a = ⟨a.block, a.off, none⟩ := fun hn => by
      obtain ⟨_, _, hc⟩ := World.cells?_some (hf 0 hn).1
      have h0 := hc 0 (by decide)
      rw [Nat.zero_mul, Kit.add_zero, Kit.add_zero] at h0
      have hs := World.cell?_spot h0
      obtain ⟨b, o, s⟩ := a
      have : s = none := hs
      subst this
      rfl
    refine ⟨some a, len, _, (List.range len).map f, rfl, by omega, fun hw => ⟨by simp, fun k c hk => ?_⟩⟩
    have hkl : k < len := by
      have := (List.getElem?_eq_some_iff.1 hk).1
      simpa using this
    have hc : f k = c := by simpa [hkl] using hk
    subst hc
    obtain ⟨h1, h2⟩ := hf k hkl
    obtain ⟨_, _, hc⟩ := World.cells?_some h1
    have ha := hsp (by omega)
    have hcell : ∀ j, j < 12 → w.cell? ⟨a.block, a.off + k * 12 + j, none⟩ = (callCs (f k))[j]? := fun j hj => by
      have := hc j hj
      rw [Go.Deep.add_add, add_lit a ha, ← Nat.add_assoc] at this
      exact this
    have h0 := hcell 0 (by decide)
    have hb : a.block < w.heap.size := World.block_lt_of_cell? w (⟨a.block, a.off + k * 12 + 0, none⟩ : Addr) h0
    refine ⟨a.block, a.off, by rw [← ha], hb, ⟨h0, hcell 1 (by decide), ⟨hcell 2 (by decide), hcell 3 (by decide), hcell 4 (by decide), hcell 5 (by decide), hcell 6 (by decide), hcell 7 (by decide), hcell 8 (by decide), hcell 9 (by decide), hcell 10 (by decide), hcell 11 (by decide)⟩⟩, h2 fun m hm => hw m ?_⟩
    simp only [DataW.weights, Try.underlying22, List.mem_cons, List.mem_append]
    exact .inr (.inl (weights_mem (List.mem_map.2 ⟨k, List.mem_range.2 hkl, rfl⟩) hm))
theorem open_nums {P : Program} {t e : TypeId} {fuel len cap : Nat} {a0 : Option Addr} {x : DataW H × List MemPlace} (ht : P.underlying t = some (.slice e)) (he : P.underlying e = some (.int .i64)) (hc : P.cellsOf e = 1)
    (h : DataW.trod enc P w 0 (fun _ => true) true fuel t [Value.slice a0 len cap] = some x) : (∃ l, Reads w w.heap.size 1 a0 len (ivals l)) ∧ len ≤ 9223372036854775807 := by
  rcases open_ints ht he hc h with ⟨hcs, hx⟩ | ⟨y, l, c, zs, hcs, _, hl, hm, hz, hx, hcell, hwz⟩
  · simp at hcs
    obtain ⟨rfl, rfl, rfl⟩ := hcs
    exact ⟨⟨[], Reads.none_⟩, by omega⟩
  · simp at hcs
    obtain ⟨rfl, rfl, rfl⟩ := hcs
    simp only [if_true] at hz
    unfold maxLen at hm
    refine ⟨⟨zs.take len, by simp [ivals]; omega, fun hn => ?_⟩, by omega⟩
    have h0 := hcell 0 (by omega)
    rw [Kit.add_zero] at h0
    refine ⟨y, rfl, World.block_lt_of_cell? _ _ h0, fun j u hj => ?_⟩
    have hjl : j < len := by
      have := (List.getElem?_eq_some_iff.1 hj).1
      simp [ivals] at this
      omega
    rw [hcell j (by omega), ← hj]
    simp [ivals, hjl, List.getD, List.getElem?_eq_getElem (show j < zs.length by omega)]
end
/-! ### By the row's own hands -/
section
variable {H : Type} {enc : TypeId × Value → H} {w : World} {b0 : Nat} {v : Value} {d : DataW H} {p : List MemPlace}
set_option maxRecDepth 100000 in
theorem arg_letter (hv : Value.okWide Try.prog w .any b0 34 v) (h : DataW.Trod enc Try.prog w 0 (fun _ => true) true 34 v d p) :
    ∃ x : Lt, v = ltV x ∧ ((∀ m ∈ d.weights Try.prog 34, m ≤ reachBytes) → Came w x) := by
  obtain ⟨cs, rfl, _⟩ := okWide_struct Try.underlying34 hv
  obtain ⟨fuel, hf⟩ := h
  obtain ⟨x, hx, hr⟩ := open_letter hf
  exact ⟨x, by unfold ltV; rw [← Array.toArray_toList (xs := cs)]; show Value.agg (List.toArray cs.toList) = _; rw [show cs.toList = _ from hx]; rfl, hr⟩
set_option maxRecDepth 100000 in
theorem arg_ints (hv : Value.okWide Try.prog w .any b0 47 v) (h : DataW.Trod enc Try.prog w 0 (fun _ => true) true 47 v d p) :
    ∃ A n c l, v = .slice A n c ∧ Reads w w.heap.size 1 A n (ivals l) ∧ n ≤ 9223372036854775807 := by
  obtain ⟨A, n, c, rfl⟩ := okWide_slice Try.underlying47 hv
  obtain ⟨fuel, hf⟩ := h
  obtain ⟨⟨l, h1⟩, h2⟩ := open_nums (len := n) (cap := c) (a0 := A) Try.underlying47 Try.underlying3 (by kernel_rfl) hf
  exact ⟨_, _, _, l, rfl, h1, h2⟩
set_option maxRecDepth 100000 in
theorem arg_calls (hv : Value.okWide Try.prog w .any b0 22 v) (h : DataW.Trod enc Try.prog w 0 (fun _ => true) true 22 v d p) :
    ∃ A n c L, v = .slice A n c ∧ n ≤ 9223372036854775807 ∧ ((∀ m ∈ d.weights Try.prog 22, m ≤ reachBytes) → Holds w A n L) := by
  obtain ⟨A, n, c, rfl⟩ := okWide_slice Try.underlying22 hv
  obtain ⟨fuel, hf⟩ := h
  obtain ⟨A', n', c', L, he, h1, h2⟩ := open_calls hf
  simp [Value.cells] at he
  obtain ⟨rfl, rfl, rfl⟩ := he
  exact ⟨_, _, _, L, rfl, h1, h2⟩
end
end Go.Proofs.Ytfcdaelbbcfgjaa.Opens
