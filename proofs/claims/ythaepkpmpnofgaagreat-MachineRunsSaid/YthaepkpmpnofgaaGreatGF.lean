/- How arguments are opened: a slice of steps, a text, four integers by value that came in. No statement is proved here. -/
import Derived.Test.YthaepkpmpnofgaaGreatRows
import Derived.Test.YthaepkpmpnofgaaGreatKit
import Derived.ProofKit
import Derived.OpenShut
import Derived.ShutString
import Derived.ChangeOld
import Derived.SizedLaws
import Derived.JoinedCond
import Derived.WideKeyArr2
import Derived.Test.YthaepkpmpnofgaaGreatGN
import Derived.Deep.Slices
import Derived.Lib.SmallJoins
namespace Go.Proofs.YthaepkpmpnofgaaGreat.Frame
open Go.ChangeShapes Go.WideShapes Go.ChangeAt Go.RowKit Go.Proofs.YthaepkpmpnofgaaGreat.Kit

/-- A slice of bytes that came in: its bytes, its bounds, its datum. -/
structure Came {H : Type} (w : World) (a : Option Addr) (len cap : Nat) (d : DataW H) (l : List UInt8) : Prop where
  reads : RB w a len l
  fits : len ≤ cap
  max : cap ≤ 9223372036854775807
  datum : (d = .nil ∧ len = 0 ∧ cap = 0) ∨ ∃ elems spare, d = .slice elems spare ∧ elems.length + spare.length = cap

theorem rb_of_ints {w : World} {x : Addr} {len cap : Nat} {zs : List Int} (hl : len ≤ cap) (hz : zs.length = cap) (hcell : ∀ i, i < zs.length → w.cell? (x.add i) = some (.int .u8 (zs.getD i 0)))
    (hwz : ∀ n ∈ zs, (Lit.int .u8 n).wf = true) : RB w (some x) len ((zs.take len).map fun n => UInt8.ofNat n.toNat) := by
  have hlen : ((zs.take len).map fun n => UInt8.ofNat n.toNat).length = len := by simp; omega
  refine ⟨by rw [vals_length, hlen, Nat.mul_one], fun hn => ?_⟩
  have h0 := hcell 0 (by omega)
  rw [add_zero] at h0
  refine ⟨x, rfl, World.block_lt_of_cell? _ _ h0, fun j u hj => ?_⟩
  have hjl : j < len := by
    have := (List.getElem?_eq_some_iff.1 hj).1
    rwa [vals_length, hlen] at this
  have hjz : j < zs.length := by omega
  rw [hcell j hjz]
  rw [vals_get _ j (by omega)] at hj
  rw [← hj]
  have hw := hwz zs[j] (List.getElem_mem hjz)
  have hb : 0 ≤ zs[j] ∧ zs[j] ≤ 255 := by simpa [Lit.wf, IntKind.min, IntKind.max, IntKind.signed, IntKind.bits] using hw
  have e : ((((zs.take len).map fun n => UInt8.ofNat n.toNat)[j]'(by omega)).toNat : Int) = zs[j] := by
    simp
    omega
  rw [e]
  simp [List.getD, List.getElem?_eq_getElem hjz]

theorem open_bytes {H : Type} {enc : TypeId × Value → H} {P : Program} {w : World} {t e : TypeId} {fuel len cap : Nat} {a0 : Option Addr} {x : DataW H × List MemPlace}
    (ht : P.underlying t = some (.slice e)) (he : P.underlying e = some (.int .u8)) (hc : P.cellsOf e = 1)
    (h : DataW.trod enc P w 0 (fun _ => true) true fuel t (Value.slice a0 len cap).cells.toList = some x) : ∃ l, Came w a0 len cap x.1 l := by
  rcases open_ints ht he hc h with ⟨hcs, hx⟩ | ⟨y, l, c, zs, hcs, _, hl, hm, hz, hx, hcell, hwz⟩
  · simp [Value.cells] at hcs
    obtain ⟨rfl, rfl, rfl⟩ := hcs
    subst hx
    exact ⟨[], Reads.none_, by omega, by omega, .inl ⟨rfl, rfl, rfl⟩⟩
  · simp [Value.cells] at hcs
    obtain ⟨rfl, rfl, rfl⟩ := hcs
    simp only [if_true] at hz
    subst hx
    unfold maxLen at hm
    refine ⟨_, rb_of_ints hl hz hcell hwz, hl, by omega, .inr ⟨_, _, rfl, ?_⟩⟩
    simp only [lits, List.length_map, List.length_take, List.length_drop]
    omega

/-- The form's own reach. -/
theorem Came.reach {H : Type} {P : Program} {w : World} {a : Option Addr} {len cap : Nat} {d : DataW H} {l : List UInt8} (h : Came w a len cap d l) {ts : List TypeId} {ds : List (DataW H)} {j : Nat} {t e : TypeId}
    (hs : (DataW.weightsEach P ts ds).all (· ≤ reachBytes) = true) (hj : ts[j]? = some t) (hd : ds[j]? = some d) (ht : P.underlying t = some (.slice e)) (hb : P.bytesOf e = 1) : len ≤ 140737488351232 := by
  have hf := h.fits
  rcases h.datum with ⟨rfl, rfl, _⟩ | ⟨elems, spare, rfl, hlen⟩
  · omega
  · have := sized_slice hs hj hd ht
    rw [hb] at this
    simp only [reachBytes] at this
    omega

/-! ### The second form's bound -/
theorem one_le {H : Type} (d : DataW H) : 1 ≤ Rows.uptoBulk d := by
  cases d with
  | lit l => cases l <;> simp [Rows.uptoBulk]
  | nil => simp [Rows.uptoBulk]
  | ptr d => simp [Rows.uptoBulk]
  | slice elems spare => simp [Rows.uptoBulk]
  | agg parts => simp [Rows.uptoBulk]
  | iface t d => simp [Rows.uptoBulk]
  | map entries => simp [Rows.uptoBulk]
  | held h => simp [Rows.uptoBulk]
theorem part_le {H : Type} {d : DataW H} {l : List (DataW H)} (h : d ∈ l) : Rows.uptoBulk d ≤ Rows.uptoBulkAll l := by
  induction l with
  | nil => cases h
  | cons x r ih =>
    simp only [Rows.uptoBulkAll]
    cases List.mem_cons.1 h with
    | inl e => subst e; omega
    | inr e => have := ih e; omega
theorem length_le {H : Type} (l : List (DataW H)) : l.length ≤ Rows.uptoBulkAll l := by
  induction l with
  | nil => simp [Rows.uptoBulkAll]
  | cons x r ih => have := one_le x; simp only [Rows.uptoBulkAll, List.length_cons]; omega
theorem Came.bulk {H : Type} {w : World} {a : Option Addr} {len cap : Nat} {d : DataW H} {l : List UInt8} (h : Came w a len cap d l) {ds : List (DataW H)} (hk : Rows.uptoSmall H ds = true) (hd : d ∈ ds) : len ≤ 1048576 := by
  have hf := h.fits
  have hall : Rows.uptoBulkAll ds ≤ 1048576 := of_decide_eq_true hk
  have hp := part_le hd
  rcases h.datum with ⟨rfl, rfl, _⟩ | ⟨elems, spare, rfl, hlen⟩
  · omega
  · have h1 := length_le elems
    have h2 := length_le spare
    simp only [Rows.uptoBulk] at hp
    omega
end Go.Proofs.YthaepkpmpnofgaaGreat.Frame
namespace Go.Proofs.YthaepkpmpnofgaaGreat.Arrs
open Go.ChangeShapes Go.WideShapes Go.ChangeAt Go.RowKit Go.WideMaps Go.Proofs.YthaepkpmpnofgaaGreat.Kit

section
variable {H : Type} {enc : TypeId × Value → H} {P : Program} {k e : TypeId} {n : Nat} {q : IntKind} {W : World} {base : Nat} {sp : Nat → Bool} {held : Bool}

theorem mapM_ints (he : P.underlying e = some (.int q)) {m : Nat} {cs : List Value} : ∀ (L : List Nat) (xs : List (DataW H × List MemPlace)),
    L.mapM (fun i => DataW.trod enc P W base sp held m e ((cs.drop (i * 1)).take 1)) = some xs →
    ∃ zs : List Int, xs = zs.map (fun z => (.lit (.int q z), [])) ∧ L.map (fun i => (cs.drop (i * 1)).take 1) = zs.map (fun z => [.int q z]) ∧ ∀ z ∈ zs, (Lit.int q z).wf = true
  | [], xs, h => by
    simp at h
    subst h
    exact ⟨[], rfl, rfl, by simp⟩
  | i :: L, xs, h => by
    rw [List.mapM_cons] at h
    simp only [bind, Option.bind_eq_some_iff, pure, Option.some.injEq] at h
    obtain ⟨y, hy, ys, hys, rfl⟩ := h
    obtain ⟨zs, rfl, hl, hw⟩ := mapM_ints he L ys hys
    obtain ⟨a, ea, rfl, wa⟩ := DataW.trod_int he hy
    refine ⟨a :: zs, rfl, by simp only [List.map_cons, hl, ea], fun z hz => ?_⟩
    rcases List.mem_cons.1 hz with rfl | hz
    · exact wa
    · exact hw z hz
theorem pieces (cs : List Value) : (List.range cs.length).map (fun i => (cs.drop (i * 1)).take 1) = cs.map fun c => [c] := by
  apply List.ext_getElem?
  intro i
  simp only [List.getElem?_map, Nat.mul_one]
  by_cases hi : i < cs.length
  · rw [List.getElem?_range hi, List.getElem?_eq_getElem hi]
    simp only [Option.map_some, Option.some.injEq]
    rw [List.drop_eq_getElem_cons hi]
    rfl
  · rw [List.getElem?_eq_none (by simpa using hi), List.getElem?_eq_none (by omega)]
    rfl
theorem ones_inj {α β : Type} {f : β → α} : ∀ {l : List α} {r : List β}, l.map (fun c => [c]) = r.map (fun z => [f z]) → l = r.map f
  | [], [], _ => rfl
  | [], z :: r, h => by simp at h
  | a :: l, [], h => by simp at h
  | a :: l, z :: r, h => by
    simp only [List.map_cons, List.cons.injEq] at h ⊢
    exact ⟨by simpa using h.1, ones_inj h.2⟩

/-- An array of integers that came in. -/
theorem open_ints_arr (A : ArrKey P k e n) (he : P.underlying e = some (.int q)) {r : Reach} {b0 : Nat} {v : Value} {d : DataW H} {ps : List MemPlace} (hval : Value.okWide P W r b0 k v) (hd : DataW.Trod enc P W base sp held k v d ps) :
    ∃ zs : List Int, zs.length = n ∧ v = .agg (zs.map (Value.int q)).toArray ∧ d = .agg (zs.map fun z => .lit (.int q z)) ∧ ps = [] ∧ ∀ z ∈ zs, (Lit.int q z).wf = true := by
  obtain ⟨xs, rfl, hn⟩ := okWide_arr A hval
  obtain ⟨fuel, hf⟩ := hd
  cases fuel with
  | zero => simp [DataW.trod] at hf
  | succ m =>
    rw [DataW.trod_step] at hf
    unfold DataW.trodStep at hf
    simp only [A.hu, Value.cells] at hf
    rw [if_pos (by rw [A.size]; simpa using hn)] at hf
    simp only [Option.map_eq_some_iff, A.one] at hf
    obtain ⟨ys, hy, e1⟩ := hf
    obtain ⟨zs, rfl, hl, hw⟩ := mapM_ints he _ ys hy
    have hlen : xs.toList.length = n := by simpa using hn
    rw [← hlen, pieces] at hl
    have hcs := ones_inj hl
    simp only [Prod.mk.injEq] at e1
    refine ⟨zs, by rw [← hlen, hcs]; simp, ?_, by rw [← e1.1]; simp [Function.comp_def], by rw [← e1.2]; simp [List.flatMap_eq_nil_iff], hw⟩
    rw [← hcs]
theorem mapM_shut (he : P.underlying e = some (.int q)) {m : Nat} {f : Nat → List Value} : ∀ (L : List Nat) (zs : List Int), L.map f = zs.map (fun z => [.int q z]) → (∀ z ∈ zs, (Lit.int q z).wf = true) →
    L.mapM (fun i => DataW.trod enc P W base sp held (m + 1) e (f i)) = some (zs.map fun z => (.lit (.int q z), []))
  | [], [], _, _ => rfl
  | [], z :: r, h, _ => by simp at h
  | a :: l, [], h, _ => by simp at h
  | a :: l, z :: r, h, hw => by
    simp only [List.map_cons, List.cons.injEq] at h
    rw [List.mapM_cons, h.1, mapM_shut he l r h.2 (fun z hz => hw z (by simp [hz])), ChangeShapes.trod_int_mk m he (hw z (by simp))]
    rfl
theorem shut_ints_arr (A : ArrKey P k e n) (he : P.underlying e = some (.int q)) {zs : List Int} (hl : zs.length = n) (hw : ∀ z ∈ zs, (Lit.int q z).wf = true) :
    DataW.Trod enc P W base sp held k (.agg (zs.map (Value.int q)).toArray) (.agg (zs.map fun z => .lit (.int q z))) [] :=
  ⟨2, by
    show DataW.trod enc P W base sp held (1 + 1) k (zs.map (Value.int q)) = _
    rw [DataW.trod_step]
    unfold DataW.trodStep
    simp only [A.hu]
    rw [if_pos (by rw [A.size]; simpa using hl)]
    have h := pieces (zs.map (Value.int q))
    rw [List.length_map, hl, List.map_map] at h
    have := mapM_shut (enc := enc) (W := W) (base := base) (sp := sp) (held := held) (m := 0) he _ zs h hw
    simp only [A.one]
    rw [this]
    simp [Function.comp_def, List.flatMap_eq_nil_iff]⟩
end

/-- A slice of integers that came in. -/
structure CameI (w : World) (q : IntKind) (a : Option Addr) (len cap : Nat) (zs : List Int) : Prop where
  reads : Reads w w.heap.size 1 a len (zs.map (Value.int q))
  fits : len ≤ cap
  max : cap ≤ 9223372036854775807
  wf : ∀ z ∈ zs, (Lit.int q z).wf = true
theorem open_int_slice {H : Type} {enc : TypeId × Value → H} {P : Program} {w : World} {q : IntKind} {t e : TypeId} {fuel len cap : Nat} {a0 : Option Addr} {x : DataW H × List MemPlace} (ht : P.underlying t = some (.slice e)) (he : P.underlying e = some (.int q)) (hc : P.cellsOf e = 1)
    (h : DataW.trod enc P w 0 (fun _ => true) true fuel t (Value.slice a0 len cap).cells.toList = some x) : ∃ zs, CameI w q a0 len cap zs := by
  rcases open_ints ht he hc h with ⟨hcs, hx⟩ | ⟨y, l, c, zs, hcs, _, hl, hm, hz, hx, hcell, hwz⟩
  · simp [Value.cells] at hcs
    obtain ⟨rfl, rfl, rfl⟩ := hcs
    exact ⟨[], Reads.none_, by omega, by omega, by simp⟩
  · simp [Value.cells] at hcs
    obtain ⟨rfl, rfl, rfl⟩ := hcs
    simp only [if_true] at hz
    unfold maxLen at hm
    refine ⟨zs.take len, ⟨by simp; omega, fun hn => ?_⟩, hl, by omega, fun z hz' => hwz z (List.mem_of_mem_take hz')⟩
    have h0 := hcell 0 (by omega)
    rw [add_zero] at h0
    refine ⟨y, rfl, World.block_lt_of_cell? _ _ h0, fun j u hj => ?_⟩
    have hjl : j < len := by
      have := (List.getElem?_eq_some_iff.1 hj).1
      simp at this
      omega
    rw [hcell j (by omega), ← hj]
    simp [hjl, List.getD, List.getElem?_eq_getElem (show j < zs.length by omega)]
end Go.Proofs.YthaepkpmpnofgaaGreat.Arrs
set_option linter.unusedVariables false
set_option maxRecDepth 100000
set_option linter.unusedSimpArgs false
namespace Go.Proofs.YthaepkpmpnofgaaGreat.Opens
open Go.ChangeShapes Go.WideShapes Go.ChangeAt Go.RowKit Go.Deep Go.Proofs.YthaepkpmpnofgaaGreat.Frame Go.Proofs.YthaepkpmpnofgaaGreat.Kit Go.Proofs.YthaepkpmpnofgaaGreat.Stq Go.Proofs.YthaepkpmpnofgaaGreat.Pln

theorem i64_wf {z : Int} (h : (Lit.int .i64 z).wf = true) : -9223372036854775808 ≤ z ∧ z ≤ 9223372036854775807 := by
  simpa [Lit.wf, IntKind.min, IntKind.max, IntKind.signed, IntKind.bits] using h
theorem u64_wf {z : Int} (h : (Lit.int .u64 z).wf = true) : ∃ n : Nat, z = (n : Int) ∧ n < 18446744073709551616 := by
  have hb : 0 ≤ z ∧ z ≤ 18446744073709551615 := by simpa [Lit.wf, IntKind.min, IntKind.max, IntKind.signed, IntKind.bits] using h
  exact ⟨z.toNat, by omega, by omega⟩
/-! ### What is read -/
def strD {H : Type} (s : ByteArray) : DataW H := .lit (.string s.data.toList)
def spD {H : Type} (e : Sp) : DataW H := .agg [.lit (.int .i64 e.pt), strD e.nm, .lit (.int .i64 e.bg)]
def listD {H : Type} (d : DataW H) (l : List Sp) : Prop := (d = .nil ∧ l = []) ∨ ∃ sp, d = .slice (l.map spD) sp
/-- A step's fields lie in memory. -/
structure SIn (e : Sp) : Prop where
  p0 : -9223372036854775808 ≤ e.pt
  p1 : e.pt ≤ 9223372036854775807
  n : e.nm.size ≤ 9223372036854775807
  b0 : -9223372036854775808 ≤ e.bg
  b1 : e.bg ≤ 9223372036854775807
section
variable {H : Type} {enc : TypeId × Value → H} {w : World}
set_option maxRecDepth 100000 in
theorem open_sp {fuel : Nat} {cs : List Value} {x : DataW H × List MemPlace} (h : DataW.trod enc Tryz.prog w 0 (fun _ => true) true fuel 67 cs = some x) : ∃ e : Sp, cs = spCs e ∧ SIn e ∧ x.1 = spD e := by
  obtain ⟨xs, n, _, hx, hlen, hxl, hfs⟩ := DataW.trod_struct Tryz.underlying67 h
  rw [show Tryz.prog.cellsOf 67 = 3 by kernel_rfl] at hlen
  match cs, hlen, xs, hxl with
  | [v0, v1, v2], _, [y0, y1, y2], _ =>
    have k0 : DataW.trod enc Tryz.prog w 0 (fun _ => true) true n 3 [v0] = some y0 := hfs 0 _ rfl
    have k1 : DataW.trod enc Tryz.prog w 0 (fun _ => true) true n 9 [v1] = some y1 := hfs 1 _ rfl
    have k2 : DataW.trod enc Tryz.prog w 0 (fun _ => true) true n 3 [v2] = some y2 := hfs 2 _ rfl
    obtain ⟨z0, e0, rfl, r0⟩ := DataW.trod_int Tryz.underlying3 k0
    obtain ⟨s, e1, rfl, r1⟩ := DataW.trod_string Tryz.underlying9 k1
    obtain ⟨z2, e2, rfl, r2⟩ := DataW.trod_int Tryz.underlying3 k2
    simp only [List.cons.injEq, and_true] at e0 e1 e2
    subst e0 e1 e2
    have a0 := i64_wf r0
    have a2 := i64_wf r2
    unfold maxLen at r1
    exact ⟨⟨z0, s, z2⟩, rfl, ⟨a0.1, a0.2, by simp only []; omega, a2.1, a2.2⟩, by rw [hx]; rfl⟩
/-- A slice of steps that came in. -/
structure CameS (w : World) (A : Option Addr) (n c : Nat) (l : List Sp) : Prop where
  reads : RS w w.heap.size A n l
  fits : n ≤ c
  max : c ≤ 9223372036854775807
  sin : ∀ e ∈ l, SIn e
set_option maxRecDepth 100000 in
theorem open_steps {fuel : Nat} {cs : List Value} {x : DataW H × List MemPlace} (h : DataW.trod enc Tryz.prog w 0 (fun _ => true) true fuel 40 cs = some x) :
    ∃ A n c l, cs = [.slice A n c] ∧ CameS w A n c l ∧ listD x.1 l ∧ ((∀ m ∈ x.1.weights Tryz.prog 40, m ≤ reachBytes) → c * 32 ≤ 140737488351232) := by
  rcases open_slice Tryz.underlying40 h with ⟨rfl, rfl⟩ | ⟨a, len, cap, m, n, D, Pl, rfl, _, hl, hm, hmm, rfl, hi⟩
  · exact ⟨none, 0, 0, [], rfl, ⟨RS.nil _ _ _, by omega, by omega, fun e he => by cases he⟩, .inl ⟨rfl, rfl⟩, fun _ => by omega⟩
  · unfold maxLen at hm
    simp only [if_true] at hmm
    subst hmm
    have each : ∀ i, i < len → ∃ e : Sp, w.cells? 0 (a.add (i * 3)) 3 = some (spCs e) ∧ SIn e ∧ D i = spD e := fun i hil => by
      obtain ⟨cs', h1, h2⟩ := hi i (by omega)
      obtain ⟨e, rfl, he, hd⟩ := open_sp h2
      exact ⟨e, h1, he, hd⟩
    have : Inhabited Sp := ⟨⟨0, ByteArray.empty, 0⟩⟩
    obtain ⟨f, hf⟩ := choose_lt (p := fun i (e : Sp) => w.cells? 0 (a.add (i * 3)) 3 = some (spCs e) ∧ SIn e ∧ D i = spD e) each
    have hat : ∀ k, k < len → ((List.range len).map f)[k]? = some (f k) := fun k hk => by simp [hk]
    refine ⟨some a, len, _, (List.range len).map f, rfl, ⟨⟨?_, fun hn => ?_⟩, hl, by omega, fun e he => ?_⟩, .inr ⟨(List.range (m - len)).map fun j => D (len + j), ?_⟩, fun hw => ?_⟩
    · rw [scells_length]; simp
    · have hb : a.block < w.heap.size := by
        obtain ⟨_, _, hc⟩ := World.cells?_some (hf 0 hn).1
        have h0 := hc 0 (by decide)
        rw [Nat.zero_mul, Kit.add_zero, Kit.add_zero] at h0
        exact World.block_lt_of_cell? _ _ h0
      refine ⟨a, rfl, hb, fun j u hj => ?_⟩
      have hjl : j < len * 3 := by
        have := (List.getElem?_eq_some_iff.1 hj).1
        rw [scells_length] at this
        simpa using this
      obtain ⟨k, r, hr, rfl⟩ : ∃ k r, r < 3 ∧ j = k * 3 + r := ⟨j / 3, j % 3, by omega, by omega⟩
      have hk : k < len := by omega
      rw [scells_get _ k r _ (hat k hk) hr] at hj
      obtain ⟨_, _, hc⟩ := World.cells?_some (hf k hk).1
      have h0 := hc r hr
      rw [Go.Deep.add_add, hj] at h0
      exact h0
    · obtain ⟨k, hk, rfl⟩ := List.mem_map.1 he
      exact (hf k (List.mem_range.1 hk)).2.1
    · simp only [List.map_map]
      congr 1
      exact List.map_congr_left fun k hk => (hf k (List.mem_range.1 hk)).2.2
    · have := hw ((((List.range len).map D).length + ((List.range (m - len)).map fun j => D (len + j)).length) * Tryz.prog.bytesOf 67) (by simp [DataW.weights, Tryz.underlying40])
      rw [show Tryz.prog.bytesOf 67 = 32 by kernel_rfl] at this
      simp only [List.length_map, List.length_range, reachBytes] at this
      omega
/-! ### The second form's bound -/
theorem bulk_sps {l : List Sp} : l.length + nms l ≤ Rows.uptoBulkAll (H := H) (l.map spD) := by
  induction l with
  | nil => simp [nms, Rows.uptoBulkAll]
  | cons e l ih =>
    have hs : e.nm.data.toList.length = e.nm.size := by simp
    rw [nms_cons]
    simp only [List.map_cons, Rows.uptoBulkAll, List.length_cons, spD, strD, Rows.uptoBulk, hs]
    omega
theorem bulk_list {d : DataW H} {l : List Sp} (h : listD d l) : l.length + nms l + 1 ≤ Rows.uptoBulk d := by
  rcases h with ⟨rfl, rfl⟩ | ⟨sp, rfl⟩
  · simp [nms, Rows.uptoBulk]
  · have := bulk_sps (H := H) (l := l)
    simp only [Rows.uptoBulk]
    omega
/-- The bulk of a list and a number. -/
theorem small {d0 d1 : DataW H} {l : List Sp} (h : listD d0 l) (hall : Rows.uptoBulkAll [d0, d1] ≤ 1048576) : l.length + nms l ≤ 1048576 := by
  have := bulk_list h
  simp only [Rows.uptoBulkAll] at hall
  omega
end
/-! ### By the row's own hands -/
section
variable {H : Type} {enc : TypeId × Value → H} {w : World} {b0 : Nat} {v : Value} {d : DataW H} {p : List MemPlace}
set_option maxRecDepth 100000 in
theorem arg_steps (hv : Value.okWide Tryz.prog w .any b0 40 v) (h : DataW.Trod enc Tryz.prog w 0 (fun _ => true) true 40 v d p) :
    ∃ A n c l, v = .slice A n c ∧ CameS w A n c l ∧ listD d l := by
  obtain ⟨A, n, c, rfl⟩ := okWide_slice Tryz.underlying40 hv
  obtain ⟨fuel, hf⟩ := h
  obtain ⟨A', n', c', l, he, hl, hd, _⟩ := open_steps hf
  simp [Value.cells] at he
  obtain ⟨rfl, rfl, rfl⟩ := he
  exact ⟨_, _, _, l, rfl, hl, hd⟩
theorem arg_num (hv : Value.okWide Tryz.prog w .any b0 30 v) (h : DataW.Trod enc Tryz.prog w 0 (fun _ => true) true 30 v d p) :
    ∃ n : Nat, v = .int .u64 (n : Int) ∧ n < 18446744073709551616 := by
  obtain ⟨z, rfl, _, _, hw⟩ := open_int Tryz.underlying30 hv h
  obtain ⟨n, rfl, hn⟩ := u64_wf hw
  exact ⟨n, rfl, hn⟩
theorem arg_text (hv : Value.okWide Tryz.prog w .any b0 9 v) (h : DataW.Trod enc Tryz.prog w 0 (fun _ => true) true 9 v d p) :
    ∃ s : ByteArray, v = .string s ∧ ((∀ m ∈ d.weights Tryz.prog 9, m ≤ reachBytes) → s.size ≤ 281474976710656) := by
  obtain ⟨s, rfl⟩ := okWide_string Tryz.underlying9 hv
  obtain ⟨fuel, hf⟩ := h
  obtain ⟨s', h', hx, _⟩ := DataW.trod_string Tryz.underlying9 hf
  simp [Value.cells] at h'
  subst h'
  simp only [Prod.mk.injEq] at hx
  obtain ⟨rfl, rfl⟩ := hx
  refine ⟨s, rfl, fun hr => ?_⟩
  have := hr s.size (by rw [Lib.size_eq]; exact List.mem_cons_self)
  simp only [reachBytes] at this
  omega
end
end Go.Proofs.YthaepkpmpnofgaaGreat.Opens
