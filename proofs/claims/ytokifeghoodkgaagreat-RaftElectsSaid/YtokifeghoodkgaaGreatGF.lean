/- A slice of triples that came in. No statement is proved here. -/
import Derived.Test.YtokifeghoodkgaaGreatKit
import Derived.ProofKit
import Derived.OpenShut
import Derived.WideKeyArr2
import Derived.Test.YtokifeghoodkgaaGreatRows
import Derived.ShutString
import Derived.ChangeOld
import Derived.SizedLaws
import Derived.JoinedCond
import Derived.Test.YtokifeghoodkgaaGreatOnly
import Derived.Lib.SmallJoins
import Derived.Deep.Slices
namespace Go.Proofs.YtokifeghoodkgaaGreat.Arrs
open Go.ChangeShapes Go.WideShapes Go.ChangeAt Go.RowKit Go.WideMaps Go.Proofs.YtokifeghoodkgaaGreat.Kit

section
variable {H : Type} {enc : TypeId × Value → H} {P : Program} {k e : TypeId} {n : Nat} {q : IntKind} {W : World} {base : Nat} {sp : Nat → Bool} {held : Bool}

theorem mapM_ints (he : P.underlying e = some (.int q)) {m : Nat} {cs : List Value} : ∀ (L : List Nat) (xs : List (DataW H × List MemPlace)),
    L.mapM (fun i => DataW.trod enc P W base sp held m e ((cs.drop (i * 1)).take 1)) = some xs →
    ∃ zs : List Int, xs = zs.map (fun z => (.lit (.int q z), [])) ∧ L.map (fun i => (cs.drop (i * 1)).take 1) = zs.map (fun z => [.int q z]) ∧ ∀ z ∈ zs, (Lit.int q z).wf = true
  | [], xs, h => by
    simp at h
    subst h
    exact ⟨[], rfl, rfl, by simp⟩
  | i :: L, xs, h => by
    rw [List.mapM_cons] at h
    simp only [bind, Option.bind_eq_some_iff, pure, Option.some.injEq] at h
    obtain ⟨y, hy, ys, hys, rfl⟩ := h
    obtain ⟨zs, rfl, hl, hw⟩ := mapM_ints he L ys hys
    obtain ⟨a, ea, rfl, wa⟩ := DataW.trod_int he hy
    refine ⟨a :: zs, rfl, by simp only [List.map_cons, hl, ea], fun z hz => ?_⟩
    rcases List.mem_cons.1 hz with rfl | hz
    · exact wa
    · exact hw z hz
theorem pieces (cs : List Value) : (List.range cs.length).map (fun i => (cs.drop (i * 1)).take 1) = cs.map fun c => [c] := by
  apply List.ext_getElem?
  intro i
  simp only [List.getElem?_map, Nat.mul_one]
  by_cases hi : i < cs.length
  · rw [List.getElem?_range hi, List.getElem?_eq_getElem hi]
    simp only [Option.map_some, Option.some.injEq]
    rw [List.drop_eq_getElem_cons hi]
    rfl
  · rw [List.getElem?_eq_none (by simpa using hi), List.getElem?_eq_none (by omega)]
    rfl
theorem ones_inj {α β : Type} {f : β → α} : ∀ {l : List α} {r : List β}, l.map (fun c => [c]) = r.map (fun z => [f z]) → l = r.map f
  | [], [], _ => rfl
  | [], z :: r, h => by simp at h
  | a :: l, [], h => by simp at h
  | a :: l, z :: r, h => by
    simp only [List.map_cons, List.cons.injEq] at h ⊢
    exact ⟨by simpa using h.1, ones_inj h.2⟩

/-- An array of integers that came in. -/
theorem open_ints_arr (A : ArrKey P k e n) (he : P.underlying e = some (.int q)) {r : Reach} {b0 : Nat} {v : Value} {d : DataW H} {ps : List MemPlace} (hval : Value.okWide P W r b0 k v) (hd : DataW.Trod enc P W base sp held k v d ps) :
    ∃ zs : List Int, zs.length = n ∧ v = .agg (zs.map (Value.int q)).toArray ∧ d = .agg (zs.map fun z => .lit (.int q z)) ∧ ps = [] ∧ ∀ z ∈ zs, (Lit.int q z).wf = true := by
  obtain ⟨xs, rfl, hn⟩ := okWide_arr A hval
  obtain ⟨fuel, hf⟩ := hd
  cases fuel with
  | zero => simp [DataW.trod] at hf
  | succ m =>
    rw [DataW.trod_step] at hf
    unfold DataW.trodStep at hf
    simp only [A.hu, Value.cells] at hf
    rw [if_pos (by rw [A.size]; simpa using hn)] at hf
    simp only [Option.map_eq_some_iff, A.one] at hf
    obtain ⟨ys, hy, e1⟩ := hf
    obtain ⟨zs, rfl, hl, hw⟩ := mapM_ints he _ ys hy
    have hlen : xs.toList.length = n := by simpa using hn
    rw [← hlen, pieces] at hl
    have hcs := ones_inj hl
    simp only [Prod.mk.injEq] at e1
    refine ⟨zs, by rw [← hlen, hcs]; simp, ?_, by rw [← e1.1]; simp [Function.comp_def], by rw [← e1.2]; simp [List.flatMap_eq_nil_iff], hw⟩
    rw [← hcs]
theorem mapM_shut (he : P.underlying e = some (.int q)) {m : Nat} {f : Nat → List Value} : ∀ (L : List Nat) (zs : List Int), L.map f = zs.map (fun z => [.int q z]) → (∀ z ∈ zs, (Lit.int q z).wf = true) →
    L.mapM (fun i => DataW.trod enc P W base sp held (m + 1) e (f i)) = some (zs.map fun z => (.lit (.int q z), []))
  | [], [], _, _ => rfl
  | [], z :: r, h, _ => by simp at h
  | a :: l, [], h, _ => by simp at h
  | a :: l, z :: r, h, hw => by
    simp only [List.map_cons, List.cons.injEq] at h
    rw [List.mapM_cons, h.1, mapM_shut he l r h.2 (fun z hz => hw z (by simp [hz])), ChangeShapes.trod_int_mk m he (hw z (by simp))]
    rfl
theorem shut_ints_arr (A : ArrKey P k e n) (he : P.underlying e = some (.int q)) {zs : List Int} (hl : zs.length = n) (hw : ∀ z ∈ zs, (Lit.int q z).wf = true) :
    DataW.Trod enc P W base sp held k (.agg (zs.map (Value.int q)).toArray) (.agg (zs.map fun z => .lit (.int q z))) [] :=
  ⟨2, by
    show DataW.trod enc P W base sp held (1 + 1) k (zs.map (Value.int q)) = _
    rw [DataW.trod_step]
    unfold DataW.trodStep
    simp only [A.hu]
    rw [if_pos (by rw [A.size]; simpa using hl)]
    have h := pieces (zs.map (Value.int q))
    rw [List.length_map, hl, List.map_map] at h
    have := mapM_shut (enc := enc) (W := W) (base := base) (sp := sp) (held := held) (m := 0) he _ zs h hw
    simp only [A.one]
    rw [this]
    simp [Function.comp_def, List.flatMap_eq_nil_iff]⟩
end

/-- A slice of integers that came in. -/
structure CameI (w : World) (q : IntKind) (a : Option Addr) (len cap : Nat) (zs : List Int) : Prop where
  reads : Reads w w.heap.size 1 a len (zs.map (Value.int q))
  fits : len ≤ cap
  max : cap ≤ 9223372036854775807
  wf : ∀ z ∈ zs, (Lit.int q z).wf = true
theorem open_int_slice {H : Type} {enc : TypeId × Value → H} {P : Program} {w : World} {q : IntKind} {t e : TypeId} {fuel len cap : Nat} {a0 : Option Addr} {x : DataW H × List MemPlace} (ht : P.underlying t = some (.slice e)) (he : P.underlying e = some (.int q)) (hc : P.cellsOf e = 1)
    (h : DataW.trod enc P w 0 (fun _ => true) true fuel t (Value.slice a0 len cap).cells.toList = some x) : ∃ zs, CameI w q a0 len cap zs := by
  rcases open_ints ht he hc h with ⟨hcs, hx⟩ | ⟨y, l, c, zs, hcs, _, hl, hm, hz, hx, hcell, hwz⟩
  · simp [Value.cells] at hcs
    obtain ⟨rfl, rfl, rfl⟩ := hcs
    exact ⟨[], Reads.none_, by omega, by omega, by simp⟩
  · simp [Value.cells] at hcs
    obtain ⟨rfl, rfl, rfl⟩ := hcs
    simp only [if_true] at hz
    unfold maxLen at hm
    refine ⟨zs.take len, ⟨by simp; omega, fun hn => ?_⟩, hl, by omega, fun z hz' => hwz z (List.mem_of_mem_take hz')⟩
    have h0 := hcell 0 (by omega)
    rw [add_zero] at h0
    refine ⟨y, rfl, World.block_lt_of_cell? _ _ h0, fun j u hj => ?_⟩
    have hjl : j < len := by
      have := (List.getElem?_eq_some_iff.1 hj).1
      simp at this
      omega
    rw [hcell j (by omega), ← hj]
    simp [hjl, List.getD, List.getElem?_eq_getElem (show j < zs.length by omega)]
end Go.Proofs.YtokifeghoodkgaaGreat.Arrs
namespace Go.Proofs.YtokifeghoodkgaaGreat.Frame
open Go.ChangeShapes Go.WideShapes Go.ChangeAt Go.RowKit Go.Proofs.YtokifeghoodkgaaGreat.Kit

/-- A slice of bytes that came in: its bytes, its bounds, its datum. -/
structure Came {H : Type} (w : World) (a : Option Addr) (len cap : Nat) (d : DataW H) (l : List UInt8) : Prop where
  reads : RB w a len l
  fits : len ≤ cap
  max : cap ≤ 9223372036854775807
  datum : (d = .nil ∧ len = 0 ∧ cap = 0) ∨ ∃ elems spare, d = .slice elems spare ∧ elems.length + spare.length = cap

theorem rb_of_ints {w : World} {x : Addr} {len cap : Nat} {zs : List Int} (hl : len ≤ cap) (hz : zs.length = cap) (hcell : ∀ i, i < zs.length → w.cell? (x.add i) = some (.int .u8 (zs.getD i 0)))
    (hwz : ∀ n ∈ zs, (Lit.int .u8 n).wf = true) : RB w (some x) len ((zs.take len).map fun n => UInt8.ofNat n.toNat) := by
  have hlen : ((zs.take len).map fun n => UInt8.ofNat n.toNat).length = len := by simp; omega
  refine ⟨by rw [vals_length, hlen, Nat.mul_one], fun hn => ?_⟩
  have h0 := hcell 0 (by omega)
  rw [add_zero] at h0
  refine ⟨x, rfl, World.block_lt_of_cell? _ _ h0, fun j u hj => ?_⟩
  have hjl : j < len := by
    have := (List.getElem?_eq_some_iff.1 hj).1
    rwa [vals_length, hlen] at this
  have hjz : j < zs.length := by omega
  rw [hcell j hjz]
  rw [vals_get _ j (by omega)] at hj
  rw [← hj]
  have hw := hwz zs[j] (List.getElem_mem hjz)
  have hb : 0 ≤ zs[j] ∧ zs[j] ≤ 255 := by simpa [Lit.wf, IntKind.min, IntKind.max, IntKind.signed, IntKind.bits] using hw
  have e : ((((zs.take len).map fun n => UInt8.ofNat n.toNat)[j]'(by omega)).toNat : Int) = zs[j] := by
    simp
    omega
  rw [e]
  simp [List.getD, List.getElem?_eq_getElem hjz]

theorem open_bytes {H : Type} {enc : TypeId × Value → H} {P : Program} {w : World} {t e : TypeId} {fuel len cap : Nat} {a0 : Option Addr} {x : DataW H × List MemPlace}
    (ht : P.underlying t = some (.slice e)) (he : P.underlying e = some (.int .u8)) (hc : P.cellsOf e = 1)
    (h : DataW.trod enc P w 0 (fun _ => true) true fuel t (Value.slice a0 len cap).cells.toList = some x) : ∃ l, Came w a0 len cap x.1 l := by
  rcases open_ints ht he hc h with ⟨hcs, hx⟩ | ⟨y, l, c, zs, hcs, _, hl, hm, hz, hx, hcell, hwz⟩
  · simp [Value.cells] at hcs
    obtain ⟨rfl, rfl, rfl⟩ := hcs
    subst hx
    exact ⟨[], Reads.none_, by omega, by omega, .inl ⟨rfl, rfl, rfl⟩⟩
  · simp [Value.cells] at hcs
    obtain ⟨rfl, rfl, rfl⟩ := hcs
    simp only [if_true] at hz
    subst hx
    unfold maxLen at hm
    refine ⟨_, rb_of_ints hl hz hcell hwz, hl, by omega, .inr ⟨_, _, rfl, ?_⟩⟩
    simp only [lits, List.length_map, List.length_take, List.length_drop]
    omega

/-- The form's own reach. -/
theorem Came.reach {H : Type} {P : Program} {w : World} {a : Option Addr} {len cap : Nat} {d : DataW H} {l : List UInt8} (h : Came w a len cap d l) {ts : List TypeId} {ds : List (DataW H)} {j : Nat} {t e : TypeId}
    (hs : (DataW.weightsEach P ts ds).all (· ≤ reachBytes) = true) (hj : ts[j]? = some t) (hd : ds[j]? = some d) (ht : P.underlying t = some (.slice e)) (hb : P.bytesOf e = 1) : len ≤ 140737488351232 := by
  have hf := h.fits
  rcases h.datum with ⟨rfl, rfl, _⟩ | ⟨elems, spare, rfl, hlen⟩
  · omega
  · have := sized_slice hs hj hd ht
    rw [hb] at this
    simp only [reachBytes] at this
    omega

/-! ### The second form's bound -/
theorem one_le {H : Type} (d : DataW H) : 1 ≤ Rows.uptoBulk d := by
  cases d with
  | lit l => cases l <;> simp [Rows.uptoBulk]
  | nil => simp [Rows.uptoBulk]
  | ptr d => simp [Rows.uptoBulk]
  | slice elems spare => simp [Rows.uptoBulk]
  | agg parts => simp [Rows.uptoBulk]
  | iface t d => simp [Rows.uptoBulk]
  | map entries => simp [Rows.uptoBulk]
  | held h => simp [Rows.uptoBulk]
theorem part_le {H : Type} {d : DataW H} {l : List (DataW H)} (h : d ∈ l) : Rows.uptoBulk d ≤ Rows.uptoBulkAll l := by
  induction l with
  | nil => cases h
  | cons x r ih =>
    simp only [Rows.uptoBulkAll]
    cases List.mem_cons.1 h with
    | inl e => subst e; omega
    | inr e => have := ih e; omega
theorem length_le {H : Type} (l : List (DataW H)) : l.length ≤ Rows.uptoBulkAll l := by
  induction l with
  | nil => simp [Rows.uptoBulkAll]
  | cons x r ih => have := one_le x; simp only [Rows.uptoBulkAll, List.length_cons]; omega
theorem Came.bulk {H : Type} {w : World} {a : Option Addr} {len cap : Nat} {d : DataW H} {l : List UInt8} (h : Came w a len cap d l) {ds : List (DataW H)} (hk : Rows.uptoSmall H ds = true) (hd : d ∈ ds) : len ≤ 1048576 := by
  have hf := h.fits
  have hall : Rows.uptoBulkAll ds ≤ 1048576 := of_decide_eq_true hk
  have hp := part_le hd
  rcases h.datum with ⟨rfl, rfl, _⟩ | ⟨elems, spare, rfl, hlen⟩
  · omega
  · have h1 := length_le elems
    have h2 := length_le spare
    simp only [Rows.uptoBulk] at hp
    omega
end Go.Proofs.YtokifeghoodkgaaGreat.Frame
set_option linter.unusedVariables false
namespace Go.Proofs.YtokifeghoodkgaaGreat.Trip
open Go.ChangeShapes Go.WideShapes Go.WideMaps Go.Deep
open Go.RowKit Go.Proofs.YtokifeghoodkgaaGreat.Kit Go.Proofs.YtokifeghoodkgaaGreat.Blocks

theorem i64_wf {z : Int} (h : (Lit.int .i64 z).wf = true) : -9223372036854775808 ≤ z ∧ z ≤ 9223372036854775807 := by
  simpa [Lit.wf, IntKind.min, IntKind.max, IntKind.signed, IntKind.bits] using h
theorem add_lit (a : Addr) (h : a = ⟨a.block, a.off, none⟩) (i : Nat) : a.add i = ⟨a.block, a.off + i, none⟩ := by
  rw [h]
  unfold Addr.add
  split
  · rename_i e; subst e; rfl
  · rfl
/-! ### A slice of triples -/
structure Trip where
  x : Int
  y : Int
  z : Int
structure TripB (t : Trip) : Prop where
  x0 : -9223372036854775808 ≤ t.x
  x1 : t.x ≤ 9223372036854775807
  y0 : -9223372036854775808 ≤ t.y
  y1 : t.y ≤ 9223372036854775807
  z0 : -9223372036854775808 ≤ t.z
  z1 : t.z ≤ 9223372036854775807
/-- The slice holds n triples. -/
def HoldsT (w : World) (a : Option Addr) (n : Nat) : Prop :=
  ∀ k, k < n → ∃ b o t, a = some ⟨b, o, none⟩ ∧ b < w.heap.size ∧ w.cell? ⟨b, o + k * 3, none⟩ = some (.int .i64 t.x) ∧ w.cell? ⟨b, o + k * 3 + 1, none⟩ = some (.int .i64 t.y) ∧ w.cell? ⟨b, o + k * 3 + 2, none⟩ = some (.int .i64 t.z) ∧ TripB t
theorem HoldsT.at_ {w W : World} {a : Option Addr} {n : Nat} (h : HoldsT w a n) (hb : Below w.heap.size w W) {k : Nat} (hk : k < n) :
    ∃ b o t, a = some ⟨b, o, none⟩ ∧ W.cell? ⟨b, o + k * 3, none⟩ = some (.int .i64 t.x) ∧ W.cell? ⟨b, o + k * 3 + 1, none⟩ = some (.int .i64 t.y) ∧ W.cell? ⟨b, o + k * 3 + 2, none⟩ = some (.int .i64 t.z) ∧ TripB t := by
  obtain ⟨b, o, t, ha, hl, h0, h1, h2, ht⟩ := h k hk
  exact ⟨b, o, t, ha, (hb.cell (p := ⟨b, o + k * 3, none⟩) hl).trans h0, (hb.cell (p := ⟨b, o + k * 3 + 1, none⟩) hl).trans h1, (hb.cell (p := ⟨b, o + k * 3 + 2, none⟩) hl).trans h2, ht⟩
section
variable {H : Type} {enc : TypeId × Value → H} {w : World}
/-- An array of integers, of its cells. -/
theorem open_arr_cells {P : Program} {k e : TypeId} {n : Nat} {q : IntKind} {W : World} {base : Nat} {sp : Nat → Bool} {held : Bool} (A : ArrKey P k e n) (he : P.underlying e = some (.int q)) {fuel : Nat} {cs : List Value} {x : DataW H × List MemPlace} (hn : cs.length = n)
    (hf : DataW.trod enc P W base sp held fuel k cs = some x) : ∃ zs : List Int, zs.length = n ∧ cs = zs.map (Value.int q) ∧ ∀ z ∈ zs, (Lit.int q z).wf = true := by
  cases fuel with
  | zero => simp [DataW.trod] at hf
  | succ m =>
    rw [DataW.trod_step] at hf
    unfold DataW.trodStep at hf
    simp only [A.hu] at hf
    rw [if_pos (by rw [A.size]; simpa using hn)] at hf
    simp only [Option.map_eq_some_iff, A.one] at hf
    obtain ⟨ys, hy, e1⟩ := hf
    obtain ⟨zs, rfl, hl, hw⟩ := Arrs.mapM_ints he _ ys hy
    rw [← hn, Arrs.pieces] at hl
    have hcs := Arrs.ones_inj hl
    exact ⟨zs, by rw [← hn, hcs]; simp, hcs, hw⟩
theorem arr3 : ArrKey Tryz.prog 77 3 3 := ⟨Tryz.underlying77, by kernel_rfl, by kernel_rfl, by kernel_rfl⟩
set_option maxRecDepth 100000 in
theorem arg_trips {b0 : Nat} {v : Value} {d : DataW H} {p : List MemPlace} (hv : Value.okWide Tryz.prog w .any b0 73 v) (h : DataW.Trod enc Tryz.prog w 0 (fun _ => true) true 73 v d p) :
    ∃ A n c, v = .slice A n c ∧ HoldsT w A n ∧ n ≤ 9223372036854775807 := by
  obtain ⟨A, n, c, rfl⟩ := okWide_slice Tryz.underlying73 hv
  obtain ⟨fuel, hf⟩ := h
  rcases open_slice Tryz.underlying73 hf with ⟨hcs, _⟩ | ⟨a, len, cap, m, q, D, Pl, hcs, _, hl, hm, hmm, _, hi⟩
  · simp [Value.cells] at hcs
    obtain ⟨rfl, rfl, rfl⟩ := hcs
    exact ⟨_, _, _, rfl, fun k hk => absurd hk (by omega), by omega⟩
  · simp [Value.cells] at hcs
    obtain ⟨rfl, rfl, rfl⟩ := hcs
    unfold maxLen at hm
    simp only [if_true] at hmm
    refine ⟨_, _, _, rfl, fun k hk => ?_, by omega⟩
    obtain ⟨cs', h1, h2⟩ := hi k (by omega)
    rw [show Tryz.prog.cellsOf 77 = 3 by kernel_rfl] at h1
    obtain ⟨_, hlen, hcell⟩ := World.cells?_some h1
    obtain ⟨zs, hzl, rfl, hw⟩ := open_arr_cells arr3 Tryz.underlying3 hlen h2
    match zs, hzl with
    | [z0, z1, z2], _ =>
      have g0 := hcell 0 (by decide)
      have g1 := hcell 1 (by decide)
      have g2 := hcell 2 (by decide)
      rw [Go.Deep.add_add] at g0 g1 g2
      have hsp : a.spot = none := by
        obtain ⟨cs0, k1, k2⟩ := hi 0 (by omega)
        rw [show Tryz.prog.cellsOf 77 = 3 by kernel_rfl] at k1
        obtain ⟨_, hlen0, hcell0⟩ := World.cells?_some k1
        have j0 := hcell0 0 (by decide)
        rw [Nat.zero_mul, Kit.add_zero, Kit.add_zero, List.getElem?_eq_getElem (by omega)] at j0
        exact World.cell?_spot j0
      obtain ⟨b, o, s⟩ := a
      simp only at hsp
      subst hsp
      have hadd : ∀ i, (⟨b, o, none⟩ : Addr).add i = ⟨b, o + i, none⟩ := fun i => add_lit ⟨b, o, none⟩ rfl i
      rw [hadd] at g0 g1 g2
      have w0 := i64_wf (hw z0 (by simp))
      have w1 := i64_wf (hw z1 (by simp))
      have w2 := i64_wf (hw z2 (by simp))
      exact ⟨b, o, ⟨z0, z1, z2⟩, rfl, World.block_lt_of_cell? w (⟨b, o + (k * 3 + 0), none⟩ : Addr) g0, g0, g1, g2, ⟨w0.1, w0.2, w1.1, w1.2, w2.1, w2.2⟩⟩
end
end Go.Proofs.YtokifeghoodkgaaGreat.Trip
