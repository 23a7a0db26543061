/- An array of integers, by value, that came in: opened, shut; a slice of numbers of 64 bits that came in. No statement is proved here. -/
import Derived.Test.YthaepkpmpnofgaaKit
import Derived.ProofKit
import Derived.OpenShut
import Derived.WideKeyArr2
namespace Go.Proofs.Ythaepkpmpnofgaa.Arrs
open Go.ChangeShapes Go.WideShapes Go.ChangeAt Go.RowKit Go.WideMaps Go.Proofs.Ythaepkpmpnofgaa.Kit

section
variable {H : Type} {enc : TypeId × Value → H} {P : Program} {k e : TypeId} {n : Nat} {q : IntKind} {W : World} {base : Nat} {sp : Nat → Bool} {held : Bool}

theorem mapM_ints (he : P.underlying e = some (.int q)) {m : Nat} {cs : List Value} : ∀ (L : List Nat) (xs : List (DataW H × List MemPlace)),
    L.mapM (fun i => DataW.trod enc P W base sp held m e ((cs.drop (i * 1)).take 1)) = some xs →
    ∃ zs : List Int, xs = zs.map (fun z => (.lit (.int q z), [])) ∧ L.map (fun i => (cs.drop (i * 1)).take 1) = zs.map (fun z => [.int q z]) ∧ ∀ z ∈ zs, (Lit.int q z).wf = true
  | [], xs, h => by
    simp at h
    subst h
    exact ⟨[], rfl, rfl, by simp⟩
  | i :: L, xs, h => by
    rw [List.mapM_cons] at h
    simp only [bind, Option.bind_eq_some_iff, pure, Option.some.injEq] at h
    obtain ⟨y, hy, ys, hys, rfl⟩ := h
    obtain ⟨zs, rfl, hl, hw⟩ := mapM_ints he L ys hys
    obtain ⟨a, ea, rfl, wa⟩ := DataW.trod_int he hy
    refine ⟨a :: zs, rfl, by simp only [List.map_cons, hl, ea], fun z hz => ?_⟩
    rcases List.mem_cons.1 hz with rfl | hz
    · exact wa
    · exact hw z hz
theorem pieces (cs : List Value) : (List.range cs.length).map (fun i => (cs.drop (i * 1)).take 1) = cs.map fun c => [c] := by
  apply List.ext_getElem?
  intro i
  simp only [List.getElem?_map, Nat.mul_one]
  by_cases hi : i < cs.length
  · rw [List.getElem?_range hi, List.getElem?_eq_getElem hi]
    simp only [Option.map_some, Option.some.injEq]
    rw [List.drop_eq_getElem_cons hi]
    rfl
  · rw [List.getElem?_eq_none (by simpa using hi), List.getElem?_eq_none (by omega)]
    rfl
theorem ones_inj {α β : Type} {f : β → α} : ∀ {l : List α} {r : List β}, l.map (fun c => [c]) = r.map (fun z => [f z]) → l = r.map f
  | [], [], _ => rfl
  | [], z :: r, h => by simp at h
  | a :: l, [], h => by simp at h
  | a :: l, z :: r, h => by
    simp only [List.map_cons, List.cons.injEq] at h ⊢
    exact ⟨by simpa using h.1, ones_inj h.2⟩

/-- An array of integers that came in. -/
theorem open_ints_arr (A : ArrKey P k e n) (he : P.underlying e = some (.int q)) {r : Reach} {b0 : Nat} {v : Value} {d : DataW H} {ps : List MemPlace} (hval : Value.okWide P W r b0 k v) (hd : DataW.Trod enc P W base sp held k v d ps) :
    ∃ zs : List Int, zs.length = n ∧ v = .agg (zs.map (Value.int q)).toArray ∧ d = .agg (zs.map fun z => .lit (.int q z)) ∧ ps = [] ∧ ∀ z ∈ zs, (Lit.int q z).wf = true := by
  obtain ⟨xs, rfl, hn⟩ := okWide_arr A hval
  obtain ⟨fuel, hf⟩ := hd
  cases fuel with
  | zero => simp [DataW.trod] at hf
  | succ m =>
    rw [DataW.trod_step] at hf
    unfold DataW.trodStep at hf
    simp only [A.hu, Value.cells] at hf
    rw [if_pos (by rw [A.size]; simpa using hn)] at hf
    simp only [Option.map_eq_some_iff, A.one] at hf
    obtain ⟨ys, hy, e1⟩ := hf
    obtain ⟨zs, rfl, hl, hw⟩ := mapM_ints he _ ys hy
    have hlen : xs.toList.length = n := by simpa using hn
    rw [← hlen, pieces] at hl
    have hcs := ones_inj hl
    simp only [Prod.mk.injEq] at e1
    refine ⟨zs, by rw [← hlen, hcs]; simp, ?_, by rw [← e1.1]; simp [Function.comp_def], by rw [← e1.2]; simp [List.flatMap_eq_nil_iff], hw⟩
    rw [← hcs]
theorem mapM_shut (he : P.underlying e = some (.int q)) {m : Nat} {f : Nat → List Value} : ∀ (L : List Nat) (zs : List Int), L.map f = zs.map (fun z => [.int q z]) → (∀ z ∈ zs, (Lit.int q z).wf = true) →
    L.mapM (fun i => DataW.trod enc P W base sp held (m + 1) e (f i)) = some (zs.map fun z => (.lit (.int q z), []))
  | [], [], _, _ => rfl
  | [], z :: r, h, _ => by simp at h
  | a :: l, [], h, _ => by simp at h
  | a :: l, z :: r, h, hw => by
    simp only [List.map_cons, List.cons.injEq] at h
    rw [List.mapM_cons, h.1, mapM_shut he l r h.2 (fun z hz => hw z (by simp [hz])), ChangeShapes.trod_int_mk m he (hw z (by simp))]
    rfl
theorem shut_ints_arr (A : ArrKey P k e n) (he : P.underlying e = some (.int q)) {zs : List Int} (hl : zs.length = n) (hw : ∀ z ∈ zs, (Lit.int q z).wf = true) :
    DataW.Trod enc P W base sp held k (.agg (zs.map (Value.int q)).toArray) (.agg (zs.map fun z => .lit (.int q z))) [] :=
  ⟨2, by
    show DataW.trod enc P W base sp held (1 + 1) k (zs.map (Value.int q)) = _
    rw [DataW.trod_step]
    unfold DataW.trodStep
    simp only [A.hu]
    rw [if_pos (by rw [A.size]; simpa using hl)]
    have h := pieces (zs.map (Value.int q))
    rw [List.length_map, hl, List.map_map] at h
    have := mapM_shut (enc := enc) (W := W) (base := base) (sp := sp) (held := held) (m := 0) he _ zs h hw
    simp only [A.one]
    rw [this]
    simp [Function.comp_def, List.flatMap_eq_nil_iff]⟩
end

/-- A slice of integers that came in. -/
structure CameI (w : World) (q : IntKind) (a : Option Addr) (len cap : Nat) (zs : List Int) : Prop where
  reads : Reads w w.heap.size 1 a len (zs.map (Value.int q))
  fits : len ≤ cap
  max : cap ≤ 9223372036854775807
  wf : ∀ z ∈ zs, (Lit.int q z).wf = true
theorem open_int_slice {H : Type} {enc : TypeId × Value → H} {P : Program} {w : World} {q : IntKind} {t e : TypeId} {fuel len cap : Nat} {a0 : Option Addr} {x : DataW H × List MemPlace} (ht : P.underlying t = some (.slice e)) (he : P.underlying e = some (.int q)) (hc : P.cellsOf e = 1)
    (h : DataW.trod enc P w 0 (fun _ => true) true fuel t (Value.slice a0 len cap).cells.toList = some x) : ∃ zs, CameI w q a0 len cap zs := by
  rcases open_ints ht he hc h with ⟨hcs, hx⟩ | ⟨y, l, c, zs, hcs, _, hl, hm, hz, hx, hcell, hwz⟩
  · simp [Value.cells] at hcs
    obtain ⟨rfl, rfl, rfl⟩ := hcs
    exact ⟨[], Reads.none_, by omega, by omega, by simp⟩
  · simp [Value.cells] at hcs
    obtain ⟨rfl, rfl, rfl⟩ := hcs
    simp only [if_true] at hz
    unfold maxLen at hm
    refine ⟨zs.take len, ⟨by simp; omega, fun hn => ?_⟩, hl, by omega, fun z hz' => hwz z (List.mem_of_mem_take hz')⟩
    have h0 := hcell 0 (by omega)
    rw [add_zero] at h0
    refine ⟨y, rfl, World.block_lt_of_cell? _ _ h0, fun j u hj => ?_⟩
    have hjl : j < len := by
      have := (List.getElem?_eq_some_iff.1 hj).1
      simp at this
      omega
    rw [hcell j (by omega), ← hj]
    simp [hjl, List.getD, List.getElem?_eq_getElem (show j < zs.length by omega)]
end Go.Proofs.Ythaepkpmpnofgaa.Arrs
