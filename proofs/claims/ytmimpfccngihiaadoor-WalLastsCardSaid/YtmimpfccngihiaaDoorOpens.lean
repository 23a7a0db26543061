/- How an argument that is a slice of texts is opened, and one that is a slice of slices of texts. No statement is proved here. -/
import Derived.Test.YtmimpfccngihiaaDoorScA
import Derived.Test.YtmimpfccngihiaaDoorFrame
import Derived.Test.YtmimpfccngihiaaDoorDskWalkJ
import Derived.WideKeyPair
import Derived.Deep.Slices
import Derived.Deep.Strs
set_option linter.unusedVariables false
set_option linter.unusedSimpArgs false
namespace Go.Proofs.YtmimpfccngihiaaDoor.Opens
open Go.ChangeShapes Go.WideShapes Go.ChangeAt Go.RowKit Go.Deep Go.Proofs.YtmimpfccngihiaaDoor.Kit Go.Proofs.YtmimpfccngihiaaDoor.ScA
open Go.Proofs.YtmimpfccngihiaaDoor.DskWalkC (str)

theorem weights_in {H : Type} {P : Program} {e : TypeId} : ∀ {l : List (DataW H)} {d : DataW H}, d ∈ l → ∀ n ∈ d.weights P e, n ∈ DataW.weightsAll P e l
  | x :: l, d, h, n, hn => by
    simp only [DataW.weightsAll, List.mem_append]
    rcases List.mem_cons.1 h with rfl | h
    · exact .inl hn
    · exact .inr (weights_in h n hn)
/-- A slice of texts that came in. -/
structure Came (w : World) (a : Option Addr) (len cap : Nat) (l : List (List UInt8)) : Prop where
  reads : RS w a len l
  fits : len ≤ cap
  max : cap ≤ 9223372036854775807
section
variable {H : Type} {enc : TypeId × Value → H} {P : Program} {w : World}
theorem reads_of {y : Addr} {len : Nat} {Sx : Nat → ByteArray} (h : ∀ i, i < len → w.cell? (y.add i) = some (.string (Sx i))) : RS w (some y) len ((List.range len).map fun i => (Sx i).data.toList) := by
  refine ⟨by simp [ScA.strs], fun hn => ?_⟩
  have h0 := h 0 (by omega)
  rw [add_zero] at h0
  refine ⟨y, rfl, World.block_lt_of_cell? _ _ h0, fun j u hj => ?_⟩
  have hjl : j < len := by
    have := (List.getElem?_eq_some_iff.1 hj).1
    simpa [ScA.strs] using this
  rw [h j hjl, ← hj]
  simp [ScA.strs, hjl]
  rfl
theorem open_texts {t e : TypeId} {fuel len cap : Nat} {a0 : Option Addr} {x : DataW H × List MemPlace} (ht : P.underlying t = some (.slice e)) (he : P.underlying e = some .string) (hc : P.cellsOf e = 1)
    (h : DataW.trod enc P w 0 (fun _ => true) true fuel t [Value.slice a0 len cap] = some x) : ∃ l, Came w a0 len cap l ∧ ((∀ n ∈ x.1.weights P t, n ≤ reachBytes) → ∀ y ∈ l, y.length ≤ 140737488355328) := by
  rcases open_strs ht he hc h with ⟨hcs, hx⟩ | ⟨y, l, c, m, Sx, hcs, _, hl, hm, hmm, hx, hcell⟩
  · simp at hcs
    obtain ⟨rfl, rfl, rfl⟩ := hcs
    exact ⟨[], ⟨Reads.none_, by omega, by omega⟩, fun _ y hy => by simp at hy⟩
  · simp at hcs
    obtain ⟨rfl, rfl, rfl⟩ := hcs
    unfold maxLen at hm
    simp only [if_true] at hmm
    refine ⟨_, ⟨reads_of fun i hi => (hcell i (by omega)).1, hl, by omega⟩, fun hw y hy => ?_⟩
    subst hx
    obtain ⟨i, hi, rfl⟩ := List.mem_map.1 hy
    have hil := List.mem_range.1 hi
    have : (Sx i).data.toList.length ≤ reachBytes := hw _ (by
      simp only [DataW.weights, ht, List.mem_cons, List.mem_append]
      refine .inr (.inl (weights_in (d := .lit (.string (Sx i).data.toList)) (List.mem_map.2 ⟨i, hi, rfl⟩) _ ?_))
      simp [DataW.weights])
    have h2 := reachBytes_lt
    omega
/-- A slice of slices of texts. -/
def Holds (w : World) (a : Option Addr) (n : Nat) (L : List (List (List UInt8))) : Prop :=
  L.length = n ∧ ∀ k (hk : k < L.length), ∃ b o A m c, a = some ⟨b, o, none⟩ ∧ b < w.heap.size ∧ w.cell? ⟨b, o + k, none⟩ = some (.slice A m c) ∧ Came w A m c L[k]
theorem Holds.at_ {w' : World} {a : Option Addr} {n : Nat} {L : List (List (List UInt8))} (h : Holds w a n L) (hb : Below w.heap.size w w') (k : Nat) (hk : k < L.length) :
    ∃ b o A m c, a = some ⟨b, o, none⟩ ∧ w'.cell? ⟨b, o + k, none⟩ = some (.slice A m c) ∧ RS w' A m L[k] ∧ m ≤ c ∧ c ≤ 9223372036854775807 := by
  obtain ⟨b, o, A, m, c, rfl, hlt, hc, hr⟩ := h.2 k hk
  exact ⟨b, o, A, m, c, rfl, (hb.cell (p := ⟨b, o + k, none⟩) hlt).trans hc, (Kit.Reads.below hr.reads hb).more hb.size, hr.fits, hr.max⟩
theorem open_textss {t q e : TypeId} {fuel len cap : Nat} {a0 : Option Addr} {x : DataW H × List MemPlace} (ht : P.underlying t = some (.slice q)) (hq : P.underlying q = some (.slice e)) (he : P.underlying e = some .string) (cq : P.cellsOf q = 1) (hc : P.cellsOf e = 1)
    (h : DataW.trod enc P w 0 (fun _ => true) true fuel t [Value.slice a0 len cap] = some x) : ∃ L, Holds w a0 len L ∧ len ≤ cap ∧ cap ≤ 9223372036854775807 ∧ ((∀ n ∈ x.1.weights P t, n ≤ reachBytes) → ∀ l ∈ L, ∀ y ∈ l, y.length ≤ 140737488355328) := by
  rcases open_slice1 ht cq h with ⟨hcs, hx⟩ | ⟨y, l, c, m, n, V, D, Pl, hcs, _, hl, hm, hmm, hx, hcell⟩
  · simp at hcs
    obtain ⟨rfl, rfl, rfl⟩ := hcs
    exact ⟨[], ⟨rfl, fun k hk => absurd hk (by simp)⟩, by omega, by omega, fun _ y hy => by simp at hy⟩
  · simp at hcs
    obtain ⟨rfl, rfl, rfl⟩ := hcs
    unfold maxLen at hm
    simp only [if_true] at hmm
    have each : ∀ i, i < len → ∃ r : List (List UInt8), ∃ A m' c', V i = .slice A m' c' ∧ Came w A m' c' r ∧ ((∀ n ∈ (D i).weights P q, n ≤ reachBytes) → ∀ y ∈ r, y.length ≤ 140737488355328) := fun i hi => by
      obtain ⟨h1, h2⟩ := hcell i (by omega)
      obtain ⟨A, m', c', hv⟩ : ∃ A m' c', V i = .slice A m' c' := by
        rcases open_strs hq he hc h2 with ⟨hcs, _⟩ | ⟨y, l, c, m, Sx, hcs, _⟩
        · simp at hcs; exact ⟨_, _, _, hcs⟩
        · simp at hcs; exact ⟨_, _, _, hcs⟩
      rw [hv] at h2
      obtain ⟨r, hr1, hr2⟩ := open_texts hq he hc h2
      exact ⟨r, A, m', c', hv, hr1, hr2⟩
    obtain ⟨f, hf⟩ := choose_lt each
    have hsp : 0 < len → y = ⟨y.block, y.off, none⟩ := fun hp => by
      have g0 := (hcell 0 (by omega)).1
      rw [add_zero] at g0
      have hs := World.cell?_spot g0
      obtain ⟨b, o, s⟩ := y
      have : s = none := hs
      subst this
      rfl
    refine ⟨(List.range len).map f, ⟨by simp, fun k hk => ?_⟩, hl, by omega, fun hw r hr z hz => ?_⟩
    · have hkl : k < len := by simpa using hk
      obtain ⟨A, m', c', hv, hr1, _⟩ := hf k hkl
      have g := (hcell k (by omega)).1
      have hy := hsp (by omega)
      rw [hv, hy, Addr.add_lit] at g
      refine ⟨y.block, y.off, A, m', c', by rw [← hy], World.block_lt_of_cell? w (⟨y.block, y.off + k, none⟩ : Addr) g, g, ?_⟩
      simpa using hr1
    · obtain ⟨i, hi, rfl⟩ := List.mem_map.1 hr
      have hil := List.mem_range.1 hi
      obtain ⟨A, m', c', hv, _, hr2⟩ := hf i hil
      refine hr2 (fun n hn => hw n ?_) z hz
      subst hx
      simp only [DataW.weights, ht, List.mem_cons, List.mem_append]
      exact .inr (.inl (weights_in (d := D i) (List.mem_map.2 ⟨i, hi, rfl⟩) n hn))
/-- A slice of numbers that came in. -/
theorem open_nums {t e : TypeId} {fuel len cap : Nat} {a0 : Option Addr} {x : DataW H × List MemPlace} (ht : P.underlying t = some (.slice e)) (he : P.underlying e = some (.int .i64)) (hc : P.cellsOf e = 1)
    (h : DataW.trod enc P w 0 (fun _ => true) true fuel t [Value.slice a0 len cap] = some x) : ∃ l, Reads w w.heap.size 1 a0 len (DskWalkJ.inums l) ∧ len ≤ cap ∧ cap ≤ 9223372036854775807 ∧ ∀ z ∈ l, -9223372036854775808 ≤ z ∧ z ≤ 9223372036854775807 := by
  rcases open_ints ht he hc h with ⟨hcs, hx⟩ | ⟨y, l, c, zs, hcs, _, hl, hm, hz, hx, hcell, hwz⟩
  · simp at hcs
    obtain ⟨rfl, rfl, rfl⟩ := hcs
    exact ⟨[], Reads.none_, by omega, by omega, fun _ hz => by simp at hz⟩
  · simp at hcs
    obtain ⟨rfl, rfl, rfl⟩ := hcs
    simp only [if_true] at hz
    unfold maxLen at hm
    refine ⟨zs.take len, ⟨by simp [DskWalkJ.inums]; omega, fun hn => ?_⟩, hl, by omega, fun z hz => ?_⟩
    · have h0 := hcell 0 (by omega)
      rw [add_zero] at h0
      refine ⟨y, rfl, World.block_lt_of_cell? _ _ h0, fun j u hj => ?_⟩
      have hjl : j < len := by
        have := (List.getElem?_eq_some_iff.1 hj).1
        simp [DskWalkJ.inums] at this
        omega
      rw [hcell j (by omega), ← hj]
      simp [DskWalkJ.inums, hjl, List.getD, List.getElem?_eq_getElem (show j < zs.length by omega)]
    · have := hwz z (List.mem_of_mem_take hz)
      simpa [Lit.wf, IntKind.min, IntKind.max, IntKind.signed, IntKind.bits] using this
/-- What the form's own reach says of one argument. -/
theorem each_of {ts : List TypeId} {ds : List (DataW H)} {j : Nat} {t : TypeId} {d : DataW H} (hs : (DataW.weightsEach P ts ds).all (· ≤ reachBytes) = true) (ht : ts[j]? = some t) (hd : ds[j]? = some d) : ∀ n ∈ d.weights P t, n ≤ reachBytes := fun n hn => by
  have := List.all_eq_true.1 hs n (DataW.weights_mem_each ht hd n hn)
  simpa using this
end
end Go.Proofs.YtmimpfccngihiaaDoor.Opens
