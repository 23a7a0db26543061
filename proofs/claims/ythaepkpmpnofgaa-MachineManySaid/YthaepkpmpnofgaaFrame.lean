/- How an argument that is a slice of bytes is opened, and what the two bounds (the form's own reach; the second form's bulk) give of its length. -/
import Derived.Test.YthaepkpmpnofgaaRows
import Derived.Test.YthaepkpmpnofgaaKit
import Derived.ProofKit
import Derived.OpenShut
import Derived.ShutString
import Derived.ChangeOld
import Derived.SizedLaws
import Derived.JoinedCond
namespace Go.Proofs.Ythaepkpmpnofgaa.Frame
open Go.ChangeShapes Go.WideShapes Go.ChangeAt Go.RowKit Go.Proofs.Ythaepkpmpnofgaa.Kit

/-- A slice of bytes that came in: its bytes, its bounds, its datum. -/
structure Came {H : Type} (w : World) (a : Option Addr) (len cap : Nat) (d : DataW H) (l : List UInt8) : Prop where
  reads : RB w a len l
  fits : len ≤ cap
  max : cap ≤ 9223372036854775807
  datum : (d = .nil ∧ len = 0 ∧ cap = 0) ∨ ∃ elems spare, d = .slice elems spare ∧ elems.length + spare.length = cap

theorem rb_of_ints {w : World} {x : Addr} {len cap : Nat} {zs : List Int} (hl : len ≤ cap) (hz : zs.length = cap) (hcell : ∀ i, i < zs.length → w.cell? (x.add i) = some (.int .u8 (zs.getD i 0)))
    (hwz : ∀ n ∈ zs, (Lit.int .u8 n).wf = true) : RB w (some x) len ((zs.take len).map fun n => UInt8.ofNat n.toNat) := by
  have hlen : ((zs.take len).map fun n => UInt8.ofNat n.toNat).length = len := by simp; omega
  refine ⟨by rw [vals_length, hlen, Nat.mul_one], fun hn => ?_⟩
  have h0 := hcell 0 (by omega)
  rw [add_zero] at h0
  refine ⟨x, rfl, World.block_lt_of_cell? _ _ h0, fun j u hj => ?_⟩
  have hjl : j < len := by
    have := (List.getElem?_eq_some_iff.1 hj).1
    rwa [vals_length, hlen] at this
  have hjz : j < zs.length := by omega
  rw [hcell j hjz]
  rw [vals_get _ j (by omega)] at hj
  rw [← hj]
  have hw := hwz zs[j] (List.getElem_mem hjz)
  have hb : 0 ≤ zs[j] ∧ zs[j] ≤ 255 := by simpa [Lit.wf, IntKind.min, IntKind.max, IntKind.signed, IntKind.bits] using hw
  have e : ((((zs.take len).map fun n => UInt8.ofNat n.toNat)[j]'(by omega)).toNat : Int) = zs[j] := by
    simp
    omega
  rw [e]
  simp [List.getD, List.getElem?_eq_getElem hjz]

theorem open_bytes {H : Type} {enc : TypeId × Value → H} {P : Program} {w : World} {t e : TypeId} {fuel len cap : Nat} {a0 : Option Addr} {x : DataW H × List MemPlace}
    (ht : P.underlying t = some (.slice e)) (he : P.underlying e = some (.int .u8)) (hc : P.cellsOf e = 1)
    (h : DataW.trod enc P w 0 (fun _ => true) true fuel t (Value.slice a0 len cap).cells.toList = some x) : ∃ l, Came w a0 len cap x.1 l := by
  rcases open_ints ht he hc h with ⟨hcs, hx⟩ | ⟨y, l, c, zs, hcs, _, hl, hm, hz, hx, hcell, hwz⟩
  · simp [Value.cells] at hcs
    obtain ⟨rfl, rfl, rfl⟩ := hcs
    subst hx
    exact ⟨[], Reads.none_, by omega, by omega, .inl ⟨rfl, rfl, rfl⟩⟩
  · simp [Value.cells] at hcs
    obtain ⟨rfl, rfl, rfl⟩ := hcs
    simp only [if_true] at hz
    subst hx
    unfold maxLen at hm
    refine ⟨_, rb_of_ints hl hz hcell hwz, hl, by omega, .inr ⟨_, _, rfl, ?_⟩⟩
    simp only [lits, List.length_map, List.length_take, List.length_drop]
    omega

/-- The form's own reach. -/
theorem Came.reach {H : Type} {P : Program} {w : World} {a : Option Addr} {len cap : Nat} {d : DataW H} {l : List UInt8} (h : Came w a len cap d l) {ts : List TypeId} {ds : List (DataW H)} {j : Nat} {t e : TypeId}
    (hs : (DataW.weightsEach P ts ds).all (· ≤ reachBytes) = true) (hj : ts[j]? = some t) (hd : ds[j]? = some d) (ht : P.underlying t = some (.slice e)) (hb : P.bytesOf e = 1) : len ≤ 140737488351232 := by
  have hf := h.fits
  rcases h.datum with ⟨rfl, rfl, _⟩ | ⟨elems, spare, rfl, hlen⟩
  · omega
  · have := sized_slice hs hj hd ht
    rw [hb] at this
    simp only [reachBytes] at this
    omega

/-! ### The second form's bound -/
theorem one_le {H : Type} (d : DataW H) : 1 ≤ Rows.uptoBulk d := by
  cases d with
  | lit l => cases l <;> simp [Rows.uptoBulk]
  | nil => simp [Rows.uptoBulk]
  | ptr d => simp [Rows.uptoBulk]
  | slice elems spare => simp [Rows.uptoBulk]
  | agg parts => simp [Rows.uptoBulk]
  | iface t d => simp [Rows.uptoBulk]
  | map entries => simp [Rows.uptoBulk]
  | held h => simp [Rows.uptoBulk]
theorem part_le {H : Type} {d : DataW H} {l : List (DataW H)} (h : d ∈ l) : Rows.uptoBulk d ≤ Rows.uptoBulkAll l := by
  induction l with
  | nil => cases h
  | cons x r ih =>
    simp only [Rows.uptoBulkAll]
    cases List.mem_cons.1 h with
    | inl e => subst e; omega
    | inr e => have := ih e; omega
theorem length_le {H : Type} (l : List (DataW H)) : l.length ≤ Rows.uptoBulkAll l := by
  induction l with
  | nil => simp [Rows.uptoBulkAll]
  | cons x r ih => have := one_le x; simp only [Rows.uptoBulkAll, List.length_cons]; omega
theorem Came.bulk {H : Type} {w : World} {a : Option Addr} {len cap : Nat} {d : DataW H} {l : List UInt8} (h : Came w a len cap d l) {ds : List (DataW H)} (hk : Rows.uptoSmall H ds = true) (hd : d ∈ ds) : len ≤ 1048576 := by
  have hf := h.fits
  have hall : Rows.uptoBulkAll ds ≤ 1048576 := of_decide_eq_true hk
  have hp := part_le hd
  rcases h.datum with ⟨rfl, rfl, _⟩ | ⟨elems, spare, rfl, hlen⟩
  · omega
  · have h1 := length_le elems
    have h2 := length_le spare
    simp only [Rows.uptoBulk] at hp
    omega
end Go.Proofs.Ythaepkpmpnofgaa.Frame
