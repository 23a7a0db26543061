/- The document's machine in memory: its numbers' slice, its sagas' slice, its table; find, told, New walked. No statement is proved here. -/
import Derived.Test.YthaepkpmpnofgaaHMch
import Derived.Test.YthaepkpmpnofgaaHSagAt
import Derived.Test.YthaepkpmpnofgaaHBoxs
import Derived.Test.YthaepkpmpnofgaaHRdT
import Derived.Deep.Cut
set_option linter.unusedVariables false
set_option linter.unusedSimpArgs false
namespace Go.Proofs.Ythaepkpmpnofgaa.MatD
open Go.RowKit Go.Proofs.Ythaepkpmpnofgaa.Kit Go.Proofs.Ythaepkpmpnofgaa.Blocks Go.Proofs.Ythaepkpmpnofgaa.Ses Go.Proofs.Ythaepkpmpnofgaa.Rws Go.Proofs.Ythaepkpmpnofgaa.Boxs Go.Proofs.Ythaepkpmpnofgaa.Mch
open Go.Proofs.Ythaepkpmpnofgaa.Sag (Sg)
open Go.Proofs.Ythaepkpmpnofgaa.SagAt (At Box4 sgV)
open Go.Proofs.Ythaepkpmpnofgaa.Pln (u64 u64_lt u64_wrap)
open Go.Proofs.Ythaepkpmpnofgaa.RdT (only_s only_b)

/-! ### Sagas in a slice -/
/-- A saga as it lies in a slice: its steps' address and capacity. -/
structure Hs where
  A : Option Addr
  c : Nat
  s : Sg
def hsCs (h : Hs) : List Value := [.slice h.A h.s.l.length h.c, .int .i64 h.s.st, .int .i64 h.s.cu, .int .i64 h.s.fa]
def scs (l : List Hs) : List Value := l.flatMap hsCs
def ics (l : List (Nat × Sg)) : List Value := l.map fun x => .int .u64 (x.1 : Int)
section
variable {w : World} {B : Nat}
/-- A number, where it lies. -/
theorem id_at {A : Option Addr} {n k : Nat} {l : List (Nat × Sg)} (h : Reads w B 1 A n (ics l)) (hk : k < n) : ∃ b o x, A = some ⟨b, o, none⟩ ∧ b < B ∧ l[k]? = some x ∧ w.cell? ⟨b, o + k, none⟩ = some (.int .u64 (x.1 : Int)) := by
  obtain ⟨ad, u, rfl, hb, hu, hc⟩ := h.at_ hk
  have hsp := h.spot (by omega)
  have hu' : (l[k]?).map (fun x : Nat × Sg => Value.int .u64 (x.1 : Int)) = some u := by rw [← hu, ics, List.getElem?_map]
  cases hx : l[k]? with
  | none => rw [hx] at hu'; simp at hu'
  | some x =>
    rw [hx] at hu'
    simp at hu'
    subst hu'
    refine ⟨ad.block, ad.off, x, by rw [← hsp], hb, rfl, ?_⟩
    rw [hsp, Addr.add_lit] at hc
    exact hc

end
section
variable {fn : Func} {q : Tmp} {w : World} {g : Nat} {a b c : Value}
theorem res1y (hf : fn.results = #[.cell q 30]) (tmps : Array Value) (hp : tmps.getD q undef = .pointer (some ⟨g, 0, none⟩)) (hx : Box3 w g a b c) : (results fn tmps).run Try.prog w = .ok (.agg #[a, b, c]) w := by
  have hp' : tmps[q]?.getD undef = .pointer (some ⟨g, 0, none⟩) := by simpa using hp
  have hl := run_loadVar_row (P := Try.prog) w g 30 30 #[a, b, c] (0, 0) _ hx.blk Try.underlying30 rfl (by kernel_rfl)
  simp [results, hf, hp', asAddr, Result.andThen, hl]
end
end Go.Proofs.Ythaepkpmpnofgaa.MatD
