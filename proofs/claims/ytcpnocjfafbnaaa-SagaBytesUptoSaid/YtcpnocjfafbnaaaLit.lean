/- The calls' contracts with a saga's parts laid open. No statement is proved here. -/
import Derived.Test.YtcpnocjfafbnaaaNewS
import Derived.Test.YtcpnocjfafbnaaaWalkD
set_option linter.unusedVariables false
namespace Go.Proofs.Ytcpnocjfafbnaaa.Lit
open Go.RowKit Go.Proofs.Ytcpnocjfafbnaaa.Kit Go.Proofs.Ytcpnocjfafbnaaa.Stq Go.Proofs.Ytcpnocjfafbnaaa.Pln Go.Proofs.Ytcpnocjfafbnaaa.Sag Go.Proofs.Ytcpnocjfafbnaaa.SagAt Go.Proofs.Ytcpnocjfafbnaaa.Ways Go.Proofs.Ytcpnocjfafbnaaa.WalkA Go.Proofs.Ytcpnocjfafbnaaa.WalkB Go.Proofs.Ytcpnocjfafbnaaa.WalkC Go.Proofs.Ytcpnocjfafbnaaa.WalkD Go.Proofs.Ytcpnocjfafbnaaa.NewS

/-- A saga and a word are handed back. -/
def Hands (w : World) (l : List Sp) (st cu fa : Int) (b : Bool) (e : Ending) (w' : World) : Prop := ∃ A c, e = .returned (.tuple #[.agg #[.slice A l.length c, .int .i64 st, .int .i64 cu, .int .i64 fa], .bool b]) ∧ At w' A l ∧ Fresh w.heap.size A l.length ∧ Below w.heap.size w w'
section
variable {w : World} {A C : Option Addr} (c cc : Nat) {l l' : List Sp} {st cu fa st' cu' fa' : Int} {b : Bool}
theorem outcome_lit (h : At w A l) (step : Int) (taken : Bool) (tr : Int) (ok : Bool) (hs : Hid (outc ⟨l, st, cu, fa⟩ step taken tr ok = ⟨l, st', cu', fa'⟩)) (hb : Hid (takes ⟨l, st, cu, fa⟩ step taken tr ok = b)) :
    Calls Try.prog 10 #[.agg #[.slice A l.length c, .int .i64 st, .int .i64 cu, .int .i64 fa], .int .i64 step, .bool taken, .int .i64 tr, .bool ok] w (Hands w l st' cu' fa' b) := outcome_any (s := ⟨l, st, cu, fa⟩) c h step taken tr ok hs hb
theorem abort_lit (h : At w A l) (hs : Hid (abort ⟨l, st, cu, fa⟩ = ⟨l, st', cu', fa'⟩)) (hb : Hid (aborts ⟨l, st, cu, fa⟩ = b)) :
    Calls Try.prog 12 #[.agg #[.slice A l.length c, .int .i64 st, .int .i64 cu, .int .i64 fa]] w (Hands w l st' cu' fa' b) := abort_any (s := ⟨l, st, cu, fa⟩) c h hs hb
theorem sound_lit (h : At w A l) (hb : Hid (sound ⟨l, st, cu, fa⟩ = b)) : Calls Try.prog 17 #[.agg #[.slice A l.length c, .int .i64 st, .int .i64 cu, .int .i64 fa]] w fun e w' => e = .returned (.bool b) ∧ Below w.heap.size w w' := sound_any (s := ⟨l, st, cu, fa⟩) h hb
theorem ended_lit (A : Option Addr) (n : Nat) (w : World) (hb : Hid (ended ⟨l, st, cu, fa⟩ = b)) (hn : l.length = n) : Calls Try.prog 18 #[.agg #[.slice A n c, .int .i64 st, .int .i64 cu, .int .i64 fa]] w fun e w' => e = .returned (.bool b) ∧ Below w.heap.size w w' := by
  subst hn
  exact ended_any A c ⟨l, st, cu, fa⟩ w hb
theorem wants_lit {q : Int} {y x : Bool} (h : At w A l) (hq : Hid (wantC ⟨l, st, cu, fa⟩ = q)) (hb : Hid (wantB ⟨l, st, cu, fa⟩ = y)) (hx : Hid (opn ⟨l, st, cu, fa⟩ = x)) : Calls Try.prog 14 #[.agg #[.slice A l.length c, .int .i64 st, .int .i64 cu, .int .i64 fa]] w fun e w' => e = .returned (.tuple #[.int .i64 q, .bool y, .bool x]) ∧ Below w.heap.size w w' := wants_any (s := ⟨l, st, cu, fa⟩) c h hq hb hx
theorem rsame_lit (ha : At w A l) (hc : At w C l') (hb : b = true ↔ (⟨l, st, cu, fa⟩ : Sg) = ⟨l', st', cu', fa'⟩) : Calls Try.prog 16 #[.agg #[.slice A l.length c, .int .i64 st, .int .i64 cu, .int .i64 fa], .agg #[.slice C l'.length cc, .int .i64 st', .int .i64 cu', .int .i64 fa']] w fun e w' => e = .returned (.bool b) ∧ Below w.heap.size w w' := rsame_any (s := ⟨l, st, cu, fa⟩) (s' := ⟨l', st', cu', fa'⟩) c cc ha hc b hb
end
end Go.Proofs.Ytcpnocjfafbnaaa.Lit
