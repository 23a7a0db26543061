/- How this layer's arguments are opened: a command, a reply. No statement is proved here. -/
import Derived.Test.YtoehjijnkbmgmaaCmdAt
import Derived.Test.YtoehjijnkbmgmaaOpens
import Derived.Test.YtoehjijnkbmgmaaFrame
set_option linter.unusedVariables false
set_option linter.unusedSimpArgs false
namespace Go.Proofs.Ytoehjijnkbmgmaa.Opn
open Go.ChangeShapes Go.WideShapes Go.ChangeAt Go.RowKit Go.Deep Go.Proofs.Ytoehjijnkbmgmaa.Frame Go.Proofs.Ytoehjijnkbmgmaa.Kit Go.Proofs.Ytoehjijnkbmgmaa.Stq Go.Proofs.Ytoehjijnkbmgmaa.Pln Go.Proofs.Ytoehjijnkbmgmaa.Cmd Go.Proofs.Ytoehjijnkbmgmaa.CmdAt Go.Proofs.Ytoehjijnkbmgmaa.Opens

section
variable {H : Type} {enc : TypeId × Value → H} {w : World}
set_option maxRecDepth 100000 in
set_option maxHeartbeats 2000000 in
theorem open_cmd {fuel : Nat} {cs : List Value} {x : DataW H × List MemPlace} (h : DataW.trod enc Try.prog w 0 (fun _ => true) true fuel 25 cs = some x) :
    ∃ A n c m, cs = [.int .i64 m.k, .int .u64 (m.ss : Int), .int .u64 (m.sq : Int), .int .u64 (m.sg : Int), .slice A n c, .int .i64 m.st, .bool m.bk, .int .i64 m.tr, .bool m.ok, .int .u64 (m.nw : Int)] ∧ CAt w A n m := by
  obtain ⟨xs, n, _, rfl, hlen, hxl, hfs⟩ := DataW.trod_struct Try.underlying25 h
  rw [show Try.prog.cellsOf 25 = 10 by kernel_rfl] at hlen
  match cs, hlen, xs, hxl with
  | [v0, v1, v2, v3, v4, v5, v6, v7, v8, v9], _, [y0, y1, y2, y3, y4, y5, y6, y7, y8, y9], _ =>
    have k0 : DataW.trod enc Try.prog w 0 (fun _ => true) true n 3 [v0] = some y0 := hfs 0 _ rfl
    have k1 : DataW.trod enc Try.prog w 0 (fun _ => true) true n 22 [v1] = some y1 := hfs 1 _ rfl
    have k2 : DataW.trod enc Try.prog w 0 (fun _ => true) true n 22 [v2] = some y2 := hfs 2 _ rfl
    have k3 : DataW.trod enc Try.prog w 0 (fun _ => true) true n 22 [v3] = some y3 := hfs 3 _ rfl
    have k4 : DataW.trod enc Try.prog w 0 (fun _ => true) true n 23 [v4] = some y4 := hfs 4 _ rfl
    have k5 : DataW.trod enc Try.prog w 0 (fun _ => true) true n 3 [v5] = some y5 := hfs 5 _ rfl
    have k6 : DataW.trod enc Try.prog w 0 (fun _ => true) true n 4 [v6] = some y6 := hfs 6 _ rfl
    have k7 : DataW.trod enc Try.prog w 0 (fun _ => true) true n 3 [v7] = some y7 := hfs 7 _ rfl
    have k8 : DataW.trod enc Try.prog w 0 (fun _ => true) true n 4 [v8] = some y8 := hfs 8 _ rfl
    have k9 : DataW.trod enc Try.prog w 0 (fun _ => true) true n 22 [v9] = some y9 := hfs 9 _ rfl
    obtain ⟨z0, e0, _, _⟩ := DataW.trod_int Try.underlying3 k0
    obtain ⟨z1, e1, _, g1⟩ := DataW.trod_int Try.underlying22 k1
    obtain ⟨z2, e2, _, g2⟩ := DataW.trod_int Try.underlying22 k2
    obtain ⟨z3, e3, _, g3⟩ := DataW.trod_int Try.underlying22 k3
    obtain ⟨A, ln, cp, l, e4, hl, _, _⟩ := open_steps k4
    obtain ⟨z5, e5, _, _⟩ := DataW.trod_int Try.underlying3 k5
    obtain ⟨z6, e6, _⟩ := DataW.trod_bool Try.underlying4 k6
    obtain ⟨z7, e7, _, _⟩ := DataW.trod_int Try.underlying3 k7
    obtain ⟨z8, e8, _⟩ := DataW.trod_bool Try.underlying4 k8
    obtain ⟨z9, e9, _, g9⟩ := DataW.trod_int Try.underlying22 k9
    simp only [List.cons.injEq, and_true] at e0 e1 e2 e3 e4 e5 e6 e7 e8 e9
    subst e0 e1 e2 e3 e4 e5 e6 e7 e8 e9
    obtain ⟨n1, rfl, h1⟩ := u64_wf g1
    obtain ⟨n2, rfl, h2⟩ := u64_wf g2
    obtain ⟨n3, rfl, h3⟩ := u64_wf g3
    obtain ⟨n9, rfl, h9⟩ := u64_wf g9
    have := hl.fits
    have := hl.max
    exact ⟨A, ln, cp, ⟨z0, n1, n2, n3, l, z5, z6, z7, z8, n9⟩, rfl, hl.reads, by omega, fun e he => (hl.sin e he).n, ⟨h1, h2, h3, h9⟩⟩
set_option maxRecDepth 100000 in
theorem open_ry {fuel : Nat} {cs : List Value} {x : DataW H × List MemPlace} (h : DataW.trod enc Try.prog w 0 (fun _ => true) true fuel 40 cs = some x) : ∃ y : Ry, cs = [.int .i64 y.err, .int .u64 (y.num : Int), .int .u64 (y.ext : Int)] ∧ y.Ok := by
  obtain ⟨xs, n, _, hx, hlen, hxl, hfs⟩ := DataW.trod_struct Try.underlying40 h
  rw [show Try.prog.cellsOf 40 = 3 by kernel_rfl] at hlen
  match cs, hlen, xs, hxl with
  | [v0, v1, v2], _, [y0, y1, y2], _ =>
    have k0 : DataW.trod enc Try.prog w 0 (fun _ => true) true n 27 [v0] = some y0 := hfs 0 _ rfl
    have k1 : DataW.trod enc Try.prog w 0 (fun _ => true) true n 22 [v1] = some y1 := hfs 1 _ rfl
    have k2 : DataW.trod enc Try.prog w 0 (fun _ => true) true n 22 [v2] = some y2 := hfs 2 _ rfl
    obtain ⟨z0, e0, _, r0⟩ := DataW.trod_int Try.underlying27 k0
    obtain ⟨z1, e1, _, r1⟩ := DataW.trod_int Try.underlying22 k1
    obtain ⟨z2, e2, _, r2⟩ := DataW.trod_int Try.underlying22 k2
    simp only [List.cons.injEq, and_true] at e0 e1 e2
    subst e0 e1 e2
    obtain ⟨n1, rfl, h1⟩ := u64_wf r1
    obtain ⟨n2, rfl, h2⟩ := u64_wf r2
    exact ⟨⟨z0, n1, n2⟩, rfl, (i64_wf r0).1, (i64_wf r0).2, h1, h2⟩
end
section
variable {H : Type} {enc : TypeId × Value → H} {w : World} {b0 : Nat} {v : Value} {d : DataW H} {p : List MemPlace}
set_option maxRecDepth 100000 in
theorem arg_cmd (hv : Value.okWide Try.prog w .any b0 25 v) (h : DataW.Trod enc Try.prog w 0 (fun _ => true) true 25 v d p) :
    ∃ A n c m, v = cmV A n c m ∧ CAt w A n m := by
  obtain ⟨cs, rfl, _⟩ := okWide_struct Try.underlying25 hv
  obtain ⟨fuel, hf⟩ := h
  obtain ⟨A, n, c, m, hx, hr⟩ := open_cmd hf
  exact ⟨A, n, c, m, by unfold cmV; rw [← Array.toArray_toList (xs := cs)]; show Value.agg (List.toArray cs.toList) = _; rw [show cs.toList = _ from hx], hr⟩
set_option maxRecDepth 100000 in
theorem arg_ry (hv : Value.okWide Try.prog w .any b0 40 v) (h : DataW.Trod enc Try.prog w 0 (fun _ => true) true 40 v d p) :
    ∃ y : Ry, v = ryV y ∧ y.Ok := by
  obtain ⟨cs, rfl, _⟩ := okWide_struct Try.underlying40 hv
  obtain ⟨fuel, hf⟩ := h
  obtain ⟨y, hx, hr⟩ := open_ry hf
  exact ⟨y, by unfold ryV; rw [← Array.toArray_toList (xs := cs)]; show Value.agg (List.toArray cs.toList) = _; rw [show cs.toList = _ from hx], hr⟩
end
end Go.Proofs.Ytoehjijnkbmgmaa.Opn
