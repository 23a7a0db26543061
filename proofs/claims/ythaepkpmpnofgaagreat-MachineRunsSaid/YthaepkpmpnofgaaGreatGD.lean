/- What the program's Decode answers, walked. No statement is proved here. -/
import Derived.Test.YthaepkpmpnofgaaGreatHCmnWalkA
import Derived.Test.YthaepkpmpnofgaaGreatGQ2
import Derived.Deep.Cut
set_option linter.unusedVariables false
set_option linter.unusedSimpArgs false
namespace Go.Proofs.YthaepkpmpnofgaaGreat.Dx
open Go.RowKit Go.Proofs.YthaepkpmpnofgaaGreat.Kit Go.Proofs.YthaepkpmpnofgaaGreat.Rdr Go.Proofs.YthaepkpmpnofgaaGreat.Stq Go.Proofs.YthaepkpmpnofgaaGreat.Pln Go.Proofs.YthaepkpmpnofgaaGreat.Wtr Go.Proofs.YthaepkpmpnofgaaGreat.Cmd Go.Proofs.YthaepkpmpnofgaaGreat.CmdAt
open Go.Proofs.YthaepkpmpnofgaaGreat.State (Only cell_at free_at lt_at set_at)
open Go.Proofs.YthaepkpmpnofgaaGreat.PckWalkC (gotB)
open Go.Proofs.YthaepkpmpnofgaaGreat.PckWalkE (upV truth)
open Go.Proofs.YthaepkpmpnofgaaGreat.PlnWalkD (RdP own_keep)

/-- Steps that lie in a block that is new since w. -/
def New (w : World) (A : Option Addr) (n : Nat) : Prop := 0 < n → ∀ ad, A = some ad → w.heap.size ≤ ad.block
theorem new_nil (w : World) : New w none 0 := fun h => absurd h (by decide)
theorem own_new {w W : World} {B : Nat} {A : Option Addr} {n k c : Nat} {xs : List Value} (h : W.ownsRow B 67 3 (.slice A n c) k xs) (hB : w.heap.size ≤ B) : New w A n := by
  intro hn ad e
  subst e
  exact Nat.le_trans hB (h.lt ad.block rfl).1
/-- What Decode answers. -/
def Dec (w : World) (s : ByteArray) (e : Ending) (w' : World) : Prop := ∃ A n c, e = .returned (.tuple #[cmV A n c (dec s), .int .i64 (decZ s)]) ∧ CAt w' A n (dec s) ∧ Below w.heap.size w w' ∧ New w A n
/-- The reader at q came behind w0; the box at G is being filled; the answer's box at P is as it began. -/
structure Dx (T : TypeId) (w w0 W : World) (P q G : Nat) (r : Rd) (a b c d e f g h i j : Value) : Prop where
  rd : Rds T w0 W q r
  px : Bx W P (.int .i64 0) (.int .u64 0) (.int .u64 0) (.int .u64 0) (.slice none 0 0) (.int .i64 0) (.bool false) (.int .i64 0) (.bool false) (.int .u64 0)
  gx : Bx W G a b c d e f g h i j
  bel : Below w.heap.size w w0
  pq : P ≠ q
  pg : P ≠ G
  gq : G ≠ q
  lp : w.heap.size ≤ P
  lg : w0.heap.size ≤ G
section
variable {T : TypeId} {w w0 W W' : World} {P q G : Nat} {r r' : Rd} {a b c d e f g h i j : Value}
theorem Dx.ran (x : Dx T w w0 W P q G r a b c d e f g h i j) {v : Value} {en : Ending} (k : Ran T w0 W q r' v en W') : en = .returned v ∧ Dx T w w0 W' P q G r' a b c d e f g h i j :=
  ⟨k.1, k.2.1, x.px.keep k.2.2 x.pq, x.gx.keep k.2.2 x.gq, x.bel, x.pq, x.pg, x.gq, x.lp, x.lg⟩
theorem Dx.wrote (x : Dx T w w0 W P q G r a b c d e f g h i j) {a' b' c' d' e' f' g' h' i' j' : Value} (k : Bx W' G a' b' c' d' e' f' g' h' i' j' ∧ Only (fun y => y = G) W W') : Dx T w w0 W' P q G r a' b' c' d' e' f' g' h' i' j' :=
  ⟨⟨x.rd.at_.keep k.2 fun e => x.gq e.symm, x.rd.low, x.rd.bel.trans (k.2.below x.rd.bel.size fun y e => by rw [e]; exact x.lg)⟩, x.px.keep k.2 x.pg, k.1, x.bel, x.pq, x.pg, x.gq, x.lp, x.lg⟩
theorem Dx.below (x : Dx T w w0 W P q G r a b c d e f g h i j) (k : Below W.heap.size W W') : Dx T w w0 W' P q G r a b c d e f g h i j :=
  ⟨x.rd.below k, x.px.below k, x.gx.below k, x.bel, x.pq, x.pg, x.gq, x.lp, x.lg⟩
theorem Dx.all (x : Dx T w w0 W P q G r a b c d e f g h i j) : Below w.heap.size w W := x.bel.trans (x.rd.bel.mono x.bel.size)
theorem Dx.set1 (x : Dx T w w0 W P q G r a b c d e f g h i j) (v : Value) : Dx T w w0 (W.setCell ⟨G, 1, none⟩ v) P q G r a v c d e f g h i j := x.wrote (x.gx.set1 v)
theorem Dx.set2 (x : Dx T w w0 W P q G r a b c d e f g h i j) (v : Value) : Dx T w w0 (W.setCell ⟨G, 2, none⟩ v) P q G r a b v d e f g h i j := x.wrote (x.gx.set2 v)
theorem Dx.set3 (x : Dx T w w0 W P q G r a b c d e f g h i j) (v : Value) : Dx T w w0 (W.setCell ⟨G, 3, none⟩ v) P q G r a b c v e f g h i j := x.wrote (x.gx.set3 v)
theorem Dx.set4 (x : Dx T w w0 W P q G r a b c d e f g h i j) (v : Value) : Dx T w w0 (W.setCell ⟨G, 4, none⟩ v) P q G r a b c d v f g h i j := x.wrote (x.gx.set4 v)
theorem Dx.set5 (x : Dx T w w0 W P q G r a b c d e f g h i j) (v : Value) : Dx T w w0 (W.setCell ⟨G, 5, none⟩ v) P q G r a b c d e v g h i j := x.wrote (x.gx.set5 v)
theorem Dx.set6 (x : Dx T w w0 W P q G r a b c d e f g h i j) (v : Value) : Dx T w w0 (W.setCell ⟨G, 6, none⟩ v) P q G r a b c d e f v h i j := x.wrote (x.gx.set6 v)
theorem Dx.set7 (x : Dx T w w0 W P q G r a b c d e f g h i j) (v : Value) : Dx T w w0 (W.setCell ⟨G, 7, none⟩ v) P q G r a b c d e f g v i j := x.wrote (x.gx.set7 v)
theorem Dx.set8 (x : Dx T w w0 W P q G r a b c d e f g h i j) (v : Value) : Dx T w w0 (W.setCell ⟨G, 8, none⟩ v) P q G r a b c d e f g h v j := x.wrote (x.gx.set8 v)
theorem Dx.set9 (x : Dx T w w0 W P q G r a b c d e f g h i j) (v : Value) : Dx T w w0 (W.setCell ⟨G, 9, none⟩ v) P q G r a b c d e f g h i v := x.wrote (x.gx.set9 v)
theorem Dx.plan {l : List Sp} {en : Ending} (x : Dx T w w0 W P q G r a b c d e f g h i j) (k : RdP T w0 W q l r' en W') : ∃ v, en = .returned v ∧ W'.ownsRow W.heap.size 67 3 v l.length (scells l) ∧ Dx T w w0 W' P q G r' a b c d e f g h i j := by
  obtain ⟨v, h1, h2, h3, h4⟩ := k
  exact ⟨v, h1, h2, h3, x.px.keep h4 x.pq, x.gx.keep h4 x.gq, x.bel, x.pq, x.pg, x.gq, x.lp, x.lg⟩
end
section
variable {w w0 W W' : World} {P q G : Nat} {r r' : Rd} {a b c d e f g h i j : Value}
theorem dp_num {x : Nat} (y : Dx 131 w w0 W P q G r a b c d e f g h i j) (hs : r.s.size ≤ 9223372036854775807) (hg : Hid (gotB r.s = x)) (hr : Hid (r.num = r')) :
    Calls Tryz.prog 62 #[.pointer (some ⟨q, 0, none⟩)] W fun en W' => en = .returned (.int .u64 (x : Int)) ∧ Dx 131 w w0 W' P q G r' a b c d e f g h i j := (rp_num y.rd hs hg hr).mono fun _ _ k => y.ran k
theorem dp_up {x : Nat} (k : Int) (y : Dx 131 w w0 W P q G r a b c d e f g h i j) (hs : r.s.size ≤ 9223372036854775807) (hk : k ≤ 9223372036854775807) (hn : Hid (upV r.s k = x)) (hr : Hid (r.up k = r')) :
    Calls Tryz.prog 61 #[.pointer (some ⟨q, 0, none⟩), .int .i64 k] W fun en W' => en = .returned (.int .i64 (x : Int)) ∧ Dx 131 w w0 W' P q G r' a b c d e f g h i j := (rp_up k y.rd hs hk hn hr).mono fun _ _ k => y.ran k
theorem dm_num {x : Nat} (y : Dx 95 w w0 W P q G r a b c d e f g h i j) (hs : r.s.size ≤ 9223372036854775807) (hg : Hid (gotB r.s = x)) (hr : Hid (r.num = r')) :
    Calls Tryz.prog 45 #[.pointer (some ⟨q, 0, none⟩)] W fun en W' => en = .returned (.int .u64 (x : Int)) ∧ Dx 95 w w0 W' P q G r' a b c d e f g h i j := (rm_num y.rd hs hg hr).mono fun _ _ k => y.ran k
theorem dm_up {x : Nat} (k : Int) (y : Dx 95 w w0 W P q G r a b c d e f g h i j) (hs : r.s.size ≤ 9223372036854775807) (hk : k ≤ 9223372036854775807) (hn : Hid (upV r.s k = x)) (hr : Hid (r.up k = r')) :
    Calls Tryz.prog 44 #[.pointer (some ⟨q, 0, none⟩), .int .i64 k] W fun en W' => en = .returned (.int .i64 (x : Int)) ∧ Dx 95 w w0 W' P q G r' a b c d e f g h i j := (rm_up k y.rd hs hk hn hr).mono fun _ _ k => y.ran k
theorem dp_bool {x : Bool} (y : Dx 131 w w0 W P q G r a b c d e f g h i j) (hs : r.s.size ≤ 9223372036854775807) (hn : Hid (truth r.s = x)) (hr : Hid (r.up 1 = r')) :
    Calls Tryz.prog 64 #[.pointer (some ⟨q, 0, none⟩)] W fun en W' => en = .returned (.bool x) ∧ Dx 131 w w0 W' P q G r' a b c d e f g h i j := (rp_bool y.rd hs hn hr).mono fun _ _ k => y.ran k
theorem dp_done {x : Bool} (y : Dx 131 w w0 W P q G r a b c d e f g h i j) (hb : Hid (r.done = x)) :
    Calls Tryz.prog 42 #[.pointer (some ⟨q, 0, none⟩)] W fun en W' => en = .returned (.bool x) ∧ Dx 131 w w0 W' P q G r a b c d e f g h i j := (rp_done y.rd hb).mono fun _ _ k => y.ran k
end
/-- What any bytes say, by names. -/
structure Nam (s : ByteArray) (r1 r2 r3 r4 r5 : Rd) (K s1 s2 s3 n4 : Nat) : Prop where
  h1 : Hid (Rd.up ⟨s, false⟩ 5 = r1)
  h2 : Hid (r1.num = r2)
  h3 : Hid (r2.num = r3)
  h4 : Hid (r3.num = r4)
  h5 : Hid (r4.num = r5)
  k : Hid (upV s 5 = K)
  g1 : Hid (gotB r1.s = s1)
  g2 : Hid (gotB r2.s = s2)
  g3 : Hid (gotB r3.s = s3)
  g4 : Hid (gotB r4.s = n4)
  z1 : r1.s.size ≤ 9223372036854775807
  z2 : r2.s.size ≤ 9223372036854775807
  z3 : r3.s.size ≤ 9223372036854775807
  z4 : r4.s.size ≤ 9223372036854775807
  z5 : r5.s.size ≤ 9223372036854775807
theorem named (s : ByteArray) (hs : s.size ≤ 9223372036854775807) : ∃ r1 r2 r3 r4 r5 K s1 s2 s3 n4, Nam s r1 r2 r3 r4 r5 K s1 s2 s3 n4 := by
  have a1 : (Rd.up ⟨s, false⟩ 5).s.size ≤ s.size := Rd.up_le _ _
  have a2 := Rd.num_le (Rd.up ⟨s, false⟩ 5)
  have a3 := Rd.num_le (Rd.up ⟨s, false⟩ 5).num
  have a4 := Rd.num_le (Rd.up ⟨s, false⟩ 5).num.num
  have a5 := Rd.num_le (Rd.up ⟨s, false⟩ 5).num.num.num
  exact ⟨_, _, _, _, _, _, _, _, _, _, rfl, rfl, rfl, rfl, rfl, rfl, rfl, rfl, rfl, rfl, by omega, by omega, by omega, by omega, by omega⟩
/-- The outcome's part, by names. -/
structure Nao (r r1 r2 r3 r4 : Rd) (a c : Nat) (b d : Bool) : Prop where
  h1 : Hid (r.up 63 = r1)
  h2 : Hid (r1.up 1 = r2)
  h3 : Hid (r2.up 8 = r3)
  h4 : Hid (r3.up 1 = r4)
  g1 : Hid (upV r.s 63 = a)
  g2 : Hid (truth r1.s = b)
  g3 : Hid (upV r2.s 8 = c)
  g4 : Hid (truth r3.s = d)
  z1 : r1.s.size ≤ 9223372036854775807
  z2 : r2.s.size ≤ 9223372036854775807
  z3 : r3.s.size ≤ 9223372036854775807
theorem namedo (r : Rd) (hs : r.s.size ≤ 9223372036854775807) : ∃ r1 r2 r3 r4 a c b d, Nao r r1 r2 r3 r4 a c b d := by
  have a1 := Rd.up_le r 63
  have a2 := Rd.up_le (r.up 63) 1
  have a3 := Rd.up_le ((r.up 63).up 1) 8
  exact ⟨_, _, _, _, _, _, _, _, rfl, rfl, rfl, rfl, rfl, rfl, rfl, rfl, by omega, by omega, by omega⟩
section
variable {s : ByteArray} {r1 r2 r3 r4 r5 : Rd} {K s1 s2 s3 n4 : Nat}
theorem Nam.subm (n : Nam s r1 r2 r3 r4 r5 K s1 s2 s3 n4) (hk : K = 2) {l : List Sp} {r : Rd} (hl : Hid (rPlan r5 = l)) (hr : Hid (rEnd r5 = r)) : rCm ⟨s, false⟩ = ⟨(K : Nat), s1, s2, s3, l, 0, false, 0, false, n4⟩ ∧ rTo ⟨s, false⟩ = r := by
  obtain ⟨h1, h2, h3, h4, h5, k, g1, g2, g3, g4, _, _, _, _, _⟩ := n
  have e1 : c1 ⟨s, false⟩ = r1 := h1.out
  have e2 : c2 ⟨s, false⟩ = r2 := by unfold c2; rw [e1]; exact h2.out
  have e3 : c3 ⟨s, false⟩ = r3 := by unfold c3; rw [e2]; exact h3.out
  have e4 : c4 ⟨s, false⟩ = r4 := by unfold c4; rw [e3]; exact h4.out
  have e5 : c5 ⟨s, false⟩ = r5 := by unfold c5; rw [e4]; exact h5.out
  unfold rCm rTo
  rw [show upV (Rd.s ⟨s, false⟩) 5 = K from k.out, if_pos hk, if_pos hk, e1, e2, e3, e4, e5, g1.out, g2.out, g3.out, g4.out, hl.out]
  exact ⟨rfl, hr.out⟩
theorem Nam.plain (n : Nam s r1 r2 r3 r4 r5 K s1 s2 s3 n4) (hk : K ≠ 2) (hk4 : K ≠ 4) : rCm ⟨s, false⟩ = ⟨(K : Nat), s1, s2, s3, [], 0, false, 0, false, n4⟩ ∧ rTo ⟨s, false⟩ = r5 := by
  obtain ⟨h1, h2, h3, h4, h5, k, g1, g2, g3, g4, _, _, _, _, _⟩ := n
  have e1 : c1 ⟨s, false⟩ = r1 := h1.out
  have e2 : c2 ⟨s, false⟩ = r2 := by unfold c2; rw [e1]; exact h2.out
  have e3 : c3 ⟨s, false⟩ = r3 := by unfold c3; rw [e2]; exact h3.out
  have e4 : c4 ⟨s, false⟩ = r4 := by unfold c4; rw [e3]; exact h4.out
  have e5 : c5 ⟨s, false⟩ = r5 := by unfold c5; rw [e4]; exact h5.out
  unfold rCm rTo
  rw [show upV (Rd.s ⟨s, false⟩) 5 = K from k.out, if_neg hk, if_neg hk4, if_neg hk, if_neg hk4, e1, e2, e3, e4, e5, g1.out, g2.out, g3.out, g4.out]
  exact ⟨rfl, rfl⟩
theorem Nam.outc (n : Nam s r1 r2 r3 r4 r5 K s1 s2 s3 n4) (hk : K = 4) {q1 q2 q3 q4 : Rd} {a c : Nat} {b d : Bool} (o : Nao r5 q1 q2 q3 q4 a c b d) : rCm ⟨s, false⟩ = ⟨(K : Nat), s1, s2, s3, [], (a : Nat), b, (c : Nat), d, n4⟩ ∧ rTo ⟨s, false⟩ = q4 := by
  obtain ⟨h1, h2, h3, h4, h5, k, g1, g2, g3, g4, _, _, _, _, _⟩ := n
  obtain ⟨p1, p2, p3, p4, u1, u2, u3, u4, _, _, _⟩ := o
  have e1 : c1 ⟨s, false⟩ = r1 := h1.out
  have e2 : c2 ⟨s, false⟩ = r2 := by unfold c2; rw [e1]; exact h2.out
  have e3 : c3 ⟨s, false⟩ = r3 := by unfold c3; rw [e2]; exact h3.out
  have e4 : c4 ⟨s, false⟩ = r4 := by unfold c4; rw [e3]; exact h4.out
  have e5 : c5 ⟨s, false⟩ = r5 := by unfold c5; rw [e4]; exact h5.out
  have f1 : o1 r5 = q1 := p1.out
  have f2 : o2 r5 = q2 := by unfold o2; rw [f1]; exact p2.out
  have f3 : o3 r5 = q3 := by unfold o3; rw [f2]; exact p3.out
  have f4 : o4 r5 = q4 := by unfold o4; rw [f3]; exact p4.out
  have k2 : ¬ K = 2 := by omega
  unfold rCm rTo
  rw [show upV (Rd.s ⟨s, false⟩) 5 = K from k.out, if_neg k2, if_pos hk, if_neg k2, if_pos hk, e1, e2, e3, e4, e5, g1.out, g2.out, g3.out, g4.out, f1, f2, f3, f4, u1.out, u2.out, u3.out, u4.out]
  exact ⟨rfl, rfl⟩
end
theorem cat_none (w : World) {m : Cm} (h : m.l = []) (f : Fin m) : CAt w none 0 m := ⟨by rw [h]; exact RS.nil _ _ _, by decide, by rw [h]; simp, f⟩
theorem cat_zero (w : World) : CAt w none 0 zeroC := cat_none w rfl ⟨by decide, by decide, by decide, by decide⟩
theorem dec_no {s : ByteArray} (h : yes s = false) : dec s = zeroC ∧ decZ s = 2 := by unfold dec decZ; rw [h]; exact ⟨rfl, rfl⟩
theorem dec_yes {s : ByteArray} (h : yes s = true) : dec s = rCm ⟨s, false⟩ ∧ decZ s = 0 := by unfold dec decZ; rw [h]; exact ⟨rfl, rfl⟩
theorem yes_is (s : ByteArray) {m : Cm} {r : Rd} (h : rCm ⟨s, false⟩ = m ∧ rTo ⟨s, false⟩ = r) : yes s = (r.done && mayB m) := by unfold yes; rw [h.1, h.2]
end Go.Proofs.YthaepkpmpnofgaaGreat.Dx
set_option linter.unusedVariables false
set_option linter.unusedSimpArgs false
namespace Go.Proofs.YthaepkpmpnofgaaGreat.CmnWalkD
open Go.RowKit Go.Proofs.YthaepkpmpnofgaaGreat.Kit Go.Proofs.YthaepkpmpnofgaaGreat.Rdr Go.Proofs.YthaepkpmpnofgaaGreat.Stq Go.Proofs.YthaepkpmpnofgaaGreat.Pln Go.Proofs.YthaepkpmpnofgaaGreat.Wtr Go.Proofs.YthaepkpmpnofgaaGreat.Cmd Go.Proofs.YthaepkpmpnofgaaGreat.CmdAt Go.Proofs.YthaepkpmpnofgaaGreat.CmnWalkA Go.Proofs.YthaepkpmpnofgaaGreat.Dx
open Go.Proofs.YthaepkpmpnofgaaGreat.State (Only cell_at free_at lt_at set_at)
open Go.Proofs.YthaepkpmpnofgaaGreat.PlnWalkD (own_keep)
open Go.Proofs.YthaepkpmpnofgaaGreat.PckWalkC (gotB gotB_lt)
open Go.Proofs.YthaepkpmpnofgaaGreat.PckWalkE (upV truth)

/-- Steps that are owned. -/
theorem own_cat {w : World} {B : Nat} {A : Option Addr} {n c : Nat} {m : Cm} (h : w.ownsRow B 67 3 (.slice A n c) m.l.length (scells m.l)) (f : m.l.length ≤ 64 ∧ ∀ e ∈ m.l, e.nm.size ≤ 16) (g : Fin m) : CAt w A n m := by
  obtain ⟨A', c', e, _, _, hr⟩ := own_form h
  cases e
  exact ⟨hr, by have := f.1; omega, fun e he => by have := f.2 e he; omega, g⟩
set_option maxRecDepth 100000 in
set_option maxHeartbeats 16000000 in
theorem dec_any (s : ByteArray) (w : World) (hs : s.size ≤ 9223372036854775807) : Calls Tryz.prog 24 #[.string s] w (Dec w s) := by
  obtain ⟨r1, r2, r3, r4, r5, K, s1, s2, s3, n4, hN⟩ := named s hs
  have N1 := hN.h1
  have N2 := hN.h2
  have N3 := hN.h3
  have N4 := hN.h4
  have N5 := hN.h5
  have NK := hN.k
  have G1 := hN.g1
  have G2 := hN.g2
  have G3 := hN.g3
  have G4 := hN.g4
  have z1 := hN.z1
  have z2 := hN.z2
  have z3 := hN.z3
  have z4 := hN.z4
  have z5 := hN.z5
  have HFI : Hid (∀ m : Cm, m.ss = s1 → m.sq = s2 → m.sg = s3 → m.nw = n4 → Fin m) := fun m a b c d => ⟨by rw [a, ← hN.g1.out]; exact gotB_lt _, by rw [b, ← hN.g2.out]; exact gotB_lt _, by rw [c, ← hN.g3.out]; exact gotB_lt _, by rw [d, ← hN.g4.out]; exact gotB_lt _⟩
  have HN := Lib.hid hN
  have hs0 : (q0 s).s.size ≤ 9223372036854775807 := hs
  have NK0 : Hid (upV (q0 s).s 5 = K) := NK
  have N10 : Hid ((q0 s).up 5 = r1) := N1
  clear hN
  have hbo : ∀ (W : World) o, Below W.heap.size W (W.alloc o) := fun W o => (Below.refl _ _).alloc (Nat.le_refl _) o
  have hP := Bx.new w (.int .i64 0) (.int .u64 0) (.int .u64 0) (.int .u64 0) (.slice none 0 0) (.int .i64 0) (.bool false) (.int .i64 0) (.bool false) (.int .u64 0)
  have hb0 := hbo w (.cells #[.int .i64 0, .int .u64 0, .int .u64 0, .int .u64 0, .slice none 0 0, .int .i64 0, .bool false, .int .i64 0, .bool false, .int .u64 0] 42)
  obtain ⟨w0, hw0⟩ : ∃ x, w.alloc (.cells #[.int .i64 0, .int .u64 0, .int .u64 0, .int .u64 0, .slice none 0 0, .int .i64 0, .bool false, .int .i64 0, .bool false, .int .u64 0] 42) = x := ⟨_, rfl⟩
  obtain ⟨P, hPe⟩ : ∃ x, w.heap.size = x := ⟨_, rfl⟩
  rw [hw0] at hP hb0
  rw [hPe] at hP
  have HW0 := Lib.hid hw0
  have HPE := Lib.hid hPe
  have HB0 := Lib.hid hb0
  clear hw0 hb0
  go_enter Tryz.func24, Tryz.ntmps24
  go_wp2_with fail
  rw [HW0.out]
  with_reducible refine (from_rp s w0).mono ?_
  rintro e wa ⟨q, rfl, hR⟩
  have hPa := hP.below hR.bel
  have hPq : P ≠ q := by have := hP.lt; have := hR.low; omega
  go_wp2_with fail
  with_reducible refine (rp_up 5 hR hs0 (by decide) NK0 N10).mono ?_
  rintro e wb ⟨rfl, hRb, hOb⟩
  have hPb := hPa.keep hOb hPq
  have hqb := hRb.lt
  have hPl := hPb.lt
  clear hP hPa hR hOb
  have hX := Bx.new wb (.int .i64 (K : Int)) (.int .u64 0) (.int .u64 0) (.int .u64 0) (.slice none 0 0) (.int .i64 0) (.bool false) (.int .i64 0) (.bool false) (.int .u64 0)
  have hbc := hbo wb (.cells #[.int .i64 (K : Int), .int .u64 0, .int .u64 0, .int .u64 0, .slice none 0 0, .int .i64 0, .bool false, .int .i64 0, .bool false, .int .u64 0] 42)
  obtain ⟨wc, hwc⟩ : ∃ x, wb.alloc (.cells #[.int .i64 (K : Int), .int .u64 0, .int .u64 0, .int .u64 0, .slice none 0 0, .int .i64 0, .bool false, .int .i64 0, .bool false, .int .u64 0] 42) = x := ⟨_, rfl⟩
  obtain ⟨G, hGe⟩ : ∃ x, wb.heap.size = x := ⟨_, rfl⟩
  rw [hwc] at hX hbc
  rw [hGe] at hX
  have HWc := Lib.hid hwc
  have DC : Dx 131 w w0 wc P q G r1 (.int .i64 (K : Int)) (.int .u64 0) (.int .u64 0) (.int .u64 0) (.slice none 0 0) (.int .i64 0) (.bool false) (.int .i64 0) (.bool false) (.int .u64 0) :=
    ⟨hRb.below hbc, hPb.below hbc, hX, HB0.out, hPq, by omega, by omega, by rw [HPE.out]; exact Nat.le_refl _, by have := hRb.bel.size; omega⟩
  clear hwc hX hbc hRb hPb hbo
  go_wp2_with fail
  rw [HWc.out]
  with_reducible refine (dp_num DC z1 G1 N2).mono ?_
  rintro e wd ⟨rfl, DD⟩
  clear DC hqb hPl hPe hGe
  go_wp2_with fail
  with_reducible refine (dp_num DD z2 G2 N3).mono ?_
  rintro e we ⟨rfl, DE⟩
  clear DD
  go_wp2_with fail
  with_reducible refine (dp_num DE z3 G3 N4).mono ?_
  rintro e wf ⟨rfl, DF⟩
  clear DE
  go_wp2_with fail
  with_reducible refine (dp_num DF z4 G4 N5).mono ?_
  rintro e wg ⟨rfl, DG⟩
  clear DF
  obtain ⟨y0, y1, y2, y3, y4, y5, y6, y7, y8, y9⟩ := DG.gx.all
  have gf := DG.gx.free
  have hGl := DG.gx.lt
  have D5 := (((DG.set1 (.int .u64 (s1 : Int))).set2 (.int .u64 (s2 : Int))).set3 (.int .u64 (s3 : Int))).set9 (.int .u64 (n4 : Int))
  obtain ⟨w5, hw5⟩ : ∃ x, (((wg.setCell ⟨G, 1, none⟩ (.int .u64 (s1 : Int))).setCell ⟨G, 2, none⟩ (.int .u64 (s2 : Int))).setCell ⟨G, 3, none⟩ (.int .u64 (s3 : Int))).setCell ⟨G, 9, none⟩ (.int .u64 (n4 : Int)) = x := ⟨_, rfl⟩
  rw [hw5] at D5
  have HW5 := Lib.hid hw5
  clear hw5 DG
  go_upto_region 4 with fail
  rw [HW5.out]
  clear y0 y1 y2 y3 y4 y5 y6 y7 y8 y9 hGl gf
  rcases Nat.decEq K 2 with hk2 | hk2
  · have k2 : ((K : Int) == 2) = false := by simp only [beq_eq_false_iff_ne, ne_eq]; omega
    rcases Nat.decEq K 4 with hk4 | hk4
    · have k4 : ((K : Int) == 4) = false := by simp only [beq_eq_false_iff_ne, ne_eq]; omega
      have HM := Lib.hid (HN.out.plain hk2 hk4)
      have HOWN := Lib.hid (World.ownsRow_nil w5 w5.heap.size 67 3)
      have HBB : Hid (P < w5.heap.size ∧ q < w5.heap.size ∧ G < w5.heap.size) := ⟨D5.px.lt, D5.rd.lt, D5.gx.lt⟩
      have HFEW : Hid (([] : List Sp).length ≤ 64 ∧ ∀ e ∈ ([] : List Sp), e.nm.size ≤ 16) := ⟨by simp, by simp⟩
      have HFIN : Hid (Fin ⟨(K : Nat), s1, s2, s3, [], 0, false, 0, false, n4⟩) := HFI.out ⟨_, _, _, _, _, _, _, _, _, _⟩ rfl rfl rfl rfl
      have D := D5
      clear D5 hk2 hk4
      have hyes := yes_is s HM.out
      obtain ⟨dn, hdn⟩ : ∃ b, r5.done = b := ⟨_, rfl⟩
      obtain ⟨mb, hmb⟩ : ∃ b, mayB ⟨(K : Nat), s1, s2, s3, [], 0, false, 0, false, n4⟩ = b := ⟨_, rfl⟩
      rw [hdn, hmb] at hyes
      have HDN := Lib.hid hdn
      have HMB := Lib.hid hmb
      have HY := Lib.hid hyes
      have hx := D.gx
      have hp := D.px
      obtain ⟨y0, y1, y2, y3, y4, y5, y6, y7, y8, y9⟩ := hx.all
      have hGl := hx.lt
      have hPl := hp.lt
      clear hyes hdn hmb hx hp
      go_wp2_with fail
      with_reducible refine (rp_done D.rd HDN).mono ?_
      rintro e w7 hk
      obtain ⟨rfl, D7⟩ := D.ran hk
      have HOWN7 := Lib.hid (own_keep hk.2.2 HOWN.out fun g hg => by have := (HOWN.out.lt g hg).1; have := HBB.out; omega)
      have HSZ7 := hk.2.2.size
      clear hk D y0 y1 y2 y3 y4 y5 y6 y7 y8 y9 hGl hPl
      obtain ⟨y0, y1, y2, y3, y4, y5, y6, y7, y8, y9⟩ := D7.gx.all
      obtain ⟨p0, p1, p2, p3, p4, p5, p6, p7, p8, p9⟩ := D7.px.all
      have pf := D7.px.free
      have hGl := D7.gx.lt
      have hPl := D7.px.lt
      cases dn with
      | false =>
        have HNO : Hid (dec s = zeroC ∧ decZ s = 2) := dec_no (by rw [HY.out]; rfl)
        have HZ := Lib.hid (D7.px.set (.int .i64 0) (.int .u64 0) (.int .u64 0) (.int .u64 0) (.slice none 0 0) (.int .i64 0) (.bool false) (.int .i64 0) (.bool false) (.int .u64 0))
        have HALL := Lib.hid D7.all
        have HLP := Lib.hid D7.lp
        clear D7
        go_wp2
        refine bodyPost_ret (res2 (p := 2) (u := 3) rfl _ rfl HZ.out.1) rfl ?_
        exact ⟨none, 0, 0, by rw [HNO.out.1, HNO.out.2]; rfl, by rw [HNO.out.1]; exact cat_zero _, HALL.out.trans (HZ.out.2.below HALL.out.size fun k hk => by rw [hk]; exact HLP.out), new_nil _⟩
      | true =>
        have hcat := own_cat (m := ⟨(K : Nat), s1, s2, s3, [], 0, false, 0, false, n4⟩) HOWN7.out HFEW.out HFIN.out
        have HMAY := Lib.hid (may_any 0 hcat)
        rw [HMB.out] at HMAY
        unfold cmV at HMAY
        simp only at HMAY
        clear hcat
        go_wp2_with fail
        with_reducible refine HMAY.out.mono ?_
        rintro e w8 ⟨rfl, hb8⟩
        have D8 := D7.below hb8
        have HOWN8 := Lib.hid (own_keep (S := fun _ => False) (Only.of_below hb8) HOWN7.out (fun _ _ h => h))
        have HSZ8 := hb8.size
        clear D7 y0 y1 y2 y3 y4 y5 y6 y7 y8 y9 p0 p1 p2 p3 p4 p5 p6 p7 p8 p9 pf hGl hPl hb8 HMAY
        obtain ⟨y0, y1, y2, y3, y4, y5, y6, y7, y8, y9⟩ := D8.gx.all
        obtain ⟨p0, p1, p2, p3, p4, p5, p6, p7, p8, p9⟩ := D8.px.all
        have pf := D8.px.free
        have hGl := D8.gx.lt
        have hPl := D8.px.lt
        cases mb with
        | false =>
          have HNO : Hid (dec s = zeroC ∧ decZ s = 2) := dec_no (by rw [HY.out]; rfl)
          have HZ := Lib.hid (D8.px.set (.int .i64 0) (.int .u64 0) (.int .u64 0) (.int .u64 0) (.slice none 0 0) (.int .i64 0) (.bool false) (.int .i64 0) (.bool false) (.int .u64 0))
          have HALL := Lib.hid D8.all
          have HLP := Lib.hid D8.lp
          clear D8
          go_wp2
          refine bodyPost_ret (res2 (p := 2) (u := 3) rfl _ rfl HZ.out.1) rfl ?_
          exact ⟨none, 0, 0, by rw [HNO.out.1, HNO.out.2]; rfl, by rw [HNO.out.1]; exact cat_zero _, HALL.out.trans (HZ.out.2.below HALL.out.size fun k hk => by rw [hk]; exact HLP.out), new_nil _⟩
        | true =>
          have HYE : Hid (dec s = ⟨(K : Nat), s1, s2, s3, [], 0, false, 0, false, n4⟩ ∧ decZ s = 0) := by
            have h := dec_yes (s := s) (by rw [HY.out]; rfl)
            rw [HM.out.1] at h
            exact h
          have HZ := Lib.hid (D8.px.set (.int .i64 (K : Int)) (.int .u64 (s1 : Int)) (.int .u64 (s2 : Int)) (.int .u64 (s3 : Int)) (.slice none 0 0) (.int .i64 0) (.bool false) (.int .i64 0) (.bool false) (.int .u64 (n4 : Int)))
          have HALL := Lib.hid D8.all
          have HLP := Lib.hid D8.lp
          clear D8
          go_wp2
          refine bodyPost_ret (res2 (p := 2) (u := 3) rfl _ rfl HZ.out.1) rfl ?_
          refine ⟨none, 0, 0, by rw [HYE.out.1, HYE.out.2]; rfl, ?_, HALL.out.trans (HZ.out.2.below HALL.out.size fun k hk => by rw [hk]; exact HLP.out), own_new HOWN8.out (by have := HBB.out; have := HPE.out; omega)⟩
          rw [HYE.out.1]
          exact own_cat (m := ⟨(K : Nat), s1, s2, s3, [], 0, false, 0, false, n4⟩) (own_keep HZ.out.2 HOWN8.out fun g hg => by have := (HOWN8.out.lt g hg).1; have := HBB.out; omega) HFEW.out HFIN.out
    · have k4 : ((K : Int) == 4) = true := by simp only [beq_iff_eq]; omega
      obtain ⟨q1, q2, q3, q4, oa, oc, ob, od, hO⟩ := namedo r5 z5
      have HM := Lib.hid (HN.out.outc hk4 hO)
      have O1 := hO.h1
      have O2 := hO.h2
      have O3 := hO.h3
      have O4 := hO.h4
      have U1 := hO.g1
      have U2 := hO.g2
      have U3 := hO.g3
      have U4 := hO.g4
      have t1 := hO.z1
      have t2 := hO.z2
      have t3 := hO.z3
      clear hO hk2 hk4
      obtain ⟨y0, y1, y2, y3, y4, y5, y6, y7, y8, y9⟩ := D5.gx.all
      have hGl := D5.gx.lt
      go_wp2_with fail
      with_reducible refine (dp_up 63 D5 z5 (by decide) U1 O1).mono ?_
      rintro e wA ⟨rfl, DA⟩
      clear D5 y0 y1 y2 y3 y4 y5 y6 y7 y8 y9 hGl
      go_wp2_with fail
      with_reducible refine (dp_bool DA t1 U2 O2).mono ?_
      rintro e wB ⟨rfl, DB⟩
      clear DA
      obtain ⟨y0, y1, y2, y3, y4, y5, y6, y7, y8, y9⟩ := DB.gx.all
      have gf := DB.gx.free
      have hGl := DB.gx.lt
      have DC := (DB.set5 (.int .i64 (oa : Int))).set6 (.bool ob)
      obtain ⟨wC, hwC⟩ : ∃ x, (wB.setCell ⟨G, 5, none⟩ (.int .i64 (oa : Int))).setCell ⟨G, 6, none⟩ (.bool ob) = x := ⟨_, rfl⟩
      rw [hwC] at DC
      have HWC := Lib.hid hwC
      clear hwC DB
      go_upto_region 9 with fail
      rw [HWC.out]
      clear y0 y1 y2 y3 y4 y5 y6 y7 y8 y9 hGl gf
      go_wp2_with fail
      with_reducible refine (dp_up 8 DC t2 (by decide) U3 O3).mono ?_
      rintro e wE ⟨rfl, DE⟩
      clear DC
      go_wp2_with fail
      with_reducible refine (dp_bool DE t3 U4 O4).mono ?_
      rintro e wF ⟨rfl, DF⟩
      clear DE
      obtain ⟨y0, y1, y2, y3, y4, y5, y6, y7, y8, y9⟩ := DF.gx.all
      have gf := DF.gx.free
      have hGl := DF.gx.lt
      have D := (DF.set7 (.int .i64 (oc : Int))).set8 (.bool od)
      obtain ⟨w6, hw6⟩ : ∃ x, (wF.setCell ⟨G, 7, none⟩ (.int .i64 (oc : Int))).setCell ⟨G, 8, none⟩ (.bool od) = x := ⟨_, rfl⟩
      rw [hw6] at D
      have HW6 := Lib.hid hw6
      clear hw6 DF
      go_upto_region 10 with fail
      rw [HW6.out]
      clear y0 y1 y2 y3 y4 y5 y6 y7 y8 y9 hGl gf
      have HOWN := Lib.hid (World.ownsRow_nil w6 w6.heap.size 67 3)
      have HBB : Hid (P < w6.heap.size ∧ q < w6.heap.size ∧ G < w6.heap.size) := ⟨D.px.lt, D.rd.lt, D.gx.lt⟩
      have HFEW : Hid (([] : List Sp).length ≤ 64 ∧ ∀ e ∈ ([] : List Sp), e.nm.size ≤ 16) := ⟨by simp, by simp⟩
      have HFIN : Hid (Fin ⟨(K : Nat), s1, s2, s3, [], (oa : Nat), ob, (oc : Nat), od, n4⟩) := HFI.out ⟨_, _, _, _, _, _, _, _, _, _⟩ rfl rfl rfl rfl
      have hyes := yes_is s HM.out
      obtain ⟨dn, hdn⟩ : ∃ b, q4.done = b := ⟨_, rfl⟩
      obtain ⟨mb, hmb⟩ : ∃ b, mayB ⟨(K : Nat), s1, s2, s3, [], (oa : Nat), ob, (oc : Nat), od, n4⟩ = b := ⟨_, rfl⟩
      rw [hdn, hmb] at hyes
      have HDN := Lib.hid hdn
      have HMB := Lib.hid hmb
      have HY := Lib.hid hyes
      have hx := D.gx
      have hp := D.px
      obtain ⟨y0, y1, y2, y3, y4, y5, y6, y7, y8, y9⟩ := hx.all
      have hGl := hx.lt
      have hPl := hp.lt
      clear hyes hdn hmb hx hp
      go_wp2_with fail
      with_reducible refine (rp_done D.rd HDN).mono ?_
      rintro e w7 hk
      obtain ⟨rfl, D7⟩ := D.ran hk
      have HOWN7 := Lib.hid (own_keep hk.2.2 HOWN.out fun g hg => by have := (HOWN.out.lt g hg).1; have := HBB.out; omega)
      have HSZ7 := hk.2.2.size
      clear hk D y0 y1 y2 y3 y4 y5 y6 y7 y8 y9 hGl hPl
      obtain ⟨y0, y1, y2, y3, y4, y5, y6, y7, y8, y9⟩ := D7.gx.all
      obtain ⟨p0, p1, p2, p3, p4, p5, p6, p7, p8, p9⟩ := D7.px.all
      have pf := D7.px.free
      have hGl := D7.gx.lt
      have hPl := D7.px.lt
      cases dn with
      | false =>
        have HNO : Hid (dec s = zeroC ∧ decZ s = 2) := dec_no (by rw [HY.out]; rfl)
        have HZ := Lib.hid (D7.px.set (.int .i64 0) (.int .u64 0) (.int .u64 0) (.int .u64 0) (.slice none 0 0) (.int .i64 0) (.bool false) (.int .i64 0) (.bool false) (.int .u64 0))
        have HALL := Lib.hid D7.all
        have HLP := Lib.hid D7.lp
        clear D7
        go_wp2
        refine bodyPost_ret (res2 (p := 2) (u := 3) rfl _ rfl HZ.out.1) rfl ?_
        exact ⟨none, 0, 0, by rw [HNO.out.1, HNO.out.2]; rfl, by rw [HNO.out.1]; exact cat_zero _, HALL.out.trans (HZ.out.2.below HALL.out.size fun k hk => by rw [hk]; exact HLP.out), new_nil _⟩
      | true =>
        have hcat := own_cat (m := ⟨(K : Nat), s1, s2, s3, [], (oa : Nat), ob, (oc : Nat), od, n4⟩) HOWN7.out HFEW.out HFIN.out
        have HMAY := Lib.hid (may_any 0 hcat)
        rw [HMB.out] at HMAY
        unfold cmV at HMAY
        simp only at HMAY
        clear hcat
        go_wp2_with fail
        with_reducible refine HMAY.out.mono ?_
        rintro e w8 ⟨rfl, hb8⟩
        have D8 := D7.below hb8
        have HOWN8 := Lib.hid (own_keep (S := fun _ => False) (Only.of_below hb8) HOWN7.out (fun _ _ h => h))
        have HSZ8 := hb8.size
        clear D7 y0 y1 y2 y3 y4 y5 y6 y7 y8 y9 p0 p1 p2 p3 p4 p5 p6 p7 p8 p9 pf hGl hPl hb8 HMAY
        obtain ⟨y0, y1, y2, y3, y4, y5, y6, y7, y8, y9⟩ := D8.gx.all
        obtain ⟨p0, p1, p2, p3, p4, p5, p6, p7, p8, p9⟩ := D8.px.all
        have pf := D8.px.free
        have hGl := D8.gx.lt
        have hPl := D8.px.lt
        cases mb with
        | false =>
          have HNO : Hid (dec s = zeroC ∧ decZ s = 2) := dec_no (by rw [HY.out]; rfl)
          have HZ := Lib.hid (D8.px.set (.int .i64 0) (.int .u64 0) (.int .u64 0) (.int .u64 0) (.slice none 0 0) (.int .i64 0) (.bool false) (.int .i64 0) (.bool false) (.int .u64 0))
          have HALL := Lib.hid D8.all
          have HLP := Lib.hid D8.lp
          clear D8
          go_wp2
          refine bodyPost_ret (res2 (p := 2) (u := 3) rfl _ rfl HZ.out.1) rfl ?_
          exact ⟨none, 0, 0, by rw [HNO.out.1, HNO.out.2]; rfl, by rw [HNO.out.1]; exact cat_zero _, HALL.out.trans (HZ.out.2.below HALL.out.size fun k hk => by rw [hk]; exact HLP.out), new_nil _⟩
        | true =>
          have HYE : Hid (dec s = ⟨(K : Nat), s1, s2, s3, [], (oa : Nat), ob, (oc : Nat), od, n4⟩ ∧ decZ s = 0) := by
            have h := dec_yes (s := s) (by rw [HY.out]; rfl)
            rw [HM.out.1] at h
            exact h
          have HZ := Lib.hid (D8.px.set (.int .i64 (K : Int)) (.int .u64 (s1 : Int)) (.int .u64 (s2 : Int)) (.int .u64 (s3 : Int)) (.slice none 0 0) (.int .i64 (oa : Int)) (.bool ob) (.int .i64 (oc : Int)) (.bool od) (.int .u64 (n4 : Int)))
          have HALL := Lib.hid D8.all
          have HLP := Lib.hid D8.lp
          clear D8
          go_wp2
          refine bodyPost_ret (res2 (p := 2) (u := 3) rfl _ rfl HZ.out.1) rfl ?_
          refine ⟨none, 0, 0, by rw [HYE.out.1, HYE.out.2]; rfl, ?_, HALL.out.trans (HZ.out.2.below HALL.out.size fun k hk => by rw [hk]; exact HLP.out), own_new HOWN8.out (by have := HBB.out; have := HPE.out; omega)⟩
          rw [HYE.out.1]
          exact own_cat (m := ⟨(K : Nat), s1, s2, s3, [], (oa : Nat), ob, (oc : Nat), od, n4⟩) (own_keep HZ.out.2 HOWN8.out fun g hg => by have := (HOWN8.out.lt g hg).1; have := HBB.out; omega) HFEW.out HFIN.out
  · have k2 : ((K : Int) == 2) = true := by simp only [beq_iff_eq]; omega
    have k4 : ((K : Int) == 4) = false := by simp only [beq_eq_false_iff_ne, ne_eq]; omega
    obtain ⟨l, hl⟩ : ∃ l, rPlan r5 = l := ⟨_, rfl⟩
    obtain ⟨rE, hrE⟩ : ∃ r, rEnd r5 = r := ⟨_, rfl⟩
    have hfew := plan_in r5
    rw [hl] at hfew
    have HL := Lib.hid hl
    have HRE := Lib.hid hrE
    have HM := Lib.hid (HN.out.subm hk2 HL HRE)
    have HFEW : Hid (l.length ≤ 64 ∧ ∀ e ∈ l, e.nm.size ≤ 16) := hfew
    have HFIN : Hid (Fin ⟨(K : Nat), s1, s2, s3, l, 0, false, 0, false, n4⟩) := HFI.out ⟨_, _, _, _, _, _, _, _, _, _⟩ rfl rfl rfl rfl
    clear hl hrE hfew hk2
    obtain ⟨y0, y1, y2, y3, y4, y5, y6, y7, y8, y9⟩ := D5.gx.all
    have hGl := D5.gx.lt
    have HBB : Hid (P < w5.heap.size ∧ q < w5.heap.size ∧ G < w5.heap.size) := ⟨D5.px.lt, D5.rd.lt, D5.gx.lt⟩
    go_wp2_with fail
    with_reducible refine (PlnWalkD.read_any D5.rd z5 HL HRE).mono ?_
    intro e wA hk
    obtain ⟨v, rfl, hownA, DA⟩ := D5.plan hk
    obtain ⟨A, c, rfl, _, _, _⟩ := own_form hownA
    obtain ⟨n, hn⟩ : ∃ n, l.length = n := ⟨_, rfl⟩
    rw [hn] at hownA
    have HLN := Lib.hid hn
    clear hk D5 y0 y1 y2 y3 y4 y5 y6 y7 y8 y9 hGl
    obtain ⟨y0, y1, y2, y3, y4, y5, y6, y7, y8, y9⟩ := DA.gx.all
    have gf := DA.gx.free
    have hGl := DA.gx.lt
    have D := DA.set4 (.slice A n c)
    have hset := (DA.gx.set4 (.slice A n c)).2
    have hown6 := own_keep hset hownA fun g hg => by have := (hownA.lt g hg).1; have := HBB.out; omega
    obtain ⟨w6, hw6⟩ : ∃ x, wA.setCell ⟨G, 4, none⟩ (.slice A n c) = x := ⟨_, rfl⟩
    rw [hw6] at D hown6
    have HW6 := Lib.hid hw6
    have HOWN : Hid (w6.ownsRow w5.heap.size 67 3 (.slice A n c) l.length (scells l)) := by
      have : w6.ownsRow w5.heap.size 67 3 (.slice A n c) l.length (scells l) := by rw [HLN.out]; exact hown6
      exact this
    clear hw6 DA hownA hown6 hset
    simp only [hn]
    clear hn
    go_upto_region 10 with fail
    rw [HW6.out]
    clear y0 y1 y2 y3 y4 y5 y6 y7 y8 y9 hGl gf
    have hyes := yes_is s HM.out
    obtain ⟨dn, hdn⟩ : ∃ b, rE.done = b := ⟨_, rfl⟩
    obtain ⟨mb, hmb⟩ : ∃ b, mayB ⟨(K : Nat), s1, s2, s3, l, 0, false, 0, false, n4⟩ = b := ⟨_, rfl⟩
    rw [hdn, hmb] at hyes
    have HDN := Lib.hid hdn
    have HMB := Lib.hid hmb
    have HY := Lib.hid hyes
    have hx := D.gx
    have hp := D.px
    obtain ⟨y0, y1, y2, y3, y4, y5, y6, y7, y8, y9⟩ := hx.all
    have hGl := hx.lt
    have hPl := hp.lt
    clear hyes hdn hmb hx hp
    go_wp2_with fail
    with_reducible refine (rp_done D.rd HDN).mono ?_
    rintro e w7 hk
    obtain ⟨rfl, D7⟩ := D.ran hk
    have HOWN7 := Lib.hid (own_keep hk.2.2 HOWN.out fun g hg => by have := (HOWN.out.lt g hg).1; have := HBB.out; omega)
    have HSZ7 := hk.2.2.size
    clear hk D y0 y1 y2 y3 y4 y5 y6 y7 y8 y9 hGl hPl
    obtain ⟨y0, y1, y2, y3, y4, y5, y6, y7, y8, y9⟩ := D7.gx.all
    obtain ⟨p0, p1, p2, p3, p4, p5, p6, p7, p8, p9⟩ := D7.px.all
    have pf := D7.px.free
    have hGl := D7.gx.lt
    have hPl := D7.px.lt
    cases dn with
    | false =>
      have HNO : Hid (dec s = zeroC ∧ decZ s = 2) := dec_no (by rw [HY.out]; rfl)
      have HZ := Lib.hid (D7.px.set (.int .i64 0) (.int .u64 0) (.int .u64 0) (.int .u64 0) (.slice none 0 0) (.int .i64 0) (.bool false) (.int .i64 0) (.bool false) (.int .u64 0))
      have HALL := Lib.hid D7.all
      have HLP := Lib.hid D7.lp
      clear D7
      go_wp2
      refine bodyPost_ret (res2 (p := 2) (u := 3) rfl _ rfl HZ.out.1) rfl ?_
      exact ⟨none, 0, 0, by rw [HNO.out.1, HNO.out.2]; rfl, by rw [HNO.out.1]; exact cat_zero _, HALL.out.trans (HZ.out.2.below HALL.out.size fun k hk => by rw [hk]; exact HLP.out), new_nil _⟩
    | true =>
      have hcat := own_cat (m := ⟨(K : Nat), s1, s2, s3, l, 0, false, 0, false, n4⟩) HOWN7.out HFEW.out HFIN.out
      have HMAY := Lib.hid (may_any c hcat)
      rw [HMB.out] at HMAY
      unfold cmV at HMAY
      simp only at HMAY
      clear hcat
      go_wp2_with fail
      with_reducible refine HMAY.out.mono ?_
      rintro e w8 ⟨rfl, hb8⟩
      have D8 := D7.below hb8
      have HOWN8 := Lib.hid (own_keep (S := fun _ => False) (Only.of_below hb8) HOWN7.out (fun _ _ h => h))
      have HSZ8 := hb8.size
      clear D7 y0 y1 y2 y3 y4 y5 y6 y7 y8 y9 p0 p1 p2 p3 p4 p5 p6 p7 p8 p9 pf hGl hPl hb8 HMAY
      obtain ⟨y0, y1, y2, y3, y4, y5, y6, y7, y8, y9⟩ := D8.gx.all
      obtain ⟨p0, p1, p2, p3, p4, p5, p6, p7, p8, p9⟩ := D8.px.all
      have pf := D8.px.free
      have hGl := D8.gx.lt
      have hPl := D8.px.lt
      cases mb with
      | false =>
        have HNO : Hid (dec s = zeroC ∧ decZ s = 2) := dec_no (by rw [HY.out]; rfl)
        have HZ := Lib.hid (D8.px.set (.int .i64 0) (.int .u64 0) (.int .u64 0) (.int .u64 0) (.slice none 0 0) (.int .i64 0) (.bool false) (.int .i64 0) (.bool false) (.int .u64 0))
        have HALL := Lib.hid D8.all
        have HLP := Lib.hid D8.lp
        clear D8
        go_wp2
        refine bodyPost_ret (res2 (p := 2) (u := 3) rfl _ rfl HZ.out.1) rfl ?_
        exact ⟨none, 0, 0, by rw [HNO.out.1, HNO.out.2]; rfl, by rw [HNO.out.1]; exact cat_zero _, HALL.out.trans (HZ.out.2.below HALL.out.size fun k hk => by rw [hk]; exact HLP.out), new_nil _⟩
      | true =>
        have HYE : Hid (dec s = ⟨(K : Nat), s1, s2, s3, l, 0, false, 0, false, n4⟩ ∧ decZ s = 0) := by
          have h := dec_yes (s := s) (by rw [HY.out]; rfl)
          rw [HM.out.1] at h
          exact h
        have HZ := Lib.hid (D8.px.set (.int .i64 (K : Int)) (.int .u64 (s1 : Int)) (.int .u64 (s2 : Int)) (.int .u64 (s3 : Int)) (.slice A n c) (.int .i64 0) (.bool false) (.int .i64 0) (.bool false) (.int .u64 (n4 : Int)))
        have HALL := Lib.hid D8.all
        have HLP := Lib.hid D8.lp
        clear D8
        go_wp2
        refine bodyPost_ret (res2 (p := 2) (u := 3) rfl _ rfl HZ.out.1) rfl ?_
        refine ⟨A, n, c, by rw [HYE.out.1, HYE.out.2]; rfl, ?_, HALL.out.trans (HZ.out.2.below HALL.out.size fun k hk => by rw [hk]; exact HLP.out), own_new HOWN8.out (by have := HBB.out; have := HPE.out; omega)⟩
        rw [HYE.out.1]
        exact own_cat (m := ⟨(K : Nat), s1, s2, s3, l, 0, false, 0, false, n4⟩) (own_keep HZ.out.2 HOWN8.out fun g hg => by have := (HOWN8.out.lt g hg).1; have := HBB.out; omega) HFEW.out HFIN.out
end Go.Proofs.YthaepkpmpnofgaaGreat.CmnWalkD
