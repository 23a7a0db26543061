/- Decode's way: a reader, the command's box that is filled, the answer's box. No statement is proved here. -/
import Derived.Test.YthaepkpmpnofgaaGW
import Derived.Test.YthaepkpmpnofgaaHPlnWalkD
set_option linter.unusedVariables false
set_option linter.unusedSimpArgs false
namespace Go.Proofs.Ythaepkpmpnofgaa.Dx
open Go.RowKit Go.Proofs.Ythaepkpmpnofgaa.Kit Go.Proofs.Ythaepkpmpnofgaa.Rdr Go.Proofs.Ythaepkpmpnofgaa.Stq Go.Proofs.Ythaepkpmpnofgaa.Pln Go.Proofs.Ythaepkpmpnofgaa.Wtr Go.Proofs.Ythaepkpmpnofgaa.Cmd Go.Proofs.Ythaepkpmpnofgaa.CmdAt
open Go.Proofs.Ythaepkpmpnofgaa.State (Only cell_at free_at lt_at set_at)
open Go.Proofs.Ythaepkpmpnofgaa.PckWalkC (gotB)
open Go.Proofs.Ythaepkpmpnofgaa.PckWalkE (upV truth)
open Go.Proofs.Ythaepkpmpnofgaa.PlnWalkD (RdP own_keep)

/-- Steps that lie in a block that is new since w. -/
def New (w : World) (A : Option Addr) (n : Nat) : Prop := 0 < n → ∀ ad, A = some ad → w.heap.size ≤ ad.block
theorem new_nil (w : World) : New w none 0 := fun h => absurd h (by decide)
theorem own_new {w W : World} {B : Nat} {A : Option Addr} {n k c : Nat} {xs : List Value} (h : W.ownsRow B 44 3 (.slice A n c) k xs) (hB : w.heap.size ≤ B) : New w A n := by
  intro hn ad e
  subst e
  exact Nat.le_trans hB (h.lt ad.block rfl).1
/-- What Decode answers. -/
def Dec (w : World) (s : ByteArray) (e : Ending) (w' : World) : Prop := ∃ A n c, e = .returned (.tuple #[cmV A n c (dec s), .int .i64 (decZ s)]) ∧ CAt w' A n (dec s) ∧ Below w.heap.size w w' ∧ New w A n
/-- The reader at q came behind w0; the box at G is being filled; the answer's box at P is as it began. -/
structure Dx (T : TypeId) (w w0 W : World) (P q G : Nat) (r : Rd) (a b c d e f g h i j : Value) : Prop where
  rd : Rds T w0 W q r
  px : Bx W P (.int .i64 0) (.int .u64 0) (.int .u64 0) (.int .u64 0) (.slice none 0 0) (.int .i64 0) (.bool false) (.int .i64 0) (.bool false) (.int .u64 0)
  gx : Bx W G a b c d e f g h i j
  bel : Below w.heap.size w w0
  pq : P ≠ q
  pg : P ≠ G
  gq : G ≠ q
  lp : w.heap.size ≤ P
  lg : w0.heap.size ≤ G
section
variable {T : TypeId} {w w0 W W' : World} {P q G : Nat} {r r' : Rd} {a b c d e f g h i j : Value}
theorem Dx.ran (x : Dx T w w0 W P q G r a b c d e f g h i j) {v : Value} {en : Ending} (k : Ran T w0 W q r' v en W') : en = .returned v ∧ Dx T w w0 W' P q G r' a b c d e f g h i j :=
  ⟨k.1, k.2.1, x.px.keep k.2.2 x.pq, x.gx.keep k.2.2 x.gq, x.bel, x.pq, x.pg, x.gq, x.lp, x.lg⟩
theorem Dx.wrote (x : Dx T w w0 W P q G r a b c d e f g h i j) {a' b' c' d' e' f' g' h' i' j' : Value} (k : Bx W' G a' b' c' d' e' f' g' h' i' j' ∧ Only (fun y => y = G) W W') : Dx T w w0 W' P q G r a' b' c' d' e' f' g' h' i' j' :=
  ⟨⟨x.rd.at_.keep k.2 fun e => x.gq e.symm, x.rd.low, x.rd.bel.trans (k.2.below x.rd.bel.size fun y e => by rw [e]; exact x.lg)⟩, x.px.keep k.2 x.pg, k.1, x.bel, x.pq, x.pg, x.gq, x.lp, x.lg⟩
theorem Dx.below (x : Dx T w w0 W P q G r a b c d e f g h i j) (k : Below W.heap.size W W') : Dx T w w0 W' P q G r a b c d e f g h i j :=
  ⟨x.rd.below k, x.px.below k, x.gx.below k, x.bel, x.pq, x.pg, x.gq, x.lp, x.lg⟩
theorem Dx.all (x : Dx T w w0 W P q G r a b c d e f g h i j) : Below w.heap.size w W := x.bel.trans (x.rd.bel.mono x.bel.size)
theorem Dx.set1 (x : Dx T w w0 W P q G r a b c d e f g h i j) (v : Value) : Dx T w w0 (W.setCell ⟨G, 1, none⟩ v) P q G r a v c d e f g h i j := x.wrote (x.gx.set1 v)
theorem Dx.set2 (x : Dx T w w0 W P q G r a b c d e f g h i j) (v : Value) : Dx T w w0 (W.setCell ⟨G, 2, none⟩ v) P q G r a b v d e f g h i j := x.wrote (x.gx.set2 v)
theorem Dx.set3 (x : Dx T w w0 W P q G r a b c d e f g h i j) (v : Value) : Dx T w w0 (W.setCell ⟨G, 3, none⟩ v) P q G r a b c v e f g h i j := x.wrote (x.gx.set3 v)
theorem Dx.set4 (x : Dx T w w0 W P q G r a b c d e f g h i j) (v : Value) : Dx T w w0 (W.setCell ⟨G, 4, none⟩ v) P q G r a b c d v f g h i j := x.wrote (x.gx.set4 v)
theorem Dx.set5 (x : Dx T w w0 W P q G r a b c d e f g h i j) (v : Value) : Dx T w w0 (W.setCell ⟨G, 5, none⟩ v) P q G r a b c d e v g h i j := x.wrote (x.gx.set5 v)
theorem Dx.set6 (x : Dx T w w0 W P q G r a b c d e f g h i j) (v : Value) : Dx T w w0 (W.setCell ⟨G, 6, none⟩ v) P q G r a b c d e f v h i j := x.wrote (x.gx.set6 v)
theorem Dx.set7 (x : Dx T w w0 W P q G r a b c d e f g h i j) (v : Value) : Dx T w w0 (W.setCell ⟨G, 7, none⟩ v) P q G r a b c d e f g v i j := x.wrote (x.gx.set7 v)
theorem Dx.set8 (x : Dx T w w0 W P q G r a b c d e f g h i j) (v : Value) : Dx T w w0 (W.setCell ⟨G, 8, none⟩ v) P q G r a b c d e f g h v j := x.wrote (x.gx.set8 v)
theorem Dx.set9 (x : Dx T w w0 W P q G r a b c d e f g h i j) (v : Value) : Dx T w w0 (W.setCell ⟨G, 9, none⟩ v) P q G r a b c d e f g h i v := x.wrote (x.gx.set9 v)
theorem Dx.plan {l : List Sp} {en : Ending} (x : Dx T w w0 W P q G r a b c d e f g h i j) (k : RdP T w0 W q l r' en W') : ∃ v, en = .returned v ∧ W'.ownsRow W.heap.size 44 3 v l.length (scells l) ∧ Dx T w w0 W' P q G r' a b c d e f g h i j := by
  obtain ⟨v, h1, h2, h3, h4⟩ := k
  exact ⟨v, h1, h2, h3, x.px.keep h4 x.pq, x.gx.keep h4 x.gq, x.bel, x.pq, x.pg, x.gq, x.lp, x.lg⟩
end
section
variable {w w0 W W' : World} {P q G : Nat} {r r' : Rd} {a b c d e f g h i j : Value}
theorem dp_num {x : Nat} (y : Dx 96 w w0 W P q G r a b c d e f g h i j) (hs : r.s.size ≤ 9223372036854775807) (hg : Hid (gotB r.s = x)) (hr : Hid (r.num = r')) :
    Calls Try.prog 34 #[.pointer (some ⟨q, 0, none⟩)] W fun en W' => en = .returned (.int .u64 (x : Int)) ∧ Dx 96 w w0 W' P q G r' a b c d e f g h i j := (rp_num y.rd hs hg hr).mono fun _ _ k => y.ran k
theorem dp_up {x : Nat} (k : Int) (y : Dx 96 w w0 W P q G r a b c d e f g h i j) (hs : r.s.size ≤ 9223372036854775807) (hk : k ≤ 9223372036854775807) (hn : Hid (upV r.s k = x)) (hr : Hid (r.up k = r')) :
    Calls Try.prog 33 #[.pointer (some ⟨q, 0, none⟩), .int .i64 k] W fun en W' => en = .returned (.int .i64 (x : Int)) ∧ Dx 96 w w0 W' P q G r' a b c d e f g h i j := (rp_up k y.rd hs hk hn hr).mono fun _ _ k => y.ran k
theorem dp_bool {x : Bool} (y : Dx 96 w w0 W P q G r a b c d e f g h i j) (hs : r.s.size ≤ 9223372036854775807) (hn : Hid (truth r.s = x)) (hr : Hid (r.up 1 = r')) :
    Calls Try.prog 36 #[.pointer (some ⟨q, 0, none⟩)] W fun en W' => en = .returned (.bool x) ∧ Dx 96 w w0 W' P q G r' a b c d e f g h i j := (rp_bool y.rd hs hn hr).mono fun _ _ k => y.ran k
theorem dp_done {x : Bool} (y : Dx 96 w w0 W P q G r a b c d e f g h i j) (hb : Hid (r.done = x)) :
    Calls Try.prog 22 #[.pointer (some ⟨q, 0, none⟩)] W fun en W' => en = .returned (.bool x) ∧ Dx 96 w w0 W' P q G r a b c d e f g h i j := (rp_done y.rd hb).mono fun _ _ k => y.ran k
end
/-- What any bytes say, by names. -/
structure Nam (s : ByteArray) (r1 r2 r3 r4 r5 : Rd) (K s1 s2 s3 n4 : Nat) : Prop where
  h1 : Hid (Rd.up ⟨s, false⟩ 5 = r1)
  h2 : Hid (r1.num = r2)
  h3 : Hid (r2.num = r3)
  h4 : Hid (r3.num = r4)
  h5 : Hid (r4.num = r5)
  k : Hid (upV s 5 = K)
  g1 : Hid (gotB r1.s = s1)
  g2 : Hid (gotB r2.s = s2)
  g3 : Hid (gotB r3.s = s3)
  g4 : Hid (gotB r4.s = n4)
  z1 : r1.s.size ≤ 9223372036854775807
  z2 : r2.s.size ≤ 9223372036854775807
  z3 : r3.s.size ≤ 9223372036854775807
  z4 : r4.s.size ≤ 9223372036854775807
  z5 : r5.s.size ≤ 9223372036854775807
theorem named (s : ByteArray) (hs : s.size ≤ 9223372036854775807) : ∃ r1 r2 r3 r4 r5 K s1 s2 s3 n4, Nam s r1 r2 r3 r4 r5 K s1 s2 s3 n4 := by
  have a1 : (Rd.up ⟨s, false⟩ 5).s.size ≤ s.size := Rd.up_le _ _
  have a2 := Rd.num_le (Rd.up ⟨s, false⟩ 5)
  have a3 := Rd.num_le (Rd.up ⟨s, false⟩ 5).num
  have a4 := Rd.num_le (Rd.up ⟨s, false⟩ 5).num.num
  have a5 := Rd.num_le (Rd.up ⟨s, false⟩ 5).num.num.num
  exact ⟨_, _, _, _, _, _, _, _, _, _, rfl, rfl, rfl, rfl, rfl, rfl, rfl, rfl, rfl, rfl, by omega, by omega, by omega, by omega, by omega⟩
/-- The outcome's part, by names. -/
structure Nao (r r1 r2 r3 r4 : Rd) (a c : Nat) (b d : Bool) : Prop where
  h1 : Hid (r.up 63 = r1)
  h2 : Hid (r1.up 1 = r2)
  h3 : Hid (r2.up 8 = r3)
  h4 : Hid (r3.up 1 = r4)
  g1 : Hid (upV r.s 63 = a)
  g2 : Hid (truth r1.s = b)
  g3 : Hid (upV r2.s 8 = c)
  g4 : Hid (truth r3.s = d)
  z1 : r1.s.size ≤ 9223372036854775807
  z2 : r2.s.size ≤ 9223372036854775807
  z3 : r3.s.size ≤ 9223372036854775807
theorem namedo (r : Rd) (hs : r.s.size ≤ 9223372036854775807) : ∃ r1 r2 r3 r4 a c b d, Nao r r1 r2 r3 r4 a c b d := by
  have a1 := Rd.up_le r 63
  have a2 := Rd.up_le (r.up 63) 1
  have a3 := Rd.up_le ((r.up 63).up 1) 8
  exact ⟨_, _, _, _, _, _, _, _, rfl, rfl, rfl, rfl, rfl, rfl, rfl, rfl, by omega, by omega, by omega⟩
section
variable {s : ByteArray} {r1 r2 r3 r4 r5 : Rd} {K s1 s2 s3 n4 : Nat}
theorem Nam.subm (n : Nam s r1 r2 r3 r4 r5 K s1 s2 s3 n4) (hk : K = 2) {l : List Sp} {r : Rd} (hl : Hid (rPlan r5 = l)) (hr : Hid (rEnd r5 = r)) : rCm ⟨s, false⟩ = ⟨(K : Nat), s1, s2, s3, l, 0, false, 0, false, n4⟩ ∧ rTo ⟨s, false⟩ = r := by
  obtain ⟨h1, h2, h3, h4, h5, k, g1, g2, g3, g4, _, _, _, _, _⟩ := n
  have e1 : c1 ⟨s, false⟩ = r1 := h1.out
  have e2 : c2 ⟨s, false⟩ = r2 := by unfold c2; rw [e1]; exact h2.out
  have e3 : c3 ⟨s, false⟩ = r3 := by unfold c3; rw [e2]; exact h3.out
  have e4 : c4 ⟨s, false⟩ = r4 := by unfold c4; rw [e3]; exact h4.out
  have e5 : c5 ⟨s, false⟩ = r5 := by unfold c5; rw [e4]; exact h5.out
  unfold rCm rTo
  rw [show upV (Rd.s ⟨s, false⟩) 5 = K from k.out, if_pos hk, if_pos hk, e1, e2, e3, e4, e5, g1.out, g2.out, g3.out, g4.out, hl.out]
  exact ⟨rfl, hr.out⟩
theorem Nam.plain (n : Nam s r1 r2 r3 r4 r5 K s1 s2 s3 n4) (hk : K ≠ 2) (hk4 : K ≠ 4) : rCm ⟨s, false⟩ = ⟨(K : Nat), s1, s2, s3, [], 0, false, 0, false, n4⟩ ∧ rTo ⟨s, false⟩ = r5 := by
  obtain ⟨h1, h2, h3, h4, h5, k, g1, g2, g3, g4, _, _, _, _, _⟩ := n
  have e1 : c1 ⟨s, false⟩ = r1 := h1.out
  have e2 : c2 ⟨s, false⟩ = r2 := by unfold c2; rw [e1]; exact h2.out
  have e3 : c3 ⟨s, false⟩ = r3 := by unfold c3; rw [e2]; exact h3.out
  have e4 : c4 ⟨s, false⟩ = r4 := by unfold c4; rw [e3]; exact h4.out
  have e5 : c5 ⟨s, false⟩ = r5 := by unfold c5; rw [e4]; exact h5.out
  unfold rCm rTo
  rw [show upV (Rd.s ⟨s, false⟩) 5 = K from k.out, if_neg hk, if_neg hk4, if_neg hk, if_neg hk4, e1, e2, e3, e4, e5, g1.out, g2.out, g3.out, g4.out]
  exact ⟨rfl, rfl⟩
theorem Nam.outc (n : Nam s r1 r2 r3 r4 r5 K s1 s2 s3 n4) (hk : K = 4) {q1 q2 q3 q4 : Rd} {a c : Nat} {b d : Bool} (o : Nao r5 q1 q2 q3 q4 a c b d) : rCm ⟨s, false⟩ = ⟨(K : Nat), s1, s2, s3, [], (a : Nat), b, (c : Nat), d, n4⟩ ∧ rTo ⟨s, false⟩ = q4 := by
  obtain ⟨h1, h2, h3, h4, h5, k, g1, g2, g3, g4, _, _, _, _, _⟩ := n
  obtain ⟨p1, p2, p3, p4, u1, u2, u3, u4, _, _, _⟩ := o
  have e1 : c1 ⟨s, false⟩ = r1 := h1.out
  have e2 : c2 ⟨s, false⟩ = r2 := by unfold c2; rw [e1]; exact h2.out
  have e3 : c3 ⟨s, false⟩ = r3 := by unfold c3; rw [e2]; exact h3.out
  have e4 : c4 ⟨s, false⟩ = r4 := by unfold c4; rw [e3]; exact h4.out
  have e5 : c5 ⟨s, false⟩ = r5 := by unfold c5; rw [e4]; exact h5.out
  have f1 : o1 r5 = q1 := p1.out
  have f2 : o2 r5 = q2 := by unfold o2; rw [f1]; exact p2.out
  have f3 : o3 r5 = q3 := by unfold o3; rw [f2]; exact p3.out
  have f4 : o4 r5 = q4 := by unfold o4; rw [f3]; exact p4.out
  have k2 : ¬ K = 2 := by omega
  unfold rCm rTo
  rw [show upV (Rd.s ⟨s, false⟩) 5 = K from k.out, if_neg k2, if_pos hk, if_neg k2, if_pos hk, e1, e2, e3, e4, e5, g1.out, g2.out, g3.out, g4.out, f1, f2, f3, f4, u1.out, u2.out, u3.out, u4.out]
  exact ⟨rfl, rfl⟩
end
theorem cat_none (w : World) {m : Cm} (h : m.l = []) (f : Fin m) : CAt w none 0 m := ⟨by rw [h]; exact RS.nil _ _ _, by decide, by rw [h]; simp, f⟩
theorem cat_zero (w : World) : CAt w none 0 zeroC := cat_none w rfl ⟨by decide, by decide, by decide, by decide⟩
theorem dec_no {s : ByteArray} (h : yes s = false) : dec s = zeroC ∧ decZ s = 2 := by unfold dec decZ; rw [h]; exact ⟨rfl, rfl⟩
theorem dec_yes {s : ByteArray} (h : yes s = true) : dec s = rCm ⟨s, false⟩ ∧ decZ s = 0 := by unfold dec decZ; rw [h]; exact ⟨rfl, rfl⟩
theorem yes_is (s : ByteArray) {m : Cm} {r : Rd} (h : rCm ⟨s, false⟩ = m ∧ rTo ⟨s, false⟩ = r) : yes s = (r.done && mayB m) := by unfold yes; rw [h.1, h.2]
end Go.Proofs.Ythaepkpmpnofgaa.Dx
