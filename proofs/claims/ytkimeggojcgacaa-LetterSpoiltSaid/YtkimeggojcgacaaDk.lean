/- A letter being decoded: its result's block, its reader, its own block, the row of its entries. No statement is proved here. -/
import Derived.Test.YtkimeggojcgacaaApp
set_option linter.unusedVariables false
set_option linter.unusedSimpArgs false
namespace Go.Proofs.Ytkimeggojcgacaa.Dk
open Go.RowKit Go.Proofs.Ytkimeggojcgacaa.Kit Go.Proofs.Ytkimeggojcgacaa.Ltr Go.Proofs.Ytkimeggojcgacaa.Lmt Go.Proofs.Ytkimeggojcgacaa.Wr
open Go.Proofs.Ytkimeggojcgacaa.State (RV cell_at free_at set_at lt_at)
open Go.Proofs.Ytkimeggojcgacaa.PckWalkC (gotB)
open Go.Proofs.Ytkimeggojcgacaa.PckWalkE (upV textV truth)

/-- A letter's cells, its slice of entries aside. -/
def boxC (h : Hd) (v : Value) : List Value := [.int .i64 h.k, .int .i64 h.f, .int .i64 h.t, .int .u64 h.tm, .int .u64 h.ix, .int .u64 h.pv, .int .u64 h.cm, .bool h.ok, v, .string h.d]
def zcs : List Value := ltCs zeroL
structure Dk (T : TypeId) (w W : World) (q p : Nat) (h : Hd) (v : Value) (l : List Ent) (r : Rd) : Prop where
  res : W.heap[w.heap.size]? = some (.cells zcs.toArray 25 (0, 0))
  rd : RV T W q r.s r.bad
  box : W.heap[p]? = some (.cells (boxC h v).toArray 25 (0, 0))
  own : W.ownsRow (p + 1) 47 4 v l.length (ecells l)
  lq : w.heap.size < q
  qp : q < p
  bel : Below w.heap.size w W
section
variable {T : TypeId} {w W W' : World} {q p : Nat} {h h' : Hd} {v : Value} {l : List Ent} {r r' : Rd}
theorem Dk.lt (d : Dk T w W q p h v l r) : p < W.heap.size := lt_at d.box
theorem Dk.at_ (d : Dk T w W q p h v l r) (i : Nat) {u : Value} (hi : (boxC h v)[i]? = some u) : W.cell? ⟨p, i, none⟩ = some u := by rw [cell_at d.box]; simpa using hi
theorem Dk.free (d : Dk T w W q p h v l r) (i : Nat) : W.frozen? ⟨p, i, none⟩ = false := free_at d.box i
theorem own_keep {S : Nat → Prop} {B n : Nat} {xs : List Value} (k : State.Only S W W') (hv : W.ownsRow B 47 4 v n xs) (hs : ∀ g, v.ownBlock = some g → ¬ S g) : W'.ownsRow B 47 4 v n xs := by
  refine ⟨hv.1, ?_⟩
  rcases hv.2 with hn | ⟨g, cap, cur, rfl, h1, hgg, hrest⟩
  · exact .inl hn
  · exact .inr ⟨g, cap, cur, rfl, h1, (k.block g (lt_at hgg) (hs g rfl)).trans hgg, hrest⟩
/-- A call on the reader. -/
theorem Dk.ran (d : Dk T w W q p h v l r) (hr : RV T W' q r'.s r'.bad) (k : State.Only (· = q) W W') : Dk T w W' q p h v l r' := by
  have lq := d.lq
  have qp := d.qp
  refine ⟨(k.block _ (lt_at d.res) (by omega)).trans d.res, hr, (k.block _ (lt_at d.box) (by omega)).trans d.box, own_keep k d.own fun g hg => ?_, lq, qp, d.bel.trans (k.below d.bel.size fun i hi => by rw [hi]; omega)⟩
  have := (d.own.lt g hg).1
  omega
theorem Dk.rds (d : Dk T w W q p h v l r) : Rds T w W q r := ⟨d.rd, Nat.le_of_lt d.lq, d.bel⟩
/-- What only makes memory. -/
theorem Dk.below (d : Dk T w W q p h v l r) (k : Below W.heap.size W W') : Dk T w W' q p h v l r :=
  ⟨(k.block _ (lt_at d.res)).trans d.res, d.rd.below k, (k.block _ (lt_at d.box)).trans d.box, own_keep (State.Only.of_below k) d.own (fun _ _ e => e), d.lq, d.qp, d.bel.trans (k.mono d.bel.size)⟩
theorem Dk.drew (d : Dk T w W q p h v l r) : Dk T w W.drew q p h v l r := d.below ((Below.refl _ _).drew)
/-- A field is set, the entries' slice aside. -/
theorem Dk.set (d : Dk T w W q p h v l r) (i : Nat) (u : Value) (hi : (boxC h v).set i u = boxC h' v) : Dk T w (W.setCell ⟨p, i, none⟩ u) q p h' v l r := by
  have lq := d.lq
  have qp := d.qp
  have k : State.Only (fun g => g = p) W (W.setCell ⟨p, i, none⟩ u) := (State.Only.refl (fun g => g = p) W).setCell (a := ⟨p, i, none⟩) (.inr rfl) u
  refine ⟨(k.block _ (lt_at d.res) (by omega)).trans d.res, d.rd.keep k (by omega), ?_, own_keep k d.own fun g hg => ?_, lq, qp, d.bel.trans (k.below d.bel.size fun j hj => by rw [hj]; omega)⟩
  · rw [set_at d.box, List.setIfInBounds_toArray, hi]
  · have := (d.own.lt g hg).1
    omega
/-- The letter's own block is made. -/
theorem dk_first {w1 : World} (hres : w1.heap[w.heap.size]? = some (.cells zcs.toArray 25 (0, 0))) (hb : Below w.heap.size w w1) (hs : w.heap.size < w1.heap.size) (hr : Rds T w1 W q r) :
    Dk T w (W.alloc (.cells (boxC h (.slice none 0 0)).toArray 25)) q W.heap.size h (.slice none 0 0) [] r := by
  have hq := hr.lt
  have hl := hr.low
  have k : Below W.heap.size W (W.alloc (.cells (boxC h (.slice none 0 0)).toArray 25)) := (Below.refl _ _).alloc (Nat.le_refl _) _
  have hres' := (hr.bel.block _ hs).trans hres
  refine ⟨(k.block _ (lt_at hres')).trans hres', hr.at_.below k, heap_alloc_new W _, World.ownsRow_nil _ _ _ _, by omega, hq, ?_⟩
  exact (hb.trans (hr.bel.mono (Nat.le_of_lt hs))).trans (k.mono (by have := hr.bel.size; omega))
/-- An entry is appended, and the new slice laid. -/
theorem Dk.rowed (d : Dk T w W q p h v l r) {w1 : World} {v1 : Value} {e : Ent} {ob : Obj} {n : Nat} {xs : List Value} (hown : w1.ownsRow (p + 1) 47 4 v1 n xs) (hn : n = l.length + 1) (hx : xs = ecells l ++ ecells [e]) (hg : (W.alloc ob).grownBy w1 v.ownBlock) :
    w1.cell? ⟨p, 8, none⟩ = some v ∧ w1.frozen? ⟨p, 8, none⟩ = false ∧ p < w1.heap.size ∧ Dk T w (w1.setCell ⟨p, 8, none⟩ v1) q p h v1 (l ++ [e]) r := by
  subst hn hx
  have lq := d.lq
  have qp := d.qp
  have hb : State.Only (fun g => v.ownBlock = some g) W w1 := ((State.Only.refl (fun g => v.ownBlock = some g) W).alloc ob).grown hg fun g hg => .inr hg
  have hrow : ∀ g, v.ownBlock = some g → p < g := fun g hg => by have := (d.own.lt g hg).1; omega
  have hbox := (hb.block _ (lt_at d.box) (fun e => by have := hrow _ e; omega)).trans d.box
  have hset : State.Only (fun g => g = p) w1 (w1.setCell ⟨p, 8, none⟩ v1) := (State.Only.refl (fun g => g = p) w1).setCell (a := ⟨p, 8, none⟩) (.inr rfl) v1
  have hall : State.Only (fun g => g = p ∨ v.ownBlock = some g) W (w1.setCell ⟨p, 8, none⟩ v1) := (hb.mono fun g _ hg => .inr hg).trans (hset.mono fun g _ hg => .inl hg)
  refine ⟨by rw [cell_at hbox]; rfl, free_at hbox 8, lt_at hbox, ?_, d.rd.keep hall ?_, ?_, ?_, lq, qp, d.bel.trans (hall.below d.bel.size ?_)⟩
  · refine (hall.block _ (lt_at d.res) ?_).trans d.res
    rintro (e | e)
    · omega
    · have := hrow _ e; omega
  · rintro (e | e)
    · omega
    · have := hrow _ e; omega
  · rw [set_at hbox]; rfl
  · have := own_keep hset hown fun g hg => by have := (hown.lt g hg).1; omega
    simpa [ecells_append] using this
  · rintro g (e | e)
    · omega
    · have := hrow _ e; omega
end
section
variable {w W : World} {q p : Nat} {h : Hd} {v : Value} {l : List Ent} {r r' : Rd}
/-- The program's reader is called. -/
theorem dkp_num {g : Nat} (d : Dk 67 w W q p h v l r) (hs : r.s.size ≤ 281474976710656) (hg : Hid (gotB r.s = g)) (hr : Hid (r.num = r')) :
    Calls Try.prog 26 #[.pointer (some ⟨q, 0, none⟩)] W fun e W' => e = .returned (.int .u64 (g : Int)) ∧ Dk 67 w W' q p h v l r' :=
  (rp_num d.rds hs hg hr).mono fun _ _ k => ⟨k.1, d.ran k.2.1.at_ k.2.2⟩
theorem dkp_up {n : Nat} (k : Int) (d : Dk 67 w W q p h v l r) (hs : r.s.size ≤ 281474976710656) (hk : k ≤ 9223372036854775807) (hn : Hid (upV r.s k = n)) (hr : Hid (r.up k = r')) :
    Calls Try.prog 25 #[.pointer (some ⟨q, 0, none⟩), .int .i64 k] W fun e W' => e = .returned (.int .i64 (n : Int)) ∧ Dk 67 w W' q p h v l r' :=
  (rp_up k d.rds hs hk hn hr).mono fun _ _ k => ⟨k.1, d.ran k.2.1.at_ k.2.2⟩
theorem dkp_bool {b : Bool} (d : Dk 67 w W q p h v l r) (hs : r.s.size ≤ 281474976710656) (hn : Hid (truth r.s = b)) (hr : Hid (r.up 1 = r')) :
    Calls Try.prog 27 #[.pointer (some ⟨q, 0, none⟩)] W fun e W' => e = .returned (.bool b) ∧ Dk 67 w W' q p h v l r' :=
  (rp_bool d.rds hs hn hr).mono fun _ _ k => ⟨k.1, d.ran k.2.1.at_ k.2.2⟩
theorem dkp_text {x : ByteArray} (k : Int) (d : Dk 67 w W q p h v l r) (hs : r.s.size ≤ 281474976710656) (hk : k ≤ 9223372036854775807) (hx : Hid (textV r.s k = x)) (hr : Hid (r.text k = r')) :
    Calls Try.prog 29 #[.pointer (some ⟨q, 0, none⟩), .int .i64 k] W fun e W' => e = .returned (.string x) ∧ Dk 67 w W' q p h v l r' :=
  (rp_text k d.rds hs hk hx hr).mono fun _ _ k => ⟨k.1, d.ran k.2.1.at_ k.2.2⟩
theorem dkp_done {b : Bool} (d : Dk 67 w W q p h v l r) (hb : Hid (r.done = b)) :
    Calls Try.prog 30 #[.pointer (some ⟨q, 0, none⟩)] W fun e W' => e = .returned (.bool b) ∧ Dk 67 w W' q p h v l r :=
  (rp_done d.rds hb).mono fun _ _ k => ⟨k.1, d.ran k.2.1.at_ k.2.2⟩
/-- The document's is. -/
theorem dkm_num {g : Nat} (d : Dk 63 w W q p h v l r) (hs : r.s.size ≤ 281474976710656) (hg : Hid (gotB r.s = g)) (hr : Hid (r.num = r')) :
    Calls Try.prog 32 #[.pointer (some ⟨q, 0, none⟩)] W fun e W' => e = .returned (.int .u64 (g : Int)) ∧ Dk 63 w W' q p h v l r' :=
  (rm_num d.rds hs hg hr).mono fun _ _ k => ⟨k.1, d.ran k.2.1.at_ k.2.2⟩
theorem dkm_up {n : Nat} (k : Int) (d : Dk 63 w W q p h v l r) (hs : r.s.size ≤ 281474976710656) (hk : k ≤ 9223372036854775807) (hn : Hid (upV r.s k = n)) (hr : Hid (r.up k = r')) :
    Calls Try.prog 31 #[.pointer (some ⟨q, 0, none⟩), .int .i64 k] W fun e W' => e = .returned (.int .i64 (n : Int)) ∧ Dk 63 w W' q p h v l r' :=
  (rm_up k d.rds hs hk hn hr).mono fun _ _ k => ⟨k.1, d.ran k.2.1.at_ k.2.2⟩
theorem dkm_text {x : ByteArray} (k : Int) (d : Dk 63 w W q p h v l r) (hs : r.s.size ≤ 281474976710656) (hk : k ≤ 9223372036854775807) (hx : Hid (textV r.s k = x)) (hr : Hid (r.text k = r')) :
    Calls Try.prog 33 #[.pointer (some ⟨q, 0, none⟩), .int .i64 k] W fun e W' => e = .returned (.string x) ∧ Dk 63 w W' q p h v l r' :=
  (rm_text k d.rds hs hk hx hr).mono fun _ _ k => ⟨k.1, d.ran k.2.1.at_ k.2.2⟩
end

/-! ### The results -/
theorem results_ct {P : Program} {fn : Func} {p u : Tmp} {ty : TypeId} (h : fn.results = #[.cell p ty, .tmp u]) (tmps : Array Value) (w : World) (g : Nat) (t : TypeId) (cs : Array Value) (fr : Nat × Nat) (d : TypeDesc)
    (hp : tmps.getD p undef = .pointer (some ⟨g, 0, none⟩)) (hg : w.heap[g]? = some (.cells cs t fr))
    (hu : P.underlying ty = some d) (hd : (match d with | .struct _ | .array _ _ => true | _ => false) = true) (hi : (P.info? ty).map (·.size) = some cs.size) :
    (results fn tmps).run P w = .ok (.tuple #[.agg cs, tmps.getD u undef]) w := by
  have hp' : tmps[p]?.getD undef = .pointer (some ⟨g, 0, none⟩) := by simpa using hp
  simp [results, h, hp', asAddr, Result.andThen, run_loadVar_row w g t ty cs fr d hg hu hd hi]
theorem put_at {w : World} {g : Nat} {L : List Value} {t : TypeId} (i : Nat) (u : Value) (k : w.heap[g]? = some (.cells L.toArray t (0, 0))) : (w.setCell ⟨g, i, none⟩ u).heap[g]? = some (.cells (L.set i u).toArray t (0, 0)) := by rw [set_at k, List.setIfInBounds_toArray]
/-- A block of ten cells, all set. -/
theorem set10 {w : World} {g : Nat} {a0 a1 a2 a3 a4 a5 a6 a7 a8 a9 : Value} {t : TypeId} (h : w.heap[g]? = some (.cells #[a0, a1, a2, a3, a4, a5, a6, a7, a8, a9] t (0, 0))) (b0 b1 b2 b3 b4 b5 b6 b7 b8 b9 : Value) :
    ((((((((((w.setCell ⟨g, 0, none⟩ b0).setCell ⟨g, 1, none⟩ b1).setCell ⟨g, 2, none⟩ b2).setCell ⟨g, 3, none⟩ b3).setCell ⟨g, 4, none⟩ b4).setCell ⟨g, 5, none⟩ b5).setCell ⟨g, 6, none⟩ b6).setCell ⟨g, 7, none⟩ b7).setCell ⟨g, 8, none⟩ b8).setCell ⟨g, 9, none⟩ b9).heap[g]? = some (.cells #[b0, b1, b2, b3, b4, b5, b6, b7, b8, b9] t (0, 0)) := by
  have st {w' : World} {L : List Value} (i : Nat) (u : Value) (k : w'.heap[g]? = some (.cells L.toArray t (0, 0))) : (w'.setCell ⟨g, i, none⟩ u).heap[g]? = some (.cells (L.set i u).toArray t (0, 0)) := by rw [set_at k, List.setIfInBounds_toArray]
  exact st 9 b9 (st 8 b8 (st 7 b7 (st 6 b6 (st 5 b5 (st 4 b4 (st 3 b3 (st 2 b2 (st 1 b1 (st 0 b0 (L := [a0, a1, a2, a3, a4, a5, a6, a7, a8, a9]) h)))))))))
theorem only10 (w : World) (g : Nat) (b0 b1 b2 b3 b4 b5 b6 b7 b8 b9 : Value) :
    State.Only (fun k => k = g) w ((((((((((w.setCell ⟨g, 0, none⟩ b0).setCell ⟨g, 1, none⟩ b1).setCell ⟨g, 2, none⟩ b2).setCell ⟨g, 3, none⟩ b3).setCell ⟨g, 4, none⟩ b4).setCell ⟨g, 5, none⟩ b5).setCell ⟨g, 6, none⟩ b6).setCell ⟨g, 7, none⟩ b7).setCell ⟨g, 8, none⟩ b8).setCell ⟨g, 9, none⟩ b9) := by
  have h (a : Nat) {w' : World} (k : State.Only (fun k => k = g) w w') (u : Value) : State.Only (fun k => k = g) w (w'.setCell ⟨g, a, none⟩ u) := k.setCell (a := ⟨g, a, none⟩) (.inr rfl) u
  exact h 9 (h 8 (h 7 (h 6 (h 5 (h 4 (h 3 (h 2 (h 1 (h 0 (State.Only.refl _ w) b0) b1) b2) b3) b4) b5) b6) b7) b8) b9
/-- What is answered is laid. -/
theorem Dk.ends {T : TypeId} {w W : World} {q p : Nat} {h : Hd} {v : Value} {l : List Ent} {r : Rd} (d : Dk T w W q p h v l r) (b0 b1 b2 b3 b4 b5 b6 b7 b8 b9 : Value) :
    ∃ W', ((((((((((W.setCell ⟨w.heap.size, 0, none⟩ b0).setCell ⟨w.heap.size, 1, none⟩ b1).setCell ⟨w.heap.size, 2, none⟩ b2).setCell ⟨w.heap.size, 3, none⟩ b3).setCell ⟨w.heap.size, 4, none⟩ b4).setCell ⟨w.heap.size, 5, none⟩ b5).setCell ⟨w.heap.size, 6, none⟩ b6).setCell ⟨w.heap.size, 7, none⟩ b7).setCell ⟨w.heap.size, 8, none⟩ b8).setCell ⟨w.heap.size, 9, none⟩ b9) = W' ∧
      W'.heap[w.heap.size]? = some (.cells #[b0, b1, b2, b3, b4, b5, b6, b7, b8, b9] 25 (0, 0)) ∧ Below w.heap.size w W' ∧ ∃ A c, v = .slice A l.length c ∧ RE W' W'.heap.size A l.length l := by
  have lq := d.lq
  have qp := d.qp
  have h10 := set10 d.res b0 b1 b2 b3 b4 b5 b6 b7 b8 b9
  have k := only10 W w.heap.size b0 b1 b2 b3 b4 b5 b6 b7 b8 b9
  have ho := own_keep k d.own fun g hg => by have := (d.own.lt g hg).1; omega
  obtain ⟨A, c, rfl, _, _, hr⟩ := own_form ho
  exact ⟨_, rfl, h10, d.bel.trans (k.below d.bel.size fun j hj => by omega), A, c, rfl, hr⟩

/-- What Decode answers. -/
def Dec (s : ByteArray) (w : World) (e : Ending) (w' : World) : Prop := ∃ (x : Lt) (z : Int), e = .returned (.tuple #[ltV x, .int .i64 z]) ∧ LAt w' x ∧ Below w.heap.size w w' ∧ ((GoodL s ∧ z = 0 ∧ x.said = (hd s, es s)) ∨ (¬ GoodL s ∧ z = 2 ∧ x = zeroL))
/-- What Decode reads, by names. -/
structure Named (s : ByteArray) (r1 r2 r3 r4 r5 r6 r7 r8 r9 : Rd) (k f t tm ix pv cm : Nat) (ok : Bool) (n : Nat) : Prop where
  xr1 : Hid ((q0 s).up 9 = r1)
  xr2 : Hid (r1.up 255 = r2)
  xr3 : Hid (r2.up 255 = r3)
  xr4 : Hid (r3.num = r4)
  xr5 : Hid (r4.num = r5)
  xr6 : Hid (r5.num = r6)
  xr7 : Hid (r6.num = r7)
  xr8 : Hid (r7.up 1 = r8)
  xr9 : Hid (r8.up 8 = r9)
  xk : Hid (upV (q0 s).s 9 = k)
  xf : Hid (upV r1.s 255 = f)
  xt : Hid (upV r2.s 255 = t)
  xtm : Hid (gotB r3.s = tm)
  xix : Hid (gotB r4.s = ix)
  xpv : Hid (gotB r5.s = pv)
  xcm : Hid (gotB r6.s = cm)
  xok : Hid (truth r7.s = ok)
  xn : Hid (upV r8.s 8 = n)
  n8 : n ≤ 8
  s1 : r1.s.size ≤ s.size
  s2 : r2.s.size ≤ s.size
  s3 : r3.s.size ≤ s.size
  s4 : r4.s.size ≤ s.size
  s5 : r5.s.size ≤ s.size
  s6 : r6.s.size ≤ s.size
  s7 : r7.s.size ≤ s.size
  s8 : r8.s.size ≤ s.size
  s9 : r9.s.size ≤ s.size
  hq9 : q9 s = r9
  hcnt : cnt s = n
  hhd : hd s = ⟨(k : Nat), (f : Nat), (t : Nat), (tm : Nat), (ix : Nat), (pv : Nat), (cm : Nat), ok, textV (qA s).s 65536⟩
theorem named (s : ByteArray) : ∃ r1 r2 r3 r4 r5 r6 r7 r8 r9 k f t tm ix pv cm ok n, Named s r1 r2 r3 r4 r5 r6 r7 r8 r9 k f t tm ix pv cm ok n := by
  obtain ⟨a1, a2, a3, a4, a5, a6, a7, a8, a9, _⟩ := q_le s
  have h8 : ((cnt s : Nat) : Int) ≤ 8 := upV_nat (q8 s).s (k := 8) (by decide)
  exact ⟨q1 s, q2 s, q3 s, q4 s, q5 s, q6 s, q7 s, q8 s, q9 s, _, _, _, _, _, _, _, _, _, rfl, rfl, rfl, rfl, rfl, rfl, rfl, rfl, rfl, rfl, rfl, rfl, rfl, rfl, rfl, rfl, rfl, rfl, Int.ofNat_le.1 h8, a1, a2, a3, a4, a5, a6, a7, a8, a9, rfl, rfl, rfl⟩

end Go.Proofs.Ytkimeggojcgacaa.Dk
