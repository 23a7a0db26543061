/- While the document's Apply goes on: the box of the reply. No statement is proved here. -/
import Derived.Test.YthaepkpmpnofgaaGreatGN
import Derived.Deep.RegionLaw
import Derived.Test.YthaepkpmpnofgaaGreatHMatD
import Derived.Test.YthaepkpmpnofgaaGreatHAppI
import Derived.Deep.Cut
import Derived.Test.YthaepkpmpnofgaaGreatGR
import Derived.Test.YthaepkpmpnofgaaGreatHCmdAt
import Derived.Test.YthaepkpmpnofgaaGreatHCmnWalkE
import Derived.Test.YthaepkpmpnofgaaGreatHSgaWalkS
set_option linter.unusedVariables false
namespace Go.Proofs.YthaepkpmpnofgaaGreat.AppG
open Go.RowKit Go.Proofs.YthaepkpmpnofgaaGreat.Kit

theorem infoG : (Tryz.prog.info? 49).map (fun i => (i.zero, i.size, i.bytes)) = some (some (.agg #[.slice none 0 0, .int .i64 0, .int .i64 0, .int .i64 0]), 4, 48) := by kernel_rfl
section
variable {B n m c : Nat} {A : Option Addr} {v : Value} {xs news : List Value}
theorem run_app (w : World) (base : Nat) (hown : w.ownsRow base 49 4 v n xs) (hr : Reads w B 4 A m news) (h1 : ∀ u ∈ news, u.oneCell' = true) (hb : (n + m) * 48 ≤ 140737488355328) (hbase : base ≤ w.heap.size) (ty : TypeId) :
    ∃ A' c' w', (Builtin.append_ #[57, 57] ty #[v, .slice A m c]).run Tryz.prog w = .ok (.slice A' (n + m) c') w' ∧ w'.ownsRow base 49 4 (.slice A' (n + m) c') (n + m) (xs ++ news) ∧ w.grownBy w' v.ownBlock ∧
      ((Value.slice A' (n + m) c').ownBlock = v.ownBlock ∨ (Value.slice A' (n + m) c').ownBlock = some w.heap.size) := by
  obtain ⟨i0, hi0, hz0, hz1, hz2⟩ := info_parts infoG
  obtain ⟨v', w', hrun, h2, h3, h4⟩ := run_append_any (P := Tryz.prog) w base 57 ty 49 i0 _ 4 48 Tryz.underlying57 hi0 hz0 hz1 hz2 rfl (by decide) v n xs hown B A m c news hr h1 (by unfold maxLen; omega) hb hbase
  obtain ⟨A', c', rfl, _, _, _⟩ := own_form h2
  exact ⟨A', c', w', hrun, h2, h3, h4⟩
theorem wp_app {o : Oper} {a : Act} {K : Act → World → Prop} {Q : Exit → Act → World → Prop} (w : World) (s x : Operand) 
    (ho : o.op = .call { callee := .builtin .append, args := #[s, x], argTypes := #[57, 57] })
    (base : Nat) (hs : a.eval s = v) (hown : w.ownsRow base 49 4 v n xs) (hx : a.eval x = .slice A m c) (hr : Reads w B 4 A m news) (h1 : ∀ u ∈ news, u.oneCell' = true) (hb : (n + m) * 48 ≤ 140737488355328) (hbase : base ≤ w.heap.size)
    (h : ∀ A' c' w', w'.ownsRow base 49 4 (.slice A' (n + m) c') (n + m) (xs ++ news) → w.grownBy w' v.ownBlock →
      ((Value.slice A' (n + m) c').ownBlock = v.ownBlock ∨ (Value.slice A' (n + m) c').ownBlock = some w.heap.size) → K (a.put o.dst (.slice A' (n + m) c')) w') : o.wp Tryz.prog a w K Q := by
  obtain ⟨A', c', w', hrun, h2, h3, h4⟩ := run_app (c := c) w base hown hr h1 hb hbase o.type
  unfold Oper.wp execOp
  simp only [ho, resolve, invoke, builtin, Sem.run_bind, Sem.run_pure, Result.andThen_ok, List.map_toArray, List.map_cons, List.map_nil, hs, hx, hrun]
  exact h A' c' w' h2 h3 h4
theorem wpList_app {ops : Array Oper} {rest : List Oper} {o : Oper} {a : Act} {Q : Exit → Act → World → Prop} (w : World) (hgd : o.guard = none) (s x : Operand) 
    (ho : o.op = .call { callee := .builtin .append, args := #[s, x], argTypes := #[57, 57] })
    (base : Nat) (hs : a.eval s = v) (hown : w.ownsRow base 49 4 v n xs) (hx : a.eval x = .slice A m c) (hr : Reads w B 4 A m news) (h1 : ∀ u ∈ news, u.oneCell' = true) (hb : (n + m) * 48 ≤ 140737488355328) (hbase : base ≤ w.heap.size)
    (h : ∀ A' c' w', w'.ownsRow base 49 4 (.slice A' (n + m) c') (n + m) (xs ++ news) → w.grownBy w' v.ownBlock →
      ((Value.slice A' (n + m) c').ownBlock = v.ownBlock ∨ (Value.slice A' (n + m) c').ownBlock = some w.heap.size) → wpList Tryz.prog ops Q rest (a.put o.dst (.slice A' (n + m) c')) w') : wpList Tryz.prog ops Q (o :: rest) a w :=
  wpList_plain hgd fun _ hK => wp_app w s x ho base hs hown hx hr h1 hb hbase fun A' c' w' h2 h3 h4 => hK _ _ (h A' c' w' h2 h3 h4)
theorem step_app {ops : Array Oper} {o : Oper} {a : Act} {K : Act → World → Prop} {Q : Exit → Act → World → Prop} {E : Prop} (w : World) (hgd : o.guard = none) (s x : Operand) 
    (ho : o.op = .call { callee := .builtin .append, args := #[s, x], argTypes := #[57, 57] })
    (base : Nat) (hs : a.eval s = v) (hown : w.ownsRow base 49 4 v n xs) (hx : a.eval x = .slice A m c) (hr : Reads w B 4 A m news) (h1 : ∀ u ∈ news, u.oneCell' = true) (hb : (n + m) * 48 ≤ 140737488355328) (hbase : base ≤ w.heap.size)
    (h : ∀ A' c' w', w'.ownsRow base 49 4 (.slice A' (n + m) c') (n + m) (xs ++ news) → w.grownBy w' v.ownBlock →
      ((Value.slice A' (n + m) c').ownBlock = v.ownBlock ∨ (Value.slice A' (n + m) c').ownBlock = some w.heap.size) → K (a.put o.dst (.slice A' (n + m) c')) w') :
    if Region.wanted o (yielded ops a.tmps) = true then Oper.wp Tryz.prog o a w K Q else E := by
  have hw : Region.wanted o (yielded ops a.tmps) = true := by simp [Region.wanted, hgd]
  rw [if_pos hw]
  exact wp_app w s x ho base hs hown hx hr h1 hb hbase h
end
end Go.Proofs.YthaepkpmpnofgaaGreat.AppG
set_option linter.unusedVariables false
set_option linter.unusedSimpArgs false
namespace Go.Proofs.YthaepkpmpnofgaaGreat.PutD
open Go.RowKit Go.Proofs.YthaepkpmpnofgaaGreat.Kit Go.Proofs.YthaepkpmpnofgaaGreat.Blocks Go.Proofs.YthaepkpmpnofgaaGreat.Ses Go.Proofs.YthaepkpmpnofgaaGreat.Rws Go.Proofs.YthaepkpmpnofgaaGreat.Boxs Go.Proofs.YthaepkpmpnofgaaGreat.Mch Go.Proofs.YthaepkpmpnofgaaGreat.MatD
open Go.Proofs.YthaepkpmpnofgaaGreat.Sag (Sg)
open Go.Proofs.YthaepkpmpnofgaaGreat.SagAt (At Box4 sgV)
open Go.Proofs.YthaepkpmpnofgaaGreat.RdT (only_s only_b)

/-- Where a new one is put. -/
theorem putS_split (l : List (Nat × Sg)) (id : Nat) (s : Sg) : ∃ k, k ≤ l.length ∧ (∀ (j : Nat) x, j < k → l[j]? = some x → x.1 < id) ∧ (∀ x, l[k]? = some x → ¬ x.1 < id) ∧ putS l id s = l.take k ++ (id, s) :: l.drop k := by
  induction l with
  | nil => exact ⟨0, by simp, fun j x hj => absurd hj (by omega), by simp, rfl⟩
  | cons a l ih =>
    by_cases ha : a.1 < id
    · obtain ⟨k, h1, h2, h3, h4⟩ := ih
      refine ⟨k + 1, by simp; omega, fun j x hj hx => ?_, fun x hx => h3 x (by simpa using hx), ?_⟩
      · cases j with
        | zero => simp at hx; subst hx; exact ha
        | succ j => exact h2 j x (by omega) (by simpa using hx)
      · unfold putS
        rw [if_pos ha, h4]
        rfl
    · refine ⟨0, by simp, fun j x hj => absurd hj (by omega), fun x hx => by simp at hx; subst hx; exact ha, ?_⟩
      unfold putS
      rw [if_neg ha]
      rfl
theorem ics_take (l : List (Nat × Sg)) (k : Nat) : ics (l.take k) = (ics l).take k := by unfold ics; rw [List.map_take]
theorem ics_drop (l : List (Nat × Sg)) (k : Nat) : ics (l.drop k) = (ics l).drop k := by unfold ics; rw [List.map_drop]
theorem ics_append (l r : List (Nat × Sg)) : ics (l ++ r) = ics l ++ ics r := by unfold ics; rw [List.map_append]
theorem take_more {α : Type} {l : List α} {k : Nat} {x : α} (h : l[k]? = some x) : l.take (k + 1) = l.take k ++ [x] := by
  obtain ⟨hk, rfl⟩ := List.getElem?_eq_some_iff.1 h
  rw [List.take_succ_eq_append_getElem hk]
/-- s[k:] of a slice of sagas. -/
def cutG (A : Option Addr) (c k : Nat) : Option Addr := if c = k then A else A.map (·.add (k * 4))
theorem RG.from_ {w : World} {B n : Nat} {A : Option Addr} {l : List Hs} (h : RG w B A n l) {k cap : Nat} (hk : k ≤ n) (hc : n ≤ cap) : RG w B (cutG A cap k) (n - k) (l.drop k) := by
  have hl := RG.len h
  refine ⟨by rw [scs_length]; simp only [List.length_drop]; omega, fun hn => ?_⟩
  obtain ⟨ad, rfl, hb, hcell⟩ := h.2 (by omega)
  unfold cutG
  rw [if_neg (by omega)]
  refine ⟨ad.add (k * 4), rfl, by rw [block_of_add]; exact hb, fun j u hu => ?_⟩
  rw [add_of_add]
  refine hcell _ u ?_
  rw [scs_drop, List.getElem?_drop] at hu
  exact hu
theorem szG (w : World) : (Go.sizeOf 49).run Tryz.prog w = .ok 4 w := by kernel_rfl
theorem szI (w : World) : (Go.sizeOf 30).run Tryz.prog w = .ok 1 w := by kernel_rfl
theorem run_fromG (A : Option Addr) (n c k : Nat) (hk : k ≤ n) (w : World) :
    (Instr.slice 57 (.slice A n c) (some (.int .i64 (k : Int))) none none).run Tryz.prog w = .ok (.slice (cutG A c k) (n - k) (c - k)) w := by
  have ht' : Tryz.prog.underlying 57 = some (.slice (Tryz.prog.elem 57)) := by simp [Program.elem, Tryz.underlying57]
  have he : Tryz.prog.elem 57 = 49 := by simp [Program.elem, Tryz.underlying57]
  rw [run_slice_l w 57 _ _ _ ht' .i64 _ (by omega) (by omega), he, szG]
  simp [Result.andThen, sliced, cutG]
/-- The sagas and numbers gathered so far. -/
structure Two (B : Nat) (w1 wr : World) (vi vs : Value) (l : List (Nat × Sg)) (hs : List Hs) : Prop where
  ids : wr.ownsRow B 30 1 vi l.length (ics l)
  sgs : wr.ownsRow B 49 4 vs hs.length (scs hs)
  apart : ∀ g, vi.ownBlock = some g → vs.ownBlock ≠ some g
  bel : Below B w1 wr
  base : B ≤ wr.heap.size
section
variable {B : Nat} {w1 wr w' : World} {vi vs v' : Value} {l : List (Nat × Sg)} {hs : List Hs}
theorem Two.alloc (h : Two B w1 wr vi vs l hs) (o : Obj) : Two B w1 (wr.alloc o) vi vs l hs := by
  have k : Only (fun _ => False) wr (wr.alloc o) := Only.of_below ((Below.refl _ _).alloc (Nat.le_refl _) o)
  exact ⟨k.own h.ids (by simp), k.own h.sgs (by simp), h.apart, h.bel.alloc h.base _, Nat.le_trans h.base k.size⟩
/-- Numbers are appended. -/
theorem Two.put1 (h : Two B w1 wr vi vs l hs) {n : Nat} {xs : List Value} {r : List (Nat × Sg)} (hown : w'.ownsRow B 30 1 v' n xs) (hn : n = l.length + r.length) (hx : xs = ics l ++ ics r) (hg : wr.grownBy w' vi.ownBlock) (ha : v'.ownBlock = vi.ownBlock ∨ v'.ownBlock = some wr.heap.size) :
    Two B w1 w' v' vs (l ++ r) hs := by
  subst hn hx
  have k : Only (fun g => vi.ownBlock = some g) wr w' := (Only.refl _ wr).grown hg fun g e => .inr e
  refine ⟨by rw [List.length_append, ics_append]; exact hown, k.own h.sgs fun g hg e => h.apart g e hg, fun g hg e => ?_, h.bel.trans (k.below h.base fun g hg => (h.ids.lt g hg).1), Nat.le_trans h.base k.size⟩
  rcases ha with e1 | e1
  · exact h.apart g (e1 ▸ hg) e
  · rw [e1] at hg
    cases hg
    have := (h.sgs.lt _ e).2
    omega
/-- Sagas are appended. -/
theorem Two.put2 (h : Two B w1 wr vi vs l hs) {n : Nat} {xs : List Value} {r : List Hs} (hown : w'.ownsRow B 49 4 v' n xs) (hn : n = hs.length + r.length) (hx : xs = scs hs ++ scs r) (hg : wr.grownBy w' vs.ownBlock) (ha : v'.ownBlock = vs.ownBlock ∨ v'.ownBlock = some wr.heap.size) :
    Two B w1 w' vi v' l (hs ++ r) := by
  subst hn hx
  have k : Only (fun g => vs.ownBlock = some g) wr w' := (Only.refl _ wr).grown hg fun g e => .inr e
  refine ⟨k.own h.ids fun g hg e => h.apart g hg e, by rw [List.length_append, scs_append]; exact hown, fun g hg e => ?_, h.bel.trans (k.below h.base fun g hg => (h.sgs.lt g hg).1), Nat.le_trans h.base k.size⟩
  rcases ha with e1 | e1
  · exact h.apart g hg (e1 ▸ e)
  · rw [e1] at e
    cases e
    have := (h.ids.lt _ hg).2
    omega
theorem Two.iform (h : Two B w1 wr vi vs l hs) : ∃ A c, vi = .slice A l.length c := by
  obtain ⟨A, c, hv, _⟩ := own_form h.ids
  exact ⟨A, c, hv⟩
theorem Two.sform (h : Two B w1 wr vi vs l hs) : ∃ A c, vs = .slice A hs.length c := by
  obtain ⟨A, c, hv, _⟩ := own_form h.sgs
  exact ⟨A, c, hv⟩
end
theorem two_nil (w : World) : Two w.heap.size w w (.slice none 0 0) (.slice none 0 0) [] [] :=
  ⟨World.ownsRow_nil _ _ _ _, World.ownsRow_nil _ _ _ _, by simp [Value.ownBlock], Below.refl _ _, Nat.le_refl _⟩
/-- What put leaves. -/
def Put (B : Nat) (w : World) (p : Nat) (vR vI vS : Value) (m : Mc) (hs : List Hs) (id : Nat) (h : Hs) (w' : World) : Prop :=
  ∃ vI' vS' hs', MD B w' p vR vI' vS' ⟨m.t, putS m.l id h.s⟩ hs' ∧ Only (fun g => g = p) w w' ∧ (∀ g, vI'.ownBlock = some g → w.heap.size ≤ g) ∧ (∀ g, vS'.ownBlock = some g → w.heap.size ≤ g) ∧ (∀ x ∈ hs', x = h ∨ x ∈ hs)
/-- Both rows are laid, the numbers' is written into the machine; then the sagas' is. -/
theorem put_end {B B1 : Nat} {w wr : World} {p : Nat} {vR vI vS vi vs : Value} {m : Mc} {hs : List Hs} {id : Nat} {x : Hs} {k : Nat} (h : MD B w p vR vI vS m hs)
    (hO : Only (fun g => g = p) w wr) (hB1 : w.heap.size ≤ B1) (hpc : wr.heap[p]? = some (.cells (Value.int .u64 (m.t.now : Int) :: .int .u64 (m.t.next : Int) :: vR :: vi :: vS :: []).toArray 59 (0, 0)))
    (h2 : wr.ownsRow B1 30 1 vi (m.l.take k ++ (id, x.s) :: m.l.drop k).length (ics (m.l.take k ++ (id, x.s) :: m.l.drop k))) (h3 : wr.ownsRow B1 49 4 vs (hs.take k ++ x :: hs.drop k).length (scs (hs.take k ++ x :: hs.drop k)))
    (hap : ∀ g, vi.ownBlock = some g → vs.ownBlock ≠ some g) (hk : putS m.l id x.s = m.l.take k ++ (id, x.s) :: m.l.drop k)
    (hx : At w x.A x.s.l) (hxo : 0 < x.s.l.length → ∀ ad, x.A = some ad → ¬ Own p vR vI vS ad.block) :
    Put B w p vR vI vS m hs id x (wr.setCell ⟨p, 4, none⟩ vs) := by
  have hp := h.plt
  have hset : Only (fun g => g = p) wr (wr.setCell ⟨p, 4, none⟩ vs) := (Only.refl (fun g => g = p) wr).setCell (a := ⟨p, 4, none⟩) (.inr rfl) _
  have hall : Only (fun g => g = p) w (wr.setCell ⟨p, 4, none⟩ vs) := hO.trans hset
  have hfi : ∀ g, vi.ownBlock = some g → w.heap.size ≤ g := fun g hg => Nat.le_trans hB1 (h2.lt g hg).1
  have hfs : ∀ g, vs.ownBlock = some g → w.heap.size ≤ g := fun g hg => Nat.le_trans hB1 (h3.lt g hg).1
  have hR : ∀ g, vR.ownBlock = some g → g < w.heap.size := fun g hg => (h.own_lt (.inl (.inr hg))).2
  have hbase := h.tb.base
  refine ⟨vi, vs, hs.take k ++ x :: hs.drop k, ⟨⟨h.tb.low, ?_, hall.own h.tb.own fun g hg e => h.tb.np (e ▸ hg), h.tb.np⟩, ?_, ?_, ?_, fun e => by have := hfi _ e; omega, fun e => by have := hfs _ e; omega, fun g hg e => by have := hfi _ e; have := hR g hg; omega, fun g hg e => by have := hfs _ e; have := hR g hg; omega, hap, fun y hy => ?_⟩, hall, hfi, hfs, fun y hy => ?_⟩
  · rw [set_at hpc, List.setIfInBounds_toArray]; rfl
  · show List.map Hs.s _ = List.map Prod.snd (putS m.l id x.s)
    rw [hk, List.map_append, List.map_append, List.map_cons, List.map_cons, List.map_take, List.map_drop, List.map_take, List.map_drop, h.said]
  · show World.ownsRow _ B 30 1 vi (putS m.l id x.s).length (ics (putS m.l id x.s))
    rw [hk]
    exact own_base (hset.own h2 fun g hg e => by have := hfi g hg; omega) (by omega)
  · exact own_base (hset.own h3 fun g hg e => by have := hfs g hg; omega) (by omega)
  · have hone : ∀ z : Hs, At w z.A z.s.l → (0 < z.s.l.length → ∀ ad, z.A = some ad → ¬ Own p vR vI vS ad.block) → At (wr.setCell ⟨p, 4, none⟩ vs) z.A z.s.l ∧ (0 < z.s.l.length → ∀ ad, z.A = some ad → ¬ Own p vR vi vs ad.block) := fun z h1 h3 => by
      refine ⟨h1.only (only_s hall) fun hn ad e => ?_, fun hn ad e ho => ?_⟩
      · exact fun e2 => h3 hn ad e (.inl (.inl e2))
      · obtain ⟨ad', e1, e2, _⟩ := h1.rs.2 hn
        rw [e] at e1
        cases e1
        rcases ho with ho | ho | ho
        · exact h3 hn ad e (.inl ho)
        · have := hfi _ ho; omega
        · have := hfs _ ho; omega
    rcases List.mem_append.1 hy with hy | hy
    · have := h.steps y (List.mem_of_mem_take hy); exact hone y this.1 this.2
    · rcases List.mem_cons.1 hy with rfl | hy
      · exact hone y hx hxo
      · have := h.steps y (List.mem_of_mem_drop hy); exact hone y this.1 this.2
  · rcases List.mem_append.1 hy with hy | hy
    · exact .inr (List.mem_of_mem_take hy)
    · rcases List.mem_cons.1 hy with rfl | hy
      · exact .inl rfl
      · exact .inr (List.mem_of_mem_drop hy)
set_option maxRecDepth 100000 in
set_option maxHeartbeats 16000000 in
theorem dput_any {B : Nat} {w : World} {p : Nat} {vR vI vS : Value} {m : Mc} {hs : List Hs} (h : MD B w p vR vI vS m hs) (h16 : m.l.length ≤ 16) (id : Nat) (x : Hs) (hx : At w x.A x.s.l) (hxo : 0 < x.s.l.length → ∀ ad, x.A = some ad → ¬ Own p vR vI vS ad.block) :
    Calls Tryz.prog 35 #[.pointer (some ⟨p, 0, none⟩), .int .u64 (id : Int), sgV x.A x.c x.s] w fun e w' => e = .returned (.tuple #[]) ∧ Put B w p vR vI vS m hs id x w' := by
  obtain ⟨k, hk, hlow, hhigh, hput⟩ := putS_split m.l id x.s
  have hlen := h.len
  have c3 := h.c3
  have c4 := h.c4
  have hp := h.plt
  obtain ⟨A, c, hvI, hnc, hcm, hrI⟩ := h.idform
  obtain ⟨A', c', hvS, hnc', hcm', hrS⟩ := h.sgform
  obtain ⟨n, hn⟩ : ∃ n, m.l.length = n := ⟨_, rfl⟩
  rw [hlen] at hvS hnc' hrS
  rw [hn] at hk h16 hvI hnc hrI hvS hnc' hrS
  have H := Lib.hid h
  have HPUT := Lib.hid hput
  have HLOW := Lib.hid hlow
  have HHIGH := Lib.hid hhigh
  have HX := Lib.hid hx
  have HXO := Lib.hid hxo
  have HN := Lib.hid hn
  have HL := Lib.hid hlen
  have HRI := Lib.hid hrI
  have HRS := Lib.hid hrS
  have hbx := Box4.new w (.slice x.A x.s.l.length x.c) (.int .i64 x.s.st) (.int .i64 x.s.cu) (.int .i64 x.s.fa)
  have hb1 : Below w.heap.size w (w.alloc (.cells #[.slice x.A x.s.l.length x.c, .int .i64 x.s.st, .int .i64 x.s.cu, .int .i64 x.s.fa] 49)) := (Below.refl _ _).alloc (Nat.le_refl _) _
  obtain ⟨w1, hw1⟩ : ∃ w1, w.alloc (.cells #[.slice x.A x.s.l.length x.c, .int .i64 x.s.st, .int .i64 x.s.cu, .int .i64 x.s.fa] 49) = w1 := ⟨_, rfl⟩
  obtain ⟨G, hG⟩ : ∃ G, w.heap.size = G := ⟨_, rfl⟩
  rw [hw1] at hbx hb1
  rw [hG] at hbx
  have HW1 := Lib.hid hw1
  have HB1 := Lib.hid hb1
  have HBX := Lib.hid hbx
  have HG := Lib.hid hG
  have hp1 : p < w1.heap.size := Nat.lt_of_lt_of_le hp hb1.size
  have c31 : w1.cell? ⟨p, 3, none⟩ = some vI := (hb1.cell (p := ⟨p, 3, none⟩) hp).trans c3
  have c41 : w1.cell? ⟨p, 4, none⟩ = some vS := (hb1.cell (p := ⟨p, 4, none⟩) hp).trans c4
  have hww : w.heap.size ≤ w1.heap.size := hb1.size
  clear h hput hlow hhigh hx hxo hn hlen hrI hrS hw1 hb1 hbx c3 c4
  subst hvI hvS
  unfold SagAt.sgV
  go_enter Tryz.func35, Tryz.ntmps35
  go_upto_region 1 with fail
  rw [HW1.out]
  go_wp2
  go_loopw [6, 7, 8] (fun vi vs z wr => ∃ j : Nat, j ≤ k ∧ z = .int .i64 (j : Int) ∧ Hid (Two w1.heap.size w1 wr vi vs (m.l.take j) (hs.take j))) (fun _ _ z _ => k - (intOf z).toNat)
  case atStart => exact ⟨0, by omega, rfl, two_nil w1⟩
  case round =>
    obtain ⟨j, hj, rfl, HT⟩ := hrel
    have hb := HT.out.bel
    have y3 := (hb.cell (p := ⟨p, 3, none⟩) hp1).trans c31
    have y4 := (hb.cell (p := ⟨p, 4, none⟩) hp1).trans c41
    have hpr := Nat.lt_of_lt_of_le hp1 hb.size
    have hlj : (m.l.take j).length = j := by rw [List.length_take, HN.out]; omega
    have hsj : (hs.take j).length = j := by rw [List.length_take, HL.out, HN.out]; omega
    obtain ⟨Ai, ci, As, cs, e1, e2⟩ : ∃ Ai ci As cs, u6 = .slice Ai j ci ∧ u7 = .slice As j cs := by
      obtain ⟨Ai, ci, e1⟩ := HT.out.iform
      obtain ⟨As, cs, e2⟩ := HT.out.sform
      exact ⟨Ai, ci, As, cs, by rw [e1, hlj], by rw [e2, hsj]⟩
    subst e1 e2
    have HLJ := Lib.hid (And.intro hlj hsj)
    clear hlj hsj
    by_cases hjk : j < k
    · obtain ⟨b, o, y, hA, hbl, hy, hcell⟩ := id_at HRI.out (show j < n by omega)
      obtain ⟨b', o', e, hA', hbl', he, hf⟩ := RG.at_ HRS.out (show j < n by omega)
      have hlt : (y.1 : Int) < (id : Int) := by have := HLOW.out j y hjk hy; omega
      have hbw : b < w1.heap.size := Nat.lt_of_lt_of_le hbl hww
      have hbw' : b' < w1.heap.size := Nat.lt_of_lt_of_le hbl' hww
      have yc := (hb.cell (p := ⟨b, o + j, none⟩) hbw).trans ((HB1.out.cell (p := ⟨b, o + j, none⟩) hbl).trans hcell)
      have hf1 := (hf.below HB1.out hbl')
      have hbr := Nat.lt_of_lt_of_le hbw hb.size
      have hjn : (j : Int) < (n : Int) := by omega
      have hj0 : (0 : Int) ≤ (j : Int) := by omega
      have HY := Lib.hid hy
      have HE := Lib.hid he
      have HF := Lib.hid hf1
      have HJ := Lib.hid hjk
      have HOWI : Hid (∀ ob, (wr.alloc ob).ownsRow w1.heap.size 30 1 (.slice Ai j ci) j (ics (m.l.take j))) := fun ob => by
        have := (HT.out.alloc ob).ids
        rwa [HLJ.out.1] at this
      have HNI : Hid (Reads (wr.alloc (.cells #[.int .u64 (y.1 : Int)] 30)) (wr.heap.size + 1) 1 (some ⟨wr.heap.size, 0, none⟩) 1 [.int .u64 (y.1 : Int)]) := reads_one wr _ _
      have HBS : Hid (∀ ob, w1.heap.size ≤ (wr.alloc ob).heap.size) := fun ob => (HT.out.alloc ob).base
      have hroom : (j + 1) * 8 ≤ 140737488355328 := by omega
      have hroom' : (j + 1) * 48 ≤ 140737488355328 := by omega
      clear hcell hf hy he hf1 hjk
      subst hA hA'
      go_upto_region 6 with (first
        | (at_builtin
           refine AppI.wpList_app _ rfl (.tmp 27) (.tmp 35) rfl _ rfl (HOWI.out _) rfl HNI.out (by simp [Value.oneCell']) hroom (HBS.out _) ?_
           intro A2 c2 w7 hown7 hg7 ha7
           have T7 := Lib.hid ((HT.out.alloc _).put1 (r := [y]) hown7 (by rw [HLJ.out.1]; rfl) rfl hg7 ha7)
           clear hown7 hg7 ha7))
      clear y3 y4 hpr yc hbr hb
      have hb := T7.out.bel
      have y3 := (hb.cell (p := ⟨p, 3, none⟩) hp1).trans c31
      have y4 := (hb.cell (p := ⟨p, 4, none⟩) hp1).trans c41
      have hpr := Nat.lt_of_lt_of_le hp1 hb.size
      have hf7 := HF.out.below hb hbw'
      obtain ⟨f0, f1, f2, f3⟩ : _ ∧ _ ∧ _ ∧ _ := ⟨hf7.c0, hf7.c1, hf7.c2, hf7.c3⟩
      have hbr' := Nat.lt_of_lt_of_le hbw' hb.size
      clear hf7
      have HOWG : Hid (∀ ob, (w7.alloc ob).ownsRow w1.heap.size 49 4 (.slice As j cs) j (scs (hs.take j))) := fun ob => by
        have := (T7.out.alloc ob).sgs
        rwa [HLJ.out.2] at this
      have HNG : Hid (RG (w7.alloc (.cells #[.slice e.A e.s.l.length e.c, .int .i64 e.s.st, .int .i64 e.s.cu, .int .i64 e.s.fa] 49)) (w7.heap.size + 1) (some ⟨w7.heap.size, 0, none⟩) 1 [e]) := hs_new w7 e _
      have HBT : Hid (∀ ob, w1.heap.size ≤ (w7.alloc ob).heap.size) := fun ob => (T7.out.alloc ob).base
      go_upto_region 7 with (first
        | (at_builtin
           refine AppG.wpList_app _ rfl (.tmp 37) (.tmp 45) rfl _ rfl (HOWG.out _) rfl HNG.out (scs_ones _) hroom' (HBT.out _) ?_
           intro A3 c3 w8 hown8 hg8 ha8
           have T8 := Lib.hid ((T7.out.alloc _).put2 (r := [e]) hown8 (by rw [HLJ.out.2]; rfl) rfl hg8 ha8)
           clear hown8 hg8 ha8))
      have T9 : Hid (Two w1.heap.size w1 w8 (.slice A2 (j + 1) c2) (.slice A3 (j + 1) c3) (m.l.take (j + 1)) (hs.take (j + 1))) := by
        have : Two w1.heap.size w1 w8 (.slice A2 (j + 1) c2) (.slice A3 (j + 1) c3) (m.l.take (j + 1)) (hs.take (j + 1)) := by
          rw [take_more HY.out, take_more HE.out]
          exact T8.out
        exact this
      go_wp2
      go_roundw
      case rel => exact ⟨j + 1, HJ.out, by go_num, T9⟩
      case measure => have := HJ.out; simp [intOf]; omega
    · obtain rfl : j = k := by omega
      have HOWI : Hid (∀ ob, (wr.alloc ob).ownsRow w1.heap.size 30 1 (.slice Ai j ci) j (ics (m.l.take j))) := fun ob => by
        have := (HT.out.alloc ob).ids
        rwa [HLJ.out.1] at this
      have HNI : Hid (Reads (wr.alloc (.cells #[.int .u64 (id : Int)] 30)) (wr.heap.size + 1) 1 (some ⟨wr.heap.size, 0, none⟩) 1 [.int .u64 (id : Int)]) := reads_one wr _ _
      have HBS : Hid (∀ ob, w1.heap.size ≤ (wr.alloc ob).heap.size) := fun ob => (HT.out.alloc ob).base
      have hroom : (j + 1) * 8 ≤ 140737488355328 := by omega
      have hroom' : (j + 1) * 48 ≤ 140737488355328 := by omega
      rcases Nat.lt_or_ge j n with hjn | hjn
      · obtain ⟨b, o, y, hA, hbl, hy, hcell⟩ := id_at HRI.out hjn
        have hnl : ¬ (y.1 : Int) < (id : Int) := by have := HHIGH.out y hy; omega
        have hbw : b < w1.heap.size := Nat.lt_of_lt_of_le hbl hww
        have yc := (hb.cell (p := ⟨b, o + j, none⟩) hbw).trans ((HB1.out.cell (p := ⟨b, o + j, none⟩) hbl).trans hcell)
        have hbr := Nat.lt_of_lt_of_le hbw hb.size
        have hjn' : (j : Int) < (n : Int) := by omega
        have hj0 : (0 : Int) ≤ (j : Int) := by omega
        clear hy hcell hjn
        subst hA
        go_upto_region 8 with fail
        go_upto_region 9 with (first
          | (at_builtin
             refine AppI.wpList_app _ rfl (.tmp 49) (.tmp 51) rfl _ rfl (HOWI.out _) rfl HNI.out (by simp [Value.oneCell']) hroom (HBS.out _) ?_
             intro A2 c2 w7 hown7 hg7 ha7
             have T7 := Lib.hid ((HT.out.alloc _).put1 (r := [(id, x.s)]) hown7 (by rw [HLJ.out.1]; rfl) rfl hg7 ha7)
             clear hown7 hg7 ha7))
        clear y3 y4 hpr hb
        have hbx7 := HBX.out.below T7.out.bel
        obtain ⟨f0, f1, f2, f3⟩ : _ ∧ _ ∧ _ ∧ _ := ⟨hbx7.c0, hbx7.c1, hbx7.c2, hbx7.c3⟩
        have hG7 := hbx7.lt
        clear hbx7
        have HOWG : Hid (∀ ob, (w7.alloc ob).ownsRow w1.heap.size 49 4 (.slice As j cs) j (scs (hs.take j))) := fun ob => by
          have := (T7.out.alloc ob).sgs
          rwa [HLJ.out.2] at this
        have HNG : Hid (RG (w7.alloc (.cells #[.slice x.A x.s.l.length x.c, .int .i64 x.s.st, .int .i64 x.s.cu, .int .i64 x.s.fa] 49)) (w7.heap.size + 1) (some ⟨w7.heap.size, 0, none⟩) 1 [x]) := hs_new w7 x _
        have HBT : Hid (∀ ob, w1.heap.size ≤ (w7.alloc ob).heap.size) := fun ob => (T7.out.alloc ob).base
        go_upto_region 10 with (first
          | (at_builtin
             refine AppG.wpList_app _ rfl (.tmp 53) (.tmp 55) rfl _ rfl (HOWG.out _) rfl HNG.out (scs_ones _) hroom' (HBT.out _) ?_
             intro A3 c3 w8 hown8 hg8 ha8
             have T8 := Lib.hid ((T7.out.alloc _).put2 (r := [x]) hown8 (by rw [HLJ.out.2]; rfl) rfl hg8 ha8)
             clear hown8 hg8 ha8))
        clear f0 f1 f2 f3 hG7
        have hb8 := T8.out.bel
        have y3 := (hb8.cell (p := ⟨p, 3, none⟩) hp1).trans c31
        have hpr := Nat.lt_of_lt_of_le hp1 hb8.size
        have hsl := run_from (P := Tryz.prog) 46 30 Tryz.underlying46 szI (some ⟨b, o, none⟩) n c j hk
        have hww8 : Below w.heap.size w w8 := HB1.out.trans (hb8.mono hww)
        have HN8 : Hid (Reads w8 w.heap.size 1 (cutA (some ⟨b, o, none⟩) c j) (n - j) (ics (m.l.drop j))) := by
          have : Reads w8 w.heap.size 1 (cutA (some ⟨b, o, none⟩) c j) (n - j) (ics (m.l.drop j)) := by
            rw [ics_drop]
            exact (HRI.out.below hww8).from_ hk hnc
          exact this
        have HOW8 : Hid (w8.ownsRow w1.heap.size 30 1 (.slice A2 (j + 1) c2) (j + 1) (ics (m.l.take j ++ [(id, x.s)]))) := by
          have := T8.out.ids
          rw [List.length_append, HLJ.out.1] at this
          exact this
        have HB8 := Lib.hid T8.out.base
        have hroom8 : (j + 1 + (n - j)) * 8 ≤ 140737488355328 := by omega
        have hroom9 : (j + 1 + (n - j)) * 48 ≤ 140737488355328 := by omega
        have hpc8 : w8.heap[p]? = _ := (hww8.block p hp).trans H.out.tb.cell
        have hpf8 := free_at hpc8 3
        have HPC8 := Lib.hid hpc8
        clear hb8 hww8 hpc8
        go_upto_region 11 with (first
          | (at_builtin
             refine AppI.wpList_app _ rfl (.tmp 58) (.tmp 64) rfl _ rfl HOW8.out rfl HN8.out (ics_ones _) hroom8 HB8.out ?_
             intro A4 c4 w9 hown9 hg9 ha9
             have T9 := Lib.hid (T8.out.put1 (r := m.l.drop j) hown9 (by rw [List.length_append, List.length_drop, HLJ.out.1, HN.out]; rfl) rfl hg9 ha9)
             have y3' := (T9.out.bel.cell (p := ⟨p, 3, none⟩) hp1).trans c31
             have hpr9 := Nat.lt_of_lt_of_le hp1 T9.out.bel.size
             have hpc9 : w9.heap[p]? = _ := (T9.out.bel.block p hp1).trans ((HB1.out.block p hp).trans H.out.tb.cell)
             have hpf9 := free_at hpc9 3
             have HPC9 := Lib.hid hpc9
             clear hown9 hg9 ha9 hpc9))
        have o10 : Only (fun g => g = p) w9 (w9.setCell ⟨p, 3, none⟩ (.slice A4 (j + 1 + (n - j)) c4)) := (Only.refl (fun g => g = p) w9).setCell (a := ⟨p, 3, none⟩) (.inr rfl) _
        have hpc10 := set_at (i := 3) HPC9.out (.slice A4 (j + 1 + (n - j)) c4)
        rw [List.setIfInBounds_toArray] at hpc10
        obtain ⟨w10, hw10⟩ : ∃ w10, w9.setCell ⟨p, 3, none⟩ (.slice A4 (j + 1 + (n - j)) c4) = w10 := ⟨_, rfl⟩
        rw [hw10] at o10 hpc10
        have hall10 : Only (fun g => g = p) w w10 := (Only.of_below (HB1.out.trans (T9.out.bel.mono hww))).trans o10
        have hsg10 := hall10.own H.out.sgs fun g hg e => H.out.ps (e ▸ hg)
        have hrs10 : RG w10 w10.heap.size A' n hs := by
          obtain ⟨A9, c9, e9, _, _, h9⟩ := own_form hsg10
          rw [HL.out, HN.out] at e9 h9
          cases e9
          exact h9
        have hid10 := o10.own T9.out.ids fun g hg e => by have := (T9.out.ids.lt g hg).1; omega
        have hos10 := o10.own T9.out.sgs fun g hg e => by have := (T9.out.sgs.lt g hg).1; omega
        have y4 : w10.cell? ⟨p, 4, none⟩ = some (.slice A' n c') := by rw [cell_at hpc10]; simp
        have hpf10 := free_at hpc10 4
        have hpr10 := lt_at hpc10
        have hslG := run_fromG A' n c' j hk
        have HN10 := Lib.hid (RG.from_ hrs10 hk hnc')
        have HOW10 : Hid (w10.ownsRow w1.heap.size 49 4 (.slice A3 (j + 1) c3) (j + 1) (scs (hs.take j ++ [x]))) := by
          have := hos10
          rw [List.length_append, HLJ.out.2] at this
          exact this
        have HB10 : Hid (w1.heap.size ≤ w10.heap.size) := Nat.le_trans T9.out.base o10.size
        have HID10 := Lib.hid hid10
        have HPC10 := Lib.hid hpc10
        have HALL10 := Lib.hid hall10
        have HW10 := Lib.hid hw10
        clear o10 hpc10 hall10 hsg10 hrs10 hid10 hos10 hw10
        rw [HW10.out]
        clear y3 y3' hpr hpr9 hpf9 hpf8 hsl
        go_wp2_with (first
          | (at_builtin
             refine AppG.wpList_app _ rfl (.tmp 69) (.tmp 75) rfl _ rfl HOW10.out rfl HN10.out (scs_ones _) hroom9 HB10.out ?_
             intro A5 c5 w11 hown11 hg11 ha11
             have o11 : Only (fun g => (Value.slice A3 (j + 1) c3).ownBlock = some g) w10 w11 := (Only.refl _ w10).grown hg11 fun g e => .inr e
             have h3p : (Value.slice A3 (j + 1) c3).ownBlock ≠ some p := fun e => by have := (HOW10.out.lt p e).1; omega
             have hpc11 := o11.heap HPC10.out h3p
             have hid11 := o11.own HID10.out fun g hg e => T9.out.apart g hg e
             have hall11 : Only (fun g => g = p) w w11 := HALL10.out.trans' o11 fun q hq => .inr (Nat.le_trans hww (HOW10.out.lt q hq).1)
             have hap : ∀ g, (Value.slice A4 (j + 1 + (n - j)) c4).ownBlock = some g → (Value.slice A5 (j + 1 + (n - j)) c5).ownBlock ≠ some g := fun g hg e => by
               rcases ha11 with e1 | e1
               · exact T9.out.apart g hg (e1 ▸ e)
               · rw [e1] at e
                 cases e
                 have := (HID10.out.lt _ hg).2
                 omega
             have HPUT2 : Hid (Put B w p vR (.slice (some ⟨b, o, none⟩) n c) (.slice A' n c') m hs id x (w11.setCell ⟨p, 4, none⟩ (.slice A5 (j + 1 + (n - j)) c5))) := by
               refine put_end (k := j) H.out hall11 hww hpc11 ?_ ?_ hap HPUT.out HX.out HXO.out
               · have := hid11
                 simp only [List.append_assoc, List.cons_append, List.nil_append] at this
                 exact this
               · have := hown11
                 rw [← scs_append] at this
                 simp only [List.append_assoc, List.cons_append, List.nil_append] at this
                 have hl : (hs.take j ++ x :: hs.drop j).length = j + 1 + (n - j) := by rw [List.length_append, List.length_cons, List.length_drop, HLJ.out.2, HL.out, HN.out]; omega
                 rw [hl]
                 exact this
             have y4' : w11.cell? ⟨p, 4, none⟩ = some (.slice A' n c') := by rw [cell_at hpc11]; simp
             have hpf11 := free_at hpc11 4
             have hpr11 := lt_at hpc11
             clear hown11 hg11 ha11 o11 h3p hpc11 hid11 hall11 hap))
        go_end0
        exact ⟨rfl, HPUT2.out⟩
      · have hjn' : ¬ (j : Int) < (n : Int) := by omega
        clear hjn
        go_upto_region 8 with fail
        go_upto_region 9 with (first
          | (at_builtin
             refine AppI.wpList_app _ rfl (.tmp 49) (.tmp 51) rfl _ rfl (HOWI.out _) rfl HNI.out (by simp [Value.oneCell']) hroom (HBS.out _) ?_
             intro A2 c2 w7 hown7 hg7 ha7
             have T7 := Lib.hid ((HT.out.alloc _).put1 (r := [(id, x.s)]) hown7 (by rw [HLJ.out.1]; rfl) rfl hg7 ha7)
             clear hown7 hg7 ha7))
        clear y3 y4 hpr hb
        have hbx7 := HBX.out.below T7.out.bel
        obtain ⟨f0, f1, f2, f3⟩ : _ ∧ _ ∧ _ ∧ _ := ⟨hbx7.c0, hbx7.c1, hbx7.c2, hbx7.c3⟩
        have hG7 := hbx7.lt
        clear hbx7
        have HOWG : Hid (∀ ob, (w7.alloc ob).ownsRow w1.heap.size 49 4 (.slice As j cs) j (scs (hs.take j))) := fun ob => by
          have := (T7.out.alloc ob).sgs
          rwa [HLJ.out.2] at this
        have HNG : Hid (RG (w7.alloc (.cells #[.slice x.A x.s.l.length x.c, .int .i64 x.s.st, .int .i64 x.s.cu, .int .i64 x.s.fa] 49)) (w7.heap.size + 1) (some ⟨w7.heap.size, 0, none⟩) 1 [x]) := hs_new w7 x _
        have HBT : Hid (∀ ob, w1.heap.size ≤ (w7.alloc ob).heap.size) := fun ob => (T7.out.alloc ob).base
        go_upto_region 10 with (first
          | (at_builtin
             refine AppG.wpList_app _ rfl (.tmp 53) (.tmp 55) rfl _ rfl (HOWG.out _) rfl HNG.out (scs_ones _) hroom' (HBT.out _) ?_
             intro A3 c3 w8 hown8 hg8 ha8
             have T8 := Lib.hid ((T7.out.alloc _).put2 (r := [x]) hown8 (by rw [HLJ.out.2]; rfl) rfl hg8 ha8)
             clear hown8 hg8 ha8))
        clear f0 f1 f2 f3 hG7
        have hb8 := T8.out.bel
        have y3 := (hb8.cell (p := ⟨p, 3, none⟩) hp1).trans c31
        have hpr := Nat.lt_of_lt_of_le hp1 hb8.size
        have hsl := run_from (P := Tryz.prog) 46 30 Tryz.underlying46 szI A n c j hk
        have hww8 : Below w.heap.size w w8 := HB1.out.trans (hb8.mono hww)
        have HN8 : Hid (Reads w8 w.heap.size 1 (cutA A c j) (n - j) (ics (m.l.drop j))) := by
          have : Reads w8 w.heap.size 1 (cutA A c j) (n - j) (ics (m.l.drop j)) := by
            rw [ics_drop]
            exact (HRI.out.below hww8).from_ hk hnc
          exact this
        have HOW8 : Hid (w8.ownsRow w1.heap.size 30 1 (.slice A2 (j + 1) c2) (j + 1) (ics (m.l.take j ++ [(id, x.s)]))) := by
          have := T8.out.ids
          rw [List.length_append, HLJ.out.1] at this
          exact this
        have HB8 := Lib.hid T8.out.base
        have hroom8 : (j + 1 + (n - j)) * 8 ≤ 140737488355328 := by omega
        have hroom9 : (j + 1 + (n - j)) * 48 ≤ 140737488355328 := by omega
        have hpc8 : w8.heap[p]? = _ := (hww8.block p hp).trans H.out.tb.cell
        have hpf8 := free_at hpc8 3
        have HPC8 := Lib.hid hpc8
        clear hb8 hww8 hpc8
        go_upto_region 11 with (first
          | (at_builtin
             refine AppI.wpList_app _ rfl (.tmp 58) (.tmp 64) rfl _ rfl HOW8.out rfl HN8.out (ics_ones _) hroom8 HB8.out ?_
             intro A4 c4 w9 hown9 hg9 ha9
             have T9 := Lib.hid (T8.out.put1 (r := m.l.drop j) hown9 (by rw [List.length_append, List.length_drop, HLJ.out.1, HN.out]; rfl) rfl hg9 ha9)
             have y3' := (T9.out.bel.cell (p := ⟨p, 3, none⟩) hp1).trans c31
             have hpr9 := Nat.lt_of_lt_of_le hp1 T9.out.bel.size
             have hpc9 : w9.heap[p]? = _ := (T9.out.bel.block p hp1).trans ((HB1.out.block p hp).trans H.out.tb.cell)
             have hpf9 := free_at hpc9 3
             have HPC9 := Lib.hid hpc9
             clear hown9 hg9 ha9 hpc9))
        have o10 : Only (fun g => g = p) w9 (w9.setCell ⟨p, 3, none⟩ (.slice A4 (j + 1 + (n - j)) c4)) := (Only.refl (fun g => g = p) w9).setCell (a := ⟨p, 3, none⟩) (.inr rfl) _
        have hpc10 := set_at (i := 3) HPC9.out (.slice A4 (j + 1 + (n - j)) c4)
        rw [List.setIfInBounds_toArray] at hpc10
        obtain ⟨w10, hw10⟩ : ∃ w10, w9.setCell ⟨p, 3, none⟩ (.slice A4 (j + 1 + (n - j)) c4) = w10 := ⟨_, rfl⟩
        rw [hw10] at o10 hpc10
        have hall10 : Only (fun g => g = p) w w10 := (Only.of_below (HB1.out.trans (T9.out.bel.mono hww))).trans o10
        have hsg10 := hall10.own H.out.sgs fun g hg e => H.out.ps (e ▸ hg)
        have hrs10 : RG w10 w10.heap.size A' n hs := by
          obtain ⟨A9, c9, e9, _, _, h9⟩ := own_form hsg10
          rw [HL.out, HN.out] at e9 h9
          cases e9
          exact h9
        have hid10 := o10.own T9.out.ids fun g hg e => by have := (T9.out.ids.lt g hg).1; omega
        have hos10 := o10.own T9.out.sgs fun g hg e => by have := (T9.out.sgs.lt g hg).1; omega
        have y4 : w10.cell? ⟨p, 4, none⟩ = some (.slice A' n c') := by rw [cell_at hpc10]; simp
        have hpf10 := free_at hpc10 4
        have hpr10 := lt_at hpc10
        have hslG := run_fromG A' n c' j hk
        have HN10 := Lib.hid (RG.from_ hrs10 hk hnc')
        have HOW10 : Hid (w10.ownsRow w1.heap.size 49 4 (.slice A3 (j + 1) c3) (j + 1) (scs (hs.take j ++ [x]))) := by
          have := hos10
          rw [List.length_append, HLJ.out.2] at this
          exact this
        have HB10 : Hid (w1.heap.size ≤ w10.heap.size) := Nat.le_trans T9.out.base o10.size
        have HID10 := Lib.hid hid10
        have HPC10 := Lib.hid hpc10
        have HALL10 := Lib.hid hall10
        have HW10 := Lib.hid hw10
        clear o10 hpc10 hall10 hsg10 hrs10 hid10 hos10 hw10
        rw [HW10.out]
        clear y3 y3' hpr hpr9 hpf9 hpf8 hsl
        go_wp2_with (first
          | (at_builtin
             refine AppG.wpList_app _ rfl (.tmp 69) (.tmp 75) rfl _ rfl HOW10.out rfl HN10.out (scs_ones _) hroom9 HB10.out ?_
             intro A5 c5 w11 hown11 hg11 ha11
             have o11 : Only (fun g => (Value.slice A3 (j + 1) c3).ownBlock = some g) w10 w11 := (Only.refl _ w10).grown hg11 fun g e => .inr e
             have h3p : (Value.slice A3 (j + 1) c3).ownBlock ≠ some p := fun e => by have := (HOW10.out.lt p e).1; omega
             have hpc11 := o11.heap HPC10.out h3p
             have hid11 := o11.own HID10.out fun g hg e => T9.out.apart g hg e
             have hall11 : Only (fun g => g = p) w w11 := HALL10.out.trans' o11 fun q hq => .inr (Nat.le_trans hww (HOW10.out.lt q hq).1)
             have hap : ∀ g, (Value.slice A4 (j + 1 + (n - j)) c4).ownBlock = some g → (Value.slice A5 (j + 1 + (n - j)) c5).ownBlock ≠ some g := fun g hg e => by
               rcases ha11 with e1 | e1
               · exact T9.out.apart g hg (e1 ▸ e)
               · rw [e1] at e
                 cases e
                 have := (HID10.out.lt _ hg).2
                 omega
             have HPUT2 : Hid (Put B w p vR (.slice A n c) (.slice A' n c') m hs id x (w11.setCell ⟨p, 4, none⟩ (.slice A5 (j + 1 + (n - j)) c5))) := by
               refine put_end (k := j) H.out hall11 hww hpc11 ?_ ?_ hap HPUT.out HX.out HXO.out
               · have := hid11
                 simp only [List.append_assoc, List.cons_append, List.nil_append] at this
                 exact this
               · have := hown11
                 rw [← scs_append] at this
                 simp only [List.append_assoc, List.cons_append, List.nil_append] at this
                 have hl : (hs.take j ++ x :: hs.drop j).length = j + 1 + (n - j) := by rw [List.length_append, List.length_cons, List.length_drop, HLJ.out.2, HL.out, HN.out]; omega
                 rw [hl]
                 exact this
             have y4' : w11.cell? ⟨p, 4, none⟩ = some (.slice A' n c') := by rw [cell_at hpc11]; simp
             have hpf11 := free_at hpc11 4
             have hpr11 := lt_at hpc11
             clear hown11 hg11 ha11 o11 h3p hpc11 hid11 hall11 hap))
        go_end0
        exact ⟨rfl, HPUT2.out⟩
end Go.Proofs.YthaepkpmpnofgaaGreat.PutD
set_option linter.unusedVariables false
set_option linter.unusedSimpArgs false
namespace Go.Proofs.YthaepkpmpnofgaaGreat.ApD
open Go.RowKit Go.Proofs.YthaepkpmpnofgaaGreat.Kit Go.Proofs.YthaepkpmpnofgaaGreat.Blocks Go.Proofs.YthaepkpmpnofgaaGreat.Ses Go.Proofs.YthaepkpmpnofgaaGreat.Rws Go.Proofs.YthaepkpmpnofgaaGreat.Boxs Go.Proofs.YthaepkpmpnofgaaGreat.Mch Go.Proofs.YthaepkpmpnofgaaGreat.MatD Go.Proofs.YthaepkpmpnofgaaGreat.PutD Go.Proofs.YthaepkpmpnofgaaGreat.SsnWalkA
open Go.Proofs.YthaepkpmpnofgaaGreat.Sag (Sg)
open Go.Proofs.YthaepkpmpnofgaaGreat.SagAt (At Box4 sgV)
open Go.Proofs.YthaepkpmpnofgaaGreat.RdT (only_s only_b)

/-- The block of the document's machine. -/
abbrev shp (vI vS : Value) : Shape := ⟨59, [vI, vS]⟩
/-- Steps of a saga that the machine at p has lie in block r. -/
def Zs (B : Nat) (w : World) (p : Nat) (vR vI vS : Value) (r : Nat) : Prop := ∃ m hs, MD B w p vR vI vS m hs ∧ ∃ x ∈ hs, 0 < x.s.l.length ∧ ∃ ad, x.A = some ad ∧ ad.block = r
/-- What a call leaves: another machine; only its blocks changed; what it has now it had, or is new. -/
def LeftM (B : Nat) (w : World) (p : Nat) (vR vI vS : Value) (m' : Mc) (w' : World) : Prop :=
  ∃ vR' vI' vS' hs', MD B w' p vR' vI' vS' m' hs' ∧ Only (Own p vR vI vS) w w' ∧ (∀ g, Own p vR' vI' vS' g → Own p vR vI vS g ∨ w.heap.size ≤ g) ∧
    ∀ x ∈ hs', 0 < x.s.l.length → ∀ ad, x.A = some ad → Zs B w p vR vI vS ad.block ∨ w.heap.size ≤ ad.block
section
variable {B : Nat} {w w' w1 : World} {p : Nat} {vR vI vS : Value} {m m' m'' : Mc} {hs : List Hs}
theorem LeftM.refl (h : MD B w p vR vI vS m hs) : LeftM B w p vR vI vS m w := ⟨vR, vI, vS, hs, h, Only.refl _ w, fun g hg => .inl hg, fun x hx hn ad e => .inl ⟨m, hs, h, x, hx, hn, ad, e, rfl⟩⟩
theorem leftM_below (h : MD B w p vR vI vS m hs) (k : LeftM B w p vR vI vS m' w') : Below B w w' := by
  obtain ⟨_, _, _, _, h', o', f', _⟩ := k
  exact o'.below h.tb.base fun q hq => (h.own_lt hq).1
/-- A session's call on the machine's table. -/
theorem MD.sess (h : MD B w p vR vI vS m hs) {t' : Tb} (k : DLeft (shp vI vS) B w p vR t' w') :
    ∃ vR', MD B w' p vR' vI vS ⟨t', m.l⟩ hs ∧ Only (Own p vR vI vS) w w' ∧ ∀ g, Own p vR' vI vS g → Own p vR vI vS g ∨ w.heap.size ≤ g := by
  obtain ⟨vR', ht, ho, hfr⟩ := k
  have hO : Only (Own p vR vI vS) w w' := ho.mono fun q _ hq => .inl hq
  refine ⟨vR', ⟨ht, h.said, ho.own h.ids fun g hg e => ?_, ho.own h.sgs fun g hg e => ?_, h.pi, h.ps, fun g hg e => ?_, fun g hg e => ?_, h.is_, fun x hx => ?_⟩, hO, fun g hg => ?_⟩
  · rcases e with rfl | e
    · exact h.pi hg
    · exact h.ri g e hg
  · rcases e with rfl | e
    · exact h.ps hg
    · exact h.rs g e hg
  · rcases hfr g hg with e1 | e1
    · exact h.ri g e1 e
    · have := (h.ids.lt g e).2; omega
  · rcases hfr g hg with e1 | e1
    · exact h.rs g e1 e
    · have := (h.sgs.lt g e).2; omega
  · obtain ⟨h1, h2⟩ := h.steps x hx
    refine ⟨h1.only (only_s hO) h2, fun hn ad e ho' => ?_⟩
    obtain ⟨ad', e1, e2, _⟩ := h1.rs.2 hn
    rw [e] at e1
    cases e1
    rcases ho' with (rfl | ho') | ho' | ho'
    · exact h2 hn ad e (.inl (.inl rfl))
    · rcases hfr _ ho' with e3 | e3
      · exact h2 hn ad e (.inl (.inr e3))
      · omega
    · exact h2 hn ad e (.inr (.inl ho'))
    · exact h2 hn ad e (.inr (.inr ho'))
  · rcases hg with (rfl | hg) | hg | hg
    · exact .inl (.inl (.inl rfl))
    · exact (hfr g hg).imp (fun e => .inl (.inr e)) id
    · exact .inl (.inr (.inl hg))
    · exact .inl (.inr (.inr hg))
/-! ### A saga is replaced -/
theorem scs_at {l : List Hs} {i : Nat} {e : Hs} (h : l[i]? = some e) : scs l = (scs l).take (i * 4) ++ hsCs e ++ (scs l).drop (i * 4 + 4) := by
  obtain ⟨hi, rfl⟩ := List.getElem?_eq_some_iff.1 h
  have h1 : l = l.take i ++ l[i] :: l.drop (i + 1) := by rw [List.getElem_cons_drop, List.take_append_drop]
  conv => lhs; rw [h1]
  rw [scs_append, scs_cons, scs_take, scs_drop, ← List.append_assoc, show (i + 1) * 4 = i * 4 + 4 by omega]
theorem scs_set {l : List Hs} {i : Nat} {e e' : Hs} (h : l[i]? = some e) : scs (l.set i e') = (scs l).take (i * 4) ++ hsCs e' ++ (scs l).drop (i * 4 + 4) := by
  have hi : i < l.length := (List.getElem?_eq_some_iff.1 h).1
  rw [List.set_eq_take_append_cons_drop, if_pos hi, scs_append, scs_cons, scs_take, scs_drop, ← List.append_assoc, show (i + 1) * 4 = i * 4 + 4 by omega]
theorem scs_put {l : List Hs} {i : Nat} {e e' : Hs} (h : l[i]? = some e) : ((((scs l).set (i * 4) (.slice e'.A e'.s.l.length e'.c)).set (i * 4 + 1) (.int .i64 e'.s.st)).set (i * 4 + 2) (.int .i64 e'.s.cu)).set (i * 4 + 3) (.int .i64 e'.s.fa) = scs (l.set i e') := by
  have hi : i < l.length := (List.getElem?_eq_some_iff.1 h).1
  have hl : ((scs l).take (i * 4)).length = i * 4 := by rw [List.length_take, scs_length]; omega
  rw [scs_set h]
  conv => lhs; rw [scs_at h]
  rw [List.append_assoc, List.append_assoc, List.set_append_right _ _ (by omega), hl, show i * 4 - i * 4 = 0 by omega]
  rw [List.set_append_right _ _ (by omega), hl, show i * 4 + 1 - i * 4 = 1 by omega]
  rw [List.set_append_right _ _ (by omega), hl, show i * 4 + 2 - i * 4 = 2 by omega]
  rw [List.set_append_right _ _ (by omega), hl, show i * 4 + 3 - i * 4 = 3 by omega]
  rfl
/-- A cell of a row of the call's own is written. -/
theorem own_set {t : TypeId} {v u : Value} {n g j : Nat} {xs : List Value} (h : w.ownsRow B t 4 v n xs) (hg : v.ownBlock = some g) (hj : j < n * 4) : (w.setCell ⟨g, j, none⟩ u).ownsRow B t 4 v n (xs.set j u) := by
  refine ⟨by rw [List.length_set]; exact h.1, ?_⟩
  rcases h.2 with ⟨e, h0⟩ | ⟨g', cap, cur, e, hb, hg', h4, h5, h6, h7⟩
  · omega
  · subst e
    have : g' = g := by simpa [Value.ownBlock] using hg
    subst this
    refine .inr ⟨g', cap, cur.setIfInBounds j u, rfl, hb, set_at hg' u, h4, h5, by simpa using h6, ?_⟩
    rw [Array.toList_setIfInBounds, ← h7, List.take_set]
theorem MD.setS (h : MD B w p vR vI vS m hs) {i g : Nat} {e : Hs} {y : Nat × Sg} (he : hs[i]? = some e) (hy : m.l[i]? = some y) (hg : vS.ownBlock = some g) {id : Nat} (hid : y.1 = id) (s' : Sg) (hl : s'.l = e.s.l) :
    MD B ((((w.setCell ⟨g, i * 4, none⟩ (.slice e.A s'.l.length e.c)).setCell ⟨g, i * 4 + 1, none⟩ (.int .i64 s'.st)).setCell ⟨g, i * 4 + 2, none⟩ (.int .i64 s'.cu)).setCell ⟨g, i * 4 + 3, none⟩ (.int .i64 s'.fa)) p vR vI vS ⟨m.t, m.l.set i (id, s')⟩ (hs.set i ⟨e.A, e.c, s'⟩) ∧
      Only (fun q => q = g) w ((((w.setCell ⟨g, i * 4, none⟩ (.slice e.A s'.l.length e.c)).setCell ⟨g, i * 4 + 1, none⟩ (.int .i64 s'.st)).setCell ⟨g, i * 4 + 2, none⟩ (.int .i64 s'.cu)).setCell ⟨g, i * 4 + 3, none⟩ (.int .i64 s'.fa)) := by
  have hi : i < hs.length := (List.getElem?_eq_some_iff.1 he).1
  have ho : Only (fun q => q = g) w ((((w.setCell ⟨g, i * 4, none⟩ (.slice e.A s'.l.length e.c)).setCell ⟨g, i * 4 + 1, none⟩ (.int .i64 s'.st)).setCell ⟨g, i * 4 + 2, none⟩ (.int .i64 s'.cu)).setCell ⟨g, i * 4 + 3, none⟩ (.int .i64 s'.fa)) :=
    ((((Only.refl (fun q => q = g) w).setCell (a := ⟨g, i * 4, none⟩) (.inr rfl) _).setCell (a := ⟨g, i * 4 + 1, none⟩) (.inr rfl) _).setCell (a := ⟨g, i * 4 + 2, none⟩) (.inr rfl) _).setCell (a := ⟨g, i * 4 + 3, none⟩) (.inr rfl) _
  have hown := own_set (own_set (own_set (own_set h.sgs hg (j := i * 4) (u := .slice e.A s'.l.length e.c) (by omega)) hg (j := i * 4 + 1) (u := .int .i64 s'.st) (by omega)) hg (j := i * 4 + 2) (u := .int .i64 s'.cu) (by omega)) hg (j := i * 4 + 3) (u := .int .i64 s'.fa) (by omega)
  rw [scs_put (e' := ⟨e.A, e.c, s'⟩) he] at hown
  have hgo : Own p vR vI vS g := .inr (.inr hg)
  refine ⟨⟨h.tb.keep ho fun q hq eq => ?_, ?_, ?_, ?_, h.pi, h.ps, h.ri, h.rs, h.is_, fun x hx => ?_⟩, ho⟩
  · rcases hq with rfl | hq
    · exact h.ps (by rw [hg, eq])
    · exact h.rs q hq (by rw [hg, eq])
  · show List.map Hs.s (hs.set i _) = List.map Prod.snd (m.l.set i (id, s'))
    rw [List.map_set, List.map_set, h.said]
  · show World.ownsRow _ B 30 1 vI (m.l.set i (id, s')).length (ics (m.l.set i (id, s')))
    have e0 : ics (m.l.set i (id, s')) = ics m.l := by
      unfold ics
      rw [List.map_set]
      obtain ⟨hi', e1⟩ := List.getElem?_eq_some_iff.1 hy
      have : (Value.int .u64 ((id, s').1 : Int)) = (m.l.map fun x => Value.int .u64 (x.1 : Int))[i]'(by rw [List.length_map]; exact hi') := by rw [List.getElem_map, e1, ← hid]
      rw [this, List.set_getElem_self]
    rw [List.length_set, e0]
    exact ho.own h.ids fun q hq eq => h.is_ q hq (by rw [hg, eq])
  · rw [List.length_set]
    exact hown
  · have hone : ∀ z : Hs, At w z.A z.s.l → (0 < z.s.l.length → ∀ ad, z.A = some ad → ¬ Own p vR vI vS ad.block) → At ((((w.setCell ⟨g, i * 4, none⟩ (.slice e.A s'.l.length e.c)).setCell ⟨g, i * 4 + 1, none⟩ (.int .i64 s'.st)).setCell ⟨g, i * 4 + 2, none⟩ (.int .i64 s'.cu)).setCell ⟨g, i * 4 + 3, none⟩ (.int .i64 s'.fa)) z.A z.s.l ∧ (0 < z.s.l.length → ∀ ad, z.A = some ad → ¬ Own p vR vI vS ad.block) := fun z h1 h2 =>
      ⟨h1.only (only_s ho) fun hn ad e0 e2 => h2 hn ad e0 (by rw [e2]; exact hgo), h2⟩
    rcases List.mem_or_eq_of_mem_set hx with hx | rfl
    · have := h.steps x hx; exact hone x this.1 this.2
    · have := h.steps e (List.mem_of_getElem? he)
      exact hone ⟨e.A, e.c, s'⟩ (by show At w e.A s'.l; rw [hl]; exact this.1) (by show 0 < s'.l.length → _; rw [hl]; exact this.2)
end
end Go.Proofs.YthaepkpmpnofgaaGreat.ApD
set_option linter.unusedVariables false
set_option linter.unusedSimpArgs false
namespace Go.Proofs.YthaepkpmpnofgaaGreat.ApE
open Go.RowKit Go.Proofs.YthaepkpmpnofgaaGreat.Kit Go.Proofs.YthaepkpmpnofgaaGreat.Blocks Go.Proofs.YthaepkpmpnofgaaGreat.Ses Go.Proofs.YthaepkpmpnofgaaGreat.Rws Go.Proofs.YthaepkpmpnofgaaGreat.Boxs Go.Proofs.YthaepkpmpnofgaaGreat.Mch Go.Proofs.YthaepkpmpnofgaaGreat.MatD Go.Proofs.YthaepkpmpnofgaaGreat.PutD Go.Proofs.YthaepkpmpnofgaaGreat.SsnWalkA Go.Proofs.YthaepkpmpnofgaaGreat.ApD
open Go.Proofs.YthaepkpmpnofgaaGreat.Sag (Sg)
open Go.Proofs.YthaepkpmpnofgaaGreat.SagAt (At Box4 sgV)
open Go.Proofs.YthaepkpmpnofgaaGreat.RdT (only_s only_b)
open Go.Proofs.YthaepkpmpnofgaaGreat.Cmd (Cm yes dec decZ mayB yes_back)
open Go.Proofs.YthaepkpmpnofgaaGreat.CmdAt (cmV CAt Bx cm_box)

theorem rdec_lit {s : ByteArray} (hs : s.size ≤ 9223372036854775807) {k : Cm} {z : Int} (hm : dec s = k) (hz : decZ s = z) (w : World) : Calls Tryz.prog 16 #[.string s] w fun e w' => ∃ A n c, e = .returned (.tuple #[cmV A n c k, .int .i64 z]) ∧ CAt w' A n k ∧ Below w.heap.size w w' ∧ Dx.New w A n :=
  (CmnWalkE.rdec_any s w hs).mono fun e w' ⟨A, n, c, h⟩ => ⟨A, n, c, by rw [← hm, ← hz]; exact h.1, by rw [← hm]; exact h.2.1, h.2.2⟩
/-- The machine now (it began as vR0, vI0, vS0 in w0), the answer's box at P, the command's at C. -/
structure Cx (B : Nat) (w0 W : World) (p P C : Nat) (vR0 vI0 vS0 vR vI vS : Value) (m : Mc) (hs : List Hs) (A : Option Addr) (n c : Nat) (k : Cm) : Prop where
  md : MD B W p vR vI vS m hs
  px : Box3 W P (.int .i64 0) (.int .u64 0) (.int .u64 0)
  cx : Bx W C (.int .i64 k.k) (.int .u64 (k.ss : Int)) (.int .u64 (k.sq : Int)) (.int .u64 (k.sg : Int)) (.slice A n c) (.int .i64 k.st) (.bool k.bk) (.int .i64 k.tr) (.bool k.ok) (.int .u64 (k.nw : Int))
  cat : CAt W A n k
  np : ¬ Own p vR vI vS P
  nc : ¬ Own p vR vI vS C
  na : 0 < n → ∀ ad, A = some ad → ¬ Own p vR vI vS ad.block
  sp : ∀ x ∈ hs, 0 < x.s.l.length → ∀ ad, x.A = some ad → ad.block ≠ P ∧ (Zs B w0 p vR0 vI0 vS0 ad.block ∨ w0.heap.size ≤ ad.block)
  only : Only (Own p vR0 vI0 vS0) w0 W
  fr : ∀ g, Own p vR vI vS g → Own p vR0 vI0 vS0 g ∨ w0.heap.size ≤ g
  lp : w0.heap.size ≤ P
section
variable {B : Nat} {w0 W W' : World} {p P C : Nat} {vR0 vI0 vS0 vR vI vS vR' vI' vS' : Value} {m m' : Mc} {hs hs' : List Hs} {A : Option Addr} {n c : Nat} {k : Cm}
theorem cat_only {S : Nat → Prop} (h : CAt W A n k) (o : Only S W W') (hs : 0 < n → ∀ ad, A = some ad → ¬ S ad.block) : CAt W' A n k :=
  ⟨⟨h.rs.1, fun hn => by
    obtain ⟨ad, e, hb, hc⟩ := h.rs.2 hn
    exact ⟨ad, e, Nat.lt_of_lt_of_le hb o.size, fun i u hi => (o.cell (p := ad.add i) (by rw [block_of_add]; exact hb) (by rw [block_of_add]; exact hs hn ad e)).trans (hc i u hi)⟩⟩, h.n63, h.nm, h.fin⟩
/-- A call changed the machine. -/
theorem Cx.step (x : Cx B w0 W p P C vR0 vI0 vS0 vR vI vS m hs A n c k) (h' : MD B W' p vR' vI' vS' m' hs') (o : Only (Own p vR vI vS) W W') (f : ∀ g, Own p vR' vI' vS' g → Own p vR vI vS g ∨ W.heap.size ≤ g)
    (hsp : ∀ x ∈ hs', 0 < x.s.l.length → ∀ ad, x.A = some ad → ad.block ≠ P ∧ (Zs B w0 p vR0 vI0 vS0 ad.block ∨ w0.heap.size ≤ ad.block)) : Cx B w0 W' p P C vR0 vI0 vS0 vR' vI' vS' m' hs' A n c k := by
  refine ⟨h', x.px.keep o x.np, x.cx.keep (only_s o) x.nc, cat_only x.cat o x.na, fun e => ?_, fun e => ?_, fun hn ad e e2 => ?_, hsp, x.only.trans' o x.fr, fun g hg => ?_, x.lp⟩
  · rcases f P e with h | h
    · exact x.np h
    · have := x.px.lt; omega
  · rcases f C e with h | h
    · exact x.nc h
    · have := x.cx.lt; omega
  · rcases f _ e2 with h | h
    · exact x.na hn ad e h
    · obtain ⟨ad', e3, hb, _⟩ := x.cat.rs.2 hn
      rw [e] at e3
      cases e3
      omega
  · rcases f g hg with h | h
    · exact x.fr g h
    · exact .inr (Nat.le_trans x.only.size h)
theorem Cx.below (x : Cx B w0 W p P C vR0 vI0 vS0 vR vI vS m hs A n c k) (o : Below W.heap.size W W') : Cx B w0 W' p P C vR0 vI0 vS0 vR vI vS m hs A n c k :=
  x.step (x.md.below o) (Only.of_below o) (fun _ h => .inl h) x.sp
/-- A session's call. -/
theorem Cx.sess (x : Cx B w0 W p P C vR0 vI0 vS0 vR vI vS m hs A n c k) {t' : Tb} (d : DLeft (shp vI vS) B W p vR t' W') : ∃ vR', Cx B w0 W' p P C vR0 vI0 vS0 vR' vI vS ⟨t', m.l⟩ hs A n c k := by
  obtain ⟨vR', h1, h2, h3⟩ := ApD.MD.sess x.md d
  exact ⟨vR', x.step h1 h2 h3 x.sp⟩
/-- The answer is laid. -/
theorem Cx.ends (x : Cx B w0 W p P C vR0 vI0 vS0 vR vI vS m hs A n c k) (u0 u1 u2 : Value) :
    LeftM B w0 p vR0 vI0 vS0 m (((W.setCell ⟨P, 0, none⟩ u0).setCell ⟨P, 1, none⟩ u1).setCell ⟨P, 2, none⟩ u2) := by
  have ho := (x.px.set u0 u1 u2).2
  refine ⟨vR, vI, vS, hs, x.md.keep ho (fun g hg e => x.np (e ▸ hg)) (fun y hy hn ad e => (x.sp y hy hn ad e).1), x.only.trans' ho fun q hq => .inr (by rw [hq]; exact x.lp), x.fr, fun y hy hn ad e => (x.sp y hy hn ad e).2⟩
end
/-- Apply begins: a command was decoded. -/
theorem cx_new {B : Nat} {w w1 w2 w3 : World} {p : Nat} {vR vI vS : Value} {m : Mc} {hs : List Hs} {A : Option Addr} {n c : Nat} {k : Cm} (h : MD B w p vR vI vS m hs) (hP : Box3 w1 w.heap.size (.int .i64 0) (.int .u64 0) (.int .u64 0)) (hb1 : Below w.heap.size w w1) (hb2 : Below w1.heap.size w1 w2) (hA : CAt w2 A n k) (hfresh : True)
    (hx : Bx w3 w2.heap.size (.int .i64 k.k) (.int .u64 (k.ss : Int)) (.int .u64 (k.sq : Int)) (.int .u64 (k.sg : Int)) (.slice A n c) (.int .i64 k.st) (.bool k.bk) (.int .i64 k.tr) (.bool k.ok) (.int .u64 (k.nw : Int))) (hA3 : CAt w3 A n k) (hb3 : Below w2.heap.size w2 w3)
    (hna : 0 < n → ∀ ad, A = some ad → w.heap.size ≤ ad.block) : Cx B w w3 p w.heap.size w2.heap.size vR vI vS vR vI vS m hs A n c k := by
  have hb12 := hb1.trans (hb2.mono hb1.size)
  have hb13 := hb12.trans (hb3.mono hb12.size)
  have hl : ∀ g, Own p vR vI vS g → g < w.heap.size := fun g hg => (h.own_lt hg).2
  refine ⟨h.below hb13, (hP.below hb2).below hb3, hx, hA3, fun e => by have := hl _ e; omega, fun e => by have := hl _ e; have := hb12.size; omega, fun hn ad e e2 => by have := hl _ e2; have := hna hn ad e; omega, fun y hy hn ad e => ?_, Only.of_below hb13, fun g hg => .inl hg, Nat.le_refl _⟩
  refine ⟨?_, .inl ⟨m, hs, h, y, hy, hn, ad, e, rfl⟩⟩
  obtain ⟨ad', e1, e2, _⟩ := (h.steps y hy).1.rs.2 hn
  rw [e] at e1
  cases e1
  omega
end Go.Proofs.YthaepkpmpnofgaaGreat.ApE
set_option linter.unusedVariables false
set_option linter.unusedSimpArgs false
namespace Go.Proofs.YthaepkpmpnofgaaGreat.ApG
open Go.RowKit Go.Proofs.YthaepkpmpnofgaaGreat.Kit Go.Proofs.YthaepkpmpnofgaaGreat.Blocks Go.Proofs.YthaepkpmpnofgaaGreat.Ses Go.Proofs.YthaepkpmpnofgaaGreat.Rws Go.Proofs.YthaepkpmpnofgaaGreat.Boxs Go.Proofs.YthaepkpmpnofgaaGreat.Mch Go.Proofs.YthaepkpmpnofgaaGreat.MatD Go.Proofs.YthaepkpmpnofgaaGreat.PutD Go.Proofs.YthaepkpmpnofgaaGreat.SsnWalkA Go.Proofs.YthaepkpmpnofgaaGreat.ApD Go.Proofs.YthaepkpmpnofgaaGreat.ApE
open Go.Proofs.YthaepkpmpnofgaaGreat.Sag (Sg)
open Go.Proofs.YthaepkpmpnofgaaGreat.SagAt (At Box4 sgV)
open Go.Proofs.YthaepkpmpnofgaaGreat.RdT (only_s only_b)
open Go.Proofs.YthaepkpmpnofgaaGreat.Cmd (Cm yes dec decZ mayB yes_back)
open Go.Proofs.YthaepkpmpnofgaaGreat.CmdAt (cmV CAt Bx cm_box)

/-- The block D is none of the machine's, none of the boxes'. -/
structure Clr (w0 : World) (p P C : Nat) (vR vI vS : Value) (hs : List Hs) (A : Option Addr) (n D : Nat) : Prop where
  no : ¬ Own p vR vI vS D
  np : P ≠ D
  nc : C ≠ D
  na : 0 < n → ∀ ad, A = some ad → ad.block ≠ D
  ns : ∀ x ∈ hs, 0 < x.s.l.length → ∀ ad, x.A = some ad → ad.block ≠ D
  lo : w0.heap.size ≤ D
section
variable {B : Nat} {w0 W W' : World} {p P C D : Nat} {vR0 vI0 vS0 vR vI vS vR' vI' vS' : Value} {m m' : Mc} {hs hs' : List Hs} {A : Option Addr} {n c : Nat} {k : Cm}
theorem Cx.clr (x : Cx B w0 W p P C vR0 vI0 vS0 vR vI vS m hs A n c k) : Clr w0 p P C vR vI vS hs A n W.heap.size := by
  refine ⟨fun h => ?_, Nat.ne_of_lt x.px.lt, Nat.ne_of_lt x.cx.lt, fun hn ad e => ?_, fun y hy hn ad e => ?_, x.only.size⟩
  · have := (x.md.own_lt h).2; omega
  · obtain ⟨ad', e1, e2, _⟩ := x.cat.rs.2 hn
    rw [e] at e1
    cases e1
    omega
  · obtain ⟨ad', e1, e2, _⟩ := (x.md.steps y hy).1.rs.2 hn
    rw [e] at e1
    cases e1
    omega
theorem Clr.step (q : Clr w0 p P C vR vI vS hs A n D) (f : ∀ g, Own p vR' vI' vS' g → Own p vR vI vS g ∨ W.heap.size ≤ g) (hD : D < W.heap.size) (hns : ∀ x ∈ hs', 0 < x.s.l.length → ∀ ad, x.A = some ad → ad.block ≠ D) : Clr w0 p P C vR' vI' vS' hs' A n D :=
  ⟨fun h => by
    rcases f D h with h | h
    · exact q.no h
    · omega, q.np, q.nc, q.na, hns, q.lo⟩
theorem Cx.put (x : Cx B w0 W p P C vR0 vI0 vS0 vR vI vS m hs A n c k) {a b d : Value} (q : Box3 W D a b d) (r : Clr w0 p P C vR vI vS hs A n D) (u0 u1 u2 : Value) :
    Cx B w0 (((W.setCell ⟨D, 0, none⟩ u0).setCell ⟨D, 1, none⟩ u1).setCell ⟨D, 2, none⟩ u2) p P C vR0 vI0 vS0 vR vI vS m hs A n c k ∧ Box3 (((W.setCell ⟨D, 0, none⟩ u0).setCell ⟨D, 1, none⟩ u1).setCell ⟨D, 2, none⟩ u2) D u0 u1 u2 := by
  obtain ⟨hb, ho⟩ := q.set u0 u1 u2
  exact ⟨⟨x.md.keep ho (fun g hg e => r.no (e ▸ hg)) (fun y hy hn ad e => r.ns y hy hn ad e), x.px.keep ho r.np, x.cx.keep (only_s ho) r.nc, cat_only x.cat ho r.na, x.np, x.nc, x.na, x.sp, x.only.trans' ho (fun q hq => .inr (by rw [hq]; exact r.lo)), x.fr, x.lp⟩, hb⟩
/-- A session's call, with what it leaves. -/
theorem Cx.sess2 (x : Cx B w0 W p P C vR0 vI0 vS0 vR vI vS m hs A n c k) {t' : Tb} (d : DLeft (shp vI vS) B W p vR t' W') : ∃ vR', Cx B w0 W' p P C vR0 vI0 vS0 vR' vI vS ⟨t', m.l⟩ hs A n c k ∧ Only (Own p vR vI vS) W W' ∧ ∀ g, Own p vR' vI vS g → Own p vR vI vS g ∨ W.heap.size ≤ g := by
  obtain ⟨vR', h1, h2, h3⟩ := ApD.MD.sess x.md d
  exact ⟨vR', x.step h1 h2 h3 x.sp, h2, h3⟩
/-- The reply's box is made behind the call. -/
theorem Cx.fin1 (x : Cx B w0 W p P C vR0 vI0 vS0 vR vI vS m hs A n c k) (u0 u1 u2 : Value) :
    Cx B w0 (W.alloc (.cells #[.int .i64 0, .int .u64 0, .int .u64 0] 32)) p P C vR0 vI0 vS0 vR vI vS m hs A n c k ∧ Box3 (W.alloc (.cells #[.int .i64 0, .int .u64 0, .int .u64 0] 32)) W.heap.size (.int .i64 0) (.int .u64 0) (.int .u64 0) ∧ Clr w0 p P C vR vI vS hs A n W.heap.size ∧
    ∃ w6, Hid (W.alloc (.cells #[u0, u1, u2] 32) = w6) ∧ Cx B w0 w6 p P C vR0 vI0 vS0 vR vI vS m hs A n c k ∧ Box3 w6 W.heap.size u0 u1 u2 :=
  ⟨x.below ((Below.refl W.heap.size W).alloc (Nat.le_refl _) _), Box3.new W _ _ _, Cx.clr x, _, Lib.hid rfl, x.below ((Below.refl W.heap.size W).alloc (Nat.le_refl _) _), Box3.new W _ _ _⟩
/-- The reply's box is made ahead of the call. -/
theorem Cx.fin2 (x : Cx B w0 W p P C vR0 vI0 vS0 vR vI vS m hs A n c k) {t' : Tb} (d : DLeft (shp vI vS) B (W.alloc (.cells #[.int .i64 0, .int .u64 0, .int .u64 0] 32)).drew p vR t' W') (u0 u1 u2 : Value) : ∃ vR',
    Cx B w0 W' p P C vR0 vI0 vS0 vR' vI vS ⟨t', m.l⟩ hs A n c k ∧ Box3 W' W.heap.size (.int .i64 0) (.int .u64 0) (.int .u64 0) ∧ Clr w0 p P C vR' vI vS hs A n W.heap.size ∧
    ∃ w6, Hid ((((W'.setCell ⟨W.heap.size, 0, none⟩ u0).setCell ⟨W.heap.size, 1, none⟩ u1).setCell ⟨W.heap.size, 2, none⟩ u2) = w6) ∧ Cx B w0 w6 p P C vR0 vI0 vS0 vR' vI vS ⟨t', m.l⟩ hs A n c k ∧ Box3 w6 W.heap.size u0 u1 u2 := by
  have hb := ((Below.refl W.heap.size W).alloc (Nat.le_refl _) (.cells #[.int .i64 0, .int .u64 0, .int .u64 0] 32)).drew
  have h1 := x.below hb
  have h2 := (Box3.new W (.int .i64 0) (.int .u64 0) (.int .u64 0)).below ((Below.refl _ _).drew)
  have h3 := Cx.clr x
  obtain ⟨vR', h4, h5, h6⟩ := Cx.sess2 h1 d
  have h7 := h2.keep h5 h3.no
  have h8 := h3.step h6 h2.lt h3.ns
  obtain ⟨h9, h10⟩ := Cx.put h4 h7 h8 u0 u1 u2
  exact ⟨vR', h4, h7, h8, _, Lib.hid rfl, h9, h10⟩
/-! ### A saga's box -/
theorem Cx.put4 (x : Cx B w0 W p P C vR0 vI0 vS0 vR vI vS m hs A n c k) {a b d e : Value} (q : Box4 W D a b d e) (r : Clr w0 p P C vR vI vS hs A n D) (u0 u1 u2 u3 : Value) :
    Cx B w0 ((((W.setCell ⟨D, 0, none⟩ u0).setCell ⟨D, 1, none⟩ u1).setCell ⟨D, 2, none⟩ u2).setCell ⟨D, 3, none⟩ u3) p P C vR0 vI0 vS0 vR vI vS m hs A n c k ∧ Box4 ((((W.setCell ⟨D, 0, none⟩ u0).setCell ⟨D, 1, none⟩ u1).setCell ⟨D, 2, none⟩ u2).setCell ⟨D, 3, none⟩ u3) D u0 u1 u2 u3 := by
  obtain ⟨hb, ho'⟩ := q.set u0 u1 u2 u3
  have ho := only_b ho'
  exact ⟨⟨x.md.keep ho (fun g hg e => r.no (e ▸ hg)) (fun y hy hn ad e => r.ns y hy hn ad e), x.px.keep ho r.np, x.cx.keep (only_s ho) r.nc, cat_only x.cat ho r.na, x.np, x.nc, x.na, x.sp, x.only.trans' ho (fun q hq => .inr (by rw [hq]; exact r.lo)), x.fr, x.lp⟩, hb⟩
theorem Cx.fin14 (x : Cx B w0 W p P C vR0 vI0 vS0 vR vI vS m hs A n c k) (u0 u1 u2 u3 : Value) :
    Cx B w0 (W.alloc (.cells #[.slice none 0 0, .int .i64 0, .int .i64 0, .int .i64 0] 49)) p P C vR0 vI0 vS0 vR vI vS m hs A n c k ∧ Box4 (W.alloc (.cells #[.slice none 0 0, .int .i64 0, .int .i64 0, .int .i64 0] 49)) W.heap.size (.slice none 0 0) (.int .i64 0) (.int .i64 0) (.int .i64 0) ∧ Clr w0 p P C vR vI vS hs A n W.heap.size ∧
    ∃ w6, Hid (W.alloc (.cells #[u0, u1, u2, u3] 49) = w6) ∧ Cx B w0 w6 p P C vR0 vI0 vS0 vR vI vS m hs A n c k ∧ Box4 w6 W.heap.size u0 u1 u2 u3 :=
  ⟨x.below ((Below.refl W.heap.size W).alloc (Nat.le_refl _) _), Box4.new W _ _ _ _, Cx.clr x, _, Lib.hid rfl, x.below ((Below.refl W.heap.size W).alloc (Nat.le_refl _) _), Box4.new W _ _ _ _⟩
theorem Cx.fin24 (x : Cx B w0 W p P C vR0 vI0 vS0 vR vI vS m hs A n c k) (d : Below (W.alloc (.cells #[.slice none 0 0, .int .i64 0, .int .i64 0, .int .i64 0] 49)).drew.heap.size (W.alloc (.cells #[.slice none 0 0, .int .i64 0, .int .i64 0, .int .i64 0] 49)).drew W') (u0 u1 u2 u3 : Value) :
    Cx B w0 W' p P C vR0 vI0 vS0 vR vI vS m hs A n c k ∧ Box4 W' W.heap.size (.slice none 0 0) (.int .i64 0) (.int .i64 0) (.int .i64 0) ∧ Clr w0 p P C vR vI vS hs A n W.heap.size ∧
    ∃ w6, Hid (((((W'.setCell ⟨W.heap.size, 0, none⟩ u0).setCell ⟨W.heap.size, 1, none⟩ u1).setCell ⟨W.heap.size, 2, none⟩ u2).setCell ⟨W.heap.size, 3, none⟩ u3) = w6) ∧ Cx B w0 w6 p P C vR0 vI0 vS0 vR vI vS m hs A n c k ∧ Box4 w6 W.heap.size u0 u1 u2 u3 := by
  have hb := ((Below.refl W.heap.size W).alloc (Nat.le_refl _) (.cells #[.slice none 0 0, .int .i64 0, .int .i64 0, .int .i64 0] 49)).drew
  have h1 := (x.below hb).below d
  have h2 := ((Box4.new W (.slice none 0 0) (.int .i64 0) (.int .i64 0) (.int .i64 0)).below ((Below.refl _ _).drew)).below d
  have h3 := Cx.clr x
  obtain ⟨h9, h10⟩ := Cx.put4 h1 h2 h3 u0 u1 u2 u3
  exact ⟨h1, h2, h3, _, Lib.hid rfl, h9, h10⟩
/-- A saga is replaced. -/
theorem Cx.setS (x : Cx B w0 W p P C vR0 vI0 vS0 vR vI vS m hs A n c k) {i g : Nat} {e : Hs} {y : Nat × Sg} (he : hs[i]? = some e) (hy : m.l[i]? = some y) (hg : vS.ownBlock = some g) {id : Nat} (hid : y.1 = id) (s' : Sg) (hl : s'.l = e.s.l) :
    Cx B w0 ((((W.setCell ⟨g, i * 4, none⟩ (.slice e.A s'.l.length e.c)).setCell ⟨g, i * 4 + 1, none⟩ (.int .i64 s'.st)).setCell ⟨g, i * 4 + 2, none⟩ (.int .i64 s'.cu)).setCell ⟨g, i * 4 + 3, none⟩ (.int .i64 s'.fa)) p P C vR0 vI0 vS0 vR vI vS ⟨m.t, m.l.set i (id, s')⟩ (hs.set i ⟨e.A, e.c, s'⟩) A n c k ∧
      Only (fun q => q = g) W ((((W.setCell ⟨g, i * 4, none⟩ (.slice e.A s'.l.length e.c)).setCell ⟨g, i * 4 + 1, none⟩ (.int .i64 s'.st)).setCell ⟨g, i * 4 + 2, none⟩ (.int .i64 s'.cu)).setCell ⟨g, i * 4 + 3, none⟩ (.int .i64 s'.fa)) := by
  obtain ⟨h1, h2⟩ := ApD.MD.setS x.md he hy hg hid s' hl
  refine ⟨x.step h1 (h2.mono fun q _ hq => by rw [hq]; exact .inr (.inr hg)) (fun _ h => .inl h) (fun z hz hn ad e0 => ?_), h2⟩
  rcases List.mem_or_eq_of_mem_set hz with hz | rfl
  · exact x.sp z hz hn ad e0
  · exact x.sp e (List.mem_of_getElem? he) (by rw [← hl]; exact hn) ad e0
/-- Where the sagas' block lies, the saga at a place. -/
theorem row_at {W : World} {p : Nat} {vR vI vS : Value} {m : Mc} {hs : List Hs} (h : MD B W p vR vI vS m hs) {i : Nat} {y : Nat × Sg} (hy : m.l[i]? = some y) :
    ∃ g cS e, vS = .slice (some ⟨g, 0, none⟩) m.l.length cS ∧ i < m.l.length ∧ vS.ownBlock = some g ∧ hs[i]? = some e ∧ e.s = y.2 ∧ FourS W g (i * 4) e ∧ At W e.A e.s.l ∧ g < W.heap.size ∧ (∀ j, W.frozen? ⟨g, j, none⟩ = false) := by
  have hlen := h.len
  have hi : i < m.l.length := (List.getElem?_eq_some_iff.1 hy).1
  obtain ⟨e, he, hes⟩ : ∃ e, hs[i]? = some e ∧ e.s = y.2 := by
    have h1 := congrArg (fun l => l[i]?) h.said
    simp only [List.getElem?_map, hy, Option.map_some] at h1
    obtain ⟨e, he, h2⟩ := Option.map_eq_some_iff.1 h1
    exact ⟨e, he, h2⟩
  obtain ⟨AS, cS, hvS, hnS, hcS, hrS⟩ := h.sgform
  obtain ⟨g, o, e', hAS, hgl, he', hfs⟩ := hrS.at_ (k := i) (by omega)
  rw [he] at he'
  cases he'
  have hvg : vS.ownBlock = some g := by rw [hvS, hAS]; rfl
  rcases h.sgs.2 with ⟨_, h0⟩ | ⟨g', cap, cur, e1, hb, hg', h4, h5, h6, h7⟩
  · omega
  · rw [hvS, hAS] at e1
    obtain ⟨e2, _, _⟩ := Value.slice.inj e1
    cases e2
    refine ⟨g, cS, e, by rw [hvS, hAS, hlen], hi, hvg, he, hes, by simpa using hfs, (h.steps e (List.mem_of_getElem? he)).1, hgl, fun j => free_at hg' j⟩
theorem row_again {W : World} {p : Nat} {vR vI vS : Value} {m : Mc} {hs : List Hs} (h : MD B W p vR vI vS m hs) {i g : Nat} {y : Nat × Sg} {e : Hs} (hy : m.l[i]? = some y) (hg : vS.ownBlock = some g) (he : hs[i]? = some e) :
    FourS W g (i * 4) e ∧ At W e.A e.s.l ∧ g < W.heap.size ∧ ∀ j, W.frozen? ⟨g, j, none⟩ = false := by
  obtain ⟨g', _, e', _, _, hg', he', _, h1, h2, h3, h4⟩ := row_at h hy
  rw [hg] at hg'
  rw [he] at he'
  cases hg'
  cases he'
  exact ⟨h1, h2, h3, h4⟩
theorem outc_l (s : Sg) (a : Int) (b : Bool) (d : Int) (e : Bool) : (Sag.outc s a b d e).l = s.l := by
  unfold Sag.outc Sag.next Sag.back
  split
  · split
    · rfl
    · first | (split <;> first | rfl | (split <;> first | rfl | (split <;> rfl))) | rfl
  · rfl
end
end Go.Proofs.YthaepkpmpnofgaaGreat.ApG
