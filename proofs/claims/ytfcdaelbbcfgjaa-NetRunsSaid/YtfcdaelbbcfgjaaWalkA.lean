/- What copied, New, place and Count leave, walked. No statement is proved here. -/
import Derived.Test.YtfcdaelbbcfgjaaApp
import Derived.Laws.ResultCell
set_option linter.unusedVariables false
namespace Go.Proofs.Ytfcdaelbbcfgjaa.WalkA
open Go.RowKit Go.Proofs.Ytfcdaelbbcfgjaa.Kit Go.Proofs.Ytfcdaelbbcfgjaa.Blocks Go.Proofs.Ytfcdaelbbcfgjaa.Ltr Go.Proofs.Ytfcdaelbbcfgjaa.NAt Go.Proofs.Ytfcdaelbbcfgjaa.App

theorem ten_at {w : World} {b n c : Nat} {T : TypeId} {A : Option Addr} {k f t tm ix pv cm : Int} {ok : Bool} {d : ByteArray} (h : w.heap[b]? = some (.cells #[.int .i64 k, .int .i64 f, .int .i64 t, .int .u64 tm, .int .u64 ix, .int .u64 pv, .int .u64 cm, .bool ok, .slice A n c, .string d] T (0, 0))) :
    w.cell? ⟨b, 0, none⟩ = some (.int .i64 k) ∧ w.cell? ⟨b, 1, none⟩ = some (.int .i64 f) ∧ w.cell? ⟨b, 2, none⟩ = some (.int .i64 t) ∧ w.cell? ⟨b, 3, none⟩ = some (.int .u64 tm) ∧ w.cell? ⟨b, 4, none⟩ = some (.int .u64 ix) ∧ w.cell? ⟨b, 5, none⟩ = some (.int .u64 pv) ∧ w.cell? ⟨b, 6, none⟩ = some (.int .u64 cm) ∧ w.cell? ⟨b, 7, none⟩ = some (.bool ok) ∧ w.cell? ⟨b, 8, none⟩ = some (.slice A n c) ∧ w.cell? ⟨b, 9, none⟩ = some (.string d) ∧ b < w.heap.size := by
  refine ⟨?_, ?_, ?_, ?_, ?_, ?_, ?_, ?_, ?_, ?_, lt_at h⟩ <;> rw [cell_at h] <;> rfl
set_option maxHeartbeats 4000000 in
theorem set10 {w : World} {b : Nat} {cs : Array Value} {T : TypeId} (h : w.heap[b]? = some (.cells cs T (0, 0))) (hs : cs.size = 10) (a0 a1 a2 a3 a4 a5 a6 a7 a8 a9 : Value) :
    ((((((((((w.setCell ⟨b, 0, none⟩ a0).setCell ⟨b, 1, none⟩ a1).setCell ⟨b, 2, none⟩ a2).setCell ⟨b, 3, none⟩ a3).setCell ⟨b, 4, none⟩ a4).setCell ⟨b, 5, none⟩ a5).setCell ⟨b, 6, none⟩ a6).setCell ⟨b, 7, none⟩ a7).setCell ⟨b, 8, none⟩ a8).setCell ⟨b, 9, none⟩ a9).heap[b]? = some (.cells #[a0, a1, a2, a3, a4, a5, a6, a7, a8, a9] T (0, 0)) ∧
    Only (fun q => q = b) w ((((((((((w.setCell ⟨b, 0, none⟩ a0).setCell ⟨b, 1, none⟩ a1).setCell ⟨b, 2, none⟩ a2).setCell ⟨b, 3, none⟩ a3).setCell ⟨b, 4, none⟩ a4).setCell ⟨b, 5, none⟩ a5).setCell ⟨b, 6, none⟩ a6).setCell ⟨b, 7, none⟩ a7).setCell ⟨b, 8, none⟩ a8).setCell ⟨b, 9, none⟩ a9) := by
  refine ⟨?_, ?_⟩
  · rw [set_at (set_at (set_at (set_at (set_at (set_at (set_at (set_at (set_at (set_at h _) _) _) _) _) _) _) _) _) _]
    obtain ⟨l⟩ := cs
    match l, hs with
    | [c0, c1, c2, c3, c4, c5, c6, c7, c8, c9], _ => simp only [List.setIfInBounds_toArray, List.set_cons_zero, List.set_cons_succ]
  · exact (((((((((((Only.refl (fun q => q = b) w).setCell (a := ⟨b, 0, none⟩) (.inr rfl) _).setCell (a := ⟨b, 1, none⟩) (.inr rfl) _).setCell (a := ⟨b, 2, none⟩) (.inr rfl) _).setCell (a := ⟨b, 3, none⟩) (.inr rfl) _).setCell (a := ⟨b, 4, none⟩) (.inr rfl) _).setCell (a := ⟨b, 5, none⟩) (.inr rfl) _).setCell (a := ⟨b, 6, none⟩) (.inr rfl) _).setCell (a := ⟨b, 7, none⟩) (.inr rfl) _).setCell (a := ⟨b, 8, none⟩) (.inr rfl) _).setCell (a := ⟨b, 9, none⟩) (.inr rfl) _)
theorem results_ct {P : Program} {fn : Func} {p u : Tmp} {ty : TypeId} (h : fn.results = #[.cell p ty, .tmp u]) (tmps : Array Value) (w : World) (g : Nat) (t : TypeId) (cs : Array Value) (fr : Nat × Nat) (d : TypeDesc)
    (hp : tmps.getD p undef = .pointer (some ⟨g, 0, none⟩)) (hg : w.heap[g]? = some (.cells cs t fr))
    (hu : P.underlying ty = some d) (hd : (match d with | .struct _ | .array _ _ => true | _ => false) = true) (hi : (P.info? ty).map (·.size) = some cs.size) :
    (results fn tmps).run P w = .ok (.tuple #[.agg cs, tmps.getD u undef]) w := by
  have hp' : tmps[p]?.getD undef = .pointer (some ⟨g, 0, none⟩) := by simpa using hp
  simp [results, h, hp', asAddr, Result.andThen, run_loadVar_row w g t ty cs fr d hg hu hd hi]

/-- A letter is handed back, its entries new. -/
def Gives (w : World) (x : Lt) (e : Ending) (w' : World) : Prop :=
  ∃ A c, e = .returned (ltV ⟨x.h, A, x.n, c, x.es⟩) ∧ w'.ownsRow w.heap.size 51 4 (.slice A x.n c) x.n (ecells x.es) ∧ Below w.heap.size w w'
set_option maxRecDepth 100000 in
set_option maxHeartbeats 4000000 in
theorem copied_any {w : World} {E : Nat → Prop} {x : Lt} (hx : Fit w E x) : Calls Try.prog 22 #[ltV x] w (Gives w x) := by
  obtain ⟨⟨k, f, t, tm, ix, pv, cm, ok, d⟩, A, n, c, es⟩ := x
  have hre := hx.re
  have h63 := hx.few
  unfold Gives ltV
  simp only at hre h63 ⊢
  have hba : ∀ o1 o2, Below w.heap.size w ((w.alloc o1).alloc o2) := fun o1 o2 => ((Below.refl _ _).alloc (Nat.le_refl _) _).alloc (by simp) _
  have hcb := heap_alloc_new w (.cells #[.int .i64 k, .int .i64 f, .int .i64 t, .int .u64 tm, .int .u64 ix, .int .u64 pv, .int .u64 cm, .bool ok, .slice A n c, .string d] 34)
  have hcz := heap_alloc_new (w.alloc (.cells #[.int .i64 k, .int .i64 f, .int .i64 t, .int .u64 tm, .int .u64 ix, .int .u64 pv, .int .u64 cm, .bool ok, .slice A n c, .string d] 34)) (.cells #[.int .i64 0, .int .i64 0, .int .i64 0, .int .u64 0, .int .u64 0, .int .u64 0, .int .u64 0, .bool false, .slice none 0 0, .string ⟨#[]⟩] 34)
  obtain ⟨w0, hw0⟩ : ∃ w0, (w.alloc (.cells #[.int .i64 k, .int .i64 f, .int .i64 t, .int .u64 tm, .int .u64 ix, .int .u64 pv, .int .u64 cm, .bool ok, .slice A n c, .string d] 34)).alloc (.cells #[.int .i64 0, .int .i64 0, .int .i64 0, .int .u64 0, .int .u64 0, .int .u64 0, .int .u64 0, .bool false, .slice none 0 0, .string ⟨#[]⟩] 34) = w0 := ⟨_, rfl⟩
  have hs1 : (w.alloc (.cells #[.int .i64 k, .int .i64 f, .int .i64 t, .int .u64 tm, .int .u64 ix, .int .u64 pv, .int .u64 cm, .bool ok, .slice A n c, .string d] 34)).heap.size = w.heap.size + 1 := by simp
  have hb0 := hba (.cells #[.int .i64 k, .int .i64 f, .int .i64 t, .int .u64 tm, .int .u64 ix, .int .u64 pv, .int .u64 cm, .bool ok, .slice A n c, .string d] 34) (.cells #[.int .i64 0, .int .i64 0, .int .i64 0, .int .u64 0, .int .u64 0, .int .u64 0, .int .u64 0, .bool false, .slice none 0 0, .string ⟨#[]⟩] 34)
  rw [hs1, hw0] at hcz
  rw [hw0] at hb0
  have hcb0 : w0.heap[w.heap.size]? = some (.cells #[.int .i64 k, .int .i64 f, .int .i64 t, .int .u64 tm, .int .u64 ix, .int .u64 pv, .int .u64 cm, .bool ok, .slice A n c, .string d] 34 (0, 0)) := by
    rw [← hw0, Below.heap_alloc _ _ _ (lt_at hcb)]
    exact hcb
  have hr0 : RE w0 w0.heap.size A n es := (Kit.Reads.below hre hb0).more hb0.size
  have e8 : w0.cell? ⟨w.heap.size, 8, none⟩ = some (.slice A n c) := by rw [cell_at hcb0]; rfl
  have hltb : w.heap.size < w0.heap.size := lt_at hcb0
  have HR := Lib.hid hr0
  have HCB := Lib.hid hcb0
  have HCZ := Lib.hid hcz
  have HW0 := Lib.hid hw0
  have HB0 := Lib.hid hb0
  clear hr0 hcb0 hcz hw0 hcb hs1 hre hx hba hb0
  go_enter Try.func22, Try.ntmps22
  go_wp2_with
    (at_builtin
     rw [HW0.out]
     refine wpList_new (A := A) (m := n) (c := c) _ rfl _ _ rfl w0.heap.size rfl rfl HR.out (ecells_one _) h63 (Nat.le_refl _) ?_
     intro A' c' w1 hown hb1 hat
     have hcb1 := (hb1.block w.heap.size (lt_at HCB.out)).trans HCB.out
     have hcz1 := (hb1.block (w.heap.size + 1) (lt_at HCZ.out)).trans HCZ.out
     obtain ⟨d0, d1, d2, d3, d4, d5, d6, d7, d8, d9, hlt1⟩ := ten_at hcb1
     obtain ⟨z0, z1, z2, z3, z4, z5, z6, z7, z8, z9, hlt2⟩ := ten_at hcz1
     have g := free_at hcz1
     have g0 := g 0
     have g1 := g 1
     have g2 := g 2
     have g3 := g 3
     have g4 := g 4
     have g5 := g 5
     have g6 := g 6
     have g7 := g 7
     have g8 := g 8
     have g9 := g 9
     have f8 := free_at hcb1 8
     have H1 := Lib.hid hcb1
     have HZ1 := Lib.hid hcz1
     have HOwn := Lib.hid hown
     have HB1 := Lib.hid (HB0.out.trans (hb1.mono HB0.out.size))
     clear hcb1 hcz1 hown hb1 hat g)
  have o1 : Only (fun q => q = w.heap.size) w1 (w1.setCell ⟨w.heap.size, 8, none⟩ (.slice A' n c')) := (Only.refl (fun q => q = w.heap.size) w1).setCell (a := ⟨w.heap.size, 8, none⟩) (.inr rfl) _
  obtain ⟨hblk, o2⟩ := set10 (o1.heap HZ1.out (by omega)) rfl (.int .i64 k) (.int .i64 f) (.int .i64 t) (.int .u64 tm) (.int .u64 ix) (.int .u64 pv) (.int .u64 cm) (.bool ok) (.slice A' n c') (.string d)
  refine bodyPost_ret (results_cell_row (p := 2) (ty := 34) rfl _ _ (w.heap.size + 1) 34 _ (0, 0) _ rfl hblk Try.underlying34 rfl (by kernel_rfl)) rfl ?_
  have hne1 : ∀ q, (Value.slice A' n c').ownBlock = some q → q ≠ w.heap.size := fun q hq e => by have := (HOwn.out.lt q hq).1; have := lt_at HCB.out; omega
  have hne2 : ∀ q, (Value.slice A' n c').ownBlock = some q → q ≠ w.heap.size + 1 := fun q hq e => by have := (HOwn.out.lt q hq).1; have := lt_at HCZ.out; omega
  exact ⟨A', c', rfl, own_base (o2.own (o1.own HOwn.out hne1) hne2) HB0.out.size, HB1.out.trans ((o1.below HB1.out.size fun k hk => by omega).trans (o2.below (Nat.le_trans HB1.out.size o1.size) fun k hk => by omega))⟩

/-- New. -/
theorem new_any (B : Nat) (w : World) (hB : B ≤ w.heap.size) : Calls Try.prog 10 #[] w fun e w' =>
    ∃ p, e = .returned (.pointer (some ⟨p, 0, none⟩)) ∧ NAt B 54 (fun _ => False) w' p (.slice none 0 0) [] 0 ∧ Below w.heap.size w w' ∧ w.heap.size ≤ p := by
  go_enter Try.func10, Try.ntmps10
  go_wp2
  go_ret
  exact ⟨_, rfl, ⟨hB, heap_alloc_new w _, World.ownsRow_nil _ _ _ _, by simp [Value.ownBlock], by simp, by simp⟩, (Below.refl _ _).alloc (Nat.le_refl _) _, Nat.le_refl _⟩

/-- Where the letter lies that i means. -/
def plc (i : Int) (n : Nat) : Nat := (i % (n : Int)).toNat
theorem plc_lt (i : Int) {n : Nat} (h : 0 < n) : plc i n < n := by
  unfold plc
  have := Int.emod_nonneg i (show (n : Int) ≠ 0 by omega)
  have := Int.emod_lt_of_pos i (show (0 : Int) < (n : Int) by omega)
  omega
theorem tmod_cases (i : Int) (n : Nat) (h : 0 < n) : (i.tmod n < 0 ∧ i.tmod n + n = plc i n) ∨ (0 ≤ i.tmod n ∧ i.tmod n = plc i n) := by
  unfold plc
  have a0 := Int.emod_nonneg i (show (n : Int) ≠ 0 by omega)
  have a1 := Int.emod_lt_of_pos i (show (0 : Int) < (n : Int) by omega)
  have a2 := Int.lt_tmod_of_pos i (show (0 : Int) < (n : Int) by omega)
  have a3 := Int.tmod_lt_of_pos i (show (0 : Int) < (n : Int) by omega)
  have e1 := Int.emod_add_mul_ediv i n
  have e2 := Int.tmod_add_mul_tdiv i n
  have key : ∃ q : Int, i.tmod n = i % n + n * q := ⟨i / n - i.tdiv n, by rw [Int.mul_sub]; omega⟩
  obtain ⟨q, hq⟩ := key
  have hm : (n : Int) * q < n ∧ -(n : Int) * 2 < n * q := by omega
  have hq1 : q < 1 := by
    refine Int.lt_of_mul_lt_mul_left (a := (n : Int)) ?_ (by omega)
    omega
  have hq2 : -2 < q := by
    refine Int.lt_of_mul_lt_mul_left (a := (n : Int)) ?_ (by omega)
    have := hm.2
    rw [Int.mul_neg]
    omega
  have : q = 0 ∨ q = -1 := by omega
  rcases this with rfl | rfl
  · right; omega
  · left; omega
end Go.Proofs.Ytfcdaelbbcfgjaa.WalkA
