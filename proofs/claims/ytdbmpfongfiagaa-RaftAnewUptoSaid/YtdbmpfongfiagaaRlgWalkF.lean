/- What slices.Clone and Get answer, walked; slices.Delete, drop, Cut. -/
import Derived.Test.YtdbmpfongfiagaaRlgWalkE
import Derived.Lib.SliceRun
set_option linter.unusedVariables false
namespace Go.Proofs.Ytdbmpfongfiagaa.RlgWalkF
open Go.RowKit Go.Proofs.Ytdbmpfongfiagaa.Kit Go.Proofs.Ytdbmpfongfiagaa.Blocks Go.Proofs.Ytdbmpfongfiagaa.Rlog Go.Proofs.Ytdbmpfongfiagaa.Ents Go.Proofs.Ytdbmpfongfiagaa.LogAt Go.Proofs.Ytdbmpfongfiagaa.App Go.Proofs.Ytdbmpfongfiagaa.RlgWalkA Go.Proofs.Ytdbmpfongfiagaa.RlgWalkB Go.Proofs.Ytdbmpfongfiagaa.RlgWalkC Go.Proofs.Ytdbmpfongfiagaa.RlgWalkD Go.Proofs.Ytdbmpfongfiagaa.RlgWalkE

/-- A list of entries is handed back. -/
def Gives (w : World) (l : List Ent) (e : Ending) (w' : World) : Prop := ∃ A c, e = .returned (.slice A l.length c) ∧ RE w' w'.heap.size A l.length l ∧ l.length ≤ c ∧ c ≤ 9223372036854775807 ∧ Below w.heap.size w w' ∧ Off (fun k => k < w.heap.size) A l.length

theorem qE : ∀ (w : World) (a : Option Addr) (n c n' c' : Nat), (binOp .eql 27 (.slice a n c) (.slice none n' c')).run Try.prog w = .ok (.bool a.isNone) w := fun w a n c n' c' => Lib.run_eql_slice_nil w _ _ a n c n' c' Try.underlying27
set_option maxRecDepth 100000 in
theorem clone_nil (c : Nat) (w : World) : Calls Try.prog 27 #[.slice none 0 c] w (Gives w []) := by
  have q := qE
  go_enter Try.func27, Try.ntmps27
  go_wp2
  go_ret
  exact ⟨none, 0, rfl, RE.nil _ _ _, by simp, by omega, Below.refl _ _, Off.zero _ _⟩
set_option maxRecDepth 100000 in
theorem clone_some (ad : Addr) (n c : Nat) (l : List Ent) (w : World) (hr : RE w w.heap.size (some ad) n l) (hb : n * 40 ≤ 140737488355328) : Calls Try.prog 27 #[.slice (some ad) n c] w (Gives w l) := by
  have q := qE
  have hn := RE.len hr
  have HN := Lib.hid hn
  have hra : ∀ o, Reads (w.alloc o) w.heap.size 4 (some ad) n (ecells l) := fun o => Reads.alloc hr (Nat.le_refl _) o
  have hown := World.ownsRow_made (e := 57) (size := 4) w #[] 0 (base := w.heap.size) (Nat.le_refl _) (Nat.zero_le _) (by simp)
  have HO := Lib.hid hown
  clear hn hown
  go_enter Try.func27, Try.ntmps27
  go_wp2_with (first
    | (at_builtin
       refine wpList_app (v := .slice (some ⟨w.heap.size, 0, none⟩) 0 0) _ rfl _ _ rfl w.heap.size rfl HO.out rfl (hra _) (ecells_one l) (by omega) (by simp) ?_
       intro A' c' w1 hown1 hg1 hat1))
  have hb1 : Below w.heap.size w w1 := ((Below.refl _ w).alloc (Nat.le_refl _) _).grown hg1 (by simp) (by intro k hk; simp [Value.ownBlock] at hk; omega)
  rw [Nat.zero_add] at hown1
  obtain ⟨A2, c2, he2, hc1, hc2, hr2⟩ := own_form hown1
  cases he2
  have HR := Lib.hid hr2
  have HFr := Lib.hid (off_own hown1)
  clear hown1 hat1 hr2
  go_wp2
  go_ret
  unfold maxLen at hc2
  have hN := HN.out
  subst hN
  exact ⟨A', c', rfl, by simpa using HR.out, hc1, by omega, hb1, HFr.out⟩
theorem clone_any (A : Option Addr) (n c : Nat) (l : List Ent) (w : World) (hr : RE w w.heap.size A n l) (hb : n * 40 ≤ 140737488355328) : Calls Try.prog 27 #[.slice A n c] w (Gives w l) := by
  cases A with
  | some ad => exact clone_some ad n c l w hr hb
  | none =>
    have hn : n = 0 := by
      rcases Nat.eq_zero_or_pos n with h | h
      · exact h
      · obtain ⟨ad, e, _⟩ := hr.2 h; cases e
    have hl := RE.len hr
    subst hn
    rw [List.eq_nil_of_length_eq_zero hl]
    exact clone_nil c w

section
variable {B p : Nat} {v : Value} {g : G} {w : World} (h : LP B w p v g)
include h
set_option maxRecDepth 100000 in
theorem get_none {i : Nat} {n : Int} (hb : i < 18446744073709551616) (hp : place g i = none) : Calls Try.prog 11 #[.pointer (some ⟨p, 0, none⟩), .int .u64 (i : Int), .int .i64 n] w (Gives w []) := by
  have HP := Lib.hid (place_not h hb hp)
  clear hp
  go_enter Try.func11, Try.ntmps11
  go_wp2_with fail
  refine HP.out.mono ?_
  rintro e w1 ⟨rfl, rfl⟩
  go_wp2
  go_ret
  exact ⟨none, 0, rfl, RE.nil _ _ _, by simp, by omega, Below.refl _ _, Off.zero _ _⟩
set_option maxRecDepth 100000 in
theorem get_few {i k : Nat} {n : Int} (hb : i < 18446744073709551616) (hp : place g i = some k) (hn : n ≤ 0) : Calls Try.prog 11 #[.pointer (some ⟨p, 0, none⟩), .int .u64 (i : Int), .int .i64 n] w (Gives w []) := by
  have HP := Lib.hid (place_some h hb hp)
  clear hp
  go_enter Try.func11, Try.ntmps11
  go_wp2_with fail
  refine HP.out.mono ?_
  rintro e w1 ⟨rfl, rfl⟩
  go_wp2
  go_ret
  exact ⟨none, 0, rfl, RE.nil _ _ _, by simp, by omega, Below.refl _ _, Off.zero _ _⟩
set_option maxRecDepth 100000 in
theorem get_some {i k : Nat} {n : Int} (hb : i < 18446744073709551616) (hp : place g i = some k) (hn : ¬ n ≤ 0) (hn1 : n ≤ 9223372036854775807) (hl : g.es.length * 40 ≤ 140737488355328) : Calls Try.prog 11 #[.pointer (some ⟨p, 0, none⟩), .int .u64 (i : Int), .int .i64 n] w (Gives w ((g.es.drop k).take n.toNat)) := by
  have HP := Lib.hid (place_some h hb hp)
  have c4 := h.c4
  obtain ⟨A, c, rfl, hnc, hcm, hr⟩ := h.form
  have hk := (place_lt hp).1
  obtain ⟨m, hm⟩ : ∃ m : Nat, (m : Int) = min n ((g.es.length : Int) - (k : Int)) ∧ m = min n.toNat (g.es.length - k) := ⟨min n.toNat (g.es.length - k), by omega, rfl⟩
  have hpart := RE.part hr (k := k) (m := k + m) (cap := c) (by omega) (by omega) hnc
  rw [show k + m - k = m by omega] at hpart
  have hle : (g.es.take (k + m)).drop k = (g.es.drop k).take n.toNat := by
    rw [List.drop_take, show k + m - k = m by omega, hm.2, ← List.length_drop (i := k) (l := g.es), ← List.take_eq_take_min]
  rw [hle] at hpart
  obtain ⟨L, hL⟩ : ∃ L, g.es.length = L := ⟨_, rfl⟩
  rw [hL] at c4 hnc hm hk
  obtain ⟨r, hre⟩ : ∃ r, (g.es.drop k).take n.toNat = r := ⟨_, rfl⟩
  rw [hre] at hpart ⊢
  have hw : IntKind.i64.wrap ((L : Int) - (k : Int)) = ((L - k : Nat) : Int) := by rw [show (L : Int) - (k : Int) = ((L - k : Nat) : Int) by omega]; exact IntWalk.i64_in _ (by omega)
  have hmin : ∀ w ts t, (Builtin.min_ ts t #[.int .i64 n, .int .i64 ((L - k : Nat) : Int)]).run Try.prog w = .ok (.int .i64 (m : Int)) w := fun w ts t => by
    rw [run_min_int2]
    congr 2
    split <;> omega
  have hw2 : IntKind.i64.wrap ((k : Int) + (m : Int)) = ((k + m : Nat) : Int) := by rw [show (k : Int) + (m : Int) = ((k + m : Nat) : Int) by omega]; exact IntWalk.i64_in _ (by omega)
  have hsl := run_part4 (P := Try.prog) 27 57 Try.underlying27 sz4 A L c k (k + m) (by omega) (by omega)
  rw [show k + m - k = m by omega] at hsl
  obtain ⟨D, hD⟩ : ∃ D, L - k = D := ⟨_, rfl⟩
  obtain ⟨E, hE⟩ : ∃ E, k + m = E := ⟨_, rfl⟩
  obtain ⟨A2, hA2⟩ : ∃ A2, cut4 A c k = A2 := ⟨_, rfl⟩
  rw [hD] at hw hmin
  rw [hE] at hw2 hsl
  rw [hA2] at hsl hpart
  have hcl := clone_any A2 m (c - k) r w hpart (by omega)
  obtain ⟨c2, hc2⟩ : ∃ c2, c - k = c2 := ⟨_, rfl⟩
  rw [hc2] at hsl hcl
  have HC := Lib.hid hcl
  clear hcl hpart hre hD hE hA2 hc2 hle hm hr hp hl hL
  go_enter Try.func11, Try.ntmps11
  go_wp2_with fail
  refine HP.out.mono ?_
  rintro e w1 ⟨rfl, rfl⟩
  go_wp2_with fail
  refine HC.out.mono ?_
  rintro e w1 ⟨A3, c3, rfl, hr3, hb3⟩
  go_wp2
  go_ret
  exact ⟨A3, c3, rfl, hr3, hb3⟩
/-- Up to n entries from an index on. -/
theorem get_any {i : Nat} {n : Int} (hb : i < 18446744073709551616) (hn1 : n ≤ 9223372036854775807) (hl : g.es.length * 40 ≤ 140737488355328) : Calls Try.prog 11 #[.pointer (some ⟨p, 0, none⟩), .int .u64 (i : Int), .int .i64 n] w (Gives w (get g i n)) := by
  unfold Rlog.get
  cases hp : place g i with
  | none => exact get_none h hb hp
  | some k =>
    simp only
    by_cases hn : n ≤ 0
    · rw [show n.toNat = 0 by omega, List.take_zero]
      exact get_few h hb hp hn
    · exact get_some h hb hp hn hn1 hl
end

/-! ### slices.Delete, to the end -/
theorem run_app_none (w : World) (ad : Addr) (k c : Nat) (A : Option Addr) (c2 : Nat) (hk : k ≤ c) (ty : TypeId) :
    (Builtin.append_ #[27, 27] ty #[.slice (some ad) k c, .slice A 0 c2]).run Try.prog w = .ok (.slice (some ad) k c) w := by
  obtain ⟨i0, hi0, hz0, hz1, hz2⟩ := info_parts infoE
  cases A with
  | none => simp [Builtin.append_, run_underlying Try.underlying27, sizeOf, typeInfo, hi0, Builtin.lenOf, Builtin.firstCells, hk, storeCells]
  | some a => simp [Builtin.append_, run_underlying Try.underlying27, sizeOf, typeInfo, hi0, Builtin.lenOf, Builtin.firstCells, hk, storeCells, loadCells, loadCellsFrom]
theorem step_none {ops : Array Oper} {o : Oper} {a : Act} {K : Act → World → Prop} {Q : Exit → Act → World → Prop} {E : Prop} (w : World) (hgd : o.guard = none) (s x : Operand)
    (ho : o.op = .call { callee := .builtin .append, args := #[s, x], argTypes := #[27, 27] })
    (ad : Addr) (k c : Nat) (A : Option Addr) (c2 : Nat) (hs : a.eval s = .slice (some ad) k c) (hx : a.eval x = .slice A 0 c2) (hk : k ≤ c) (h : K (a.put o.dst (.slice (some ad) k c)) w) :
    if Region.wanted o (yielded ops a.tmps) = true then Oper.wp Try.prog o a w K Q else E := by
  have hw : Region.wanted o (yielded ops a.tmps) = true := by simp [Region.wanted, hgd]
  rw [if_pos hw]
  have hrun := run_app_none w ad k c A c2 hk o.type
  unfold Oper.wp execOp
  simp only [ho, resolve, invoke, builtin, Sem.run_bind, Sem.run_pure, Result.andThen_ok, List.map_toArray, List.map_cons, List.map_nil, hs, hx, hrun]
  exact h
theorem zeroE (w : World) : (zeroValue 57).run Try.prog w = .ok (.agg #[.int .u64 0, .int .u64 0, .int .i64 0, .string .empty]) w := by kernel_rfl
/-- clear(s[k:n]) in a row of the call's own. -/
theorem run_clear4 (w : World) {base g n c k cc : Nat} {l : List Ent} (hown : w.ownsRow base 57 4 (.slice (some ⟨g, 0, none⟩) n c) n (ecells l)) (hk : k < n) :
    ∃ w', (∀ ty, (Builtin.clear_ #[27] ty #[.slice (some ⟨g, k * 4, none⟩) (n - k) cc]).run Try.prog w = .ok (.tuple #[]) w') ∧ w'.ownsRow base 57 4 (.slice (some ⟨g, 0, none⟩) k c) k (ecells (l.take k)) ∧ Only (fun q => q = g) w w' := by
  rcases hown.2 with ⟨hv, _⟩ | ⟨g', cap, cur, hv, hb, hg, h1, h2, h3, h4⟩
  · cases hv
  · injection hv with hA _ hc
    cases hA
    subst hc
    have hzv := zeroE
    have hzc : (Value.agg #[.int .u64 0, .int .u64 0, .int .i64 0, .string .empty]).cells = #[.int .u64 0, .int .u64 0, .int .i64 0, .string .empty] := rfl
    obtain ⟨z, hz⟩ : ∃ z, (Value.agg #[.int .u64 0, .int .u64 0, .int .i64 0, .string .empty]) = z := ⟨_, rfl⟩
    rw [hz] at hzc
    simp only [hz] at hzv
    obtain ⟨zs, hzs⟩ : ∃ zs, (Builtin.zeroCells z.cells (n - k)).toList = zs := ⟨_, rfl⟩
    have hzl : zs.length = (n - k) * 4 := by rw [← hzs, hzc]; simp [Builtin.zeroCells]
    have hz1 : ∀ u ∈ zs, u.oneCell' = true := by
      intro u hu
      rw [← hzs, hzc] at hu
      simp only [Builtin.zeroCells, Array.toList_map, List.mem_map] at hu
      obtain ⟨i, _, rfl⟩ := hu
      have : ∀ j, j < 4 → ((#[.int .u64 0, .int .u64 0, .int .i64 0, .string .empty] : Array Value)[j]!).oneCell' = true := by decide
      exact this _ (Nat.mod_lt _ (by decide))
    have hst := run_storeCells_free Try.prog g (k * 4) 57 (0, 0) zs 0 cur w hg (by simp) (by rw [hzl, h3]; omega) hz1
    simp only [Nat.add_zero] at hst
    obtain ⟨X, hX⟩ : ∃ X, (cur.toList.take (k * 4) ++ zs ++ cur.toList.drop (k * 4 + zs.length)).toArray = X := ⟨_, rfl⟩
    rw [hX] at hst
    have hXs : X.size = c * 4 := by
      rw [← hX]
      simp only [List.size_toArray, List.length_append, List.length_take, List.length_drop, Array.length_toList]
      omega
    have hXt : X.toList.take (k * 4) = ecells (l.take k) := by
      rw [← hX]
      show (cur.toList.take (k * 4) ++ zs ++ cur.toList.drop (k * 4 + zs.length)).take (k * 4) = _
      rw [List.append_assoc, List.take_append_of_le_length (by rw [List.length_take, Array.length_toList]; omega), List.take_of_length_le (by rw [List.length_take]; omega), ecells_take, ← h4, List.take_take]
      congr 1
      omega
    refine ⟨w.setRow g X, fun ty => ?_, ⟨?_, .inr ⟨g, c, X, rfl, hb, setRow_heap w g cur _ _ _ hg, by omega, h2, hXs, hXt⟩⟩, ⟨rfl, rfl, rfl, by simp, fun q _ hq => setRow_other w g q _ hq⟩⟩
    · obtain ⟨m, hm⟩ : ∃ m, n - k = m + 1 := ⟨n - k - 1, by omega⟩
      rw [hm] at hzs ⊢
      simp [Builtin.clear_, run_underlying Try.underlying27, hzv, hzs, hst]
    · rw [← hXt, List.length_take, Array.length_toList, hXs]
      omega
set_option maxRecDepth 100000 in
set_option maxHeartbeats 1000000 in
/-- slices.Delete(s, k, len(s)). -/
theorem delete_any (base g n c k : Nat) (l : List Ent) (w : World) (hown : w.ownsRow base 57 4 (.slice (some ⟨g, 0, none⟩) n c) n (ecells l)) (hk : k < n) :
    Calls Try.prog 83 #[.slice (some ⟨g, 0, none⟩) n c, .int .i64 (k : Int), .int .i64 (n : Int)] w fun e w' =>
      e = .returned (.slice (some ⟨g, 0, none⟩) k c) ∧ w'.ownsRow base 57 4 (.slice (some ⟨g, 0, none⟩) k c) k (ecells (l.take k)) ∧ Only (fun q => q = g) w w' := by
  obtain ⟨A', c', he, hnc, hcm, _⟩ := own_form hown
  cases he
  unfold maxLen at hcm
  have hownd : w.drew.ownsRow base 57 4 (.slice (some ⟨g, 0, none⟩) n c) n (ecells l) := hown
  obtain ⟨W1, hcl, hown1, ho1⟩ := run_clear4 w.drew (cc := c - k) hownd hk
  have ht := Try.underlying27
  have ht' : Try.prog.underlying 27 = some (.slice (Try.prog.elem 27)) := by simp [Program.elem, ht]
  have he' : Try.prog.elem 27 = 57 := by simp [Program.elem, ht]
  obtain ⟨v0, hs0⟩ : ∃ v0, ∀ w, (Instr.slice 27 (.slice (some ⟨g, 0, none⟩) n c) (some (.int .i64 (k : Int))) (some (.int .i64 (n : Int))) (some (.int .i64 (n : Int)))).run Try.prog w = .ok v0 w :=
    ⟨_, fun w => by rw [run_slice_lhm w _ _ _ _ ht' .i64 .i64 .i64 _ _ _ (by omega) (by omega) (by omega) (by omega), he', sz4]; rfl⟩
  have hs1 : ∀ w, (Instr.slice 27 (.slice (some ⟨g, 0, none⟩) n c) none (some (.int .i64 (k : Int))) none).run Try.prog w = .ok (.slice (some ⟨g, 0, none⟩) k c) w := fun w => by
    rw [run_slice_h w _ _ _ _ ht' .i64 _ (by omega) (by omega), he', sz4]
    simp [Result.andThen, sliced]
    intro _
    rfl
  have hs2 := run_from4 (P := Try.prog) 27 57 ht sz4 (some ⟨g, 0, none⟩) n c n (Nat.le_refl _)
  rw [Nat.sub_self] at hs2
  obtain ⟨A2, hA2⟩ : ∃ A2, cut4 (some ⟨g, 0, none⟩) c n = A2 := ⟨_, rfl⟩
  obtain ⟨c2, hc2⟩ : ∃ c2, c - n = c2 := ⟨_, rfl⟩
  rw [hA2, hc2] at hs2
  have hs3 := run_part4 (P := Try.prog) 27 57 ht sz4 (some ⟨g, 0, none⟩) k c k n (by omega) hnc
  have hcut : cut4 (some ⟨g, 0, none⟩) c k = some ⟨g, k * 4, none⟩ := by
    unfold cut4
    rw [if_neg (by omega)]
    simp only [Option.map_some, Addr.add_lit, Nat.zero_add]
  rw [hcut] at hs3
  obtain ⟨d, hd⟩ : ∃ d, n - k = d := ⟨_, rfl⟩
  obtain ⟨c3, hc3⟩ : ∃ c3, c - k = c3 := ⟨_, rfl⟩
  rw [hd, hc3] at hs3 hcl
  have hne : ((k : Int) == (n : Int)) = false := by simp; omega
  have hkc : k ≤ c := by omega
  have HO := Lib.hid hown1
  have HN := Lib.hid ho1
  clear hA2 hc2 hcut hd hc3 hown1 ho1 hownd hown ht he' ht'
  go_enter Try.func83, Try.ntmps83
  go_wp2_with fail
  go_region_law (first
    | (refine step_none _ rfl _ _ rfl ⟨g, 0, none⟩ k c A2 c2 rfl rfl hkc ?_))
  all_goals go_wp2
  all_goals go_ret
  all_goals exact ⟨rfl, HO.out, (((Only.refl (fun q => q = g) w).drew).trans HN.out)⟩
end Go.Proofs.Ytdbmpfongfiagaa.RlgWalkF
