/- What a change of 32 columns makes of a number, walked. -/
import Derived.Test.YtokfkihcofpfpaaDoorBegun
namespace Go.Proofs.YtokfkihcofpfpaaDoor.MatA
open Go.RowKit Go.Proofs.YtokfkihcofpfpaaDoor.Kit Go.Proofs.YtokfkihcofpfpaaDoor.Crc Go.Proofs.YtokfkihcofpfpaaDoor.SumA Go.Proofs.YtokfkihcofpfpaaDoor.SumB

/-- The columns' cells. -/
def cells (l : List Nat) : Array Value := (l.map fun (c : Nat) => Value.int .u32 (c : Int)).toArray
theorem cells_size (l : List Nat) : (cells l).size = l.length := by simp [cells]
theorem cells_get (l : List Nat) (i c : Nat) (h : l[i]? = some c) : (cells l)[i]? = some (.int .u32 (c : Int)) := by simp [cells, h]

/-- An array by value, at an index. -/
theorem run_index_cell {P : Program} (w : World) (t e : TypeId) (q : IntKind) (n : Nat) (cs : Array Value) (k : IntKind) (i : Nat) (v : Value) (ht : P.underlying t = some (.array n e)) (he : P.underlying e = some (.int q))
    (hz : (Go.sizeOf e).run P w = .ok 1 w) (hi : i < n) (hv : cs[i]? = some v) : (Instr.index t (.agg cs) (.int k (i : Int))).run P w = .ok v w := by
  simp [Instr.index, run_underlying ht, asIntOf, hi, part, isAgg, run_underlying he, hz, hv, go_sem]
theorem sz32 (w : World) : (Go.sizeOf 22).run Tryd.prog w = .ok 1 w := by kernel_rfl

theorem bit_eq (x j : Nat) (hx : x < 2 ^ 32) : bits .and .u32 ((x : Int) / 2 ^ j) 1 = ((x / 2 ^ j % 2 : Nat) : Int) := by
  have hl : x / 2 ^ j < 4294967296 := Nat.lt_of_le_of_lt (Nat.div_le_self _ _) hx
  have := u32_and_nat (x / 2 ^ j) 1 hl (by omega)
  rw [show x / 2 ^ j &&& 1 = x / 2 ^ j % 2 from Nat.and_one_is_mod _] at this
  rw [← this]
  congr 1

theorem info39 : (Tryd.prog.info? 39).map (·.size) = some 32 := by kernel_rfl

set_option maxHeartbeats 400000 in
theorem times_any (M : Array Value) (k x : Nat) (hM : M = cells (cols k)) (hx : x < 2 ^ 32) (w : World) :
    Calls Tryd.prog 18 #[.agg M, .int .u32 (x : Int)] w fun e w' => e = .returned (.int .u32 (hk k x : Nat)) ∧ Below w.heap.size w w' := by
  have HM := Lib.hid hM
  have hs : M.size = 32 := by rw [hM, cells_size, cols_length]
  have HS := Lib.hid hs
  have hg := fun T : TypeId => heap_alloc_new w (.cells M T)
  clear hM hs
  go_enter Tryd.func18, Tryd.ntmps18
  go_wp2_with (refine wpList_load_row rfl 39 _ rfl w.heap.size rfl 39 M _ _ (hg _) Tryd.underlying39 rfl (by rw [HS.out]; exact info39) ?_)
  go_loop [5, 9] (fun z i => ∃ (j y : Nat), j ≤ 32 ∧ i = .int .i64 j ∧ z = .int .u32 (y : Int) ∧ Hid (y = hk k (x % 2 ^ j)) ∧ y < 2 ^ 32) (fun _ i => 32 - (intOf i).toNat)
  case atStart => exact ⟨0, 0, by omega, rfl, rfl, by show 0 = _; rw [Nat.pow_zero, Nat.mod_one, hk_zero], by omega⟩
  case round =>
    obtain ⟨j, y, hj, rfl, rfl, hy, hyl⟩ := hrel
    by_cases hlt : j < 32
    · obtain ⟨c, hc⟩ : ∃ c, c = hk k (2 ^ j) := ⟨_, rfl⟩
      have hv : M[j]? = some (.int .u32 (c : Int)) := by rw [HM.out, hc]; exact cells_get _ _ _ (cols_get k j hlt)
      have hix := fun w => run_index_cell (P := Tryd.prog) w 39 22 .u32 32 M .i64 j _ Tryd.underlying39 Tryd.underlying22 (sz32 w) hlt hv
      have hcl : c < 2 ^ 32 := by rw [hc]; exact hk_lt k (Nat.pow_lt_pow_right (by decide) hlt)
      have hb := bit_eq x j hx
      have hstep := times_succ k x j
      by_cases h1 : x / 2 ^ j % 2 = 1
      · obtain ⟨v, hv⟩ : ∃ v, v = y ^^^ c := ⟨_, rfl⟩
        have hvl : v < 2 ^ 32 := by rw [hv]; exact Nat.xor_lt_two_pow hyl hcl
        have hxo : bits .xor .u32 (y : Int) (c : Int) = (v : Int) := by rw [hv]; exact u32_xor_nat y c hyl hcl
        rw [h1] at hb
        rw [if_pos h1] at hstep
        have HV : Hid (v = hk k (x % 2 ^ (j + 1))) := by show v = _; rw [hv, hy.out, hc, hstep]
        clear hc hv hstep h1
        go_wp2
        go_round
        case rel => exact ⟨j + 1, v, by omega, by go_num, rfl, HV, hvl⟩
        case measure => simp [intOf]; omega
      · have h0 : x / 2 ^ j % 2 = 0 := by omega
        rw [h0] at hb
        rw [if_neg h1] at hstep
        have HV : Hid (y = hk k (x % 2 ^ (j + 1))) := by show y = _; rw [hy.out, hstep]
        clear hc hstep h0 h1
        go_wp2
        go_round
        case rel => exact ⟨j + 1, y, by omega, by go_num, rfl, HV, hyl⟩
        case measure => simp [intOf]; omega
    · have hj' : j = 32 := by omega
      have HJ := Lib.hid hj'
      clear hj'
      go_wp2
      go_ret
      have e : y = hk k x := by rw [hy.out, HJ.out, Nat.mod_eq_of_lt hx]
      exact ⟨ret_u32 e, (Below.refl _ _).alloc (Nat.le_refl _) _⟩
end Go.Proofs.YtokfkihcofpfpaaDoor.MatA
