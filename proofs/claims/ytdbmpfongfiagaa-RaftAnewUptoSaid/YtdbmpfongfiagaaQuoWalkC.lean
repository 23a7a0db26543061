/- What the program's Members and the document's leave, walked; the document's Need and Majority. (Written by tools/gen_mem.py.) -/
import Derived.Test.YtdbmpfongfiagaaQuoWalkB
import Derived.Test.YtdbmpfongfiagaaOnly
namespace Go.Proofs.Ytdbmpfongfiagaa.QuoWalkC
open Go.RowKit Go.Proofs.Ytdbmpfongfiagaa.Kit Go.Proofs.Ytdbmpfongfiagaa.Blocks Go.Proofs.Ytdbmpfongfiagaa.Quorum Go.Proofs.Ytdbmpfongfiagaa.QuoWalkA Go.Proofs.Ytdbmpfongfiagaa.QuoWalkB

/-- Numbers as cells. -/
def nums (l : List Nat) : List Value := l.map fun (i : Nat) => Value.int .i64 (i : Int)
theorem nums_length (l : List Nat) : (nums l).length = l.length := by simp [nums]
theorem Reads.num {w : World} {B n k : Nat} {A : Option Addr} {l : List Nat} (h : Reads w B 1 A n (nums l)) (hk : k < n) : ∃ b o j, A = some ⟨b, o, none⟩ ∧ b < B ∧ l[k]? = some j ∧ w.cell? ⟨b, o + k, none⟩ = some (.int .i64 (j : Int)) := by
  obtain ⟨ad, u, rfl, hb, hx, hc⟩ := h.at_ hk
  have hs := h.spot (by omega)
  have hl : k < l.length := by have := h.len; rw [nums_length] at this; omega
  simp only [nums, List.getElem?_map, List.getElem?_eq_getElem hl, Option.map_some, Option.some.injEq] at hx
  subst hx
  refine ⟨ad.block, ad.off, l[k], by rw [← hs], hb, List.getElem?_eq_getElem hl, ?_⟩
  rw [hs, Addr.add_lit] at hc
  exact hc
theorem info3 : (Try.prog.info? 3).map (fun i => (i.zero, i.size, i.bytes)) = some (some (.int .i64 0), 1, 8) := by kernel_rfl
def memTo (c k : Nat) : List Nat := (List.range k).filter fun i => c.testBit i
theorem memTo_yes (c k : Nat) (h : c.testBit k = true) : memTo c (k + 1) = memTo c k ++ [k] := by simp [memTo, List.range_succ, List.filter_append, h]
theorem memTo_no (c k : Nat) (h : c.testBit k = false) : memTo c (k + 1) = memTo c k := by simp [memTo, List.range_succ, List.filter_append, h]
theorem memTo_le (c k : Nat) : (memTo c k).length ≤ k := by
  have := List.length_filter_le (fun i => c.testBit i) (List.range k)
  simpa [memTo] using this
/-- What a call that makes numbers leaves. -/
def MadeN (w : World) (l : List Nat) (e : Ending) (w' : World) : Prop :=
  ∃ v, e = .returned v ∧ w'.ownsRow w.heap.size 3 1 v l.length (nums l) ∧ Below w.heap.size w w'

set_option maxRecDepth 100000 in
set_option maxHeartbeats 1000000 in
theorem mem_any (c : Nat) (hc : c < 2 ^ 64) (w : World) : Calls Try.prog 44 #[.int .u64 (c : Int)] w (MadeN w (mem c)) := by
  obtain ⟨i0, hi0, hz0, hz1, hz2⟩ := info_parts info3
  go_enter Try.func44, Try.ntmps44
  go_wp2
  go_loopw [3, 5] (fun v i wr => ∃ k : Nat, k ≤ 7 ∧ i = .int .i64 (k : Int) ∧ wr.ownsRow w.heap.size 3 1 v (memTo c k).length (nums (memTo c k)) ∧ Below w.heap.size w wr) (fun _ i _ => 7 - (intOf i).toNat)
  case atStart => exact ⟨0, by omega, rfl, ⟨rfl, .inl ⟨rfl, rfl⟩⟩, Below.refl _ _⟩
  case round =>
    obtain ⟨k, hk, rfl, hown, hbel⟩ := hrel
    by_cases hlt : k < 7
    · have hll := memTo_le c k
      have hsz := hbel.size
      have hcall := fun w => has_any c hc (k : Int) w
      simp only [has_nat c hlt] at hcall
      cases ht : c.testBit k with
      | true =>
        have hs := memTo_yes c k ht
        have HS := Lib.hid hs
        rw [ht] at hcall
        have HC := Lib.hid hcall
        clear hs hcall
        obtain ⟨n, hn⟩ : ∃ n, (memTo c k).length = n := ⟨_, rfl⟩
        rw [hn] at hll hown
        have HN := Lib.hid hn
        clear hn ht
        have hm1 : n + 1 ≤ maxLen := by unfold maxLen; omega
        have hs1 : (n + 1) * 8 ≤ 140737488355328 := by omega
        have hBo : ∀ o, w.heap.size ≤ (wr.alloc o).heap.size := fun o => by simp; omega
        go_wp2_with (first
          | (go_at_call 41; refine (HC.out _).mono ?_; rintro e w1 ⟨rfl, rfl⟩)
          | (at_builtin
             refine wpList_append_any _ rfl (.tmp 11) (.tmp 13) _ rfl w.heap.size 3 i0 _ 1 8 Try.underlying75 hi0 hz0 hz1 hz2 rfl (by decide) _ n (nums (memTo c k)) rfl (hown.alloc _)
               (wr.heap.size + 1) _ 1 1 [.int .i64 (k : Int)] rfl (reads_one _ _ _) (by simp [Value.oneCell']) hm1 hs1 (hBo _) ?_
             intro v' w1 hown1 hg1 hat1))
        have hb1 : Below w.heap.size w w1 := (hbel.alloc hsz _).grown hg1 (by simp; omega) (own_lt hown)
        go_wp2
        go_roundw
        case rel => exact ⟨k + 1, by omega, by go_num, own_cast hown1 (by rw [HS.out, List.length_append, HN.out]; rfl) (by rw [HS.out]; simp [nums]), hb1⟩
        case measure => simp [intOf]; omega
      | false =>
        have hs := memTo_no c k ht
        have HS := Lib.hid hs
        rw [ht] at hcall
        have HC := Lib.hid hcall
        clear hs hcall ht
        go_wp2_with (go_at_call 41; refine (HC.out _).mono ?_; rintro e w1 ⟨rfl, rfl⟩)
        go_roundw
        case rel => exact ⟨k + 1, by omega, by go_num, by rw [HS.out]; exact hown, hbel⟩
        case measure => simp [intOf]; omega
    · obtain rfl : k = 7 := by omega
      go_wp2
      go_ret
      exact ⟨_, rfl, hown, hbel⟩


end Go.Proofs.Ytdbmpfongfiagaa.QuoWalkC
