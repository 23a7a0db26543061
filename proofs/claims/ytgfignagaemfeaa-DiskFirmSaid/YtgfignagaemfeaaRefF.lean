/- What the document's Files and Ints leave, walked. -/
import Derived.Test.YtgfignagaemfeaaRefE
import Derived.Test.YtgfignagaemfeaaWalkJ
import Derived.Lib.MinMax
namespace Go.Proofs.Ytgfignagaemfeaa.RefF
open Go.RowKit Go.Proofs.Ytgfignagaemfeaa.Kit Go.Proofs.Ytgfignagaemfeaa.Blocks Go.Proofs.Ytgfignagaemfeaa.Model Go.Proofs.Ytgfignagaemfeaa.WalkA Go.Proofs.Ytgfignagaemfeaa.WalkC Go.Proofs.Ytgfignagaemfeaa.WalkD Go.Proofs.Ytgfignagaemfeaa.WalkJ Go.Proofs.Ytgfignagaemfeaa.Ref Go.Proofs.Ytgfignagaemfeaa.RefB Go.Proofs.Ytgfignagaemfeaa.RefC

section
variable {w : World} {q : Nat} {m : M}
set_option maxHeartbeats 1000000 in
theorem rfiles_any (h : RefAt w q m) : Calls Try.prog 21 #[.pointer (some ⟨q, 0, none⟩)] w (MadeN w m.files) := by
  obtain ⟨i0, hi0, hz0, hz1, hz2⟩ := info_parts info3
  go_enter Try.func21, Try.ntmps21
  go_wp2
  go_loopw [3, 4] (fun v i wr => ∃ k : Nat, k ≤ 16 ∧ i = .int .i64 (k : Int) ∧ wr.ownsRow w.heap.size 3 1 v (filesTo m k).length (nums (filesTo m k)) ∧ Below w.heap.size w wr) (fun _ i _ => 16 - (intOf i).toNat)
  case atStart => exact ⟨0, by omega, rfl, ⟨rfl, .inl ⟨rfl, rfl⟩⟩, Below.refl _ _⟩
  case round =>
    obtain ⟨k, hk, rfl, hown, hbel⟩ := hrel
    by_cases hlt : k < 16
    · have hh := h.below hbel
      have hc3 := hh.there hlt
      have hpl := hh.lt
      have hll := filesTo_le m k
      have hsz := hbel.size
      cases ht : m.there k with
      | true =>
        have hs := filesTo_yes m k ht
        have HS := Lib.hid hs
        rw [ht] at hc3
        clear hs
        obtain ⟨n, hn⟩ : ∃ n, (filesTo m k).length = n := ⟨_, rfl⟩
        rw [hn] at hll hown
        have HN := Lib.hid hn
        clear hn ht
        have hm1 : n + 1 ≤ maxLen := by unfold maxLen; omega
        have hs1 : (n + 1) * 8 ≤ 140737488355328 := by omega
        have hBo : ∀ o, w.heap.size ≤ (wr.alloc o).heap.size := fun o => by simp; omega
        go_wp2_with (first
          | (at_builtin
             refine wpList_append_any _ rfl (.tmp 15) (.tmp 17) _ rfl w.heap.size 3 i0 _ 1 8 Try.underlying31 hi0 hz0 hz1 hz2 rfl (by decide) _ n (nums (filesTo m k)) rfl (hown.alloc _)
               (wr.heap.size + 1) _ 1 1 [.int .i64 (k : Int)] rfl (reads_one _ _ _) (by simp [Value.oneCell']) hm1 hs1 (hBo _) ?_
             intro v' w1 hown1 hg1 hat1))
        have hb1 : Below w.heap.size w w1 := (hbel.alloc hsz _).grown hg1 (by simp; omega) (own_lt hown)
        go_wp2
        go_roundw
        case rel => exact ⟨k + 1, by omega, by go_num, own_cast hown1 (by rw [HS.out, List.length_append, HN.out]; rfl) (by rw [HS.out]; simp [nums]), hb1⟩
        case measure => simp [intOf]; omega
      | false =>
        have hs := filesTo_no m k ht
        have HS := Lib.hid hs
        rw [ht] at hc3
        clear hs ht
        go_wp2
        go_roundw
        case rel => exact ⟨k + 1, by omega, by go_num, by rw [HS.out]; exact hown, hbel⟩
        case measure => simp [intOf]; omega
    · obtain rfl : k = 16 := by omega
      go_wp2
      go_ret
      exact ⟨_, rfl, hown, hbel⟩
end

/-- Two lists that hold the same numbers are told as the same. -/
theorem ints_same (A1 A2 : Option Addr) (c1 c2 : Nat) (l : List Nat) (w : World) (h1 : Reads w w.heap.size 1 A1 l.length (nums l)) (h2 : Reads w w.heap.size 1 A2 l.length (nums l)) (hl : l.length ≤ 1048576) :
    Calls Try.prog 19 #[.slice A1 l.length c1, .slice A2 l.length c2] w fun e w' => e = .returned (.bool true) ∧ Below w.heap.size w w' := by
  obtain ⟨n, hn⟩ : ∃ n, l.length = n := ⟨_, rfl⟩
  rw [hn] at h1 h2 hl ⊢
  clear hn
  go_enter Try.func19, Try.ntmps19
  go_wp2
  go_loopw [5] (fun i wr => ∃ k : Nat, k ≤ n ∧ i = .int .i64 (k : Int) ∧ Below w.heap.size w wr) (fun i _ => n - (intOf i).toNat)
  case atStart => exact ⟨0, by omega, rfl, Below.refl _ _⟩
  case round =>
    obtain ⟨k, hk, rfl, hb⟩ := hrel
    by_cases hlt : k < n
    · obtain ⟨b1, o1, j, rfl, hbl1, hj1, hc1⟩ := Reads.num (h1.below hb) hlt
      obtain ⟨b2, o2, j', rfl, hbl2, hj2, hc2⟩ := Reads.num (h2.below hb) hlt
      rw [hj1] at hj2
      cases hj2
      have hk0 : (0 : Int) ≤ (k : Int) := by omega
      have hk1 : (k : Int) < (n : Int) := by omega
      have hneq : ((j : Int) != (j : Int)) = false := by simp
      clear hj1
      go_wp2_with fail
      go_quiet (fail)
      all_goals go_wp2
      all_goals
        go_roundw
        case rel => exact ⟨k + 1, by omega, by go_num, hb.trans (RefB.below_drewN _ _ _)⟩
        case measure => simp [intOf]; omega
    · obtain rfl : k = n := by omega
      go_wp2
      go_ret
      exact ⟨rfl, hb⟩
end Go.Proofs.Ytgfignagaemfeaa.RefF
