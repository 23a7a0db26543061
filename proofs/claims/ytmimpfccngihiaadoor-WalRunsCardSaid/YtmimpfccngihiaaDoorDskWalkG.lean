/- What Sync and Remove leave, walked. -/
import Derived.Test.YtmimpfccngihiaaDoorDskWalkF
namespace Go.Proofs.YtmimpfccngihiaaDoor.DskWalkG
open Go.RowKit Go.Proofs.YtmimpfccngihiaaDoor.Kit Go.Proofs.YtmimpfccngihiaaDoor.Blocks Go.Proofs.YtmimpfccngihiaaDoor.Keys Go.Proofs.YtmimpfccngihiaaDoor.Model Go.Proofs.YtmimpfccngihiaaDoor.Disk Go.Proofs.YtmimpfccngihiaaDoor.DskWalkA Go.Proofs.YtmimpfccngihiaaDoor.DskWalkB Go.Proofs.YtmimpfccngihiaaDoor.DskWalkC Go.Proofs.YtmimpfccngihiaaDoor.DskWalkD Go.Proofs.YtmimpfccngihiaaDoor.DskWalkE

section
variable {w : World} {p N : Nat} {m : M} {A : Nat → Option Addr} {c : Nat → Nat} {mb : Option Nat} {x : Int}
set_option maxRecDepth 100000 in
theorem sync_off (n : Int) (h : DV w p N m A c mb x none) (hoff : m.off = true) :
    Calls Tryd.prog 48 #[.pointer (some ⟨p, 0, none⟩), .int .i64 n] w (LeavesD w p (N + 1) (10, m) A mb) := by
  go_enter Tryd.func48, Tryd.ntmps48
  go_wp2_with fail
  refine (find_off n h hoff).mono ?_
  rintro e w1 ⟨rfl, hb1⟩
  go_wp2
  go_ret
  exact ⟨rfl, After.still h (hb1.alloc hb1.size _)⟩
set_option maxRecDepth 100000 in
theorem sync_none (n : Int) (h : DV w p N m A c mb x none) (hoff : m.off = false) (hn : m.has n = false) (h0 : -9223372036854775808 ≤ n) (h1 : n ≤ 9223372036854775807) :
    Calls Tryd.prog 48 #[.pointer (some ⟨p, 0, none⟩), .int .i64 n] w (LeavesD w p (N + 1) (12, m) A mb) := by
  go_enter Tryd.func48, Tryd.ntmps48
  go_wp2_with fail
  refine (find_none n h hoff hn h0 h1).mono ?_
  rintro e w1 ⟨rfl, hb1⟩
  go_wp2
  go_ret
  exact ⟨rfl, After.still h (hb1.alloc hb1.size _)⟩
set_option maxRecDepth 100000 in
theorem sync_dry (n : Int) (h : DV w p N m A c mb x none) (hoff : m.off = false) (hn : m.has n = true) (hf : m.fuel = 0) :
    Calls Tryd.prog 48 #[.pointer (some ⟨p, 0, none⟩), .int .i64 n] w (LeavesD w p (N + 1) (10, m.dead) A mb) := by
  have H0 := Lib.hid hf
  have hfind := find_yes n h hoff hn
  clear hf hoff hn
  go_enter Tryd.func48, Tryd.ntmps48
  go_wp2_with fail
  refine hfind.mono ?_
  rintro e w1 ⟨rfl, hb1⟩
  go_wp2_with fail
  refine (step_dry (h.below (hb1.alloc hb1.size _)) H0.out).mono ?_
  rintro e w2 ⟨rfl, ht⟩
  go_wp2
  go_ret
  exact ⟨rfl, After.dry (hb1.alloc hb1.size _) ht⟩
set_option maxRecDepth 100000 in
set_option maxHeartbeats 1000000 in
theorem sync_ok (i : Nat) (h : DV w p N m A c mb x none) (hN : N < 1000000) (hi16 : i < 16) (hoff : m.off = false) (hn : m.has (i : Int) = true) (hf : ¬ m.fuel = 0) :
    Calls Tryd.prog 48 #[.pointer (some ⟨p, 0, none⟩), .int .i64 (i : Int)] w (LeavesD w p (N + 1) (0, m.burnt.set i (m.all i) [] true) A mb) := by
  have H0 := Lib.hid hf
  have hfind := find_yes (i : Int) h hoff hn
  simp only [Int.toNat_natCast] at hfind
  obtain ⟨L, hL⟩ : ∃ L, (m.all i).length = L := ⟨_, rfl⟩
  obtain ⟨a, ha⟩ : ∃ a, A i = a := ⟨_, rfl⟩
  obtain ⟨k, hk⟩ : ∃ k, c i = k := ⟨_, rfl⟩
  obtain ⟨fl, hfl⟩ : ∃ fl : Int, ((m.firm i).length : Int) = fl := ⟨_, rfl⟩
  rw [hL, ha, hk, hfl] at hfind
  have HL := Lib.hid hL
  have HA := Lib.hid ha
  have HK := Lib.hid hk
  clear hf hoff hn hL ha hk hfl
  go_enter Tryd.func48, Tryd.ntmps48
  go_wp2_with fail
  refine hfind.mono ?_
  rintro e w1 ⟨rfl, hb1⟩
  go_wp2_with fail
  have hb2 := hb1.alloc hb1.size (.cells #[.slice a L k, .int .i64 fl] 82)
  have hF1 := heap_alloc_new w1 (.cells #[.slice a L k, .int .i64 fl] 82)
  have hs1 := hb1.size
  have hpl := h.lt
  refine (step_wet (h.below hb2) H0.out).mono ?_
  rintro e w2 ⟨rfl, x2, h2, ho2⟩
  have hF2 : w2.heap[w1.heap.size]? = some (.cells #[.slice a L k, .int .i64 fl] 82 (0, 0)) := ho2.heap hF1 (by omega)
  have hc20 : w2.cell? ⟨w1.heap.size, 0, none⟩ = some (.slice a L k) := by rw [cell_at hF2]; rfl
  have hc21 : w2.cell? ⟨w1.heap.size, 1, none⟩ = some (.int .i64 fl) := by rw [cell_at hF2]; rfl
  have hf21 := free_at hF2 1
  have hlt2 := lt_at hF2
  have ho3 := only_set w2 w1.heap.size 1 (.int .i64 (L : Int))
  have h3 := h2.keep ho3 (fun q hq => by have := h.foot_lt hq; omega)
  have hown3 := h3.own i (by simp)
  have HO := Lib.hid ho3
  clear hF1 hF2 ho3
  go_wp2_with fail
  refine (put_any h3 hN i hi16 (fun j hj => by cases hj) (m.all i) [] a k ?_ ?_ _ _ _ rfl ?_ ?_).mono ?_
  · rw [List.append_nil, ← HA.out, ← HK.out]
    exact hown3
  · intro y hy j z hj hz
    rw [← HA.out] at hy
    exact h3.apart i j y z (by omega) hy hz
  · rw [HL.out]
  · rw [List.append_nil, HL.out]
  · rintro e w5 ⟨rfl, A', c', mb', x', h5, ho5, hf5⟩
    have ho3 := HO.out
    have hs3 := ho3.size
    have hs2 := ho2.size
    have hs0 := hb2.size
    go_wp2
    go_ret
    refine ⟨rfl, A', c', mb', x', h5, (((Only.of_below hb2).trans' ho2 fun q hq => .inl (.inl hq)).trans' ho3 fun q hq => .inr (by omega)).trans' ho5 fun q hq => .inl hq, fun q hq => ?_⟩
    rcases hf5 q hq with h1 | h1 | ⟨y, hy, rfl⟩
    · exact .inl h1
    · exact .inr (by omega)
    · exact .inl (.inr (.inr ⟨i, y, by rw [HA.out]; exact hy, rfl⟩))
theorem sync_any (n : Int) (h : DV w p N m A c mb x none) (hN : N < 1000000) (h0 : -9223372036854775808 ≤ n) (h1 : n ≤ 9223372036854775807) :
    Calls Tryd.prog 48 #[.pointer (some ⟨p, 0, none⟩), .int .i64 n] w (LeavesD w p (N + 1) (m.sync n) A mb) := by
  unfold M.sync
  by_cases hoff : m.off = true
  · rw [if_pos hoff]
    exact sync_off n h hoff
  · rw [if_neg hoff]
    have hoff' : m.off = false := by simpa using hoff
    by_cases hn : m.has n = false
    · rw [if_pos hn]
      exact sync_none n h hoff' hn h0 h1
    · rw [if_neg hn]
      have hn' : m.has n = true := by simpa using hn
      by_cases hf : m.fuel = 0
      · rw [if_pos hf]
        exact sync_dry n h hoff' hn' hf
      · rw [if_neg hf]
        have hin := (has_in hn').1
        have hni : ((n.toNat : Nat) : Int) = n := by omega
        have := sync_ok n.toNat h hN (by omega) hoff' (by rw [hni]; exact hn') hf
        rwa [hni] at this

/-! ### Remove -/
end
end Go.Proofs.YtmimpfccngihiaaDoor.DskWalkG
