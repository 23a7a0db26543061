/- What the program's Reached answers, walked. -/
import Derived.Test.YtdbmpfongfiagaaSort
namespace Go.Proofs.Ytdbmpfongfiagaa.Reach
open Go.RowKit Go.Proofs.Ytdbmpfongfiagaa.Kit Go.Proofs.Ytdbmpfongfiagaa.Blocks Go.Proofs.Ytdbmpfongfiagaa.Quorum Go.Proofs.Ytdbmpfongfiagaa.QuoWalkA Go.Proofs.Ytdbmpfongfiagaa.QuoWalkB Go.Proofs.Ytdbmpfongfiagaa.QuoWalkC Go.Proofs.Ytdbmpfongfiagaa.QuoWalkD Go.Proofs.Ytdbmpfongfiagaa.Told Go.Proofs.Ytdbmpfongfiagaa.Sorting

/-- What Reached answers. -/
def ReachedR (c : Nat) (l : List Nat) (w : World) (e : Ending) (w' : World) : Prop := ∃ r : Nat, e = .returned (.int .u64 (r : Int)) ∧ IsR c l r ∧ Below w.heap.size w w'

abbrev QuietN (c k : Nat) (w : World) (q : Nat) : Prop :=
  Calls Try.prog 64 #[.int .u64 (c : Int)] (w.drewN q) fun e w' => e = .returned (.int .i64 ((k : Int) + 1)) ∧ ∃ m, w' = w.drewN m
theorem quietN (c k : Nat) (hc : c < 2 ^ 64) (hk : need c = k + 1) (w : World) (q : Nat) : QuietN c k w q := by
  have := need_any c hc (w.drewN q)
  rw [hk] at this
  exact Calls.quiet_of_same (this.mono fun _ _ h => ⟨h.1, h.2.symm⟩)

set_option maxHeartbeats 2000000 in
set_option maxRecDepth 100000 in
theorem reached_any (c : Nat) (hc : c < 2 ^ 64) (A : Option Addr) (n cap : Nat) (l : List Nat) (w : World) (hr : Reads w w.heap.size 1 A n (unums l)) :
    Calls Try.prog 57 #[.int .u64 (c : Int), .slice A n cap] w (ReachedR c l w) := by
  have HR := Lib.hid hr
  clear hr
  go_enter Try.func57, Try.ntmps57
  go_wp2_with fail
  refine (mem_any c hc _).mono ?_
  rintro e w2 ⟨v, rfl, hown, hbel⟩
  have hw1 : (w.alloc (.cells #[.slice A n cap] 90)).heap.size = w.heap.size + 1 := by simp
  have hb0 : Below w.heap.size w (w.alloc (.cells #[.slice A n cap] 90)) := (Below.refl _ _).alloc (Nat.le_refl _) _
  have hcb1 : (w.alloc (.cells #[.slice A n cap] 90)).cell? ⟨w.heap.size, 0, none⟩ = some (.slice A n cap) := by simp
  have hb2 : Below w.heap.size w w2 := hb0.trans (hbel.mono (by omega))
  have hcb2 : w2.cell? ⟨w.heap.size, 0, none⟩ = some (.slice A n cap) := (hbel.cell (p := ⟨w.heap.size, 0, none⟩) (by show w.heap.size < _; omega)).trans hcb1
  have hsz2 : w.heap.size + 1 ≤ w2.heap.size := by have := hbel.size; omega
  rw [hw1] at hown
  clear hcb1 hb0 hbel hw1
  have hlm : (mem c).length = size c := rfl
  have h7 := size_le c
  by_cases hs : size c = 0
  · rw [hlm, hs] at hown
    obtain ⟨A', c', rfl, _⟩ := own_form hown
    have HZ : Hid (IsR c l 0) := .inl ⟨hs, rfl⟩
    clear hs hlm h7 hown
    go_wp2
    go_ret
    exact ⟨0, rfl, HZ.out, hb2⟩
  · have hpos : 0 < size c := by omega
    obtain ⟨s, hs0⟩ : ∃ s, size c = s := ⟨_, rfl⟩
    rw [hlm, hs0] at hown
    rw [hs0] at h7 hs
    have hnm : mem c ≠ [] := fun e => by rw [e] at hlm; simp at hlm; omega
    obtain ⟨g, cap', rfl, hgb, hgl⟩ : ∃ g cap', v = .slice (some ⟨g, 0, none⟩) s cap' ∧ w.heap.size + 1 ≤ g ∧ g < w2.heap.size := by
      rcases hown.2 with ⟨_, h0⟩ | ⟨g, cap', cur, hv, h1, h2, _⟩
      · omega
      · exact ⟨g, cap', hv, h1, lt_at h2⟩
    have hst : (store ⟨w2.heap.size, 0, none⟩ (.func (.func 74) #[] #[.pointer (some ⟨w.heap.size, 0, none⟩)])).run Try.prog (w2.alloc (.cells #[.nilFunc] 74)) =
        .ok () ((w2.alloc (.cells #[.nilFunc] 74)).setCell ⟨w2.heap.size, 0, none⟩ (.func (.func 74) #[] #[.pointer (some ⟨w.heap.size, 0, none⟩)])) := by
      rw [run_store _ _ _ _ _ rfl, free_at (heap_alloc_new w2 _) 0]
      simp
    have HS := Lib.hid hs0
    have HP := Lib.hid hpos
    clear hs0 hlm hnm hpos
    have hne : (s : Int) ≠ 0 := by omega
    go_wp2_with fail
    have hcb3 : (w2.alloc (.cells #[.func (.func 74) #[] #[.pointer (some ⟨w.heap.size, 0, none⟩)]] 74)).cell? ⟨w.heap.size, 0, none⟩ = some (.slice A n cap) := by
      rw [World.cell?_alloc_lt _ _ _ (by show w.heap.size < _; omega)]
      exact hcb2
    have hcd3 : (w2.alloc (.cells #[.func (.func 74) #[] #[.pointer (some ⟨w.heap.size, 0, none⟩)]] 74)).cell? ⟨w2.heap.size, 0, none⟩ = some (.func (.func 74) #[] #[.pointer (some ⟨w.heap.size, 0, none⟩)]) := by simp
    have hr2 : Reads w2 w.heap.size 1 A n (unums l) := HR.out.below hb2
    have hb3 : Below w.heap.size w (w2.alloc (.cells #[.func (.func 74) #[] #[.pointer (some ⟨w.heap.size, 0, none⟩)]] 74)) := hb2.alloc (by omega) _
    have hr3 := hr2.alloc (show w.heap.size ≤ w2.heap.size by omega) (.cells #[.func (.func 74) #[] #[.pointer (some ⟨w.heap.size, 0, none⟩)]] 74)
    have hown3 := hown.alloc (.cells #[.func (.func 74) #[] #[.pointer (some ⟨w.heap.size, 0, none⟩)]] 74)
    refine (sort_any hown3 (by omega) hcd3 hcb3 hr3 (by omega) (by omega) (by omega)).mono ?_
    rintro e w4 ⟨rfl, ids, hlen, hperm, hfall, hown4, honly⟩
    have hsz3 : (w2.alloc (.cells #[.func (.func 74) #[] #[.pointer (some ⟨w.heap.size, 0, none⟩)]] 74)).heap.size = w2.heap.size + 1 := by simp
    have hcb4 := (honly.cell (p := ⟨w.heap.size, 0, none⟩) (by show w.heap.size < _; omega) (by show ¬ w.heap.size = g; omega)).trans hcb3
    have hcd4 := (honly.cell (p := ⟨w2.heap.size, 0, none⟩) (by show w2.heap.size < _; omega) (by show ¬ w2.heap.size = g; omega)).trans hcd3
    have hb4 : Below w.heap.size w w4 := below_only hb3 honly (by omega) (fun k e => by subst e; omega)
    have hr4 : Reads w4 w.heap.size 1 A n (unums l) := HR.out.below hb4
    have HB := Lib.hid hb4
    obtain ⟨k, hk⟩ : ∃ k, need c = k + 1 := ⟨need c - 1, by have := need_pos c; omega⟩
    have hks : k < s := by have := need_size HP.out; have := HS.out; omega
    obtain ⟨b1, o1, j, hA1, _, hj, hcell⟩ := Reads.num (Reads.of_own hown4) hks
    injection hA1 with hA1
    injection hA1 with e1 e2
    subst e1 e2
    obtain ⟨x, hx⟩ : ∃ x, told l j = x := ⟨_, rfl⟩
    have HI : Hid (IsR c l x) := by
      have := isR_sorted hperm HP.out (by rw [hlen]; exact hfall)
      rw [hk, Nat.add_sub_cancel] at this
      show IsR c l x
      rw [← hx]
      simpa [List.getD, hj] using this
    rw [Nat.zero_add] at hcell
    have C0 : Hid (∀ q, QuietN c k w4 q) := fun q => quietN c k hc hk w4 q
    have C1 : Hid (∀ q, QuietT w.heap.size x j w4 q) := fun q => quietT w.heap.size A n cap l w.heap.size j x hx w4 hcb4 hr4 q
    have hk0 : (0 : Int) ≤ (k : Int) := by omega
    have hk1 : (k : Int) < (s : Int) := by omega
    have hwk : IntKind.i64.wrap (k : Int) = (k : Int) := IntWalk.i64_in _ (by omega)
    clear hb4 hr4 hcb4 hcb3 hcd3 hr2 hb3 hr3 hown3 hown4 honly hperm hfall hx hk hj hsz3 hst hne hs h7 hsz2 hcb2 hb2 hown
    go_wp2
    go_quiet ((first
      | (go_at_call 64; with_reducible exact C0.out _)
      | (go_at_call 74; with_reducible exact C1.out _)))
    go_wp2
    go_ret
    exact ⟨x, rfl, HI.out, HB.out.trans (below_drewN _ _ _)⟩
end Go.Proofs.Ytdbmpfongfiagaa.Reach
