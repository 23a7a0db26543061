/- What the program's Change and the document's answer, walked. -/
import Derived.Test.YtokifeghoodkgaaGreatQuoWalkD
namespace Go.Proofs.YtokifeghoodkgaaGreat.Change
open Go.RowKit Go.Proofs.YtokifeghoodkgaaGreat.Kit Go.Proofs.YtokifeghoodkgaaGreat.Blocks Go.Proofs.YtokifeghoodkgaaGreat.Quorum Go.Proofs.YtokifeghoodkgaaGreat.QuoWalkA Go.Proofs.YtokifeghoodkgaaGreat.QuoWalkB Go.Proofs.YtokifeghoodkgaaGreat.QuoWalkC Go.Proofs.YtokifeghoodkgaaGreat.QuoWalkD

theorem sound_hid {c : Nat} {b : Bool} (hc : c < 2 ^ 64) (h : Hid (sound c = b)) (w : World) : Calls Tryz.prog 25 #[.int .u64 (c : Int)] w fun e w' => e = .returned (.bool b) ∧ w = w' := by
  have := sound_any c hc w
  rwa [h.out] at this
theorem rsound_hid {c : Nat} {b : Bool} (hc : c < 2 ^ 64) (h : Hid (sound c = b)) (w : World) : Calls Tryz.prog 30 #[.int .u64 (c : Int)] w fun e w' => e = .returned (.bool b) ∧ w = w' := by
  have := rsound_any c hc w
  rwa [h.out] at this
/-- A pair of numbers is handed back. -/
def Pair (r : Nat × Nat) (e : Ending) : Prop := e = .returned (.tuple #[.int .u64 (r.1 : Int), .int .i64 (r.2 : Int)])
theorem change_no {c : Nat} {add : Bool} {n : Int} (h : ¬ (sound c = true ∧ node n = true)) : change c add n = (0, 1) := if_neg h
theorem change_yes {c i : Nat} {add : Bool} (hs : sound c = true) (hi : i < 7) : change c add (i : Int) = turn c add i := by
  unfold change
  rw [if_pos ⟨hs, node_of hi⟩, Int.toNat_natCast]
theorem sound_lt {c : Nat} (h : sound c = true) : 0 < c ∧ c < 128 := of_decide_eq_true h

set_option maxRecDepth 100000 in
theorem change_any (c : Nat) (hc : c < 2 ^ 64) (add : Bool) (n : Int) (w : World) : Calls Tryz.prog 59 #[.int .u64 (c : Int), .bool add, .int .i64 n] w fun e w' => Pair (change c add n) e ∧ w = w' := by
  cases hs : sound c with
  | false =>
    have HS := Lib.hid hs
    have HC : Hid (change c add n = (0, 1)) := change_no (by simp [hs])
    clear hs
    go_enter Tryz.func59, Tryz.ntmps59
    go_wp2_with (go_at_call 25; refine (sound_hid hc HS _).mono ?_; rintro e w1 ⟨rfl, rfl⟩)
    go_ret2
    exact ⟨by rw [HC.out]; rfl, rfl⟩
  | true =>
    have HS := Lib.hid hs
    cases hn : node n with
    | false =>
      have HN := Lib.hid hn
      have HC : Hid (change c add n = (0, 1)) := change_no (by simp [hn])
      clear hs hn
      go_enter Tryz.func59, Tryz.ntmps59
      go_wp2_with (first
        | (go_at_call 25; refine (sound_hid hc HS _).mono ?_; rintro e w1 ⟨rfl, rfl⟩)
        | (go_at_call 95; refine (node_hid HN _).mono ?_; rintro e w1 ⟨rfl, rfl⟩))
      go_ret2
      exact ⟨by rw [HC.out]; rfl, rfl⟩
    | true =>
      obtain ⟨i, rfl, hi⟩ := node_nat hn
      have HN := Lib.hid hn
      have hch := change_yes (add := add) hs hi
      have hlt := sound_lt hs
      have hp := pow_lt i hi
      have ho := fun w => only_any i hi w
      have hh := fun w => has_any c hc (i : Int) w
      simp only [has_nat c hi] at hh
      obtain ⟨t, ht⟩ : ∃ t, c.testBit i = t := ⟨_, rfl⟩
      obtain ⟨q, hq⟩ : ∃ q, 2 ^ i = q := ⟨_, rfl⟩
      have hx : bits .xor .u64 (c : Int) (q : Int) = ((c ^^^ q : Nat) : Int) := u64_xor_nat c q hc (by omega)
      unfold turn at hch
      rw [ht] at hch hh
      simp only [hq] at ho hch hp
      by_cases e1 : t = add
      · have HC : Hid (change c add (i : Int) = (0, 32)) := by show _ = _; rw [hch, if_pos (.inl e1)]
        have hbb : (t == add) = true := by simp [e1]
        clear hch hs hn ht hq hx ho e1
        go_enter Tryz.func59, Tryz.ntmps59
        go_wp2_with (first
          | (go_at_call 25; refine (sound_hid hc HS _).mono ?_; rintro e w1 ⟨rfl, rfl⟩)
          | (go_at_call 95; refine (node_hid HN _).mono ?_; rintro e w1 ⟨rfl, rfl⟩)
          | (go_at_call 88; refine (hh _).mono ?_; rintro e w1 ⟨rfl, rfl⟩))
        go_ret2
        exact ⟨by rw [HC.out]; rfl, rfl⟩
      · have hbb : (t == add) = false := by simp [e1]
        by_cases e2 : c = q
        · have HC : Hid (change c add (i : Int) = (0, 32)) := by show _ = _; rw [hch, if_pos (.inr e2)]
          have hcq : ((c : Int) == (q : Int)) = true := by simp [e2]
          clear hch hs hn ht hq hx e1 e2
          go_enter Tryz.func59, Tryz.ntmps59
          go_wp2_with (first
            | (go_at_call 25; refine (sound_hid hc HS _).mono ?_; rintro e w1 ⟨rfl, rfl⟩)
            | (go_at_call 95; refine (node_hid HN _).mono ?_; rintro e w1 ⟨rfl, rfl⟩)
            | (go_at_call 88; refine (hh _).mono ?_; rintro e w1 ⟨rfl, rfl⟩)
            | (go_at_call 96; refine (ho _).mono ?_; rintro e w1 ⟨rfl, rfl⟩))
          go_ret2
          exact ⟨by rw [HC.out]; rfl, rfl⟩
        · have HC : Hid (change c add (i : Int) = (c ^^^ q, 0)) := by show _ = _; rw [hch, if_neg (by simp [e1, e2])]
          have hcq : ((c : Int) == (q : Int)) = false := by simp; omega
          obtain ⟨y, hy⟩ : ∃ y, c ^^^ q = y := ⟨_, rfl⟩
          rw [hy] at hx HC
          clear hch hs hn ht hq e1 hy
          go_enter Tryz.func59, Tryz.ntmps59
          go_wp2_with (first
            | (go_at_call 25; refine (sound_hid hc HS _).mono ?_; rintro e w1 ⟨rfl, rfl⟩)
            | (go_at_call 95; refine (node_hid HN _).mono ?_; rintro e w1 ⟨rfl, rfl⟩)
            | (go_at_call 88; refine (hh _).mono ?_; rintro e w1 ⟨rfl, rfl⟩)
            | (go_at_call 96; refine (ho _).mono ?_; rintro e w1 ⟨rfl, rfl⟩))
          go_ret2
          exact ⟨by rw [HC.out]; rfl, rfl⟩

set_option maxRecDepth 100000 in
theorem rchange_any (c : Nat) (hc : c < 2 ^ 64) (add : Bool) (n : Int) (w : World) : Calls Tryz.prog 78 #[.int .u64 (c : Int), .bool add, .int .i64 n] w fun e w' => Pair (change c add n) e ∧ Below w.heap.size w w' := by
  cases hs : sound c with
  | false =>
    have HS := Lib.hid hs
    have HC : Hid (change c add n = (0, 1)) := change_no (by simp [hs])
    clear hs
    go_enter Tryz.func78, Tryz.ntmps78
    go_wp2_with (go_at_call 30; refine (rsound_hid hc HS _).mono ?_; rintro e w1 ⟨rfl, rfl⟩)
    go_ret2
    exact ⟨by rw [HC.out]; rfl, Below.refl _ _⟩
  | true =>
    have HS := Lib.hid hs
    by_cases h0 : n < 0
    · have HC : Hid (change c add n = (0, 1)) := change_no (by simp [node]; omega)
      clear hs
      go_enter Tryz.func78, Tryz.ntmps78
      go_wp2_with (go_at_call 30; refine (rsound_hid hc HS _).mono ?_; rintro e w1 ⟨rfl, rfl⟩)
      go_ret2
      exact ⟨by rw [HC.out]; rfl, Below.refl _ _⟩
    · by_cases h6 : 6 < n
      · have HC : Hid (change c add n = (0, 1)) := change_no (by simp [node]; omega)
        clear hs
        go_enter Tryz.func78, Tryz.ntmps78
        go_wp2_with (go_at_call 30; refine (rsound_hid hc HS _).mono ?_; rintro e w1 ⟨rfl, rfl⟩)
        go_ret2
        exact ⟨by rw [HC.out]; rfl, Below.refl _ _⟩
      · obtain ⟨i, rfl⟩ : ∃ i : Nat, n = (i : Int) := ⟨n.toNat, by omega⟩
        have hi : i < 7 := by omega
        have hch := change_yes (add := add) hs hi
        have hlt := sound_lt hs
        have hp := pow_lt i hi
        have hh := fun w => rhas_any c hc (i : Int) w
        simp only [has_nat c hi] at hh
        have hmore := flip_more c hlt.2 i hi
        have hless := flip_less c hlt.2 i hi
        have hone := size_one c hlt.2 i hi
        have hw0 : IntKind.u64.wrap (2 ^ i) = ((2 ^ i : Nat) : Int) := by
          have := wrap_u64 (2 ^ i) (by omega)
          rw [← this, Int.natCast_pow]
          rfl
        obtain ⟨t, ht⟩ : ∃ t, c.testBit i = t := ⟨_, rfl⟩
        obtain ⟨q, hq⟩ : ∃ q, 2 ^ i = q := ⟨_, rfl⟩
        unfold turn at hch
        rw [ht] at hch hh hmore hless hone
        simp only [hq] at hch hp hmore hless hone hw0
        by_cases e1 : t = add
        · have HC : Hid (change c add (i : Int) = (0, 32)) := by show _ = _; rw [hch, if_pos (.inl e1)]
          have hbb : (t == add) = true := by simp [e1]
          clear hch hs ht hq e1 hmore hless hone hw0
          go_enter Tryz.func78, Tryz.ntmps78
          go_wp2_with (first
            | (go_at_call 30; refine (rsound_hid hc HS _).mono ?_; rintro e w1 ⟨rfl, rfl⟩)
            | (go_at_call 73; refine (hh _).mono ?_; rintro e w1 ⟨rfl, rfl⟩))
          go_ret2
          exact ⟨by rw [HC.out]; rfl, Below.refl _ _⟩
        · have hbb : (t == add) = false := by simp [e1]
          cases add with
          | true =>
            have ht0 : t = false := by simpa using e1
            have hm := hmore ht0
            have HC : Hid (change c true (i : Int) = (c + q, 0)) := by show _ = _; rw [hch, if_neg (by simp [e1, hm.2.1]), hm.1]
            have hw1 : IntKind.u64.wrap ((c : Int) + (q : Int)) = ((c + q : Nat) : Int) := by
              have := wrap_u64 (c + q) (by omega)
              rw [← this]
              simp
            obtain ⟨y, hy⟩ : ∃ y, c + q = y := ⟨_, rfl⟩
            rw [hy] at HC hw1
            clear hch hs ht hq e1 hmore hless hone ht0 hm hy
            go_enter Tryz.func78, Tryz.ntmps78
            go_wp2_with (first
              | (go_at_call 30; refine (rsound_hid hc HS _).mono ?_; rintro e w1 ⟨rfl, rfl⟩)
              | (go_at_call 73; refine (hh _).mono ?_; rintro e w1 ⟨rfl, rfl⟩))
            go_ret2
            exact ⟨by rw [HC.out]; rfl, Below.refl _ _⟩
          | false =>
            have ht1 : t = true := by simpa using e1
            have hm := hless ht1
            have ho := hone ht1
            have hmem := rmem_any c hc
            have hlm : (mem c).length = size c := rfl
            obtain ⟨s, hs0⟩ : ∃ s, size c = s := ⟨_, rfl⟩
            rw [hs0] at ho hlm
            have HL := Lib.hid hlm
            by_cases e2 : s = 1
            · have HC : Hid (change c false (i : Int) = (0, 32)) := by show _ = _; rw [hch, if_pos (.inr (ho.1 e2))]
              clear hch hs ht hq e1 hmore hless hone ht1 hm ho hs0 hlm hw0
              go_enter Tryz.func78, Tryz.ntmps78
              go_wp2_with (first
                | (go_at_call 30; refine (rsound_hid hc HS _).mono ?_; rintro e w1 ⟨rfl, rfl⟩)
                | (go_at_call 73; refine (hh _).mono ?_; rintro e w1 ⟨rfl, rfl⟩)
                | (go_at_call 107; refine (hmem _).mono ?_; rintro e w1 ⟨v, rfl, hown, hb⟩; obtain ⟨A, c', rfl, _⟩ := own_form hown; rw [HL.out, e2] at hown ⊢))
              go_ret2
              exact ⟨by rw [HC.out]; rfl, hb⟩
            · have hne : ¬ c = q := fun e => e2 (ho.2 e)
              have HC : Hid (change c false (i : Int) = (c - q, 0)) := by show _ = _; rw [hch, if_neg (by simp [e1, hne]), hm.1]
              have hw1 : IntKind.u64.wrap ((c : Int) - (q : Int)) = ((c - q : Nat) : Int) := by
                have := wrap_u64 (c - q) (by omega)
                rw [← this]
                congr 1
                omega
              have hs1 : ((s : Int) == 1) = false := by simp; omega
              obtain ⟨y, hy⟩ : ∃ y, c - q = y := ⟨_, rfl⟩
              rw [hy] at HC hw1
              clear hch hs ht hq e1 hmore hless hone ht1 hm ho hs0 hlm hy hne
              go_enter Tryz.func78, Tryz.ntmps78
              go_wp2_with (first
                | (go_at_call 30; refine (rsound_hid hc HS _).mono ?_; rintro e w1 ⟨rfl, rfl⟩)
                | (go_at_call 73; refine (hh _).mono ?_; rintro e w1 ⟨rfl, rfl⟩)
                | (go_at_call 107; refine (hmem _).mono ?_; rintro e w1 ⟨v, rfl, hown, hb⟩; obtain ⟨A, c', rfl, _⟩ := own_form hown; rw [HL.out] at hown ⊢))
              go_ret2
              exact ⟨by rw [HC.out]; rfl, hb⟩
end Go.Proofs.YtokifeghoodkgaaGreat.Change
