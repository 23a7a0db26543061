/- What is told of each member: numbers of 64 bits in memory; the two closures of Reached, walked; numbers compared. -/
import Derived.Test.YtdbmpfongfiagaaQuoWalkD
namespace Go.Proofs.Ytdbmpfongfiagaa.Told
open Go.RowKit Go.Proofs.Ytdbmpfongfiagaa.Kit Go.Proofs.Ytdbmpfongfiagaa.Blocks Go.Proofs.Ytdbmpfongfiagaa.Quorum Go.Proofs.Ytdbmpfongfiagaa.QuoWalkA Go.Proofs.Ytdbmpfongfiagaa.QuoWalkB Go.Proofs.Ytdbmpfongfiagaa.QuoWalkC Go.Proofs.Ytdbmpfongfiagaa.QuoWalkD

/-- Numbers of 64 bits as cells. -/
def unums (l : List Nat) : List Value := l.map fun (i : Nat) => Value.int .u64 (i : Int)
theorem unums_length (l : List Nat) : (unums l).length = l.length := by simp [unums]
/-- What number i has; who isn't told has 0. -/
def told (l : List Nat) (i : Nat) : Nat := l.getD i 0
theorem told_over {l : List Nat} {i : Nat} (h : l.length ≤ i) : told l i = 0 := by simp [told, List.getD, List.getElem?_eq_none h]
theorem told_lt {l : List Nat} (h : ∀ x ∈ l, x < 2 ^ 64) (i : Nat) : told l i < 2 ^ 64 := by
  unfold told
  by_cases hi : i < l.length
  · simp only [List.getD, List.getElem?_eq_getElem hi, Option.getD_some]
    exact h _ (List.getElem_mem hi)
  · simp only [List.getD, List.getElem?_eq_none (Nat.le_of_not_lt hi), Option.getD_none]
    decide
theorem Reads.unum {w : World} {B n k : Nat} {A : Option Addr} {l : List Nat} (h : Reads w B 1 A n (unums l)) (hk : k < n) : ∃ b o, A = some ⟨b, o, none⟩ ∧ b < B ∧ w.cell? ⟨b, o + k, none⟩ = some (.int .u64 (told l k : Nat)) := by
  obtain ⟨ad, u, rfl, hb, hx, hc⟩ := h.at_ hk
  have hs := h.spot (by omega)
  have hl : k < l.length := by have := h.len; rw [unums_length] at this; omega
  simp only [unums, List.getElem?_map, List.getElem?_eq_getElem hl, Option.map_some, Option.some.injEq] at hx
  subst hx
  refine ⟨ad.block, ad.off, by rw [← hs], hb, ?_⟩
  rw [hs, Addr.add_lit] at hc
  rw [hc, told]
  simp [List.getD, List.getElem?_eq_getElem hl]

/-- The sign of a comparison. -/
def cmpN (x y : Nat) : Int := if x < y then -1 else if y < x then 1 else 0
theorem cmpN_lt (x y : Nat) : decide (cmpN x y < 0) = decide (x < y) := by
  unfold cmpN
  by_cases h : x < y
  · simp [h]
  · by_cases k : y < x <;> simp [h, k]
set_option maxRecDepth 100000 in
theorem compare_any (x y : Nat) (w : World) : Calls Try.prog 77 #[.int .u64 (x : Int), .int .u64 (y : Int)] w fun e w' => e = .returned (.int .i64 (cmpN x y)) ∧ w = w' := by
  have h1 := nan_any x
  have h2 := nan_any y
  by_cases h : x < y
  · have HC : Hid (cmpN x y = -1) := if_pos h
    go_enter Try.func77, Try.ntmps77
    go_wp2_with fail
    refine (h1 _).mono ?_
    rintro e w1 ⟨rfl, rfl⟩
    go_wp2_with fail
    refine (h2 _).mono ?_
    rintro e w1 ⟨rfl, rfl⟩
    go_wp2
    go_ret
    exact ⟨ret_i HC.out.symm, rfl⟩
  · by_cases k : y < x
    · have HC : Hid (cmpN x y = 1) := (if_neg h).trans (if_pos k)
      go_enter Try.func77, Try.ntmps77
      go_wp2_with fail
      refine (h1 _).mono ?_
      rintro e w1 ⟨rfl, rfl⟩
      go_wp2_with fail
      refine (h2 _).mono ?_
      rintro e w1 ⟨rfl, rfl⟩
      go_wp2
      go_ret
      exact ⟨ret_i HC.out.symm, rfl⟩
    · have HC : Hid (cmpN x y = 0) := (if_neg h).trans (if_neg k)
      go_enter Try.func77, Try.ntmps77
      go_wp2_with fail
      refine (h1 _).mono ?_
      rintro e w1 ⟨rfl, rfl⟩
      go_wp2_with fail
      refine (h2 _).mono ?_
      rintro e w1 ⟨rfl, rfl⟩
      go_wp2
      go_ret
      exact ⟨ret_i HC.out.symm, rfl⟩

set_option maxRecDepth 100000 in
/-- The first closure: what a number has. Its variable lies in block b. -/
theorem told_any (b : Nat) (A : Option Addr) (n c : Nat) (l : List Nat) (B : Nat) (i : Nat) (w : World) (hb : w.cell? ⟨b, 0, none⟩ = some (.slice A n c)) (hr : Reads w B 1 A n (unums l)) :
    Calls Try.prog 74 #[.int .i64 (i : Int), .pointer (some ⟨b, 0, none⟩)] w fun e w' => e = .returned (.int .u64 (told l i : Nat)) ∧ w = w' := by
  have hl : l.length = n := by have := hr.len; rwa [unums_length] at this
  by_cases hlt : i < n
  · obtain ⟨b1, o1, rfl, hb1, hc1⟩ := Reads.unum hr hlt
    obtain ⟨x, hx⟩ : ∃ x, told l i = x := ⟨_, rfl⟩
    rw [hx] at hc1 ⊢
    have hk0 : (0 : Int) ≤ (i : Int) := by omega
    have hk1 : (i : Int) < (n : Int) := by omega
    clear hx hl
    go_enter Try.func74, Try.ntmps74
    go_wp2
    go_ret
    exact ⟨rfl, rfl⟩
  · have HT : Hid (told l i = 0) := told_over (by omega)
    have hk1 : ¬ (i : Int) < (n : Int) := by omega
    clear hl
    go_enter Try.func74, Try.ntmps74
    go_wp2
    go_ret
    exact ⟨ret_u (by rw [HT.out]; rfl), rfl⟩
/-- The same, as a call in a region that only reads. -/
abbrev QuietT (b x i : Nat) (w : World) (k : Nat) : Prop :=
  Calls Try.prog 74 #[.int .i64 (i : Int), .pointer (some ⟨b, 0, none⟩)] (w.drewN k) fun e w' => e = .returned (.int .u64 (x : Int)) ∧ ∃ m, w' = w.drewN m
abbrev QuietC (x y : Nat) (r : Int) (w : World) (k : Nat) : Prop :=
  Calls Try.prog 77 #[.int .u64 (x : Int), .int .u64 (y : Int)] (w.drewN k) fun e w' => e = .returned (.int .i64 r) ∧ ∃ m, w' = w.drewN m
theorem quietT (b : Nat) (A : Option Addr) (n c : Nat) (l : List Nat) (B : Nat) (i x : Nat) (hx : told l i = x) (w : World) (hb : w.cell? ⟨b, 0, none⟩ = some (.slice A n c)) (hr : Reads w B 1 A n (unums l)) (k : Nat) : QuietT b x i w k := by
  have := told_any b A n c l B i (w.drewN k) hb (hr.drewN k)
  rw [hx] at this
  exact Calls.quiet_of_same (this.mono fun _ _ h => ⟨h.1, h.2.symm⟩)
theorem quietC (x y : Nat) (r : Int) (hr : cmpN x y = r) (w : World) (k : Nat) : QuietC x y r w k := by
  have := compare_any x y (w.drewN k)
  rw [hr] at this
  exact Calls.quiet_of_same (this.mono fun _ _ h => ⟨h.1, h.2.symm⟩)

set_option maxRecDepth 100000 in
/-- The second closure: the greater one first. -/
theorem after_any (b d : Nat) (A : Option Addr) (n c : Nat) (l : List Nat) (B : Nat) (i j : Nat) (w : World) (hd : w.cell? ⟨d, 0, none⟩ = some (.func (.func 74) #[] #[.pointer (some ⟨b, 0, none⟩)]))
    (hb : w.cell? ⟨b, 0, none⟩ = some (.slice A n c)) (hr : Reads w B 1 A n (unums l)) :
    Calls Try.prog 76 #[.int .i64 (i : Int), .int .i64 (j : Int), .pointer (some ⟨d, 0, none⟩)] w fun e w' => e = .returned (.int .i64 (cmpN (told l j) (told l i))) ∧ ∃ q, w' = w.drewN q := by
  obtain ⟨x, hx⟩ : ∃ x, told l i = x := ⟨_, rfl⟩
  obtain ⟨y, hy⟩ : ∃ y, told l j = y := ⟨_, rfl⟩
  rw [hx, hy]
  obtain ⟨r, hr0⟩ : ∃ r, cmpN y x = r := ⟨_, rfl⟩
  rw [hr0]
  have C0 : Hid (∀ k, QuietT b x i w k) := fun k => quietT b A n c l B i x hx w hb hr k
  have C1 : Hid (∀ k, QuietT b y j w k) := fun k => quietT b A n c l B j y hy w hb hr k
  have C2 : Hid (∀ k, QuietC y x r w k) := fun k => quietC y x r hr0 w k
  clear hx hy hr0 hr hb
  go_enter Try.func76, Try.ntmps76
  go_wp2
  go_quiet ((first
    | (go_at_call 74; first
      | (with_reducible exact C0.out _)
      | (with_reducible exact C1.out _))
    | (go_at_call 77; with_reducible exact C2.out _)))
  go_wp2
  go_ret
  exact ⟨rfl, _, rfl⟩
end Go.Proofs.Ytdbmpfongfiagaa.Told
