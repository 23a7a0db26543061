/- What New, Now, isNext and find leave, walked. No statement is proved here. -/
import Derived.Test.YthaepkpmpnofgaaHRws
import Derived.BigQuiet
set_option linter.unusedVariables false
set_option linter.unusedSimpArgs false
namespace Go.Proofs.Ythaepkpmpnofgaa.SsnWalkA
open Go.RowKit Go.Proofs.Ythaepkpmpnofgaa.Kit Go.Proofs.Ythaepkpmpnofgaa.Blocks Go.Proofs.Ythaepkpmpnofgaa.Ses Go.Proofs.Ythaepkpmpnofgaa.Rws

abbrev PT (T : Shape) (B : Nat) (w : World) (p : Nat) (v : Value) (m : Tb) : Prop := TAt B T 85 w p v m
abbrev PLeft (T : Shape) (B : Nat) (w : World) (p : Nat) (v : Value) (m : Tb) (w' : World) : Prop := LeftT B T 85 w p v m w'

set_option maxRecDepth 100000 in
theorem new_any (w : World) : Calls Try.prog 13 #[] w fun e w' => ∃ p v, e = .returned (.pointer (some ⟨p, 0, none⟩)) ∧ PT ⟨79, []⟩ w.heap.size w' p v tb0 ∧ Below w.heap.size w w' := by
  have hh : (w.alloc (.cells #[.int .u64 0, .int .u64 1, .slice none 0 0] 79)).heap[w.heap.size]? = some (.cells #[.int .u64 0, .int .u64 1, .slice none 0 0] 79 (0, 0)) := heap_alloc_new w _
  have hb : Below w.heap.size w (w.alloc (.cells #[.int .u64 0, .int .u64 1, .slice none 0 0] 79)) := (Below.refl _ _).alloc (Nat.le_refl _) _
  go_enter Try.func13, Try.ntmps13
  go_wp2
  go_ret
  exact ⟨_, .slice none 0 0, rfl, ⟨Nat.le_refl _, hh, World.ownsRow_nil _ _ _ _, by simp [Value.ownBlock]⟩, hb⟩
section
variable {T : Shape} {B : Nat} {w : World} {p : Nat} {v : Value} {m : Tb}
set_option maxRecDepth 100000 in
theorem next_any {g o : Nat} {r : Rw} {s : Nat} {b : Bool} (h : Six w g o r) (hg : g < w.heap.size) (hs : U s) (hb : Hid (isNext r s = b)) :
    Calls Try.prog 71 #[.pointer (some ⟨g, o, none⟩), .int .u64 (s : Int)] w fun e w' => e = .returned (.bool b) ∧ w' = w := by
  have c2 := h.c2
  clear h
  rcases Nat.eq_zero_or_pos s with h0 | h0
  · subst h0
    obtain rfl : b = false := by rw [← hb.out]; simp [isNext]
    clear hb
    go_enter Try.func71, Try.ntmps71
    go_wp2
    go_ret
    exact ⟨rfl, rfl⟩
  · have hne : ¬ (s : Int) = 0 := by omega
    have hw : IntKind.u64.wrap ((s : Int) - 1) = ((s - 1 : Nat) : Int) := by rw [show (s : Int) - 1 = ((s - 1 : Nat) : Int) by omega]; exact IntWalk.u64_in _ ⟨by omega, by omega⟩
    have hd : (((s - 1 : Nat) : Int) == (r.seq : Int)) = b := by
      rw [← hb.out]; unfold isNext; rw [decide_eq_true (show s ≠ 0 by omega), Bool.true_and]
      by_cases e : s - 1 = r.seq
      · rw [decide_eq_true e, e]; simp
      · rw [decide_eq_false e]; simp; omega
    have hsn : ((s : Int) != 0) = true := by simp; omega
    obtain ⟨k, hk⟩ : ∃ k, s - 1 = k := ⟨_, rfl⟩
    rw [hk] at hw hd
    clear hb
    go_enter Try.func71, Try.ntmps71
    go_wp2
    go_ret
    exact ⟨by simp [hsn], rfl⟩
end
/-- The first k rows have another number. -/
def Past (l : List Rw) (id k : Nat) : Prop := ∀ j < k, ∀ x, l[j]? = some x → x.id ≠ id
section
variable {T : Shape} {B : Nat} {w : World} {p : Nat} {v : Value} {m : Tb}
set_option maxRecDepth 100000 in
theorem find_no (h : PT T B w p v m) (id : Nat) (hn : seek m.rows id = none) :
    Calls Try.prog 70 #[.pointer (some ⟨p, 0, none⟩), .int .u64 (id : Int)] w fun e w' => e = .returned (.pointer none) ∧ w' = w := by
  have c2 := h.c2
  have hp := h.plt
  obtain ⟨A, c, rfl, hnc, hcm, hr⟩ := h.form
  obtain ⟨n, hl⟩ : ∃ n, m.rows.length = n := ⟨_, rfl⟩
  rw [hl] at hr hnc c2
  have HN := Lib.hid (seek_none hn)
  have HR := Lib.hid hr
  clear h hr hn hl
  go_enter Try.func70, Try.ntmps70
  go_wp2
  go_loopw [13] (fun i wr => ∃ k : Nat, k ≤ n ∧ i = .int .i64 (k : Int) ∧ wr = w) (fun i _ => n - (intOf i).toNat)
  case atStart => exact ⟨0, by omega, rfl, rfl⟩
  case round =>
    obtain ⟨k, hk, rfl, rfl⟩ := hrel
    by_cases hk' : k < n
    · obtain ⟨b', o', t, rfl, hb', he, y⟩ := RR.at_ HR.out hk'
      have y0 := y.c0
      have hne : ¬ (t.id : Int) = (id : Int) := by have := HN.out t (List.mem_of_getElem? he); omega
      clear y
      go_wp2
      go_roundw
      case rel => exact ⟨k + 1, by omega, by simp, by trivial⟩
      case measure => simp [intOf]; omega
    · obtain rfl : k = n := by omega
      go_wp2
      go_ret
      exact ⟨rfl, rfl⟩
set_option maxRecDepth 100000 in
theorem find_yes (h : PT T B w p v m) (id : Nat) {i : Nat} (hn : seek m.rows id = some i) {g c : Nat} (hv : v = .slice (some ⟨g, 0, none⟩) m.rows.length c) :
    Calls Try.prog 70 #[.pointer (some ⟨p, 0, none⟩), .int .u64 (id : Int)] w fun e w' => e = .returned (.pointer (some ⟨g, i * 6, none⟩)) ∧ w' = w := by
  have c2 := h.c2
  have hp := h.plt
  obtain ⟨A, c', hv', hnc, hcm, hr⟩ := h.form
  rw [hv] at hv' c2
  injection hv' with e1 e2 e3
  subst e1 e3
  obtain ⟨n, hl⟩ : ∃ n, m.rows.length = n := ⟨_, rfl⟩
  obtain ⟨r, h1, h2, h3, h4⟩ := seek_some hn
  rw [hl] at hr hnc c2 h3
  have HN := Lib.hid h4
  have HI := Lib.hid h1
  have HR := Lib.hid hr
  clear h hr hn hl h1 h4
  go_enter Try.func70, Try.ntmps70
  go_wp2
  go_loopw [13] (fun q wr => ∃ k : Nat, k ≤ i ∧ q = .int .i64 (k : Int) ∧ wr = w) (fun q _ => n - (intOf q).toNat)
  case atStart => exact ⟨0, by omega, rfl, rfl⟩
  case round =>
    obtain ⟨k, hk, rfl, rfl⟩ := hrel
    obtain ⟨b', o', t, hA, hb', he, y⟩ := RR.at_ HR.out (show k < n by omega)
    cases hA
    rw [Nat.zero_add] at y
    have y0 := y.c0
    clear y
    by_cases hk' : k < i
    · have hne : ¬ (t.id : Int) = (id : Int) := by have := HN.out k hk' t he; omega
      go_wp2
      go_roundw
      case rel => exact ⟨k + 1, by omega, by simp, by trivial⟩
      case measure => simp [intOf]; omega
    · obtain rfl : k = i := by omega
      obtain rfl : t = r := by have := HI.out; rw [he] at this; cases this; rfl
      have heq : (t.id : Int) = (id : Int) := by omega
      go_wp2
      go_ret
      simp
set_option maxRecDepth 100000 in
theorem find_none (id : Nat) (w : World) : Calls Try.prog 70 #[.pointer none, .int .u64 (id : Int)] w fun e w' => e = .returned (.pointer none) ∧ w' = w := by
  go_enter Try.func70, Try.ntmps70
  go_wp2
  go_ret
  exact ⟨rfl, rfl⟩
end
end Go.Proofs.Ythaepkpmpnofgaa.SsnWalkA
