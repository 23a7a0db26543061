/- What Register leaves, walked. No statement is proved here. -/
import Derived.Test.YthaepkpmpnofgaaHSsnWalkA
import Derived.Test.YthaepkpmpnofgaaHAppP
set_option linter.unusedVariables false
set_option linter.unusedSimpArgs false
namespace Go.Proofs.Ythaepkpmpnofgaa.SsnWalkB
open Go.RowKit Go.Proofs.Ythaepkpmpnofgaa.Kit Go.Proofs.Ythaepkpmpnofgaa.Blocks Go.Proofs.Ythaepkpmpnofgaa.Ses Go.Proofs.Ythaepkpmpnofgaa.Rws Go.Proofs.Ythaepkpmpnofgaa.SsnWalkA

/-- One more row is laid behind the others. -/
theorem TAt.added {B : Nat} {T : Shape} {E : TypeId} {w W : World} {p n : Nat} {v : Value} {m : Tb} (h : TAt B T E w p v m) (hn : m.rows.length = n) (r : Rw) (hK : Below w.heap.size w W) (A' : Option Addr) (c' : Nat) (w3 : World)
    (hown : w3.ownsRow B E 6 (.slice A' (n + 1) c') (n + 1) (rcells m.rows ++ rcells [r])) (hg : W.grownBy w3 v.ownBlock) (hat : (Value.slice A' (n + 1) c').ownBlock = v.ownBlock ∨ (Value.slice A' (n + 1) c').ownBlock = some W.heap.size) :
    w3.cell? ⟨p, 2, none⟩ = some v ∧ w3.frozen? ⟨p, 2, none⟩ = false ∧ p < w3.heap.size ∧ LeftT B T E w p v ⟨m.now, m.next, m.rows ++ [r]⟩ (w3.setCell ⟨p, 2, none⟩ (.slice A' (n + 1) c')) := by
  have s2 := hK.size
  refine h.rowed ((Only.of_below hK).grown hg fun g e => .inr e) hown (by simp [hn]) (by rw [rcells_append]) fun q hq => ?_
  rcases hat with h1 | h1
  · exact .inl (h1 ▸ hq)
  · rw [hq] at h1; cases h1; exact .inr (by omega)
section
variable {T : Shape} {B : Nat} {w : World} {p : Nat} {v : Value} {m : Tb}
set_option maxRecDepth 100000 in
theorem reg_none (w : World) : Calls Try.prog 40 #[.pointer none] w fun e w' => e = .returned (.tuple #[.int .u64 0, .int .i64 11]) ∧ w' = w := by
  go_enter Try.func40, Try.ntmps40
  go_wp2
  go_ret2
  exact ⟨rfl, rfl⟩
set_option maxRecDepth 100000 in
theorem reg_no (h : PT T B w p v m) (hx : U m.next) (hr : canReg m = false) : Calls Try.prog 40 #[.pointer (some ⟨p, 0, none⟩)] w fun e w' => e = .returned (.tuple #[.int .u64 0, .int .i64 11]) ∧ w' = w := by
  have c1 := h.c1
  have c2 := h.c2
  have hp := h.plt
  obtain ⟨A, c, rfl, hnc, hcm, _⟩ := h.form
  obtain ⟨n, hl⟩ : ∃ n, m.rows.length = n := ⟨_, rfl⟩
  unfold canReg at hr
  rw [hl] at hnc c2 hr
  clear h hl
  by_cases h16 : 16 ≤ n
  · have hI : (16 : Int) ≤ (n : Int) := by omega
    clear hr
    go_enter Try.func40, Try.ntmps40
    go_wp2
    go_ret2
    exact ⟨rfl, rfl⟩
  · have hI : ¬ (16 : Int) ≤ (n : Int) := by omega
    have hnx : m.next = 18446744073709551615 := by
      rw [decide_eq_true (show n < 16 by omega), Bool.true_and] at hr
      have := of_decide_eq_false hr
      omega
    rw [hnx] at c1
    clear hr
    go_enter Try.func40, Try.ntmps40
    go_wp2
    go_ret2
    exact ⟨rfl, rfl⟩
set_option maxRecDepth 100000 in
set_option maxHeartbeats 4000000 in
theorem reg_yes (h : PT T B w p v m) (hx : U m.next) (hr : canReg m = true) : Calls Try.prog 40 #[.pointer (some ⟨p, 0, none⟩)] w fun e w' => e = .returned (.tuple #[.int .u64 (m.next : Int), .int .i64 0]) ∧ PLeft T B w p v ⟨m.now, m.next + 1, m.rows ++ [freshRow m]⟩ w' := by
  unfold canReg at hr
  simp only [Bool.and_eq_true, decide_eq_true_eq] at hr
  obtain ⟨hr1, hr2⟩ := hr
  have c1 := h.c1
  have c2 := h.c2
  have hp := h.plt
  have f1 := h.free 1
  obtain ⟨A, c, hv, hnc, hcm, _⟩ := h.form
  obtain ⟨n, hl⟩ : ∃ n, m.rows.length = n := ⟨_, rfl⟩
  rw [hl] at hnc hv hr1
  rw [hv] at c2
  have hI : ¬ (16 : Int) ≤ (n : Int) := by omega
  have hI2 : ¬ (m.next : Int) = 18446744073709551615 := by omega
  have hw : IntKind.u64.wrap ((m.next : Int) + 1) = ((m.next + 1 : Nat) : Int) := by rw [show (m.next : Int) + 1 = ((m.next + 1 : Nat) : Int) by omega]; exact IntWalk.u64_in _ ⟨by omega, by omega⟩
  obtain ⟨h1, o1⟩ := h.nexted (m.next + 1)
  obtain ⟨w1, hw1⟩ : ∃ w1, w.setCell ⟨p, 1, none⟩ (.int .u64 ((m.next + 1 : Nat) : Int)) = w1 := ⟨_, rfl⟩
  rw [hw1] at h1 o1
  obtain ⟨N1, hN1⟩ : ∃ N1, m.next + 1 = N1 := ⟨_, rfl⟩
  obtain ⟨NX, hNX⟩ : ∃ NX, m.next = NX := ⟨_, rfl⟩
  obtain ⟨NW, hNW⟩ : ∃ NW, m.now = NW := ⟨_, rfl⟩
  rw [hN1] at hw hw1 h1
  rw [hNX] at hw hI2 c1
  have d0 := h1.c0
  have d2 := h1.c2
  rw [hv] at d2
  have hp1 := h1.plt
  simp only at d0
  rw [hNW] at d0
  have HB : Hid (∀ o, Below w1.heap.size w1 (w1.drew.alloc o)) := fun o => ((Below.refl _ _).drew).alloc (Nat.le_refl _) o
  have HO : Hid (∀ o, (w1.drew.alloc o).ownsRow B 85 6 (.slice A n c) n (rcells m.rows)) := fun o => by
    have := (h1.below (HB.out o)).own
    rw [hv] at this
    simpa only [hl] using this
  have HNW : Hid (RR (w1.drew.alloc (.cells #[.int .u64 (NX : Int), .int .u64 (NW : Int), .int .u64 0, .int .i64 0, .int .u64 0, .int .u64 0] 85)) (w1.heap.size + 1) (some ⟨w1.heap.size, 0, none⟩) 1 [freshRow m]) := by
    rw [← hNX, ← hNW]; exact rw_new w1.drew (freshRow m) 85
  have HBS : Hid (∀ o, B ≤ (w1.drew.alloc o).heap.size) := fun o => by have := h1.base; simp; omega
  have HFIN := Lib.hid (fun o => TAt.added (W := w1.drew.alloc o) h1 hl (freshRow m) (HB.out o))
  have HV := Lib.hid hv
  have HW1 := Lib.hid hw1
  have HO1 := Lib.hid o1
  have HH := Lib.hid h
  rw [hN1, hNX]
  have HNW1 := Lib.hid hNW
  clear h h1 o1 hv hw1 hl hN1 hNX hNW
  go_enter Try.func40, Try.ntmps40
  go_wp2_with fail
  rw [HW1.out]
  go_region_law (
     refine AppP.step_app (v := .slice A n c) (xs := rcells m.rows) _ rfl _ _ rfl B rfl (HO.out _) rfl HNW.out (rcells_one _) (by omega) (HBS.out _) ?_
     intro A' c' w3 hown3 hg3 hat3
     obtain ⟨q1, q2, q3, q4⟩ := HFIN.out _ A' c' w3 hown3 (by rw [HV.out]; exact hg3) (by rw [HV.out]; exact hat3)
     rw [HV.out] at q1
     have Q4 := Lib.hid q4
     clear q4 hown3 hg3 hat3)
  all_goals go_wp2
  all_goals go_ret2
  all_goals exact ⟨rfl, LeftT.then (HO1.out.mono fun q _ hq => .inl hq) (fun g hg => .inl hg) Q4.out⟩
end
end Go.Proofs.Ythaepkpmpnofgaa.SsnWalkB
