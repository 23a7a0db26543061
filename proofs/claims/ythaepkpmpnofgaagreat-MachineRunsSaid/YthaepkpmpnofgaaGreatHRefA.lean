/- What the document's find, Clock and Register leave, walked. No statement is proved here. -/
import Derived.Test.YthaepkpmpnofgaaGreatGSt
import Derived.Test.YthaepkpmpnofgaaGreatGSu
import Derived.Test.YthaepkpmpnofgaaGreatHAppD
set_option linter.unusedVariables false
set_option linter.unusedSimpArgs false
namespace Go.Proofs.YthaepkpmpnofgaaGreat.RefA
open Go.RowKit Go.Proofs.YthaepkpmpnofgaaGreat.Kit Go.Proofs.YthaepkpmpnofgaaGreat.Blocks Go.Proofs.YthaepkpmpnofgaaGreat.Ses Go.Proofs.YthaepkpmpnofgaaGreat.Rws Go.Proofs.YthaepkpmpnofgaaGreat.SsnWalkA

theorem grown_cell {B : Nat} {T : Shape} {E : TypeId} {w W w3 : World} {p : Nat} {v : Value} {m : Tb} (h : TAt B T E w p v m) (hK : Below w.heap.size w W) (hg : W.grownBy w3 v.ownBlock) : w3.heap[p]? = some (.cells (Value.int .u64 (m.now : Int) :: .int .u64 (m.next : Int) :: v :: T.tl).toArray T.ty (0, 0)) := by
  have o : Only (fun q => v.ownBlock = some q) w w3 := (Only.of_below hK).grown hg fun g e => .inr e
  exact o.heap h.cell h.np
section
variable {T : Shape} {B : Nat} {w : World} {p : Nat} {v : Value} {m : Tb}
set_option maxRecDepth 100000 in
theorem rfind_no (h : DT T B w p v m) (id : Nat) (hn : seek m.rows id = none) :
    Calls Tryz.prog 76 #[.pointer (some ⟨p, 0, none⟩), .int .u64 (id : Int)] w fun e w' => e = .returned (.int .i64 (-1)) ∧ w' = w := by
  have c2 := h.c2
  have hp := h.plt
  obtain ⟨A, c, rfl, hnc, hcm, hr⟩ := h.form
  obtain ⟨n, hl⟩ : ∃ n, m.rows.length = n := ⟨_, rfl⟩
  rw [hl] at hr hnc c2
  have HN := Lib.hid (seek_none hn)
  have HR := Lib.hid hr
  clear h hr hn hl
  go_enter Tryz.func76, Tryz.ntmps76
  go_wp2
  go_loopw [5] (fun i wr => ∃ k : Nat, k ≤ n ∧ i = .int .i64 (k : Int) ∧ wr = w) (fun i _ => n - (intOf i).toNat)
  case atStart => exact ⟨0, by omega, rfl, rfl⟩
  case round =>
    obtain ⟨k, hk, rfl, rfl⟩ := hrel
    by_cases hk' : k < n
    · obtain ⟨b', o', t, rfl, hb', he, y⟩ := RR.at_ HR.out hk'
      have y0 := y.c0
      have hne : ¬ (t.id : Int) = (id : Int) := by have := HN.out t (List.mem_of_getElem? he); omega
      clear y
      go_wp2
      go_roundw
      case rel => exact ⟨k + 1, by omega, by simp, by trivial⟩
      case measure => simp [intOf]; omega
    · obtain rfl : k = n := by omega
      go_wp2
      go_ret
      exact ⟨rfl, rfl⟩
set_option maxRecDepth 100000 in
theorem rfind_yes (h : DT T B w p v m) (id : Nat) {i : Nat} (hn : seek m.rows id = some i) :
    Calls Tryz.prog 76 #[.pointer (some ⟨p, 0, none⟩), .int .u64 (id : Int)] w fun e w' => e = .returned (.int .i64 (i : Int)) ∧ w' = w := by
  have c2 := h.c2
  have hp := h.plt
  obtain ⟨A, c, rfl, hnc, hcm, hr⟩ := h.form
  obtain ⟨n, hl⟩ : ∃ n, m.rows.length = n := ⟨_, rfl⟩
  obtain ⟨r, h1, h2, h3, h4⟩ := seek_some hn
  rw [hl] at hr hnc c2 h3
  have HN := Lib.hid h4
  have HI := Lib.hid h1
  have HR := Lib.hid hr
  clear h hr hn hl h1 h4
  go_enter Tryz.func76, Tryz.ntmps76
  go_wp2
  go_loopw [5] (fun q wr => ∃ k : Nat, k ≤ i ∧ q = .int .i64 (k : Int) ∧ wr = w) (fun q _ => n - (intOf q).toNat)
  case atStart => exact ⟨0, by omega, rfl, rfl⟩
  case round =>
    obtain ⟨k, hk, rfl, rfl⟩ := hrel
    obtain ⟨b', o', t, rfl, hb', he, y⟩ := RR.at_ HR.out (show k < n by omega)
    have y0 := y.c0
    clear y
    by_cases hk' : k < i
    · have hne : ¬ (t.id : Int) = (id : Int) := by have := HN.out k hk' t he; omega
      go_wp2
      go_roundw
      case rel => exact ⟨k + 1, by omega, by simp, by trivial⟩
      case measure => simp [intOf]; omega
    · obtain rfl : k = i := by omega
      obtain rfl : t = r := by have := HI.out; rw [he] at this; cases this; rfl
      have heq : (t.id : Int) = (id : Int) := by omega
      go_wp2
      go_ret
      simp
set_option maxRecDepth 100000 in
theorem rreg_no (h : DT T B w p v m) (hx : U m.next) (hf : m.rows.length ≤ 16) (hr : canReg m = false) : Calls Tryz.prog 30 #[.pointer (some ⟨p, 0, none⟩)] w fun e w' => e = .returned (.tuple #[.int .u64 0, .int .i64 11]) ∧ w' = w := by
  have c1 := h.c1
  have c2 := h.c2
  have hp := h.plt
  obtain ⟨A, c, rfl, hnc, hcm, _⟩ := h.form
  obtain ⟨n, hl⟩ : ∃ n, m.rows.length = n := ⟨_, rfl⟩
  unfold canReg at hr
  rw [hl] at hnc c2 hr hf
  clear h hl
  by_cases h16 : n = 16
  · have hI : (n : Int) = 16 := by omega
    clear hr
    go_enter Tryz.func30, Tryz.ntmps30
    go_wp2
    go_ret2
    exact ⟨rfl, rfl⟩
  · have hI : ¬ (n : Int) = 16 := by omega
    have hIB : ((n : Int) == 16) = false := by simpa using hI
    have hnx : m.next = 18446744073709551615 := by
      rw [decide_eq_true (show n < 16 by omega), Bool.true_and] at hr
      have := of_decide_eq_false hr
      omega
    rw [hnx] at c1
    have hw : IntKind.u64.wrap ((18446744073709551615 : Int) + 1) = 0 := by rw [IntKind.wrap_u64]; decide
    have hw2 : IntKind.u64.wrap 18446744073709551616 = 0 := by rw [IntKind.wrap_u64]; decide
    clear hr
    go_enter Tryz.func30, Tryz.ntmps30
    go_wp2
    go_ret2
    exact ⟨rfl, rfl⟩
set_option maxRecDepth 100000 in
set_option maxHeartbeats 4000000 in
theorem rreg_yes (h : DT T B w p v m) (hx : U m.next) (hr : canReg m = true) : Calls Tryz.prog 30 #[.pointer (some ⟨p, 0, none⟩)] w fun e w' => e = .returned (.tuple #[.int .u64 (m.next : Int), .int .i64 0]) ∧ DLeft T B w p v ⟨m.now, m.next + 1, m.rows ++ [freshRow m]⟩ w' := by
  unfold canReg at hr
  simp only [Bool.and_eq_true, decide_eq_true_eq] at hr
  obtain ⟨hr1, hr2⟩ := hr
  have c0 := h.c0
  have c1 := h.c1
  have c2 := h.c2
  have hp := h.plt
  obtain ⟨A, c, hv, hnc, hcm, _⟩ := h.form
  obtain ⟨n, hl⟩ : ∃ n, m.rows.length = n := ⟨_, rfl⟩
  rw [hl] at hnc hv hr1
  rw [hv] at c2
  have hI : ¬ (n : Int) = 16 := by omega
  have hIB : ((n : Int) == 16) = false := by simpa using hI
  have hw : IntKind.u64.wrap ((m.next : Int) + 1) = ((m.next + 1 : Nat) : Int) := by rw [show (m.next : Int) + 1 = ((m.next + 1 : Nat) : Int) by omega]; exact IntWalk.u64_in _ ⟨by omega, by omega⟩
  have hw2 : IntKind.u64.wrap (((m.next + 1 : Nat) : Int) - 1) = (m.next : Int) := by rw [show ((m.next + 1 : Nat) : Int) - 1 = (m.next : Int) by omega]; exact IntWalk.u64_in _ ⟨by omega, by omega⟩
  obtain ⟨N1, hN1⟩ : ∃ N1, m.next + 1 = N1 := ⟨_, rfl⟩
  obtain ⟨NX, hNX⟩ : ∃ NX, m.next = NX := ⟨_, rfl⟩
  obtain ⟨NW, hNW⟩ : ∃ NW, m.now = NW := ⟨_, rfl⟩
  rw [hN1] at hw hw2
  rw [hNX] at hw hw2 c1
  rw [hNW] at c0
  have hI2 : ¬ (N1 : Int) = 0 := by omega
  have hI2B : ((N1 : Int) == 0) = false := by simpa using hI2
  have HB : Hid (∀ o, Below w.heap.size w (w.drew.alloc o)) := fun o => ((Below.refl _ _).drew).alloc (Nat.le_refl _) o
  have HO : Hid (∀ o, (w.drew.alloc o).ownsRow B 125 6 (.slice A n c) n (rcells m.rows)) := fun o => by
    have := (h.below (HB.out o)).own
    rw [hv] at this
    simpa only [hl] using this
  have HNW : Hid (RR (w.drew.alloc (.cells #[.int .u64 (NX : Int), .int .u64 (NW : Int), .int .u64 0, .int .i64 0, .int .u64 0, .int .u64 0] 125)) (w.heap.size + 1) (some ⟨w.heap.size, 0, none⟩) 1 [freshRow m]) := by
    rw [← hNX, ← hNW]; exact rw_new w.drew (freshRow m) 125
  have HBS : Hid (∀ o, B ≤ (w.drew.alloc o).heap.size) := fun o => by have := h.base; simp; omega
  have HFIN := Lib.hid (fun o => SsnWalkB.TAt.added (W := w.drew.alloc o) h hl (freshRow m) (HB.out o))
  have HGR := Lib.hid (fun o w3 => grown_cell (W := w.drew.alloc o) (w3 := w3) h (HB.out o))
  have HV := Lib.hid hv
  have HN1 := Lib.hid hN1
  have HNX := Lib.hid hNX
  rw [hN1, hNX]
  clear h hv hl hN1 hNX hNW
  go_enter Tryz.func30, Tryz.ntmps30
  go_wp2_with fail
  go_region_law (
     refine AppD.step_app (v := .slice A n c) (xs := rcells m.rows) _ rfl _ _ rfl B rfl (HO.out _) rfl HNW.out (rcells_one _) (by omega) (HBS.out _) ?_
     intro A' c' w3 hown3 hg3 hat3
     obtain ⟨q1, q2, q3, q4⟩ := HFIN.out _ A' c' w3 hown3 (by rw [HV.out]; exact hg3) (by rw [HV.out]; exact hat3)
     rw [HV.out] at q1
     have Q4 := Lib.hid q4
     have hgc := HGR.out _ w3 (by rw [HV.out]; exact hg3)
     rw [HNX.out] at hgc
     have c13 : w3.cell? ⟨p, 1, none⟩ = some (.int .u64 (NX : Int)) := by rw [cell_at hgc]; simp
     have f13 : w3.frozen? ⟨p, 1, none⟩ = false := free_at hgc 1
     clear q4 hown3 hg3 hat3 hgc)
  all_goals go_wp2
  all_goals go_ret2
  all_goals obtain ⟨v4, t4, o4, f4⟩ := Q4.out
  all_goals obtain ⟨t5, o5⟩ := t4.nexted N1
  all_goals exact ⟨rfl, v4, t5, o4.trans (o5.mono fun q _ hq => .inl hq), f4⟩
end
end Go.Proofs.YthaepkpmpnofgaaGreat.RefA
