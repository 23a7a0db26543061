/- What Clock leaves, walked. No statement is proved here. -/
import Derived.Test.YthaepkpmpnofgaaGS
import Derived.Test.YthaepkpmpnofgaaHSsnWalkB
set_option linter.unusedVariables false
set_option linter.unusedSimpArgs false
namespace Go.Proofs.Ythaepkpmpnofgaa.SsnWalkG
open Go.RowKit Go.Proofs.Ythaepkpmpnofgaa.Kit Go.Proofs.Ythaepkpmpnofgaa.Blocks Go.Proofs.Ythaepkpmpnofgaa.Ses Go.Proofs.Ythaepkpmpnofgaa.Rws Go.Proofs.Ythaepkpmpnofgaa.SsnWalkA Go.Proofs.Ythaepkpmpnofgaa.Boxs Go.Proofs.Ythaepkpmpnofgaa.SsnWalkF

theorem bdn {B : Nat} {a w : World} (h : Below B a w) (n : Nat) : Below B a (w.drewN n) := h.trans ⟨rfl, rfl, rfl, Nat.le_refl _, fun _ _ => rfl⟩
set_option maxRecDepth 100000 in
theorem clock_none (t : Nat) (w : World) : Calls Try.prog 15 #[.pointer none, .int .u64 (t : Int)] w fun e w' => e = .returned (.tuple #[]) ∧ Below w.heap.size w w' := by
  have hbo := fun o => (Below.refl w.heap.size w).alloc (Nat.le_refl _) o
  go_enter Try.func15, Try.ntmps15
  go_wp2
  go_quiet (fail)
  go_wp2
  refine bodyPost_ret (results_none rfl _ _ _) rfl ?_
  exact ⟨rfl, bdn (hbo _) _⟩
section
variable {T : Shape} {B : Nat} {w : World} {p : Nat} {v : Value} {m : Tb}
set_option maxRecDepth 100000 in
/-- DeleteFunc over a table's rows, whatever slice they have. -/
theorem delete_own {W : World} {Bx t : Nat} {v : Value} {l : List Rw} (hown : W.ownsRow B 85 6 v l.length (rcells l)) (hgB : ∀ g, v.ownBlock = some g → Bx ≠ g)
    (hc : W.cell? ⟨Bx, 0, none⟩ = some (.int .u64 (t : Int))) (hlt : Bx < W.heap.size) (ht : U t) (hu : ∀ r ∈ l, r.used ≤ t) :
    Calls Try.prog 38 #[v, .func (.func 39) #[] #[.pointer (some ⟨Bx, 0, none⟩)]] W fun e w' =>
      ∃ A c, e = .returned (.slice A (l.filter (kept t)).length c) ∧ w'.ownsRow B 85 6 (.slice A (l.filter (kept t)).length c) (l.filter (kept t)).length (rcells (l.filter (kept t))) ∧ Only (fun q => v.ownBlock = some q) W w' ∧ (Value.slice A (l.filter (kept t)).length c).ownBlock = v.ownBlock := by
  rcases hown.2 with ⟨rfl, h0⟩ | ⟨g, cap, cur, rfl, hbg, hg, hnc, hcm, hcs, htake⟩
  · obtain rfl : l = [] := List.eq_nil_of_length_eq_zero h0
    have hix := SsnWalkE.index_any (c := 0) (A := none) (n := 0) (D := W.heap.size) (RR.nil W W.heap.size none) (Nat.le_refl _) (by omega) hc hlt ht hu
    have HIX := Lib.hid hix
    clear hix hc hu hown
    go_enter Try.func38, Try.ntmps38
    go_wp2_with fail
    with_reducible refine HIX.out.mono ?_
    rintro e w1 ⟨hcase, hb1⟩
    rcases hcase with ⟨rfl, _⟩ | ⟨i, r0, _, hi, _⟩
    · go_wp2
      go_ret
      exact ⟨none, 0, rfl, World.ownsRow_nil _ _ _ _, Only.of_below hb1, rfl⟩
    · simp at hi
  · unfold maxLen at hcm
    refine (delete_any hg rfl htake hnc hcs (by omega) (hgB g rfl) hc hlt ht hu).mono ?_
    rintro e w' ⟨cur', rfl, h1, h2, h3, h4⟩
    refine ⟨_, _, rfl, ⟨by rw [rcells_length], .inr ⟨g, cap, cur', rfl, hbg, h1, ?_, by unfold maxLen; omega, by rw [h2, hcs], h3⟩⟩, h4.mono fun q _ e => by rw [e]; rfl, rfl⟩
    exact Nat.le_trans (List.length_filter_le _ _) hnc
set_option maxRecDepth 100000 in
theorem clock_no (h : PT T B w p v m) {t : Nat} (ht : t ≤ m.now) : Calls Try.prog 15 #[.pointer (some ⟨p, 0, none⟩), .int .u64 (t : Int)] w fun e w' => e = .returned (.tuple #[]) ∧ Below w.heap.size w w' := by
  have hbo := fun o => (Below.refl w.heap.size w).alloc (Nat.le_refl _) o
  have h0 := h.below (hbo (.cells #[.int .u64 (t : Int)] 28))
  have c0 := h0.c0
  have hp := h0.plt
  have htI : (t : Int) ≤ (m.now : Int) := by omega
  have qd : decide ((t : Int) ≤ (m.now : Int)) = true := decide_eq_true htI
  clear h h0 ht
  go_enter Try.func15, Try.ntmps15
  go_wp2
  go_quiet (fail)
  go_wp2
  refine bodyPost_ret (results_none rfl _ _ _) rfl ?_
  exact ⟨rfl, bdn (hbo _) _⟩
set_option maxRecDepth 100000 in
set_option maxHeartbeats 4000000 in
theorem clock_yes (h : PT T B w p v m) {t : Nat} (ht : m.now < t) (hU : U t) (hu : ∀ r ∈ m.rows, r.used ≤ m.now) : Calls Try.prog 15 #[.pointer (some ⟨p, 0, none⟩), .int .u64 (t : Int)] w fun e w' => e = .returned (.tuple #[]) ∧ PLeft T B w p v ⟨t, m.next, m.rows.filter (kept t)⟩ w' := by
  have hbo : Below w.heap.size w (w.alloc (.cells #[.int .u64 (t : Int)] 28)) := (Below.refl w.heap.size w).alloc (Nat.le_refl _) _
  have hnew := heap_alloc_new w (.cells #[.int .u64 (t : Int)] 28)
  obtain ⟨w0, hw0⟩ : ∃ w0, w.alloc (.cells #[.int .u64 (t : Int)] 28) = w0 := ⟨_, rfl⟩
  rw [hw0] at hbo hnew
  have h0 := h.below hbo
  have hpw := h.plt
  have b0 := cell_at hnew 0
  have hblt := lt_at hnew
  have c0 := h0.c0
  have c2 := h0.c2
  have f0 := h0.free 0
  have hp0 := h0.plt
  have htI : ¬ (t : Int) ≤ (m.now : Int) := by omega
  have qd : decide ((t : Int) ≤ (m.now : Int)) = false := decide_eq_false htI
  have FIN : Hid (∀ k, ∃ W1, (w0.drewN k).setCell ⟨p, 0, none⟩ (.int .u64 (t : Int)) = W1 ∧ W1.cell? ⟨p, 2, none⟩ = some v ∧ p < W1.heap.size ∧
      Hid (Calls Try.prog 38 #[v, .func (.func 39) #[] #[.pointer (some ⟨w.heap.size, 0, none⟩)]] W1 fun e W2 => ∃ A n c, e = .returned (.slice A n c) ∧
        W2.cell? ⟨p, 2, none⟩ = some v ∧ W2.frozen? ⟨p, 2, none⟩ = false ∧ p < W2.heap.size ∧ PLeft T B w p v ⟨t, m.next, m.rows.filter (kept t)⟩ (W2.setCell ⟨p, 2, none⟩ (.slice A n c)))) := by
    intro k
    have hd := h0.below (bdn (Below.refl _ _) k)
    obtain ⟨h1, o1⟩ := hd.timed t
    refine ⟨_, rfl, h1.c2, h1.plt, ?_⟩
    have hx1 := o1.heap hnew (fun e => by omega)
    have hu2 : ∀ r ∈ m.rows, r.used ≤ t := fun r hr => by have := hu r hr; omega
    refine Calls.mono (delete_own (Bx := w.heap.size) (t := t) (l := m.rows) h1.own (fun g hg e => ?_) (cell_at hx1 0) (lt_at hx1) hU hu2) ?_
    · have := (h.own.lt g hg).2; omega
    · rintro e W2 ⟨A, c, rfl, hown, ho, hat⟩
      obtain ⟨q1, q2, q3, q4⟩ := h1.rowed (L := m.rows.filter (kept t)) ho hown rfl rfl (fun q hq => .inl (hat ▸ hq))
      exact ⟨_, _, _, rfl, q1, q2, q3, LeftT.afterBelow (hbo.trans ((bdn (Below.refl w0.heap.size w0) k).mono hbo.size)) (LeftT.then (o1.mono fun q _ hq => .inl hq) (fun g hg => .inl hg) q4)⟩
  have HW0 := Lib.hid hw0
  clear h h0 hbo hnew hw0 hu ht hU
  go_enter Try.func15, Try.ntmps15
  go_wp2_with fail
  rw [HW0.out]
  go_quiet (fail)
  go_wp2_with fail
  obtain ⟨W1, hW1, d2, hp1, HDEL⟩ := FIN.out nq
  rw [hW1]
  have HW1 := Lib.hid hW1
  clear hW1
  with_reducible refine HDEL.out.mono ?_
  rintro e W2 ⟨A, n, c, rfl, q1, q2, q3, q4⟩
  have Q4 := Lib.hid q4
  clear q4
  go_wp2
  go_end0
  exact ⟨rfl, Q4.out⟩
end
end Go.Proofs.Ythaepkpmpnofgaa.SsnWalkG
