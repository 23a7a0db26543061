/- What Send leaves, walked. No statement is proved here. -/
import Derived.Test.YtfcdaelbbcfgjaaWalkB
import Derived.Deep.RegionLaw
set_option linter.unusedVariables false
namespace Go.Proofs.Ytfcdaelbbcfgjaa.WalkC
open Go.RowKit Go.Proofs.Ytfcdaelbbcfgjaa.Kit Go.Proofs.Ytfcdaelbbcfgjaa.Blocks Go.Proofs.Ytfcdaelbbcfgjaa.Ltr Go.Proofs.Ytfcdaelbbcfgjaa.NAt Go.Proofs.Ytfcdaelbbcfgjaa.App Go.Proofs.Ytfcdaelbbcfgjaa.WalkA Go.Proofs.Ytfcdaelbbcfgjaa.WalkB

theorem own_fit {w : World} {base n c : Nat} {A : Option Addr} {h : Hd} {es : List Ent} {E : Nat → Prop} (hown : w.ownsRow base 51 4 (.slice A n c) n (ecells es)) (hE : ∀ g, (Value.slice A n c).ownBlock = some g → E g) (h40 : n * 40 ≤ 140737488355328) : Fit w E ⟨h, A, n, c, es⟩ := by
  obtain ⟨A', c', he, h1, h2, h3⟩ := own_form hown
  cases he
  unfold maxLen at h2
  exact ⟨h3, h1, by show c ≤ _; omega, h40, fun ad e hn => hE _ (by subst e; rfl)⟩

/-- One more letter is laid behind the others. -/
theorem NAt.sent {B : Nat} {T : TypeId} {E E' : Nat → Prop} {w w1 W : World} {p n : Nat} {v : Value} {L : List Lt} {lost : Nat} {x : Lt} (h : NAt B T E w p v L lost) (hn : L.length = n) (hk : Below w.heap.size w w1) (hK : Below w1.heap.size w1 W)
    (hE : ∀ g, E g → E' g) (hE' : ∀ g, E' g → E g ∨ w.heap.size ≤ g ∧ g < w1.heap.size) (hx : Fit w1 E' x) (A' : Option Addr) (c' : Nat) (w3 : World)
    (hown : w3.ownsRow B 34 10 (.slice A' (n + 1) c') (n + 1) (lcells L ++ lcells [x])) (hg : W.grownBy w3 v.ownBlock) (hat : (Value.slice A' (n + 1) c').ownBlock = v.ownBlock ∨ (Value.slice A' (n + 1) c').ownBlock = some W.heap.size) :
    w3.cell? ⟨p, 0, none⟩ = some v ∧ w3.frozen? ⟨p, 0, none⟩ = false ∧ p < w3.heap.size ∧ LeftN B T E E' w p v (L ++ [x]) lost (w3.setCell ⟨p, 0, none⟩ (.slice A' (n + 1) c')) := by
  have s1 := hk.size
  have s2 := hK.size
  have s3 := hg.size
  have hoff : ∀ g, E' g → v.ownBlock ≠ some g := fun g hgE e => by
    rcases hE' g hgE with h1 | h1
    · exact (h.off g h1).2.1 e
    · have := (h.own.lt g e).2; omega
  have o1 : Only (fun q => v.ownBlock = some q) w1 w3 := (Only.of_below hK).grown hg fun g e => .inr e
  refine h.rowed (L' := L ++ [x]) hE (fun g hgE => ?_) ((Only.of_below hk).trans' o1 fun q hq => .inl hq) hown (by simp [hn]) (by rw [lcells_append]) (fun y hy => ?_) fun q hq => ?_
  · rcases hE' g hgE with e | e
    · exact .inl e
    · refine .inr ⟨e.1, by omega, fun e2 => ?_⟩
      rcases hat with h1 | h1
      · exact hoff g hgE (h1 ▸ e2)
      · rw [e2] at h1; cases h1; omega
  · rcases List.mem_append.1 hy with hy | hy
    · exact (((h.fit y hy).below hk).more hE).keep o1 fun g hgE e => hoff g hgE e
    · simp only [List.mem_singleton] at hy
      subst hy
      exact hx.keep o1 fun g hgE e => hoff g hgE e
  · rcases hat with h1 | h1
    · exact .inl (h1 ▸ hq)
    · rw [hq] at h1; cases h1; exact .inr (by omega)
section
variable {B : Nat} {E E0 : Nat → Prop} {w : World} {p : Nat} {v : Value} {L : List Lt} {lost : Nat} {x : Lt}
set_option maxRecDepth 100000 in
set_option maxHeartbeats 4000000 in
theorem send_full (h : NAt B 54 E w p v L lost) (hfull : 256 ≤ L.length) (hlost : lost < 4611686018427387904) :
    Calls Try.prog 11 #[.pointer (some ⟨p, 0, none⟩), ltV x] w fun e w' => e = .returned (.bool false) ∧ LeftN B 54 E E w p v L (lost + 1) w' := by
  obtain ⟨⟨k, f, t, tm, ix, pv, cm, ok, d⟩, A1, n1, c1, es⟩ := x
  unfold ltV
  have hbo : ∀ o, Below w.heap.size w (w.alloc o) := fun o => (Below.refl _ _).alloc (Nat.le_refl _) o
  have h1 := h.below (hbo (.cells #[.int .i64 k, .int .i64 f, .int .i64 t, .int .u64 tm, .int .u64 ix, .int .u64 pv, .int .u64 cm, .bool ok, .slice A1 n1 c1, .string d] 34))
  have c0' := h1.c0
  have c1' := h1.c1
  have f1' := h1.free 1
  have hp' := h1.plt
  obtain ⟨A, c, hv, hnc, hcm, _⟩ := h.form
  have hl := h1.losing (lost + 1)
  obtain ⟨n, hn⟩ : ∃ n, L.length = n := ⟨_, rfl⟩
  rw [hn] at hv hfull
  rw [hv] at c0'
  have hw : IntKind.i64.wrap ((lost : Int) + 1) = ((lost + 1 : Nat) : Int) := by rw [show (lost : Int) + 1 = ((lost + 1 : Nat) : Int) by omega]; exact IntWalk.i64_in _ ⟨by omega, by omega⟩
  obtain ⟨N, hN⟩ : ∃ N, lost + 1 = N := ⟨_, rfl⟩
  rw [hN] at hw hl ⊢
  have hfI : (256 : Int) ≤ (n : Int) := by omega
  have hsz : w.heap.size < (w.alloc (.cells #[.int .i64 k, .int .i64 f, .int .i64 t, .int .u64 tm, .int .u64 ix, .int .u64 pv, .int .u64 cm, .bool ok, .slice A1 n1 c1, .string d] 34)).heap.size := by simp
  have HL := Lib.hid hl
  have H := Lib.hid h
  have HBO := Lib.hid hbo
  clear hl h h1 hbo hN hv hn
  simp only at *
  go_enter Try.func11, Try.ntmps11
  go_wp2
  go_ret
  exact ⟨rfl, LeftN.afterBelow (HBO.out _) HL.out⟩
/-- A letter is sent: its entries are new. -/
def Sent (B : Nat) (E : Nat → Prop) (w : World) (p : Nat) (v : Value) (L : List Lt) (lost : Nat) (x : Lt) (e : Ending) (w' : World) : Prop :=
  e = .returned (.bool true) ∧ ∃ E' A c, LeftN B 54 E E' w p v (L ++ [⟨x.h, A, x.n, c, x.es⟩]) lost w'
set_option maxRecDepth 100000 in
set_option maxHeartbeats 4000000 in
theorem send_room (h : NAt B 54 E w p v L lost) (hroom : L.length < 256) (hx : Fit w E0 x) :
    Calls Try.prog 11 #[.pointer (some ⟨p, 0, none⟩), ltV x] w (Sent B E w p v L lost x) := by
  have hbo : ∀ o, Below w.heap.size w (w.alloc o) := fun o => (Below.refl _ _).alloc (Nat.le_refl _) o
  have hcp : ∀ W, Below w.heap.size w W → Calls Try.prog 22 #[ltV x] W (Gives W x) := fun W hb => copied_any (hx.below hb)
  have h40 := hx.few
  obtain ⟨⟨k, f, t, tm, ix, pv, cm, ok, d⟩, A1, n1, c1, es⟩ := x
  unfold Gives at hcp
  unfold Sent
  unfold ltV at hcp ⊢
  simp only at hcp h40 ⊢
  obtain ⟨w0, hw0⟩ : ∃ w0, w.alloc (.cells #[.int .i64 k, .int .i64 f, .int .i64 t, .int .u64 tm, .int .u64 ix, .int .u64 pv, .int .u64 cm, .bool ok, .slice A1 n1 c1, .string d] 34) = w0 := ⟨_, rfl⟩
  have hb0 := hbo (.cells #[.int .i64 k, .int .i64 f, .int .i64 t, .int .u64 tm, .int .u64 ix, .int .u64 pv, .int .u64 cm, .bool ok, .slice A1 n1 c1, .string d] 34)
  have hnew := heap_alloc_new w (.cells #[.int .i64 k, .int .i64 f, .int .i64 t, .int .u64 tm, .int .u64 ix, .int .u64 pv, .int .u64 cm, .bool ok, .slice A1 n1 c1, .string d] 34)
  rw [hw0] at hb0 hnew
  have h0 := h.below hb0
  have cw := h.c0
  have hpw := h.plt
  have c0 := h0.c0
  have hp0 := h0.plt
  have q0 := ten_at hnew
  obtain ⟨d0, d1, d2, d3, d4, d5, d6, d7, d8, d9, hltb⟩ := q0
  obtain ⟨A, c, hv, hnc, hcm, _⟩ := h.form
  obtain ⟨n, hn⟩ : ∃ n, L.length = n := ⟨_, rfl⟩
  rw [hn] at hv hroom hnc
  rw [hv] at c0 cw
  have hfI : ¬ (256 : Int) ≤ (n : Int) := by omega
  have HC : Hid (∀ W, Below w.heap.size w W → Calls Try.prog 22 #[.agg #[.int .i64 k, .int .i64 f, .int .i64 t, .int .u64 tm, .int .u64 ix, .int .u64 pv, .int .u64 cm, .bool ok, .slice A1 n1 c1, .string d]] W fun e w' => ∃ A c, e = .returned (.agg #[.int .i64 k, .int .i64 f, .int .i64 t, .int .u64 tm, .int .u64 ix, .int .u64 pv, .int .u64 cm, .bool ok, .slice A n1 c, .string d]) ∧ w'.ownsRow W.heap.size 51 4 (.slice A n1 c) n1 (ecells es) ∧ Below W.heap.size W w') := hcp
  have H0 := Lib.hid h0
  have H := Lib.hid h
  have HB0 := Lib.hid hb0
  have HW0 := Lib.hid hw0
  have HV := Lib.hid hv
  have HN := Lib.hid hn
  have HX := Lib.hid hx
  have HBD : Hid (Below w.heap.size w w0.drew) := hb0.drew
  clear h h0 hb0 hw0 hv hn hx hcp hbo hnew
  go_enter Try.func11, Try.ntmps11
  go_wp2_with fail
  rw [HW0.out]
  go_region_law (first
    | (refine step_appL (v := .slice A n c) (xs := lcells L) _ rfl _ _ rfl B rfl (HO.out _) rfl HNW.out (lcells_one _) (by omega) (HBS.out _) ?_
       intro A' c' w3 hown3 hg3 hat3
       obtain ⟨q1, q2, q3, q4⟩ := HFIN.out _ A' c' w3 hown3 (by rw [HV.out]; exact hg3) (by rw [HV.out]; exact hat3)
       rw [HV.out] at q1
       have Q4 := Lib.hid q4
       clear q4 hown3 hg3 hat3)
    | (go_simp
       go_at_call 22
       (with_reducible refine (HC.out _ HBD.out).mono ?_)
       rintro e w1 ⟨A2, c2, rfl, hown1, hb1⟩
       have hbk : Below w0.heap.size w0 w1 := (Below.refl _ _).drew.trans hb1
       have c01 : w1.cell? ⟨p, 0, none⟩ = some (.slice A n c) := (hbk.cell (p := ⟨p, 0, none⟩) hp0).trans c0
       have hp1 : p < w1.heap.size := Nat.lt_of_lt_of_le hp0 hbk.size
       have hw1 := H0.out.below hbk
       have HO : Hid (∀ o, (w1.alloc o).ownsRow B 34 10 (.slice A n c) n (lcells L)) := fun o => by
         have := (hw1.below ((Below.refl _ _).alloc (Nat.le_refl _) o)).own
         rwa [HV.out, HN.out] at this
       have HNW : Hid (RL (w1.alloc (.cells #[.int .i64 k, .int .i64 f, .int .i64 t, .int .u64 tm, .int .u64 ix, .int .u64 pv, .int .u64 cm, .bool ok, .slice A2 n1 c2, .string d] 34)) (w1.heap.size + 1) (some ⟨w1.heap.size, 0, none⟩) 1 [⟨⟨k, f, t, tm, ix, pv, cm, ok, d⟩, A2, n1, c2, es⟩]) := lt_new w1 ⟨⟨k, f, t, tm, ix, pv, cm, ok, d⟩, A2, n1, c2, es⟩ 34
       have HBS : Hid (∀ o, B ≤ (w1.alloc o).heap.size) := fun o => by have := hw1.base; simp; omega
       have HFIN := Lib.hid (fun o => NAt.sent (W := w1.alloc o) (x := ⟨⟨k, f, t, tm, ix, pv, cm, ok, d⟩, A2, n1, c2, es⟩) (E' := fun g => E g ∨ (Value.slice A2 n1 c2).ownBlock = some g) H0.out HN.out hbk ((Below.refl _ _).alloc (Nat.le_refl _) o) (fun g hg => .inl hg)
         (fun g hg => hg.imp_right fun e => hown1.lt g e) (own_fit hown1 (fun g e => .inr e) h40))
       clear hw1 hbk hown1 hb1))
  all_goals go_wp2
  all_goals go_ret
  all_goals exact ⟨rfl, _, _, _, LeftN.afterBelow HB0.out Q4.out⟩
end
end Go.Proofs.Ytfcdaelbbcfgjaa.WalkC
