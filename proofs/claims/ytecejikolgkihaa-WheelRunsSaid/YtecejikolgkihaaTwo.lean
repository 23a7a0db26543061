/- Both wheels beside each other, and a block beside them: what each call of either leaves. -/
import Derived.Test.YtecejikolgkihaaRTick
set_option linter.unusedVariables false
namespace Go.Proofs.Ytecejikolgkihaa.Two
open Go.RowKit Go.Proofs.Ytecejikolgkihaa.Kit Go.Proofs.Ytecejikolgkihaa.Blocks Go.Proofs.Ytecejikolgkihaa.Whl Go.Proofs.Ytecejikolgkihaa.Tms Go.Proofs.Ytecejikolgkihaa.WAt Go.Proofs.Ytecejikolgkihaa.WalkG Go.Proofs.Ytecejikolgkihaa.WalkI Go.Proofs.Ytecejikolgkihaa.Sol Go.Proofs.Ytecejikolgkihaa.RMem Go.Proofs.Ytecejikolgkihaa.RStop Go.Proofs.Ytecejikolgkihaa.RSet Go.Proofs.Ytecejikolgkihaa.RTick

/-- The program's wheel at block p, the document's at block q; they share no block. -/
def Pr (B p q n1 : Nat) (D1 : List Tm) (n2 : Nat) (D2 : List Tm) (w : World) : Prop :=
  ∃ x vs va vb, x.p = p ∧ Wl B w x vs n1 D1 ∧ RAt B w q va vb n2 D2 ∧ ∀ g, Foot x vs g → ¬ FootR q va vb g
/-- Beside them a block that is theirs not; and what lay below B is as it was. -/
def Q2 (B : Nat) (w0 : World) (bx : Nat) (o : Obj) (p q n1 : Nat) (D1 : List Tm) (n2 : Nat) (D2 : List Tm) (w : World) : Prop :=
  w.heap[bx]? = some o ∧ (∃ x vs va vb, x.p = p ∧ Wl B w x vs n1 D1 ∧ RAt B w q va vb n2 D2 ∧ (∀ g, Foot x vs g → ¬ FootR q va vb g) ∧ ¬ Foot x vs bx ∧ ¬ FootR q va vb bx) ∧ Below B w0 w
section
variable {B : Nat} {w w' w0 : World} {bx p q n1 n2 n1' n2' : Nat} {o : Obj} {D1 D2 D1' D2' : List Tm} {x : Fx} {vs : Nat → Value} {va vb : Value}
theorem Pr.below (h : Pr B p q n1 D1 n2 D2 w) (k : Below w.heap.size w w') : Pr B p q n1 D1 n2 D2 w' := by
  obtain ⟨x, vs, va, vb, e, h1, h2, h3⟩ := h
  exact ⟨x, vs, va, vb, e, h1.below k, h2.below k, h3⟩
theorem Pr.base (h : Pr B p q n1 D1 n2 D2 w) : B ≤ w.heap.size := by obtain ⟨x, vs, va, vb, e, h1, h2, h3⟩ := h; exact h2.base
theorem Pr.boxed (h : Pr B p q n1 D1 n2 D2 w) (o : Obj) : Q2 B w w.heap.size o p q n1 D1 n2 D2 (w.alloc o) := by
  have hb := (Below.refl w.heap.size w).alloc (Nat.le_refl _) o
  have hB := h.base
  obtain ⟨x, vs, va, vb, e, h1, h2, h3⟩ := h
  refine ⟨heap_alloc_new w o, ⟨x, vs, va, vb, e, h1.below hb, h2.below hb, h3, fun hf => ?_, fun hf => ?_⟩, hb.mono hB⟩
  · have := (h1.at_.foot_lt hf).2; omega
  · have := (h2.foot_lt hf).2; omega
theorem Q2.pr (h : Q2 B w0 bx o p q n1 D1 n2 D2 w) : Pr B p q n1 D1 n2 D2 w := by
  obtain ⟨_, ⟨x, vs, va, vb, e, h1, h2, h3, _⟩, _⟩ := h
  exact ⟨x, vs, va, vb, e, h1, h2, h3⟩
theorem Q2.next (h : Q2 B w0 bx o p q n1 D1 n2 D2 w) (k : Below w.heap.size w w') : Q2 B w0 bx o p q n1 D1 n2 D2 w' := by
  obtain ⟨hb, ⟨x, vs, va, vb, e, h1, h2, h3, h4, h5⟩, h6⟩ := h
  exact ⟨(k.block bx (lt_at hb)).trans hb, ⟨x, vs, va, vb, e, h1.below k, h2.below k, h3, h4, h5⟩, h6.trans (k.mono h2.base)⟩
theorem Q2.drew (h : Q2 B w0 bx o p q n1 D1 n2 D2 w) : Q2 B w0 bx o p q n1 D1 n2 D2 w.drew := h.next ((Below.refl _ _).drew)
theorem Q2.cell {cs : Array Value} {t : TypeId} (h : Q2 B w0 bx (.cells cs t (0, 0)) p q n1 D1 n2 D2 w) (j : Nat) : w.cell? ⟨bx, j, none⟩ = cs[j]? := by rw [cell_at h.1]
theorem Q2.ok1 (h : Q2 B w0 bx o p q n1 D1 n2 D2 w) : Ok n1 D1 := by obtain ⟨_, ⟨x, vs, va, vb, e, h1, _⟩, _⟩ := h; exact h1.ok
/-- The program's wheel has turned. -/
theorem w_turn (h1 : Wl B w x vs n1 D1) (h2 : RAt B w q va vb n2 D2) (h3 : ∀ g, Foot x vs g → ¬ FootR q va vb g) (k : LeftD B w x vs n1' D1' w') :
    ∃ vs', Wl B w' x vs' n1' D1' ∧ RAt B w' q va vb n2 D2 ∧ (∀ g, Foot x vs' g → ¬ FootR q va vb g) ∧ Only (Foot x vs) w w' ∧ (∀ g, Foot x vs' g → Foot x vs g ∨ w.heap.size ≤ g) := by
  obtain ⟨⟨vs', k1, k2, k3⟩, k4⟩ := k
  refine ⟨vs', ⟨k1, k4⟩, h2.keep k2 fun g hg e => h3 g e hg, fun g hg hr => ?_, k2, k3⟩
  rcases k3 g hg with e | e
  · exact h3 g e hr
  · have := (h2.foot_lt hr).2; omega
/-- The document's wheel has turned. -/
theorem m_turn (h1 : Wl B w x vs n1 D1) (h2 : RAt B w q va vb n2 D2) (h3 : ∀ g, Foot x vs g → ¬ FootR q va vb g) (k : LeftR B w q va vb n2' D2' w') :
    ∃ va' vb', Wl B w' x vs n1 D1 ∧ RAt B w' q va' vb' n2' D2' ∧ (∀ g, Foot x vs g → ¬ FootR q va' vb' g) ∧ Only (FootR q va vb) w w' ∧ (∀ g, FootR q va' vb' g → FootR q va vb g ∨ w.heap.size ≤ g) := by
  obtain ⟨va', vb', k1, k2, k3⟩ := k
  refine ⟨va', vb', h1.keep k2 fun g hg => h3 g hg, k1, fun g hg hr => ?_, k2, k3⟩
  rcases k3 g hr with e | e
  · exact h3 g hg e
  · have := (h1.at_.foot_lt hg).2; omega
theorem q_w (hb : w.heap[bx]? = some o) (h1 : Wl B w x vs n1 D1) (h2 : RAt B w q va vb n2 D2) (h3 : ∀ g, Foot x vs g → ¬ FootR q va vb g) (h4 : ¬ Foot x vs bx) (h5 : ¬ FootR q va vb bx) (h6 : Below B w0 w) (k : LeftD B w x vs n1' D1' w') :
    Q2 B w0 bx o x.p q n1' D1' n2 D2 w' := by
  obtain ⟨vs', k1, k2, k3, k4, k5⟩ := w_turn h1 h2 h3 k
  refine ⟨k4.heap hb h4, ⟨x, vs', va, vb, rfl, k1, k2, k3, fun hf => ?_, h5⟩, h6.trans (k4.below h1.at_.base fun g hg => (h1.at_.foot_lt hg).1)⟩
  rcases k5 bx hf with e | e
  · exact h4 e
  · have := lt_at hb; omega
theorem q_m (hb : w.heap[bx]? = some o) (h1 : Wl B w x vs n1 D1) (h2 : RAt B w q va vb n2 D2) (h3 : ∀ g, Foot x vs g → ¬ FootR q va vb g) (h4 : ¬ Foot x vs bx) (h5 : ¬ FootR q va vb bx) (h6 : Below B w0 w) (k : LeftR B w q va vb n2' D2' w') :
    Q2 B w0 bx o x.p q n1 D1 n2' D2' w' := by
  obtain ⟨va', vb', k1, k2, k3, k4, k5⟩ := m_turn h1 h2 h3 k
  refine ⟨k4.heap hb h5, ⟨x, vs, va', vb', rfl, k1, k2, k3, h4, fun hf => ?_⟩, h6.trans (k4.below h2.base fun g hg => (h2.foot_lt hg).1)⟩
  rcases k5 bx hf with e | e
  · exact h5 e
  · have := lt_at hb; omega
/-! ### The calls -/
theorem p_set (h : Q2 B w0 bx o p q n1 D1 n2 D2 w) (hn : n1 < 4611686018427387904) (id dl : Int) {s : Int} {E : List Tm} (hs : Hid (setc n1 D1 id dl = s)) (hE : Hid (setd n1 D1 id dl = E)) :
    Calls Try.prog 11 #[.pointer (some ⟨p, 0, none⟩), .int .i64 id, .int .i64 dl] w fun e w' => e = .returned (.int .i64 s) ∧ Q2 B w0 bx o p q n1 E n2 D2 w' := by
  obtain ⟨hb, ⟨x, vs, va, vb, rfl, h1, h2, h3, h4, h5⟩, h6⟩ := h
  rw [← hs.out, ← hE.out]
  refine (set_D h1 hn id dl).mono ?_
  rintro e w' ⟨rfl, k⟩
  exact ⟨rfl, q_w hb h1 h2 h3 h4 h5 h6 k⟩
theorem m_set (h : Q2 B w0 bx o p q n1 D1 n2 D2 w) (hok : Ok n2 D2) (hn : n2 < 4611686018427387904) (id dl : Int) {s : Int} {E : List Tm} (hs : Hid (setc n2 D2 id dl = s)) (hE : Hid (setd n2 D2 id dl = E)) :
    Calls Try.prog 12 #[.pointer (some ⟨q, 0, none⟩), .int .i64 id, .int .i64 dl] w fun e w' => e = .returned (.int .i64 s) ∧ Q2 B w0 bx o p q n1 D1 n2 E w' := by
  obtain ⟨hb, ⟨x, vs, va, vb, rfl, h1, h2, h3, h4, h5⟩, h6⟩ := h
  rw [← hs.out, ← hE.out]
  refine (set_R h2 hok.ids hok.few hn id dl).mono ?_
  rintro e w' ⟨rfl, k⟩
  exact ⟨rfl, q_m hb h1 h2 h3 h4 h5 h6 k⟩
theorem p_stop (h : Q2 B w0 bx o p q n1 D1 n2 D2 w) (id : Int) {s : Bool} {E : List Tm} (hs : Hid (isIn D1 id = s)) (hE : Hid (del D1 id = E)) :
    Calls Try.prog 13 #[.pointer (some ⟨p, 0, none⟩), .int .i64 id] w fun e w' => e = .returned (.bool s) ∧ Q2 B w0 bx o p q n1 E n2 D2 w' := by
  obtain ⟨hb, ⟨x, vs, va, vb, rfl, h1, h2, h3, h4, h5⟩, h6⟩ := h
  rw [← hs.out, ← hE.out]
  refine (stop_D h1 id).mono ?_
  rintro e w' ⟨rfl, k⟩
  exact ⟨rfl, q_w hb h1 h2 h3 h4 h5 h6 k⟩
theorem m_stop (h : Q2 B w0 bx o p q n1 D1 n2 D2 w) (hok : Ok n2 D2) (id : Int) {s : Bool} {E : List Tm} (hs : Hid (isIn D2 id = s)) (hE : Hid (del D2 id = E)) :
    Calls Try.prog 14 #[.pointer (some ⟨q, 0, none⟩), .int .i64 id] w fun e w' => e = .returned (.bool s) ∧ Q2 B w0 bx o p q n1 D1 n2 E w' := by
  obtain ⟨hb, ⟨x, vs, va, vb, rfl, h1, h2, h3, h4, h5⟩, h6⟩ := h
  rw [← hs.out, ← hE.out]
  refine (stop_R h2 hok.ids hok.few id).mono ?_
  rintro e w' ⟨rfl, k⟩
  exact ⟨rfl, q_m hb h1 h2 h3 h4 h5 h6 k⟩
/-! ### What is asked behind each call -/
theorem p_now (h : Pr B p q n1 D1 n2 D2 w) : Calls Try.prog 18 #[.pointer (some ⟨p, 0, none⟩)] w fun e w' => e = .returned (.int .u64 (n1 : Int)) ∧ Pr B p q n1 D1 n2 D2 w' ∧ Below w.heap.size w w' := by
  have h' := h
  obtain ⟨x, vs, va, vb, rfl, h1, _⟩ := h
  refine (now_any h1).mono ?_
  rintro e w' ⟨rfl, k⟩
  exact ⟨rfl, h'.below k, k⟩
theorem p_len (h : Pr B p q n1 D1 n2 D2 w) {m : Nat} (hm : Hid (D1.length = m)) : Calls Try.prog 19 #[.pointer (some ⟨p, 0, none⟩)] w fun e w' => e = .returned (.int .i64 (m : Int)) ∧ Pr B p q n1 D1 n2 D2 w' ∧ Below w.heap.size w w' := by
  have h' := h
  obtain ⟨x, vs, va, vb, rfl, h1, _⟩ := h
  rw [← hm.out]
  refine (len_D h1).mono ?_
  rintro e w' ⟨rfl, k⟩
  exact ⟨rfl, h'.below k, k⟩
theorem p_due (h : Pr B p q n1 D1 n2 D2 w) (hn : n1 < 4611686018427387904) {z : Nat} (hz : Hid (next n1 D1 = z)) : Calls Try.prog 20 #[.pointer (some ⟨p, 0, none⟩)] w fun e w' => e = .returned (.int .u64 (z : Int)) ∧ Pr B p q n1 D1 n2 D2 w' ∧ Below w.heap.size w w' := by
  have h' := h
  obtain ⟨x, vs, va, vb, rfl, h1, _⟩ := h
  rw [← hz.out]
  refine (due_D h1 hn).mono ?_
  rintro e w' ⟨rfl, k⟩
  exact ⟨rfl, h'.below k, k⟩
theorem m_next (h : Pr B p q n1 D1 n2 D2 w) (hok : Ok n2 D2) (hn : n2 < 4611686018427387904) {z : Nat} (hz : Hid (next n2 D2 = z)) : Calls Try.prog 21 #[.pointer (some ⟨q, 0, none⟩)] w fun e w' => e = .returned (.int .u64 (z : Int)) ∧ Pr B p q n1 D1 n2 D2 w' ∧ Below w.heap.size w w' := by
  have h' := h
  obtain ⟨x, vs, va, vb, rfl, h1, h2, _⟩ := h
  rw [← hz.out]
  refine (next_R h2 (fun t ht => ⟨hok.dues t ht, by have := hok.tops t ht; omega⟩) hok.few).mono ?_
  rintro e w' ⟨rfl, k⟩
  exact ⟨rfl, h'.below k, k⟩
theorem Pr.c0 (h : Pr B p q n1 D1 n2 D2 w) : w.cell? ⟨q, 0, none⟩ = some (.int .u64 (n2 : Int)) := by obtain ⟨x, vs, va, vb, rfl, h1, h2, _⟩ := h; exact h2.c0
theorem Pr.c1 (h : Pr B p q n1 D1 n2 D2 w) {m : Nat} (hm : Hid (D2.length = m)) : ∃ A c, w.cell? ⟨q, 1, none⟩ = some (.slice A m c) := by
  obtain ⟨x, vs, va, vb, rfl, h1, h2, _⟩ := h
  obtain ⟨A, c, hv, _⟩ := own_form h2.ids
  rw [hm.out] at hv
  exact ⟨A, c, by rw [h2.c1, hv]⟩
theorem Pr.qlt (h : Pr B p q n1 D1 n2 D2 w) : q < w.heap.size := by obtain ⟨x, vs, va, vb, rfl, h1, h2, _⟩ := h; exact h2.qlt
/-! ### A tick of both -/
def Q3 (B p q T : Nat) (D : List Tm) (A : Option Addr) (m c : Nat) (w : World) : Prop :=
  ∃ x vs va vb, x.p = p ∧ Wl B w x vs (T + 1) (left T D) ∧ RAt B w q va vb T D ∧ (∀ g, Foot x vs g → ¬ FootR q va vb g) ∧ Reads w w.heap.size 1 A m (ivals (dueD T D)) ∧ (0 < m → ∀ ad, A = some ad → ¬ FootR q va vb ad.block)
theorem p_tick {T : Nat} {D : List Tm} (h : Pr B p q T D T D w) (hn : T < 4611686018427387904) {m : Nat} (hm : Hid ((dueD T D).length = m)) : Calls Try.prog 16 #[.pointer (some ⟨p, 0, none⟩)] w fun e w' =>
    ∃ A c, e = .returned (.slice A m c) ∧ Q3 B p q T D A m c w' ∧ Below B w w' := by
  obtain ⟨x, vs, va, vb, rfl, h1, h2, h3⟩ := h
  refine (tick_D h1 hn).mono ?_
  intro e w' ht
  obtain ⟨v, rfl, hown, hl⟩ := ht.left
  obtain ⟨A, c, rfl, _, _, hr⟩ := own_form hown
  obtain ⟨vs', k1, k2, k3, k4, k5⟩ := w_turn h1 h2 h3 hl
  rw [hm.out] at hr ⊢
  refine ⟨A, c, rfl, ⟨x, vs', va, vb, rfl, k1, k2, k3, hr, fun h0 ad ha hf => ?_⟩, k4.below h1.at_.base fun g hg => (h1.at_.foot_lt hg).1⟩
  have hlt := (h2.foot_lt hf).2
  rw [hm.out] at hown
  rcases hown.2 with ⟨_, e0⟩ | ⟨g, cap, cu, hv, hb, _⟩
  · omega
  · injection hv with hA _ _
    rw [ha] at hA
    cases hA
    simp only at hlt
    omega
theorem m_tick {T : Nat} {D : List Tm} {A : Option Addr} {m c : Nat} (h : Q3 B p q T D A m c w) (hok : Ok T D) (hn : T < 4611686018427387904) (hm : Hid ((dueD T D).length = m)) : Calls Try.prog 17 #[.pointer (some ⟨q, 0, none⟩)] w fun e w' =>
    ∃ A2 c2, e = .returned (.slice A2 m c2) ∧ Pr B p q (T + 1) (left T D) (T + 1) (left T D) w' ∧ Reads w' w'.heap.size 1 A m (ivals (dueD T D)) ∧ Reads w' w'.heap.size 1 A2 m (ivals (dueD T D)) ∧ Below B w w' := by
  obtain ⟨x, vs, va, vb, rfl, h1, h2, h3, h4, h5⟩ := h
  refine (tick_R h2 hok.few hn fun t ht => by have := hok.tops t ht; omega).mono ?_
  rintro e w' ⟨v, rfl, hown, hl⟩
  obtain ⟨A2, c2, rfl, _, _, hr⟩ := own_form hown
  obtain ⟨va', vb', k1, k2, k3, k4, k5⟩ := m_turn h1 h2 h3 hl
  rw [hm.out] at hr ⊢
  exact ⟨A2, c2, rfl, ⟨x, vs, va', vb', rfl, k1, k2, k3⟩, (reads_off h4 (Nat.le_refl _) k4 h5).more k4.size, hr, k4.below h2.base fun g hg => (h2.foot_lt hg).1⟩
end
end Go.Proofs.Ytecejikolgkihaa.Two
