/- The document's wheel in memory: a time and two rows; appends onto such rows. No statement is proved here. -/
import Derived.Test.YtecejikolgkihaaCals
import Derived.Deep.RegionLaw
set_option linter.unusedVariables false
namespace Go.Proofs.Ytecejikolgkihaa.RMem
open Go.RowKit Go.Proofs.Ytecejikolgkihaa.Kit Go.Proofs.Ytecejikolgkihaa.Blocks Go.Proofs.Ytecejikolgkihaa.Whl Go.Proofs.Ytecejikolgkihaa.Tms Go.Proofs.Ytecejikolgkihaa.WalkG

def uvals (l : List Nat) : List Value := l.map fun (z : Nat) => .int .u64 (z : Int)
theorem uvals_one (l : List Nat) : ∀ u ∈ uvals l, u.oneCell' = true := by
  intro u hu
  obtain ⟨_, _, rfl⟩ := List.mem_map.1 hu
  rfl
def idv (D : List Tm) : List Value := ivals (D.map (·.1))
def duv (D : List Tm) : List Value := uvals (D.map (·.2))
theorem idv_length (D : List Tm) : (idv D).length = D.length := by simp [idv, ivals]
theorem duv_length (D : List Tm) : (duv D).length = D.length := by simp [duv, uvals]
theorem idv_one (D : List Tm) : ∀ u ∈ idv D, u.oneCell' = true := ivals_one _
theorem duv_one (D : List Tm) : ∀ u ∈ duv D, u.oneCell' = true := uvals_one _
theorem idv_append (D E : List Tm) : idv (D ++ E) = idv D ++ idv E := by simp [idv, ivals]
theorem duv_append (D E : List Tm) : duv (D ++ E) = duv D ++ duv E := by simp [duv, uvals]
theorem idv_take (D : List Tm) (k : Nat) : idv (D.take k) = (idv D).take k := by simp [idv, ivals, List.map_take]
theorem duv_take (D : List Tm) (k : Nat) : duv (D.take k) = (duv D).take k := by simp [duv, uvals, List.map_take]
theorem idv_drop (D : List Tm) (k : Nat) : idv (D.drop k) = (idv D).drop k := by simp [idv, ivals, List.map_drop]
theorem duv_drop (D : List Tm) (k : Nat) : duv (D.drop k) = (duv D).drop k := by simp [duv, uvals, List.map_drop]
theorem idv_get {D : List Tm} {k : Nat} {t : Tm} (h : D[k]? = some t) : (idv D)[k]? = some (.int .i64 t.1) := by simp [idv, ivals, h]
theorem duv_get {D : List Tm} {k : Nat} {t : Tm} (h : D[k]? = some t) : (duv D)[k]? = some (.int .u64 (t.2 : Int)) := by simp [duv, uvals, h]

structure RAt (B : Nat) (w : World) (q : Nat) (va vb : Value) (now : Nat) (D : List Tm) : Prop where
  low : B ≤ q
  cell : w.heap[q]? = some (.cells #[.int .u64 (now : Int), va, vb] 31 (0, 0))
  ids : w.ownsRow B 3 1 va D.length (idv D)
  dues : w.ownsRow B 27 1 vb D.length (duv D)
  na : va.ownBlock ≠ some q
  nb : vb.ownBlock ≠ some q
  ab : ∀ g, va.ownBlock = some g → vb.ownBlock ≠ some g
def FootR (q : Nat) (va vb : Value) (g : Nat) : Prop := g = q ∨ va.ownBlock = some g ∨ vb.ownBlock = some g
def LeftR (B : Nat) (w : World) (q : Nat) (va vb : Value) (now' : Nat) (D' : List Tm) (w' : World) : Prop :=
  ∃ va' vb', RAt B w' q va' vb' now' D' ∧ Only (FootR q va vb) w w' ∧ ∀ g, FootR q va' vb' g → FootR q va vb g ∨ w.heap.size ≤ g
section
variable {B : Nat} {w w' w1 : World} {q : Nat} {va vb : Value} {now now' : Nat} {D D' : List Tm}
theorem RAt.foot_lt (h : RAt B w q va vb now D) {g : Nat} (hg : FootR q va vb g) : B ≤ g ∧ g < w.heap.size := by
  rcases hg with rfl | hg | hg
  · exact ⟨h.low, lt_at h.cell⟩
  · exact h.ids.lt g hg
  · exact h.dues.lt g hg
theorem RAt.qlt (h : RAt B w q va vb now D) : q < w.heap.size := lt_at h.cell
theorem RAt.base (h : RAt B w q va vb now D) : B ≤ w.heap.size := by have := h.qlt; have := h.low; omega
theorem RAt.c0 (h : RAt B w q va vb now D) : w.cell? ⟨q, 0, none⟩ = some (.int .u64 (now : Int)) := by rw [cell_at h.cell]; rfl
theorem RAt.c1 (h : RAt B w q va vb now D) : w.cell? ⟨q, 1, none⟩ = some va := by rw [cell_at h.cell]; rfl
theorem RAt.c2 (h : RAt B w q va vb now D) : w.cell? ⟨q, 2, none⟩ = some vb := by rw [cell_at h.cell]; rfl
theorem RAt.free (h : RAt B w q va vb now D) (i : Nat) : w.frozen? ⟨q, i, none⟩ = false := free_at h.cell i
theorem RAt.keep (h : RAt B w q va vb now D) {S : Nat → Prop} (k : Only S w w') (hs : ∀ g, FootR q va vb g → ¬ S g) : RAt B w' q va vb now D :=
  ⟨h.low, k.heap h.cell (hs q (.inl rfl)), k.own h.ids fun g hg => hs g (.inr (.inl hg)), k.own h.dues fun g hg => hs g (.inr (.inr hg)), h.na, h.nb, h.ab⟩
theorem RAt.below (h : RAt B w q va vb now D) (k : Below w.heap.size w w') : RAt B w' q va vb now D := h.keep (S := fun _ => False) (Only.of_below k) (by simp)
/-- Another row of numbers is laid. -/
theorem RAt.ided (h : RAt B w q va vb now D) {n : Nat} {v : Value} {xs : List Value} (k : Only (fun g => va.ownBlock = some g) w w1) (hown : w1.ownsRow B 3 1 v n xs) (hat : ∀ g, v.ownBlock = some g → va.ownBlock = some g ∨ w.heap.size ≤ g) :
    w1.cell? ⟨q, 1, none⟩ = some va ∧ w1.frozen? ⟨q, 1, none⟩ = false ∧ (w1.setCell ⟨q, 1, none⟩ v).heap[q]? = some (.cells #[.int .u64 (now : Int), v, vb] 31 (0, 0)) ∧
      (w1.setCell ⟨q, 1, none⟩ v).ownsRow B 3 1 v n xs ∧ (w1.setCell ⟨q, 1, none⟩ v).ownsRow B 27 1 vb D.length (duv D) ∧ Only (FootR q va vb) w (w1.setCell ⟨q, 1, none⟩ v) ∧ v.ownBlock ≠ some q ∧ ∀ g, v.ownBlock = some g → vb.ownBlock ≠ some g := by
  have hc := k.heap h.cell h.na
  have hne : v.ownBlock ≠ some q := fun e => by
    rcases hat q e with e1 | e1
    · exact h.na e1
    · have := h.qlt; omega
  have hset : Only (fun g => g = q) w1 (w1.setCell ⟨q, 1, none⟩ v) := (Only.refl (fun g => g = q) w1).setCell (a := ⟨q, 1, none⟩) (.inr rfl) v
  refine ⟨by rw [cell_at hc]; rfl, free_at hc 1, by rw [set_at hc]; rfl, hset.own hown fun g hg e => hne (e ▸ hg), hset.own (k.own h.dues fun g hg e => h.ab g e hg) fun g hg e => h.nb (e ▸ hg), ?_, hne, fun g hg e => ?_⟩
  · exact (k.mono fun g _ hg => .inr (.inl hg)).trans (hset.mono fun g _ hg => .inl hg)
  · rcases hat g hg with e1 | e1
    · exact h.ab g e1 e
    · have := (h.foot_lt (.inr (.inr e))).2; omega
/-- Another row of times, behind another row of numbers. -/
theorem dued {va' : Value} {n : Nat} {v : Value} {xs : List Value} {D' : List Tm} (hcell : w.heap[q]? = some (.cells #[.int .u64 (now : Int), va', vb] 31 (0, 0))) (hids : w.ownsRow B 3 1 va' D'.length (idv D')) (hlow : B ≤ q)
    (hna : va'.ownBlock ≠ some q) (hnb : vb.ownBlock ≠ some q) (hab : ∀ g, va'.ownBlock = some g → vb.ownBlock ≠ some g)
    (k : Only (fun g => vb.ownBlock = some g) w w1) (hown : w1.ownsRow B 27 1 v n xs) (hn : n = D'.length) (hx : xs = duv D') (hat : ∀ g, v.ownBlock = some g → vb.ownBlock = some g ∨ w.heap.size ≤ g) :
    w1.cell? ⟨q, 2, none⟩ = some vb ∧ w1.frozen? ⟨q, 2, none⟩ = false ∧ RAt B (w1.setCell ⟨q, 2, none⟩ v) q va' v now D' ∧ Only (FootR q va' vb) w (w1.setCell ⟨q, 2, none⟩ v) := by
  subst hn hx
  have hc := k.heap hcell hnb
  have hlt := lt_at hcell
  have hne : v.ownBlock ≠ some q := fun e => by
    rcases hat q e with e1 | e1
    · exact hnb e1
    · omega
  have hset : Only (fun g => g = q) w1 (w1.setCell ⟨q, 2, none⟩ v) := (Only.refl (fun g => g = q) w1).setCell (a := ⟨q, 2, none⟩) (.inr rfl) v
  refine ⟨by rw [cell_at hc]; rfl, free_at hc 2, ⟨hlow, by rw [set_at hc]; rfl, hset.own (k.own hids fun g hg e => hab g hg e) fun g hg e => hna (e ▸ hg), hset.own hown fun g hg e => hne (e ▸ hg), hna, hne, fun g hg e => ?_⟩, ?_⟩
  · rcases hat g e with e1 | e1
    · exact hab g hg e1
    · have := (hids.lt g hg).2; omega
  · exact (k.mono fun g _ hg => .inr (.inr hg)).trans (hset.mono fun g _ hg => .inl hg)
/-- The time is another. -/
theorem RAt.timed (h : RAt B w q va vb now D) (t : Nat) : RAt B (w.setCell ⟨q, 0, none⟩ (.int .u64 (t : Int))) q va vb t D ∧ Only (fun g => g = q) w (w.setCell ⟨q, 0, none⟩ (.int .u64 (t : Int))) := by
  have hset : Only (fun g => g = q) w (w.setCell ⟨q, 0, none⟩ (.int .u64 (t : Int))) := (Only.refl (fun g => g = q) w).setCell (a := ⟨q, 0, none⟩) (.inr rfl) _
  exact ⟨⟨h.low, by rw [set_at h.cell]; rfl, hset.own h.ids fun g hg e => h.na (e ▸ hg), hset.own h.dues fun g hg e => h.nb (e ▸ hg), h.na, h.nb, h.ab⟩, hset⟩
theorem LeftR.refl (h : RAt B w q va vb now D) : LeftR B w q va vb now D w := ⟨va, vb, h, Only.refl _ w, fun _ hg => .inl hg⟩
theorem LeftR.of_below (h : RAt B w q va vb now D) (k : Below w.heap.size w w') : LeftR B w q va vb now D w' := ⟨va, vb, h.below k, Only.of_below k, fun _ hg => .inl hg⟩
theorem LeftR.then {va' vb' : Value} (k1 : Only (FootR q va vb) w w1) (hf : ∀ g, FootR q va' vb' g → FootR q va vb g ∨ w.heap.size ≤ g) (k2 : LeftR B w1 q va' vb' now' D' w') : LeftR B w q va vb now' D' w' := by
  obtain ⟨va2, vb2, h2, o2, f2⟩ := k2
  refine ⟨va2, vb2, h2, k1.trans' o2 hf, fun g hg => ?_⟩
  rcases f2 g hg with h | h
  · exact hf g h
  · exact .inr (Nat.le_trans k1.size h)
end
section
variable {P : Program} {t e : TypeId} {z : Value} {B n m c : Nat} {A : Option Addr} {v : Value} {xs news : List Value}
/-- append onto a row of the call's own, one cell an element, eight bytes: a step of a region that draws. -/
theorem step_own (ht : P.underlying t = some (.slice e)) (hinfo : (P.info? e).map (fun i => (i.zero, i.size, i.bytes)) = some (some z, 1, 8)) (hzs : z.cells.size = 1)
    {ops : Array Oper} {o : Oper} {a : Act} {K : Act → World → Prop} {Q : Exit → Act → World → Prop} {E : Prop} (w : World) (hgd : o.guard = none) (s x : Operand) 
    (ho : o.op = .call { callee := .builtin .append, args := #[s, x], argTypes := #[t, t] })
    (base : Nat) (hs : a.eval s = v) (hown : w.ownsRow base e 1 v n xs) (hx : a.eval x = .slice A m c) (hr : Reads w B 1 A m news) (h1 : ∀ u ∈ news, u.oneCell' = true) (hb : (n + m) * 8 ≤ 140737488355328) (hbase : base ≤ w.heap.size)
    (h : ∀ A' c' w', w'.ownsRow base e 1 (.slice A' (n + m) c') (n + m) (xs ++ news) → w.grownBy w' v.ownBlock → ((Value.slice A' (n + m) c').ownBlock = v.ownBlock ∨ (Value.slice A' (n + m) c').ownBlock = some w.heap.size) → K (a.put o.dst (.slice A' (n + m) c')) w') :
    if Region.wanted o (yielded ops a.tmps) = true then Oper.wp P o a w K Q else E := by
  have hw : Region.wanted o (yielded ops a.tmps) = true := by simp [Region.wanted, hgd]
  rw [if_pos hw]
  obtain ⟨i0, hi0, hz0, hz1, hz2⟩ := info_parts hinfo
  exact wp_append_any w s x t ho base e i0 z 1 8 ht hi0 hz0 hz1 hz2 hzs (by decide) v n xs hs hown B A m c news hx hr h1 (by unfold maxLen; omega) hb hbase fun v' w' h1 h2 h3 => by
    obtain ⟨A', c', rfl, _, _, _⟩ := own_form h1
    exact h A' c' w' h1 h2 h3
/-- append onto nothing: a new row. -/
theorem step_fresh (ht : P.underlying t = some (.slice e)) (hinfo : (P.info? e).map (fun i => (i.zero, i.size, i.bytes)) = some (some z, 1, 8)) (hzs : z.cells.size = 1)
    {ops : Array Oper} {o : Oper} {a : Act} {K : Act → World → Prop} {Q : Exit → Act → World → Prop} {E : Prop} (w : World) (hgd : o.guard = none) (s x : Operand) 
    (ho : o.op = .call { callee := .builtin .append, args := #[s, x], argTypes := #[t, t] })
    (base : Nat) (hs : a.eval s = .slice none 0 0) (hx : a.eval x = .slice A m c) (hr : Reads w B 1 A m news) (h1 : ∀ u ∈ news, u.oneCell' = true) (hb : m * 8 ≤ 140737488355328) (hbase : base ≤ w.heap.size)
    (h : ∀ A' c' w', w'.ownsRow base e 1 (.slice A' m c') m news → Below w.heap.size w w' → (∀ q, (Value.slice A' m c').ownBlock = some q → w.heap.size ≤ q) → K (a.put o.dst (.slice A' m c')) w') :
    if Region.wanted o (yielded ops a.tmps) = true then Oper.wp P o a w K Q else E := by
  refine step_own (v := .slice none 0 0) (n := 0) (xs := []) ht hinfo hzs w hgd s x ho base hs (World.ownsRow_nil _ _ _ _) hx hr h1 (by omega) hbase fun A' c' w' h2 h3 h4 => ?_
  have h := h A' c' w'
  rw [Nat.zero_add] at h2 h4 ⊢
  refine h h2 ((Below.refl _ w).grown h3 (Nat.le_refl _) (by simp [Value.ownBlock])) fun q hq => ?_
  rcases h4 with e | e
  · rw [hq] at e; cases e
  · rw [hq] at e; cases e; exact Nat.le_refl _
end
theorem erase_del {D : List Tm} {i : Nat} {t : Tm} (h : (D.map (·.1)).Nodup) (ht : D[i]? = some t) : D.eraseIdx i = del D t.1 := by
  induction D generalizing i with
  | nil => simp at ht
  | cons a D ih =>
    rw [List.map_cons, List.nodup_cons] at h
    unfold del
    cases i with
    | zero =>
      simp at ht
      subst ht
      rw [List.eraseIdx_cons_zero, List.filter_cons]
      simp only [bne_self_eq_false, Bool.false_eq_true, if_false]
      symm
      rw [List.filter_eq_self]
      intro u hu
      simp only [bne_iff_ne, ne_eq]
      intro e
      exact h.1 (List.mem_map.2 ⟨u, hu, e⟩)
    | succ i =>
      simp at ht
      have hi := ih h.2 ht
      unfold del at hi
      rw [List.eraseIdx_cons_succ, List.filter_cons, if_pos, hi]
      simp
      intro e
      exact h.1 (List.mem_map.2 ⟨t, List.mem_of_getElem? ht, e.symm⟩)
end Go.Proofs.Ytecejikolgkihaa.RMem
