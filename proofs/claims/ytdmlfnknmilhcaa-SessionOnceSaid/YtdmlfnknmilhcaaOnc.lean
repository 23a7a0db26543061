/- A table beside the two maps of SessionOnce: what is kept by each call. No statement is proved here. -/
import Derived.Test.YtdmlfnknmilhcaaKeysG
import Derived.Test.YtdmlfnknmilhcaaCal
import Derived.Test.YtdmlfnknmilhcaaLawB
set_option linter.unusedVariables false
set_option linter.unusedSimpArgs false
namespace Go.Proofs.Ytdmlfnknmilhcaa.Onc
open Go.RowKit Go.Proofs.Ytdmlfnknmilhcaa.Kit Go.Proofs.Ytdmlfnknmilhcaa.Blocks Go.Proofs.Ytdmlfnknmilhcaa.Ses Go.Proofs.Ytdmlfnknmilhcaa.Rws Go.Proofs.Ytdmlfnknmilhcaa.WalkA Go.Proofs.Ytdmlfnknmilhcaa.KeysG

structure Onc (m : Tb) (g1 g2 : Lit → Option Value) : Prop where
  last : ∀ r ∈ m.rows, (g2 (lu r.id)).getD (.int .u64 0) = .int .u64 (r.seq : Int)
  done : ∀ r ∈ m.rows, r.seq ≠ 0 → g1 (lp r.id r.seq) = some (ryV r.y)
  err : ∀ r ∈ m.rows, r.y.err = 0
  low : ∀ a s, U a → U s → (g1 (lp a s)).isSome = true → a < m.next ∧ ∀ r ∈ m.rows, r.id = a → s ≤ r.seq
  keys : ∀ a, U a → (g2 (lu a)).isSome = true → a < m.next
  form : ∀ k v, g1 k = some v → ∃ y, v = ryV y
theorem onc0 : Onc tb0 (fun _ => none) (fun _ => none) := ⟨by simp [tb0], by simp [tb0], by simp [tb0], by simp, by simp, by simp⟩
theorem ids_ne {n : Nat} : ∀ {a : Nat} {l : List Rw} {i j : Nat} {r x : Rw}, Grows n a l → l[i]? = some r → l[j]? = some x → r.id = x.id → i = j
  | _, [], i, j, r, x, _, h, _, _ => by simp at h
  | a, y :: l, 0, 0, r, x, _, _, _, _ => rfl
  | a, y :: l, 0, j + 1, r, x, ⟨h1, h2, h3⟩, hi, hj, e => by
    simp at hi
    subst hi
    have := (grows_mem h3 x (List.mem_of_getElem? (by simpa using hj))).1
    omega
  | a, y :: l, i + 1, 0, r, x, ⟨h1, h2, h3⟩, hi, hj, e => by
    simp at hj
    subst hj
    have := (grows_mem h3 r (List.mem_of_getElem? (by simpa using hi))).1
    omega
  | a, y :: l, i + 1, j + 1, r, x, ⟨h1, h2, h3⟩, hi, hj, e => by
    have := ids_ne h3 (i := i) (j := j) (by simpa using hi) (by simpa using hj) e
    omega
section
variable {m : Tb} {g1 g2 : Lit → Option Value}
theorem Onc.clock (h : Onc m g1 g2) (t : Nat) : Onc (clock m t) g1 g2 := by
  unfold Ses.clock
  split
  · exact h
  · have hs : ∀ r ∈ m.rows.filter (kept t), r ∈ m.rows := fun r hr => (List.mem_filter.1 hr).1
    exact ⟨fun r hr => h.last r (hs r hr), fun r hr => h.done r (hs r hr), fun r hr => h.err r (hs r hr), fun a s ha hs' hk => ⟨(h.low a s ha hs' hk).1, fun r hr => (h.low a s ha hs' hk).2 r (hs r hr)⟩, h.keys, h.form⟩
theorem Onc.reg (h : Onc m g1 g2) (hG : Sane m) : Onc (regT m) g1 g2 := by
  unfold regT
  split
  · have hnx := hG.next
    have hnone : g2 (lu m.next) = none := by
      cases he : g2 (lu m.next) with
      | none => rfl
      | some v => have := h.keys m.next hnx (by rw [he]; rfl); omega
    refine ⟨fun r hr => ?_, fun r hr => ?_, fun r hr => ?_, fun a s ha hs hk => ?_, fun a ha hk => ?_, h.form⟩
    · rcases List.mem_append.1 hr with hr | hr
      · exact h.last r hr
      · simp at hr
        subst hr
        show (g2 (lu m.next)).getD _ = _
        rw [hnone]
        rfl
    · rcases List.mem_append.1 hr with hr | hr
      · exact h.done r hr
      · simp at hr
        subst hr
        intro h0
        exact absurd rfl h0
    · rcases List.mem_append.1 hr with hr | hr
      · exact h.err r hr
      · simp at hr
        subst hr
        rfl
    · obtain ⟨k1, k2⟩ := h.low a s ha hs hk
      refine ⟨by show a < m.next + 1; omega, fun r hr => ?_⟩
      rcases List.mem_append.1 hr with hr | hr
      · exact k2 r hr
      · simp at hr
        subst hr
        intro e
        have e' : m.next = a := e
        omega
    · have := h.keys a ha hk
      show a < m.next + 1
      omega
  · exact h
theorem Onc.beg (h : Onc m g1 g2) (id : Nat) : Onc (begT m id) g1 g2 := by
  unfold begT
  split
  · exact h
  · split
    · exact h
    · rename_i i _ r hr
      have hm := List.mem_of_getElem? hr
      refine ⟨fun x hx => ?_, fun x hx => ?_, fun x hx => ?_, fun a s ha hs hk => ⟨(h.low a s ha hs hk).1, fun x hx => ?_⟩, h.keys, h.form⟩
      all_goals rcases mem_set hx with rfl | hx
      · exact h.last r hm
      · exact h.last x hx
      · exact h.done r hm
      · exact h.done x hx
      · exact h.err r hm
      · exact h.err x hx
      · exact (h.low a s ha hs hk).2 r hm
      · exact (h.low a s ha hs hk).2 x hx
/-- What Begin says, beside the maps. -/
theorem Onc.says (h : Onc m g1 g2) (hG : Sane m) {id s : Nat} (hid : U id) (hs : U s) :
    (begF m id s = true ∧ g1 (lp id s) = none ∧ begY m id s = y0 ∧ ∃ q, q + 1 = s ∧ (g2 (lu id)).getD (.int .u64 0) = .int .u64 (q : Int)) ∨
    (begF m id s = false ∧ ∃ e, e ≠ 0 ∧ begY m id s = yE e) ∨
    (begF m id s = false ∧ ∃ yn yx, begY m id s = ⟨0, yn, yx⟩ ∧ g1 (lp id s) = some (ryV ⟨0, yn, yx⟩)) := by
  unfold begF begY
  cases hl : seek m.rows id with
  | none => exact .inr (.inl ⟨rfl, 40, by decide, rfl⟩)
  | some i =>
    obtain ⟨r, h1, h2, h3, h4⟩ := seek_some hl
    have hm := List.mem_of_getElem? h1
    simp only [h1]
    cases hn : isNext r s with
    | true =>
      refine .inl ⟨rfl, ?_, by rw [if_pos rfl], r.seq, ?_, ?_⟩
      · cases he : g1 (lp id s) with
        | none => rfl
        | some v =>
          have := (h.low id s hid hs (by rw [he]; rfl)).2 r hm h2
          unfold isNext at hn
          simp only [Bool.and_eq_true, decide_eq_true_eq] at hn
          omega
      · unfold isNext at hn
        simp only [Bool.and_eq_true, decide_eq_true_eq] at hn
        omega
      · rw [← h2]; exact h.last r hm
    | false =>
      cases hla : isLast r s with
      | true =>
        unfold isLast at hla
        simp only [Bool.and_eq_true, decide_eq_true_eq] at hla
        refine .inr (.inr ⟨rfl, r.y.num, r.y.ext, ?_, ?_⟩)
        · have he := h.err r hm
          obtain ⟨a, b, c, ⟨e, n, x⟩⟩ := r
          simp only at he
          subst he
          simp
        · have hd := h.done r hm (by omega)
          rw [h2, ← hla.2] at hd
          rw [hd]
          have he := h.err r hm
          obtain ⟨a, b, c, ⟨e, n, x⟩⟩ := r
          simp only at he
          subst he
          rfl
      | false => exact .inr (.inl ⟨rfl, 41, by decide, by simp⟩)
/-- A command's end, beside the maps. -/
theorem Onc.fin (h : Onc m g1 g2) (hG : Sane m) {id s : Nat} (hid : U id) (hs : U s) (hf : begF m id s = true) (yn yx : Nat) :
    Onc (endT m id s ⟨0, yn, yx⟩) (upd g1 (lp id s) (ryV ⟨0, yn, yx⟩)) (upd g2 (lu id) (.int .u64 (s : Int))) := by
  unfold begF at hf
  unfold endT
  cases hl : seek m.rows id with
  | none => rw [hl] at hf; cases hf
  | some i =>
    obtain ⟨r, h1, h2, h3, h4⟩ := seek_some hl
    have hm := List.mem_of_getElem? h1
    simp only [hl, h1] at hf
    simp only [h1]
    rw [if_pos hf]
    unfold isNext at hf
    simp only [Bool.and_eq_true, decide_eq_true_eq] at hf
    obtain ⟨hs0, hs1⟩ := hf
    have hin : ∀ x ∈ m.rows, U x.id ∧ U x.seq := fun x hx => ⟨by have := (grows_mem hG.grows x hx).2; have := hG.next; show x.id < _; omega, (hG.fits x hx).2.2.1⟩
    have hother : ∀ x ∈ m.rows.set i (endRow r s ⟨0, yn, yx⟩), x = endRow r s ⟨0, yn, yx⟩ ∨ x ∈ m.rows ∧ x.id ≠ id := fun x hx => by
      obtain ⟨j, hj⟩ := List.mem_iff_getElem?.1 hx
      by_cases e : j = i
      · subst e
        rw [List.getElem?_set_self h3] at hj
        cases hj
        exact .inl rfl
      · rw [List.getElem?_set_ne (fun e' => e e'.symm)] at hj
        refine .inr ⟨List.mem_of_getElem? hj, fun e2 => e ?_⟩
        exact ids_ne hG.grows hj h1 (by rw [e2, h2])
    have klu : WideAt.IsKeyLit (lu id) := trivial
    have klp : WideAt.IsKeyLit (lp id s) := trivial
    refine ⟨fun x hx => ?_, fun x hx h0 => ?_, fun x hx => ?_, fun a t ha ht hk => ?_, fun a ha hk => ?_, fun k v hk => ?_⟩
    · rcases hother x hx with rfl | ⟨hx, hne⟩
      · show (upd g2 (lu id) _ (lu r.id)).getD _ = .int .u64 (s : Int)
        rw [h2, upd_same _ _ klu]
        rfl
      · rw [upd_other _ _ (fun e => hne (lu_inj e))]
        exact h.last x hx
    · rcases hother x hx with rfl | ⟨hx, hne⟩
      · show upd g1 (lp id s) _ (lp r.id s) = _
        rw [h2, upd_same _ _ klp]
        rfl
      · rw [upd_other _ _ (fun e => hne (lp_inj (hin x hx).1 (hin x hx).2 hid hs e).1)]
        exact h.done x hx h0
    · rcases hother x hx with rfl | ⟨hx, hne⟩
      · rfl
      · exact h.err x hx
    · by_cases e : lp a t = lp id s
      · obtain ⟨rfl, rfl⟩ := lp_inj ha ht hid hs e
        refine ⟨by have := (grows_mem hG.grows r hm).2; show a < m.next; omega, fun x hx he => ?_⟩
        rcases hother x hx with rfl | ⟨hx, hne⟩
        · exact Nat.le_refl _
        · exact absurd he hne
      · rw [upd_other _ _ e] at hk
        obtain ⟨k1, k2⟩ := h.low a t ha ht hk
        refine ⟨k1, fun x hx he => ?_⟩
        rcases hother x hx with rfl | ⟨hx, hne⟩
        · have := k2 r hm he
          show t ≤ s
          omega
        · exact k2 x hx he
    · by_cases e : a = id
      · subst e
        have := (grows_mem hG.grows r hm).2
        show a < m.next
        omega
      · rw [upd_other _ _ (fun e' => e (lu_inj e'))] at hk
        exact h.keys a ha hk
    · by_cases e : k = lp id s
      · subst e
        rw [upd_same _ _ klp] at hk
        cases hk
        exact ⟨_, rfl⟩
      · rw [upd_other _ _ e] at hk
        exact h.form k v hk
end
end Go.Proofs.Ytdmlfnknmilhcaa.Onc
