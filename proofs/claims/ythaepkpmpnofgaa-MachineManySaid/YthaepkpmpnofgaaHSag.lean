/- Sagas: what can be, what each call makes of one: plain mathematics. No statement is proved here. -/
import Derived.Test.YthaepkpmpnofgaaHPln
set_option linter.unusedVariables false
set_option linter.unusedSimpArgs false
namespace Go.Proofs.Ythaepkpmpnofgaa.Sag
open Go.Proofs.Ythaepkpmpnofgaa.Stq Go.Proofs.Ythaepkpmpnofgaa.Pln

structure Sg where
  l : List Sp
  st : Int
  cu : Int
  fa : Int
/-- A step's budget. -/
def bud (l : List Sp) (k : Int) : Int := ((l[k.toNat]?).map fun e => e.bg).getD 0
theorem bud_at {l : List Sp} {k : Nat} {e : Sp} (h : l[k]? = some e) : bud l (k : Int) = e.bg := by simp [bud, h]
theorem bud_def {l : List Sp} {k : Int} (hl : chk l = 0) (h0 : 0 ≤ k) (h1 : k < l.length) : 1 ≤ bud l k ∧ bud l k ≤ 9 := by
  obtain ⟨k, rfl⟩ := Int.eq_ofNat_of_zero_le h0
  have hk : k < l.length := by omega
  rw [bud_at (List.getElem?_eq_getElem hk)]
  have := okS_yes ((isDef_yes (chk_def hl)).2.2 _ (List.getElem_mem hk))
  omega
theorem len_def {l : List Sp} (h : chk l = 0) : 1 ≤ l.length ∧ l.length ≤ 64 := ⟨(isDef_yes (chk_def h)).1, (isDef_yes (chk_def h)).2.1⟩
theorem chk_or (l : List Sp) : chk l = 0 ∨ chk l = 44 := by unfold chk; split <;> simp
/-- It can be. -/
def Snd (s : Sg) : Prop := chk s.l = 0 ∧
  ((s.st = 1 ∧ (0 ≤ s.cu ∧ s.cu < s.l.length) ∧ s.fa = 0) ∨ (s.st = 2 ∧ (0 ≤ s.cu ∧ s.cu < s.l.length) ∧ 0 ≤ s.fa ∧ s.fa < bud s.l s.cu) ∨ (s.st = 3 ∧ s.cu = s.l.length ∧ s.fa = 0) ∨ (s.st = 4 ∧ s.cu = 0 ∧ s.fa = 0) ∨ (s.st = 5 ∧ (0 ≤ s.cu ∧ s.cu < s.l.length) ∧ s.fa = bud s.l s.cu))
instance (s : Sg) : Decidable (Snd s) := by unfold Snd; infer_instance
def sound (s : Sg) : Bool := decide (Snd s)
theorem sound_yes {s : Sg} (h : sound s = true) : Snd s := of_decide_eq_true h
theorem sound_mk {s : Sg} (h : Snd s) : sound s = true := decide_eq_true h
theorem sound_not {s : Sg} (h : ¬ Snd s) : sound s = false := decide_eq_false h
def ended (s : Sg) : Bool := decide (3 ≤ s.st ∧ s.st ≤ 5)
/-- It waits for something. -/
def opn (s : Sg) : Bool := sound s && decide (s.st ≤ 2)
theorem opn_ended (s : Sg) : opn s = (sound s && !ended s) := by
  unfold opn
  by_cases h : Snd s
  · rw [sound_mk h]
    obtain ⟨_, h⟩ := h
    simp only [Bool.true_and]
    rw [Bool.eq_iff_iff]
    simp only [ended, decide_eq_true_eq, Bool.not_eq_true', decide_eq_false_iff_not]
    omega
  · rw [sound_not h]; rfl
def wantC (s : Sg) : Int := if opn s then s.cu else 0
def wantB (s : Sg) : Bool := opn s && decide (s.st = 2)
/-- Taken back from a step on. -/
def back (s : Sg) (k : Int) : Sg := if k < 0 then ⟨s.l, 4, 0, 0⟩ else ⟨s.l, 2, k, 0⟩
def aborts (s : Sg) : Bool := sound s && decide (s.st = 1)
def abort (s : Sg) : Sg := if aborts s then back s s.cu else s
def fwd (s : Sg) : Sg := ⟨s.l, if s.cu + 1 = s.l.length then 3 else s.st, s.cu + 1, s.fa⟩
def fail (s : Sg) : Sg := ⟨s.l, if s.fa + 1 = bud s.l s.cu then 5 else s.st, s.cu, s.fa + 1⟩
def takes (s : Sg) (step : Int) (taken : Bool) (tr : Int) (ok : Bool) : Bool := opn s && (decide (step = s.cu) && ((taken == decide (s.st = 2)) && (ok || decide (tr = s.fa))))
def next (s : Sg) (taken ok : Bool) : Sg := if taken = false ∧ ok = true then fwd s else if taken = false ∨ ok = true then back s (s.cu - 1) else fail s
def outc (s : Sg) (step : Int) (taken : Bool) (tr : Int) (ok : Bool) : Sg := if takes s step taken tr ok then next s taken ok else s

theorem back_l (s : Sg) (k : Int) : (back s k).l = s.l := by unfold back; split <;> rfl
theorem abort_l (s : Sg) : (abort s).l = s.l := by unfold abort; split; exact back_l _ _; rfl
theorem next_l (s : Sg) (taken ok : Bool) : (next s taken ok).l = s.l := by
  unfold next
  split
  · rfl
  · split
    · exact back_l _ _
    · rfl
theorem outc_l (s : Sg) (step : Int) (taken : Bool) (tr : Int) (ok : Bool) : (outc s step taken tr ok).l = s.l := by
  unfold outc; split; exact next_l _ _ _; rfl
theorem opn_yes {s : Sg} (h : opn s = true) : Snd s ∧ ((s.st = 1 ∧ (0 ≤ s.cu ∧ s.cu < s.l.length) ∧ s.fa = 0) ∨ (s.st = 2 ∧ (0 ≤ s.cu ∧ s.cu < s.l.length) ∧ 0 ≤ s.fa ∧ s.fa < bud s.l s.cu)) := by
  unfold opn at h
  rw [Bool.and_eq_true] at h
  have h1 := sound_yes h.1
  have h2 := of_decide_eq_true h.2
  refine ⟨h1, ?_⟩
  obtain ⟨_, h⟩ := h1
  omega
theorem aborts_yes {s : Sg} (h : aborts s = true) : Snd s ∧ s.st = 1 ∧ (0 ≤ s.cu ∧ s.cu < s.l.length) ∧ s.fa = 0 := by
  unfold aborts at h
  rw [Bool.and_eq_true] at h
  have h1 := sound_yes h.1
  have h2 := of_decide_eq_true h.2
  refine ⟨h1, h2, ?_⟩
  obtain ⟨_, h⟩ := h1
  omega
theorem takes_yes {s : Sg} {step : Int} {taken : Bool} {tr : Int} {ok : Bool} (h : takes s step taken tr ok = true) : opn s = true ∧ step = s.cu ∧ taken = decide (s.st = 2) ∧ (ok = true ∨ tr = s.fa) := by
  unfold takes at h
  simp only [Bool.and_eq_true, decide_eq_true_eq, Bool.or_eq_true, beq_iff_eq] at h
  exact h
theorem back_snd {s : Sg} (h : chk s.l = 0) {k : Int} (hk : k < s.l.length) : Snd (back s k) := by
  have hl := len_def h
  unfold back
  split
  · exact ⟨h, .inr (.inr (.inr (.inl ⟨rfl, rfl, rfl⟩)))⟩
  · have hb := bud_def h (k := k) (by omega) hk
    exact ⟨h, .inr (.inl ⟨rfl, ⟨by show 0 ≤ k; omega, hk⟩, by show (0 : Int) ≤ 0; omega, by show 0 < bud s.l k; omega⟩)⟩
theorem abort_snd {s : Sg} (h : Snd s) : Snd (abort s) := by
  unfold abort
  split
  · exact back_snd h.1 (aborts_yes (by assumption)).2.2.1.2
  · exact h
theorem next_snd {s : Sg} {taken ok : Bool} (h : opn s = true) (ht : taken = decide (s.st = 2)) : Snd (next s taken ok) := by
  obtain ⟨h1, h2⟩ := opn_yes h
  have hc := h1.1
  unfold next
  split
  · rename_i hc2
    have h3 : ¬ s.st = 2 := by rw [hc2.1] at ht; simpa using ht.symm
    obtain ⟨g1, g2, g3⟩ : s.st = 1 ∧ (0 ≤ s.cu ∧ s.cu < s.l.length) ∧ s.fa = 0 := by omega
    unfold fwd
    split
    · rename_i he
      exact ⟨hc, .inr (.inr (.inl ⟨rfl, he, g3⟩))⟩
    · exact ⟨hc, .inl ⟨g1, ⟨by show 0 ≤ s.cu + 1; omega, by show s.cu + 1 < s.l.length; omega⟩, g3⟩⟩
  · split
    · exact back_snd hc (by omega)
    · rename_i hn
      have ht1 : taken = true := by cases taken <;> simp_all
      have h3 : s.st = 2 := by rw [ht1] at ht; simpa using ht.symm
      obtain ⟨g2, g3, g4⟩ : (0 ≤ s.cu ∧ s.cu < s.l.length) ∧ 0 ≤ s.fa ∧ s.fa < bud s.l s.cu := by omega
      unfold fail
      split
      · rename_i he
        exact ⟨hc, .inr (.inr (.inr (.inr ⟨rfl, g2, he⟩)))⟩
      · exact ⟨hc, .inr (.inl ⟨h3, g2, by show 0 ≤ s.fa + 1; omega, by show s.fa + 1 < bud s.l s.cu; omega⟩)⟩
theorem outc_snd {s : Sg} (h : Snd s) (step : Int) (taken : Bool) (tr : Int) (ok : Bool) : Snd (outc s step taken tr ok) := by
  unfold outc
  split
  · have := takes_yes (by assumption)
    exact next_snd this.1 this.2.2.1
  · exact h
theorem opn_in {s : Sg} (h : opn s = true) : 0 ≤ s.cu ∧ s.cu < s.l.length := by have := (opn_yes h).2; omega
theorem opn_back {s : Sg} (h : opn s = true) (h2 : wantB s = true) : 0 ≤ s.fa ∧ s.fa < bud s.l s.cu ∧ bud s.l s.cu ≤ 9 := by
  unfold wantB at h2
  rw [h, Bool.true_and] at h2
  have h3 := of_decide_eq_true h2
  have h4 := opn_yes h
  have h5 := bud_def h4.1.1 (opn_in h).1 (opn_in h).2
  have := h4.2
  omega
/-- What an outcome comes to: nothing, by one of four ways; or a change. -/
theorem ways6 {s : Sg} {step : Int} {taken : Bool} {tr : Int} {ok : Bool} {s' : Sg} {b : Bool} {q : Int} {y x : Bool} (hs : outc s step taken tr ok = s') (hb : takes s step taken tr ok = b) (hq : wantC s = q) (hy : wantB s = y) (hx : opn s = x) :
    ((x = false ∨ (x = true ∧ (step != q) = true) ∨ (x = true ∧ (step != q) = false ∧ ((taken = true ∧ y = false) ∨ (taken = false ∧ y = true))) ∨ (x = true ∧ (step != q) = false ∧ taken = y ∧ ok = false ∧ (tr != s.fa) = true)) ∧ b = false ∧ s' = s) ∨
    (x = true ∧ b = true ∧ q = s.cu ∧ (step != q) = false ∧ taken = y ∧ (ok = true ∨ (ok = false ∧ (tr != s.fa) = false)) ∧ s' = next s taken ok) := by
  unfold outc at hs
  rw [hb] at hs
  unfold takes at hb
  unfold wantC at hq
  unfold wantB at hy
  rw [hx] at hb hq hy
  cases x
  · simp only [Bool.false_and] at hb
    subst hb
    exact .inl ⟨.inl rfl, rfl, by rw [← hs]; rfl⟩
  · simp only [Bool.true_and, if_true] at hb hq hy
    rw [hy] at hb
    subst hq
    by_cases h1 : step = s.cu
    · by_cases h2 : taken = y
      · by_cases h3 : ok = true
        · simp only [h1, h2, h3, decide_true, beq_self_eq_true, Bool.true_or, Bool.true_and] at hb
          subst hb
          exact .inr ⟨rfl, rfl, rfl, by simp [h1], h2, .inl h3, by rw [← hs]; rfl⟩
        · have h3' : ok = false := by simpa using h3
          by_cases h4 : tr = s.fa
          · simp only [h1, h2, h3', h4, decide_true, beq_self_eq_true, Bool.false_or, Bool.true_and] at hb
            subst hb
            exact .inr ⟨rfl, rfl, rfl, by simp [h1], h2, .inr ⟨h3', by simp [h4]⟩, by rw [← hs]; rfl⟩
          · simp only [h1, h2, h3', h4, decide_true, decide_false, beq_self_eq_true, Bool.false_or, Bool.true_and] at hb
            subst hb
            exact .inl ⟨.inr (.inr (.inr ⟨rfl, by simp [h1], h2, h3', by simp [h4]⟩)), rfl, by rw [← hs]; rfl⟩
      · have hb' : b = false := by rw [← hb]; simp [h2]
        subst hb'
        refine .inl ⟨.inr (.inr (.inl ⟨rfl, by simp [h1], ?_⟩)), rfl, by rw [← hs]; rfl⟩
        cases taken <;> cases y <;> simp_all
    · have hb' : b = false := by rw [← hb]; simp [h1]
      subst hb'
      exact .inl ⟨.inr (.inl ⟨rfl, by simp [h1]⟩), rfl, by rw [← hs]; rfl⟩
end Go.Proofs.Ythaepkpmpnofgaa.Sag
