/- What a saga's counters say of it, call by call: plain mathematics. No statement is proved here. -/
import Derived.Test.YtbppfndlfonoiaaLawA
import Derived.Test.YtbppfndlfonoiaaLawB
set_option linter.unusedVariables false
set_option linter.unusedSimpArgs false
namespace Go.Proofs.Ytbppfndlfonoiaa.Inv
open Go.Proofs.Ytbppfndlfonoiaa.Stq Go.Proofs.Ytbppfndlfonoiaa.Pln Go.Proofs.Ytbppfndlfonoiaa.Sag Go.Proofs.Ytbppfndlfonoiaa.LawA Go.Proofs.Ytbppfndlfonoiaa.LawB

/-- Doings done, takings back that are left, whether it was aborted, failures of the one at hand. -/
def Inv (s : Sg) (d u : Int) (ab : Bool) (f : Int) : Prop := Snd s ∧
  ((s.st = 1 ∧ d = s.cu ∧ ab = false ∧ f = 0) ∨ (s.st = 2 ∧ u = s.cu ∧ f = s.fa) ∨ (s.st = 3 ∧ d = s.l.length ∧ ab = false) ∨ (s.st = 4 ∧ u = -1) ∨ (s.st = 5 ∧ u = s.cu ∧ f = s.fa))
theorem back_inv {s : Sg} (hc : chk s.l = 0) {k : Int} (h0 : -1 ≤ k) (h1 : k < s.l.length) (d : Int) (ab : Bool) : Inv (back s k) d k ab 0 := by
  refine ⟨back_snd hc h1, ?_⟩
  rcases back_ways s k with ⟨hk, w1⟩ | ⟨hk, w1, w2⟩
  · exact .inr (.inr (.inr (.inl ⟨w1, by omega⟩)))
  · refine .inr (.inl ⟨w1, w2.symm, ?_⟩)
    unfold back
    rw [if_neg (by omega)]
theorem inv_abort {s : Sg} {d u f : Int} {ab : Bool} (h : Inv s d u ab f) (ha : aborts s = true) : Inv (abort s) d d true f := by
  obtain ⟨h1, h2⟩ := h
  obtain ⟨_, g1, g2, g3⟩ := aborts_yes ha
  have hd1 : d = s.cu := by omega
  have hf1 : f = 0 := by omega
  have hd := And.intro hd1 hf1
  have e : abort s = back s s.cu := by unfold abort; rw [ha]; rfl
  rw [e, hd.1, hd.2]
  exact back_inv h1.1 (by omega) (by omega) _ _
section
variable {s : Sg} {d u f : Int} {ab : Bool} (h : Inv s d u ab f) (ho : opn s = true)
include h ho
theorem inv_done (hst : s.st = 1) : Inv (fwd s) (d + 1) u ab f ∧ (0 ≤ d ∧ d < 64) := by
  obtain ⟨h1, h2⟩ := h
  have hi := opn_in ho
  have hl := len_def h1.1
  have hd : d = s.cu ∧ ab = false ∧ f = 0 := by
    rcases h2 with h2 | h2 | h2 | h2 | h2
    · exact ⟨h2.2.1, h2.2.2.1, h2.2.2.2⟩
    all_goals omega
  have hs : Snd (fwd s) := by
    have := next_snd (taken := false) (ok := true) ho (by simp [hst])
    exact this
  refine ⟨⟨hs, ?_⟩, by omega⟩
  rcases fwd_ways s with ⟨w1, w2⟩ | ⟨w1, w2⟩
  · exact .inr (.inr (.inl ⟨w2, by show d + 1 = s.l.length; omega, hd.2.1⟩))
  · exact .inl ⟨by rw [w2]; exact hst, by show d + 1 = s.cu + 1; omega, hd.2.1, hd.2.2⟩
theorem inv_fail (hst : s.st = 1) : Inv (back s (s.cu - 1)) d (d - 1) ab f ∧ (0 ≤ d ∧ d < 64) := by
  obtain ⟨h1, h2⟩ := h
  have hi := opn_in ho
  have hl := len_def h1.1
  have hd : d = s.cu ∧ f = 0 := by omega
  rw [hd.1, hd.2]
  exact ⟨back_inv h1.1 (by omega) (by omega) _ _, by omega⟩
theorem inv_back (hst : s.st = 2) : Inv (back s (s.cu - 1)) d (u - 1) ab 0 ∧ (0 ≤ u ∧ u < 64) := by
  obtain ⟨h1, h2⟩ := h
  have hi := opn_in ho
  have hl := len_def h1.1
  have hd : u = s.cu := by omega
  rw [hd]
  exact ⟨back_inv h1.1 (by omega) (by omega) _ _, by omega⟩
theorem inv_again (hst : s.st = 2) : Inv (fail s) d u ab (f + 1) ∧ (0 ≤ f ∧ f < 64) := by
  obtain ⟨h1, h2⟩ := h
  have hi := opn_in ho
  have hbd := bud_def h1.1 hi.1 hi.2
  have ho2 := (opn_yes ho).2
  have hd : u = s.cu ∧ f = s.fa := by omega
  have hs : Snd (fail s) := by
    have := next_snd (taken := true) (ok := false) ho (by simp [hst])
    exact this
  refine ⟨⟨hs, ?_⟩, by omega⟩
  rcases fail_ways s with ⟨w1, w2⟩ | ⟨w1, w2⟩
  · exact .inr (.inr (.inr (.inr ⟨w2, hd.1, by show f + 1 = s.fa + 1; omega⟩)))
  · exact .inr (.inl ⟨by rw [w2]; exact hst, hd.1, by show f + 1 = s.fa + 1; omega⟩)
end
theorem inv_fresh {l : List Sp} (h : chk l = 0) : Inv ⟨l, 1, 0, 0⟩ 0 (-1) false 0 := ⟨⟨h, .inl ⟨rfl, ⟨Int.le_refl _, by have := len_def h; show (0 : Int) < (l.length : Int); omega⟩, rfl⟩⟩, .inl ⟨rfl, rfl, rfl, rfl⟩⟩
/-- How an outcome that the saga waits for ends: not taken, or one of four ways. -/
theorem five {s : Sg} (ho : opn s = true) (tr : Int) (ok : Bool) {y : Bool} (hy : wantB s = y) {t : Bool} {s' : Sg} (ht : takes s s.cu y tr ok = t) (hs : outc s s.cu y tr ok = s') :
    (t = false ∧ s' = s) ∨ (t = true ∧ ((y = false ∧ s.st = 1 ∧ ok = true ∧ s' = fwd s) ∨ (y = false ∧ s.st = 1 ∧ ok = false ∧ s' = back s (s.cu - 1)) ∨ (y = true ∧ s.st = 2 ∧ ok = true ∧ s' = back s (s.cu - 1)) ∨ (y = true ∧ s.st = 2 ∧ ok = false ∧ s' = fail s))) := by
  unfold outc at hs
  rw [ht] at hs
  have hw : y = decide (s.st = 2) := by rw [← hy]; unfold wantB; rw [ho]; rfl
  have h12 : s.st = 1 ∨ s.st = 2 := by have := (opn_yes ho).2; omega
  cases t
  · exact .inl ⟨rfl, hs.symm⟩
  · refine .inr ⟨rfl, ?_⟩
    have hs2 : s' = next s y ok := hs.symm
    rcases h12 with e | e
    · have hyf : y = false := by rw [hw]; simp [e]
      subst hyf
      cases ok
      · exact .inr (.inl ⟨rfl, e, rfl, hs2⟩)
      · exact .inl ⟨rfl, e, rfl, hs2⟩
    · have hyt : y = true := by rw [hw]; simp [e]
      subst hyt
      cases ok
      · exact .inr (.inr (.inr ⟨rfl, e, rfl, hs2⟩))
      · exact .inr (.inr (.inl ⟨rfl, e, rfl, hs2⟩))
end Go.Proofs.Ytbppfndlfonoiaa.Inv
