/- Runs of one byte and zeros: the encoding's length and its pieces' first bytes. No program is named here. -/
import Derived.Test.YtokgompjomeolaaStuff
namespace Go.Proofs.Ytokgompjomeolaa.Runs
open Go.Proofs.Ytokgompjomeolaa.Stuff

/-- Zeros alone. -/
theorem encode_zeros (z : Nat) : (encode (List.replicate z 0)).length = z + 1 := by
  induction z with
  | zero =>
    rw [show List.replicate 0 (0 : UInt8) = [] from rfl, encode_of_last [] rfl (by simp)]
    rfl
  | succ z ih =>
    rw [List.replicate_succ]
    have := encode_of_free [] (List.replicate z 0) rfl (by simp)
    rw [List.nil_append] at this
    rw [this]
    simp [ih]

theorem free_replicate (n : Nat) (c : UInt8) (hc : c ≠ 0) : Free (List.replicate n c) := by
  rw [free_iff]
  intro x hx
  rw [List.eq_of_mem_replicate hx]
  exact hc

/-- RUNS OF ONE BYTE: the length, the full pieces' first bytes, the last one's. -/
theorem runs (c : UInt8) (hc : c ≠ 0) (z f : Nat) : ∀ n, n / 254 = f → (encode (List.replicate n c ++ List.replicate z 0)).length = n + f + z + 1 ∧
    (∀ i, i < f → (encode (List.replicate n c ++ List.replicate z 0))[255 * i]? = some 255) ∧ (encode (List.replicate n c ++ List.replicate z 0))[255 * f]? = some (UInt8.ofNat (n % 254 + 1)) := by
  induction f with
  | zero =>
    intro n hn
    have hlt : n < 254 := by omega
    have hfr := free_replicate n c hc
    have hl : (List.replicate n c).length = n := by simp
    refine ⟨?_, fun i hi => absurd hi (by omega), ?_⟩
    · cases z with
      | zero =>
        rw [show List.replicate 0 (0 : UInt8) = [] from rfl, List.append_nil, encode_of_last _ hfr (by omega)]
        simp
      | succ z =>
        rw [List.replicate_succ, encode_of_free _ _ hfr (by omega)]
        simp [encode_zeros]
    · rw [Nat.mod_eq_of_lt hlt]
      cases z with
      | zero =>
        rw [show List.replicate 0 (0 : UInt8) = [] from rfl, List.append_nil, encode_of_last _ hfr (by omega)]
        simp
      | succ z =>
        rw [List.replicate_succ, encode_of_free _ _ hfr (by omega)]
        simp
  | succ f ih =>
    intro n hn
    have e : n = 254 + (n - 254) := by omega
    have hr : List.replicate n c = List.replicate 254 c ++ List.replicate (n - 254) c := by
      rw [List.replicate_append_replicate, ← e]
    obtain ⟨h1, h2, h3⟩ := ih (n - 254) (by omega)
    have hl : (List.replicate 254 c).length = 254 := List.length_replicate
    have hx := encode_of_full (List.replicate 254 c) (List.replicate (n - 254) c ++ List.replicate z 0) (free_replicate 254 c hc) hl
    rw [hr, List.append_assoc, hx]
    generalize encode (List.replicate (n - 254) c ++ List.replicate z 0) = t at h1 h2 h3
    generalize List.replicate 254 c = p at hl
    have hget : ∀ k, ((255 : UInt8) :: (p ++ t))[255 + k]? = t[k]? := by
      intro k
      have e1 : 255 + k = 254 + k + 1 := by omega
      have e2 : 254 + k - p.length = k := by omega
      rw [e1, List.getElem?_cons_succ, List.getElem?_append_right (by omega), e2]
    refine ⟨?_, fun i hi => ?_, ?_⟩
    · rw [List.length_cons, List.length_append, hl, h1]; omega
    · cases i with
      | zero => rfl
      | succ i =>
        rw [show 255 * (i + 1) = 255 + 255 * i by omega, hget]
        exact h2 i (by omega)
    · rw [show 255 * (f + 1) = 255 + 255 * f by omega, hget, h3]
      have e1 : (n - 254) % 254 = n % 254 := by omega
      rw [e1]

end Go.Proofs.Ytokgompjomeolaa.Runs
