/- A saga's bytes, and a saga read from bytes: plain mathematics. No statement is proved here. -/
import Derived.Test.YtcpnocjfafbnaaaSag
import Derived.Test.YtcpnocjfafbnaaaWtr
import Derived.Test.YtcpnocjfafbnaaaPlnWalkD
set_option linter.unusedVariables false
set_option linter.unusedSimpArgs false
namespace Go.Proofs.Ytcpnocjfafbnaaa.Sgb
open Go.RowKit Go.Proofs.Ytcpnocjfafbnaaa.Kit Go.Proofs.Ytcpnocjfafbnaaa.Rdr Go.Proofs.Ytcpnocjfafbnaaa.Reads Go.Proofs.Ytcpnocjfafbnaaa.Stq Go.Proofs.Ytcpnocjfafbnaaa.Pln Go.Proofs.Ytcpnocjfafbnaaa.Sag
open Go.Proofs.Ytcpnocjfafbnaaa.Num (num)
open Go.Proofs.Ytcpnocjfafbnaaa.PckWalkE (upV)
open Go.Proofs.Ytcpnocjfafbnaaa.PckWalkH (str)

def sgB (s : Sg) : List UInt8 := planB s.l ++ (num (u64 s.st) ++ (num (u64 s.cu) ++ num (u64 s.fa)))
def r1 (r : Rd) : Rd := (rEnd r).up 5
def r2 (r : Rd) : Rd := (r1 r).up 64
def r3 (r : Rd) : Rd := (r2 r).up 9
def rSag (r : Rd) : Sg := ⟨rPlan r, (upV (rEnd r).s 5 : Nat), (upV (r1 r).s 64 : Nat), (upV (r2 r).s 9 : Nat)⟩
def rYes (r : Rd) : Bool := !(r3 r).bad && sound (rSag r)
def zeroS : Sg := ⟨[], 0, 0, 0⟩
def rRes (r : Rd) : Sg := if rYes r then rSag r else zeroS
theorem r3_le (r : Rd) : (r3 r).s.size ≤ r.s.size := by
  have h1 := rEnd_le r
  have h2 := Rd.up_le (rEnd r) 5
  have h3 := Rd.up_le (r1 r) 64
  have h4 := Rd.up_le (r2 r) 9
  unfold r3
  unfold r2 at h4 ⊢
  unfold r1 at h3 h4 ⊢
  omega
/-- Bounds of what can be. -/
theorem snd_in {s : Sg} (h : Snd s) : isDef s.l = true ∧ (0 ≤ s.st ∧ s.st ≤ 5) ∧ (0 ≤ s.cu ∧ s.cu ≤ 64) ∧ (0 ≤ s.fa ∧ s.fa ≤ 9) := by
  obtain ⟨h1, h2⟩ := h
  have hl := len_def h1
  refine ⟨chk_def h1, ?_⟩
  rcases h2 with ⟨a, b, c⟩ | ⟨a, b, c, d⟩ | ⟨a, b, c⟩ | ⟨a, b, c⟩ | ⟨a, b, c⟩
  all_goals try have hb := bud_def h1 b.1 b.2
  all_goals omega
theorem sag_go {s : Sg} (h : Snd s) (r : List UInt8) : rSag ⟨str (sgB s ++ r), false⟩ = s ∧ r3 ⟨str (sgB s ++ r), false⟩ = ⟨str r, false⟩ := by
  obtain ⟨hd, ⟨a0, a1⟩, ⟨b0, b1⟩, ⟨c0, c1⟩⟩ := snd_in h
  obtain ⟨l, st, cu, fa⟩ := s
  simp only at hd a0 a1 b0 b1 c0 c1
  obtain ⟨a, rfl⟩ := Int.eq_ofNat_of_zero_le a0
  obtain ⟨b, rfl⟩ := Int.eq_ofNat_of_zero_le b0
  obtain ⟨c, rfl⟩ := Int.eq_ofNat_of_zero_le c0
  have ha : a < 18446744073709551616 := by omega
  have hb : b < 18446744073709551616 := by omega
  have hc : c < 18446744073709551616 := by omega
  have e0 : sgB ⟨l, (a : Int), (b : Int), (c : Int)⟩ ++ r = planB l ++ (num a ++ (num b ++ (num c ++ r))) := by
    unfold sgB
    simp only
    rw [u64_pos (by omega) (by omega), u64_pos (by omega) (by omega), u64_pos (by omega) (by omega)]
    simp [List.append_assoc]
  rw [e0]
  obtain ⟨p1, p2⟩ := plan_go hd (num a ++ (num b ++ (num c ++ r)))
  have g1 := up_go ha (num b ++ (num c ++ r)) false (k := 5) a1
  have g2 := up_go hb (num c ++ r) false (k := 64) b1
  have g3 := up_go hc r false (k := 9) c1
  constructor
  · unfold rSag r2 r1
    rw [p1, p2, g1, g2]
    simp only
    rw [upV_laid ha _ a1, upV_laid hb _ b1, upV_laid hc _ c1]
  · unfold r3 r2 r1
    rw [p2, g1, g2, g3]
end Go.Proofs.Ytcpnocjfafbnaaa.Sgb
