/- What was laid of a table is read as it was: plain mathematics. No statement is proved here. -/
import Derived.Test.YtdmlfnknmilhcaaRdT
set_option linter.unusedVariables false
set_option linter.unusedSimpArgs false
namespace Go.Proofs.Ytdmlfnknmilhcaa.Back
open Go.RowKit Go.Proofs.Ytdmlfnknmilhcaa.Kit Go.Proofs.Ytdmlfnknmilhcaa.Rdr Go.Proofs.Ytdmlfnknmilhcaa.Reads Go.Proofs.Ytdmlfnknmilhcaa.Ses Go.Proofs.Ytdmlfnknmilhcaa.Rws Go.Proofs.Ytdmlfnknmilhcaa.SesB Go.Proofs.Ytdmlfnknmilhcaa.RdT
open Go.Proofs.Ytdmlfnknmilhcaa.Num (num)
open Go.Proofs.Ytdmlfnknmilhcaa.PckWalkC (gotB)
open Go.Proofs.Ytdmlfnknmilhcaa.PckWalkE (upV)
open Go.Proofs.Ytdmlfnknmilhcaa.PckWalkH (str)

theorem rAt_front : ∀ (k : Nat) (r : Rd), rAt (k + 1) r = rAt k (rRowR r)
  | 0, _ => rfl
  | k + 1, r => by show rRowR (rAt (k + 1) r) = rRowR (rAt k (rRowR r)); rw [rAt_front k r]
theorem rRows_front : ∀ (k : Nat) (r : Rd), rRows (k + 1) r = rRow r :: rRows k (rRowR r)
  | 0, _ => rfl
  | k + 1, r => by
    show rRows (k + 1) r ++ [rRow (rAt (k + 1) r)] = rRow r :: (rRows k (rRowR r) ++ [rRow (rAt k (rRowR r))])
    rw [rRows_front k r, rAt_front k r]
    rfl
def EOk (r : Rw) : Prop := 0 ≤ r.y.err ∧ r.y.err ≤ 52
theorem row_go {x : Rw} (h : Fine x) (he : EOk x) (r : List UInt8) (b : Bool) : rRow ⟨str (rwB x ++ r), b⟩ = x ∧ rRowR ⟨str (rwB x ++ r), b⟩ = ⟨str r, b⟩ := by
  obtain ⟨id, us, sq, ⟨ye, yn, yx⟩⟩ := x
  obtain ⟨h1, h2, h3, h4, h5⟩ := h
  obtain ⟨e1, e2⟩ := he
  simp only at h1 h2 h3 h4 h5 e1 e2
  obtain ⟨e, rfl⟩ := Int.eq_ofNat_of_zero_le e1
  have hE : e < 18446744073709551616 := by omega
  have e0 : rwB ⟨id, us, sq, ⟨(e : Int), yn, yx⟩⟩ ++ r = num id ++ (num us ++ (num sq ++ (num e ++ (num yn ++ (num yx ++ r))))) := by
    unfold rwB
    simp only
    rw [u64_nat hE]
    simp [List.append_assoc]
  rw [e0]
  have g1 := num_go h1 (num us ++ (num sq ++ (num e ++ (num yn ++ (num yx ++ r))))) b
  have g2 := num_go h2 (num sq ++ (num e ++ (num yn ++ (num yx ++ r)))) b
  have g3 := num_go h3 (num e ++ (num yn ++ (num yx ++ r))) b
  have g4 := up_go hE (num yn ++ (num yx ++ r)) b (k := 52) e2
  have g5 := num_go h4 (num yx ++ r) b
  have g6 := num_go h5 r b
  constructor
  · unfold rRow
    rw [g1, g2, g3, g4, g5]
    simp only
    rw [got_laid h1, got_laid h2, got_laid h3, upV_laid hE _ e2, got_laid h4, got_laid h5]
  · unfold rRowR
    rw [g1, g2, g3, g4, g5, g6]
theorem rows_go : ∀ (l : List Rw), (∀ x ∈ l, Fine x) → (∀ x ∈ l, EOk x) → ∀ (r : List UInt8) (b : Bool), rRows l.length ⟨str (rwsB l ++ r), b⟩ = l ∧ rAt l.length ⟨str (rwsB l ++ r), b⟩ = ⟨str r, b⟩
  | [], _, _, r, b => ⟨rfl, rfl⟩
  | x :: l, h, he, r, b => by
    have e0 : rwsB (x :: l) ++ r = rwB x ++ (rwsB l ++ r) := by simp [rwsB, List.append_assoc]
    obtain ⟨g1, g2⟩ := row_go (h x (by simp)) (he x (by simp)) (rwsB l ++ r) b
    obtain ⟨g3, g4⟩ := rows_go l (fun y hy => h y (by simp [hy])) (fun y hy => he y (by simp [hy])) r b
    rw [List.length_cons, rRows_front, rAt_front, e0, g1, g2, g3, g4]
    exact ⟨rfl, rfl⟩
theorem tb_go {m : Tb} (hG : Sane m) (he : ∀ x ∈ m.rows, EOk x) (r : List UInt8) : rTb ⟨str (tbB m ++ r), false⟩ = m ∧ rEnd ⟨str (tbB m ++ r), false⟩ = ⟨str r, false⟩ := by
  have hn : m.rows.length < 18446744073709551616 := by have := hG.few; omega
  have hn16 : ((m.rows.length : Nat) : Int) ≤ 16 := by have := hG.few; omega
  have e0 : tbB m ++ r = num m.now ++ (num m.next ++ (num m.rows.length ++ (rwsB m.rows ++ r))) := by unfold tbB; simp [List.append_assoc]
  have g1 := num_go hG.now (num m.next ++ (num m.rows.length ++ (rwsB m.rows ++ r))) false
  have g2 := num_go hG.next (num m.rows.length ++ (rwsB m.rows ++ r)) false
  have g3 := up_go hn (rwsB m.rows ++ r) false (k := 16) hn16
  obtain ⟨g4, g5⟩ := rows_go m.rows (sane_fine hG) he r false
  have eN : rN ⟨str (tbB m ++ r), false⟩ = m.rows.length := by unfold rN; rw [e0, g1, g2]; exact upV_laid hn _ hn16
  have e3 : r3 ⟨str (tbB m ++ r), false⟩ = ⟨str (rwsB m.rows ++ r), false⟩ := by unfold RdT.r3; rw [e0, g1, g2, g3]
  constructor
  · unfold rTb
    rw [eN, e3, g4, e0, g1]
    simp only
    rw [got_laid hG.now, got_laid hG.next]
  · unfold rEnd
    rw [eN, e3, g5]
theorem tbB_le {m : Tb} (hG : Sane m) : (tbB m).length ≤ 1000 := by
  have h1 := num9 hG.now
  have h2 := num9 hG.next
  have h3 := num9 (x := m.rows.length) (by have := hG.few; omega)
  have h4 := rwsB_le (sane_fine hG)
  have h5 := hG.few
  unfold tbB
  simp only [List.length_append]
  omega
section
variable {m : Tb}
def EAll (m : Tb) : Prop := ∀ x ∈ m.rows, EOk x
theorem EAll.zero : EAll tb0 := by intro x hx; simp [tb0] at hx
theorem EAll.clock (h : EAll m) (t : Nat) : EAll (clock m t) := by
  unfold Ses.clock
  split
  · exact h
  · exact fun x hx => h x (List.mem_filter.1 hx).1
theorem EAll.reg (h : EAll m) : EAll (regT m) := by
  unfold regT
  split
  · intro x hx
    rcases List.mem_append.1 hx with hx | hx
    · exact h x hx
    · simp at hx; subst hx; exact ⟨by show (0 : Int) ≤ 0; decide, by show (0 : Int) ≤ 52; decide⟩
  · exact h
theorem EAll.beg (h : EAll m) (id : Nat) : EAll (begT m id) := by
  unfold begT
  split
  · exact h
  · split
    · exact h
    · rename_i r hr
      intro x hx
      rcases mem_set hx with rfl | hx
      · exact h r (List.mem_of_getElem? hr)
      · exact h x hx
theorem EAll.fin (h : EAll m) (id s : Nat) {y : Ry} (hy : 0 ≤ y.err ∧ y.err ≤ 52) : EAll (endT m id s y) := by
  unfold endT
  split
  · exact h
  · split
    · exact h
    · rename_i r hr
      split
      · intro x hx
        rcases mem_set hx with rfl | hx
        · exact hy
        · exact h x hx
      · exact h
end
end Go.Proofs.Ytdmlfnknmilhcaa.Back
