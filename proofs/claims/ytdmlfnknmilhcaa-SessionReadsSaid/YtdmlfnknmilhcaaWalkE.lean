/- What IndexFunc and DeleteFunc at the closure of Clock leave, walked. No statement is proved here. -/
import Derived.Test.YtdmlfnknmilhcaaWalkD
import Derived.Lib.SliceRun
import Derived.Deep.MidRow
set_option linter.unusedVariables false
set_option linter.unusedSimpArgs false
namespace Go.Proofs.Ytdmlfnknmilhcaa.WalkE
open Go.RowKit Go.Proofs.Ytdmlfnknmilhcaa.Kit Go.Proofs.Ytdmlfnknmilhcaa.Blocks Go.Proofs.Ytdmlfnknmilhcaa.Ses Go.Proofs.Ytdmlfnknmilhcaa.Rws Go.Proofs.Ytdmlfnknmilhcaa.WalkA Go.Proofs.Ytdmlfnknmilhcaa.Boxs

/-- The closure: wasn't it used for too long? -/
theorem late_any {w : World} {Bx t : Nat} (hc : w.cell? ⟨Bx, 0, none⟩ = some (.int .u64 (t : Int))) (hlt : Bx < w.heap.size) (ht : U t) {r : Rw} (hu : r.used ≤ t) {q : Bool} (hq : Hid (kept t r = q)) :
    Calls Try.prog 39 #[rwV r, .pointer (some ⟨Bx, 0, none⟩)] w fun e w' => e = .returned (.bool (!q)) ∧ Below w.heap.size w w' := by
  obtain ⟨a, d, s, y, z, x⟩ := r
  unfold rwV
  simp only at hu ⊢
  have hw : IntKind.u64.wrap ((t : Int) - (d : Int)) = ((t - d : Nat) : Int) := by rw [show (t : Int) - (d : Int) = ((t - d : Nat) : Int) by omega]; exact IntWalk.u64_in _ ⟨by omega, by omega⟩
  have hb : decide ((1000 : Int) < ((t - d : Nat) : Int)) = !q := by
    rw [← hq.out]; unfold kept; simp only
    by_cases e : t - d ≤ 1000
    · rw [decide_eq_true e, decide_eq_false (by omega)]; rfl
    · rw [decide_eq_false e, decide_eq_true (by omega)]; rfl
  obtain ⟨k, hk⟩ : ∃ k, t - d = k := ⟨_, rfl⟩
  rw [hk] at hw hb
  have hbo := fun o => (Below.refl w.heap.size w).alloc (Nat.le_refl _) o
  clear hq
  go_enter Try.func39, Try.ntmps39
  go_wp2
  go_ret
  exact ⟨by simp [hb], hbo _⟩
theorem take_snoc {α : Type} (l : List α) (k : Nat) (e : α) (h : l[k]? = some e) : l.take (k + 1) = l.take k ++ [e] := by
  obtain ⟨hk, rfl⟩ := List.getElem?_eq_some_iff.1 h
  rw [List.take_succ_eq_append_getElem hk]
def fnV (Bx : Nat) : Value := .func (.func 39) #[] #[.pointer (some ⟨Bx, 0, none⟩)]
section
variable {w : World} {D n c Bx t : Nat} {A : Option Addr} {l : List Rw}
set_option maxRecDepth 100000 in
theorem index_any (hr : RR w D A n l) (hD : D ≤ w.heap.size) (h63 : n ≤ 9223372036854775807) (hc : w.cell? ⟨Bx, 0, none⟩ = some (.int .u64 (t : Int))) (hlt : Bx < w.heap.size) (ht : U t) (hu : ∀ r ∈ l, r.used ≤ t) :
    Calls Try.prog 47 #[.slice A n c, .func (.func 39) #[] #[.pointer (some ⟨Bx, 0, none⟩)]] w fun e w' =>
      (e = .returned (.int .i64 (-1)) ∧ (∀ r ∈ l, kept t r = true) ∨ ∃ (i : Nat) (r : Rw), e = .returned (.int .i64 (i : Int)) ∧ l[i]? = some r ∧ kept t r = false ∧ ∀ r ∈ l.take i, kept t r = true) ∧ Below w.heap.size w w' := by
  have HR := Lib.hid hr
  have HLn := Lib.hid (RR.len hr)
  have HC := Lib.hid hc
  have HU := Lib.hid hu
  clear hr hc hu
  go_enter Try.func47, Try.ntmps47
  go_wp2
  go_loopw [8] (fun i wr => ∃ k : Nat, k ≤ n ∧ i = .int .i64 (k : Int) ∧ Hid (∀ r ∈ l.take k, kept t r = true) ∧ Below w.heap.size w wr) (fun i _ => n - (intOf i).toNat)
  case atStart => exact ⟨0, by omega, rfl, (by intro r hr; simp at hr), Below.refl _ _⟩
  case round =>
    obtain ⟨k, hk, rfl, hno, hbw⟩ := hrel
    by_cases hk' : k < n
    · have hrr := (Kit.Reads.below (HR.out.more hD) hbw)
      obtain ⟨b', o', r, rfl, hb', he, ⟨y0, y1, y2, y3, y4, y5⟩⟩ := RR.at_ hrr hk'
      have hcw := (hbw.cell (p := ⟨Bx, 0, none⟩) hlt).trans HC.out
      have hlw : Bx < wr.heap.size := Nat.lt_of_lt_of_le hlt hbw.size
      obtain ⟨q, hq⟩ : ∃ q, kept t r = q := ⟨_, rfl⟩
      have hs := late_any hcw hlw ht (HU.out r (List.mem_of_getElem? he)) (Lib.hid hq)
      have HT := Lib.hid (take_snoc l k _ he)
      have HE := Lib.hid he
      unfold rwV at hs
      have HS := Lib.hid hs
      have HQ := Lib.hid hq
      clear hrr he hs hq hcw
      go_wp2_with fail
      refine HS.out.mono ?_
      rintro e w2 ⟨rfl, hb2⟩
      cases q with
      | false =>
        go_wp2
        go_ret
        exact ⟨.inr ⟨k, r, rfl, HE.out, HQ.out, hno.out⟩, hbw.trans (hb2.mono hbw.size)⟩
      | true =>
        go_wp2
        go_roundw
        case rel =>
          refine ⟨k + 1, by omega, by simp, ?_, hbw.trans (hb2.mono hbw.size)⟩
          show ∀ r ∈ l.take (k + 1), kept t r = true
          rw [HT.out]
          intro x hx
          rcases List.mem_append.1 hx with hx | hx
          · exact hno.out x hx
          · simp at hx; subst hx; exact HQ.out
        case measure => simp [intOf]; omega
    · obtain rfl : k = n := by omega
      go_wp2
      go_ret
      refine ⟨.inl ⟨rfl, ?_⟩, hbw⟩
      have := hno.out
      rwa [List.take_of_length_le (by rw [HLn.out]; exact Nat.le_refl _)] at this
end
end Go.Proofs.Ytdmlfnknmilhcaa.WalkE
