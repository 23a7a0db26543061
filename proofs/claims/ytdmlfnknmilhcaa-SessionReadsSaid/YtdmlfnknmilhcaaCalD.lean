/- The document's calls on a table, by what the table becomes. No statement is proved here. -/
import Derived.Test.YtdmlfnknmilhcaaCal
import Derived.Test.YtdmlfnknmilhcaaRefB
import Derived.Test.YtdmlfnknmilhcaaRefC
import Derived.Test.YtdmlfnknmilhcaaRefD
set_option linter.unusedVariables false
set_option linter.unusedSimpArgs false
namespace Go.Proofs.Ytdmlfnknmilhcaa.CalD
open Go.RowKit Go.Proofs.Ytdmlfnknmilhcaa.Kit Go.Proofs.Ytdmlfnknmilhcaa.Blocks Go.Proofs.Ytdmlfnknmilhcaa.Ses Go.Proofs.Ytdmlfnknmilhcaa.Rws Go.Proofs.Ytdmlfnknmilhcaa.WalkA

section
variable {B : Nat} {w : World} {p : Nat} {v : Value} {m : Tb}
theorem rclock_any (h : DT B w p v m) (hG : Sane m) {t : Nat} (ht : U t) {m' : Tb} (hm : Hid (clock m t = m')) : Calls Try.prog 25 #[.pointer (some ⟨p, 0, none⟩), .int .u64 (t : Int)] w fun e w' => e = .returned (.tuple #[]) ∧ DLeft B w p v m' w' := by
  have hm' := hm.out
  unfold clock at hm'
  split at hm'
  · subst hm'
    exact (RefD.rclock_no h (by assumption)).mono fun e w' k => ⟨k.1, LeftT.of_below h k.2⟩
  · subst hm'
    exact RefD.rclock_yes h (by omega) ht hG.few fun r hr => (hG.fits r hr).1
theorem rreg_any (h : DT B w p v m) (hG : Sane m) {m' : Tb} {id : Nat} {e0 : Int} (hm : Hid (regT m = m')) (hi : Hid (regId m = id)) (he : Hid (regE m = e0)) : Calls Try.prog 26 #[.pointer (some ⟨p, 0, none⟩)] w fun e w' => e = .returned (.tuple #[.int .u64 (id : Int), .int .i64 e0]) ∧ DLeft B w p v m' w' := by
  have hm' := hm.out
  have hi' := hi.out
  have he' := he.out
  unfold regT at hm'
  unfold regId at hi'
  unfold regE at he'
  by_cases hc : canReg m = true
  · rw [if_pos hc] at hm' hi' he'
    subst hm' hi' he'
    exact RefA.rreg_yes h hG.next hc
  · rw [if_neg hc] at hm' hi' he'
    subst hm' hi' he'
    exact (RefA.rreg_no h hG.next hG.few (by simpa using hc)).mono fun e w' k => ⟨k.1, by rw [k.2]; exact LeftT.refl h⟩
theorem rbeg_any (h : DT B w p v m) (hG : Sane m) (id : Nat) {s : Nat} (hs : U s) {m' : Tb} {y : Ry} {b : Bool} (hm : Hid (begT m id = m')) (hy : Hid (begY m id s = y)) (hb : Hid (begF m id s = b)) :
    Calls Try.prog 27 #[.pointer (some ⟨p, 0, none⟩), .int .u64 (id : Int), .int .u64 (s : Int)] w fun e w' => e = .returned (.tuple #[ryV y, .bool b]) ∧ DLeft B w p v m' w' := by
  have hm' := hm.out
  have hy' := hy.out
  have hb' := hb.out
  unfold begT at hm'
  unfold begY at hy'
  unfold begF at hb'
  cases hl : seek m.rows id with
  | none =>
    simp only [hl] at hm' hy' hb'
    subst hm' hy' hb'
    exact RefB.rbegin_no h id s hl
  | some i =>
    obtain ⟨r, h1, h2, h3, h4⟩ := seek_some hl
    simp only [hl, h1] at hm' hy' hb'
    subst hm'
    exact RefB.rbegin_yes h id s hs hl h1 (hG.fits r (List.mem_of_getElem? h1)).2.2.1 (Lib.hid hb') (Lib.hid hy')
theorem rend_any (h : DT B w p v m) (hG : Sane m) (id : Nat) {s : Nat} (hs : U s) (y : Ry) {m' : Tb} {b : Bool} (hm : Hid (endT m id s y = m')) (hb : Hid (endF m id s = b)) :
    Calls Try.prog 28 #[.pointer (some ⟨p, 0, none⟩), .int .u64 (id : Int), .int .u64 (s : Int), ryV y] w fun e w' => e = .returned (.bool b) ∧ DLeft B w p v m' w' := by
  have hm' := hm.out
  have hb' := hb.out
  unfold endT at hm'
  unfold endF begF at hb'
  cases hl : seek m.rows id with
  | none =>
    simp only [hl] at hm' hb'
    subst hm' hb'
    exact RefC.rend_no h id s hl y
  | some i =>
    obtain ⟨r, h1, h2, h3, h4⟩ := seek_some hl
    simp only [hl, h1] at hm' hb'
    cases b with
    | false =>
      rw [if_neg (by rw [hb']; decide)] at hm'
      subst hm'
      exact RefC.rend_stale h id s hs hl h1 hb' y
    | true =>
      rw [if_pos hb'] at hm'
      subst hm'
      exact RefC.rend_yes h id s hs hl h1 hb' y
end
end Go.Proofs.Ytdmlfnknmilhcaa.CalD
