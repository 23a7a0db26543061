/- The program's calls on a table, by what the table becomes. No statement is proved here. -/
import Derived.Test.YtdmlfnknmilhcaaWalkC
import Derived.Test.YtdmlfnknmilhcaaWalkG
set_option linter.unusedVariables false
set_option linter.unusedSimpArgs false
namespace Go.Proofs.Ytdmlfnknmilhcaa.Cal
open Go.RowKit Go.Proofs.Ytdmlfnknmilhcaa.Kit Go.Proofs.Ytdmlfnknmilhcaa.Blocks Go.Proofs.Ytdmlfnknmilhcaa.Ses Go.Proofs.Ytdmlfnknmilhcaa.Rws Go.Proofs.Ytdmlfnknmilhcaa.WalkA

section
variable {B : Nat} {w : World} {p : Nat} {v : Value} {m : Tb}
theorem clock_any (h : PT B w p v m) (hG : Sane m) {t : Nat} (ht : U t) {m' : Tb} (hm : Hid (clock m t = m')) : Calls Try.prog 19 #[.pointer (some ⟨p, 0, none⟩), .int .u64 (t : Int)] w fun e w' => e = .returned (.tuple #[]) ∧ PLeft B w p v m' w' := by
  have hm' := hm.out
  unfold clock at hm'
  split at hm'
  · subst hm'
    exact (WalkG.clock_no h (by assumption)).mono fun e w' k => ⟨k.1, LeftT.of_below h k.2⟩
  · subst hm'
    exact WalkG.clock_yes h (by omega) ht fun r hr => (hG.fits r hr).1
theorem reg_any (h : PT B w p v m) (hG : Sane m) {m' : Tb} {id : Nat} {e0 : Int} (hm : Hid (regT m = m')) (hi : Hid (regId m = id)) (he : Hid (regE m = e0)) : Calls Try.prog 20 #[.pointer (some ⟨p, 0, none⟩)] w fun e w' => e = .returned (.tuple #[.int .u64 (id : Int), .int .i64 e0]) ∧ PLeft B w p v m' w' := by
  have hm' := hm.out
  have hi' := hi.out
  have he' := he.out
  unfold regT at hm'
  unfold regId at hi'
  unfold regE at he'
  by_cases hc : canReg m = true
  · rw [if_pos hc] at hm' hi' he'
    subst hm' hi' he'
    exact WalkB.reg_yes h hG.next hc
  · rw [if_neg hc] at hm' hi' he'
    subst hm' hi' he'
    exact (WalkB.reg_no h hG.next (by simpa using hc)).mono fun e w' k => ⟨k.1, by rw [k.2]; exact LeftT.refl h⟩
theorem beg_any (h : PT B w p v m) (hG : Sane m) (id : Nat) {s : Nat} (hs : U s) {m' : Tb} {y : Ry} {b : Bool} (hm : Hid (begT m id = m')) (hy : Hid (begY m id s = y)) (hb : Hid (begF m id s = b)) :
    Calls Try.prog 21 #[.pointer (some ⟨p, 0, none⟩), .int .u64 (id : Int), .int .u64 (s : Int)] w fun e w' => e = .returned (.tuple #[ryV y, .bool b]) ∧ PLeft B w p v m' w' := by
  have hm' := hm.out
  have hy' := hy.out
  have hb' := hb.out
  unfold begT at hm'
  unfold begY at hy'
  unfold begF at hb'
  cases hl : seek m.rows id with
  | none =>
    simp only [hl] at hm' hy' hb'
    subst hm' hy' hb'
    exact WalkC.begin_no h id s hl
  | some i =>
    obtain ⟨r, h1, h2, h3, h4⟩ := seek_some hl
    simp only [hl, h1] at hm' hy' hb'
    subst hm'
    exact WalkC.begin_yes h id s hs hl h1 (hG.fits r (List.mem_of_getElem? h1)).2.2.1 (Lib.hid hb') (Lib.hid hy')
theorem end_any (h : PT B w p v m) (id : Nat) {s : Nat} (hs : U s) (y : Ry) {m' : Tb} {b : Bool} (hm : Hid (endT m id s y = m')) (hb : Hid (endF m id s = b)) :
    Calls Try.prog 22 #[.pointer (some ⟨p, 0, none⟩), .int .u64 (id : Int), .int .u64 (s : Int), ryV y] w fun e w' => e = .returned (.bool b) ∧ PLeft B w p v m' w' := by
  have hm' := hm.out
  have hb' := hb.out
  unfold endT at hm'
  unfold endF begF at hb'
  cases hl : seek m.rows id with
  | none =>
    simp only [hl] at hm' hb'
    subst hm' hb'
    exact WalkC.end_no h id s hl y
  | some i =>
    obtain ⟨r, h1, h2, h3, h4⟩ := seek_some hl
    simp only [hl, h1] at hm' hb'
    cases b with
    | false =>
      rw [if_neg (by rw [hb']; decide)] at hm'
      subst hm'
      exact WalkC.end_stale h id s hs hl h1 hb' y
    | true =>
      rw [if_pos hb'] at hm'
      subst hm'
      exact WalkC.end_yes h id s hs hl h1 hb' y
end
end Go.Proofs.Ytdmlfnknmilhcaa.Cal
