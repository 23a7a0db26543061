/- The program's calls on a table, by what the table becomes. No statement is proved here. -/
import Derived.Test.YthaepkpmpnofgaaHSsnWalkC
import Derived.Test.YthaepkpmpnofgaaHSsnWalkG
set_option linter.unusedVariables false
set_option linter.unusedSimpArgs false
namespace Go.Proofs.Ythaepkpmpnofgaa.Cal
open Go.RowKit Go.Proofs.Ythaepkpmpnofgaa.Kit Go.Proofs.Ythaepkpmpnofgaa.Blocks Go.Proofs.Ythaepkpmpnofgaa.Ses Go.Proofs.Ythaepkpmpnofgaa.Rws Go.Proofs.Ythaepkpmpnofgaa.SsnWalkA

section
variable {T : Shape} {B : Nat} {w : World} {p : Nat} {v : Value} {m : Tb}
theorem clock_any (h : PT T B w p v m) (hG : Sane m) {t : Nat} (ht : U t) {m' : Tb} (hm : Hid (clock m t = m')) : Calls Try.prog 15 #[.pointer (some ⟨p, 0, none⟩), .int .u64 (t : Int)] w fun e w' => e = .returned (.tuple #[]) ∧ PLeft T B w p v m' w' := by
  have hm' := hm.out
  unfold clock at hm'
  split at hm'
  · subst hm'
    exact (SsnWalkG.clock_no h (by assumption)).mono fun e w' k => ⟨k.1, LeftT.of_below h k.2⟩
  · subst hm'
    exact SsnWalkG.clock_yes h (by omega) ht fun r hr => (hG.fits r hr).1
theorem reg_any (h : PT T B w p v m) (hG : Sane m) {m' : Tb} {id : Nat} {e0 : Int} (hm : Hid (regT m = m')) (hi : Hid (regId m = id)) (he : Hid (regE m = e0)) : Calls Try.prog 40 #[.pointer (some ⟨p, 0, none⟩)] w fun e w' => e = .returned (.tuple #[.int .u64 (id : Int), .int .i64 e0]) ∧ PLeft T B w p v m' w' := by
  have hm' := hm.out
  have hi' := hi.out
  have he' := he.out
  unfold regT at hm'
  unfold regId at hi'
  unfold regE at he'
  by_cases hc : canReg m = true
  · rw [if_pos hc] at hm' hi' he'
    subst hm' hi' he'
    exact SsnWalkB.reg_yes h hG.next hc
  · rw [if_neg hc] at hm' hi' he'
    subst hm' hi' he'
    exact (SsnWalkB.reg_no h hG.next (by simpa using hc)).mono fun e w' k => ⟨k.1, by rw [k.2]; exact LeftT.refl h⟩
theorem beg_any (h : PT T B w p v m) (hG : Sane m) (id : Nat) {s : Nat} (hs : U s) {m' : Tb} {y : Ry} {b : Bool} (hm : Hid (begT m id = m')) (hy : Hid (begY m id s = y)) (hb : Hid (begF m id s = b)) :
    Calls Try.prog 43 #[.pointer (some ⟨p, 0, none⟩), .int .u64 (id : Int), .int .u64 (s : Int)] w fun e w' => e = .returned (.tuple #[ryV y, .bool b]) ∧ PLeft T B w p v m' w' := by
  have hm' := hm.out
  have hy' := hy.out
  have hb' := hb.out
  unfold begT at hm'
  unfold begY at hy'
  unfold begF at hb'
  cases hl : seek m.rows id with
  | none =>
    simp only [hl] at hm' hy' hb'
    subst hm' hy' hb'
    exact SsnWalkC.begin_no h id s hl
  | some i =>
    obtain ⟨r, h1, h2, h3, h4⟩ := seek_some hl
    simp only [hl, h1] at hm' hy' hb'
    subst hm'
    exact SsnWalkC.begin_yes h id s hs hl h1 (hG.fits r (List.mem_of_getElem? h1)).2.2.1 (Lib.hid hb') (Lib.hid hy')
theorem end_any (h : PT T B w p v m) (id : Nat) {s : Nat} (hs : U s) (y : Ry) {m' : Tb} {b : Bool} (hm : Hid (endT m id s y = m')) (hb : Hid (endF m id s = b)) :
    Calls Try.prog 45 #[.pointer (some ⟨p, 0, none⟩), .int .u64 (id : Int), .int .u64 (s : Int), ryV y] w fun e w' => e = .returned (.bool b) ∧ PLeft T B w p v m' w' := by
  have hm' := hm.out
  have hb' := hb.out
  unfold endT at hm'
  unfold endF begF at hb'
  cases hl : seek m.rows id with
  | none =>
    simp only [hl] at hm' hb'
    subst hm' hb'
    exact SsnWalkC.end_no h id s hl y
  | some i =>
    obtain ⟨r, h1, h2, h3, h4⟩ := seek_some hl
    simp only [hl, h1] at hm' hb'
    cases b with
    | false =>
      rw [if_neg (by rw [hb']; decide)] at hm'
      subst hm'
      exact SsnWalkC.end_stale h id s hs hl h1 hb' y
    | true =>
      rw [if_pos hb'] at hm'
      subst hm'
      exact SsnWalkC.end_yes h id s hs hl h1 hb' y
end
end Go.Proofs.Ythaepkpmpnofgaa.Cal
