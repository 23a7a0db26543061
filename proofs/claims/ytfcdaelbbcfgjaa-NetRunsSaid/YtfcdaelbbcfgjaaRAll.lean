/- What the document's All answers of the same letters, walked. No statement is proved here. -/
import Derived.Test.YtfcdaelbbcfgjaaSame
import Derived.Deep.RegionLaw
set_option linter.unusedVariables false
namespace Go.Proofs.Ytfcdaelbbcfgjaa.RAll
open Go.RowKit Go.Proofs.Ytfcdaelbbcfgjaa.Kit Go.Proofs.Ytfcdaelbbcfgjaa.Blocks Go.Proofs.Ytfcdaelbbcfgjaa.Ltr Go.Proofs.Ytfcdaelbbcfgjaa.NAt Go.Proofs.Ytfcdaelbbcfgjaa.WalkA Go.Proofs.Ytfcdaelbbcfgjaa.WalkG Go.Proofs.Ytfcdaelbbcfgjaa.Same

set_option maxRecDepth 100000 in
set_option maxHeartbeats 8000000 in
theorem rall_any {w : World} {A C : Option Addr} {n ca cc : Nat} {M L : List Lt} {E E' : Nat → Prop} (ha : RL w w.heap.size A n M) (hc : RL w w.heap.size C n L) (h63 : n ≤ 9223372036854775807)
    (fa : ∀ x ∈ M, Fit w E x) (fc : ∀ x ∈ L, Fit w E' x) (hs : M.map Lt.said = L.map Lt.said) :
    Calls Try.prog 20 #[.slice A n ca, .slice C n cc] w fun e w' => e = .returned (.bool true) ∧ Below w.heap.size w w' := by
  have HA := Lib.hid ha
  have HC := Lib.hid hc
  have HFA := Lib.hid fa
  have HFC := Lib.hid fc
  have HS := Lib.hid hs
  clear ha hc fa fc hs
  go_enter Try.func20, Try.ntmps20
  go_wp2
  go_loopw [5] (fun x wr => ∃ k : Nat, k ≤ n ∧ x = .int .i64 (k : Int) ∧ Below w.heap.size w wr) (fun x _ => n - (intOf x).toNat)
  case atStart => exact ⟨0, by omega, rfl, Below.refl _ _⟩
  case round =>
    obtain ⟨k, hk, rfl, hbel⟩ := hrel
    by_cases hkn : k < n
    · obtain ⟨b, o, x, rfl, hbl, hx, hten⟩ := RL.at_ (Kit.Reads.below HA.out hbel) hkn
      obtain ⟨b', o', y, rfl, hbl', hy, hten'⟩ := RL.at_ (Kit.Reads.below HC.out hbel) hkn
      have hxy : x.said = y.said := by
        have h1 : (M.map Lt.said)[k]? = some x.said := by rw [List.getElem?_map, hx]; rfl
        have h2 : (L.map Lt.said)[k]? = some y.said := by rw [List.getElem?_map, hy]; rfl
        rw [HS.out, h2] at h1
        exact (Option.some.inj h1).symm
      have hsm : ∀ W, Below wr.heap.size wr W → Calls Try.prog 15 #[ltV x, ltV y] W fun e w' => e = .returned (.bool true) ∧ Below W.heap.size W w' := fun W hb =>
        same_any (((HFA.out x (List.mem_of_getElem? hx)).below hbel).below hb) (((HFC.out y (List.mem_of_getElem? hy)).below hbel).below hb) hxy
      obtain ⟨d0, d1, d2, d3, d4, d5, d6, d7, d8, d9⟩ := hten
      obtain ⟨e0, e1, e2, e3, e4, e5, e6, e7, e8, e9⟩ := hten'
      obtain ⟨⟨kk, f, t, tm, ix, pv, cm, ok, d⟩, A1, n1, c1, es⟩ := x
      obtain ⟨⟨kk', f', t', tm', ix', pv', cm', ok', d'⟩, A2, n2, c2, es'⟩ := y
      unfold ltV at hsm
      simp only at d0 d1 d2 d3 d4 d5 d6 d7 d8 d9 e0 e1 e2 e3 e4 e5 e6 e7 e8 e9 hsm
      have HSM := Lib.hid hsm
      have HBD : Hid (Below wr.heap.size wr wr.drew) := (Below.refl _ _).drew
      clear hx hy hxy hsm
      have hkI : (k : Int) < (n : Int) := by omega
      have hk0 : (0 : Int) ≤ (k : Int) := by omega
      go_wp2_with fail
      go_region_law (first
        | (go_simp
           go_at_call 15
           (with_reducible refine (HSM.out _ HBD.out).mono ?_)
           rintro e w1 ⟨rfl, hb1⟩
           have HB1 := Lib.hid (hbel.trans (HBD.out.trans hb1 |>.mono hbel.size))
           clear hb1))
      all_goals go_wp2
      all_goals
        go_roundw
        case rel => exact ⟨k + 1, by omega, by first | rfl | go_num, HB1.out⟩
        case measure => simp [intOf]; omega
    · obtain rfl : k = n := by omega
      go_wp2
      go_ret
      exact ⟨rfl, hbel⟩
end Go.Proofs.Ytfcdaelbbcfgjaa.RAll
