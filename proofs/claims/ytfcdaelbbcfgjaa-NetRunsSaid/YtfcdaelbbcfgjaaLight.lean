/- What light answers: yes or no. No statement is proved here. -/
import Derived.Test.YtfcdaelbbcfgjaaOpens
set_option linter.unusedVariables false
namespace Go.Proofs.Ytfcdaelbbcfgjaa.Light
open Go.RowKit Go.Proofs.Ytfcdaelbbcfgjaa.Kit Go.Proofs.Ytfcdaelbbcfgjaa.Blocks Go.Proofs.Ytfcdaelbbcfgjaa.Ltr Go.Proofs.Ytfcdaelbbcfgjaa.NAt Go.Proofs.Ytfcdaelbbcfgjaa.Opens

/-- A call's cells, one by one. -/
theorem twelve {w : World} {b o : Nat} {c : Cal} (h : Twelve w b o c) : w.cell? ⟨b, o, none⟩ = some (.int .i64 c.k) ∧ w.cell? ⟨b, o + 1, none⟩ = some (.int .i64 c.i) ∧ w.cell? ⟨b, o + 2, none⟩ = some (.int .i64 c.x.h.k) ∧ w.cell? ⟨b, o + 3, none⟩ = some (.int .i64 c.x.h.f) ∧ w.cell? ⟨b, o + 4, none⟩ = some (.int .i64 c.x.h.t) ∧ w.cell? ⟨b, o + 5, none⟩ = some (.int .u64 c.x.h.tm) ∧ w.cell? ⟨b, o + 6, none⟩ = some (.int .u64 c.x.h.ix) ∧ w.cell? ⟨b, o + 7, none⟩ = some (.int .u64 c.x.h.pv) ∧ w.cell? ⟨b, o + 8, none⟩ = some (.int .u64 c.x.h.cm) ∧ w.cell? ⟨b, o + 9, none⟩ = some (.bool c.x.h.ok) ∧ w.cell? ⟨b, o + 10, none⟩ = some (.slice c.x.A c.x.n c.x.c) ∧ w.cell? ⟨b, o + 11, none⟩ = some (.string c.x.h.d) :=
  ⟨h.c0, h.c1, h.c2.c0, h.c2.c1, h.c2.c2, h.c2.c3, h.c2.c4, h.c2.c5, h.c2.c6, h.c2.c7, h.c2.c8, h.c2.c9⟩
/-- A call that came in, in a later world. -/
theorem holds_at {w w' : World} {A : Option Addr} {n : Nat} {L : List Cal} (h : Holds w A n L) (k : Below w.heap.size w w') {i : Nat} (hi : i < n) : ∃ c b o, A = some ⟨b, o, none⟩ ∧ b < w.heap.size ∧ Twelve w' b (o + i * 12) c ∧ Came w c.x := by
  have hil : i < L.length := by rw [h.1]; exact hi
  have he : L[i]? = some (L[i]'hil) := List.getElem?_eq_getElem hil
  obtain ⟨b, o, ha, hb, ⟨c0, c1, c2⟩, hc⟩ := h.2 i _ he
  have hcell : ∀ j, w'.cell? ⟨b, j, none⟩ = w.cell? ⟨b, j, none⟩ := fun j => k.cell (p := ⟨b, j, none⟩) hb
  exact ⟨_, b, o, ha, hb, ⟨(hcell _).trans c0, (hcell _).trans c1, c2.same hcell⟩, hc⟩
set_option maxRecDepth 100000 in
set_option maxHeartbeats 4000000 in
theorem light_any (A : Option Addr) (n c : Nat) (L : List Cal) (w0 w : World) (hh : Holds w0 A n L) (h63 : n ≤ 9223372036854775807) (hb : Below w0.heap.size w0 w) :
    Calls Try.prog 9 #[.slice A n c] w fun e w' => (∃ b, e = .returned (.bool b)) ∧ Below w.heap.size w w' := by
  have HH := Lib.hid hh
  have HB := Lib.hid hb
  clear hh hb
  go_enter Try.func9, Try.ntmps9
  go_wp2
  go_loopw [3, 8] (fun s i wr => ∃ (k : Nat) (z : Int), k ≤ n ∧ i = .int .i64 (k : Int) ∧ s = .int .i64 z ∧ Below w.heap.size w wr) (fun _ i _ => n - (intOf i).toNat)
  case atStart => exact ⟨0, 0, by omega, rfl, rfl, Below.refl _ _⟩
  case round =>
    obtain ⟨k, z, hk, rfl, rfl, hbw⟩ := hrel
    by_cases hlt : k < n
    · have hkI : (k : Int) < (n : Int) := by omega
      have hk0 : (0 : Int) ≤ (k : Int) := by omega
      obtain ⟨⟨kd, ii, ⟨⟨f0, f1, f2, f3, f4, f5, f6, f7, f9⟩, A2, m2, c2', es⟩⟩, b, o, rfl, hbl, htw, _⟩ := holds_at HH.out (HB.out.trans (hbw.mono HB.out.size)) hlt
      obtain ⟨c0, c1, d0, d1, d2, d3, d4, d5, d6, d7, d8, d9⟩ := twelve htw
      simp only at c0 c1 d0 d1 d2 d3 d4 d5 d6 d7 d8 d9
      have hbl2 : b < wr.heap.size := Nat.lt_of_lt_of_le hbl (Nat.le_trans HB.out.size hbw.size)
      go_wp2
      exact ⟨⟨k + 1, _, by omega, by first | rfl | simp, rfl, hbw.alloc hbw.size _⟩, by simp [intOf]; omega⟩
    · obtain rfl : k = n := by omega
      go_wp2
      go_ret
      exact ⟨⟨_, rfl⟩, hbw⟩
end Go.Proofs.Ytfcdaelbbcfgjaa.Light
