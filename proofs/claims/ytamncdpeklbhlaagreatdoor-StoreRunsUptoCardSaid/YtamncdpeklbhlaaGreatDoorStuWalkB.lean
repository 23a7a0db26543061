/- What the function that finds the piece at the front answers, walked. -/
import Derived.Test.YtamncdpeklbhlaaGreatDoorStuWalkA
namespace Go.Proofs.YtamncdpeklbhlaaGreatDoor.StuWalkB
open Go.RowKit Go.Proofs.YtamncdpeklbhlaaGreatDoor.Kit Go.Proofs.YtamncdpeklbhlaaGreatDoor.Stuff Go.Proofs.YtamncdpeklbhlaaGreatDoor.StuWalkA

set_option maxRecDepth 100000 in
set_option maxHeartbeats 400000 in
theorem piece_nil (A : Option Addr) (c : Nat) (w : World) :
    Calls Tryz.prog 124 #[.slice A 0 c] w fun e' w' => e' = .returned (.int .i64 0) ∧ w = w' := by
  go_enter Tryz.func124, Tryz.ntmps124
  go_wp2
  go_ret
  exact ⟨rfl, rfl⟩

set_option maxRecDepth 100000 in
set_option maxHeartbeats 400000 in
theorem piece_out (b o n c x : Nat) (w : World) (hn : 0 < n) (hnm : n ≤ 9223372036854775807) (hx : x ≤ 255) (hcell : w.cell? ⟨b, o, none⟩ = some (.int .u8 (x : Int))) (h : x = 0 ∨ n < x) :
    Calls Tryz.prog 124 #[.slice (some ⟨b, o, none⟩) n c] w fun e' w' => e' = .returned (.int .i64 0) ∧ w = w' := by
  have hn0 : ((n : Int) == 0) = false := by simp; omega
  rcases h with rfl | h
  · go_enter Tryz.func124, Tryz.ntmps124
    go_wp2
    go_ret
    exact ⟨rfl, rfl⟩
  · have hx0 : ((x : Int) == 0) = false := by simp; omega
    go_enter Tryz.func124, Tryz.ntmps124
    go_wp2
    go_ret
    exact ⟨rfl, rfl⟩

set_option maxRecDepth 100000 in
set_option maxHeartbeats 400000 in
theorem piece_in (b o n c x : Nat) (l : List UInt8) (r : Int) (w : World) (h : RB w (some ⟨b, o, none⟩) n l) (hn : 0 < n) (hnc : n ≤ c) (hnm : n ≤ 9223372036854775807) (hx : x ≤ 255) (hcell : w.cell? ⟨b, o, none⟩ = some (.int .u8 (x : Int)))
    (h1 : 1 ≤ x) (h2 : x ≤ n) (hi : Hid (Lib.indexByte ((l.take x).drop 1) 0 = r)) (e : Int) (he : Hid (e = if 0 ≤ r then 0 else (x : Int))) :
    Calls Tryz.prog 124 #[.slice (some ⟨b, o, none⟩) n c] w fun e' w' => e' = .returned (.int .i64 e) ∧ w = w' := by
  have hn0 : ((n : Int) == 0) = false := by simp; omega
  have hx0 : ((x : Int) == 0) = false := by simp; omega
  have hcut := run_tail (P := Tryz.prog) 111 5 Tryz.underlying111 sz (some ⟨b, o, none⟩) n c x h1 (by omega)
  have hread : RB w (cutA (some ⟨b, o, none⟩) c 1) (x - 1) ((l.take x).drop 1) := h.bytes_part h1 h2 hnc
  rw [he.out]
  by_cases hr : 0 ≤ r
  · rw [if_pos hr]
    go_enter Tryz.func124, Tryz.ntmps124
    go_wp2_with fail
    refine (index_any _ _ _ _ _ hread).mono ?_
    rintro e w' ⟨rfl, rfl⟩
    rw [hi.out]
    go_wp2
    go_ret
    exact ⟨rfl, rfl⟩
  · rw [if_neg hr]
    go_enter Tryz.func124, Tryz.ntmps124
    go_wp2_with fail
    refine (index_any _ _ _ _ _ hread).mono ?_
    rintro e w' ⟨rfl, rfl⟩
    rw [hi.out]
    go_wp2
    go_ret
    exact ⟨rfl, rfl⟩

theorem piece_any (A : Option Addr) (n c : Nat) (l : List UInt8) (w : World) (h : RB w A n l) (hnc : n ≤ c) (hc : c ≤ 9223372036854775807) :
    Calls Tryz.prog 124 #[.slice A n c] w fun e w' => e = .returned (.int .i64 (piece l : Nat)) ∧ w = w' := by
  have hl := reads_len h
  cases l with
  | nil =>
    have : n = 0 := by simpa using hl.symm
    subst this
    exact piece_nil A c w
  | cons x t =>
    have hn : 0 < n := by simp at hl; omega
    obtain ⟨b, o, rfl, hb, hcell⟩ := h.byte hn (by simp)
    have hcell' : w.cell? ⟨b, o, none⟩ = some (.int .u8 (x.toNat : Int)) := by simpa using hcell
    have hx := x.toNat_lt
    have hlen : t.length + 1 = n := by simpa using hl
    by_cases hx0 : x = 0
    · subst hx0
      exact piece_out b o n c 0 w hn (by omega) (by omega) hcell' (.inl rfl)
    · have hx1 : 1 ≤ x.toNat := by
        rcases Nat.eq_zero_or_pos x.toNat with e | e
        · exact absurd (by rw [← UInt8.toNat_inj]; simpa using e) hx0
        · exact e
      by_cases hbig : n < x.toNat
      · have e : piece (x :: t) = 0 := by rw [piece_cons, if_neg hx0, if_pos (by omega)]
        rw [e]
        exact piece_out b o n c x.toNat w hn (by omega) (by omega) hcell' (.inr hbig)
      · have et : ((x :: t).take x.toNat).drop 1 = t.take (x.toNat - 1) := by
          obtain ⟨k, hk⟩ : ∃ k, x.toNat = k + 1 := ⟨x.toNat - 1, by omega⟩
          rw [hk]; simp
        have hi := index_take t (x.toNat - 1) (by omega)
        rw [← et] at hi
        refine piece_in b o n c x.toNat (x :: t) _ w h hn hnc (by omega) (by omega) hcell' hx1 (by omega) hi _ ?_
        show ((piece (x :: t) : Nat) : Int) = _
        rw [piece_cons, if_neg hx0, if_neg (by omega), zl_take]
        by_cases hlt : zl t < x.toNat - 1
        · rw [if_pos (by omega), if_pos hlt, if_pos (by omega)]; rfl
        · rw [if_neg (by omega), if_neg hlt, if_neg (by omega)]

end Go.Proofs.YtamncdpeklbhlaaGreatDoor.StuWalkB
