/- The walk of the statement that a disk that is none is off, and has nothing. -/
import Derived.Test.YtgfignagaemfeaaBegun
namespace Go.Proofs.Ytgfignagaemfeaa.LawA
open Go.RowKit Go.Proofs.Ytgfignagaemfeaa.Kit Go.Proofs.Ytgfignagaemfeaa.Blocks Go.Proofs.Ytgfignagaemfeaa.Model Go.Proofs.Ytgfignagaemfeaa.Disk Go.Proofs.Ytgfignagaemfeaa.WalkA Go.Proofs.Ytgfignagaemfeaa.WalkC Go.Proofs.Ytgfignagaemfeaa.WalkD Go.Proofs.Ytgfignagaemfeaa.WalkE Go.Proofs.Ytgfignagaemfeaa.WalkI Go.Proofs.Ytgfignagaemfeaa.WalkJ Go.Proofs.Ytgfignagaemfeaa.Begun

set_option maxHeartbeats 2000000 in
theorem none_yes (n : Int) (s : ByteArray) (w : World) (hn : 0 ≤ n ∧ n < 16) : Calls Try.prog 7 #[.int .i64 n, .string s] w fun e w' => e = .returned (.bool true) ∧ Below w.heap.size w w' := by
  obtain ⟨h0, h1⟩ := hn
  have HR := Lib.hid (And.intro h0 h1)
  go_enter Try.func7, Try.ntmps7
  go_wp2_with fail
  refine (begun_true _).mono ?_
  rintro e w1 ⟨rfl, hb1⟩
  go_wp2_with fail
  refine (fuel_nil n _).mono ?_
  rintro e w2 ⟨rfl, rfl⟩
  go_wp2_with fail
  refine (read_nil n _).mono ?_
  rintro e w3 ⟨rfl, hb3⟩
  go_wp2_with fail
  refine (off_nil _).mono ?_
  rintro e w4 ⟨rfl, rfl⟩
  go_wp2_with fail
  refine (used_nil _).mono ?_
  rintro e w5 ⟨rfl, hb5⟩
  go_wp2_with fail
  refine (free_nil _).mono ?_
  rintro e w6 ⟨rfl, hb6⟩
  go_wp2_with fail
  refine (append_nil_yes n s _ HR.out).mono ?_
  rintro e w7 ⟨rfl, rfl⟩
  go_wp2_with fail
  refine (replace_nil_yes n s _ HR.out).mono ?_
  rintro e w8 ⟨rfl, rfl⟩
  go_wp2_with fail
  refine (sync_nil n _).mono ?_
  rintro e w9 ⟨rfl, hb9⟩
  go_wp2_with fail
  refine (remove_nil n _).mono ?_
  rintro e w10 ⟨rfl, hb10⟩
  go_wp2_with fail
  refine (files_nil _).mono ?_
  rintro e w11 ⟨v, rfl, hown, hb11⟩
  obtain ⟨A, c, rfl, _, _, _⟩ := own_form hown
  clear hown
  go_wp2_with fail
  refine (crash_nil _ _).mono ?_
  rintro e w12 ⟨rfl, rfl⟩
  go_wp2
  go_ret
  have b3 := hb1.trans (hb3.mono hb1.size)
  have b5 := b3.trans (hb5.mono b3.size)
  have b6 := b5.trans (hb6.mono b5.size)
  have b9 := b6.trans (hb9.mono b6.size)
  have b10 := b9.trans (hb10.mono b9.size)
  have b11 := b10.trans (hb11.mono b10.size)
  exact ⟨rfl, b11.alloc b11.size _⟩
set_option maxHeartbeats 2000000 in
theorem none_low (n : Int) (s : ByteArray) (w : World) (h0 : n < 0) : Calls Try.prog 7 #[.int .i64 n, .string s] w fun e w' => e = .returned (.bool true) ∧ Below w.heap.size w w' := by
  have hn : ¬ (0 ≤ n ∧ n < 16) := by omega
  have HR := Lib.hid hn
  clear hn
  go_enter Try.func7, Try.ntmps7
  go_wp2_with fail
  refine (begun_true _).mono ?_
  rintro e w1 ⟨rfl, hb1⟩
  go_wp2_with fail
  refine (fuel_nil n _).mono ?_
  rintro e w2 ⟨rfl, rfl⟩
  go_wp2_with fail
  refine (read_nil n _).mono ?_
  rintro e w3 ⟨rfl, hb3⟩
  go_wp2_with fail
  refine (off_nil _).mono ?_
  rintro e w4 ⟨rfl, rfl⟩
  go_wp2_with fail
  refine (used_nil _).mono ?_
  rintro e w5 ⟨rfl, hb5⟩
  go_wp2_with fail
  refine (free_nil _).mono ?_
  rintro e w6 ⟨rfl, hb6⟩
  go_wp2_with fail
  refine (append_nil_no n s _ HR.out).mono ?_
  rintro e w7 ⟨rfl, rfl⟩
  go_wp2_with fail
  refine (replace_nil_no n s _ HR.out).mono ?_
  rintro e w8 ⟨rfl, rfl⟩
  go_wp2_with fail
  refine (sync_nil n _).mono ?_
  rintro e w9 ⟨rfl, hb9⟩
  go_wp2_with fail
  refine (remove_nil n _).mono ?_
  rintro e w10 ⟨rfl, hb10⟩
  go_wp2_with fail
  refine (files_nil _).mono ?_
  rintro e w11 ⟨v, rfl, hown, hb11⟩
  obtain ⟨A, c, rfl, _, _, _⟩ := own_form hown
  clear hown
  go_wp2_with fail
  refine (crash_nil _ _).mono ?_
  rintro e w12 ⟨rfl, rfl⟩
  go_wp2
  go_ret
  have b3 := hb1.trans (hb3.mono hb1.size)
  have b5 := b3.trans (hb5.mono b3.size)
  have b6 := b5.trans (hb6.mono b5.size)
  have b9 := b6.trans (hb9.mono b6.size)
  have b10 := b9.trans (hb10.mono b9.size)
  have b11 := b10.trans (hb11.mono b10.size)
  exact ⟨rfl, b11.alloc b11.size _⟩
set_option maxHeartbeats 2000000 in
theorem none_high (n : Int) (s : ByteArray) (w : World) (h0 : 16 ≤ n) : Calls Try.prog 7 #[.int .i64 n, .string s] w fun e w' => e = .returned (.bool true) ∧ Below w.heap.size w w' := by
  have hn : ¬ (0 ≤ n ∧ n < 16) := by omega
  have HR := Lib.hid hn
  clear hn
  go_enter Try.func7, Try.ntmps7
  go_wp2_with fail
  refine (begun_true _).mono ?_
  rintro e w1 ⟨rfl, hb1⟩
  go_wp2_with fail
  refine (fuel_nil n _).mono ?_
  rintro e w2 ⟨rfl, rfl⟩
  go_wp2_with fail
  refine (read_nil n _).mono ?_
  rintro e w3 ⟨rfl, hb3⟩
  go_wp2_with fail
  refine (off_nil _).mono ?_
  rintro e w4 ⟨rfl, rfl⟩
  go_wp2_with fail
  refine (used_nil _).mono ?_
  rintro e w5 ⟨rfl, hb5⟩
  go_wp2_with fail
  refine (free_nil _).mono ?_
  rintro e w6 ⟨rfl, hb6⟩
  go_wp2_with fail
  refine (append_nil_no n s _ HR.out).mono ?_
  rintro e w7 ⟨rfl, rfl⟩
  go_wp2_with fail
  refine (replace_nil_no n s _ HR.out).mono ?_
  rintro e w8 ⟨rfl, rfl⟩
  go_wp2_with fail
  refine (sync_nil n _).mono ?_
  rintro e w9 ⟨rfl, hb9⟩
  go_wp2_with fail
  refine (remove_nil n _).mono ?_
  rintro e w10 ⟨rfl, hb10⟩
  go_wp2_with fail
  refine (files_nil _).mono ?_
  rintro e w11 ⟨v, rfl, hown, hb11⟩
  obtain ⟨A, c, rfl, _, _, _⟩ := own_form hown
  clear hown
  go_wp2_with fail
  refine (crash_nil _ _).mono ?_
  rintro e w12 ⟨rfl, rfl⟩
  go_wp2
  go_ret
  have b3 := hb1.trans (hb3.mono hb1.size)
  have b5 := b3.trans (hb5.mono b3.size)
  have b6 := b5.trans (hb6.mono b5.size)
  have b9 := b6.trans (hb9.mono b6.size)
  have b10 := b9.trans (hb10.mono b9.size)
  have b11 := b10.trans (hb11.mono b10.size)
  exact ⟨rfl, b11.alloc b11.size _⟩
theorem none_walk (n : Int) (s : ByteArray) (w : World) (_hn : (Lit.int .i64 n).wf = true) (_hs : s.size ≤ 140737488351232) : Calls Try.prog 7 #[.int .i64 n, .string s] w fun e w' => e = .returned (.bool true) ∧ Below w.heap.size w w' := by
  by_cases h0 : n < 0
  · exact none_low n s w h0
  · by_cases h1 : 16 ≤ n
    · exact none_high n s w h1
    · exact none_yes n s w ⟨by omega, by omega⟩
end Go.Proofs.Ytgfignagaemfeaa.LawA
