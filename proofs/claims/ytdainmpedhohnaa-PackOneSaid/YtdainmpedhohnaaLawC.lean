/- The walk of the statement that a number has one form: where there is one at the front. -/
import Derived.Test.YtdainmpedhohnaaLawB
import Derived.Deep.RegionHeld3
namespace Go.Proofs.Ytdainmpedhohnaa.LawC
open Go.RowKit Go.Proofs.Ytdainmpedhohnaa.Kit Go.Proofs.Ytdainmpedhohnaa.Num Go.Proofs.Ytdainmpedhohnaa.State Go.Proofs.Ytdainmpedhohnaa.WalkA Go.Proofs.Ytdainmpedhohnaa.WalkB Go.Proofs.Ytdainmpedhohnaa.WalkC Go.Proofs.Ytdainmpedhohnaa.WalkD Go.Proofs.Ytdainmpedhohnaa.WalkH Go.Proofs.Ytdainmpedhohnaa.Begun Go.Proofs.Ytdainmpedhohnaa.LawB

theorem cut_to (s : ByteArray) (f : Nat) (h : f ≤ s.size) (w : World) : (Instr.slice 9 (.string s) none (some (.int .i64 (f : Int))) none).run Try.prog w = .ok (.string (s.extract 0 f)) w := by
  have h' : (f : Int) ≤ s.size := by omega
  go_simp

set_option maxRecDepth 100000 in
set_option maxHeartbeats 1000000 in
/-- Where there is one at the front. -/
theorem one_good (s : ByteArray) (a b : Nat) (w : World) (hs : s.size ≤ 9223372036854775807) (ha : a < 18446744073709551616) (hb : b < 18446744073709551616) (hf : frontB s ≠ 0) :
    Calls Try.prog 6 #[.string s, .int .u64 (a : Int), .int .u64 (b : Int)] w fun e w' => e = .returned (.bool true) ∧ Below w.heap.size w w' := by
  have hag := again s hf
  have hgl := gotB_lt s
  have hfl := frontB_le s
  obtain ⟨g, hgot⟩ : ∃ g, gotB s = g := ⟨_, rfl⟩
  rw [hgot] at hag hgl
  have hrest : (restB s).size = s.size - frontB s := by unfold restB; rw [if_neg hf, ByteArray.size_extract]; omega
  have hbad : badB s false = false := by simp [badB, hf]
  obtain ⟨f, hfr⟩ : ∃ f, frontB s = f := ⟨_, rfl⟩
  rw [hfr] at hag hfl hrest hf
  obtain ⟨n, hn⟩ : ∃ n, s.size - f = n := ⟨_, rfl⟩
  rw [hn] at hrest
  have hwr : (s.size : Int) - (n : Int) = (f : Int) := by omega
  have hsl : ∀ w, (Instr.slice 9 (.string s) none (some (.int .i64 (IntKind.i64.wrap ((s.size : Int) - (n : Int))))) none).run Try.prog w = .ok (.string (s.extract 0 f)) w := fun w => by
    rw [hwr, IntWalk.i64_in _ (by omega)]
    exact cut_to s f hfl w
  obtain ⟨X, hX⟩ : ∃ X, s.extract 0 f = X := ⟨_, rfl⟩
  rw [hX] at hag hsl
  have hXX : (X.toList == X.toList) = true := by simp
  obtain ⟨U, hU⟩ : ∃ U, str ([] ++ num a) = U := ⟨_, rfl⟩
  obtain ⟨V, hV⟩ : ∃ V, str ([] ++ num b) = V := ⟨_, rfl⟩
  have hless := less_str ha hb U V hU hV
  have hsame := same_str ha hb U V hU hV
  obtain ⟨ls, hls⟩ : ∃ ls, decide (a < b) = ls := ⟨_, rfl⟩
  obtain ⟨sm, hsm⟩ : ∃ sm, ((a : Int) == (b : Int)) = sm := ⟨_, rfl⟩
  rw [hls] at hless
  rw [hsm] at hsame
  have HX := Lib.hid hag
  have HG := Lib.hid hgot
  have HR := Lib.hid hrest
  have HB := Lib.hid hbad
  have HU := Lib.hid hU
  have HV := Lib.hid hV
  clear hgot hrest hbad hU hV hf hn hX hag hfr hwr
  go_enter Try.func6, Try.ntmps6
  go_wp2_with fail
  refine (begun_true _).mono ?_
  rintro e w1 ⟨rfl, hb1⟩
  go_wp2_with fail
  refine (from_any s _).mono ?_
  rintro e w2 ⟨rfl, hr2, hb2⟩
  go_wp2_with fail
  refine (WalkE.num_hid _ g s _ false _ _ hr2 hs HG rfl HB).mono ?_
  rintro e w3 ⟨rfl, hr3, ho3⟩
  go_wp2_with fail
  refine (left_hid _ n _ _ true _ hr3 HR rfl).mono ?_
  rintro e w4 ⟨rfl, hr4, ho4⟩
  go_wp2_with fail
  have hB4 : Below w.heap.size w w4 := ((hb1.trans (hb2.mono hb1.size)).trans (ho3.below (Nat.le_trans hb1.size hb2.size) (by rintro k rfl; exact hb1.size))).trans (ho4.below (Nat.le_trans hb1.size (Nat.le_trans hb2.size ho3.size)) (by rintro k rfl; exact hb1.size))
  have hB4d := hB4.drew
  have hsz4 : w.heap.size ≤ w4.heap.size := hB4.size
  have hn4 : WV (w4.alloc (.cells #[.slice none 0 0] 27)).drew w4.heap.size (.slice none 0 0) [] := new_writer w4.drew
  have HA := Lib.hid ha
  have HBB := Lib.hid hb
  have HGL := Lib.hid hgl
  clear ha hb hgl
  go_region_held3 (fun w' => w.heap.size ≤ w'.heap.size)
    (first
      | assumption
      | (have hsq := hsn.only.size
         simp at hsq
         omega)
      | (change w.heap.size ≤ (World.alloc _ _).heap.size
         simp
         omega))
    (first
      | (go_at_call 10; refine (WalkA.num_any _ _ _ g _ hn4 HGL.out (by decide)).mono ?_; rintro e wn ⟨rfl, vn, hwn, hsn⟩)
      | (go_at_call 17; refine (bytes_hid _ _ _ X _ hwn HX).mono ?_; rintro e w' ⟨rfl, rfl⟩))
  have hB5 : Below w.heap.size w wn := (hB4d.alloc (by exact hsz4) _).trans (hsn.below (B := w.heap.size) (by change w.heap.size ≤ (World.alloc _ _).heap.size; simp; omega) hsz4 (by simp [Value.ownBlock]))
  have ha := HA.out
  have hb := HBB.out
  clear hwn hsn hn4 hsl
  generalize wn = w5 at hB5 ⊢
  have hsz5 := hB5.size
  have hn5 := new_writer w5
  go_wp2_with fail
  refine (WalkA.num_any _ _ _ a _ hn5 ha (by decide)).mono ?_
  rintro e w6 ⟨rfl, v6, hw6, hs6⟩
  have hB6 : Below w.heap.size w w6 := (hB5.alloc hsz5 _).trans (hs6.below (by simp; omega) hsz5 (by simp [Value.ownBlock]))
  have hsz6 := hB6.size
  go_wp2_with fail
  refine (bytes_hid _ _ _ U _ hw6 HU).mono ?_
  rintro e w7 ⟨rfl, rfl⟩
  have hn6 := new_writer w6
  go_wp2_with fail
  refine (WalkA.num_any _ _ _ b _ hn6 hb (by decide)).mono ?_
  rintro e w7 ⟨rfl, v7, hw7, hs7⟩
  have hB7 : Below w.heap.size w w7 := (hB6.alloc hsz6 _).trans (hs7.below (by simp; omega) hsz6 (by simp [Value.ownBlock]))
  go_wp2_with fail
  refine (bytes_hid _ _ _ V _ hw7 HV).mono ?_
  rintro e w8 ⟨rfl, rfl⟩
  go_wp2
  go_ret
  exact ⟨rfl, hB7⟩

theorem one_walk (s : ByteArray) (a b : Int) (w : World) (hs : s.size ≤ 9223372036854775807) (ha : (Lit.int .u64 a).wf = true) (hb : (Lit.int .u64 b).wf = true) :
    Calls Try.prog 6 #[.string s, .int .u64 a, .int .u64 b] w fun e w' => e = .returned (.bool true) ∧ Below w.heap.size w w' := by
  have ha' : 0 ≤ a ∧ a ≤ 18446744073709551615 := by simpa [Lit.wf, IntKind.min, IntKind.max, IntKind.signed, IntKind.bits] using ha
  have hb' : 0 ≤ b ∧ b ≤ 18446744073709551615 := by simpa [Lit.wf, IntKind.min, IntKind.max, IntKind.signed, IntKind.bits] using hb
  obtain ⟨A, rfl⟩ := Int.eq_ofNat_of_zero_le ha'.1
  obtain ⟨B, rfl⟩ := Int.eq_ofNat_of_zero_le hb'.1
  by_cases hf : frontB s = 0
  · exact one_bad s A B w hs (by omega) (by omega) hf
  · exact one_good s A B w hs (by omega) (by omega) hf
end Go.Proofs.Ytdainmpedhohnaa.LawC
