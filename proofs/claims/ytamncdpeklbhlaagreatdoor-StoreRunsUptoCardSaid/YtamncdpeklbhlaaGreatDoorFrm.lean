/- Frames of many records, walked: the program's and the document's own. -/
import Derived.Test.YtamncdpeklbhlaaGreatDoorScB
import Derived.Test.YtamncdpeklbhlaaGreatDoorBuild
set_option linter.unusedVariables false
set_option linter.unusedSimpArgs false
namespace Go.Proofs.YtamncdpeklbhlaaGreatDoor.Frm
open Go.RowKit Go.Proofs.YtamncdpeklbhlaaGreatDoor.Kit Go.Proofs.YtamncdpeklbhlaaGreatDoor.Blocks Go.Proofs.YtamncdpeklbhlaaGreatDoor.Stuff Go.Proofs.YtamncdpeklbhlaaGreatDoor.Crc Go.Proofs.YtamncdpeklbhlaaGreatDoor.SumB Go.Proofs.YtamncdpeklbhlaaGreatDoor.Wal Go.Proofs.YtamncdpeklbhlaaGreatDoor.StuWalkA Go.Proofs.YtamncdpeklbhlaaGreatDoor.FrA Go.Proofs.YtamncdpeklbhlaaGreatDoor.FrB Go.Proofs.YtamncdpeklbhlaaGreatDoor.FrC Go.Proofs.YtamncdpeklbhlaaGreatDoor.ScA Go.Proofs.YtamncdpeklbhlaaGreatDoor.ScB Go.Proofs.YtamncdpeklbhlaaGreatDoor.Build
open Go.Proofs.YtamncdpeklbhlaaGreatDoor.DskWalkC (str)

/-- What the frames of records are, and the error's number. -/
noncomputable def framed (l : List (List UInt8)) : List UInt8 × Int := if Recs l then (frames l, 0) else ([], 3)
theorem framed_ok {l : List (List UInt8)} (h : Recs l) : framed l = (frames l, 0) := if_pos h
theorem framed_long {l : List (List UInt8)} (h : ¬ Recs l) : framed l = ([], 3) := if_neg h
theorem framed_le (l : List (List UInt8)) (h : Recs l) : (frames l).length ≤ 66000 * l.length := by
  induction l with
  | nil => simp [frames]
  | cons x l ih =>
    have h1 := frame_short x
    have h2 := h x (by simp)
    have h3 := ih fun y hy => h y (List.mem_cons_of_mem _ hy)
    simp only [frames, List.length_append, List.length_cons]
    omega
theorem recs_succ {l : List (List UInt8)} {k : Nat} (hk : k < l.length) (h : Recs (l.take k)) (hx : l[k].length ≤ 65536) : Recs (l.take (k + 1)) := by
  rw [List.take_succ_eq_append_getElem hk]
  exact h.append fun y hy => by simp only [List.mem_singleton] at hy; subst hy; exact hx
theorem frames_succ {l : List (List UInt8)} {k : Nat} (hk : k < l.length) : frames (l.take (k + 1)) = frames (l.take k) ++ frame l[k] := by
  rw [List.take_succ_eq_append_getElem hk, frames_snoc]

set_option maxRecDepth 100000 in
set_option maxHeartbeats 2000000 in
theorem frames_any (A : Option Addr) (n c : Nat) (l : List (List UInt8)) (w : World) (h : RS w A n l) (ht : Tab w) (hn : n ≤ 1000000) :
    Calls Tryz.prog 85 #[.slice A n c] w fun e w' => e = .returned (.tuple #[.string (str (framed l).1), .int .i64 (framed l).2]) ∧ Below w.heap.size w w' := by
  have hl := texts_len h
  have HL := Lib.hid hl
  have HT := Lib.hid ht
  have hgb := Tab.lt ht
  obtain ⟨R, hR⟩ : ∃ R, framed l = R := ⟨_, rfl⟩
  rw [hR]
  have HR := Lib.hid hR
  clear hl ht hR
  have h0 := fresh w
  have hb0 : Below w.heap.size w (w.alloc (.cells #[.pointer none, .slice none 0 0] 178)) := (Below.refl _ _).alloc (Nat.le_refl _) _
  go_enter Tryz.func85, Tryz.ntmps85
  go_wp2_with fail
  go_loopw [9] (fun i wr => ∃ k : Nat, k ≤ n ∧ i = .int .i64 (k : Int) ∧ Hid (Recs (l.take k)) ∧ Holding w.heap.size w.heap.size (frames (l.take k)) wr ∧ Below w.heap.size w wr) (fun i _ => n - (intOf i).toNat)
  case atStart => exact ⟨0, by omega, rfl, by intro x hx; simp at hx, h0, hb0⟩
  case round =>
    obtain ⟨k, hk, rfl, hrec, hold, hbel⟩ := hrel
    have hB := hbel.size
    by_cases hkn : k < n
    · have hkl : k < l.length := by rw [HL.out]; exact hkn
      have hr := h.below hbel
      obtain ⟨b, o, rfl, hb, hc⟩ := Reads.text hr hkn hkl
      obtain ⟨x, hx⟩ : ∃ x, l[k] = x := ⟨_, rfl⟩
      rw [hx] at hc
      have hxs : (str x).size = x.length := rfl
      obtain ⟨X, hX⟩ : ∃ X, str x = X := ⟨_, rfl⟩
      rw [hX] at hc hxs
      by_cases hlong : 65536 < x.length
      · have hRl : R = ([], 3) := by
          rw [← HR.out]
          exact framed_long fun hr => by have := hr l[k] (List.getElem_mem hkl); rw [hx] at this; omega
        have hxi : (65536 : Int) < (X.size : Int) := by omega
        clear hx hX
        go_wp2
        go_ret2
        rw [hRl]
        exact ⟨rfl, hbel⟩
      · have hxi : ¬ (65536 : Int) < (X.size : Int) := by omega
        have HX := Lib.hid hx
        have hrec2 : Hid (Recs (l.take (k + 1))) := recs_succ hkl hrec.out (by rw [hx]; omega)
        have hfs := frames_succ hkl
        rw [hx] at hfs
        have HFS := Lib.hid hfs
        have hle := framed_le _ hrec.out
        rw [List.length_take] at hle
        have hle2 : (frames (l.take k)).length ≤ 66000 * k := by
          have : min k l.length = k := by omega
          rwa [this] at hle
        have hfl := frame_short x
        have hcall := frame_any X wr (Tab.below HT.out hgb hbel) (by omega)
        obtain ⟨F, hF⟩ : ∃ F, str (frame X.data.toList) = F := ⟨_, rfl⟩
        have hFl : F.data.toList = frame x := by rw [← hF, ← hX]; rfl
        have hFs : F.size ≤ 70000 := by rw [← size_list, hFl]; omega
        rw [hF] at hcall
        have HC := Lib.hid hcall
        have HFL := Lib.hid hFl
        clear hx hX hfs hle hfl hcall hF hFl
        go_wp2_with fail
        refine HC.out.mono ?_
        rintro e w2 ⟨rfl, hb2⟩
        have hold2 := holding_below hold hb2
        have hbel2 := hbel.trans (hb2.mono hB)
        go_wp2_with fail
        refine (write_any _ _ _ F w2 hold2 (by omega) hbel2.size).mono ?_
        rintro e w3 ⟨rfl, hold3, hb3⟩
        have hbel3 := hbel2.trans hb3
        go_wp2
        go_roundw
        case rel => exact ⟨k + 1, by omega, by go_num, hrec2, by rw [HFL.out, ← HFS.out] at hold3; exact hold3, hbel3⟩
        case measure => simp [intOf]; omega
    · obtain rfl : k = n := by omega
      have hRl : R = (frames l, 0) := by
        have h1 := hrec.out
        rw [List.take_of_length_le (by rw [HL.out]; omega)] at h1
        rw [← HR.out]
        exact framed_ok h1
      rw [List.take_of_length_le (by rw [HL.out]; omega)] at hold
      go_wp2_with fail
      refine (string_any _ _ _ wr hold hB).mono ?_
      rintro e w2 ⟨rfl, hb2⟩
      go_wp2
      go_ret2
      rw [hRl]
      exact ⟨rfl, hbel.trans hb2⟩

set_option maxRecDepth 100000 in
set_option maxHeartbeats 4000000 in
theorem rframes_any (A : Option Addr) (n c : Nat) (l : List (List UInt8)) (w : World) (h : RS w A n l) (hn : n ≤ 1000000) :
    Calls Tryz.prog 90 #[.slice A n c] w fun e w' => e = .returned (.tuple #[.string (str (framed l).1), .bool (decide (Recs l))]) ∧ Below w.heap.size w w' := by
  have hl := texts_len h
  have HL := Lib.hid hl
  obtain ⟨R, hR⟩ : ∃ R, (framed l).1 = R := ⟨_, rfl⟩
  obtain ⟨b0, hb0⟩ : ∃ b0, decide (Recs l) = b0 := ⟨_, rfl⟩
  rw [hR, hb0]
  have HR := Lib.hid hR
  have HB := Lib.hid hb0
  clear hl hR hb0
  go_enter Tryz.func90, Tryz.ntmps90
  go_wp2_with fail
  go_loopw [4, 5] (fun s i wr => ∃ (k : Nat) (S : ByteArray), k ≤ n ∧ i = .int .i64 (k : Int) ∧ s = .string S ∧ Hid (S = str (frames (l.take k))) ∧ Hid (Recs (l.take k)) ∧ Below w.heap.size w wr) (fun _ i _ => n - (intOf i).toNat)
  case atStart => exact ⟨0, _, by omega, rfl, rfl, rfl, by intro x hx; simp at hx, Below.refl _ _⟩
  case round =>
    obtain ⟨k, S, hk, rfl, rfl, hS, hrec, hbel⟩ := hrel
    have hB := hbel.size
    by_cases hkn : k < n
    · have hkl : k < l.length := by rw [HL.out]; exact hkn
      have hr := h.below hbel
      obtain ⟨b, o, rfl, hb, hc⟩ := Reads.text hr hkn hkl
      obtain ⟨x, hx⟩ : ∃ x, l[k] = x := ⟨_, rfl⟩
      rw [hx] at hc
      have hxs : (str x).size = x.length := rfl
      obtain ⟨X, hX⟩ : ∃ X, str x = X := ⟨_, rfl⟩
      rw [hX] at hc hxs
      by_cases hlong : 65536 < x.length
      · have hn : ¬ Recs l := fun hr => by have := hr l[k] (List.getElem_mem hkl); rw [hx] at this; omega
        have hRl : R = [] := by rw [← HR.out, framed_long hn]
        have hbf : b0 = false := by rw [← HB.out]; exact decide_eq_false hn
        have hxi : (65536 : Int) < (X.size : Int) := by omega
        clear hx hX hn
        go_wp2
        go_ret2
        rw [hRl, hbf]
        exact ⟨rfl, hbel⟩
      · have hxi : ¬ (65536 : Int) < (X.size : Int) := by omega
        have hrec2 : Hid (Recs (l.take (k + 1))) := recs_succ hkl hrec.out (by rw [hx]; omega)
        have hfs := frames_succ hkl
        rw [hx] at hfs
        have hle := framed_le _ hrec.out
        rw [List.length_take] at hle
        have hle2 : (frames (l.take k)).length ≤ 66000 * k := by
          have : min k l.length = k := by omega
          rwa [this] at hle
        have hSs : S.size = (frames (l.take k)).length := by rw [hS.out]; rfl
        have hfl := frame_short x
        have hcall := rframe_any X wr (by omega)
        obtain ⟨F, hF⟩ : ∃ F, str (frame X.data.toList) = F := ⟨_, rfl⟩
        have hFl : F.data.toList = frame x := by rw [← hF, ← hX]; rfl
        have hFs : F.size ≤ 70000 := by rw [← size_list, hFl]; omega
        have hsz : ¬ 9223372036854775807 < S.size + F.size := by omega
        have hnext : Hid (S ++ F = str (frames (l.take (k + 1)))) := by
          show _ = _
          rw [hfs, hS.out]
          apply ByteArray.ext
          rw [← hF, ← hX]
          simp [str]
        rw [hF] at hcall
        have HC := Lib.hid hcall
        clear hx hX hfs hle hfl hcall hF hFl hSs
        go_wp2_with fail
        refine HC.out.mono ?_
        rintro e w2 ⟨rfl, hb2⟩
        have hbel2 := hbel.trans (hb2.mono hB)
        go_wp2
        go_roundw
        case rel => exact ⟨k + 1, _, by omega, by go_num, rfl, hnext, hrec2, hbel2⟩
        case measure => simp [intOf]; omega
    · obtain rfl : k = n := by omega
      have h1 := hrec.out
      rw [List.take_of_length_le (by rw [HL.out]; omega)] at h1
      have hRl : R = frames l := by rw [← HR.out, framed_ok h1]
      have hbt : b0 = true := by rw [← HB.out]; exact decide_eq_true h1
      have hS2 := hS.out
      rw [List.take_of_length_le (by rw [HL.out]; omega)] at hS2
      clear h1
      go_wp2
      go_ret2
      rw [hRl, hbt, ← hS2]
      exact ⟨rfl, hbel⟩
end Go.Proofs.YtamncdpeklbhlaaGreatDoor.Frm
