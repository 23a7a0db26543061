/- A log written and laid anew, walked (the program's own). -/
import Derived.Test.YtmimpfccngihiaaDoorLog
import Derived.Deep.RegionHeld3
set_option linter.unusedVariables false
set_option linter.unusedSimpArgs false
namespace Go.Proofs.YtmimpfccngihiaaDoor.LogC
open Go.RowKit Go.Proofs.YtmimpfccngihiaaDoor.Kit Go.Proofs.YtmimpfccngihiaaDoor.Blocks Go.Proofs.YtmimpfccngihiaaDoor.SumB Go.Proofs.YtmimpfccngihiaaDoor.Wal Go.Proofs.YtmimpfccngihiaaDoor.FrA Go.Proofs.YtmimpfccngihiaaDoor.FrC Go.Proofs.YtmimpfccngihiaaDoor.ScA Go.Proofs.YtmimpfccngihiaaDoor.ScB Go.Proofs.YtmimpfccngihiaaDoor.Frm Go.Proofs.YtmimpfccngihiaaDoor.Model Go.Proofs.YtmimpfccngihiaaDoor.Disk Go.Proofs.YtmimpfccngihiaaDoor.Ops Go.Proofs.YtmimpfccngihiaaDoor.Log
open Go.Proofs.YtmimpfccngihiaaDoor.DskWalkC (str Got)
open Go.Proofs.YtmimpfccngihiaaDoor.Model.M
section
variable {B : Nat} {L : List Nat} {w w' : World} {b p N : Nat} {m : M} {n : Int}
/-- A log and its disk. -/
structure LS (B : Nat) (L : List Nat) (w : World) (b p N : Nat) (n : Int) (m : M) (W : World) : Prop where
  log : LogAt W b p n
  disk : Has B L W p N m
  kept : Keeps B L w W
theorem LS.drew {W : World} (h : LS B L w b p N n m W) : LS B L w b p N n m W.drew := ⟨h.log, h.disk.below ((Below.refl _ _).drew), Only.drew h.kept⟩
theorem LS.next {W W' : World} (h : LS B L w b p N n m W) (k : Below W.heap.size W W') : LS B L w b p N n m W' := ⟨h.log.below k, h.disk.below k, h.kept.trans (Keeps.of_below k)⟩

theorem ls_append {W : World} {m' : M} {r : Int} (s : ByteArray) (h : LS B L w b p N n m W) (hN : N < 1000000) (hb : b ∈ L) (hr : Hid ((m.append n s.data.toList).1 = r)) (hm : Hid ((m.append n s.data.toList).2 = m')) :
    Calls Tryd.prog 33 #[.pointer (some ⟨p, 0, none⟩), .int .i64 n, .string s] W fun e W' => e = .returned (.int .i64 r) ∧ LS B L w b p (N + 1) n m' W' := by
  refine (append_has n s h.disk hN).mono ?_
  intro e W' hd
  obtain ⟨rfl, h1, k1⟩ := Done.lit hd hr hm
  exact ⟨rfl, h.log.keeps k1 hb, h1, h.kept.trans k1⟩
theorem ls_replace {W : World} {m' : M} {r : Int} (s : ByteArray) (h : LS B L w b p N n m W) (hN : N < 1000000) (hb : b ∈ L) (hr : Hid ((m.replace n s.data.toList).1 = r)) (hm : Hid ((m.replace n s.data.toList).2 = m')) :
    Calls Tryd.prog 19 #[.pointer (some ⟨p, 0, none⟩), .int .i64 n, .string s] W fun e W' => e = .returned (.int .i64 r) ∧ LS B L w b p (N + 1) n m' W' := by
  refine (replace_has n s h.disk hN).mono ?_
  intro e W' hd
  obtain ⟨rfl, h1, k1⟩ := Done.lit hd hr hm
  exact ⟨rfl, h.log.keeps k1 hb, h1, h.kept.trans k1⟩
theorem ls_sync {W : World} {m' : M} {r : Int} (h : LS B L w b p N n m W) (hN : N < 1000000) (hb : b ∈ L) (h0 : -9223372036854775808 ≤ n) (h1 : n ≤ 9223372036854775807) (hr : Hid ((m.sync n).1 = r)) (hm : Hid ((m.sync n).2 = m')) :
    Calls Tryd.prog 48 #[.pointer (some ⟨p, 0, none⟩), .int .i64 n] W fun e W' => e = .returned (.int .i64 r) ∧ LS B L w b p (N + 1) n m' W' := by
  refine (sync_has n h.disk hN h0 h1).mono ?_
  intro e W' hd
  obtain ⟨rfl, h1, k1⟩ := Done.lit hd hr hm
  exact ⟨rfl, h.log.keeps k1 hb, h1, h.kept.trans k1⟩

/-- What Append and Anew leave. -/
def Wrote (B : Nat) (L : List Nat) (w : World) (b p N : Nat) (n : Int) (r : Int × M) (e : Ending) (w' : World) : Prop := e = .returned (.int .i64 r.1) ∧ LS B L w b p N n r.2 w'

set_option maxRecDepth 100000 in
theorem append_none (a : Option Addr) (k c : Nat) (w : World) :
    Calls Tryd.prog 26 #[.pointer none, .slice a k c] w fun e w' => e = .returned (.int .i64 10) ∧ w = w' := by
  go_enter Tryd.func26, Tryd.ntmps26
  go_wp2
  go_ret
  exact ⟨rfl, rfl⟩
set_option maxRecDepth 100000 in
theorem anew_none (a : Option Addr) (k c : Nat) (w : World) :
    Calls Tryd.prog 24 #[.pointer none, .slice a k c] w fun e w' => e = .returned (.int .i64 10) ∧ w = w' := by
  go_enter Tryd.func24, Tryd.ntmps24
  go_wp2
  go_ret
  exact ⟨rfl, rfl⟩

set_option maxRecDepth 100000 in
set_option maxHeartbeats 4000000 in
theorem append_any (A : Option Addr) (k c : Nat) (l : List (List UInt8)) (hlog : LogAt w b p n) (h : Has B L w p N m) (hb : b ∈ L) (hl : RS w A k l) (ht : Tab w) (hk : k ≤ 1000000) (hN : N < 900000) (h0 : -9223372036854775808 ≤ n) (h1 : n ≤ 9223372036854775807) :
    Calls Tryd.prog 26 #[.pointer (some ⟨b, 0, none⟩), .slice A k c] w (Wrote B L w b p (N + 2) n (wappend m n l)) := by
  have hf := frames_any A k c l w hl ht hk
  have hS0 : LS B L w b p N n m w := ⟨hlog, h, Keeps.refl _ _ _⟩
  by_cases hr : Recs l
  · rw [framed_ok hr] at hf
    obtain ⟨S, hS⟩ : ∃ S, str (frames l) = S := ⟨_, rfl⟩
    have hSl : S.data.toList = frames l := by rw [← hS]; rfl
    obtain ⟨r1, hr1⟩ : ∃ r1, (m.append n S.data.toList).1 = r1 := ⟨_, rfl⟩
    obtain ⟨m1, hm1⟩ : ∃ m1, (m.append n S.data.toList).2 = m1 := ⟨_, rfl⟩
    have hw : wappend m n l = if r1 = 0 then m1.sync n else (r1, m1) := by
      unfold wappend
      rw [if_pos hr, ← hSl, ← hr1, ← hm1]
    rw [hw]
    rw [show str (frames l, (0 : Int)).1 = S from hS] at hf
    have HF := Lib.hid hf
    have HR1 := Lib.hid hr1
    have HM1 := Lib.hid hm1
    clear hf hS hSl hr1 hm1 hw hr
    by_cases hz : r1 = 0
    · subst hz
      rw [if_pos rfl]
      obtain ⟨r2, hr2⟩ : ∃ r2, (m1.sync n).1 = r2 := ⟨_, rfl⟩
      obtain ⟨m2, hm2⟩ : ∃ m2, (m1.sync n).2 = m2 := ⟨_, rfl⟩
      have e : m1.sync n = (r2, m2) := by rw [← hr2, ← hm2]
      rw [e]
      have HR2 := Lib.hid hr2
      have HM2 := Lib.hid hm2
      clear hr2 hm2 e
      go_enter Tryd.func26, Tryd.ntmps26
      go_wp2_with fail
      refine HF.out.mono ?_
      rintro e w1 ⟨rfl, hb1⟩
      have hS1 := (hS0.next hb1).drew
      go_wp2_with fail
      go_region_held3 (fun w' => w'.cell? ⟨b, 0, none⟩ = some (.pointer (some ⟨p, 0, none⟩)) ∧ w'.cell? ⟨b, 1, none⟩ = some (.int .i64 n))
        (first | exact ⟨hS2.log.disk, hS2.log.file⟩ | exact ⟨hS1.log.disk, hS1.log.file⟩)
        ((go_at_call 33
          refine (ls_append S hS1 (by omega) hb HR1 HM1).mono ?_
          rintro e w2 ⟨rfl, hS2⟩))
      all_goals
        have hS3 := hS2.drew
        go_wp2_with fail
        go_region_held3 (fun w' => w'.cell? ⟨b, 0, none⟩ = some (.pointer (some ⟨p, 0, none⟩)) ∧ w'.cell? ⟨b, 1, none⟩ = some (.int .i64 n))
          (first | exact ⟨hS4.log.disk, hS4.log.file⟩ | exact ⟨hS3.log.disk, hS3.log.file⟩)
          ((go_at_call 48
            refine (ls_sync hS3 (by omega) hb h0 h1 HR2 HM2).mono ?_
            rintro e w4 ⟨rfl, hS4⟩))
      all_goals go_wp2
      all_goals go_ret
      all_goals exact ⟨rfl, hS4⟩
    · rw [if_neg hz]
      have hzi : (r1 != 0) = true := bne_iff_ne.2 hz
      go_enter Tryd.func26, Tryd.ntmps26
      go_wp2_with fail
      refine HF.out.mono ?_
      rintro e w1 ⟨rfl, hb1⟩
      have hS1 := (hS0.next hb1).drew
      go_wp2_with fail
      go_region_held3 (fun w' => w'.cell? ⟨b, 0, none⟩ = some (.pointer (some ⟨p, 0, none⟩)) ∧ w'.cell? ⟨b, 1, none⟩ = some (.int .i64 n))
        (first | exact ⟨hS2.log.disk, hS2.log.file⟩ | exact ⟨hS1.log.disk, hS1.log.file⟩)
        ((go_at_call 33
          refine (ls_append S hS1 (by omega) hb HR1 HM1).mono ?_
          rintro e w2 ⟨rfl, hS2⟩))
      all_goals go_wp2
      all_goals go_ret
      all_goals exact ⟨rfl, hS2.log, hS2.disk.more (by omega), hS2.kept⟩
  · rw [framed_long hr] at hf
    have hw : wappend m n l = (3, m) := if_neg hr
    rw [hw]
    have HF := Lib.hid hf
    clear hf hw hr
    go_enter Tryd.func26, Tryd.ntmps26
    go_wp2_with fail
    refine HF.out.mono ?_
    rintro e w1 ⟨rfl, hb1⟩
    have hS1 := hS0.next hb1
    go_wp2
    go_ret
    exact ⟨rfl, hS1.log, hS1.disk.more (by omega), hS1.kept⟩

set_option maxRecDepth 100000 in
set_option maxHeartbeats 4000000 in
theorem anew_any (A : Option Addr) (k c : Nat) (l : List (List UInt8)) (hlog : LogAt w b p n) (h : Has B L w p N m) (hb : b ∈ L) (hl : RS w A k l) (ht : Tab w) (hk : k ≤ 1000000) (hN : N < 900000) :
    Calls Tryd.prog 24 #[.pointer (some ⟨b, 0, none⟩), .slice A k c] w (Wrote B L w b p (N + 2) n (wanew m n l)) := by
  have hf := frames_any A k c l w hl ht hk
  have hS0 : LS B L w b p N n m w := ⟨hlog, h, Keeps.refl _ _ _⟩
  by_cases hr : Recs l
  · rw [framed_ok hr] at hf
    obtain ⟨S, hS⟩ : ∃ S, str (frames l) = S := ⟨_, rfl⟩
    have hSl : S.data.toList = frames l := by rw [← hS]; rfl
    obtain ⟨r1, hr1⟩ : ∃ r1, (m.replace n S.data.toList).1 = r1 := ⟨_, rfl⟩
    obtain ⟨m1, hm1⟩ : ∃ m1, (m.replace n S.data.toList).2 = m1 := ⟨_, rfl⟩
    have hw : wanew m n l = (r1, m1) := by
      unfold wanew
      rw [if_pos hr, ← hSl, ← hr1, ← hm1]
    rw [hw]
    rw [show str (frames l, (0 : Int)).1 = S from hS] at hf
    have HF := Lib.hid hf
    have HR1 := Lib.hid hr1
    have HM1 := Lib.hid hm1
    clear hf hS hSl hr1 hm1 hw hr
    go_enter Tryd.func24, Tryd.ntmps24
    go_wp2_with fail
    refine HF.out.mono ?_
    rintro e w1 ⟨rfl, hb1⟩
    have hS1 := (hS0.next hb1).drew
    go_wp2_with fail
    go_region_held3 (fun w' => w'.cell? ⟨b, 0, none⟩ = some (.pointer (some ⟨p, 0, none⟩)) ∧ w'.cell? ⟨b, 1, none⟩ = some (.int .i64 n))
      (first | exact ⟨hS2.log.disk, hS2.log.file⟩ | exact ⟨hS1.log.disk, hS1.log.file⟩)
      ((go_at_call 19
        refine (ls_replace S hS1 (by omega) hb HR1 HM1).mono ?_
        rintro e w2 ⟨rfl, hS2⟩))
    all_goals go_wp2
    all_goals go_ret
    all_goals exact ⟨rfl, hS2.log, hS2.disk.more (by omega), hS2.kept⟩
  · rw [framed_long hr] at hf
    have hw : wanew m n l = (3, m) := if_neg hr
    rw [hw]
    have HF := Lib.hid hf
    clear hf hw hr
    go_enter Tryd.func24, Tryd.ntmps24
    go_wp2_with fail
    refine HF.out.mono ?_
    rintro e w1 ⟨rfl, hb1⟩
    have hS1 := hS0.next hb1
    go_wp2
    go_ret
    exact ⟨rfl, hS1.log, hS1.disk.more (by omega), hS1.kept⟩
end
end Go.Proofs.YtmimpfccngihiaaDoor.LogC
