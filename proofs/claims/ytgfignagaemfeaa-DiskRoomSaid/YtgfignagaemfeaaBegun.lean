/- What each statement of layer 4 asks first, walked. -/
import Derived.Test.YtgfignagaemfeaaOps
import Derived.Lib.Strings
namespace Go.Proofs.Ytgfignagaemfeaa.Begun
open Go.RowKit Go.Proofs.Ytgfignagaemfeaa.Kit Go.Proofs.Ytgfignagaemfeaa.Blocks Go.Proofs.Ytgfignagaemfeaa.Keys Go.Proofs.Ytgfignagaemfeaa.Model Go.Proofs.Ytgfignagaemfeaa.Disk Go.Proofs.Ytgfignagaemfeaa.WalkC Go.Proofs.Ytgfignagaemfeaa.WalkD Go.Proofs.Ytgfignagaemfeaa.WalkJ Go.Proofs.Ytgfignagaemfeaa.Ops

theorem Done.lit {B : Nat} {L : List Nat} {w w' : World} {p N : Nat} {r : Int × M} {e : Ending} (h : Done B L w p N r e w') {f : Int} {m' : M} (hf : Hid (r.1 = f)) (hm : Hid (r.2 = m')) : e = .returned (.int .i64 f) ∧ Has B L w' p N m' ∧ Keeps B L w w' := by
  obtain ⟨h1, h2, h3⟩ := h
  rw [hf.out] at h1
  rw [hm.out] at h2
  exact ⟨h1, h2, h3⟩
theorem Got.lit {w w' : World} {l : List UInt8} {f : Int} {e : Ending} (h : Got w l f e w') {s : ByteArray} {f' : Int} (hs : Hid (str l = s)) (hf : Hid (f = f')) : e = .returned (.tuple #[.string s, .int .i64 f']) ∧ Below w.heap.size w w' := by
  obtain ⟨h1, h2⟩ := h
  rw [hs.out, hf.out] at h1
  exact ⟨h1, h2⟩
theorem TellsD.lit {w w' : World} {n n' : Int} {e : Ending} (h : TellsD w n e w') (hn : Hid (n = n')) : e = .returned (.int .i64 n') ∧ Below w.heap.size w w' := by
  obtain ⟨h1, h2⟩ := h
  rw [hn.out] at h1
  exact ⟨h1, h2⟩

def ab : ByteArray := ⟨#[97, 98]⟩
def cd : ByteArray := ⟨#[99, 100]⟩
def abc : ByteArray := ⟨#[97, 98, 99]⟩
theorem said_abc : (abc.toList == [97, 98, 99]) = true := by rw [Lib.toList_data]; decide
theorem reads_int (w : World) (i : Int) : Reads (w.alloc (.cells #[.int .i64 i] 3)) (w.alloc (.cells #[.int .i64 i] 3)).heap.size 1 (some ⟨w.heap.size, 0, none⟩) 1 (inums [i]) := by
  have := reads_one w (.int .i64 i) 3
  simpa [inums] using this

set_option maxHeartbeats 1000000 in
theorem begun_true (w : World) : Calls Try.prog 9 #[] w fun e w' => e = .returned (.bool true) ∧ Below w.heap.size w w' := by
  have e1 : ((M.new 10).append 0 ab.data.toList).1 = 0 := by decide +kernel
  obtain ⟨m1, q1⟩ : ∃ m1, ((M.new 10).append 0 ab.data.toList).2 = m1 := ⟨_, rfl⟩
  have e2 : (m1.sync 0).1 = 0 := by rw [← q1]; decide +kernel
  obtain ⟨m2, q2⟩ : ∃ m2, (m1.sync 0).2 = m2 := ⟨_, rfl⟩
  have e3 : (m2.append 0 cd.data.toList).1 = 0 := by rw [← q2, ← q1]; decide +kernel
  obtain ⟨m3, q3⟩ : ∃ m3, (m2.append 0 cd.data.toList).2 = m3 := ⟨_, rfl⟩
  have e4 : str (((m3.crash [1]).read 0).1) = abc := by rw [← q3, ← q2, ← q1]; decide +kernel
  have e5 : ((m3.crash [1]).read 0).2 = 0 := by rw [← q3, ← q2, ← q1]; decide +kernel
  have e6 : (m3.used : Int) = 4 := by rw [← q3, ← q2, ← q1]; decide +kernel
  have E1 := Lib.hid e1
  have E2 := Lib.hid e2
  have E3 := Lib.hid e3
  have E4 := Lib.hid e4
  have E5 := Lib.hid e5
  have E6 := Lib.hid e6
  have Q1 := Lib.hid q1
  have Q2 := Lib.hid q2
  have Q3 := Lib.hid q3
  have hsa := said_abc
  clear e1 e2 e3 e4 e5 e6 q1 q2 q3
  go_enter Try.func9, Try.ntmps9
  go_wp2_with fail
  refine (new_has (B := w.heap.size) 10 (by decide) (Nat.le_refl _)).mono ?_
  rintro e w1 ⟨p, rfl, h1, _, hb1⟩
  go_wp2_with fail
  refine (append_has 0 ab h1 (by decide)).mono ?_
  intro e w2 hd
  obtain ⟨rfl, h2, k2⟩ := Done.lit hd E1 Q1
  clear hd
  go_wp2_with fail
  refine (sync_has 0 h2 (by decide) (by decide) (by decide)).mono ?_
  intro e w3 hd
  obtain ⟨rfl, h3, k3⟩ := Done.lit hd E2 Q2
  clear hd
  go_wp2_with fail
  refine (append_has 0 cd h3 (by decide)).mono ?_
  intro e w4 hd
  obtain ⟨rfl, h4, k4⟩ := Done.lit hd E3 Q3
  clear hd
  have hal : Below w4.heap.size w4 (w4.alloc (.cells #[.int .i64 1] 3)) := (Below.refl _ _).alloc (Nat.le_refl _) _
  go_wp2_with fail
  refine (crash_has _ 1 1 [1] (h4.below hal) (reads_int w4 1)).mono ?_
  rintro e w5 ⟨p5, rfl, h5, h5', _, hb5⟩
  go_wp2_with fail
  refine (read_has 0 h5 (by decide) (by decide)).mono ?_
  intro e w6 hd
  obtain ⟨rfl, hb6⟩ := Got.lit hd E4 E5
  clear hd
  go_wp2_with fail
  refine (used_has (h5'.below hb6)).mono ?_
  intro e w7 hd
  obtain ⟨rfl, hb7⟩ := TellsD.lit hd E6
  clear hd
  go_wp2
  go_ret
  have kb : Keeps w.heap.size [] w1 w7 := ((((k2.trans k3).trans k4).trans (Keeps.of_below hal)).trans (Keeps.of_below hb5)).trans ((Keeps.of_below hb6).trans (Keeps.of_below hb7))
  exact ⟨rfl, hb1.trans (kb.below hb1.size)⟩
end Go.Proofs.Ytgfignagaemfeaa.Begun
