/- What the document's New, Used and Read leave, walked. -/
import Derived.Test.YtmimpfccngihiaaDoorRef
namespace Go.Proofs.YtmimpfccngihiaaDoor.RefB
open Go.RowKit Go.Proofs.YtmimpfccngihiaaDoor.Kit Go.Proofs.YtmimpfccngihiaaDoor.Blocks Go.Proofs.YtmimpfccngihiaaDoor.Model Go.Proofs.YtmimpfccngihiaaDoor.DskWalkA Go.Proofs.YtmimpfccngihiaaDoor.DskWalkC Go.Proofs.YtmimpfccngihiaaDoor.DskWalkD Go.Proofs.YtmimpfccngihiaaDoor.Ref

theorem str_size (l : List UInt8) : (str l).size = l.length := by simp [str, ByteArray.size]
theorem str_append (a b : List UInt8) : str a ++ str b = str (a ++ b) := by
  apply ByteArray.ext
  simp [str]
theorem str_self (s : ByteArray) : str s.data.toList = s := by
  apply ByteArray.ext
  simp [str]
theorem ref_new (r : Nat) : (#[.string .empty, .string .empty, .string .empty, .string .empty, .string .empty, .string .empty, .string .empty, .string .empty, .string .empty, .string .empty, .string .empty, .string .empty, .string .empty, .string .empty, .string .empty, .string .empty,
    .string .empty, .string .empty, .string .empty, .string .empty, .string .empty, .string .empty, .string .empty, .string .empty, .string .empty, .string .empty, .string .empty, .string .empty, .string .empty, .string .empty, .string .empty, .string .empty,
    .bool false, .bool false, .bool false, .bool false, .bool false, .bool false, .bool false, .bool false, .bool false, .bool false, .bool false, .bool false, .bool false, .bool false, .bool false, .bool false, .int .i64 (r : Int), .int .i64 (-1), .bool false] : Array Value) = refCells (M.new r) := by rfl
set_option maxRecDepth 100000 in
theorem rnew_no (r : Int) (w : World) (h : ¬ (0 ≤ r ∧ r ≤ 1048576)) : Calls Tryd.prog 18 #[.int .i64 r] w fun e w' => e = .returned (.tuple #[.pointer none, .int .i64 1]) ∧ w = w' := by
  by_cases h0 : r < 0
  · clear h
    go_enter Tryd.func18, Tryd.ntmps18
    go_wp2
    go_ret2
    exact ⟨rfl, rfl⟩
  · have h1 : 1048576 < r := by omega
    clear h
    go_enter Tryd.func18, Tryd.ntmps18
    go_wp2
    go_ret2
    exact ⟨rfl, rfl⟩
def MadeR (w : World) (m : M) (e : Ending) (w' : World) : Prop := ∃ q, e = .returned (.tuple #[.pointer (some ⟨q, 0, none⟩), .int .i64 0]) ∧ w.heap.size ≤ q ∧ RefAt w' q m ∧ Below w.heap.size w w'
set_option maxRecDepth 100000 in
theorem rnew_yes (r : Nat) (w : World) (h : r ≤ 1048576) : Calls Tryd.prog 18 #[.int .i64 (r : Int)] w (MadeR w (M.new r)) := by
  have h1 : (r : Int) ≤ 1048576 := by omega
  have hn := heap_alloc_new w (.cells (refCells (M.new r)) 47)
  have hb : Below w.heap.size w (w.alloc (.cells (refCells (M.new r)) 47)) := (Below.refl _ _).alloc (Nat.le_refl _) _
  rw [← ref_new] at hn hb
  have HN := Lib.hid hn
  have HB := Lib.hid hb
  clear h hn hb
  go_enter Tryd.func18, Tryd.ntmps18
  go_wp2
  go_ret2
  refine ⟨_, rfl, Nat.le_refl _, ?_, HB.out⟩
  have := HN.out
  rw [ref_new] at this
  exact this

theorem below_drewN (B : Nat) (w : World) (n : Nat) : Below B w (w.drewN n) := ⟨rfl, rfl, rfl, Nat.le_refl _, fun _ _ => rfl⟩
section
variable {w : World} {q : Nat} {m : M}
set_option maxRecDepth 100000 in
set_option maxHeartbeats 1000000 in
theorem rused_any (h : RefAt w q m) (g : Fine m) : Calls Tryd.prog 46 #[.pointer (some ⟨q, 0, none⟩)] w (TellsD w (m.used : Int)) := by
  have hu := g.used
  have hr := g.room
  go_enter Tryd.func46, Tryd.ntmps46
  go_wp2
  go_loopw [3, 4] (fun s i wr => ∃ k : Nat, k ≤ 16 ∧ s = .int .i64 (m.usedTo k : Int) ∧ i = .int .i64 (k : Int) ∧ Below w.heap.size w wr) (fun _ i _ => 16 - (intOf i).toNat)
  case atStart => exact ⟨0, by omega, rfl, rfl, Below.refl _ _⟩
  case round =>
    obtain ⟨k, hk, rfl, rfl, hb⟩ := hrel
    by_cases hlt : k < 16
    · have hh := h.below hb
      have hf := hh.firm hlt
      have hs := hh.soft hlt
      have hlt2 := hh.lt
      have hmono := usedTo_mono m (show k + 1 ≤ 16 by omega)
      have hst : m.usedTo (k + 1) = m.usedTo k + ((str (m.firm k)).size + (str (m.soft k)).size) := by rw [str_size, str_size]; rfl
      obtain ⟨a, ha⟩ : ∃ a, str (m.firm k) = a := ⟨_, rfl⟩
      obtain ⟨b, hbb⟩ : ∃ b, str (m.soft k) = b := ⟨_, rfl⟩
      obtain ⟨U, hU⟩ : ∃ U, m.usedTo k = U := ⟨_, rfl⟩
      have hle : U + (a.size + b.size) ≤ 1048576 := by rw [← hU, ← ha, ← hbb, ← hst]; unfold M.used at hu; omega
      rw [ha] at hf
      rw [hbb] at hs
      rw [ha, hbb, hU] at hst
      rw [hU]
      have HS := Lib.hid hst
      clear hst ha hbb hU hmono
      have w1 : IntKind.i64.wrap ((a.size : Int) + (b.size : Int)) = (a.size : Int) + (b.size : Int) := IntWalk.i64_in _ (by omega)
      have w2 : IntKind.i64.wrap ((U : Int) + ((a.size : Int) + (b.size : Int))) = (U : Int) + ((a.size : Int) + (b.size : Int)) := IntWalk.i64_in _ (by omega)
      go_wp2_with fail
      go_quiet (fail)
      all_goals clear w1 w2
      all_goals go_wp2
      all_goals
        go_roundw
        case rel => exact ⟨k + 1, by omega, by rw [HS.out]; go_num, by go_num, hb.trans (below_drewN _ _ _)⟩
        case measure => simp [intOf]; omega
    · obtain rfl : k = 16 := by omega
      go_wp2
      go_ret
      exact ⟨rfl, hb⟩
set_option maxRecDepth 100000 in
theorem rread_off (n : Int) (h : RefAt w q m) (hoff : m.off = true) : Calls Tryd.prog 31 #[.pointer (some ⟨q, 0, none⟩), .int .i64 n] w (Got w [] 10) := by
  have hc := h.off
  have hlt := h.lt
  rw [hoff] at hc
  clear hoff
  go_enter Tryd.func31, Tryd.ntmps31
  go_wp2
  go_ret2
  exact ⟨rfl, Below.refl _ _⟩
theorem rhas_lit (n : Int) (h : RefAt w q m) {b : Bool} (hb : Hid (m.has n = b)) : Calls Tryd.prog 56 #[.pointer (some ⟨q, 0, none⟩), .int .i64 n] w fun e w' => e = .returned (.bool b) ∧ w = w' := by
  have := rhas_any n h
  rwa [hb.out] at this
set_option maxRecDepth 100000 in
theorem rread_none (n : Int) (h : RefAt w q m) (hoff : m.off = false) (hn : m.has n = false) : Calls Tryd.prog 31 #[.pointer (some ⟨q, 0, none⟩), .int .i64 n] w (Got w [] 12) := by
  have hc := h.off
  have hlt := h.lt
  rw [hoff] at hc
  have HN := Lib.hid hn
  clear hoff hn
  go_enter Tryd.func31, Tryd.ntmps31
  go_wp2_with fail
  refine (rhas_lit n h HN).mono ?_
  rintro e w1 ⟨rfl, rfl⟩
  go_wp2
  go_ret2
  exact ⟨rfl, Below.refl _ _⟩
set_option maxRecDepth 100000 in
set_option maxHeartbeats 1000000 in
theorem rread_ok (i : Nat) (h : RefAt w q m) (g : Fine m) (hi : i < 16) (hoff : m.off = false) (hn : m.has (i : Int) = true) : Calls Tryd.prog 31 #[.pointer (some ⟨q, 0, none⟩), .int .i64 (i : Int)] w (Got w (m.all i) 0) := by
  have hc := h.off
  have hlt := h.lt
  have hf := h.firm hi
  have hs := h.soft hi
  rw [hoff] at hc
  have HN := Lib.hid hn
  have hab : str (m.firm i) ++ str (m.soft i) = str (m.all i) := str_append _ _
  have hal := all_le g i
  have hsz : (str (m.firm i)).size + (str (m.soft i)).size ≤ 1048576 := by rw [str_size, str_size, ← List.length_append]; exact hal
  obtain ⟨a, ha⟩ : ∃ a, str (m.firm i) = a := ⟨_, rfl⟩
  obtain ⟨b, hbb⟩ : ∃ b, str (m.soft i) = b := ⟨_, rfl⟩
  rw [ha, hbb] at hab hsz
  rw [ha] at hf
  rw [hbb] at hs
  have HAB := Lib.hid hab
  have hnb : ¬ 9223372036854775807 < a.size + b.size := by omega
  clear hoff hn ha hbb hab hal
  go_enter Tryd.func31, Tryd.ntmps31
  go_wp2_with fail
  refine (rhas_lit (i : Int) h HN).mono ?_
  rintro e w1 ⟨rfl, rfl⟩
  go_wp2_with fail
  go_quiet (fail)
  all_goals go_wp2
  all_goals go_ret2
  all_goals exact ⟨by rw [← HAB.out]; rfl, below_drewN _ _ _⟩
theorem rread_any (n : Int) (h : RefAt w q m) (g : Fine m) : Calls Tryd.prog 31 #[.pointer (some ⟨q, 0, none⟩), .int .i64 n] w (Got w (m.read n).1 (m.read n).2) := by
  unfold M.read
  by_cases hoff : m.off = true
  · rw [if_pos hoff]
    exact rread_off n h hoff
  · rw [if_neg hoff]
    have hoff' : m.off = false := by simpa using hoff
    by_cases hn : m.has n = false
    · rw [if_pos hn]
      exact rread_none n h hoff' hn
    · rw [if_neg hn]
      have hn' : m.has n = true := by simpa using hn
      have hin := (has_in hn').1
      have hni : ((n.toNat : Nat) : Int) = n := by omega
      have := rread_ok n.toNat h g (by omega) hoff' (by rw [hni]; exact hn')
      rwa [hni] at this
end
end Go.Proofs.YtmimpfccngihiaaDoor.RefB
