/- What the program's calls that only read a log's head answer, walked: First, Last, place, Term, has. -/
import Derived.Test.YtojmbbldehbjfaaGreatLogAt
import Derived.Test.YtojmbbldehbjfaaGreatGP
import Derived.Test.YtojmbbldehbjfaaGreatGQ
import Derived.Deep.RegionHeld3
import Derived.Test.YtojmbbldehbjfaaGreatApp
import Derived.BigRegion
namespace Go.Proofs.YtojmbbldehbjfaaGreat.RlgWalkA
open Go.RowKit Go.Proofs.YtojmbbldehbjfaaGreat.Kit Go.Proofs.YtojmbbldehbjfaaGreat.Rlog Go.Proofs.YtojmbbldehbjfaaGreat.Ents Go.Proofs.YtojmbbldehbjfaaGreat.LogAt
open Go.Proofs.YtojmbbldehbjfaaGreat.Num (num got front rest)
open Go.Proofs.YtojmbbldehbjfaaGreat.State (WV RV)
open Go.Proofs.YtojmbbldehbjfaaGreat.PckWalkC (gotB restB frontB)
open Go.Proofs.YtojmbbldehbjfaaGreat.PckWalkD (badB)
open Go.Proofs.YtojmbbldehbjfaaGreat.PckWalkH (str str_back)
open Go.Proofs.YtojmbbldehbjfaaGreat.Quorum (sound)

theorem sound_hid {c : Nat} {b : Bool} (hc : c < 18446744073709551616) (h : Hid (sound c = b)) (w : World) : Calls Tryz.prog 25 #[.int .u64 (c : Int)] w fun e w' => e = .returned (.bool b) ∧ w = w' := by
  have := QuoWalkA.sound_any c hc w
  rwa [h.out] at this
theorem rsound_hid {c : Nat} {b : Bool} (hc : c < 18446744073709551616) (h : Hid (sound c = b)) (w : World) : Calls Tryz.prog 30 #[.int .u64 (c : Int)] w fun e w' => e = .returned (.bool b) ∧ w = w' := by
  have := QuoWalkA.rsound_any c hc w
  rwa [h.out] at this
theorem setOf_lt (d : ByteArray) : setOf d < 18446744073709551616 := Num.got_lt _

set_option maxRecDepth 100000 in
/-- The set that data says. -/
theorem set_any (d : ByteArray) (w : World) (hd : d.size ≤ 9223372036854775807) : Calls Tryz.prog 100 #[.string d] w fun e w' => e = .returned (.int .u64 (setOf d : Int)) ∧ Below w.heap.size w w' := by
  go_enter Tryz.func100, Tryz.ntmps100
  go_wp2_with fail
  refine (PckWalkD.from_any d _).mono ?_
  rintro e w1 ⟨rfl, hR, hb⟩
  go_wp2_with fail
  refine (PckWalkD.num_any _ _ _ _ hR hd).mono ?_
  rintro e w2 ⟨rfl, _, ho⟩
  go_wp2
  go_ret
  exact ⟨rfl, hb.trans (ho.below hb.size fun k hk => by rw [hk]; exact Nat.le_refl _)⟩
set_option maxRecDepth 100000 in
/-- The bytes of a number. -/
theorem config_any (c : Nat) (w : World) (hc : c < 18446744073709551616) : Calls Tryz.prog 60 #[.int .u64 (c : Int)] w fun e w' => e = .returned (.string (str (num c))) ∧ Below w.heap.size w w' := by
  have hwv : WV (w.alloc (.cells #[.slice none 0 0] 131)) w.heap.size (.slice none 0 0) [] := ⟨heap_alloc_new w _, World.ownsRow_nil _ _ _ _⟩
  have hba : Below w.heap.size w (w.alloc (.cells #[.slice none 0 0] 131)) := (Below.refl _ _).alloc (Nat.le_refl _) _
  go_enter Tryz.func60, Tryz.ntmps60
  go_wp2_with fail
  refine (PckWalkA.num_any _ _ _ c _ hwv hc (by simp)).mono ?_
  rintro e w1 ⟨rfl, v1, hwv1, hst⟩
  have hb1 := hba.trans (hst.below hba.size (Nat.le_refl _) (by rintro k hk; cases hk))
  go_wp2_with fail
  refine (PckWalkB.bytes_any _ _ _ _ hwv1).mono ?_
  rintro e w2 ⟨rfl, rfl⟩
  go_wp2
  go_ret
  exact ⟨rfl, hb1⟩
set_option maxRecDepth 100000 in
theorem rconfig_any (c : Nat) (w : World) (hc : c < 18446744073709551616) : Calls Tryz.prog 79 #[.int .u64 (c : Int)] w fun e w' => e = .returned (.string (str (num c))) ∧ Below w.heap.size w w' := by
  go_enter Tryz.func79, Tryz.ntmps79
  go_wp2_with fail
  refine (PckWalkH.num_any c _ hc).mono ?_
  rintro e w1 ⟨rfl, hb⟩
  go_wp2
  go_ret
  exact ⟨rfl, hb⟩

set_option maxRecDepth 100000 in
/-- Whether data says a set, the document's way. -/
theorem said_bad (d : ByteArray) (w : World) (hd : d.size ≤ 9223372036854775807) (hs : says d = false) (hb : badB d false = true) : Calls Tryz.prog 65 #[.string d] w fun e w' => e = .returned (.tuple #[.int .u64 (setOf d : Int), .bool (says d)]) ∧ Below w.heap.size w w' := by
  have hr : RV 138 (w.alloc (.cells #[.string d, .bool false] 138)) w.heap.size d false := heap_alloc_new w _
  have hba : Below w.heap.size w (w.alloc (.cells #[.string d, .bool false] 138)) := (Below.refl _ _).alloc (Nat.le_refl _) _
  rw [hs]
  have HB := Lib.hid hb
  clear hs hb
  go_enter Tryz.func65, Tryz.ntmps65
  go_wp2_with fail
  refine (PckWalkF.num_any _ d false _ hr hd).mono ?_
  rintro e w1 ⟨rfl, hr1, ho⟩
  rw [HB.out] at hr1
  have hf := hr1.flag
  have hlt := hr1.lt
  go_wp2
  go_ret2
  exact ⟨rfl, hba.trans (ho.below hba.size fun k hk => by rw [hk]; exact Nat.le_refl _)⟩
set_option maxRecDepth 100000 in
theorem said_more (d : ByteArray) (w : World) (hd : d.size ≤ 9223372036854775807) (hs : says d = false) (hb : badB d false = false) (hm : restB d ≠ ByteArray.empty) : Calls Tryz.prog 65 #[.string d] w fun e w' => e = .returned (.tuple #[.int .u64 (setOf d : Int), .bool (says d)]) ∧ Below w.heap.size w w' := by
  have hr : RV 138 (w.alloc (.cells #[.string d, .bool false] 138)) w.heap.size d false := heap_alloc_new w _
  have hba : Below w.heap.size w (w.alloc (.cells #[.string d, .bool false] 138)) := (Below.refl _ _).alloc (Nat.le_refl _) _
  rw [hs]
  have HB := Lib.hid hb
  obtain ⟨r, hre⟩ : ∃ r, restB d = r := ⟨_, rfl⟩
  rw [hre] at hm
  have HR := Lib.hid hre
  have hne : ¬ r.toList = [] := fun e => hm (by rw [Lib.toList_data] at e; exact ByteArray.ext (Array.toList_inj.1 (e.trans rfl)))
  clear hs hb hre
  go_enter Tryz.func65, Tryz.ntmps65
  go_wp2_with fail
  refine (PckWalkF.num_any _ d false _ hr hd).mono ?_
  rintro e w1 ⟨rfl, hr1, ho⟩
  rw [HB.out, HR.out] at hr1
  have hf := hr1.flag
  have hl := hr1.left
  have hlt := hr1.lt
  go_wp2
  go_ret2
  exact ⟨rfl, hba.trans (ho.below hba.size fun k hk => by rw [hk]; exact Nat.le_refl _)⟩
set_option maxRecDepth 100000 in
theorem said_all (d : ByteArray) (w : World) (hd : d.size ≤ 9223372036854775807) (hb : badB d false = false) (hm : restB d = ByteArray.empty) (hs : says d = sound (setOf d)) : Calls Tryz.prog 65 #[.string d] w fun e w' => e = .returned (.tuple #[.int .u64 (setOf d : Int), .bool (says d)]) ∧ Below w.heap.size w w' := by
  have hr : RV 138 (w.alloc (.cells #[.string d, .bool false] 138)) w.heap.size d false := heap_alloc_new w _
  have hba : Below w.heap.size w (w.alloc (.cells #[.string d, .bool false] 138)) := (Below.refl _ _).alloc (Nat.le_refl _) _
  rw [hs]
  have hlt := setOf_lt d
  have HB := Lib.hid hb
  have HR := Lib.hid hm
  have he : (ByteArray.empty.toList == []) = true := by rw [Lib.toList_data]; decide
  have he2 : ByteArray.empty.toList = [] := by rw [Lib.toList_data]; decide
  obtain ⟨b, hsb⟩ : ∃ b, sound (setOf d) = b := ⟨_, rfl⟩
  rw [hsb]
  have HS := Lib.hid hsb
  clear hs hb hm hsb
  go_enter Tryz.func65, Tryz.ntmps65
  go_wp2_with fail
  refine (PckWalkF.num_any _ d false _ hr hd).mono ?_
  rintro e w1 ⟨rfl, hr1, ho⟩
  rw [HB.out, HR.out] at hr1
  have hf := hr1.flag
  have hl := hr1.left
  have hlt1 := hr1.lt
  go_wp2_with fail
  refine (rsound_hid hlt HS _).mono ?_
  rintro e w2 ⟨rfl, rfl⟩
  go_wp2
  go_ret2
  exact ⟨rfl, hba.trans (ho.below hba.size fun k hk => by rw [hk]; exact Nat.le_refl _)⟩
theorem said_any (d : ByteArray) (w : World) (hd : d.size ≤ 9223372036854775807) : Calls Tryz.prog 65 #[.string d] w fun e w' => e = .returned (.tuple #[.int .u64 (setOf d : Int), .bool (says d)]) ∧ Below w.heap.size w w' := by
  have hi := says_iff (d := d)
  by_cases hf : frontB d = 0
  · refine said_bad d w hd ?_ (by simp [badB, hf])
    rw [Bool.eq_false_iff]
    intro h
    exact (hi.1 h).1.1 hf
  · have hb : badB d false = false := by simp [badB, hf]
    have hre : restB d = ByteArray.empty ↔ rest d.data.toList = [] := by
      unfold restB Num.rest
      have hf' : front d.data.toList ≠ 0 := hf
      rw [if_neg hf, if_neg hf']
      have hl : (d.extract (frontB d) d.size).data.toList = d.data.toList.drop (front d.data.toList) := by
        have := Lib.extract_eq d (frontB d) d.size
        rw [this]
        simp only [Lib.size_eq]
        show ((d.data.toList.drop (front d.data.toList)).take _) = _
        rw [List.take_of_length_le (by rw [List.length_drop]; exact Nat.le_refl _)]
      rw [← hl]
      constructor
      · intro h; rw [h]; rfl
      · intro h; exact ByteArray.ext (Array.toList_inj.1 h)
    by_cases hm : restB d = ByteArray.empty
    · refine said_all d w hd hb hm ?_
      rw [Bool.eq_iff_iff, hi]
      exact ⟨fun h => h.2, fun h => ⟨⟨hf, hre.1 hm⟩, h⟩⟩
    · refine said_more d w hd ?_ hb hm
      rw [Bool.eq_false_iff]
      intro h
      exact hm (hre.2 (hi.1 h).1.2)
end Go.Proofs.YtojmbbldehbjfaaGreat.RlgWalkA
set_option linter.unusedVariables false
namespace Go.Proofs.YtojmbbldehbjfaaGreat.RlgWalkB
open Go.RowKit Go.Proofs.YtojmbbldehbjfaaGreat.Kit Go.Proofs.YtojmbbldehbjfaaGreat.Rlog Go.Proofs.YtojmbbldehbjfaaGreat.Ents Go.Proofs.YtojmbbldehbjfaaGreat.LogAt Go.Proofs.YtojmbbldehbjfaaGreat.RlgWalkA
open Go.Proofs.YtojmbbldehbjfaaGreat.Num (num got front rest)
open Go.Proofs.YtojmbbldehbjfaaGreat.PckWalkH (str str_back)
open Go.Proofs.YtojmbbldehbjfaaGreat.Quorum (sound)

theorem u64_sub {a b : Nat} (h : b ≤ a) (ha : a < 18446744073709551616) : IntKind.u64.wrap ((a : Int) - (b : Int)) = ((a - b : Nat) : Int) := by
  rw [show (a : Int) - (b : Int) = ((a - b : Nat) : Int) by omega]
  exact IntWalk.u64_in _ (by omega)
theorem u64_pred {a : Nat} (h : a ≠ 0) (ha : a < 18446744073709551616) : IntKind.u64.wrap ((a : Int) - 1) = ((a - 1 : Nat) : Int) := u64_sub (b := 1) (by omega) ha
theorem says_no {d : ByteArray} (h : sound (setOf d) = false) : says d = false := by simp [says, h]
theorem says_str {d : ByteArray} (h : sound (setOf d) = true) : says d = decide (d.data.toList = num (setOf d)) := by simp [says, h]
/-- What an entry by value is. -/
def entV (e : Ent) : Value := .agg #[.int .u64 (e.term : Int), .int .u64 (e.idx : Int), .int .i64 e.kind, .string e.data]
/-- What a test answers. -/
def TellsB (w : World) (b : Bool) (e : Ending) (w' : World) : Prop := e = .returned (.bool b) ∧ Below w.heap.size w w'

/-- Sound, in whatever order a region carries it out. -/
abbrev QuietS (c : Nat) (b : Bool) (w : World) (k : Nat) : Prop :=
  Calls Tryz.prog 25 #[.int .u64 (c : Int)] (w.drewN k) fun e w'' => e = .returned (.bool b) ∧ ∃ m, w'' = w.drewN m
theorem quietS {c : Nat} {b : Bool} (hc : c < 18446744073709551616) (h : Hid (sound c = b)) (w : World) (k : Nat) : QuietS c b w k :=
  Calls.quiet_of_same ((sound_hid hc h (w.drewN k)).mono fun e w' ⟨he, hw⟩ => ⟨he, hw.symm⟩)
theorem below_drewN {B : Nat} {w w' : World} (h : Below B w w') (k : Nat) : Below B w (w'.drewN k) := ⟨h.os, h.tape, h.output, h.size, h.block⟩

section
variable {e : Ent} (he : EntB e) {i t : Nat} (hi : i < 18446744073709551616) (w : World)
include he
set_option maxRecDepth 100000 in
theorem lie_zero (h : e.idx = 0) : Calls Tryz.prog 64 #[entV e, .int .u64 (i : Int), .int .u64 (t : Int)] w (TellsB w false) := by
  obtain ⟨tm, ix, kd, d⟩ := e
  obtain rfl : ix = 0 := h
  unfold entV
  go_enter Tryz.func64, Tryz.ntmps64
  go_wp2
  go_ret
  exact ⟨rfl, (Below.refl _ _).alloc (Nat.le_refl _) _⟩
set_option maxRecDepth 100000 in
theorem lie_far (h : e.idx ≠ 0) (h1 : e.idx ≠ i + 1) : Calls Tryz.prog 64 #[entV e, .int .u64 (i : Int), .int .u64 (t : Int)] w (TellsB w false) := by
  have hb := he.idx
  have hw := u64_pred h hb
  have hne : (((e.idx - 1 : Nat) : Int) != (i : Int)) = true := by simp; omega
  have h0 : ((e.idx : Int) == 0) = false := by simp; omega
  obtain ⟨tm, ix, kd, d⟩ := e
  simp only at *
  obtain ⟨N, hN⟩ : ∃ N, ix - 1 = N := ⟨_, rfl⟩
  rw [hN] at hw hne
  clear h h1 hN he
  unfold entV
  go_enter Tryz.func64, Tryz.ntmps64
  go_wp2
  go_ret
  exact ⟨rfl, (Below.refl _ _).alloc (Nat.le_refl _) _⟩
set_option maxRecDepth 100000 in
theorem lie_low (h1 : e.idx = i + 1) (h2 : e.term < t) : Calls Tryz.prog 64 #[entV e, .int .u64 (i : Int), .int .u64 (t : Int)] w (TellsB w false) := by
  have hb := he.idx
  have hw := u64_pred (show e.idx ≠ 0 by omega) hb
  rw [show e.idx - 1 = i by omega] at hw
  have h0 : ((e.idx : Int) == 0) = false := by simp; omega
  obtain ⟨tm, ix, kd, d⟩ := e
  simp only at *
  clear h1 he
  unfold entV
  go_enter Tryz.func64, Tryz.ntmps64
  go_wp2
  go_ret
  exact ⟨rfl, (Below.refl _ _).alloc (Nat.le_refl _) _⟩
set_option maxRecDepth 100000 in
theorem lie_long (h1 : e.idx = i + 1) (h2 : ¬ e.term < t) (h3 : 32768 < e.data.size) : Calls Tryz.prog 64 #[entV e, .int .u64 (i : Int), .int .u64 (t : Int)] w (TellsB w false) := by
  have hb := he.idx
  have hw := u64_pred (show e.idx ≠ 0 by omega) hb
  rw [show e.idx - 1 = i by omega] at hw
  have h0 : ((e.idx : Int) == 0) = false := by simp; omega
  have h3' : (32768 : Int) < (e.data.size : Int) := by omega
  obtain ⟨tm, ix, kd, d⟩ := e
  simp only at *
  clear h1 he
  unfold entV
  go_enter Tryz.func64, Tryz.ntmps64
  go_wp2
  go_ret
  exact ⟨rfl, (Below.refl _ _).alloc (Nat.le_refl _) _⟩
set_option maxRecDepth 100000 in
theorem lie_plain (h1 : e.idx = i + 1) (h2 : ¬ e.term < t) (h3 : e.data.size ≤ 32768) (h4 : e.kind = 0 ∨ e.kind = 1) : Calls Tryz.prog 64 #[entV e, .int .u64 (i : Int), .int .u64 (t : Int)] w (TellsB w true) := by
  have hb := he.idx
  have hw := u64_pred (show e.idx ≠ 0 by omega) hb
  rw [show e.idx - 1 = i by omega] at hw
  have h0 : ((e.idx : Int) == 0) = false := by simp; omega
  have h3' : ¬ (32768 : Int) < (e.data.size : Int) := by omega
  obtain ⟨tm, ix, kd, d⟩ := e
  simp only at *
  clear h1 he
  rcases h4 with rfl | rfl
  · unfold entV
    go_enter Tryz.func64, Tryz.ntmps64
    go_wp2
    go_ret
    exact ⟨rfl, (Below.refl _ _).alloc (Nat.le_refl _) _⟩
  · unfold entV
    go_enter Tryz.func64, Tryz.ntmps64
    go_wp2
    go_ret
    exact ⟨rfl, (Below.refl _ _).alloc (Nat.le_refl _) _⟩
set_option maxRecDepth 100000 in
theorem lie_none (h1 : e.idx = i + 1) (h2 : ¬ e.term < t) (h3 : e.data.size ≤ 32768) (h4 : ¬ e.kind = 0) (h5 : ¬ e.kind = 1) (h6 : ¬ e.kind = 2) : Calls Tryz.prog 64 #[entV e, .int .u64 (i : Int), .int .u64 (t : Int)] w (TellsB w false) := by
  have hb := he.idx
  have hw := u64_pred (show e.idx ≠ 0 by omega) hb
  rw [show e.idx - 1 = i by omega] at hw
  have h0 : ((e.idx : Int) == 0) = false := by simp; omega
  have h3' : ¬ (32768 : Int) < (e.data.size : Int) := by omega
  have k0 : (e.kind == 0) = false := by simpa using h4
  have k1 : (e.kind == 1) = false := by simpa using h5
  have k2 : (e.kind == 2) = false := by simpa using h6
  obtain ⟨tm, ix, kd, d⟩ := e
  simp only at *
  clear h1 he h4 h5 h6
  unfold entV
  go_enter Tryz.func64, Tryz.ntmps64
  go_wp2
  go_ret
  exact ⟨rfl, (Below.refl _ _).alloc (Nat.le_refl _) _⟩
set_option maxRecDepth 100000 in
theorem lie_mad (h1 : e.idx = i + 1) (h2 : ¬ e.term < t) (h3 : e.data.size ≤ 32768) (h4 : e.kind = 2) (h5 : sound (setOf e.data) = false) : Calls Tryz.prog 64 #[entV e, .int .u64 (i : Int), .int .u64 (t : Int)] w (TellsB w false) := by
  have hb := he.idx
  have hw := u64_pred (show e.idx ≠ 0 by omega) hb
  rw [show e.idx - 1 = i by omega] at hw
  have h0 : ((e.idx : Int) == 0) = false := by simp; omega
  have h3' : ¬ (32768 : Int) < (e.data.size : Int) := by omega
  have hsz : e.data.size ≤ 9223372036854775807 := by omega
  obtain ⟨tm, ix, kd, d⟩ := e
  simp only at *
  subst h4
  have hlt := setOf_lt d
  have HS := Lib.hid h5
  have hset := set_any d
  obtain ⟨c, hc⟩ : ∃ c, setOf d = c := ⟨_, rfl⟩
  rw [hc] at hlt HS hset
  have HSet := Lib.hid hset
  clear h1 he h5 hc hset
  have hba : Below w.heap.size w (w.alloc (.cells #[.int .u64 (tm : Int), .int .u64 (ix : Int), .int .i64 2, .string d] 81)) := (Below.refl _ _).alloc (Nat.le_refl _) _
  have hd3 : (w.alloc (.cells #[.int .u64 (tm : Int), .int .u64 (ix : Int), .int .i64 2, .string d] 81)).cell? ⟨w.heap.size, 3, none⟩ = some (.string d) := by rw [Blocks.cell_at (heap_alloc_new w _)]; rfl
  unfold entV
  go_enter Tryz.func64, Tryz.ntmps64
  go_wp2_with fail
  refine (HSet.out _ hsz).mono ?_
  rintro e w1 ⟨rfl, hb1⟩
  have hd3' := (hb1.cell (p := ⟨w.heap.size, 3, none⟩) (by simp)).trans hd3
  go_wp2_with fail
  have C0 : Hid (∀ k, QuietS c false w1 k) := fun k => quietS hlt HS w1 k
  go_quiet ((go_at_call 25; (with_reducible exact C0.out _)))
  all_goals go_wp2
  all_goals go_ret
  all_goals exact ⟨rfl, below_drewN (hba.trans (hb1.mono hba.size)) _⟩
set_option maxRecDepth 100000 in
theorem lie_set (h1 : e.idx = i + 1) (h2 : ¬ e.term < t) (h3 : e.data.size ≤ 32768) (h4 : e.kind = 2) (h5 : sound (setOf e.data) = true) : Calls Tryz.prog 64 #[entV e, .int .u64 (i : Int), .int .u64 (t : Int)] w (TellsB w (says e.data)) := by
  have hb := he.idx
  have hw := u64_pred (show e.idx ≠ 0 by omega) hb
  rw [show e.idx - 1 = i by omega] at hw
  have h0 : ((e.idx : Int) == 0) = false := by simp; omega
  have h3' : ¬ (32768 : Int) < (e.data.size : Int) := by omega
  have hsz : e.data.size ≤ 9223372036854775807 := by omega
  obtain ⟨tm, ix, kd, d⟩ := e
  simp only at *
  subst h4
  have hlt := setOf_lt d
  have hsay := says_str h5
  have HS := Lib.hid h5
  have hset := set_any d
  obtain ⟨c, hc⟩ : ∃ c, setOf d = c := ⟨_, rfl⟩
  rw [hc] at hlt HS hset hsay
  obtain ⟨b, hbb⟩ : ∃ b, says d = b := ⟨_, rfl⟩
  obtain ⟨s, hs⟩ : ∃ s, str (num c) = s := ⟨_, rfl⟩
  have hcmp : (d.toList == s.toList) = b := by
    rw [← hbb, hsay, ← hs, Lib.toList_data, Lib.toList_data, PckWalkH.str_list, Bool.eq_iff_iff]
    simp
  have hcf := config_any c
  rw [hs] at hcf
  rw [hbb]
  have HSet := Lib.hid hset
  have HCf := Lib.hid hcf
  clear h1 he h5 hc hset hcf hsay hs hbb
  have hba : Below w.heap.size w (w.alloc (.cells #[.int .u64 (tm : Int), .int .u64 (ix : Int), .int .i64 2, .string d] 81)) := (Below.refl _ _).alloc (Nat.le_refl _) _
  have hd3 : (w.alloc (.cells #[.int .u64 (tm : Int), .int .u64 (ix : Int), .int .i64 2, .string d] 81)).cell? ⟨w.heap.size, 3, none⟩ = some (.string d) := by rw [Blocks.cell_at (heap_alloc_new w _)]; rfl
  unfold entV
  go_enter Tryz.func64, Tryz.ntmps64
  go_wp2_with fail
  refine (HSet.out _ hsz).mono ?_
  rintro e w1 ⟨rfl, hb1⟩
  have hd3' := (hb1.cell (p := ⟨w.heap.size, 3, none⟩) (by simp)).trans hd3
  have hs1 := hb1.size
  simp at hs1
  go_wp2_with fail
  go_region_held3 (fun w' => w'.cell? ⟨w.heap.size, 3, none⟩ = some (.string d))
    (first
      | exact hd3'
      | exact (hbC.cell (p := ⟨w.heap.size, 3, none⟩) (by simp; omega)).trans hd3')
    (first
      | (go_at_call 25
         refine (sound_hid hlt HS _).mono ?_
         rintro e wA ⟨rfl, rfl⟩)
      | (go_at_call 60
         refine (HCf.out _ hlt).mono ?_
         rintro e wC ⟨rfl, hbC⟩))
  all_goals go_wp2
  all_goals go_ret
  all_goals exact ⟨rfl, ((hba.trans (hb1.mono hba.size)).drew).trans (hbC.mono (by simp; omega))⟩

/-- Whether an entry may lie behind an index of a term. -/
theorem lie_any : Calls Tryz.prog 64 #[entV e, .int .u64 (i : Int), .int .u64 (t : Int)] w (TellsB w (may e i t)) := by
  have ht : ∀ b : Bool, may e i t = b → Calls Tryz.prog 64 #[entV e, .int .u64 (i : Int), .int .u64 (t : Int)] w (TellsB w b) → Calls Tryz.prog 64 #[entV e, .int .u64 (i : Int), .int .u64 (t : Int)] w (TellsB w (may e i t)) := fun b hb h => by rw [hb]; exact h
  by_cases h1 : e.idx = i + 1
  · by_cases h2 : e.term < t
    · exact ht false (by unfold may; rw [decide_eq_false (by omega)]; rfl) (lie_low he w h1 h2)
    · by_cases h3 : e.data.size ≤ 32768
      · have hm : may e i t = sortOk e := by unfold may; rw [decide_eq_true ⟨h1, by omega, h3⟩]; rfl
        by_cases k0 : e.kind = 0
        · exact ht true (by rw [hm]; simp [sortOk, k0]) (lie_plain he w h1 h2 h3 (.inl k0))
        · by_cases k1 : e.kind = 1
          · exact ht true (by rw [hm]; simp [sortOk, k1]) (lie_plain he w h1 h2 h3 (.inr k1))
          · by_cases k2 : e.kind = 2
            · have hk : sortOk e = says e.data := by simp [sortOk, k2]
              cases hs : sound (setOf e.data) with
              | false => exact ht false (by rw [hm, hk, says_no hs]) (lie_mad he w h1 h2 h3 k2 hs)
              | true => exact ht (says e.data) (by rw [hm, hk]) (lie_set he w h1 h2 h3 k2 hs)
            · exact ht false (by rw [hm]; simp [sortOk, k0, k1, k2]) (lie_none he w h1 h2 h3 k0 k1 k2)
      · exact ht false (by unfold may; rw [decide_eq_false (by omega)]; rfl) (lie_long he w h1 h2 (by omega))
  · have hm : may e i t = false := by unfold may; rw [decide_eq_false (by omega)]; rfl
    by_cases h0 : e.idx = 0
    · exact ht false hm (lie_zero he w h0)
    · exact ht false hm (lie_far he w h0 h1)

/-! ### The document's -/
set_option maxRecDepth 100000 in
theorem may_mad {q : Nat} (h4 : e.kind = 2) (h5 : says e.data = false) : Calls Tryz.prog 31 #[entV e, .int .u64 (q : Int), .int .u64 (t : Int)] w (TellsB w false) := by
  have hsz := he.size
  obtain ⟨tm, ix, kd, d⟩ := e
  simp only at *
  subst h4
  have hba : Below w.heap.size w (w.alloc (.cells #[.int .u64 (tm : Int), .int .u64 (ix : Int), .int .i64 2, .string d] 81)) := (Below.refl _ _).alloc (Nat.le_refl _) _
  have hsaid := said_any d
  rw [h5] at hsaid
  have HSd := Lib.hid hsaid
  clear hsaid h5 he
  unfold entV
  go_enter Tryz.func31, Tryz.ntmps31
  go_wp2_with fail
  refine (HSd.out _ hsz).mono ?_
  rintro e w1 ⟨rfl, hb1⟩
  go_wp2
  go_ret
  exact ⟨rfl, hba.trans (hb1.mono hba.size)⟩
set_option maxRecDepth 100000 in
/-- Its last test, at any index. -/
theorem may_test {q : Nat} (hq : q < 18446744073709551616) (b : Bool) (hk : e.kind = 2 → says e.data = true) (hb : b = (decide (0 < q) && (decide (e.idx = q) && (decide (t ≤ e.term) && (decide (0 ≤ e.kind) && (decide (e.kind ≤ 2) && decide (e.data.size ≤ 32768))))))) :
    Calls Tryz.prog 31 #[entV e, .int .u64 (q : Int), .int .u64 (t : Int)] w (TellsB w b) := by
  have hsz := he.size
  obtain ⟨tm, ix, kd, d⟩ := e
  simp only at *
  have hba : Below w.heap.size w (w.alloc (.cells #[.int .u64 (tm : Int), .int .u64 (ix : Int), .int .i64 kd, .string d] 81)) := (Below.refl _ _).alloc (Nat.le_refl _) _
  have hcell := heap_alloc_new w (.cells #[.int .u64 (tm : Int), .int .u64 (ix : Int), .int .i64 kd, .string d] 81)
  have HB := Lib.hid hb
  clear hb he
  by_cases hix : ix = q
  · subst hix
    by_cases h2 : kd = 2
    · subst h2
      have hs := hk rfl
      have hsaid := said_any d
      rw [hs] at hsaid
      have HSd := Lib.hid hsaid
      have hpl : w.heap.size < (w.alloc (.cells #[.int .u64 (tm : Int), .int .u64 (ix : Int), .int .i64 2, .string d] 81)).heap.size := by simp
      have HC := Lib.hid hcell
      clear hsaid hs hk hcell
      unfold entV
      go_enter Tryz.func31, Tryz.ntmps31
      go_wp2_with fail
      refine (HSd.out _ hsz).mono ?_
      rintro e w1 ⟨rfl, hb1⟩
      have hcell1 := (hb1.block _ hpl).trans HC.out
      have c0 : w1.cell? ⟨w.heap.size, 0, none⟩ = some (.int .u64 (tm : Int)) := by rw [Blocks.cell_at hcell1]; rfl
      have c1 : w1.cell? ⟨w.heap.size, 1, none⟩ = some (.int .u64 (ix : Int)) := by rw [Blocks.cell_at hcell1]; rfl
      have c2 : w1.cell? ⟨w.heap.size, 2, none⟩ = some (.int .i64 2) := by rw [Blocks.cell_at hcell1]; rfl
      have c3 : w1.cell? ⟨w.heap.size, 3, none⟩ = some (.string d) := by rw [Blocks.cell_at hcell1]; rfl
      have HBA := Lib.hid (hba.trans (hb1.mono hba.size))
      clear hcell1 hb1
      go_wp2
      all_goals go_ret
      all_goals refine ⟨QuoWalkA.ret_b ?_, HBA.out⟩
      all_goals rw [HB.out]
      all_goals simp [*] <;> omega
    · have k2 : (kd == 2) = false := by simpa using h2
      have HBA := Lib.hid hba
      clear h2 hk hcell
      unfold entV
      go_enter Tryz.func31, Tryz.ntmps31
      go_wp2
      all_goals go_ret
      all_goals refine ⟨QuoWalkA.ret_b ?_, HBA.out⟩
      all_goals rw [HB.out]
      all_goals simp [*] <;> omega
  · obtain rfl : b = false := by rw [HB.out]; simp [hix]
    have hne : ((ix : Int) == (q : Int)) = false := by simp; omega
    by_cases h2 : kd = 2
    · subst h2
      have hs := hk rfl
      have hsaid := said_any d
      rw [hs] at hsaid
      have HSd := Lib.hid hsaid
      have hpl : w.heap.size < (w.alloc (.cells #[.int .u64 (tm : Int), .int .u64 (ix : Int), .int .i64 2, .string d] 81)).heap.size := by simp
      have HC := Lib.hid hcell
      clear hsaid hs hk hcell
      unfold entV
      go_enter Tryz.func31, Tryz.ntmps31
      go_wp2_with fail
      refine (HSd.out _ hsz).mono ?_
      rintro e w1 ⟨rfl, hb1⟩
      have hcell1 := (hb1.block _ hpl).trans HC.out
      have c1 : w1.cell? ⟨w.heap.size, 1, none⟩ = some (.int .u64 (ix : Int)) := by rw [Blocks.cell_at hcell1]; rfl
      have HBA := Lib.hid (hba.trans (hb1.mono hba.size))
      clear hcell1 hb1
      go_wp2
      all_goals go_ret
      all_goals exact ⟨rfl, HBA.out⟩
    · have k2 : (kd == 2) = false := by simpa using h2
      have HBA := Lib.hid hba
      clear h2 hk hcell
      unfold entV
      go_enter Tryz.func31, Tryz.ntmps31
      go_wp2
      all_goals go_ret
      all_goals exact ⟨rfl, HBA.out⟩
omit he in
theorem wrap_succ (hi : i < 18446744073709551616) : IntKind.u64.wrap ((i : Int) + 1) = (((i + 1) % 18446744073709551616 : Nat) : Int) := by
  simp [IntKind.wrap, IntKind.bits, IntKind.signed]
/-- Whether an entry may lie at an index, the one behind i (which wraps), behind a term. -/
theorem rmay_any {q : Nat} (hi : i < 18446744073709551616) (hq : q = (i + 1) % 18446744073709551616) : Calls Tryz.prog 31 #[entV e, .int .u64 (q : Int), .int .u64 (t : Int)] w (TellsB w (may e i t)) := by
  have hb := he.idx
  by_cases hk : e.kind = 2 → says e.data = true
  · refine may_test he w (by omega) _ hk ?_
    unfold may
    rw [Bool.eq_iff_iff]
    simp only [Bool.and_eq_true, decide_eq_true_eq, sortOk, Bool.or_eq_true]
    by_cases h2 : e.kind = 2
    · have := hk h2
      simp only [h2, this]
      constructor
      · rintro ⟨⟨h1, h3, h4⟩, _⟩; omega
      · rintro ⟨h1, h3, h4, _, _, h5⟩; refine ⟨by omega, ?_⟩; simp
    · constructor
      · rintro ⟨⟨h1, h3, h4⟩, h5⟩
        have : e.kind = 0 ∨ e.kind = 1 := by
          rcases h5 with h | h | h
          · exact .inl h
          · exact .inr h
          · exact absurd h.1 h2
        omega
      · rintro ⟨h1, h3, h4, h5, h6, h7⟩
        refine ⟨by omega, ?_⟩
        have : e.kind = 0 ∨ e.kind = 1 := by omega
        exact this.imp id .inl
  · have h2 : e.kind = 2 := by
      rcases Classical.em (e.kind = 2) with h | h
      · exact h
      · exact absurd (fun h' => absurd h' h) hk
    have hs : says e.data = false := by
      rw [Bool.eq_false_iff]
      exact fun h => hk fun _ => h
    have hm : may e i t = false := by simp [may, sortOk, h2, hs]
    rw [hm]
    exact may_mad he w h2 hs
end
end Go.Proofs.YtojmbbldehbjfaaGreat.RlgWalkB
set_option linter.unusedVariables false
namespace Go.Proofs.YtojmbbldehbjfaaGreat.RlgWalkC
open Go.RowKit Go.Proofs.YtojmbbldehbjfaaGreat.Kit Go.Proofs.YtojmbbldehbjfaaGreat.Blocks Go.Proofs.YtojmbbldehbjfaaGreat.Rlog Go.Proofs.YtojmbbldehbjfaaGreat.Ents Go.Proofs.YtojmbbldehbjfaaGreat.LogAt Go.Proofs.YtojmbbldehbjfaaGreat.RlgWalkA Go.Proofs.YtojmbbldehbjfaaGreat.RlgWalkB

theorem Four.below {w w' : World} {b o : Nat} {e : Ent} {B : Nat} (h : Four w b o e) (k : Below B w w') (hb : b < B) : Four w' b o e :=
  ⟨(k.cell (p := ⟨b, o, none⟩) hb).trans h.c0, (k.cell (p := ⟨b, o + 1, none⟩) hb).trans h.c1, (k.cell (p := ⟨b, o + 2, none⟩) hb).trans h.c2, (k.cell (p := ⟨b, o + 3, none⟩) hb).trans h.c3⟩
theorem chained_next {l : List Ent} {i t k : Nat} {e : Ent} (he : l[k]? = some e) (hf : chained (l.take k) i t = true) {I T : Nat} (hl : lasts (l.take k) i t = (I, T)) :
    chained (l.take (k + 1)) i t = may e I T ∧ lasts (l.take (k + 1)) i t = (e.idx, e.term) := by
  rw [take_snoc l k e he, follow_snoc, hf, hl, lasts_snoc]
  exact ⟨by simp, rfl⟩
theorem chained_not {l : List Ent} {i t k : Nat} (h : chained (l.take k) i t = false) : chained l i t = false := by
  rw [Bool.eq_false_iff] at h ⊢
  exact fun e => h (follow_take e k)

set_option maxRecDepth 100000 in
set_option maxHeartbeats 1000000 in
theorem chained_any (A : Option Addr) (n c : Nat) (l : List Ent) (i t : Nat) (w : World) (hr : RE w w.heap.size A n l) (hb : ∀ e ∈ l, EntB e) (h63 : n ≤ 9223372036854775807) :
    Calls Tryz.prog 29 #[.slice A n c, .int .u64 (i : Int), .int .u64 (t : Int)] w (TellsB w (chained l i t)) := by
  have hn := RE.len hr
  have HN := Lib.hid hn
  clear hn
  go_enter Tryz.func29, Tryz.ntmps29
  go_wp2
  go_loopw [1, 2, 11] (fun a b x wr => ∃ k I T : Nat, k ≤ n ∧ a = .int .u64 (I : Int) ∧ b = .int .u64 (T : Int) ∧ x = .int .i64 (k : Int) ∧ Hid (lasts (l.take k) i t = (I, T)) ∧ Hid (chained (l.take k) i t = true) ∧ Below w.heap.size w wr) (fun _ _ x _ => n - (intOf x).toNat)
  case atStart => exact ⟨0, i, t, by omega, rfl, rfl, rfl, Lib.hid rfl, Lib.hid rfl, Below.refl _ _⟩
  case round =>
    obtain ⟨k, I, T, hk, rfl, rfl, rfl, HL, HF, hbel⟩ := hrel
    by_cases hkn : k < n
    · obtain ⟨b, o, e, rfl, hbl, hek, hfour⟩ := RE.at_ hr hkn
      have hfr := Four.below hfour hbel hbl
      have c0 := hfr.c0
      have c1 := hfr.c1
      have c2 := hfr.c2
      have c3 := hfr.c3
      have hsz := hbel.size
      have he := hb e (List.mem_of_getElem? hek)
      obtain ⟨f1, f2⟩ := chained_next hek HF.out HL.out
      have hlie := fun w => lie_any (i := I) (t := T) he w
      obtain ⟨tm, ix, kd, d⟩ := e
      unfold entV at hlie
      simp only at c0 c1 c2 c3 hlie f2
      obtain ⟨r, hr1⟩ : ∃ r, may ⟨tm, ix, kd, d⟩ I T = r := ⟨_, rfl⟩
      rw [hr1] at hlie f1
      have HLie := Lib.hid hlie
      have H1 := Lib.hid f1
      have H2 := Lib.hid f2
      clear hlie f1 f2 hr1 hek hfr hfour
      have hcb : (wr.alloc (.cells #[.int .u64 (tm : Int), .int .u64 (ix : Int), .int .i64 kd, .string d] 81)).heap[wr.heap.size]? = some (.cells #[.int .u64 (tm : Int), .int .u64 (ix : Int), .int .i64 kd, .string d] 81 (0, 0)) := heap_alloc_new wr _
      have HCB := Lib.hid hcb
      clear hcb
      cases r with
      | false =>
        go_wp2_with fail
        refine (HLie.out _).mono ?_
        rintro e' w1 ⟨rfl, hb1⟩
        have hfl : chained l i t = false := chained_not H1.out
        have HFL := Lib.hid hfl
        clear hfl
        go_wp2
        go_ret
        exact ⟨by rw [HFL.out]; rfl, (hbel.alloc hsz _).trans (hb1.mono (by simp; omega))⟩
      | true =>
        go_wp2_with fail
        refine (HLie.out _).mono ?_
        rintro e' w1 ⟨rfl, hb1⟩
        have hc1 := (hb1.block wr.heap.size (by simp)).trans HCB.out
        have d0 : w1.cell? ⟨wr.heap.size, 0, none⟩ = some (.int .u64 (tm : Int)) := by rw [cell_at hc1]; rfl
        have d1 : w1.cell? ⟨wr.heap.size, 1, none⟩ = some (.int .u64 (ix : Int)) := by rw [cell_at hc1]; rfl
        have hB1 : Below w.heap.size w w1 := (hbel.alloc hsz _).trans (hb1.mono (by simp; omega))
        clear hb1 hc1 c0 c1 c2 c3
        go_wp2_with fail
        go_quiet (fail)
        all_goals go_wp2
        all_goals
          go_roundw
          case rel => exact ⟨k + 1, ix, tm, by omega, rfl, rfl, by go_num, H2, H1, below_drewN hB1 _⟩
          case measure => simp [intOf]; omega
    · obtain rfl : k = n := by omega
      have hfl : chained l i t = true := by
        have := HF.out
        rwa [List.take_of_length_le (by rw [HN.out]; exact Nat.le_refl _)] at this
      have HFL := Lib.hid hfl
      clear hfl
      go_wp2
      go_ret
      exact ⟨by rw [HFL.out]; rfl, hbel⟩
end Go.Proofs.YtojmbbldehbjfaaGreat.RlgWalkC
set_option linter.unusedVariables false
namespace Go.Proofs.YtojmbbldehbjfaaGreat.RlgWalkD
open Go.RowKit Go.Proofs.YtojmbbldehbjfaaGreat.Kit Go.Proofs.YtojmbbldehbjfaaGreat.Blocks Go.Proofs.YtojmbbldehbjfaaGreat.Rlog Go.Proofs.YtojmbbldehbjfaaGreat.Ents Go.Proofs.YtojmbbldehbjfaaGreat.LogAt Go.Proofs.YtojmbbldehbjfaaGreat.App Go.Proofs.YtojmbbldehbjfaaGreat.RlgWalkA Go.Proofs.YtojmbbldehbjfaaGreat.RlgWalkB Go.Proofs.YtojmbbldehbjfaaGreat.RlgWalkC
open Go.Proofs.YtojmbbldehbjfaaGreat.Quorum (sound)

/-- What a snapshot by value is. -/
def snapV (s : Snap) : Value := .agg #[.int .u64 (s.idx : Int), .int .u64 (s.term : Int), .int .u64 (s.cfg : Int), .string s.data]
/-- A refusal of New. -/
def NoLog (w : World) (e : Ending) (w' : World) : Prop := e = .returned (.tuple #[.pointer none, .int .i64 1]) ∧ Below w.heap.size w w'
/-- A new log. -/
def NewLog (T : TypeId) (w : World) (g : G) (e : Ending) (w' : World) : Prop :=
  ∃ p v, e = .returned (.tuple #[.pointer (some ⟨p, 0, none⟩), .int .i64 0]) ∧ LogAt T w.heap.size w' p v g ∧ Below w.heap.size w w'

/-- A block is laid for a new log, its entries' row lying already. -/
theorem new_log {T : TypeId} {w w2 w3 : World} {n c' : Nat} {A' : Option Addr} {l : List Ent} {ix tm cf : Nat} {d : ByteArray} (hB : Below w.heap.size w w2) (hb : Below w2.drew.heap.size w2.drew w3)
    (hown : w3.ownsRow w.heap.size 81 4 (.slice A' n c') n (ecells l)) (HN : Hid (l.length = n)) :
    LogAt T w.heap.size (w3.alloc (.cells #[.int .u64 (ix : Int), .int .u64 (tm : Int), .int .u64 (cf : Int), .string d, .slice A' n c'] T)) w3.heap.size (.slice A' n c') ⟨⟨ix, tm, cf, d⟩, l⟩ ∧
      Below w.heap.size w (w3.alloc (.cells #[.int .u64 (ix : Int), .int .u64 (tm : Int), .int .u64 (cf : Int), .string d, .slice A' n c'] T)) := by
  have hB3 : Below w.heap.size w w3 := hB.drew.trans (hb.mono hB.size)
  have hn := HN.out
  subst hn
  refine ⟨⟨hB3.size, heap_alloc_new w3 _, (Only.refl (fun _ => False) w3 |>.alloc _).own hown (by simp), fun e => ?_⟩, hB3.alloc hB3.size _⟩
  have := (hown.lt _ e).2
  omega

section
variable {s : Snap} (hs : SnapB s) (A : Option Addr) (n c : Nat) (l : List Ent) (w : World) (hr : RE w w.heap.size A n l) (hb : ∀ e ∈ l, EntB e)
include hs hr hb

omit hr hb in
set_option maxRecDepth 100000 in
theorem new_mad (h : sound s.cfg = false) : Calls Tryz.prog 10 #[snapV s, .slice A n c] w (NoLog w) := by
  have hcf := hs.cfg
  obtain ⟨ix, tm, cf, d⟩ := s
  simp only at *
  have HS := Lib.hid h
  clear h hs
  have hba : Below w.heap.size w (w.alloc (.cells #[.int .u64 (ix : Int), .int .u64 (tm : Int), .int .u64 (cf : Int), .string d] 26)) := (Below.refl _ _).alloc (Nat.le_refl _) _
  unfold snapV
  go_enter Tryz.func10, Tryz.ntmps10
  go_wp2_with fail
  refine (sound_hid hcf HS _).mono ?_
  rintro e w1 ⟨rfl, rfl⟩
  go_wp2
  go_ret2
  exact ⟨rfl, hba⟩
set_option maxRecDepth 100000 in
theorem new_loose (h63 : n ≤ 9223372036854775807) (h : sound s.cfg = true) (h2 : chained l s.idx s.term = false) : Calls Tryz.prog 10 #[snapV s, .slice A n c] w (NoLog w) := by
  have hcf := hs.cfg
  obtain ⟨ix, tm, cf, d⟩ := s
  simp only at *
  have HS := Lib.hid h
  clear h hs
  have hba : Below w.heap.size w (w.alloc (.cells #[.int .u64 (ix : Int), .int .u64 (tm : Int), .int .u64 (cf : Int), .string d] 26)) := (Below.refl _ _).alloc (Nat.le_refl _) _
  have hch := chained_any A n c l ix tm _ ((Kit.Reads.below hr hba).more hba.size) hb h63
  rw [h2] at hch
  have HCh := Lib.hid hch
  clear hch h2
  unfold snapV
  go_enter Tryz.func10, Tryz.ntmps10
  go_wp2_with fail
  refine (sound_hid hcf HS _).mono ?_
  rintro e w1 ⟨rfl, rfl⟩
  go_wp2_with fail
  refine HCh.out.mono ?_
  rintro e w2 ⟨rfl, hb2⟩
  go_wp2
  go_ret2
  exact ⟨rfl, hba.trans (hb2.mono hba.size)⟩
set_option maxRecDepth 100000 in
set_option maxHeartbeats 1000000 in

theorem new_made (h63 : n * 40 ≤ 140737488355328) (h : sound s.cfg = true) (h2 : chained l s.idx s.term = true) : Calls Tryz.prog 10 #[snapV s, .slice A n c] w (NewLog 89 w ⟨s, l⟩) := by
  have hn := RE.len hr
  have HN := Lib.hid hn
  have hcf := hs.cfg
  obtain ⟨ix, tm, cf, d⟩ := s
  simp only at *
  have HS := Lib.hid h
  clear h hs hn
  have hba : Below w.heap.size w (w.alloc (.cells #[.int .u64 (ix : Int), .int .u64 (tm : Int), .int .u64 (cf : Int), .string d] 26)) := (Below.refl _ _).alloc (Nat.le_refl _) _
  have hcb := heap_alloc_new w (.cells #[.int .u64 (ix : Int), .int .u64 (tm : Int), .int .u64 (cf : Int), .string d] 26)
  have hpl : w.heap.size < (w.alloc (.cells #[.int .u64 (ix : Int), .int .u64 (tm : Int), .int .u64 (cf : Int), .string d] 26)).heap.size := by simp
  have hra := (Kit.Reads.below hr hba).more hba.size
  have hch := chained_any A n c l ix tm _ hra hb (by omega)
  rw [h2] at hch
  have HCh := Lib.hid hch
  have HCB := Lib.hid hcb
  clear hch h2 hcb
  unfold snapV
  go_enter Tryz.func10, Tryz.ntmps10
  go_wp2_with fail
  refine (sound_hid hcf HS _).mono ?_
  rintro e w1 ⟨rfl, rfl⟩
  go_wp2_with fail
  refine HCh.out.mono ?_
  rintro e w2 ⟨rfl, hb2⟩
  have hB2 := hba.trans (hb2.mono hba.size)
  have hc2 := (hb2.block _ hpl).trans HCB.out
  have c0 : w2.cell? ⟨w.heap.size, 0, none⟩ = some (.int .u64 (ix : Int)) := by rw [cell_at hc2]; rfl
  have c1 : w2.cell? ⟨w.heap.size, 1, none⟩ = some (.int .u64 (tm : Int)) := by rw [cell_at hc2]; rfl
  have c2 : w2.cell? ⟨w.heap.size, 2, none⟩ = some (.int .u64 (cf : Int)) := by rw [cell_at hc2]; rfl
  have c3 : w2.cell? ⟨w.heap.size, 3, none⟩ = some (.string d) := by rw [cell_at hc2]; rfl
  have hlt2 := lt_at hc2
  have hr2 : RE w2 w.heap.size A n l := Kit.Reads.below hr hB2
  go_wp2_with fail
  go_region_law (first
    | (refine step_new _ rfl _ _ rfl w.heap.size rfl rfl (Reads.drew hr2) (ecells_one l) h63 hB2.size ?_
       intro A' c' w3 hown3 hb3 hat3
       have d0 : w3.cell? ⟨w.heap.size, 0, none⟩ = some (.int .u64 (ix : Int)) := (hb3.cell (p := ⟨w.heap.size, 0, none⟩) hlt2).trans c0
       have d1 : w3.cell? ⟨w.heap.size, 1, none⟩ = some (.int .u64 (tm : Int)) := (hb3.cell (p := ⟨w.heap.size, 1, none⟩) hlt2).trans c1
       have d2 : w3.cell? ⟨w.heap.size, 2, none⟩ = some (.int .u64 (cf : Int)) := (hb3.cell (p := ⟨w.heap.size, 2, none⟩) hlt2).trans c2
       have d3 : w3.cell? ⟨w.heap.size, 3, none⟩ = some (.string d) := (hb3.cell (p := ⟨w.heap.size, 3, none⟩) hlt2).trans c3))
  all_goals
    have HL := Lib.hid (new_log (T := 89) (ix := ix) (tm := tm) (cf := cf) (d := d) hB2 hb3 hown3 HN)
    clear hown3 hat3 hb3 hB2
    go_wp2
    go_ret2
    exact ⟨_, _, rfl, HL.out.1, HL.out.2⟩
end
end Go.Proofs.YtojmbbldehbjfaaGreat.RlgWalkD
set_option linter.unusedVariables false
namespace Go.Proofs.YtojmbbldehbjfaaGreat.RlgWalkE
open Go.RowKit Go.Proofs.YtojmbbldehbjfaaGreat.Kit Go.Proofs.YtojmbbldehbjfaaGreat.Blocks Go.Proofs.YtojmbbldehbjfaaGreat.Rlog Go.Proofs.YtojmbbldehbjfaaGreat.Ents Go.Proofs.YtojmbbldehbjfaaGreat.LogAt Go.Proofs.YtojmbbldehbjfaaGreat.RlgWalkA Go.Proofs.YtojmbbldehbjfaaGreat.RlgWalkB Go.Proofs.YtojmbbldehbjfaaGreat.RlgWalkC Go.Proofs.YtojmbbldehbjfaaGreat.RlgWalkD

abbrev LP (B : Nat) (w : World) (p : Nat) (v : Value) (g : G) : Prop := LogAt 89 B w p v g
section
variable {B p : Nat} {v : Value} {g : G} {w : World} (h : LP B w p v g) 
include h
set_option maxRecDepth 100000 in
theorem first_any : Calls Tryz.prog 17 #[.pointer (some ⟨p, 0, none⟩)] w fun e w' => e = .returned (snapV g.snap) ∧ Below w.heap.size w w' := by
  have c0 := h.c0
  have c1 := h.c1
  have c2 := h.c2
  have c3 := h.c3
  have hlt := h.lt
  obtain ⟨⟨ix, tm, cf, d⟩, es⟩ := g
  simp only at c0 c1 c2 c3
  unfold snapV
  go_enter Tryz.func17, Tryz.ntmps17
  go_wp2
  refine bodyPost_ret (results_cell_row (p := 2) (ty := 26) rfl _ _ w.heap.size 26 _ (0, 0) _ rfl (heap_alloc_new w _) Tryz.underlying26 rfl (by kernel_rfl)) rfl ?_
  exact ⟨rfl, (Below.refl _ _).alloc (Nat.le_refl _) _⟩
set_option maxRecDepth 100000 in
theorem place_low {i : Nat} (hi : i ≤ g.snap.idx) : Calls Tryz.prog 43 #[.pointer (some ⟨p, 0, none⟩), .int .u64 (i : Int)] w fun e w' => e = .returned (.tuple #[.int .i64 0, .bool false]) ∧ w = w' := by
  have c0 := h.c0
  go_enter Tryz.func43, Tryz.ntmps43
  go_wp2
  go_ret2
  exact ⟨rfl, rfl⟩
set_option maxRecDepth 100000 in
theorem place_high {i : Nat} (hi : g.snap.idx + g.es.length < i) (hb : i < 18446744073709551616) : Calls Tryz.prog 43 #[.pointer (some ⟨p, 0, none⟩), .int .u64 (i : Int)] w fun e w' => e = .returned (.tuple #[.int .i64 0, .bool false]) ∧ w = w' := by
  have c0 := h.c0
  have c4 := h.c4
  obtain ⟨A, c, rfl, hnc, hcm, _⟩ := h.form
  have h1 := u64_sub (a := i) (b := g.snap.idx) (by omega) hb
  have h2 := u64_pred (a := i - g.snap.idx) (by omega) (by omega)
  have hlow : ¬ i ≤ g.snap.idx := by omega
  have hge : g.es.length ≤ i - g.snap.idx - 1 := by omega
  obtain ⟨s, hs0⟩ : ∃ s, g.snap.idx = s := ⟨_, rfl⟩
  obtain ⟨n, hn⟩ : ∃ n, g.es.length = n := ⟨_, rfl⟩
  rw [hs0] at c0 h1 h2 hlow hge
  rw [hn] at c4 hge hnc
  obtain ⟨D, hD⟩ : ∃ D, i - s = D := ⟨_, rfl⟩
  rw [hD] at h1 h2 hge
  obtain ⟨K, hK⟩ : ∃ K, D - 1 = K := ⟨_, rfl⟩
  rw [hK] at h2 hge
  have h3 : IntKind.u64.wrap (n : Int) = (n : Int) := IntWalk.u64_in _ (by omega)
  clear hD hK hs0 hn
  go_enter Tryz.func43, Tryz.ntmps43
  go_wp2
  go_ret2
  exact ⟨rfl, rfl⟩
set_option maxRecDepth 100000 in
theorem place_at {i k : Nat} (hk : k < g.es.length) (hi : i = g.snap.idx + k + 1) (hb : i < 18446744073709551616) : Calls Tryz.prog 43 #[.pointer (some ⟨p, 0, none⟩), .int .u64 (i : Int)] w fun e w' => e = .returned (.tuple #[.int .i64 (k : Int), .bool true]) ∧ w = w' := by
  have c0 := h.c0
  have c4 := h.c4
  obtain ⟨A, c, rfl, hnc, hcm, _⟩ := h.form
  have h1 := u64_sub (a := i) (b := g.snap.idx) (by omega) hb
  have h2 := u64_pred (a := i - g.snap.idx) (by omega) (by omega)
  have hlow : ¬ i ≤ g.snap.idx := by omega
  have hge : ¬ g.es.length ≤ k := by omega
  rw [show i - g.snap.idx = k + 1 by omega] at h1 h2
  rw [show k + 1 - 1 = k by omega] at h2
  obtain ⟨s, hs0⟩ : ∃ s, g.snap.idx = s := ⟨_, rfl⟩
  obtain ⟨n, hn⟩ : ∃ n, g.es.length = n := ⟨_, rfl⟩
  rw [hs0] at c0 h1 hlow
  rw [hn] at c4 hge hnc
  obtain ⟨D, hD⟩ : ∃ D, k + 1 = D := ⟨_, rfl⟩
  rw [hD] at h1 h2
  have h3 : IntKind.u64.wrap (n : Int) = (n : Int) := IntWalk.u64_in _ (by omega)
  have h4 : wrap64 (k : Int) = (k : Int) := by unfold wrap64; omega
  clear hD hs0 hn hi hk
  go_enter Tryz.func43, Tryz.ntmps43
  go_wp2
  go_ret2
  exact ⟨rfl, rfl⟩
/-- Where an index lies. -/
theorem place_some {i k : Nat} (hb : i < 18446744073709551616) (hp : place g i = some k) : Calls Tryz.prog 43 #[.pointer (some ⟨p, 0, none⟩), .int .u64 (i : Int)] w fun e w' => e = .returned (.tuple #[.int .i64 (k : Int), .bool true]) ∧ w = w' := by
  obtain ⟨h1, h2⟩ := place_lt hp
  exact place_at h h1 h2 hb
theorem place_not {i : Nat} (hb : i < 18446744073709551616) (hp : place g i = none) : Calls Tryz.prog 43 #[.pointer (some ⟨p, 0, none⟩), .int .u64 (i : Int)] w fun e w' => e = .returned (.tuple #[.int .i64 0, .bool false]) ∧ w = w' := by
  rcases place_none hp with h1 | h1
  · exact place_low h h1
  · exact place_high h h1 hb
set_option maxRecDepth 100000 in
/-- Index and term of the last one. -/
theorem last_any (f : Fine g) : Calls Tryz.prog 33 #[.pointer (some ⟨p, 0, none⟩)] w fun e w' => e = .returned (.tuple #[.int .u64 ((last g).1 : Int), .int .u64 ((last g).2 : Int)]) ∧ Below w.heap.size w w' := by
  have c0 := h.c0
  have c1 := h.c1
  have c4 := h.c4
  obtain ⟨A, c, rfl, hnc, hcm, hr⟩ := h.form
  by_cases h0 : g.es.length = 0
  · have hl : last g = (g.snap.idx, g.snap.term) := by unfold last; rw [List.eq_nil_of_length_eq_zero h0]; rfl
    rw [hl]
    rw [h0] at c4
    have hd0 : w.drew.cell? ⟨p, 0, none⟩ = _ := c0
    clear hl hr hnc h0
    go_enter Tryz.func33, Tryz.ntmps33
    go_wp2_with fail
    go_quiet (fail)
    all_goals go_wp2
    all_goals go_ret2
    all_goals exact ⟨rfl, below_drewN (Below.refl _ _) _⟩
  · obtain ⟨n, hn⟩ : ∃ n, g.es.length = n + 1 := ⟨g.es.length - 1, by omega⟩
    rw [hn] at hr
    obtain ⟨b, o, e, rfl, hbl, he, hfour⟩ := RE.at_ hr (k := n) (by omega)
    have hl : last g = (e.idx, e.term) := by
      unfold last
      rw [show g.es = g.es.take (n + 1) by rw [List.take_of_length_le (by omega)], lasts_take _ _ _ _ _ he]
    rw [hl]
    have d0 := hfour.c0
    have d1 := hfour.c1
    obtain ⟨tm, ix, kd, d⟩ := e
    simp only at d0 d1 ⊢
    rw [hn] at c4 hnc
    have hw : IntKind.i64.wrap (((n + 1 : Nat) : Int) - 1) = (n : Int) := by rw [show ((n + 1 : Nat) : Int) - 1 = (n : Int) by omega]; exact IntWalk.i64_in _ (by omega)
    have hw' : IntKind.i64.wrap ((n : Int) + 1 - 1) = (n : Int) := by rw [show (n : Int) + 1 - 1 = (n : Int) by omega]; exact IntWalk.i64_in _ (by omega)
    clear hl hr hfour he hn h0
    go_enter Tryz.func33, Tryz.ntmps33
    go_wp2_with fail
    go_quiet (fail)
    all_goals go_wp2
    all_goals go_ret2
    all_goals exact ⟨rfl, below_drewN (Below.refl _ _) _⟩
set_option maxRecDepth 100000 in
/-- The term of an index. -/
theorem term_yes (f : Fine g) {i t : Nat} (hb : i < 18446744073709551616) (ht : term g i = some t) : Calls Tryz.prog 28 #[.pointer (some ⟨p, 0, none⟩), .int .u64 (i : Int)] w fun e w' => e = .returned (.tuple #[.int .u64 (t : Int), .int .i64 0]) ∧ w = w' := by
  have c0 := h.c0
  have c1 := h.c1
  have c4 := h.c4
  by_cases hi : i = g.snap.idx
  · subst hi
    obtain rfl : g.snap.term = t := by simpa [term] using ht
    clear ht
    go_enter Tryz.func28, Tryz.ntmps28
    go_wp2
    go_ret2
    exact ⟨rfl, rfl⟩
  · rcases term_some ht with ⟨h1, _⟩ | ⟨k, e, hp, he, rfl⟩
    · exact absurd h1 hi
    · obtain ⟨A, c, rfl, hnc, hcm, hr⟩ := h.form
      have hk := (place_lt hp).1
      obtain ⟨b, o, e', rfl, hbl, he', hfour⟩ := RE.at_ hr hk
      obtain rfl : e = e' := by rw [he] at he'; exact Option.some.inj he'
      have d0 := hfour.c0
      have hne : ((i : Int) == (g.snap.idx : Int)) = false := by simp; omega
      have hpl := place_some h hb hp
      have HP := Lib.hid hpl
      clear hpl hp he he' hfour hr ht hi
      obtain ⟨tm, htm⟩ : ∃ tm, e.term = tm := ⟨_, rfl⟩
      rw [htm] at d0 ⊢
      clear htm
      go_enter Tryz.func28, Tryz.ntmps28
      go_wp2_with fail
      refine HP.out.mono ?_
      rintro e w1 ⟨rfl, rfl⟩
      go_wp2
      go_ret2
      exact ⟨rfl, rfl⟩
set_option maxRecDepth 100000 in
theorem term_no {i : Nat} (hb : i < 18446744073709551616) (ht : term g i = none) : Calls Tryz.prog 28 #[.pointer (some ⟨p, 0, none⟩), .int .u64 (i : Int)] w fun e w' => e = .returned (.tuple #[.int .u64 0, .int .i64 20]) ∧ w = w' := by
  have c0 := h.c0
  have hi : i ≠ g.snap.idx := by
    intro e
    rw [e, term_snap] at ht
    cases ht
  have hp : place g i = none := by
    cases hp : place g i with
    | none => rfl
    | some k =>
      obtain ⟨hk, _⟩ := place_lt hp
      unfold term at ht
      rw [if_neg hi, hp] at ht
      simp [List.getElem?_eq_getElem hk] at ht
  have hne : ((i : Int) == (g.snap.idx : Int)) = false := by simp; omega
  have HP := Lib.hid (place_not h hb hp)
  clear hp ht hi
  go_enter Tryz.func28, Tryz.ntmps28
  go_wp2_with fail
  refine HP.out.mono ?_
  rintro e w1 ⟨rfl, rfl⟩
  go_wp2
  go_ret2
  exact ⟨rfl, rfl⟩
set_option maxRecDepth 100000 in
/-- Whether an index has a term. -/
theorem has_any (f : Fine g) {i t : Nat} (hb : i < 18446744073709551616) : Calls Tryz.prog 129 #[.pointer (some ⟨p, 0, none⟩), .int .u64 (i : Int), .int .u64 (t : Int)] w fun e w' => e = .returned (.bool (has g i t)) ∧ w = w' := by
  cases ht : term g i with
  | none =>
    have hh : has g i t = false := by simp [has, ht]
    rw [hh]
    have HT := Lib.hid (term_no h hb ht)
    clear ht hh
    go_enter Tryz.func129, Tryz.ntmps129
    go_wp2_with fail
    refine HT.out.mono ?_
    rintro e w1 ⟨rfl, rfl⟩
    go_wp2
    go_ret
    exact ⟨rfl, rfl⟩
  | some s =>
    obtain ⟨b, hh⟩ : ∃ b, has g i t = b := ⟨_, rfl⟩
    have hc : ((s : Int) == (t : Int)) = b := by
      rw [← hh, Bool.eq_iff_iff]
      simp only [has, ht, beq_iff_eq, decide_eq_true_eq, Option.some.injEq]
      omega
    rw [hh]
    have HT := Lib.hid (term_yes h f hb ht)
    clear ht hh
    go_enter Tryz.func129, Tryz.ntmps129
    go_wp2_with fail
    refine HT.out.mono ?_
    rintro e w1 ⟨rfl, rfl⟩
    go_wp2
    go_ret
    exact ⟨rfl, rfl⟩
end
end Go.Proofs.YtojmbbldehbjfaaGreat.RlgWalkE
