/- What the program's and the document's tests of one entry answer, walked. -/
import Derived.Test.YtokifeghoodkgaaGreatLogAt
import Derived.Test.YtokifeghoodkgaaGreatPckWalkH
import Derived.Test.YtokifeghoodkgaaGreatQuoWalkA
import Derived.Deep.RegionHeld3
namespace Go.Proofs.YtokifeghoodkgaaGreat.RlgWalkA
open Go.RowKit Go.Proofs.YtokifeghoodkgaaGreat.Kit Go.Proofs.YtokifeghoodkgaaGreat.Rlog Go.Proofs.YtokifeghoodkgaaGreat.Ents Go.Proofs.YtokifeghoodkgaaGreat.LogAt
open Go.Proofs.YtokifeghoodkgaaGreat.Num (num got front rest)
open Go.Proofs.YtokifeghoodkgaaGreat.State (WV RV)
open Go.Proofs.YtokifeghoodkgaaGreat.PckWalkC (gotB restB frontB)
open Go.Proofs.YtokifeghoodkgaaGreat.PckWalkD (badB)
open Go.Proofs.YtokifeghoodkgaaGreat.PckWalkH (str str_back)
open Go.Proofs.YtokifeghoodkgaaGreat.Quorum (sound)

theorem sound_hid {c : Nat} {b : Bool} (hc : c < 18446744073709551616) (h : Hid (sound c = b)) (w : World) : Calls Tryz.prog 25 #[.int .u64 (c : Int)] w fun e w' => e = .returned (.bool b) ∧ w = w' := by
  have := QuoWalkA.sound_any c hc w
  rwa [h.out] at this
theorem rsound_hid {c : Nat} {b : Bool} (hc : c < 18446744073709551616) (h : Hid (sound c = b)) (w : World) : Calls Tryz.prog 30 #[.int .u64 (c : Int)] w fun e w' => e = .returned (.bool b) ∧ w = w' := by
  have := QuoWalkA.rsound_any c hc w
  rwa [h.out] at this
theorem setOf_lt (d : ByteArray) : setOf d < 18446744073709551616 := Num.got_lt _

set_option maxRecDepth 100000 in
/-- The set that data says. -/
theorem set_any (d : ByteArray) (w : World) (hd : d.size ≤ 9223372036854775807) : Calls Tryz.prog 100 #[.string d] w fun e w' => e = .returned (.int .u64 (setOf d : Int)) ∧ Below w.heap.size w w' := by
  go_enter Tryz.func100, Tryz.ntmps100
  go_wp2_with fail
  refine (PckWalkD.from_any d _).mono ?_
  rintro e w1 ⟨rfl, hR, hb⟩
  go_wp2_with fail
  refine (PckWalkD.num_any _ _ _ _ hR hd).mono ?_
  rintro e w2 ⟨rfl, _, ho⟩
  go_wp2
  go_ret
  exact ⟨rfl, hb.trans (ho.below hb.size fun k hk => by rw [hk]; exact Nat.le_refl _)⟩
set_option maxRecDepth 100000 in
/-- The bytes of a number. -/
theorem config_any (c : Nat) (w : World) (hc : c < 18446744073709551616) : Calls Tryz.prog 60 #[.int .u64 (c : Int)] w fun e w' => e = .returned (.string (str (num c))) ∧ Below w.heap.size w w' := by
  have hwv : WV (w.alloc (.cells #[.slice none 0 0] 131)) w.heap.size (.slice none 0 0) [] := ⟨heap_alloc_new w _, World.ownsRow_nil _ _ _ _⟩
  have hba : Below w.heap.size w (w.alloc (.cells #[.slice none 0 0] 131)) := (Below.refl _ _).alloc (Nat.le_refl _) _
  go_enter Tryz.func60, Tryz.ntmps60
  go_wp2_with fail
  refine (PckWalkA.num_any _ _ _ c _ hwv hc (by simp)).mono ?_
  rintro e w1 ⟨rfl, v1, hwv1, hst⟩
  have hb1 := hba.trans (hst.below hba.size (Nat.le_refl _) (by rintro k hk; cases hk))
  go_wp2_with fail
  refine (PckWalkB.bytes_any _ _ _ _ hwv1).mono ?_
  rintro e w2 ⟨rfl, rfl⟩
  go_wp2
  go_ret
  exact ⟨rfl, hb1⟩
set_option maxRecDepth 100000 in
theorem rconfig_any (c : Nat) (w : World) (hc : c < 18446744073709551616) : Calls Tryz.prog 79 #[.int .u64 (c : Int)] w fun e w' => e = .returned (.string (str (num c))) ∧ Below w.heap.size w w' := by
  go_enter Tryz.func79, Tryz.ntmps79
  go_wp2_with fail
  refine (PckWalkH.num_any c _ hc).mono ?_
  rintro e w1 ⟨rfl, hb⟩
  go_wp2
  go_ret
  exact ⟨rfl, hb⟩

set_option maxRecDepth 100000 in
/-- Whether data says a set, the document's way. -/
theorem said_bad (d : ByteArray) (w : World) (hd : d.size ≤ 9223372036854775807) (hs : says d = false) (hb : badB d false = true) : Calls Tryz.prog 65 #[.string d] w fun e w' => e = .returned (.tuple #[.int .u64 (setOf d : Int), .bool (says d)]) ∧ Below w.heap.size w w' := by
  have hr : RV 138 (w.alloc (.cells #[.string d, .bool false] 138)) w.heap.size d false := heap_alloc_new w _
  have hba : Below w.heap.size w (w.alloc (.cells #[.string d, .bool false] 138)) := (Below.refl _ _).alloc (Nat.le_refl _) _
  rw [hs]
  have HB := Lib.hid hb
  clear hs hb
  go_enter Tryz.func65, Tryz.ntmps65
  go_wp2_with fail
  refine (PckWalkF.num_any _ d false _ hr hd).mono ?_
  rintro e w1 ⟨rfl, hr1, ho⟩
  rw [HB.out] at hr1
  have hf := hr1.flag
  have hlt := hr1.lt
  go_wp2
  go_ret2
  exact ⟨rfl, hba.trans (ho.below hba.size fun k hk => by rw [hk]; exact Nat.le_refl _)⟩
set_option maxRecDepth 100000 in
theorem said_more (d : ByteArray) (w : World) (hd : d.size ≤ 9223372036854775807) (hs : says d = false) (hb : badB d false = false) (hm : restB d ≠ ByteArray.empty) : Calls Tryz.prog 65 #[.string d] w fun e w' => e = .returned (.tuple #[.int .u64 (setOf d : Int), .bool (says d)]) ∧ Below w.heap.size w w' := by
  have hr : RV 138 (w.alloc (.cells #[.string d, .bool false] 138)) w.heap.size d false := heap_alloc_new w _
  have hba : Below w.heap.size w (w.alloc (.cells #[.string d, .bool false] 138)) := (Below.refl _ _).alloc (Nat.le_refl _) _
  rw [hs]
  have HB := Lib.hid hb
  obtain ⟨r, hre⟩ : ∃ r, restB d = r := ⟨_, rfl⟩
  rw [hre] at hm
  have HR := Lib.hid hre
  have hne : ¬ r.toList = [] := fun e => hm (by rw [Lib.toList_data] at e; exact ByteArray.ext (Array.toList_inj.1 (e.trans rfl)))
  clear hs hb hre
  go_enter Tryz.func65, Tryz.ntmps65
  go_wp2_with fail
  refine (PckWalkF.num_any _ d false _ hr hd).mono ?_
  rintro e w1 ⟨rfl, hr1, ho⟩
  rw [HB.out, HR.out] at hr1
  have hf := hr1.flag
  have hl := hr1.left
  have hlt := hr1.lt
  go_wp2
  go_ret2
  exact ⟨rfl, hba.trans (ho.below hba.size fun k hk => by rw [hk]; exact Nat.le_refl _)⟩
set_option maxRecDepth 100000 in
theorem said_all (d : ByteArray) (w : World) (hd : d.size ≤ 9223372036854775807) (hb : badB d false = false) (hm : restB d = ByteArray.empty) (hs : says d = sound (setOf d)) : Calls Tryz.prog 65 #[.string d] w fun e w' => e = .returned (.tuple #[.int .u64 (setOf d : Int), .bool (says d)]) ∧ Below w.heap.size w w' := by
  have hr : RV 138 (w.alloc (.cells #[.string d, .bool false] 138)) w.heap.size d false := heap_alloc_new w _
  have hba : Below w.heap.size w (w.alloc (.cells #[.string d, .bool false] 138)) := (Below.refl _ _).alloc (Nat.le_refl _) _
  rw [hs]
  have hlt := setOf_lt d
  have HB := Lib.hid hb
  have HR := Lib.hid hm
  have he : (ByteArray.empty.toList == []) = true := by rw [Lib.toList_data]; decide
  have he2 : ByteArray.empty.toList = [] := by rw [Lib.toList_data]; decide
  obtain ⟨b, hsb⟩ : ∃ b, sound (setOf d) = b := ⟨_, rfl⟩
  rw [hsb]
  have HS := Lib.hid hsb
  clear hs hb hm hsb
  go_enter Tryz.func65, Tryz.ntmps65
  go_wp2_with fail
  refine (PckWalkF.num_any _ d false _ hr hd).mono ?_
  rintro e w1 ⟨rfl, hr1, ho⟩
  rw [HB.out, HR.out] at hr1
  have hf := hr1.flag
  have hl := hr1.left
  have hlt1 := hr1.lt
  go_wp2_with fail
  refine (rsound_hid hlt HS _).mono ?_
  rintro e w2 ⟨rfl, rfl⟩
  go_wp2
  go_ret2
  exact ⟨rfl, hba.trans (ho.below hba.size fun k hk => by rw [hk]; exact Nat.le_refl _)⟩
theorem said_any (d : ByteArray) (w : World) (hd : d.size ≤ 9223372036854775807) : Calls Tryz.prog 65 #[.string d] w fun e w' => e = .returned (.tuple #[.int .u64 (setOf d : Int), .bool (says d)]) ∧ Below w.heap.size w w' := by
  have hi := says_iff (d := d)
  by_cases hf : frontB d = 0
  · refine said_bad d w hd ?_ (by simp [badB, hf])
    rw [Bool.eq_false_iff]
    intro h
    exact (hi.1 h).1.1 hf
  · have hb : badB d false = false := by simp [badB, hf]
    have hre : restB d = ByteArray.empty ↔ rest d.data.toList = [] := by
      unfold restB Num.rest
      have hf' : front d.data.toList ≠ 0 := hf
      rw [if_neg hf, if_neg hf']
      have hl : (d.extract (frontB d) d.size).data.toList = d.data.toList.drop (front d.data.toList) := by
        have := Lib.extract_eq d (frontB d) d.size
        rw [this]
        simp only [Lib.size_eq]
        show ((d.data.toList.drop (front d.data.toList)).take _) = _
        rw [List.take_of_length_le (by rw [List.length_drop]; exact Nat.le_refl _)]
      rw [← hl]
      constructor
      · intro h; rw [h]; rfl
      · intro h; exact ByteArray.ext (Array.toList_inj.1 h)
    by_cases hm : restB d = ByteArray.empty
    · refine said_all d w hd hb hm ?_
      rw [Bool.eq_iff_iff, hi]
      exact ⟨fun h => h.2, fun h => ⟨⟨hf, hre.1 hm⟩, h⟩⟩
    · refine said_more d w hd ?_ hb hm
      rw [Bool.eq_false_iff]
      intro h
      exact hm (hre.2 (hi.1 h).1.2)
end Go.Proofs.YtokifeghoodkgaaGreat.RlgWalkA
