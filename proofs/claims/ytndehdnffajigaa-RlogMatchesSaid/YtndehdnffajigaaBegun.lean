/- What each statement of layer 7 asks first, walked: entries that are put in another's place. -/
import Derived.Test.YtndehdnffajigaaWalkK
set_option linter.unusedVariables false
namespace Go.Proofs.Ytndehdnffajigaa.Begun
open Go.RowKit Go.Proofs.Ytndehdnffajigaa.Kit Go.Proofs.Ytndehdnffajigaa.Blocks Go.Proofs.Ytndehdnffajigaa.Rlog Go.Proofs.Ytndehdnffajigaa.Ents Go.Proofs.Ytndehdnffajigaa.LogAt Go.Proofs.Ytndehdnffajigaa.App Go.Proofs.Ytndehdnffajigaa.WalkA Go.Proofs.Ytndehdnffajigaa.WalkB Go.Proofs.Ytndehdnffajigaa.WalkC Go.Proofs.Ytndehdnffajigaa.WalkD Go.Proofs.Ytndehdnffajigaa.WalkE Go.Proofs.Ytndehdnffajigaa.WalkF Go.Proofs.Ytndehdnffajigaa.WalkG Go.Proofs.Ytndehdnffajigaa.WalkH Go.Proofs.Ytndehdnffajigaa.WalkI
open Go.Proofs.Ytndehdnffajigaa.Quorum (sound)

abbrev ent0 (t i : Nat) : Ent := ⟨t, i, 0, ByteArray.empty⟩
def lit3 : List Ent := [ent0 1 1, ent0 1 2, ent0 2 3]
def lit1 : List Ent := [ent0 3 3]
def snap7 : Snap := ⟨0, 0, 7, ByteArray.empty⟩
def after : G := ⟨snap7, [ent0 1 1, ent0 1 2, ent0 3 3]⟩
theorem ent0_b {t i : Nat} (ht : t < 18446744073709551616) (hi : i < 18446744073709551616) : EntB (ent0 t i) := ⟨ht, hi, (by decide : (-9223372036854775808 : Int) ≤ 0), (by decide : (0 : Int) ≤ 9223372036854775807), (by decide : ByteArray.empty.size ≤ 9223372036854775807)⟩
theorem lit3_b : ∀ e ∈ lit3, EntB e := by
  intro e he
  simp only [lit3, List.mem_cons, List.not_mem_nil, or_false] at he
  rcases he with rfl | rfl | rfl <;> exact ent0_b (by decide) (by decide)
theorem lit1_b : ∀ e ∈ lit1, EntB e := by
  intro e he
  simp only [lit1, List.mem_cons, List.not_mem_nil, or_false] at he
  subst he
  exact ent0_b (by decide) (by decide)
theorem snap7_b : SnapB snap7 := ⟨by decide, by decide, by decide⟩
theorem sound7 : sound 7 = true := by decide +kernel
theorem chained3 : chained lit3 0 0 = true := by decide +kernel
theorem merged1 : merge ⟨snap7, lit3⟩ 2 1 lit1 = ((lit1, true), after) := by rfl
theorem merged0 : merge after 2 2 [] = (([], false), after) := by rfl
theorem last_after : last after = (3, 3) := rfl
theorem fine3 : Fine ⟨snap7, lit3⟩ := fine_new sound7 chained3 snap7_b lit3_b
theorem fine_after : Fine after := by
  have := fine_merge fine3 (i := 2) (t := 1) (l := lit1) lit1_b
  rwa [merged1] at this
theorem re_lit (w : World) (l : List Ent) (t : TypeId) : RE (w.alloc (.cells (ecells l).toArray t)) (w.heap.size + 1) (some ⟨w.heap.size, 0, none⟩) l.length l := by
  refine ⟨by rw [ecells_length], fun _ => ⟨_, rfl, Nat.lt_succ_self _, fun j x hj => ?_⟩⟩
  rw [Addr.add_lit, Nat.zero_add, cell_of_row _ _ j _ t (0, 0) (heap_alloc_new w _)]
  simpa using hj
/-- What a call on a log leaves is as it was below the log. -/
theorem left_below {T : TypeId} {B p : Nat} {v : Value} {g g' : G} {w w' : World} (h : LogAt T B w p v g) (k : LeftL T B w p v g' w') : Below B w w' := by
  obtain ⟨v', h', o', f'⟩ := k
  exact o'.below h.base fun q hq => (h.foot_lt hq).1
theorem off_new {T : TypeId} {B p : Nat} {v : Value} {g : G} {w : World} (h : LogAt T B w p v g) (n : Nat) : Off (Foot p v) (some ⟨w.heap.size, 0, none⟩) n := by
  intro hn ad e hf
  cases e
  have := (h.foot_lt hf).2
  simp at this
theorem off_none (S : Nat → Prop) (n : Nat) : Off S none n := fun _ _ e => by cases e

/-- The literal's blocks, as the code lays them. -/
abbrev c3 : Obj := .cells #[.int .u64 1, .int .u64 1, .int .i64 0, .string ⟨#[]⟩, .int .u64 1, .int .u64 2, .int .i64 0, .string ⟨#[]⟩, .int .u64 2, .int .u64 3, .int .i64 0, .string ⟨#[]⟩] 47
abbrev c1 : Obj := .cells #[.int .u64 3, .int .u64 3, .int .i64 0, .string ⟨#[]⟩] 47
theorem new_lit3 (w : World) : Calls Try.prog 11 #[.agg #[.int .u64 0, .int .u64 0, .int .u64 7, .string ⟨#[]⟩], .slice (some ⟨w.heap.size, 0, none⟩) 3 3] (w.alloc c3) fun e w' =>
    ∃ p v, e = .returned (.tuple #[.pointer (some ⟨p, 0, none⟩), .int .i64 0]) ∧ LogAt 70 w.heap.size w' p v ⟨snap7, lit3⟩ ∧ Below w.heap.size w w' := by
  have hba : Below w.heap.size w (w.alloc c3) := (Below.refl _ _).alloc (Nat.le_refl _) _
  have hr : RE (w.alloc c3) (w.heap.size + 1) (some ⟨w.heap.size, 0, none⟩) 3 lit3 := re_lit w lit3 _
  refine (new_made snap7_b _ 3 3 lit3 (w.alloc c3) (hr.more (by simp)) lit3_b (by decide) sound7 chained3).mono ?_
  rintro e w' ⟨p, v, he, h, hb⟩
  exact ⟨p, v, he, h.lower hba.size, hba.trans (hb.mono hba.size)⟩
section
variable {B p : Nat} {v : Value} {w : World}
theorem merge_lit1 (h : LP B w p v ⟨snap7, lit3⟩) : Calls Try.prog 17 #[.pointer (some ⟨p, 0, none⟩), .int .u64 2, .int .u64 1, .slice (some ⟨w.heap.size, 0, none⟩) 1 1] (w.alloc c1) fun e w' =>
    ∃ A c v', e = .returned (.tuple #[.slice A 1 c, .bool true]) ∧ LP B w' p v' after ∧ Below B w w' := by
  have hba : Below w.heap.size w (w.alloc c1) := (Below.refl _ _).alloc (Nat.le_refl _) _
  have hr : RE (w.alloc c1) (w.heap.size + 1) (some ⟨w.heap.size, 0, none⟩) 1 lit1 := re_lit w lit1 _
  have ha := h.below hba
  refine (merge_any ha fine3 _ 1 1 2 1 lit1 (hr.more (by simp)) (off_new h _) lit1_b (by decide) (by decide) (by decide) (fun _ => by decide)).mono ?_
  rw [merged1]
  rintro e w' ⟨A, c, he, _, _, _, hl, _⟩
  have hb := left_below ha hl
  obtain ⟨v', h', _, _⟩ := hl
  exact ⟨A, c, v', he, h', (hba.mono h.base).trans hb⟩
theorem merge_lit0 (h : LP B w p v after) : Calls Try.prog 17 #[.pointer (some ⟨p, 0, none⟩), .int .u64 2, .int .u64 2, .slice none 0 0] w fun e w' =>
    ∃ A c v', e = .returned (.tuple #[.slice A 0 c, .bool false]) ∧ LP B w' p v' after ∧ Below B w w' := by
  refine (merge_any h fine_after none 0 0 2 2 [] (RE.nil _ _ _) (off_none _ _) (by simp) (by decide) (by decide) (by decide) (fun _ => by decide)).mono ?_
  rw [merged0]
  rintro e w' ⟨A, c, he, _, _, _, hl, _⟩
  have hb := left_below h hl
  obtain ⟨v', h', _, _⟩ := hl
  exact ⟨A, c, v', he, h', hb⟩
theorem last_lit (h : LP B w p v after) : Calls Try.prog 21 #[.pointer (some ⟨p, 0, none⟩)] w fun e w' => e = .returned (.tuple #[.int .u64 3, .int .u64 3]) ∧ Below w.heap.size w w' := by
  have := last_any h fine_after
  rwa [last_after] at this
end
set_option maxRecDepth 100000 in
set_option maxHeartbeats 1000000 in
theorem begun_any (w : World) : Calls Try.prog 9 #[] w fun e w' => e = .returned (.bool true) ∧ Below w.heap.size w w' := by
  go_enter Try.func9, Try.ntmps9
  go_wp2_with fail
  refine (new_lit3 w).mono ?_
  rintro e w1 ⟨p, v, rfl, h1, hb1⟩
  have H1 := Lib.hid h1
  clear h1
  go_wp2_with fail
  refine (merge_lit1 H1.out).mono ?_
  rintro e w2 ⟨A, c, v2, rfl, h2, hb2⟩
  have hB2 := hb1.trans hb2
  have H2 := Lib.hid h2
  clear h2 hb1 hb2
  go_wp2_with fail
  refine (merge_lit0 H2.out).mono ?_
  rintro e w3 ⟨A3, c3, v3, rfl, h3, hb3⟩
  have hB3 := hB2.trans hb3
  have H3 := Lib.hid h3
  clear h3 hb3 hB2
  go_wp2_with fail
  refine (last_lit H3.out).mono ?_
  rintro e w4 ⟨rfl, hb4⟩
  go_wp2
  go_ret
  exact ⟨rfl, hB3.trans (hb4.mono hB3.size)⟩
end Go.Proofs.Ytndehdnffajigaa.Begun
