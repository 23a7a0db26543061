/- What a frame is, walked: the program's and the document's own. -/
import Derived.Test.YtamncdpeklbhlaaGreatDoorWal
import Derived.Test.YtamncdpeklbhlaaGreatDoorSumB
import Derived.Test.YtamncdpeklbhlaaGreatDoorStuWalkG
import Derived.Test.YtamncdpeklbhlaaGreatDoorOnlyB
import Derived.Test.YtamncdpeklbhlaaGreatDoorDskWalkC
set_option linter.unusedVariables false
set_option linter.unusedSimpArgs false
namespace Go.Proofs.YtamncdpeklbhlaaGreatDoor.FrA
open Go.RowKit Go.Proofs.YtamncdpeklbhlaaGreatDoor.Kit Go.Proofs.YtamncdpeklbhlaaGreatDoor.Blocks Go.Proofs.YtamncdpeklbhlaaGreatDoor.Stuff Go.Proofs.YtamncdpeklbhlaaGreatDoor.Crc Go.Proofs.YtamncdpeklbhlaaGreatDoor.SumA Go.Proofs.YtamncdpeklbhlaaGreatDoor.SumB Go.Proofs.YtamncdpeklbhlaaGreatDoor.Wal Go.Proofs.YtamncdpeklbhlaaGreatDoor.StuWalkA Go.Proofs.YtamncdpeklbhlaaGreatDoor.StuWalkD Go.Proofs.YtamncdpeklbhlaaGreatDoor.StuWalkG
open Go.Proofs.YtamncdpeklbhlaaGreatDoor.DskWalkC (str)

theorem str_data (s : ByteArray) : str s.data.toList = s := rfl
theorem str_size (l : List UInt8) : (str l).size = l.length := rfl
theorem str_list (l : List UInt8) : (str l).data.toList = l := rfl
theorem Tab.below {B : Nat} {w w' : World} (h : Tab w) (hB : 0 < B) (hb : Below B w w') : Tab w' := fun i hi => by
  have := h i hi
  rw [← this]
  exact hb.cell hB
theorem Tab.lt {w : World} (h : Tab w) : 0 < w.heap.size := block_lt_of_cell (h 0 (by omega))
theorem Tab.next {w w' : World} (h : Tab w) (hb : Below w.heap.size w w') : Tab w' := Tab.below h (Tab.lt h) hb

theorem own_caps {w : World} {base n c : Nat} {A : Option Addr} {e : TypeId} {xs : List Value} (h : w.ownsRow base e 1 (.slice A n c) n xs) : n ≤ c ∧ c ≤ 9223372036854775807 ∧ Reads w w.heap.size 1 A n xs := by
  obtain ⟨A', c', e, h1, h2, h3⟩ := own_form h
  injection e with e1 _ e3
  subst e1 e3
  exact ⟨h1, by unfold maxLen at h2; omega, h3⟩

/-- A sum's bytes, as the walk spells them. -/
theorem vals_four (x : Nat) (hx : x < 2 ^ 32) : vals (four x) = [.int .u8 ((x : Int) / 16777216), .int .u8 ((x : Int) / 65536 % 256), .int .u8 ((x : Int) / 256 % 256), .int .u8 ((x : Int) % 256)] := by
  unfold vals four
  simp only [List.map_cons, List.map_nil, UInt8.toNat_ofNat', List.cons.injEq, Value.int.injEq, true_and, and_true]
  omega
theorem sum_hid (A : Option Addr) (n c r : Nat) (l : List UInt8) (w : World) (h : RB w A n l) (ht : Tab w) (hnc : n ≤ c) (hc : c ≤ 9223372036854775807) (hr : Hid (add 0 l = r)) :
    Calls Tryz.prog 117 #[.slice A n c] w fun e w' => e = .returned (.int .u32 (r : Int)) ∧ w = w' := by
  have := sum_any A n c l w h ht hnc hc
  rwa [hr.out] at this

set_option maxRecDepth 100000 in
set_option maxHeartbeats 1000000 in
theorem frame_any (s : ByteArray) (w : World) (ht : Tab w) (hs : s.size ≤ 1000000000) :
    Calls Tryz.prog 111 #[.string s] w fun e w' => e = .returned (.string (str (frame s.data.toList))) ∧ Below w.heap.size w w' := by
  obtain ⟨i0, hi0, hz0, hz1, hz2⟩ := info_parts info8
  obtain ⟨n, hn⟩ : ∃ n, s.size = n := ⟨_, rfl⟩
  have hl : s.data.toList.length = n := hn
  obtain ⟨x, hx⟩ : ∃ x, add 0 s.data.toList = x := ⟨_, rfl⟩
  have hx32 : x < 2 ^ 32 := by rw [← hx]; exact add_lt (by decide) _
  have HX := Lib.hid hx
  have hbl := body_length s.data.toList
  obtain ⟨N, hN⟩ : ∃ N, (body s.data.toList).length = N := ⟨_, rfl⟩
  have hN2 : N ≤ 1100000000 := by omega
  have HB := Lib.hid hN
  have HBD : Hid (body s.data.toList = encode (s.data.toList ++ four x)) := by unfold body; rw [hx]; rfl
  have hE : (encode (s.data.toList ++ four x)).length ≤ 140737488355328 := by have := HBD.out; unfold Hid at *; rw [← this, hN]; omega
  clear hN hbl hx
  go_enter Tryz.func111, Tryz.ntmps111
  go_wp2_with (at_make; refine wpList_make_own _ rfl _ _ 111 rfl w.heap.size 5 i0 _ 1 Tryz.underlying111 hi0 hz0 hz1 _ _ _ (n + 4) rfl rfl (by omega) ?b1 ?b2 (Nat.le_refl _) ?_)
  case b1 => rw [hz2]; omega
  case b2 => unfold maxLen; omega
  intro w1 hown1 hg1
  have hbel1 : Below w.heap.size w w1 := (Below.refl _ _).grown hg1 (Nat.le_refl _) (by simp)
  clear hg1
  go_wp2_with
    (at_builtin
     refine wpList_append_text _ rfl (.tmp 9) (.tmp 10) 111 9 rfl w.heap.size 5 i0 Tryz.underlying111 Tryz.underlying9 hi0 hz0 hz1 hz2 _ 0 [] rfl hown1 s rfl (by unfold maxLen; omega) (by omega) hbel1.size ?_
     intro A1 c1 w2 hown2 hg2 hat2
     clear hat2
     rw [Nat.zero_add, hn] at hown2
     have hbel2 : Below w.heap.size w w2 := hbel1.grown hg2 hbel1.size (own_lt hown1)
     clear hg2)
  have hr2 : RB w2 A1 n s.data.toList := (own_caps hown2).2.2
  obtain ⟨hc1, hc2, _⟩ := own_caps hown2
  refine (sum_hid A1 n c1 x s.data.toList w2 hr2 (Tab.next ht hbel2) hc1 hc2 HX).mono ?_
  rintro e w' ⟨rfl, rfl⟩
  have hB2 := hbel2.size
  have hm1 : n + 4 ≤ maxLen := by unfold maxLen; omega
  have hs1 : (n + 4) * 1 ≤ 140737488355328 := by omega
  have hBo : ∀ o : Obj, w.heap.size ≤ (w2.alloc o).heap.size := fun o => by simp; omega
  have hfr := reads_new w2 [.int .u8 ((x : Int) / 16777216), .int .u8 ((x : Int) / 65536 % 256), .int .u8 ((x : Int) / 256 % 256), .int .u8 ((x : Int) % 256)] 5
  rw [List.length_cons, List.length_cons, List.length_cons, List.length_cons, List.length_nil] at hfr
  have HV := Lib.hid (vals_four x hx32)
  go_wp2_with
    (at_builtin
     refine wpList_append_any _ rfl (.tmp 14) (.tmp 26) _ rfl w.heap.size 5 i0 _ 1 1 Tryz.underlying111 hi0 hz0 hz1 hz2 rfl (by decide) _ n ([] ++ vals s.data.toList) rfl (hown2.alloc _)
       (w2.heap.size + 1) _ 4 4 _ rfl hfr (by simp [Value.oneCell']) hm1 hs1 (hBo _) ?_
     intro v3 w3 hown3 hg3 hat3
     clear hat3
     obtain ⟨hbel3, hB3, _⟩ := behind_new hown2 hbel2 hB2 hg3
     clear hg3)
  rw [List.nil_append, ← HV.out, ← vals_append] at hown3
  obtain ⟨A3, c3, rfl, hc31, hc32, hr3⟩ := own_form hown3
  unfold maxLen at hc32
  refine (StuWalkC.encode_any A3 (n + 4) c3 (s.data.toList ++ four x) w3 hr3 hc31 hc32 hE).mono ?_
  rintro e w4 ⟨v4, rfl, hown4, hb4⟩
  obtain ⟨e1, he1⟩ : ∃ e1, encode (s.data.toList ++ four x) = e1 := ⟨_, rfl⟩
  have HBE : Hid (body s.data.toList = e1) := by have := HBD.out; exact this.trans he1
  rw [he1] at hown4
  have hbel4 : Below w.heap.size w w4 := hbel3.trans (hb4.mono hB3)
  have hown4' := own_base hown4 hB3
  have hN4 : e1.length = N := by rw [← HBE.out]; exact HB.out
  rw [hN4] at hown4'
  have hB4 := hbel4.size
  have hm4 : N + 1 ≤ maxLen := by unfold maxLen; omega
  have hs4 : (N + 1) * 1 ≤ 140737488355328 := by omega
  have hBo4 : ∀ o : Obj, w.heap.size ≤ (w4.alloc o).heap.size := fun o => by simp; omega
  clear hown4 he1 hown3 hr3 hE
  go_wp2_with
    (at_builtin
     refine wpList_append_any _ rfl (.tmp 29) (.tmp 30) _ rfl w.heap.size 5 i0 _ 1 1 Tryz.underlying111 hi0 hz0 hz1 hz2 rfl (by decide) _ N (vals e1) rfl (hown4'.alloc _)
       (w4.heap.size + 1) _ 1 1 [.int .u8 0] rfl (reads_one _ _ _) (by simp [Value.oneCell']) hm4 hs4 (hBo4 _) ?_
     intro v5 w5 hown5 hg5 hat5
     clear hat5
     obtain ⟨hbel5, hB5, _⟩ := behind_new hown4' hbel4 hB4 hg5
     clear hg5
     obtain ⟨A5, c5, rfl, hc51, hc52, hr5⟩ := own_form hown5
     have hr5' : Reads w5 w5.heap.size 1 A5 (N + 1) (vals (e1 ++ [0])) := by rw [vals_append]; exact hr5
     have hcv := conv w5 _ A5 (N + 1) c5 (e1 ++ [0]) hr5')
  go_ret
  have key : str (frame s.data.toList) = ⟨(e1 ++ [0]).toArray⟩ := by unfold frame; rw [HBE.out]; rfl
  exact ⟨congrArg (fun z => Ending.returned (Value.string z)) key.symm, hbel5⟩

/-- []byte(s). -/
theorem bytes_of (s : ByteArray) (w : World) (h : s.size ≤ 1000000000) :
    ∃ c w', (convert 9 111 (.string s)).run Tryz.prog w = .ok (.slice (some ⟨w.heap.size, 0, none⟩) s.size c) w' ∧ Row w' w.heap.size 5 (.slice (some ⟨w.heap.size, 0, none⟩) s.size c) s.size (vals s.data.toList) ∧ Below w.heap.size w w' ∧
      s.size ≤ c ∧ c ≤ 9223372036854775807 ∧ RB w' (some ⟨w.heap.size, 0, none⟩) s.size s.data.toList := by
  obtain ⟨c, w', h1, h2, h3⟩ := run_bytes_of (P := Tryz.prog) w 9 111 5 s Tryz.underlying9 Tryz.underlying111 Tryz.underlying5 (by unfold maxLen; omega) w.heap.size (Nat.le_refl _)
  obtain ⟨A, c', e, h4, h5⟩ := Row.form h2
  injection e with _ _ e
  subst e
  exact ⟨c, w', h1, h2, h3, h4, by unfold maxLen at h5; omega, Reads.of_row h2⟩
theorem ref_hid (A : Option Addr) (n c r : Nat) (l : List UInt8) (w : World) (h : RB w A n l) (hnc : n ≤ c) (hc : c ≤ 9223372036854775807) (hr : Hid (add 0 l = r)) :
    Calls Tryz.prog 55 #[.int .u32 0, .slice A n c] w fun e w' => e = .returned (.int .u32 (r : Int)) ∧ w = w' := by
  have := ref_any A n c 0 l w h hnc hc (by decide)
  rwa [hr.out] at this

set_option maxRecDepth 100000 in
set_option maxHeartbeats 1000000 in
theorem rframe_any (s : ByteArray) (w : World) (hs : s.size ≤ 1000000000) :
    Calls Tryz.prog 21 #[.string s] w fun e w' => e = .returned (.string (str (frame s.data.toList))) ∧ Below w.heap.size w w' := by
  obtain ⟨i0, hi0, hz0, hz1, hz2⟩ := info_parts info8
  obtain ⟨x, hx⟩ : ∃ x, add 0 s.data.toList = x := ⟨_, rfl⟩
  have hx32 : x < 2 ^ 32 := by rw [← hx]; exact add_lt (by decide) _
  have HX := Lib.hid hx
  have hl : s.data.toList.length = s.size := rfl
  have hbl := body_length s.data.toList
  obtain ⟨N, hN⟩ : ∃ N, (body s.data.toList).length = N := ⟨_, rfl⟩
  have hN2 : N ≤ 1100000000 := by omega
  have HB := Lib.hid hN
  have HBD : Hid (body s.data.toList = encode (s.data.toList ++ four x)) := by unfold body; rw [hx]; rfl
  have hE : (encode (s.data.toList ++ four x)).length ≤ 140737488355328 := by have := HBD.out; unfold Hid at *; rw [← this, hN]; omega
  clear hN hbl hx hl
  obtain ⟨c1, w1, hcv1, hrow1, hbel1, hc11, hc12, hr1⟩ := bytes_of s w hs
  obtain ⟨c2, w2, hcv2, hrow2, hbel2, hc21, hc22, hr2⟩ := bytes_of s w1 hs
  have hfr := reads_new w2 [.int .u8 ((x : Int) / 16777216), .int .u8 ((x : Int) / 65536 % 256), .int .u8 ((x : Int) / 256 % 256), .int .u8 ((x : Int) % 256)] 5
  rw [List.length_cons, List.length_cons, List.length_cons, List.length_cons, List.length_nil] at hfr
  have HV := Lib.hid (vals_four x hx32)
  obtain ⟨n, hn⟩ : ∃ n, s.size = n := ⟨_, rfl⟩
  rw [hn] at hcv1 hcv2 hrow1 hrow2 hc11 hc21 hr1 hr2 hs
  have hB12 : Below w.heap.size w w2 := hbel1.trans (hbel2.mono hbel1.size)
  have hm1 : n + 4 ≤ maxLen := by unfold maxLen; omega
  have hBo : ∀ o : Obj, w1.heap.size ≤ (w2.alloc o).heap.size := fun o => by have := hbel2.size; simp; omega
  obtain ⟨ad, had, _, hfc⟩ := hfr.2 (by omega)
  obtain rfl := Option.some.inj had
  go_enter Tryz.func21, Tryz.ntmps21
  go_wp2_with fail
  refine (ref_hid _ n c1 x s.data.toList w1 hr1 hc11 hc12 HX).mono ?_
  rintro e w' ⟨rfl, rfl⟩
  go_wp2_with
    (at_builtin
     refine wpList_append_row_any _ rfl (.tmp 10) (.tmp 22) _ rfl w1.heap.size 5 i0 _ Tryz.underlying111 hi0 hz0 rfl hz1 hz2 _ n (vals s.data.toList) rfl (hrow2.alloc _)
       _ 4 4 _ rfl rfl hfc (by simp [Value.oneCell']) hm1 (by omega) (hBo _) ?_
     intro A3 c3 w3 hown3 hg3 hat3
     clear hat3
     have hB3 : Below w.heap.size w w3 := (hB12.alloc hB12.size _).grown hg3 (by have := hB12.size; simp; omega) (fun g hg => by have := (hrow2.lt g hg).1; have := hbel1.size; omega))
  rw [← HV.out, ← vals_append] at hown3
  obtain ⟨_, _, e3, hc31, hc32⟩ := Row.form hown3
  injection e3 with _ _ e3
  subst e3
  unfold maxLen at hc32
  refine (StuWalkE.encode_any A3 (n + 4) c3 (s.data.toList ++ four x) w3 (Reads.of_row hown3) hc31 (by omega) hE).mono ?_
  rintro e w4 ⟨v4, rfl, hown4, hb4⟩
  obtain ⟨e1, he1⟩ : ∃ e1, encode (s.data.toList ++ four x) = e1 := ⟨_, rfl⟩
  have HBE : Hid (body s.data.toList = e1) := by have := HBD.out; exact this.trans he1
  rw [he1] at hown4
  have hbel4 : Below w.heap.size w w4 := hB3.trans (hb4.mono hB3.size)
  have hN4 : e1.length = N := by rw [← HBE.out]; exact HB.out
  rw [hN4] at hown4
  obtain ⟨A5, c5, rfl, hc51, hc52, hr5⟩ := own_form hown4
  have hcv := conv w4 _ A5 N c5 e1 hr5
  have hsz : ¬ 9223372036854775807 < (ByteArray.size ⟨e1.toArray⟩) + (ByteArray.size ⟨#[0]⟩) := by
    have h1 : ByteArray.size ⟨e1.toArray⟩ = e1.length := rfl
    have h2 : ByteArray.size ⟨#[0]⟩ = 1 := rfl
    omega
  clear hown4 he1 hown3 hE
  go_wp2_with fail
  go_ret
  have key : str (frame s.data.toList) = ⟨e1.toArray⟩ ++ ⟨#[0]⟩ := by
    unfold frame
    rw [HBE.out]
    apply ByteArray.ext
    simp [str]
  exact ⟨congrArg (fun z => Ending.returned (Value.string z)) key.symm, hbel4⟩
end Go.Proofs.YtamncdpeklbhlaaGreatDoor.FrA
