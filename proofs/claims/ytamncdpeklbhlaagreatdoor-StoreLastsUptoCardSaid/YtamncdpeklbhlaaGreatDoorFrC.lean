/- What the document's own first frame is, walked. -/
import Derived.Test.YtamncdpeklbhlaaGreatDoorFrB
import Derived.Deep.RegionHeld3
import Derived.Deep.RegionLaw
set_option linter.unusedVariables false
set_option linter.unusedSimpArgs false
namespace Go.Proofs.YtamncdpeklbhlaaGreatDoor.FrC
open Go.RowKit Go.Proofs.YtamncdpeklbhlaaGreatDoor.Kit Go.Proofs.YtamncdpeklbhlaaGreatDoor.Blocks Go.Proofs.YtamncdpeklbhlaaGreatDoor.Stuff Go.Proofs.YtamncdpeklbhlaaGreatDoor.Crc Go.Proofs.YtamncdpeklbhlaaGreatDoor.SumA Go.Proofs.YtamncdpeklbhlaaGreatDoor.SumB Go.Proofs.YtamncdpeklbhlaaGreatDoor.Wal Go.Proofs.YtamncdpeklbhlaaGreatDoor.StuWalkA Go.Proofs.YtamncdpeklbhlaaGreatDoor.StuWalkD Go.Proofs.YtamncdpeklbhlaaGreatDoor.StuWalkG Go.Proofs.YtamncdpeklbhlaaGreatDoor.FrA Go.Proofs.YtamncdpeklbhlaaGreatDoor.FrB
open Go.Proofs.YtamncdpeklbhlaaGreatDoor.DskWalkC (str)

/-- What the document's first leaves. -/
def Fst (w : World) (o : Option (List UInt8)) (n : Nat) (e : Ending) (w' : World) : Prop :=
  match o with
  | some x => e = .returned (.tuple #[.string (str x), .int .i64 ((n + 1 : Nat) : Int)]) ∧ Below w.heap.size w w'
  | none => e = .returned (.tuple #[.string (str []), .int .i64 0]) ∧ Below w.heap.size w w'

theorem size_list (s : ByteArray) : s.data.toList.length = s.size := rfl
theorem get_list (s : ByteArray) (j : Nat) (h : j < s.size) : s.data.toList[j]'h = s[j] := rfl
theorem byte_ne {c : UInt8} (h : c ≠ 0) : ((c.toNat : Int) != 0) = true := bne_iff_ne.2 fun e => h (UInt8.toNat_inj.1 (by simpa using e))
theorem byte_eq {c : UInt8} (h : c = 0) : ((c.toNat : Int) != 0) = false := by subst h; rfl

set_option maxRecDepth 100000 in
set_option maxHeartbeats 1000000 in
theorem first_end (s : ByteArray) (w : World) (hs : s.size ≤ 1000000000) (hz : zl s.data.toList = s.data.toList.length) :
    Calls Tryz.prog 108 #[.string s] w fun e w' => e = .returned (.tuple #[.string (str []), .int .i64 0]) ∧ Below w.heap.size w w' := by
  have hfr : ∀ j (h : j < s.size), ((s[j].toNat : Int) != 0) = true := fun j h => byte_ne (zl_front s.data.toList j (by rw [hz]; exact h) h)
  go_enter Tryz.func108, Tryz.ntmps108
  go_wp2_with fail
  go_loop [4] (fun i => ∃ (j : Nat), j ≤ s.size ∧ i = .int .i64 (j : Int)) (fun i => s.size - (intOf i).toNat)
  case atStart => exact ⟨0, by omega, rfl⟩
  case round =>
    obtain ⟨j, hj, rfl⟩ := hrel
    by_cases hjs : j < s.size
    · have hne := hfr j hjs
      go_wp2
      go_round
      case rel => exact ⟨j + 1, by omega, by go_num⟩
      case measure => simp [intOf]; omega
    · obtain rfl : j = s.size := by omega
      go_wp2
      go_ret2
      exact ⟨rfl, Below.refl _ _⟩

set_option maxRecDepth 100000 in
set_option maxHeartbeats 4000000 in
theorem first_at (s : ByteArray) (n : Nat) (w : World) (hs : s.size ≤ 1000000000) (hz : zl s.data.toList = n) (hn : n < s.size) :
    Calls Tryz.prog 108 #[.string s] w (Fst w (unframe (s.data.toList.take n)) n) := by
  have hfr : ∀ j (h : j < n), ((s[j].toNat : Int) != 0) = true := fun j h => byte_ne (zl_front s.data.toList j (by omega) (by show j < s.size; omega))
  have hat : ((s[n].toNat : Int) != 0) = false := by
    subst hz
    exact byte_eq (zl_get s.data.toList hn)
  have hT : (s.extract 0 n).data.toList = s.data.toList.take n := by simp
  have hTs : (s.extract 0 n).size = n := by rw [← size_list, hT, List.length_take, size_list]; omega
  have hT1 : (s.extract 0 (n + 1)).data.toList = s.data.toList.take n ++ [0] := by
    have h1 : (s.extract 0 (n + 1)).data.toList = s.data.toList.take (n + 1) := by simp
    have h2 := zl_get s.data.toList (by rw [hz]; exact hn)
    rw [h1, List.take_succ_eq_append_getElem (by show n < s.size; exact hn)]
    congr 2
    simp only [hz] at h2
    exact h2
  obtain ⟨c1, w1, hcv1, hrow1, hbel1, hc11, hc12, hr1⟩ := bytes_of (s.extract 0 n) w (by omega)
  have hd := StuWalkG.decode_any _ _ c1 _ w1 hr1 hc11 hc12 (by omega)
  rw [hT] at hd
  obtain ⟨l, hl⟩ : ∃ l, s.data.toList.take n = l := ⟨_, rfl⟩
  have hll : l.length = n := by rw [← hl, List.length_take, size_list]; omega
  rw [hl] at hd hT1
  rw [hl]
  obtain ⟨R, hR⟩ : ∃ R, unframe l = R := ⟨_, rfl⟩
  rw [hR]
  have HR := Lib.hid hR
  rw [hTs] at hd hcv1
  have HD := Lib.hid hd
  have HL := Lib.hid hll
  have HT1 := Lib.hid hT1
  clear hd hrow1 hr1 hl hT hTs hT1 hR hll
  go_enter Tryz.func108, Tryz.ntmps108
  go_wp2_with fail
  go_loop [4] (fun i => ∃ (j : Nat), j ≤ n ∧ i = .int .i64 (j : Int)) (fun i => n - (intOf i).toNat)
  case atStart => exact ⟨0, by omega, rfl⟩
  case round =>
    obtain ⟨j, hj, rfl⟩ := hrel
    have hjs : j < s.size := by omega
    by_cases hjn : j < n
    · have hne := hfr j hjn
      go_wp2
      go_round
      case rel => exact ⟨j + 1, by omega, by go_num⟩
      case measure => simp [intOf]; omega
    · obtain rfl : j = n := by omega
      have hneq : ((j : Int) == (s.size : Int)) = false := by simp; omega
      go_wp2_with fail
      refine HD.out.mono ?_
      intro e w2 h
      cases hu : unstuff l with
      | none =>
        rw [hu] at h
        obtain ⟨rfl, hb2⟩ := h
        have hR := HR.out
        rw [unframe_none hu] at hR
        go_wp2_with fail
        go_ret2
        subst hR
        exact ⟨rfl, hbel1.trans (hb2.mono hbel1.size)⟩
      | some b =>
        rw [hu] at h
        obtain ⟨v, rfl, hown, hb2⟩ := h
        obtain ⟨k, hk⟩ : ∃ k, b.length = k := ⟨_, rfl⟩
        rw [hk] at hown
        obtain ⟨A2, c2, rfl, hc21, hc22, hr2⟩ := own_form hown
        unfold maxLen at hc22
        have hbel2 : Below w.heap.size w w2 := hbel1.trans (hb2.mono hbel1.size)
        have hsh := decode_short _ _ hu
        rw [HL.out, hk] at hsh
        have hR := HR.out
        rw [unframe_some hu, hk] at hR
        have HR2 := Lib.hid hR
        have HAG := Lib.hid (again hu)
        have HK := Lib.hid hk
        clear hR hk hown hu HD HR
        by_cases h4 : 4 ≤ k
        · by_cases h65 : k ≤ 65540
          · have hx : RB w2 A2 (k - 4) (b.take (k - 4)) := hr2.bytes_upto (by omega)
            have hcut := conv w2 _ A2 (k - 4) c2 _ hx
            have hk4 : ((k : Int) - 4) = ((k - 4 : Nat) : Int) := by omega
            have HAG2 : Hid (frame (b.take (k - 4)) = l ++ [0] ↔ b.drop (k - 4) = four (add 0 (b.take (k - 4)))) := by
              have := HAG.out
              rwa [HK.out] at this
            obtain ⟨X, hX⟩ : ∃ X, b.take (k - 4) = X := ⟨_, rfl⟩
            rw [hX] at hcut
            have HAG3 : Hid (frame X = l ++ [0] ↔ b.drop (k - 4) = four (add 0 X)) := by rw [← hX]; exact HAG2.out
            have HR3 : Hid ((if b.drop (k - 4) = four (add 0 X) then some X else none) = R) := by
              have := HR2.out
              rw [hX] at this
              simp only [h4, h65, true_and] at this
              exact this
            have hXl : X.length = k - 4 := by rw [← hX, List.length_take, HK.out]; omega
            have hfr := rframe_any (str X)
            have hFs : ∃ F, str (frame X) = F := ⟨_, rfl⟩
            obtain ⟨F, hF⟩ := hFs
            have HF := Lib.hid hF
            have HFR : Hid (∀ w', Calls Tryz.prog 21 #[.string (str X)] w' fun e w'' => e = .returned (.string F) ∧ Below w'.heap.size w' w'') := fun w' => by
              have := rframe_any (str X) w' (by show X.length ≤ _; omega)
              rw [str_list, hF] at this
              exact this
            have hXstr : str X = ⟨X.toArray⟩ := rfl
            rw [hXstr] at HFR
            clear hF hX HR2 HAG2 HAG hXl hfr hXstr
            have hiff : (F.toList == (s.extract 0 (j + 1)).toList) = true ↔ b.drop (k - 4) = four (add 0 X) := by
              rw [beq_iff_eq, ← HAG3.out, ← HF.out, Lib.toList_data, Lib.toList_data, HT1.out]
              exact Iff.rfl
            have hj1 : (j : Int) + 1 ≤ (s.size : Int) := by omega
            have hj0 : (0 : Int) ≤ (j : Int) + 1 := by omega
            have hjw : IntKind.i64.wrap ((j : Int) + 1) = (j : Int) + 1 := IntWalk.i64_in _ (by omega)
            by_cases hy : b.drop (k - 4) = four (add 0 X)
            · have hc : (F.toList == (s.extract 0 (j + 1)).toList) = true := hiff.2 hy
              have HY := Lib.hid hy
              clear hy hiff
              go_wp2_with fail
              go_region_held3 (fun w' => w2.heap.size ≤ w'.heap.size)
                (first | exact Nat.le_refl _ | exact hb3.size | (simp; done) | (simp; omega))
                ((go_at_call 21; refine (HFR.out _).mono ?_; rintro e w3 ⟨rfl, hb3⟩))
              all_goals go_wp2
              all_goals go_ret2
              all_goals
                have hR := HR3.out
                rw [if_pos HY.out] at hR
                subst hR
                exact ⟨rfl, hbel2.drew.trans (hb3.mono hbel2.size)⟩
            · have hc : (F.toList == (s.extract 0 (j + 1)).toList) = false := by
                cases hb : (F.toList == (s.extract 0 (j + 1)).toList) with
                | false => rfl
                | true => exact absurd (hiff.1 hb) hy
              have HY := Lib.hid hy
              clear hy hiff
              go_wp2_with fail
              go_region_held3 (fun w' => w2.heap.size ≤ w'.heap.size)
                (first | exact Nat.le_refl _ | exact hb3.size | (simp; done) | (simp; omega))
                ((go_at_call 21; refine (HFR.out _).mono ?_; rintro e w3 ⟨rfl, hb3⟩))
              all_goals go_wp2
              all_goals go_ret2
              all_goals
                have hR := HR3.out
                rw [if_neg HY.out] at hR
                subst hR
                exact ⟨rfl, hbel2.drew.trans (hb3.mono hbel2.size)⟩
          · have hR := HR2.out
            rw [if_neg (by omega)] at hR
            have hk0 : ¬ ((k : Int) < 4) := by omega
            go_wp2_with fail
            go_ret2
            subst hR
            exact ⟨rfl, hbel2⟩
        · have hR := HR2.out
          rw [if_neg (by omega)] at hR
          go_wp2_with fail
          go_ret2
          subst hR
          exact ⟨rfl, hbel2⟩
end Go.Proofs.YtamncdpeklbhlaaGreatDoor.FrC
