/- What is scanned, walked: the program's own scanning. -/
import Derived.Test.YtamncdpeklbhlaaGreatDoorFrC
import Derived.WalkMore
set_option linter.unusedVariables false
set_option linter.unusedSimpArgs false
namespace Go.Proofs.YtamncdpeklbhlaaGreatDoor.ScA
open Go.RowKit Go.Proofs.YtamncdpeklbhlaaGreatDoor.Kit Go.Proofs.YtamncdpeklbhlaaGreatDoor.Blocks Go.Proofs.YtamncdpeklbhlaaGreatDoor.Stuff Go.Proofs.YtamncdpeklbhlaaGreatDoor.Crc Go.Proofs.YtamncdpeklbhlaaGreatDoor.SumA Go.Proofs.YtamncdpeklbhlaaGreatDoor.SumB Go.Proofs.YtamncdpeklbhlaaGreatDoor.Wal Go.Proofs.YtamncdpeklbhlaaGreatDoor.StuWalkA Go.Proofs.YtamncdpeklbhlaaGreatDoor.FrA Go.Proofs.YtamncdpeklbhlaaGreatDoor.FrB Go.Proofs.YtamncdpeklbhlaaGreatDoor.FrC
open Go.Proofs.YtamncdpeklbhlaaGreatDoor.DskWalkC (str)

/-- The cells of texts. -/
def strs (l : List (List UInt8)) : List Value := l.map fun x => .string (str x)
theorem strs_length (l : List (List UInt8)) : (strs l).length = l.length := by simp [strs]
theorem strs_append (a b : List (List UInt8)) : strs (a ++ b) = strs a ++ strs b := by simp [strs]
theorem strs_one (l : List (List UInt8)) : ∀ u ∈ strs l, u.oneCell' = true := by
  intro u hu
  obtain ⟨_, _, rfl⟩ := List.mem_map.1 hu
  rfl
theorem strs_get (l : List (List UInt8)) (k : Nat) (h : k < l.length) : (strs l)[k]? = some (.string (str l[k])) := by
  simp [strs, List.getElem?_map, List.getElem?_eq_getElem h]
/-- A slice value's texts. -/
abbrev RS (w : World) (A : Option Addr) (n : Nat) (l : List (List UInt8)) : Prop := Reads w w.heap.size 1 A n (strs l)
theorem texts_len {w : World} {B n : Nat} {A : Option Addr} {l : List (List UInt8)} (h : Reads w B 1 A n (strs l)) : l.length = n := by have := h.len; rwa [strs_length] at this
theorem Reads.text {w : World} {B n k : Nat} {A : Option Addr} {l : List (List UInt8)} (h : Reads w B 1 A n (strs l)) (hk : k < n) (hl : k < l.length) :
    ∃ b o, A = some ⟨b, o, none⟩ ∧ b < B ∧ w.cell? ⟨b, o + k, none⟩ = some (.string (str l[k])) := by
  obtain ⟨ad, u, rfl, hb, hx, hc⟩ := h.at_ hk
  have hs := h.spot (by omega)
  rw [strs_get l k hl] at hx
  cases hx
  refine ⟨ad.block, ad.off, by rw [← hs], hb, ?_⟩
  rw [hs, Addr.add_lit] at hc
  exact hc
theorem info9 : (Tryz.prog.info? 9).map (fun i => (i.zero, i.size, i.bytes)) = some (some (.string ByteArray.empty), 1, 16) := by kernel_rfl

/-- What a scanning leaves. -/
def Scn (w : World) (r : List (List UInt8) × Nat) (e : Ending) (w' : World) : Prop :=
  ∃ v, e = .returned (.tuple #[v, .int .i64 (r.2 : Int)]) ∧ w'.ownsRow w.heap.size 9 1 v r.1.length (strs r.1) ∧ Below w.heap.size w w'
theorem scn {w w' : World} {r : List (List UInt8) × Nat} {v : Value} {acc : List (List UInt8)} {k : Nat} (hown : w'.ownsRow w.heap.size 9 1 v acc.length (strs acc)) (hb : Below w.heap.size w w') (hr : r = (acc, k)) : Scn w r (.returned (.tuple #[v, .int .i64 (k : Int)])) w' := by
  subst hr
  exact ⟨v, rfl, hown, hb⟩

/-- Where a scanning stands. -/
structure At (L : List UInt8) (acc : List (List UInt8)) (k : Nat) : Prop where
  eq : scan L = (acc ++ (scan (L.drop k)).1, k + (scan (L.drop k)).2)
  le : k ≤ L.length
  few : acc.length ≤ k
theorem At.start (L : List UInt8) : At L [] 0 := ⟨by simp, by omega, by simp⟩
theorem At.done {L : List UInt8} {acc : List (List UInt8)} {k : Nat} (h : At L acc k) (he : scan (L.drop k) = ([], 0)) : scan L = (acc, k) := by rw [h.eq, he]; simp
theorem At.next {L x : List UInt8} {acc : List (List UInt8)} {k z : Nat} (h : At L acc k) (hz : zl (L.drop k) = z) (h0 : z < (L.drop k).length) (hu : unframe ((L.drop k).take z) = some x) : At L (acc ++ [x]) (k + z + 1) := by
  subst hz
  have e := scan_good (L.drop k) x h0 hu
  have hd : (L.drop k).drop (zl (L.drop k) + 1) = L.drop (k + zl (L.drop k) + 1) := by rw [List.drop_drop]; congr 1
  rw [hd] at e
  have hl := h.le
  have hf := h.few
  rw [List.length_drop] at h0
  refine ⟨?_, by omega, by simp; omega⟩
  rw [h.eq, e]
  simp only [List.append_assoc, List.singleton_append, Prod.mk.injEq, true_and]
  omega

theorem extract_list (s : ByteArray) (a b : Nat) : (s.extract a b).data.toList = (s.data.toList.drop a).take (b - a) := by
  simp [List.extract_eq_take_drop]

theorem unf_some {s : ByteArray} {x : List UInt8} (w : World) (ht : Tab w) (hs : s.size ≤ 1000000000) (h : Hid (unframe s.data.toList = some x)) :
    Calls Tryz.prog 100 #[.string s] w fun e w' => e = .returned (.tuple #[.string (str x), .bool true]) ∧ Below w.heap.size w w' := by
  have := unframe_any s w ht hs
  rw [h.out] at this
  exact this
theorem unf_none {s : ByteArray} (w : World) (ht : Tab w) (hs : s.size ≤ 1000000000) (h : Hid (unframe s.data.toList = none)) :
    Calls Tryz.prog 100 #[.string s] w fun e w' => e = .returned (.tuple #[.string (str []), .bool false]) ∧ Below w.heap.size w w' := by
  have := unframe_any s w ht hs
  rw [h.out] at this
  exact this

set_option maxRecDepth 100000 in
set_option maxHeartbeats 4000000 in
theorem scan_any (s : ByteArray) (w : World) (ht : Tab w) (hs : s.size ≤ 1000000000) :
    Calls Tryz.prog 69 #[.string s] w (Scn w (scan s.data.toList)) := by
  obtain ⟨i0, hi0, hz0, hz1, hz2⟩ := info_parts info9
  obtain ⟨L, hL⟩ : ∃ L, s.data.toList = L := ⟨_, rfl⟩
  have hLl : L.length = s.size := by rw [← hL]; rfl
  obtain ⟨R, hR⟩ : ∃ R, scan L = R := ⟨_, rfl⟩
  rw [hL, hR]
  have HR := Lib.hid hR
  have HL := Lib.hid hL
  have HT := Lib.hid ht
  have hgb := Tab.lt ht
  clear hL hR ht
  go_enter Tryz.func69, Tryz.ntmps69
  go_wp2_with fail
  go_step3
  go_wp2_with fail
  go_step3
  go_wp2_with fail
  go_loopw [4, 5] (fun v p wr => ∃ (k : Nat) (acc : List (List UInt8)), p = .int .i64 (k : Int) ∧ Hid (At L acc k) ∧ wr.ownsRow w.heap.size 9 1 v acc.length (strs acc) ∧ Below w.heap.size w wr) (fun _ p _ => s.size - (intOf p).toNat)
  case atStart => exact ⟨0, [], rfl, At.start L, World.ownsRow_nil _ _ _ _, Below.refl _ _⟩
  case round =>
    obtain ⟨k, acc, rfl, hat, hown, hbel⟩ := hrel
    have hk := hat.out.le
    have hfew := hat.out.few
    have hB := hbel.size
    have hdl : (L.drop k).length = s.size - k := by rw [List.length_drop, hLl]
    obtain ⟨z, hz⟩ : ∃ z, zl (L.drop k) = z := ⟨_, rfl⟩
    have hzle := zl_le (L.drop k)
    have hget : ∀ i (h : i < s.size), L[i]'(by omega) = s[i] := fun i h => by
      have := HL.out
      subst this
      rfl
    have hne : ∀ i (h : i < s.size), k ≤ i → i < k + z → ((s[i].toNat : Int) != 0) = true := fun i h h1 h2 => by
      have := zl_front (L.drop k) (i - k) (by omega) (by omega)
      rw [List.getElem_drop] at this
      rw [← hget i h]
      simp only [show k + (i - k) = i by omega] at this
      exact byte_ne this
    rw [hz, hdl] at hzle
    by_cases hend : k + z < s.size
    · have heq : ((s[k + z].toNat : Int) != 0) = false := by
        have := zl_get (L.drop k) (by rw [hz, hdl]; omega)
        rw [List.getElem_drop] at this
        rw [← hget (k + z) hend]
        simp only [hz] at this
        exact byte_eq this
      have hT : (s.extract k (k + z)).data.toList = (L.drop k).take z := by rw [extract_list, HL.out]; congr 1; omega
      have hTs : (s.extract k (k + z)).size ≤ 1000000000 := by simp; omega
      have htr := Tab.below HT.out hgb hbel
      cases hu : unframe ((L.drop k).take z) with
      | none =>
        have HU : Hid (unframe (s.extract k (k + z)).data.toList = none) := by rw [hT]; exact hu
        have hdone : scan L = (acc, k) := hat.out.done (scan_bad _ (by rw [hz]; exact hu))
        rw [HR.out] at hdone
        have HD := Lib.hid hdone
        clear hdone hu hT hz
        go_wp2_with fail
        go_loop [4, 5, 6] (fun v p i => ∃ (j : Nat), k ≤ j ∧ j ≤ k + z ∧ i = .int .i64 (j : Int) ∧ p = .int .i64 (k : Int) ∧ v = u4) (fun _ _ i => s.size - (intOf i).toNat)
        case atStart => exact ⟨k, by omega, by omega, rfl, rfl, rfl⟩
        case round =>
          obtain ⟨j, hj0, hj1, rfl, rfl, rfl⟩ := hrel
          have hjs : j < s.size := by omega
          by_cases hjz : j < k + z
          · have hn := hne j hjs hj0 hjz
            go_wp2
            go_round
            case rel => exact ⟨j + 1, by omega, by omega, by go_num, rfl, rfl⟩
            case measure => simp [intOf]; omega
          · obtain rfl : j = k + z := by omega
            go_wp2_with fail
            refine (unf_none _ htr hTs HU).mono ?_
            rintro e w2 ⟨rfl, hb2⟩
            have hbel2 : Below w.heap.size w w2 := hbel.trans (hb2.mono hB)
            have hown2 := own_below hown hb2
            go_wp2_with fail
            try rw [Exit.noGoto_ret]
            go_ret2
            exact scn hown2 hbel2 HD.out
      | some x =>
        have HU : Hid (unframe (s.extract k (k + z)).data.toList = some x) := by rw [hT]; exact hu
        have hnext : At L (acc ++ [x]) (k + z + 1) := hat.out.next hz (by omega) hu
        have HN := Lib.hid hnext
        have hm1 : acc.length + 1 ≤ maxLen := by unfold maxLen; omega
        have hs1 : (acc.length + 1) * 16 ≤ 140737488355328 := by omega
        clear hnext hu hT hz
        go_wp2_with fail
        go_loop [4, 5, 6] (fun v p i => ∃ (j : Nat), k ≤ j ∧ j ≤ k + z ∧ i = .int .i64 (j : Int) ∧ p = .int .i64 (k : Int) ∧ v = u4) (fun _ _ i => s.size - (intOf i).toNat)
        case atStart => exact ⟨k, by omega, by omega, rfl, rfl, rfl⟩
        case round =>
          obtain ⟨j, hj0, hj1, rfl, rfl, rfl⟩ := hrel
          have hjs : j < s.size := by omega
          by_cases hjz : j < k + z
          · have hn := hne j hjs hj0 hjz
            go_wp2
            go_round
            case rel => exact ⟨j + 1, by omega, by omega, by go_num, rfl, rfl⟩
            case measure => simp [intOf]; omega
          · obtain rfl : j = k + z := by omega
            go_wp2_with fail
            refine (unf_some _ htr hTs HU).mono ?_
            rintro e w2 ⟨rfl, hb2⟩
            have hbel2 : Below w.heap.size w w2 := hbel.trans (hb2.mono hB)
            have hB2 := hbel2.size
            have hown2 := own_below hown hb2
            have hBo : ∀ o : Obj, w.heap.size ≤ (w2.alloc o).heap.size := fun o => by simp; omega
            go_wp2_with
              (at_builtin
               refine wpList_append_any _ rfl (.tmp 30) (.tmp 32) _ rfl w.heap.size 9 i0 _ 1 16 Tryz.underlying68 hi0 hz0 hz1 hz2 rfl (by decide) _ acc.length (strs acc) rfl (hown2.alloc _)
                 (w2.heap.size + 1) _ 1 1 [.string (str x)] rfl (reads_one _ _ _) (by simp [Value.oneCell']) hm1 hs1 (hBo _) ?_
               intro v3 w3 hown3 hg3 hat3
               clear hat3
               obtain ⟨hbel3, hB3, _⟩ := behind_new hown2 hbel2 hB2 hg3
               clear hg3)
            go_roundw
            case rel => exact ⟨k + z + 1, acc ++ [x], by go_num, HN, own_cast hown3 (by simp) (by rw [strs_append]; rfl), hbel3⟩
            case measure => simp [intOf]; omega
    · have hkz : k + z = s.size := by omega
      have hdone : scan L = (acc, k) := hat.out.done (scan_end _ (by rw [hz, hdl]; omega))
      rw [HR.out] at hdone
      have HD := Lib.hid hdone
      clear hdone hz
      go_wp2_with fail
      go_loop [4, 5, 6] (fun v p i => ∃ (j : Nat), k ≤ j ∧ j ≤ s.size ∧ i = .int .i64 (j : Int) ∧ p = .int .i64 (k : Int) ∧ v = u4) (fun _ _ i => s.size - (intOf i).toNat)
      case atStart => exact ⟨k, by omega, by omega, rfl, rfl, rfl⟩
      case round =>
        obtain ⟨j, hj0, hj1, rfl, rfl, rfl⟩ := hrel
        by_cases hjs : j < s.size
        · have hn := hne j hjs hj0 (by omega)
          go_wp2
          go_round
          case rel => exact ⟨j + 1, by omega, by omega, by go_num, rfl, rfl⟩
          case measure => simp [intOf]; omega
        · obtain rfl : j = s.size := by omega
          go_wp2_with fail
          try rw [Exit.noGoto_ret]
          go_ret2
          exact scn hown hbel HD.out
end Go.Proofs.YtamncdpeklbhlaaGreatDoor.ScA
