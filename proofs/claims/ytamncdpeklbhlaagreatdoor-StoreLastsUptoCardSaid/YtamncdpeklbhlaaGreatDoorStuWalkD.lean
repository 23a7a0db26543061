/- What the program's decoding answers, walked: a slice of the call's own that holds what was encoded, and no error; or nothing, and the error. -/
import Derived.Test.YtamncdpeklbhlaaGreatDoorStuWalkC
namespace Go.Proofs.YtamncdpeklbhlaaGreatDoor.StuWalkD
open Go.RowKit Go.Proofs.YtamncdpeklbhlaaGreatDoor.Kit Go.Proofs.YtamncdpeklbhlaaGreatDoor.Stuff Go.Proofs.YtamncdpeklbhlaaGreatDoor.StuWalkA Go.Proofs.YtamncdpeklbhlaaGreatDoor.StuWalkB

/-- Both ways of a decoding. -/
def Deco (w : World) (o : Option (List UInt8)) (e : Ending) (w' : World) : Prop :=
  match o with
  | some r => Made2 5 .i64 0 w r e w'
  | none => e = .returned (.tuple #[.slice none 0 0, .int .i64 2]) ∧ Below w.heap.size w w'

theorem piece_hid (A : Option Addr) (n c k : Nat) (l : List UInt8) (w : World) (h : RB w A n l) (hnc : n ≤ c) (hc : c ≤ 9223372036854775807) (hk : Hid (piece l = k)) :
    Calls Tryz.prog 124 #[.slice A n c] w fun e w' => e = .returned (.int .i64 (k : Int)) ∧ w = w' := by
  have := piece_any A n c l w h hnc hc
  rwa [hk.out] at this
theorem piece_zero (A : Option Addr) (n c : Nat) (l : List UInt8) (w : World) (h : RB w A n l) (hnc : n ≤ c) (hc : c ≤ 9223372036854775807) (hk : Hid (piece l = 0)) :
    Calls Tryz.prog 124 #[.slice A n c] w fun e w' => e = .returned (.int .i64 0) ∧ w = w' := piece_hid A n c 0 l w h hnc hc hk
theorem piece_255 (A : Option Addr) (n c : Nat) (l : List UInt8) (w : World) (h : RB w A n l) (hnc : n ≤ c) (hc : c ≤ 9223372036854775807) (hk : Hid (piece l = 255)) :
    Calls Tryz.prog 124 #[.slice A n c] w fun e w' => e = .returned (.int .i64 255) ∧ w = w' := piece_hid A n c 255 l w h hnc hc hk

set_option maxRecDepth 100000 in
set_option maxHeartbeats 1000000 in
theorem decode_any (A : Option Addr) (n c : Nat) (l : List UInt8) (w : World) (h : RB w A n l) (hnc : n ≤ c) (hc : c ≤ 9223372036854775807) (hE : n ≤ 140737488355328) :
    Calls Tryz.prog 116 #[.slice A n c] w (Deco w (unstuff l)) := by
  obtain ⟨i0, hi0, hz0, hz1, hz2⟩ := info_parts info8
  have hlen := reads_len h
  have HL := Lib.hid hlen
  clear hlen
  go_enter Tryz.func116, Tryz.ntmps116
  go_wp2_with (at_make; refine wpList_make_own _ rfl _ _ 111 rfl w.heap.size 5 i0 _ 1 Tryz.underlying111 hi0 hz0 hz1 _ _ _ n rfl rfl (by omega) ?b1 ?b2 (Nat.le_refl _) ?_)
  case b1 => rw [hz2]; omega
  case b2 => unfold maxLen; omega
  intro w1 hown1 hg1
  have hbel1 : Below w.heap.size w w1 := (Below.refl _ _).grown hg1 (Nat.le_refl _) (by simp)
  have hr1 : Reads w1 w.heap.size 1 A n (vals l) := h.below hbel1
  clear hg1
  go_wp2_with fail
  go_loopw [0, 4] (fun b v wr => ∃ (A' : Option Addr) (n' c' : Nat) (l' acc : List UInt8), b = .slice A' n' c' ∧ Reads wr w.heap.size 1 A' n' (vals l') ∧ n' ≤ c' ∧ c' ≤ 9223372036854775807 ∧
      wr.ownsRow w.heap.size 5 1 v acc.length (vals acc) ∧ acc.length + n' ≤ n ∧ (unstuff l').map (acc ++ ·) = unstuff l ∧ Below w.heap.size w wr)
    (fun b _ _ => lenOf b)
  case atStart => exact ⟨A, n, c, l, [], rfl, hr1, hnc, hc, hown1, by simp, by cases unstuff l <;> simp, hbel1⟩
  case round =>
    obtain ⟨A', n', c', l', acc, rfl, hr, hnc', hc', hown, hsum, heq, hbel⟩ := hrel
    have hB := hbel.size
    have hlen' := reads_len hr
    have hrw : RB wr A' n' l' := hr.more hB
    have hpl := piece_le l'
    have HE := Lib.hid heq
    have HL' := Lib.hid hlen'
    by_cases hp0 : piece l' = 0
    · have HP := Lib.hid hp0
      clear heq hlen' hp0 hpl
      go_wp2_with fail
      refine (piece_zero _ _ _ _ _ hrw hnc' hc' HP).mono ?_
      rintro e w' ⟨rfl, rfl⟩
      go_wp2
      go_ret2
      have h1 := decode_none l' HP.out
      have h2 := HE.out
      rw [h1] at h2
      rw [← h2]
      exact ⟨rfl, hbel⟩
    · by_cases hp255 : piece l' = 255
      · have he := decode_full l' hp255
        have hle : 255 ≤ n' := by omega
        have hcut : ∀ w, (Instr.slice 111 (.slice A' n' c') (some (.int .i64 255)) none none).run Tryz.prog w = .ok (.slice (cutA A' c' 255) (n' - 255) (c' - 255)) w :=
          run_from (P := Tryz.prog) 111 5 Tryz.underlying111 sz A' n' c' 255 hle
        have htail : ∀ w, (Instr.slice 111 (.slice A' n' c') (some (.int .i64 1)) (some (.int .i64 255)) none).run Tryz.prog w = .ok (.slice (cutA A' c' 1) 254 (c' - 1)) w :=
          run_tail (P := Tryz.prog) 111 5 Tryz.underlying111 sz A' n' c' 255 (by omega) (by omega)
        have hread : Reads wr w.heap.size 1 (cutA A' c' 1) 254 (vals ((l'.take 255).drop 1)) := hr.bytes_part (by omega) hle hnc'
        have hrest : Reads wr w.heap.size 1 (cutA A' c' 255) (n' - 255) (vals (l'.drop 255)) := hr.bytes_from hle hnc'
        have hb : acc.length + 254 ≤ 140737488355328 := by omega
        have hm2 : acc.length + 254 ≤ maxLen := by unfold maxLen; omega
        have hs2 : (acc.length + 254) * 1 ≤ 140737488355328 := by rw [Nat.mul_one]; exact hb
        rw [hp255] at he
        have HF := Lib.hid he
        have HP := Lib.hid hp255
        clear heq hlen' hp0 hpl he hp255
        go_wp2_with fail
        refine (piece_255 _ _ _ _ _ hrw hnc' hc' HP).mono ?_
        rintro e w' ⟨rfl, rfl⟩
        go_wp2_with
          (at_builtin
           refine wpList_append_any _ rfl (.tmp 13) (.tmp 16) _ rfl w.heap.size 5 i0 _ 1 1 Tryz.underlying111 hi0 hz0 hz1 hz2 rfl (by decide) _ acc.length (vals acc) rfl hown
             w.heap.size _ 254 _ (vals ((l'.take 255).drop 1)) rfl hread (vals_one _) hm2 hs2 hB ?_
           intro v2 w3 hown3 hg3 hat3
           clear hat3
           obtain ⟨hbel3, hB3, hkeep3⟩ := behind_old hown hbel hB hg3
           clear hg3)
        go_roundw
        case rel =>
          have h1 := HF.out
          have h2 := HE.out
          have h4 := HL'.out
          have hlk : ((l'.take 255).drop 1).length = 254 := by rw [List.length_drop, List.length_take]; omega
          refine ⟨_, _, _, l'.drop 255, acc ++ (l'.take 255).drop 1, rfl, hkeep3 hrest, by omega, by omega, ?_, ?_, ?_, hbel3⟩
          · exact own_cast hown3 (by simp only [List.length_append, hlk]) (by rw [vals_append])
          · rw [List.length_append, hlk]; omega
          · rw [← h2, h1, Option.map_map]
            congr 1
            funext x
            simp
        case measure => simp only [lenOf]; omega
      · obtain ⟨k, hk⟩ : ∃ k, k = piece l' := ⟨_, rfl⟩
        have hk1 : 1 ≤ k := by omega
        have hkn : k ≤ n' := by omega
        have hne : ((k : Int) == 255) = false := by simp; omega
        have hne0 : ((k : Int) == 0) = false := by simp; omega
        have htail := run_tail (P := Tryz.prog) 111 5 Tryz.underlying111 sz A' n' c' k hk1 (by omega)
        have hread : Reads wr w.heap.size 1 (cutA A' c' 1) (k - 1) (vals ((l'.take k).drop 1)) := hr.bytes_part hk1 hkn hnc'
        have hb : acc.length + (k - 1) ≤ 140737488355328 := by omega
        have hm2 : acc.length + (k - 1) ≤ maxLen := by unfold maxLen; omega
        have hs2 : (acc.length + (k - 1)) * 1 ≤ 140737488355328 := by rw [Nat.mul_one]; exact hb
        by_cases hlast : n' = k
        · have he := decode_last l' hp0 hp255 (by omega)
          subst hlast
          have hcut := run_from (P := Tryz.prog) 111 5 Tryz.underlying111 sz A' n' c' n' (Nat.le_refl _)
          rw [Nat.sub_self] at hcut
          rw [← hk] at he
          have HF := Lib.hid he
          have HP := Lib.hid hk.symm
          have hp255' : n' ≠ 255 := by omega
          clear heq hlen' hp0 hpl he hp255 hk
          go_wp2_with fail
          refine (piece_hid _ _ _ _ _ _ hrw hnc' hc' HP).mono ?_
          rintro e w' ⟨rfl, rfl⟩
          go_wp2_with
            (at_builtin
             refine wpList_append_any _ rfl (.tmp 13) (.tmp 16) _ rfl w.heap.size 5 i0 _ 1 1 Tryz.underlying111 hi0 hz0 hz1 hz2 rfl (by decide) _ acc.length (vals acc) rfl hown
               w.heap.size _ (n' - 1) _ (vals ((l'.take n').drop 1)) rfl hread (vals_one _) hm2 hs2 hB ?_
             intro v2 w3 hown3 hg3 hat3
             clear hat3
             obtain ⟨hbel3, hB3, hkeep3⟩ := behind_old hown hbel hB hg3
             clear hg3)
          go_ret2
          have h1 := HF.out
          have h2 := HE.out
          have h4 := HL'.out
          have hlk : ((l'.take n').drop 1).length = n' - 1 := by rw [List.length_drop, List.length_take]; omega
          rw [h1] at h2
          rw [← h2]
          exact made2 hown3 (by rw [List.length_append, hlk]) (by rw [vals_append]) hbel3
        · obtain ⟨d, hd⟩ : ∃ d, n' = k + (d + 1) := ⟨n' - k - 1, by omega⟩
          have he := decode_zero l' hp0 hp255 (by omega)
          subst hd
          have hcut := run_from (P := Tryz.prog) 111 5 Tryz.underlying111 sz A' (k + (d + 1)) c' k hkn
          rw [show k + (d + 1) - k = d + 1 by omega] at hcut
          have hrest : Reads wr w.heap.size 1 (cutA A' c' k) (d + 1) (vals (l'.drop k)) := by
            have h1 := hr.bytes_from (k := k) (by omega) hnc'
            rwa [show k + (d + 1) - k = d + 1 by omega] at h1
          have hm3 : acc.length + (k - 1) + 1 ≤ maxLen := by unfold maxLen; omega
          have hs3 : (acc.length + (k - 1) + 1) * 1 ≤ 140737488355328 := by rw [Nat.mul_one]; omega
          have hBo : ∀ w3 : World, w.heap.size ≤ w3.heap.size → ∀ o : Obj, w.heap.size ≤ (w3.alloc o).heap.size := fun w3 h3 o => by simp; omega
          rw [← hk] at he
          have HF := Lib.hid he
          have HP := Lib.hid hk.symm
          have hp255' : k ≠ 255 := by omega
          clear heq hlen' hp0 hpl he hp255 hk hlast
          go_wp2_with fail
          refine (piece_hid _ _ _ _ _ _ hrw hnc' hc' HP).mono ?_
          rintro e w' ⟨rfl, rfl⟩
          go_wp2_with (first
            | (at_builtin
               refine wpList_append_any _ rfl (.tmp 13) (.tmp 16) _ rfl w.heap.size 5 i0 _ 1 1 Tryz.underlying111 hi0 hz0 hz1 hz2 rfl (by decide) _ acc.length (vals acc) rfl hown
                 w.heap.size _ (k - 1) _ (vals ((l'.take k).drop 1)) rfl hread (vals_one _) hm2 hs2 hB ?_
               intro v2 w3 hown3 hg3 hat3
               clear hat3
               obtain ⟨hbel3, hB3, hkeep3⟩ := behind_old hown hbel hB hg3
               clear hg3)
            | (at_builtin
               refine wpList_append_any _ rfl (.tmp 27) (.tmp 28) _ rfl w.heap.size 5 i0 _ 1 1 Tryz.underlying111 hi0 hz0 hz1 hz2 rfl (by decide) _ (acc.length + (k - 1)) _ rfl (hown3.alloc _)
                 (w3.heap.size + 1) _ 1 1 [.int .u8 0] rfl (reads_one _ _ _) (by simp [Value.oneCell']) hm3 hs3 (hBo _ hB3 _) ?_
               intro v4 w4 hown4 hg4 hat4
               clear hat4
               obtain ⟨hbel4, hB4, hkeep4⟩ := behind_new hown3 hbel3 hB3 hg4
               clear hg4))
          go_roundw
          case rel =>
            have h1 := HF.out
            have h2 := HE.out
            have h4 := HL'.out
            have hlk : ((l'.take k).drop 1).length = k - 1 := by rw [List.length_drop, List.length_take]; omega
            refine ⟨_, _, _, l'.drop k, acc ++ ((l'.take k).drop 1 ++ [0]), rfl, hkeep4 (hkeep3 hrest), by omega, by omega, ?_, ?_, ?_, hbel4⟩
            · refine own_cast hown4 (by simp only [List.length_append, List.length_cons, List.length_nil, hlk]; omega) ?_
              rw [vals_append, vals_append, List.append_assoc]
              rfl
            · simp only [List.length_append, List.length_cons, List.length_nil, hlk]; omega
            · rw [← h2, h1, Option.map_map]
              congr 1
              funext x
              simp
          case measure => simp only [lenOf]; omega
end Go.Proofs.YtamncdpeklbhlaaGreatDoor.StuWalkD
