/- What the document's own plain reading of pieces answers, walked. -/
import Derived.Test.YtamncdpeklbhlaaGreatDoorStuWalkE
namespace Go.Proofs.YtamncdpeklbhlaaGreatDoor.StuWalkF
open Go.RowKit Go.Proofs.YtamncdpeklbhlaaGreatDoor.Kit Go.Proofs.YtamncdpeklbhlaaGreatDoor.Stuff Go.Proofs.YtamncdpeklbhlaaGreatDoor.StuWalkA Go.Proofs.YtamncdpeklbhlaaGreatDoor.StuWalkE

/-- Both ways of the plain reading. -/
def Plain (w : World) (o : Option (List UInt8 × Bool)) (e : Ending) (w' : World) : Prop :=
  match o with
  | some (r, b) => ∃ v, e = .returned (.tuple #[v, .bool b]) ∧ w'.ownsRow w.heap.size 5 1 v r.length (vals r) ∧ Below w.heap.size w w'
  | none => e = .returned (.tuple #[.slice none 0 0, .bool false]) ∧ Below w.heap.size w w'
theorem plain_made {w w' : World} {r : List UInt8} {b : Bool} {v : Value} {n : Nat} {xs : List Value} (h : w'.ownsRow w.heap.size 5 1 v n xs) (hn : n = r.length) (hx : xs = vals r) (hb : Below w.heap.size w w') :
    Plain w (some (r, b)) (.returned (.tuple #[v, .bool b])) w' := by
  subst hn hx
  exact ⟨v, rfl, h, hb⟩

/-- What is still to be read, behind what was. -/
def rest (acc : List UInt8) (o : Option (List UInt8 × Bool)) : Option (List UInt8 × Bool) := o.map fun x => (acc ++ x.1, x.2)
theorem rest_nil (o : Option (List UInt8 × Bool)) : rest [] o = o := by cases o <;> rfl
theorem rest_rest (a b : List UInt8) (o : Option (List UInt8 × Bool)) : rest a (rest b o) = rest (a ++ b) o := by cases o <;> simp [rest]

/-- The three ways in which no piece stands there, and the one in which one does. -/
theorem piece_ways (x : UInt8) (t : List UInt8) :
    (piece (x :: t) = 0 ∧ x.toNat = 0) ∨ (piece (x :: t) = 0 ∧ 1 ≤ x.toNat ∧ t.length + 1 < x.toNat) ∨
    (piece (x :: t) = 0 ∧ 1 ≤ x.toNat ∧ x.toNat ≤ t.length + 1 ∧ zl (((x :: t).take x.toNat).drop 1) < x.toNat - 1) ∨
    (piece (x :: t) = x.toNat ∧ 1 ≤ x.toNat ∧ x.toNat ≤ t.length + 1 ∧ zl (((x :: t).take x.toNat).drop 1) = x.toNat - 1) := by
  rw [piece_cons]
  by_cases h0 : x = 0
  · subst h0
    exact .inl ⟨rfl, rfl⟩
  · have hx1 : 1 ≤ x.toNat := by
      rcases Nat.eq_zero_or_pos x.toNat with e | e
      · exact absurd (by rw [← UInt8.toNat_inj]; simpa using e) h0
      · exact e
    have et : ((x :: t).take x.toNat).drop 1 = t.take (x.toNat - 1) := by
      obtain ⟨k, hk⟩ : ∃ k, x.toNat = k + 1 := ⟨x.toNat - 1, by omega⟩
      rw [hk]; simp
    rw [if_neg h0, et]
    by_cases h1 : t.length + 1 < x.toNat
    · exact .inr (.inl ⟨by rw [if_pos h1], hx1, h1⟩)
    · by_cases h2 : zl (t.take (x.toNat - 1)) < x.toNat - 1
      · exact .inr (.inr (.inl ⟨by rw [if_neg h1, if_pos h2], hx1, by omega, h2⟩))
      · have := zl_le (t.take (x.toNat - 1))
        rw [List.length_take] at this
        exact .inr (.inr (.inr ⟨by rw [if_neg h1, if_neg h2], hx1, by omega, by omega⟩))

set_option maxRecDepth 100000 in
set_option maxHeartbeats 2000000 in
theorem plain_any (A : Option Addr) (n c : Nat) (l : List UInt8) (w : World) (h : RB w A n l) (hnc : n ≤ c) (hc : c ≤ 9223372036854775807) (hE : n ≤ 70368744177664) :
    Calls Tryz.prog 128 #[.slice A n c] w (Plain w (plain true true l)) := by
  obtain ⟨i0, hi0, hi1, hi2, hi3⟩ := info_parts info8
  go_enter Tryz.func128, Tryz.ntmps128
  go_wp2_with fail
  go_loopw [0, 4, 5, 6] (fun b v fu fi wr => ∃ (A' : Option Addr) (n' c' : Nat) (l' acc : List UInt8) (first full : Bool), b = .slice A' n' c' ∧ fu = .bool full ∧ fi = .bool first ∧ (first = true → full = true) ∧ Reads wr w.heap.size 1 A' n' (vals l') ∧ n' ≤ c' ∧ c' ≤ 9223372036854775807 ∧
      wr.ownsRow w.heap.size 5 1 v acc.length (vals acc) ∧ acc.length + n' ≤ n ∧ rest acc (plain first full l') = plain true true l ∧ Below w.heap.size w wr)
    (fun b _ _ _ _ => lenOf b)
  case atStart => exact ⟨A, n, c, l, [], true, true, rfl, rfl, rfl, fun _ => rfl, h, hnc, hc, World.ownsRow_nil _ _ _ _, by simp, rest_nil _, Below.refl _ _⟩
  case round =>
    obtain ⟨A', n', c', l', acc, first, full, rfl, rfl, rfl, hff, hr, hnc', hc', hown, hsum, heq, hbel⟩ := hrel
    have hB := hbel.size
    have hlen' := reads_len hr
    have HE := Lib.hid heq
    have HL' := Lib.hid hlen'
    have HFF := Lib.hid hff
    clear heq hff
    cases l' with
    | nil =>
      have h0 : n' = 0 := by simpa using hlen'.symm
      subst h0
      clear hlen'
      go_wp2_with fail
      go_ret2
      have h2 := HE.out
      rw [plain_end first full [] rfl] at h2
      rw [← h2]
      exact plain_made hown (by simp) (by simp) hbel
    | cons x t =>
      have hlt : t.length + 1 = n' := by simpa using hlen'
      have hn0 : 0 < n' := by omega
      obtain ⟨b, o, rfl, hbb, hcell⟩ := hr.byte hn0 (by simp)
      have hcell' : wr.cell? ⟨b, o, none⟩ = some (.int .u8 (x.toNat : Int)) := by simpa using hcell
      have hx := x.toNat_lt
      have hw4 := piece_ways x t
      obtain ⟨y, hy⟩ : ∃ y, y = x.toNat := ⟨_, rfl⟩
      rw [← hy] at hw4 hcell' hx
      have hpos : (0 : Int) < (n' : Int) := by omega
      have hnone : piece (x :: t) = 0 → plain true true l = none := fun e => by rw [← HE.out, plain_none first full (x :: t) (by simp) e]; rfl
      have HN := Lib.hid hnone
      have HLT := Lib.hid hlt
      clear hcell hy hnone hlen'
      rcases hw4 with ⟨hp, hy0⟩ | ⟨hp, hy1, hbig⟩ | ⟨hp, hy1, hle, hz⟩ | ⟨hp, hy1, hle, hz⟩
      · subst hy0
        have HP := Lib.hid hp
        clear hp hlt
        go_wp2_with fail
        go_ret2
        rw [HN.out HP.out]
        exact ⟨rfl, hbel⟩
      · have hy0 : ((y : Int) == 0) = false := by simp; omega
        have hb2 : (n' : Int) < (y : Int) := by omega
        have HP := Lib.hid hp
        clear hp hlt
        go_wp2_with fail
        go_ret2
        rw [HN.out HP.out]
        exact ⟨rfl, hbel⟩
      · have hy0 : ((y : Int) == 0) = false := by simp; omega
        have hb2 : ¬ (n' : Int) < (y : Int) := by omega
        have htail := run_tail (P := Tryz.prog) 111 5 Tryz.underlying111 sz (some ⟨b, o, none⟩) n' c' y hy1 (by omega)
        have hread : Reads wr w.heap.size 1 (cutA (some ⟨b, o, none⟩) c' 1) (y - 1) (vals (((x :: t).take y).drop 1)) := hr.bytes_part hy1 (by omega) hnc'
        obtain ⟨z, hz1⟩ : ∃ z, z = zl (((x :: t).take y).drop 1) := ⟨_, rfl⟩
        rw [← hz1] at hz
        have hz2 : decide ((z : Int) < (y : Int) - 1) = true := by simp; omega
        have HZ := Lib.hid hz1.symm
        have HP := Lib.hid hp
        clear hp hlt hz1
        go_wp2_with fail
        refine (zero_hid _ _ _ z _ _ (hread.more hB) (by omega) (by omega) HZ).mono ?_
        rintro e w' ⟨rfl, rfl⟩
        go_wp2_with fail
        go_ret2
        rw [HN.out HP.out]
        exact ⟨rfl, hbel⟩
      · have hy0 : ((y : Int) == 0) = false := by simp; omega
        have hb2 : ¬ (n' : Int) < (y : Int) := by omega
        have htail := run_tail (P := Tryz.prog) 111 5 Tryz.underlying111 sz (some ⟨b, o, none⟩) n' c' y hy1 (by omega)
        have hread : Reads wr w.heap.size 1 (cutA (some ⟨b, o, none⟩) c' 1) (y - 1) (vals (((x :: t).take y).drop 1)) := hr.bytes_part hy1 (by omega) hnc'
        have hcut := run_from (P := Tryz.prog) 111 5 Tryz.underlying111 sz (some ⟨b, o, none⟩) n' c' y (by omega)
        have hrest : Reads wr w.heap.size 1 (cutA (some ⟨b, o, none⟩) c' y) (n' - y) (vals ((x :: t).drop y)) := hr.bytes_from (by omega) hnc'
        obtain ⟨z, hz1⟩ : ∃ z, z = zl (((x :: t).take y).drop 1) := ⟨_, rfl⟩
        rw [← hz1] at hz
        have hz2 : decide ((z : Int) < (y : Int) - 1) = false := by simp; omega
        have hz3 : z ≤ n' := by omega
        have hlk : (((x :: t).take y).drop 1).length = y - 1 := by rw [List.length_drop, List.length_take, List.length_cons]; omega
        have HZ := Lib.hid hz1.symm
        have HP := Lib.hid hp
        have HK := Lib.hid hlk
        have hm2 : acc.length + (y - 1) ≤ maxLen := by unfold maxLen; omega
        have hs2 : (acc.length + (y - 1)) * 1 ≤ 140737488355328 := by rw [Nat.mul_one]; omega
        have hm1 : acc.length + 1 ≤ maxLen := by unfold maxLen; omega
        have hs1 : (acc.length + 1) * 1 ≤ 140737488355328 := by rw [Nat.mul_one]; omega
        have hm3 : acc.length + 1 + (y - 1) ≤ maxLen := by unfold maxLen; omega
        have hs3 : (acc.length + 1 + (y - 1)) * 1 ≤ 140737488355328 := by rw [Nat.mul_one]; omega
        have hBo : ∀ o : Obj, w.heap.size ≤ (wr.alloc o).heap.size := fun o => by simp; omega
        have hb255 : ((y : Int) == 255) = decide (y = 255) := by
          by_cases e : y = 255
          · subst e; rfl
          · rw [decide_eq_false e]; simp; omega
        have H255 := Lib.hid hb255
        clear hp hlt hz1 hz hlk hb255
        go_wp2_with fail
        refine (zero_hid _ _ _ z _ _ (hread.more hB) (by omega) (by omega) HZ).mono ?_
        rintro e w' ⟨rfl, rfl⟩
        by_cases hsep : first = false ∧ full = false
        · obtain ⟨rfl, rfl⟩ := hsep
          go_wp2_with (first
            | (at_builtin
               refine wpList_append_any _ rfl (.tmp 38) (.tmp 39) _ rfl w.heap.size 5 i0 _ 1 1 Tryz.underlying111 hi0 hi1 hi2 hi3 rfl (by decide) _ acc.length (vals acc) rfl (hown.alloc _)
                 (wr.heap.size + 1) _ 1 1 [.int .u8 0] rfl (reads_one _ _ _) (by simp [Value.oneCell']) hm1 hs1 (hBo _) ?_
               intro v1 w2 hown2 hg2 hat2
               clear hat2
               obtain ⟨hbel2, hB2, hkeep2⟩ := behind_new hown hbel hB hg2
               have hread2 := hkeep2 hread
               clear hg2)
            | (at_builtin
               refine wpList_append_any _ rfl (.tmp 41) (.tmp 44) _ rfl w.heap.size 5 i0 _ 1 1 Tryz.underlying111 hi0 hi1 hi2 hi3 rfl (by decide) v1 (acc.length + 1) (vals acc ++ [.int .u8 0]) rfl hown2
                 w.heap.size _ (y - 1) _ (vals (((x :: t).take y).drop 1)) rfl hread2 (vals_one _) hm3 hs3 hB2 ?_
               intro v2 w3 hown3 hg3 hat3
               clear hat3
               obtain ⟨hbel3, hB3, hkeep3⟩ := behind_old hown2 hbel2 hB2 hg3
               clear hg3))
          go_roundw
          case rel =>
            refine ⟨_, _, _, (x :: t).drop y, acc ++ 0 :: ((x :: t).take y).drop 1, false, decide (y = 255), rfl, congrArg Value.bool H255.out, rfl, fun e => absurd e (by simp), hkeep3 (hkeep2 hrest), by omega, by omega, ?_, ?_, ?_, hbel3⟩
            · refine own_cast hown3 (by rw [List.length_append, List.length_cons, HK.out]; omega) ?_
              rw [vals_append, List.append_assoc]
              rfl
            · rw [List.length_append, List.length_cons, HK.out]; omega
            · rw [← HE.out, plain_more _ _ (x :: t) (by have := HP.out; omega), HP.out]
              exact (rest_rest _ _ _).symm
          case measure => simp only [lenOf]; omega
        · have hfull : full = true := by
            cases full
            · cases first
              · exact absurd ⟨rfl, rfl⟩ hsep
              · exact absurd (HFF.out rfl) (by simp)
            · rfl
          subst hfull
          clear hsep
          cases first
          all_goals
            go_wp2_with
              (at_builtin
               refine wpList_append_any _ rfl (.tmp 41) (.tmp 44) _ rfl w.heap.size 5 i0 _ 1 1 Tryz.underlying111 hi0 hi1 hi2 hi3 rfl (by decide) _ acc.length (vals acc) rfl hown
                 w.heap.size _ (y - 1) _ (vals (((x :: t).take y).drop 1)) rfl hread (vals_one _) hm2 hs2 hB ?_
               intro v2 w3 hown3 hg3 hat3
               clear hat3
               obtain ⟨hbel3, hB3, hkeep3⟩ := behind_old hown hbel hB hg3
               clear hg3)
            go_roundw
            case rel =>
              refine ⟨_, _, _, (x :: t).drop y, acc ++ ((x :: t).take y).drop 1, false, decide (y = 255), rfl, congrArg Value.bool H255.out, rfl, fun e => absurd e (by simp), hkeep3 hrest, by omega, by omega, ?_, ?_, ?_, hbel3⟩
              · exact own_cast hown3 (by rw [List.length_append, HK.out]) (by rw [vals_append])
              · rw [List.length_append, HK.out]; omega
              · rw [← HE.out, plain_more _ _ (x :: t) (by have := HP.out; omega), HP.out]
                exact (rest_rest _ _ _).symm
            case measure => simp only [lenOf]; omega
end Go.Proofs.YtamncdpeklbhlaaGreatDoor.StuWalkF
