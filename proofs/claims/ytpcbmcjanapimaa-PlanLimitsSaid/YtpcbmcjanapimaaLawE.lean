/- The walk of the statement that each field of a step is taken at both its ends, and not beyond them. -/
import Derived.Test.YtpcbmcjanapimaaBegun
import Derived.Test.YtpcbmcjanapimaaOpens
import Derived.Test.YtpcbmcjanapimaaAppS
set_option linter.unusedVariables false
set_option linter.unusedSimpArgs false
namespace Go.Proofs.Ytpcbmcjanapimaa.LawE
open Go.RowKit Go.Proofs.Ytpcbmcjanapimaa.Kit Go.Proofs.Ytpcbmcjanapimaa.Rdr Go.Proofs.Ytpcbmcjanapimaa.Stq Go.Proofs.Ytpcbmcjanapimaa.Pln Go.Proofs.Ytpcbmcjanapimaa.Wtr Go.Proofs.Ytpcbmcjanapimaa.WalkA Go.Proofs.Ytpcbmcjanapimaa.Begun Go.Proofs.Ytpcbmcjanapimaa.Opens
open Go.Proofs.Ytpcbmcjanapimaa.AppS (wpList_app)
open Go.Proofs.Ytpcbmcjanapimaa.State (cell_at free_at set_at lt_at)
open Go.Proofs.Ytpcbmcjanapimaa.PckWalkH (str str_size)

/-- The step that all others are. -/
def one : Sp := ⟨1, ⟨#[115]⟩, 1⟩
theorem one_ok : okS one = true := by decide
def zeros (n : Nat) : List UInt8 := List.replicate n 0
theorem made_zeros (w : World) (k : Nat) (hk : k ≤ 100000) : ∃ w', (Instr.makeSlice 30 (.int .i64 (k : Int)) (.int .i64 (k : Int))).run Try.prog w = .ok (.slice (some ⟨w.heap.size, 0, none⟩) k k) w' ∧
    (convert 30 9 (.slice (some ⟨w.heap.size, 0, none⟩) k k)).run Try.prog w' = .ok (.string (str (zeros k))) w' ∧ Below w.heap.size w w' := by
  obtain ⟨i0, hi0, hz0, hz1, hz2⟩ := info_parts PckWalkA.info8
  obtain ⟨w', h1, h2, h3⟩ := run_makeSlice_full (P := Try.prog) w w.heap.size 30 5 i0 _ 1 Try.underlying30 hi0 hz0 hz1 .i64 .i64 k (by omega) (by rw [hz2]; omega) (by unfold maxLen; omega) (Nat.le_refl _)
  have e : (madeCells (Value.int IntKind.u8 0).cells (k * 1)).toList = vals (zeros k) := by
    show (madeCells #[Value.int IntKind.u8 0] (k * 1)).toList = _
    rw [toList_madeCells_one, Nat.mul_one]
    simp [vals, zeros]
  rw [e] at h2
  exact ⟨w', h1, run_string (P := Try.prog) 30 5 9 Try.underlying30 Try.underlying5 Try.underlying9 w' _ _ k k (zeros k) (Reads.of_own h2), (Below.refl _ _).grown h3 (Nat.le_refl _) (by simp)⟩
theorem modk (z : Int) (k : Nat) (hk : 0 < k) (hk2 : k < 1000) : ∃ j : Nat, (wrap64 (z.tmod k + k)).tmod k = (j : Int) ∧ j < k := by
  have h1 := Int.tmod_lt_of_pos z (show (0 : Int) < k by omega)
  have h2 := Int.lt_tmod_of_pos z (show (0 : Int) < k by omega)
  have h3 : wrap64 (z.tmod k + k) = z.tmod k + k := by unfold wrap64; omega
  rw [h3, Int.tmod_eq_emod_of_nonneg (by omega)]
  have h4 := Int.emod_nonneg (z.tmod k + k) (show (k : Int) ≠ 0 by omega)
  have h5 := Int.emod_lt_of_pos (z.tmod k + k) (show (0 : Int) < k by omega)
  exact ⟨((z.tmod k + k) % k).toNat, by omega, by omega⟩

/-- The last step is set. -/
theorem set_last {w : World} {B m : Nat} {v : Value} {l : List Sp} {e e' : Sp} (h : w.ownsRow B 52 3 v (m + 1) (scells (l ++ [e']))) (hl : l.length = m) :
    ∃ g c, v = .slice (some ⟨g, 0, none⟩) (m + 1) c ∧ B ≤ g ∧ g < w.heap.size ∧ m + 1 ≤ c ∧ c ≤ 9223372036854775807 ∧ (∀ i, w.frozen? ⟨g, i, none⟩ = false) ∧ w.cell? ⟨g, m * 3, none⟩ = some (.int .i64 e'.pt) ∧ w.cell? ⟨g, m * 3 + 1, none⟩ = some (.string e'.nm) ∧ w.cell? ⟨g, m * 3 + 2, none⟩ = some (.int .i64 e'.bg) ∧
      ∃ w', ((w.setCell ⟨g, m * 3, none⟩ (.int .i64 e.pt)).setCell ⟨g, m * 3 + 1, none⟩ (.string e.nm)).setCell ⟨g, m * 3 + 2, none⟩ (.int .i64 e.bg) = w' ∧ RS w' w'.heap.size (some ⟨g, 0, none⟩) (m + 1) (l ++ [e]) ∧ State.Only (· = g) w w' := by
  subst hl
  rcases h.2 with ⟨rfl, hx⟩ | ⟨g, cap, cur, rfl, hbg, hg, hnc, hcm, hcs, htake⟩
  · exact absurd hx (by omega)
  · have hc0 : ∀ j u, (scells (l ++ [e']))[j]? = some u → cur[j]? = some u := fun j u hj => by
      rw [← htake] at hj
      rw [List.getElem?_take] at hj
      split at hj
      · simpa using hj
      · cases hj
    have hlen3 : (scells l).length = l.length * 3 := scells_length l
    have hin : ∀ (x : Sp) r, r < 3 → (scells (l ++ [x]))[l.length * 3 + r]? = (spCs x)[r]? := fun x r hr => by
      rw [scells_append, List.getElem?_append_right (by omega), hlen3, scells_one_sp, Nat.add_sub_cancel_left]
    have hold : ∀ (x y : Sp) j, j < l.length * 3 → (scells (l ++ [x]))[j]? = (scells (l ++ [y]))[j]? := fun x y j hj => by
      rw [scells_append, scells_append, List.getElem?_append_left (by omega), List.getElem?_append_left (by omega)]
    have hcell : ∀ r u, r < 3 → (spCs e')[r]? = some u → w.cell? ⟨g, l.length * 3 + r, none⟩ = some u := fun r u hr hu => by
      rw [cell_at hg]
      exact hc0 _ _ (by rw [hin e' r hr]; exact hu)
    have hsz : l.length * 3 + 3 ≤ cur.size := by
      have h2 : cur[l.length * 3 + 2]? = some (.int .i64 e'.bg) := hc0 _ _ (by rw [hin e' 2 (by omega)]; rfl)
      have := (Array.getElem?_eq_some_iff.1 h2).1
      omega
    have g1 := set_at hg (i := l.length * 3) (.int .i64 e.pt)
    have g2 := set_at g1 (i := l.length * 3 + 1) (.string e.nm)
    have g3 := set_at g2 (i := l.length * 3 + 2) (.int .i64 e.bg)
    refine ⟨g, cap, rfl, hbg, lt_at hg, hnc, by unfold maxLen at hcm; omega, fun i => free_at hg i, hcell 0 _ (by omega) rfl, hcell 1 _ (by omega) rfl, hcell 2 _ (by omega) rfl, _, rfl, ⟨?_, fun _ => ⟨_, rfl, lt_at g3, fun j u hj => ?_⟩⟩, ?_⟩
    · rw [scells_length]; simp
    · rw [Addr.add_lit, Nat.zero_add, cell_at g3]
      have hjl : j < l.length * 3 + 3 := by
        have := (List.getElem?_eq_some_iff.1 hj).1
        rw [scells_length] at this
        simp at this
        omega
      rcases Nat.lt_or_ge j (l.length * 3) with h1 | h1
      · rw [hold e e' j h1] at hj
        rw [Array.getElem?_setIfInBounds_ne (by omega), Array.getElem?_setIfInBounds_ne (by omega), Array.getElem?_setIfInBounds_ne (by omega)]
        exact hc0 j u hj
      · obtain ⟨r, rfl⟩ : ∃ r, j = l.length * 3 + r := ⟨j - l.length * 3, by omega⟩
        rw [hin e r (by omega)] at hj
        rcases (show r = 0 ∨ r = 1 ∨ r = 2 by omega) with rfl | rfl | rfl
        · rw [Array.getElem?_setIfInBounds_ne (by omega), Array.getElem?_setIfInBounds_ne (by omega), Nat.add_zero, Array.getElem?_setIfInBounds_self_of_lt (by omega)]
          exact hj
        · rw [Array.getElem?_setIfInBounds_ne (by omega), Array.getElem?_setIfInBounds_self_of_lt (by simp; omega)]
          exact hj
        · rw [Array.getElem?_setIfInBounds_self_of_lt (by simp; omega)]
          exact hj
    · exact ((((State.Only.refl (· = g) w).setCell (a := ⟨g, l.length * 3, none⟩) (.inr rfl) _).setCell (a := ⟨g, l.length * 3 + 1, none⟩) (.inr rfl) _).setCell (a := ⟨g, l.length * 3 + 2, none⟩) (.inr rfl) _)

/-- Which of its fields is first beyond its ends. -/
theorem ways {n name : Nat} {N part budget : Int} {b : Bool} (hN : N = (n : Int)) (hb : decide (1 ≤ n ∧ n ≤ 64 ∧ 0 ≤ part ∧ part < 4 ∧ 1 ≤ name ∧ name ≤ 16 ∧ 1 ≤ budget ∧ budget ≤ 9) = b) :
    (b = true ∧ 1 ≤ N ∧ N ≤ 64 ∧ 0 ≤ part ∧ part < 4 ∧ 1 ≤ (name : Int) ∧ (name : Int) ≤ 16 ∧ 1 ≤ budget ∧ budget ≤ 9) ∨ (b = false ∧ (¬ 1 ≤ N ∨ (1 ≤ N ∧ ¬ N ≤ 64) ∨ (1 ≤ N ∧ N ≤ 64 ∧ ¬ 0 ≤ part) ∨ (1 ≤ N ∧ N ≤ 64 ∧ 0 ≤ part ∧ ¬ part < 4) ∨ (1 ≤ N ∧ N ≤ 64 ∧ 0 ≤ part ∧ part < 4 ∧ ¬ 1 ≤ (name : Int)) ∨ (1 ≤ N ∧ N ≤ 64 ∧ 0 ≤ part ∧ part < 4 ∧ 1 ≤ (name : Int) ∧ ¬ (name : Int) ≤ 16) ∨ (1 ≤ N ∧ N ≤ 64 ∧ 0 ≤ part ∧ part < 4 ∧ 1 ≤ (name : Int) ∧ (name : Int) ≤ 16 ∧ ¬ 1 ≤ budget) ∨ (1 ≤ N ∧ N ≤ 64 ∧ 0 ≤ part ∧ part < 4 ∧ 1 ≤ (name : Int) ∧ (name : Int) ≤ 16 ∧ 1 ≤ budget ∧ ¬ budget ≤ 9))) := by
  subst hN
  cases b
  · have := of_decide_eq_false hb
    right
    refine ⟨rfl, ?_⟩
    omega
  · have := of_decide_eq_true hb
    left
    refine ⟨rfl, ?_⟩
    omega
theorem chk_last {m name : Nat} {part budget : Int} {b : Bool} (hb : decide (1 ≤ m + 1 ∧ m + 1 ≤ 64 ∧ 0 ≤ part ∧ part < 4 ∧ 1 ≤ name ∧ name ≤ 16 ∧ 1 ≤ budget ∧ budget ≤ 9) = b) :
    ((chk (List.replicate m one ++ [⟨part, str (zeros name), budget⟩]) == 0) == b) = true := by
  have hsz : (str (zeros name)).size = name := by rw [str_size]; simp [zeros]
  have hall : (List.replicate m one).all okS = true := by
    rw [List.all_eq_true]
    intro x hx
    rw [(List.mem_replicate.1 hx).2]
    exact one_ok
  have hd : isDef (List.replicate m one ++ [⟨part, str (zeros name), budget⟩]) = b := by
    rw [← hb]
    unfold isDef
    rw [List.all_append, hall]
    simp only [List.all_cons, List.all_nil, okS, hsz, List.length_append, List.length_replicate, List.length_singleton]
    rw [Bool.eq_iff_iff]
    simp only [Bool.and_eq_true, decide_eq_true_eq, Bool.true_and, Bool.and_true]
    omega
  unfold chk
  rw [hd]
  cases b <;> rfl

set_option maxRecDepth 100000 in
set_option maxHeartbeats 4000000 in
theorem limits_walk (x y z u : Int) (w : World) : Calls Try.prog 7 #[.agg #[.int .i64 x, .int .i64 y, .int .i64 z, .int .i64 u]] w fun e w' => e = .returned (.bool true) ∧ Below w.heap.size w w' := by
  obtain ⟨part, hpart⟩ : ∃ p, x.tmod 8 = p := ⟨_, rfl⟩
  obtain ⟨budget, hbud⟩ : ∃ p, z.tmod 14 = p := ⟨_, rfl⟩
  obtain ⟨name, hname, hn30⟩ := modk y 30 (by decide) (by decide)
  obtain ⟨n, hn, hn70⟩ := modk u 70 (by decide) (by decide)
  rw [show ((30 : Nat) : Int) = 30 from rfl] at hname
  rw [show ((70 : Nat) : Int) = 70 from rfl] at hn
  have hbox := heap_alloc_new w (.cells #[.int .i64 x, .int .i64 y, .int .i64 z, .int .i64 u] 50)
  have HPART := Lib.hid hpart
  have HBUD := Lib.hid hbud
  have HNAME := Lib.hid hname
  have HN := Lib.hid hn
  have hb0 : Below w.heap.size w (w.alloc (.cells #[.int .i64 x, .int .i64 y, .int .i64 z, .int .i64 u] 50)) := (Below.refl _ _).alloc (Nat.le_refl _) _
  clear hpart hbud hname hn
  go_enter Try.func7, Try.ntmps7
  obtain ⟨w0, hw0⟩ : ∃ w0, w.alloc (.cells #[.int .i64 x, .int .i64 y, .int .i64 z, .int .i64 u] 50) = w0 := ⟨_, rfl⟩
  rw [hw0] at hb0 hbox
  have c0 : w0.cell? ⟨w.heap.size, 0, none⟩ = some (.int .i64 x) := by rw [cell_at hbox]; rfl
  have c1 : w0.cell? ⟨w.heap.size, 1, none⟩ = some (.int .i64 y) := by rw [cell_at hbox]; rfl
  have c2 : w0.cell? ⟨w.heap.size, 2, none⟩ = some (.int .i64 z) := by rw [cell_at hbox]; rfl
  have c3 : w0.cell? ⟨w.heap.size, 3, none⟩ = some (.int .i64 u) := by rw [cell_at hbox]; rfl
  have hlt0 := lt_at hbox
  have HW0 := Lib.hid hw0
  clear hbox hw0
  go_wp2_with fail
  rw [HW0.out]
  go_quiet (fail)
  go_wp2_with fail
  refine (begun_true _).mono ?_
  rintro e w1 ⟨rfl, hb1⟩
  have hB1 : Below w.heap.size w w1 := (below_drewN hb0 nq).trans (hb1.mono hb0.size)
  clear hb0 hb1 c0 c1 c2 c3 hlt0
  go_wp2
  rw [HPART.out, HBUD.out, HNAME.out, HN.out]
  go_loopw [7, 32] (fun s i wr => ∃ (j : Nat) (v : Value), j ≤ n ∧ s = v ∧ i = .int .i64 (j : Int) ∧ wr.ownsRow w1.heap.size 52 3 v j (scells (List.replicate j one)) ∧ Below w1.heap.size w1 wr) (fun _ i _ => n - (intOf i).toNat)
  case atStart => exact ⟨0, _, by omega, rfl, rfl, World.ownsRow_nil _ _ _ _, Below.refl _ _⟩
  case round =>
    obtain ⟨j, v, hj, rfl, rfl, hown, hbel⟩ := hrel
    by_cases hjn : j < n
    · have HJ := Lib.hid hjn
      obtain ⟨A, c, rfl, _, _, _⟩ := own_form hown
      have hba : ∀ o, Below wr.heap.size wr (wr.alloc o) := fun o => (Below.refl _ _).alloc (Nat.le_refl _) o
      have HOW : Hid (∀ o, (wr.alloc o).ownsRow w1.heap.size 52 3 (.slice A j c) j (scells (List.replicate j one))) := fun o => WalkD.own_keep (State.Only.of_below (hba o)) hown (fun _ _ e => e)
      have HNW : Hid (RS (wr.alloc (.cells #[.int .i64 1, .string ⟨#[115]⟩, .int .i64 1] 52)) (wr.heap.size + 1) (some ⟨wr.heap.size, 0, none⟩) 1 [one]) := sp_new wr one 52
      have HBS : Hid (∀ o, w1.heap.size ≤ (wr.alloc o).heap.size) := fun o => Nat.le_trans hbel.size (hba o).size
      have HBL : Hid (∀ o, Below w1.heap.size w1 (wr.alloc o)) := fun o => hbel.alloc hbel.size o
      have HG : Hid (∀ g, (Value.slice A j c).ownBlock = some g → w1.heap.size ≤ g) := fun g hg => (hown.lt g hg).1
      have hroom : (j + 1) * 32 ≤ 140737488355328 := by omega
      clear hown hbel hba
      go_wp2_with (first
        | (at_builtin
           refine wpList_app _ rfl (.tmp 34) (.tmp 36) rfl _ rfl (HOW.out _) rfl HNW.out (scells_one _) hroom (HBS.out _) ?_
           intro A' c' w7 hown7 hg7 hat7
           have HO7 := Lib.hid hown7
           have HB7 := Lib.hid ((HBL.out _).grown hg7 (HBS.out _) HG.out)
           clear hat7 hg7 hown7))
      go_roundw
      case rel =>
        refine ⟨j + 1, _, HJ.out, rfl, by go_num, ?_, HB7.out⟩
        have := HO7.out
        rw [← scells_append, ← List.replicate_succ'] at this
        exact this
      case measure => have := HJ.out; simp [intOf]; omega
    · obtain rfl : j = n := by omega
      clear hjn
      cases j with
      | zero =>
        obtain ⟨A, c, rfl, _, _, hre⟩ := own_form hown
        have hB2 := hB1.trans (hbel.mono hB1.size)
        have hz := Lib.hid nil_chk
        have hn0 : ∀ e ∈ ([] : List Sp), e.nm.size ≤ 9223372036854775807 := by intro e he; cases he
        clear hown hbel
        simp only [Int.natCast_zero]
        go_wp2_with fail
        with_reducible refine (check_any (l := []) hre (by decide) hn0 hz).mono ?_
        rintro e w2 ⟨rfl, hb2⟩
        go_wp2
        go_ret
        exact ⟨rfl, hB2.trans (hb2.mono hB2.size)⟩
      | succ m =>
        rw [List.replicate_succ'] at hown
        obtain ⟨w2, hmk, hcv, hb2⟩ := made_zeros wr name (by omega)
        have hown2 := WalkD.own_keep (State.Only.of_below hb2) hown (fun _ _ e => e)
        obtain ⟨g, c, rfl, hBg, hgw, hcm, hc63, hfz, q0, q1, q2, w9, hw9, hre9, ho9⟩ := set_last (e := ⟨part, str (zeros name), budget⟩) hown2 (by simp)
        have hgt : 0 < ((m + 1 : Nat) : Int) := by omega
        have hbel2 := hbel.trans (hb2.mono hbel.size)
        have hB9 : Below w.heap.size w w9 := hB1.trans ((hbel2.trans (ho9.below hbel2.size fun k hk => by rw [hk]; exact hBg)).mono hB1.size)
        obtain ⟨b, hb⟩ : ∃ b, decide (1 ≤ m + 1 ∧ m + 1 ≤ 64 ∧ 0 ≤ part ∧ part < 4 ∧ 1 ≤ name ∧ name ≤ 16 ∧ 1 ≤ budget ∧ budget ≤ 9) = b := ⟨_, rfl⟩
        have hww := ways (N := (m : Int) + 1) rfl hb
        have hcmp := chk_last hb
        obtain ⟨Z, hZ⟩ : ∃ Z, chk (List.replicate m one ++ [⟨part, str (zeros name), budget⟩]) = Z := ⟨_, rfl⟩
        rw [hZ] at hcmp
        have hnm : ∀ e ∈ List.replicate m one ++ [⟨part, str (zeros name), budget⟩], e.nm.size ≤ 9223372036854775807 := by
          intro e he
          rcases List.mem_append.1 he with he | he
          · rw [(List.mem_replicate.1 he).2]; decide
          · rw [List.mem_singleton.1 he]
            show (str (zeros name)).size ≤ _
            rw [str_size]
            simp [zeros]
            omega
        obtain ⟨T, hT⟩ : ∃ T, str (zeros name) = T := ⟨_, rfl⟩
        rw [hT] at hcv hw9 hre9 hZ hnm
        have h63 : m + 1 ≤ 9223372036854775807 := by omega
        have HRE := Lib.hid hre9
        have HB9 := Lib.hid hB9
        have HZ := Lib.hid hZ
        have HNM := Lib.hid hnm
        have HW9 := Lib.hid hw9
        have HWW := Lib.hid hww
        have HMK := Lib.hid hmk
        have hmi : (m : Int) < ((m : Int) + 1) := by omega
        clear hown hown2 hbel hbel2 hb2 hre9 hB9 hZ hnm hw9 hww hb hT ho9 hj hmk
        go_wp2_with fail
        rw [HMK.out]
        simp only [Result.andThen]
        rw [Oper.upon_value]
        rcases HWW.out.symm with ⟨rfl, k1 | ⟨k1, k2⟩ | ⟨k1, k2, k3⟩ | ⟨k1, k2, k3, k4⟩ | ⟨k1, k2, k3, k4, k5⟩ | ⟨k1, k2, k3, k4, k5, k6⟩ | ⟨k1, k2, k3, k4, k5, k6, k7⟩ | ⟨k1, k2, k3, k4, k5, k6, k7, k8⟩⟩ | ⟨rfl, k1, k2, k3, k4, k5, k6, k7, k8⟩
        · exact absurd k1 (by omega)
        all_goals
          clear HWW
          try have kk : ¬ budget ≤ 9 := by omega
          go_wp2_with fail
          rw [HW9.out]
          with_reducible refine (check_any HRE.out h63 HNM.out HZ).mono ?_
          rintro e w8 ⟨rfl, hb8⟩
          go_wp2
          go_ret
          exact ⟨rfl, HB9.out.trans (hb8.mono HB9.out.size)⟩
end Go.Proofs.Ytpcbmcjanapimaa.LawE
