/- What the document's Check and Same answer, walked. No statement is proved here. -/
import Derived.Test.YthaepkpmpnofgaaGreatGN
import Derived.Test.YthaepkpmpnofgaaGreatHWtr
import Derived.BigQuiet
import Derived.Deep.QuietTactic
set_option linter.unusedVariables false
set_option linter.unusedSimpArgs false
namespace Go.Proofs.YthaepkpmpnofgaaGreat.PlnWalkA
open Go.RowKit Go.Proofs.YthaepkpmpnofgaaGreat.Kit Go.Proofs.YthaepkpmpnofgaaGreat.Stq Go.Proofs.YthaepkpmpnofgaaGreat.Pln
open Go.Proofs.YthaepkpmpnofgaaGreat.State (cell_at free_at lt_at)

set_option maxRecDepth 100000 in
set_option maxHeartbeats 1000000 in
theorem sound_any (pt : Int) (nm : ByteArray) (bg : Int) (hn : nm.size ≤ 9223372036854775807) (w : World) : Calls Tryz.prog 122 #[.agg #[.int .i64 pt, .string nm, .int .i64 bg]] w fun e w' => e = .returned (.bool (okS ⟨pt, nm, bg⟩)) ∧ Below w.heap.size w w' := by
  obtain ⟨b, hb⟩ : ∃ b, okS ⟨pt, nm, bg⟩ = b := ⟨_, rfl⟩
  have hd : (b = true ∧ 0 ≤ pt ∧ pt < 4 ∧ 1 ≤ (nm.size : Int) ∧ (nm.size : Int) ≤ 16 ∧ 1 ≤ bg ∧ bg ≤ 9) ∨ (b = false ∧ (pt < 0 ∨ (0 ≤ pt ∧ 4 ≤ pt) ∨ (0 ≤ pt ∧ pt < 4 ∧ ¬ 1 ≤ (nm.size : Int)) ∨ (0 ≤ pt ∧ pt < 4 ∧ 1 ≤ (nm.size : Int) ∧ ¬ (nm.size : Int) ≤ 16) ∨ (0 ≤ pt ∧ pt < 4 ∧ 1 ≤ (nm.size : Int) ∧ (nm.size : Int) ≤ 16 ∧ ¬ 1 ≤ bg) ∨ (0 ≤ pt ∧ pt < 4 ∧ 1 ≤ (nm.size : Int) ∧ (nm.size : Int) ≤ 16 ∧ 1 ≤ bg ∧ ¬ bg ≤ 9))) := by
    unfold okS at hb
    simp only at hb
    cases b
    · have := of_decide_eq_false hb
      right
      refine ⟨rfl, ?_⟩
      omega
    · have := of_decide_eq_true hb
      left
      refine ⟨rfl, ?_⟩
      omega
  rw [hb]
  clear hb
  have hbo : ∀ o, Below w.heap.size w (w.alloc o) := fun o => (Below.refl _ _).alloc (Nat.le_refl _) o
  rcases hd with ⟨rfl, h1, h2, h3, h4, h5, h6⟩ | ⟨rfl, h | ⟨h1, h2⟩ | ⟨h1, h2, h3⟩ | ⟨h1, h2, h3, h4⟩ | ⟨h1, h2, h3, h4, h5⟩ | ⟨h1, h2, h3, h4, h5, h6⟩⟩
  all_goals
    go_enter Tryz.func122, Tryz.ntmps122
    go_wp2
    go_ret
    exact ⟨rfl, hbo _⟩

set_option maxRecDepth 100000 in
set_option maxHeartbeats 1000000 in
theorem check_any {w : World} {A : Option Addr} {n c : Nat} {l : List Sp} (hr : RS w w.heap.size A n l) (h63 : n ≤ 9223372036854775807) (hnm : ∀ e ∈ l, e.nm.size ≤ 9223372036854775807) {z : Int} (hz : Hid (chk l = z)) :
    Calls Tryz.prog 96 #[.slice A n c] w fun e w' => e = .returned (.int .i64 z) ∧ Below w.heap.size w w' := by
  have hl := RS.len hr
  by_cases h1 : n < 1
  · obtain rfl : z = 44 := hz.out.symm.trans (chk_many (by omega))
    have h1' : (n : Int) < 1 := by omega
    clear hz hl
    go_enter Tryz.func96, Tryz.ntmps96
    go_wp2
    go_ret
    exact ⟨rfl, Below.refl _ _⟩
  · by_cases h64 : 64 < n
    · obtain rfl : z = 44 := hz.out.symm.trans (chk_many (by omega))
      have h1' : ¬ (n : Int) < 1 := by omega
      have h64' : 64 < (n : Int) := by omega
      clear hz hl
      go_enter Tryz.func96, Tryz.ntmps96
      go_wp2
      go_ret
      exact ⟨rfl, Below.refl _ _⟩
    · have h1' : ¬ (n : Int) < 1 := by omega
      have h64' : ¬ 64 < (n : Int) := by omega
      have HL := Lib.hid hl
      have HN := Lib.hid hnm
      clear hl hnm
      go_enter Tryz.func96, Tryz.ntmps96
      go_wp2
      go_loopw [15] (fun x wr => ∃ j : Nat, j ≤ n ∧ x = .int .i64 (j : Int) ∧ Below w.heap.size w wr ∧ Hid (∀ i, i < j → ∀ x, l[i]? = some x → okS x = true)) (fun x _ => n - (intOf x).toNat)
      case atStart => exact ⟨0, by omega, rfl, Below.refl _ _, fun i hi => absurd hi (by omega)⟩
      case round =>
        obtain ⟨j, hj, rfl, hbel, hall⟩ := hrel
        by_cases hjn : j < n
        · obtain ⟨bk, o, e, rfl, hbl, he, hthree⟩ := RS.at_ hr hjn
          have hfr := Three.below hthree hbel hbl
          have c0 := hfr.c0
          have c1 := hfr.c1
          have c2 := hfr.c2
          have hsz := HN.out e (List.mem_of_getElem? he)
          obtain ⟨pt, nm, bg⟩ := e
          simp only at c0 c1 c2 hsz
          have HE := Lib.hid he
          have HJ := Lib.hid hjn
          clear hfr hthree he
          have hbo : ∀ o, Below w.heap.size w (wr.alloc o) := fun o => hbel.alloc hbel.size _
          go_wp2_with fail
          with_reducible refine (sound_any pt nm bg hsz _).mono ?_
          rintro e w1 ⟨rfl, hb1⟩
          obtain ⟨b, hb⟩ : ∃ b, okS ⟨pt, nm, bg⟩ = b := ⟨_, rfl⟩
          have hB1 := (hbo (.cells #[.int .i64 pt, .string nm, .int .i64 bg] 67)).trans (hb1.mono (by simp; have := hbel.size; omega))
          rw [hb]
          have HB := Lib.hid hb
          clear hb hb1
          cases b
          · obtain rfl : z = 44 := hz.out.symm.trans (chk_one HE.out HB.out)
            go_wp2
            go_ret
            exact ⟨rfl, hB1⟩
          · go_wp2
            go_roundw
            case rel => exact ⟨j + 1, HJ.out, by go_num, hB1, first_more HE.out hall.out HB.out⟩
            case measure => have := HJ.out; simp [intOf]; omega
        · obtain rfl : j = n := by omega
          obtain rfl : z = 0 := hz.out.symm.trans (chk_all (by rw [HL.out]; omega) (by rw [HL.out]; omega) (by rw [HL.out]; exact hall.out))
          go_wp2
          go_ret
          exact ⟨rfl, hbel⟩
end Go.Proofs.YthaepkpmpnofgaaGreat.PlnWalkA
set_option linter.unusedVariables false
set_option linter.unusedSimpArgs false
namespace Go.Proofs.YthaepkpmpnofgaaGreat.PlnWalkB
open Go.RowKit Go.Proofs.YthaepkpmpnofgaaGreat.Kit Go.Proofs.YthaepkpmpnofgaaGreat.Stq Go.Proofs.YthaepkpmpnofgaaGreat.Pln
open Go.Proofs.YthaepkpmpnofgaaGreat.State (cell_at free_at lt_at)

set_option maxRecDepth 100000 in
set_option maxHeartbeats 4000000 in
theorem rcheck_any {w : World} {A : Option Addr} {n c : Nat} {l : List Sp} (hr : RS w w.heap.size A n l) (h63 : n ≤ 9223372036854775807) (hnm : ∀ e ∈ l, e.nm.size ≤ 9223372036854775807) {z : Int} (hz : Hid (chk l = z)) :
    Calls Tryz.prog 56 #[.slice A n c] w fun e w' => e = .returned (.int .i64 z) ∧ Below w.heap.size w w' := by
  have hl := RS.len hr
  by_cases hout : n = 0 ∨ 64 < n
  · obtain rfl : z = 44 := hz.out.symm.trans (chk_many (by omega))
    clear hz hl
    rcases hout with rfl | h64
    · go_enter Tryz.func56, Tryz.ntmps56
      go_wp2
      go_loopw [3, 4] (fun b x wr => b = .bool true ∧ x = .int .i64 0 ∧ Below w.heap.size w wr) (fun _ _ _ => 0)
      case atStart => exact ⟨rfl, rfl, Below.refl _ _⟩
      case round =>
        obtain ⟨rfl, rfl, hbel⟩ := hrel
        go_wp2
        go_ret
        exact ⟨rfl, hbel⟩
    · have h0' : ¬ (n : Int) = 0 := by omega
      have h0e : ((n : Int) == 0) = false := by simpa using h0'
      have h64' : 64 < (n : Int) := by omega
      have h0'' : 0 < (n : Int) := by omega
      clear h0'
      go_enter Tryz.func56, Tryz.ntmps56
      go_wp2
      go_loopw [3, 4] (fun b x wr => b = .bool true ∧ x = .int .i64 0 ∧ Below w.heap.size w wr) (fun _ _ _ => 0)
      case atStart => exact ⟨rfl, rfl, Below.refl _ _⟩
      case round =>
        obtain ⟨rfl, rfl, hbel⟩ := hrel
        go_wp2
        go_ret
        exact ⟨rfl, hbel⟩
  · have h0e : ((n : Int) == 0) = false := by simp; omega
    have h64' : ¬ 64 < (n : Int) := by omega
    have hn0 : 1 ≤ n := by omega
    have hn64 : n ≤ 64 := by omega
    have HL := Lib.hid hl
    have HN := Lib.hid hnm
    clear hl hnm hout
    go_enter Tryz.func56, Tryz.ntmps56
    go_wp2
    go_loopw [3, 4] (fun b x wr => ∃ (j : Nat) (q : Bool), j ≤ n ∧ b = .bool q ∧ x = .int .i64 (j : Int) ∧ Below w.heap.size w wr ∧ Hid ((q = true ∧ chk l = 44) ∨ (q = false ∧ ∀ i, i < j → ∀ x, l[i]? = some x → okS x = true))) (fun _ x _ => n - (intOf x).toNat)
    case atStart => exact ⟨0, false, by omega, rfl, rfl, Below.refl _ _, .inr ⟨rfl, fun i hi => absurd hi (by omega)⟩⟩
    case round =>
      obtain ⟨j, q, hj, rfl, rfl, hbel, hall⟩ := hrel
      rcases hall.out with ⟨rfl, h44⟩ | ⟨rfl, hok⟩
      · obtain rfl : z = 44 := hz.out.symm.trans h44
        clear h44 hall
        by_cases hjn : j < n
        · go_wp2
          go_ret
          exact ⟨rfl, hbel⟩
        · obtain rfl : j = n := by omega
          go_wp2
          go_ret
          exact ⟨rfl, hbel⟩
      · have HOK := Lib.hid hok
        clear hok hall
        by_cases hjn : j < n
        · obtain ⟨bk, o, e, rfl, hbl, he, hthree⟩ := RS.at_ hr hjn
          have hfr := Three.below hthree hbel hbl
          have c0 := hfr.c0
          have c1 := hfr.c1
          have c2 := hfr.c2
          have hsz := HN.out e (List.mem_of_getElem? he)
          obtain ⟨pt, nm, bg⟩ := e
          simp only at c0 c1 c2 hsz
          have HE := Lib.hid he
          have HJ := Lib.hid hjn
          have hbo : ∀ o, Below w.heap.size w (wr.alloc o) := fun o => hbel.alloc hbel.size _
          have hd : (okS ⟨pt, nm, bg⟩ = true ∧ ¬ pt < 0 ∧ ¬ 3 < pt ∧ ¬ (nm.size : Int) < 1 ∧ ¬ 16 < (nm.size : Int) ∧ ¬ bg < 1 ∧ ¬ 9 < bg) ∨ (okS ⟨pt, nm, bg⟩ = false ∧ (pt < 0 ∨ (¬ pt < 0 ∧ 3 < pt) ∨ (¬ pt < 0 ∧ ¬ 3 < pt ∧ (nm.size : Int) < 1) ∨ (¬ pt < 0 ∧ ¬ 3 < pt ∧ ¬ (nm.size : Int) < 1 ∧ 16 < (nm.size : Int)) ∨ (¬ pt < 0 ∧ ¬ 3 < pt ∧ ¬ (nm.size : Int) < 1 ∧ ¬ 16 < (nm.size : Int) ∧ bg < 1) ∨ (¬ pt < 0 ∧ ¬ 3 < pt ∧ ¬ (nm.size : Int) < 1 ∧ ¬ 16 < (nm.size : Int) ∧ ¬ bg < 1 ∧ 9 < bg))) := by
            unfold okS
            simp only [decide_eq_true_eq, decide_eq_false_iff_not]
            omega
          clear hfr hthree he
          rcases hd with ⟨hb, h1, h2, h3, h4, h5, h6⟩ | ⟨hb, h | ⟨h1, h2⟩ | ⟨h1, h2, h3⟩ | ⟨h1, h2, h3, h4⟩ | ⟨h1, h2, h3, h4, h5⟩ | ⟨h1, h2, h3, h4, h5, h6⟩⟩
          all_goals
            have HB := Lib.hid hb
            clear hb
            go_wp2
            go_roundw
            case rel =>
              first
                | exact ⟨j + 1, false, HJ.out, rfl, by go_num, hbo _, .inr ⟨rfl, first_more HE.out HOK.out HB.out⟩⟩
                | exact ⟨j + 1, true, HJ.out, rfl, by go_num, hbo _, .inl ⟨rfl, chk_one HE.out HB.out⟩⟩
            case measure => have := HJ.out; simp [intOf]; omega
        · obtain rfl : j = n := by omega
          obtain rfl : z = 0 := hz.out.symm.trans (chk_all (by rw [HL.out]; omega) (by rw [HL.out]; omega) (by rw [HL.out]; exact HOK.out))
          go_wp2
          go_ret
          exact ⟨rfl, hbel⟩

/-! ### Same -/
theorem text_eq (d d' : ByteArray) : d.toList = d'.toList ↔ d = d' := by
  constructor
  · intro h
    rw [Lib.toList_data, Lib.toList_data] at h
    rw [← Lib.mk_data d, h, Lib.mk_data]
  · intro h
    rw [h]
theorem run_neq (a : Int) (d : ByteArray) (b a' : Int) (d' : ByteArray) (b' : Int) (u : Bool) (hu : u = false ↔ (⟨a, d, b⟩ : Sp) = ⟨a', d', b'⟩) (w : World) :
    (binOp .neq 67 (.agg #[.int .i64 a, .string d, .int .i64 b]) (.agg #[.int .i64 a', .string d', .int .i64 b'])).run Tryz.prog w = .ok (.bool u) w := by
  simp only [Sp.mk.injEq] at hu
  simp [binOp, Op.equal, Op.maxDepth, go_sem]
  have ht := text_eq d d'
  by_cases h1 : a = a'
  · by_cases h4 : d = d'
    · by_cases h2 : b = b'
      · have : u = false := hu.2 ⟨h1, h4, h2⟩
        simp [h1, h2, ht.2 h4, this]
      · have : u = true := by cases u; exact absurd (hu.1 rfl).2.2 h2; rfl
        simp [h1, h2, ht.2 h4, this]
    · have : u = true := by cases u; exact absurd (hu.1 rfl).2.1 h4; rfl
      simp [h1, mt ht.1 h4, this]
  · have : u = true := by cases u; exact absurd (hu.1 rfl).1 h1; rfl
    simp [h1, this]
set_option maxRecDepth 100000 in
set_option maxHeartbeats 1000000 in
/-- Slices of steps. -/
theorem sps_any {w : World} {A C : Option Addr} {n m ca cc : Nat} {l l' : List Sp} (ha : RS w w.heap.size A n l) (hc : RS w w.heap.size C m l') (h63 : n ≤ 9223372036854775807) (b : Bool) (hb : b = true ↔ l = l') :
    Calls Tryz.prog 54 #[.slice A n ca, .slice C m cc] w fun e w' => e = .returned (.bool b) ∧ Below w.heap.size w w' := by
  have hl := RS.len ha
  have hl' := RS.len hc
  by_cases hnm : n = m
  · subst hnm
    have HB : Hid (b = true ↔ l = l') := hb
    have HL := Lib.hid hl
    have HL' := Lib.hid hl'
    clear hb hl hl'
    go_enter Tryz.func54, Tryz.ntmps54
    go_wp2
    go_loopw [5] (fun x wr => ∃ k : Nat, k ≤ n ∧ x = .int .i64 (k : Int) ∧ Below w.heap.size w wr ∧ Hid (∀ i, i < k → l[i]? = l'[i]?)) (fun x _ => n - (intOf x).toNat)
    case atStart => exact ⟨0, by omega, rfl, Below.refl _ _, fun i hi => absurd hi (by omega)⟩
    case round =>
      obtain ⟨k, hk, rfl, hbel, hall⟩ := hrel
      by_cases hkn : k < n
      · obtain ⟨bk, o, e, rfl, hbl, he, hthree⟩ := RS.at_ ha hkn
        obtain ⟨bk', o', e', rfl, hbl', he', hthree'⟩ := RS.at_ hc hkn
        have hfr := Three.below hthree hbel hbl
        have hfr' := Three.below hthree' hbel hbl'
        have c0 := hfr.c0
        have c1 := hfr.c1
        have c2 := hfr.c2
        have d0 := hfr'.c0
        have d1 := hfr'.c1
        have d2 := hfr'.c2
        have HJ := Lib.hid hkn
        by_cases heq : e = e'
        · subst heq
          have hx : ∀ i, i < k + 1 → l[i]? = l'[i]? := by
            intro i hi
            rcases Nat.lt_succ_iff_lt_or_eq.1 hi with h1 | rfl
            · exact hall.out i h1
            · rw [he, he']
          obtain ⟨pt, nm, bg⟩ := e
          simp only at c0 c1 c2 d0 d1 d2
          have hneq := run_neq pt nm bg pt nm bg false (by simp)
          have HX := Lib.hid hx
          clear hfr hfr' hthree hthree' he he' ha hc hall hx
          go_wp2_with fail
          go_quiet (fail)
          all_goals go_wp2
          all_goals
            go_roundw
            case rel => exact ⟨k + 1, HJ.out, by go_num, below_drewN hbel _, HX.out⟩
            case measure => have := HJ.out; simp [intOf]; omega
        · obtain rfl : b = false := by
            cases b
            · rfl
            · have := HB.out.1 rfl
              rw [this, he'] at he
              exact absurd (Option.some.inj he).symm heq
          obtain ⟨pt, nm, bg⟩ := e
          obtain ⟨pt', nm', bg'⟩ := e'
          simp only at c0 c1 c2 d0 d1 d2
          have hneq := run_neq pt nm bg pt' nm' bg' true (by simp [heq])
          clear hfr hfr' hthree hthree' he he' ha hc hall heq
          go_wp2_with fail
          go_quiet (fail)
          all_goals go_wp2
          all_goals go_ret
          all_goals exact ⟨rfl, below_drewN hbel _⟩
      · obtain rfl : k = n := by omega
        have hbt : b = true := HB.out.2 (List.ext_getElem? fun i => by
          rcases Nat.lt_or_ge i k with h | h
          · exact hall.out i h
          · rw [List.getElem?_eq_none (by rw [HL.out]; exact h), List.getElem?_eq_none (by rw [HL'.out]; exact h)])
        subst hbt
        go_wp2
        go_ret
        exact ⟨rfl, hbel⟩
  · obtain rfl : b = false := by
      cases b
      · rfl
      · have := hb.1 rfl
        rw [this] at hl
        omega
    have hne : ((n : Int) != (m : Int)) = true := by simp; omega
    clear hb hl hl' hnm
    go_enter Tryz.func54, Tryz.ntmps54
    go_wp2
    go_ret
    exact ⟨rfl, Below.refl _ _⟩
end Go.Proofs.YthaepkpmpnofgaaGreat.PlnWalkB
