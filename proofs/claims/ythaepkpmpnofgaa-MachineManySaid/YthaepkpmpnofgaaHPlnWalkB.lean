/- What the document's Check and Same answer, walked. No statement is proved here. -/
import Derived.Test.YthaepkpmpnofgaaHPlnWalkA
import Derived.BigQuiet
import Derived.Deep.QuietTactic
set_option linter.unusedVariables false
set_option linter.unusedSimpArgs false
namespace Go.Proofs.Ythaepkpmpnofgaa.PlnWalkB
open Go.RowKit Go.Proofs.Ythaepkpmpnofgaa.Kit Go.Proofs.Ythaepkpmpnofgaa.Stq Go.Proofs.Ythaepkpmpnofgaa.Pln
open Go.Proofs.Ythaepkpmpnofgaa.State (cell_at free_at lt_at)

set_option maxRecDepth 100000 in
set_option maxHeartbeats 4000000 in
theorem rcheck_any {w : World} {A : Option Addr} {n c : Nat} {l : List Sp} (hr : RS w w.heap.size A n l) (h63 : n ≤ 9223372036854775807) (hnm : ∀ e ∈ l, e.nm.size ≤ 9223372036854775807) {z : Int} (hz : Hid (chk l = z)) :
    Calls Try.prog 27 #[.slice A n c] w fun e w' => e = .returned (.int .i64 z) ∧ Below w.heap.size w w' := by
  have hl := RS.len hr
  by_cases hout : n = 0 ∨ 64 < n
  · obtain rfl : z = 44 := hz.out.symm.trans (chk_many (by omega))
    clear hz hl
    rcases hout with rfl | h64
    · go_enter Try.func27, Try.ntmps27
      go_wp2
      go_loopw [3, 4] (fun b x wr => b = .bool true ∧ x = .int .i64 0 ∧ Below w.heap.size w wr) (fun _ _ _ => 0)
      case atStart => exact ⟨rfl, rfl, Below.refl _ _⟩
      case round =>
        obtain ⟨rfl, rfl, hbel⟩ := hrel
        go_wp2
        go_ret
        exact ⟨rfl, hbel⟩
    · have h0' : ¬ (n : Int) = 0 := by omega
      have h0e : ((n : Int) == 0) = false := by simpa using h0'
      have h64' : 64 < (n : Int) := by omega
      have h0'' : 0 < (n : Int) := by omega
      clear h0'
      go_enter Try.func27, Try.ntmps27
      go_wp2
      go_loopw [3, 4] (fun b x wr => b = .bool true ∧ x = .int .i64 0 ∧ Below w.heap.size w wr) (fun _ _ _ => 0)
      case atStart => exact ⟨rfl, rfl, Below.refl _ _⟩
      case round =>
        obtain ⟨rfl, rfl, hbel⟩ := hrel
        go_wp2
        go_ret
        exact ⟨rfl, hbel⟩
  · have h0e : ((n : Int) == 0) = false := by simp; omega
    have h64' : ¬ 64 < (n : Int) := by omega
    have hn0 : 1 ≤ n := by omega
    have hn64 : n ≤ 64 := by omega
    have HL := Lib.hid hl
    have HN := Lib.hid hnm
    clear hl hnm hout
    go_enter Try.func27, Try.ntmps27
    go_wp2
    go_loopw [3, 4] (fun b x wr => ∃ (j : Nat) (q : Bool), j ≤ n ∧ b = .bool q ∧ x = .int .i64 (j : Int) ∧ Below w.heap.size w wr ∧ Hid ((q = true ∧ chk l = 44) ∨ (q = false ∧ ∀ i, i < j → ∀ x, l[i]? = some x → okS x = true))) (fun _ x _ => n - (intOf x).toNat)
    case atStart => exact ⟨0, false, by omega, rfl, rfl, Below.refl _ _, .inr ⟨rfl, fun i hi => absurd hi (by omega)⟩⟩
    case round =>
      obtain ⟨j, q, hj, rfl, rfl, hbel, hall⟩ := hrel
      rcases hall.out with ⟨rfl, h44⟩ | ⟨rfl, hok⟩
      · obtain rfl : z = 44 := hz.out.symm.trans h44
        clear h44 hall
        by_cases hjn : j < n
        · go_wp2
          go_ret
          exact ⟨rfl, hbel⟩
        · obtain rfl : j = n := by omega
          go_wp2
          go_ret
          exact ⟨rfl, hbel⟩
      · have HOK := Lib.hid hok
        clear hok hall
        by_cases hjn : j < n
        · obtain ⟨bk, o, e, rfl, hbl, he, hthree⟩ := RS.at_ hr hjn
          have hfr := Three.below hthree hbel hbl
          have c0 := hfr.c0
          have c1 := hfr.c1
          have c2 := hfr.c2
          have hsz := HN.out e (List.mem_of_getElem? he)
          obtain ⟨pt, nm, bg⟩ := e
          simp only at c0 c1 c2 hsz
          have HE := Lib.hid he
          have HJ := Lib.hid hjn
          have hbo : ∀ o, Below w.heap.size w (wr.alloc o) := fun o => hbel.alloc hbel.size _
          have hd : (okS ⟨pt, nm, bg⟩ = true ∧ ¬ pt < 0 ∧ ¬ 3 < pt ∧ ¬ (nm.size : Int) < 1 ∧ ¬ 16 < (nm.size : Int) ∧ ¬ bg < 1 ∧ ¬ 9 < bg) ∨ (okS ⟨pt, nm, bg⟩ = false ∧ (pt < 0 ∨ (¬ pt < 0 ∧ 3 < pt) ∨ (¬ pt < 0 ∧ ¬ 3 < pt ∧ (nm.size : Int) < 1) ∨ (¬ pt < 0 ∧ ¬ 3 < pt ∧ ¬ (nm.size : Int) < 1 ∧ 16 < (nm.size : Int)) ∨ (¬ pt < 0 ∧ ¬ 3 < pt ∧ ¬ (nm.size : Int) < 1 ∧ ¬ 16 < (nm.size : Int) ∧ bg < 1) ∨ (¬ pt < 0 ∧ ¬ 3 < pt ∧ ¬ (nm.size : Int) < 1 ∧ ¬ 16 < (nm.size : Int) ∧ ¬ bg < 1 ∧ 9 < bg))) := by
            unfold okS
            simp only [decide_eq_true_eq, decide_eq_false_iff_not]
            omega
          clear hfr hthree he
          rcases hd with ⟨hb, h1, h2, h3, h4, h5, h6⟩ | ⟨hb, h | ⟨h1, h2⟩ | ⟨h1, h2, h3⟩ | ⟨h1, h2, h3, h4⟩ | ⟨h1, h2, h3, h4, h5⟩ | ⟨h1, h2, h3, h4, h5, h6⟩⟩
          all_goals
            have HB := Lib.hid hb
            clear hb
            go_wp2
            go_roundw
            case rel =>
              first
                | exact ⟨j + 1, false, HJ.out, rfl, by go_num, hbo _, .inr ⟨rfl, first_more HE.out HOK.out HB.out⟩⟩
                | exact ⟨j + 1, true, HJ.out, rfl, by go_num, hbo _, .inl ⟨rfl, chk_one HE.out HB.out⟩⟩
            case measure => have := HJ.out; simp [intOf]; omega
        · obtain rfl : j = n := by omega
          obtain rfl : z = 0 := hz.out.symm.trans (chk_all (by rw [HL.out]; omega) (by rw [HL.out]; omega) (by rw [HL.out]; exact HOK.out))
          go_wp2
          go_ret
          exact ⟨rfl, hbel⟩

/-! ### Same -/
theorem text_eq (d d' : ByteArray) : d.toList = d'.toList ↔ d = d' := by
  constructor
  · intro h
    rw [Lib.toList_data, Lib.toList_data] at h
    rw [← Lib.mk_data d, h, Lib.mk_data]
  · intro h
    rw [h]
theorem run_neq (a : Int) (d : ByteArray) (b a' : Int) (d' : ByteArray) (b' : Int) (u : Bool) (hu : u = false ↔ (⟨a, d, b⟩ : Sp) = ⟨a', d', b'⟩) (w : World) :
    (binOp .neq 44 (.agg #[.int .i64 a, .string d, .int .i64 b]) (.agg #[.int .i64 a', .string d', .int .i64 b'])).run Try.prog w = .ok (.bool u) w := by
  simp only [Sp.mk.injEq] at hu
  simp [binOp, Op.equal, Op.maxDepth, go_sem]
  have ht := text_eq d d'
  by_cases h1 : a = a'
  · by_cases h4 : d = d'
    · by_cases h2 : b = b'
      · have : u = false := hu.2 ⟨h1, h4, h2⟩
        simp [h1, h2, ht.2 h4, this]
      · have : u = true := by cases u; exact absurd (hu.1 rfl).2.2 h2; rfl
        simp [h1, h2, ht.2 h4, this]
    · have : u = true := by cases u; exact absurd (hu.1 rfl).2.1 h4; rfl
      simp [h1, mt ht.1 h4, this]
  · have : u = true := by cases u; exact absurd (hu.1 rfl).1 h1; rfl
    simp [h1, this]
end Go.Proofs.Ythaepkpmpnofgaa.PlnWalkB
