/- What the document's Clock leaves, walked. No statement is proved here. -/
import Derived.Test.YtdmlfnknmilhcaaRefA
set_option linter.unusedVariables false
set_option linter.unusedSimpArgs false
namespace Go.Proofs.Ytdmlfnknmilhcaa.RefD
open Go.RowKit Go.Proofs.Ytdmlfnknmilhcaa.Kit Go.Proofs.Ytdmlfnknmilhcaa.Blocks Go.Proofs.Ytdmlfnknmilhcaa.Ses Go.Proofs.Ytdmlfnknmilhcaa.Rws Go.Proofs.Ytdmlfnknmilhcaa.WalkA

section
variable {B : Nat} {w : World} {p : Nat} {v : Value} {m : Tb}
theorem rclock_no (h : DT B w p v m) {t : Nat} (ht : t ≤ m.now) : Calls Try.prog 25 #[.pointer (some ⟨p, 0, none⟩), .int .u64 (t : Int)] w fun e w' => e = .returned (.tuple #[]) ∧ Below w.heap.size w w' := by
  have c0 := h.c0
  have hp := h.plt
  have htI : (t : Int) ≤ (m.now : Int) := by omega
  clear h ht
  go_enter Try.func25, Try.ntmps25
  go_wp2
  refine bodyPost_ret (results_none rfl _ _ _) rfl ?_
  exact ⟨rfl, Below.refl _ _⟩
/-- What is asked of each row. -/
theorem ask {t us : Nat} (hU : U t) (hu : us ≤ t) (r : Rw) (hr : r.used = us) : ∃ u : Nat, IntKind.u64.wrap ((us : Int) + 1000) = (u : Int) ∧ U u ∧ ((kept t r = true ∧ t ≤ u) ∨ (kept t r = true ∧ u < t ∧ u < 1000) ∨ (kept t r = false ∧ u < t ∧ 1000 ≤ u)) := by
  refine ⟨(us + 1000) % 18446744073709551616, by rw [IntKind.wrap_u64]; omega, by show _ < _; omega, ?_⟩
  unfold kept
  rw [hr]
  by_cases hk : t - us ≤ 1000
  · rw [decide_eq_true hk]
    by_cases h2 : us + 1000 < 18446744073709551616
    · exact .inl ⟨rfl, by omega⟩
    · exact .inr (.inl ⟨rfl, by omega, by omega⟩)
  · rw [decide_eq_false hk]
    exact .inr (.inr ⟨rfl, by omega, by omega⟩)
set_option maxRecDepth 100000 in
set_option maxHeartbeats 4000000 in
theorem rclock_yes (h : DT B w p v m) {t : Nat} (ht : m.now < t) (hU : U t) (h16 : m.rows.length ≤ 16) (hu : ∀ r ∈ m.rows, r.used ≤ m.now) : Calls Try.prog 25 #[.pointer (some ⟨p, 0, none⟩), .int .u64 (t : Int)] w fun e w' => e = .returned (.tuple #[]) ∧ DLeft B w p v ⟨t, m.next, m.rows.filter (kept t)⟩ w' := by
  have c0 := h.c0
  have f0 := h.free 0
  have hp := h.plt
  have htI : ¬ (t : Int) ≤ (m.now : Int) := by omega
  obtain ⟨h1, o1⟩ := h.timed t
  obtain ⟨w1, hw1⟩ : ∃ w1, w.setCell ⟨p, 0, none⟩ (.int .u64 (t : Int)) = w1 := ⟨_, rfl⟩
  rw [hw1] at h1 o1
  have d2 := h1.c2
  have hp1 := h1.plt
  have hB1 := h1.base
  obtain ⟨A, c, hv, hnc, hcm, hr⟩ := h1.form
  obtain ⟨n, hn⟩ : ∃ n, m.rows.length = n := ⟨_, rfl⟩
  obtain ⟨L, hL⟩ : ∃ L, m.rows = L := ⟨_, rfl⟩
  simp only at hv hnc hr
  rw [hn] at hv hnc hr h16
  rw [hL] at hr hu
  rw [hv] at d2
  have HL : Hid (L.length = n) := by rw [← hL]; exact hn
  have HR := Lib.hid hr
  have HU : Hid (∀ r ∈ L, r.used ≤ t) := fun r hr => by have := hu r hr; omega
  have HV := Lib.hid hv
  have HH1 := Lib.hid h1
  have HW1 := Lib.hid hw1
  have HFIN : Hid (∀ wr v' A' c' k, v' = .slice A' k c' → k = (L.filter (kept t)).length → wr.ownsRow w1.heap.size 75 6 v' k (rcells (L.filter (kept t))) → Below w1.heap.size w1 wr →
      wr.cell? ⟨p, 2, none⟩ = some v ∧ wr.frozen? ⟨p, 2, none⟩ = false ∧ p < wr.heap.size ∧ DLeft B w p v ⟨t, m.next, L.filter (kept t)⟩ (wr.setCell ⟨p, 2, none⟩ v')) := by
    intro wr v' A' c' k hv' hk hown hb
    obtain ⟨q1, q2, q3, q4⟩ := h1.rowed (L := L.filter (kept t)) ((Only.of_below hb) : Only (fun q => v.ownBlock = some q) w1 wr) (own_base hown hB1) hk rfl (fun q hq => .inr (hown.lt q hq).1)
    exact ⟨q1, q2, q3, LeftT.then (o1.mono fun q _ hq => .inl hq) (fun g hg => .inl hg) q4⟩
  rw [hL]
  clear h h1 o1 hw1 hv hr hu hn hL ht
  go_enter Try.func25, Try.ntmps25
  go_wp2_with fail
  rw [HW1.out]
  go_loopw [4, 5] (fun x y wr => ∃ (j k : Nat) (v' : Value), j ≤ n ∧ x = v' ∧ y = .int .i64 (j : Int) ∧ k ≤ 16 ∧ Hid (((L.take j).filter (kept t)).length = k) ∧ Hid (wr.ownsRow w1.heap.size 75 6 v' k (rcells ((L.take j).filter (kept t)))) ∧ Hid (Below w1.heap.size w1 wr)) (fun _ y _ => n - (intOf y).toNat)
  case atStart => exact ⟨0, 0, _, by omega, rfl, rfl, by omega, by simp [Hid], World.ownsRow_nil _ _ _ _, Below.refl _ _⟩
  case round =>
    obtain ⟨j, k, v', hj, rfl, rfl, hk16, hlen, hown, hbel⟩ := hrel
    have e2 := (hbel.out.cell (p := ⟨p, 2, none⟩) hp1).trans d2
    have hplt := Nat.lt_of_lt_of_le hp1 hbel.out.size
    by_cases hjn : j < n
    · have HJ := Lib.hid hjn
      obtain ⟨bk, o, r, rfl, hbl, hrj, hsix⟩ := RR.at_ HR.out hjn
      obtain ⟨y0, y1, y2, y3, y4, y5⟩ := hsix.below hbel.out hbl
      have hlt := Nat.lt_of_lt_of_le hbl hbel.out.size
      obtain ⟨u, hw, hUu, hcase⟩ := ask hU (HU.out r (List.mem_of_getElem? hrj)) r rfl
      have htake := WalkE.take_snoc L j r hrj
      have hjnI : (j : Int) < (n : Int) := by omega
      obtain ⟨A', c', hv', _, _, _⟩ := own_form hown.out
      subst hv'
      obtain ⟨id, us, sq, ⟨ye, yn, yx⟩⟩ := r
      simp only at y0 y1 y2 y3 y4 y5 hw
      have HT := Lib.hid htake
      have hba : ∀ o, Below wr.heap.size wr (wr.alloc o) := fun o => (Below.refl _ _).alloc (Nat.le_refl _) o
      have HO : Hid (∀ o, (wr.alloc o).ownsRow w1.heap.size 75 6 (.slice A' k c') k (rcells ((L.take j).filter (kept t)))) := fun o => (Only.of_below (S := fun _ => False) (hba o)).own hown.out (by simp)
      have HNW : Hid (RR (wr.alloc (.cells #[.int .u64 (id : Int), .int .u64 (us : Int), .int .u64 (sq : Int), .int .i64 ye, .int .u64 (yn : Int), .int .u64 (yx : Int)] 75)) (wr.heap.size + 1) (some ⟨wr.heap.size, 0, none⟩) 1 [⟨id, us, sq, ⟨ye, yn, yx⟩⟩]) := rw_new wr ⟨id, us, sq, ⟨ye, yn, yx⟩⟩ 75
      have HBS : Hid (∀ o, w1.heap.size ≤ (wr.alloc o).heap.size) := fun o => Nat.le_trans hbel.out.size (hba o).size
      have HBL : Hid (∀ o, Below w1.heap.size w1 (wr.alloc o)) := fun o => hbel.out.trans ((hba o).mono hbel.out.size)
      have HG : Hid (∀ g, (Value.slice A' k c').ownBlock = some g → w1.heap.size ≤ g) := fun g hg => (hown.out.lt g hg).1
      clear hsix htake hba hrj
      have hkeep : kept t ⟨id, us, sq, ⟨ye, yn, yx⟩⟩ = true → ((L.take (j + 1)).filter (kept t)) = (L.take j).filter (kept t) ++ [⟨id, us, sq, ⟨ye, yn, yx⟩⟩] := fun hh => by rw [HT.out, List.filter_append]; simp [hh]
      have hdrop : kept t ⟨id, us, sq, ⟨ye, yn, yx⟩⟩ = false → ((L.take (j + 1)).filter (kept t)) = (L.take j).filter (kept t) := fun hh => by rw [HT.out, List.filter_append]; simp [hh]
      have HKEEP := Lib.hid hkeep
      have HDROP := Lib.hid hdrop
      have hkj : k ≤ j := by rw [← hlen.out]; exact Nat.le_trans (List.length_filter_le _ _) (by rw [List.length_take]; omega)
      have HK1 : Hid (k + 1 ≤ 16) := by show k + 1 ≤ 16; omega
      clear hkeep hdrop HT
      rcases hcase with ⟨hk, k1⟩ | ⟨hk, k1, k2⟩ | ⟨hk, k1, k2⟩
      · have HKK := Lib.hid hk
        have p1 : (t : Int) ≤ (u : Int) := by omega
        clear hk
        go_wp2_with (first
          | (at_builtin
             refine AppD.wpList_app (v := .slice A' k c') (xs := rcells ((L.take j).filter (kept t))) _ rfl _ _ rfl w1.heap.size rfl (HO.out _) rfl HNW.out (rcells_one _) (by omega) (HBS.out _) ?_
             intro A7 c7 w7 hown7 hg7 hat7
             have HO7 := Lib.hid hown7
             have HB7 := Lib.hid ((HBL.out _).grown hg7 (HBS.out _) HG.out)
             clear hat7 hg7 hown7))
        go_roundw
        case rel => exact ⟨j + 1, k + 1, _, HJ.out, rfl, by go_num, HK1.out, by rw [HKEEP.out HKK.out, List.length_append, hlen.out]; rfl, by rw [HKEEP.out HKK.out, rcells_append]; exact HO7.out, HB7.out⟩
        case measure => have := HJ.out; simp [intOf]; omega
      · have HKK := Lib.hid hk
        have p1 : ¬ (t : Int) ≤ (u : Int) := by omega
        have p2 : (u : Int) < 1000 := by omega
        clear hk
        go_wp2_with (first
          | (at_builtin
             refine AppD.wpList_app (v := .slice A' k c') (xs := rcells ((L.take j).filter (kept t))) _ rfl _ _ rfl w1.heap.size rfl (HO.out _) rfl HNW.out (rcells_one _) (by omega) (HBS.out _) ?_
             intro A7 c7 w7 hown7 hg7 hat7
             have HO7 := Lib.hid hown7
             have HB7 := Lib.hid ((HBL.out _).grown hg7 (HBS.out _) HG.out)
             clear hat7 hg7 hown7))
        go_roundw
        case rel => exact ⟨j + 1, k + 1, _, HJ.out, rfl, by go_num, HK1.out, by rw [HKEEP.out HKK.out, List.length_append, hlen.out]; rfl, by rw [HKEEP.out HKK.out, rcells_append]; exact HO7.out, HB7.out⟩
        case measure => have := HJ.out; simp [intOf]; omega
      · have HKK := Lib.hid hk
        have p1 : ¬ (t : Int) ≤ (u : Int) := by omega
        have p2 : ¬ (u : Int) < 1000 := by omega
        clear hk
        go_wp2
        go_roundw
        case rel => exact ⟨j + 1, k, _, HJ.out, rfl, by go_num, hk16, by rw [HDROP.out HKK.out]; exact hlen.out, by rw [HDROP.out HKK.out]; exact hown.out, hbel.out⟩
        case measure => have := HJ.out; simp [intOf]; omega
    · obtain rfl : j = n := by omega
      have hall : L.take j = L := List.take_of_length_le (by rw [HL.out]; exact Nat.le_refl _)
      have hown' := hown.out
      have hlen' := hlen.out
      rw [hall] at hown' hlen'
      obtain ⟨A', c', hv', _, _, _⟩ := own_form hown'
      subst hv'
      obtain ⟨q1, q2, q3, q4⟩ := HFIN.out wr _ A' c' k rfl hlen'.symm hown' hbel.out
      have Q4 := Lib.hid q4
      clear q4 hown hown' q1
      go_wp2
      go_end0
      exact ⟨rfl, Q4.out⟩
end
end Go.Proofs.Ytdmlfnknmilhcaa.RefD
