/- What the document's Set leaves, walked. -/
import Derived.Test.YtecejikolgkihaaRStop
set_option linter.unusedVariables false
namespace Go.Proofs.Ytecejikolgkihaa.RSet
open Go.RowKit Go.Proofs.Ytecejikolgkihaa.Kit Go.Proofs.Ytecejikolgkihaa.Blocks Go.Proofs.Ytecejikolgkihaa.Whl Go.Proofs.Ytecejikolgkihaa.Tms Go.Proofs.Ytecejikolgkihaa.WalkG Go.Proofs.Ytecejikolgkihaa.Sol Go.Proofs.Ytecejikolgkihaa.RMem Go.Proofs.Ytecejikolgkihaa.RDrop Go.Proofs.Ytecejikolgkihaa.RStop

section
variable {B : Nat} {w : World} {q : Nat} {va vb : Value} {now : Nat} {D : List Tm}
set_option maxRecDepth 100000 in
set_option maxHeartbeats 2000000 in
theorem set_bad (id dl : Int) (hd : dl < 1 ∨ 1048576 < dl) : Calls Try.prog 12 #[.pointer (some ⟨q, 0, none⟩), .int .i64 id, .int .i64 dl] w fun e w' => e = .returned (.int .i64 1) ∧ Below w.heap.size w w' := by
  rcases hd with hd | hd
  · go_enter Try.func12, Try.ntmps12
    go_wp2
    go_ret
    exact ⟨rfl, Below.refl _ _⟩
  · have h1 : ¬ dl < 1 := by omega
    go_enter Try.func12, Try.ntmps12
    go_wp2
    go_ret
    exact ⟨rfl, Below.refl _ _⟩
set_option maxRecDepth 100000 in
set_option maxHeartbeats 8000000 in
theorem set_good (h : RAt B w q va vb now D) (hnd : (D.map (·.1)).Nodup) (hfew : D.length ≤ 64) (hn : now < 4611686018427387904) (id : Int) (n : Nat) (h0 : 1 ≤ n) (h1 : n ≤ 1048576) :
    Calls Try.prog 12 #[.pointer (some ⟨q, 0, none⟩), .int .i64 id, .int .i64 (n : Int)] w fun e w' => e = .returned (.int .i64 (setc now D id n)) ∧ LeftR B w q va vb now (setd now D id n) w' := by
  have HSt := Lib.hid (stop_R h hnd hfew id)
  have H := Lib.hid h
  have g1 : ¬ (n : Int) < 1 := by omega
  have g2 : ¬ (1048576 : Int) < (n : Int) := by omega
  have hwr : IntKind.u64.wrap ((now : Int) + (n : Int)) = ((now + n : Nat) : Int) := by rw [show (now : Int) + (n : Int) = ((now + n : Nat) : Int) by omega]; exact IntWalk.u64_in _ (by omega)
  obtain ⟨T, hT⟩ : ∃ T, now + n = T := ⟨_, rfl⟩
  rw [hT] at hwr
  have hcv : IntKind.u64.wrap (n : Int) = (n : Int) := IntWalk.u64_in _ (by omega)
  have HT := Lib.hid hT
  obtain ⟨r, hr⟩ : ∃ r, isIn D id = r := ⟨_, rfl⟩
  rw [hr] at HSt
  have HQ := Lib.hid hr
  have HNd := Lib.hid hnd
  obtain ⟨i0, hi0, hi1, hi2, hi3⟩ := info_parts infoI
  have hdl : (del D id).length ≤ D.length := List.length_filter_le _ _
  clear hr h hT
  by_cases hfull : r = false ∧ 64 ≤ D.length
  · obtain ⟨rfl, hf64⟩ := hfull
    have hc : setc now D id n = 11 := by
      unfold setc
      rw [if_neg (by omega), if_pos ⟨HQ.out, hf64⟩]
    have he : setd now D id n = D := by unfold setd; rw [if_neg (by rw [hc]; decide)]
    have hde : del D id = D := del_none HQ.out
    have h64 : D.length = 64 := by omega
    rw [hde] at HSt
    have HC := Lib.hid hc
    have HE := Lib.hid he
    have H64 := Lib.hid h64
    clear hc he hde h64 hdl
    go_enter Try.func12, Try.ntmps12
    go_wp2_with fail
    with_reducible refine HSt.out.mono ?_
    rintro e w1 ⟨rfl, va1, vb1, hw1, ho1, hf1⟩
    have c1 := hw1.c1
    have hql := hw1.qlt
    obtain ⟨A1, k1, hva1, _, _, _⟩ := own_form hw1.ids
    rw [hva1, H64.out] at c1
    have HW1 := Lib.hid hw1
    have HO1 := Lib.hid ho1
    have HF1 := Lib.hid hf1
    clear hw1 ho1 hf1 hva1
    go_wp2
    go_ret
    rw [HC.out, HE.out]
    exact ⟨rfl, va1, vb1, HW1.out, HO1.out, HF1.out⟩
  · have hc : setc now D id n = 0 := by
      unfold setc
      rw [if_neg (by omega), if_neg]
      rintro ⟨e1, e2⟩
      exact hfull ⟨by rw [← HQ.out, e1], e2⟩
    have he : setd now D id n = del D id ++ [(id, T)] := by
      unfold setd
      rw [if_pos hc, Int.toNat_natCast, HT.out]
    have hlen : (del D id).length ≤ 63 := by
      cases r with
      | true => have := del_length HNd.out HQ.out; omega
      | false =>
        have : ¬ 64 ≤ D.length := fun e => hfull ⟨rfl, e⟩
        omega
    have HC := Lib.hid hc
    have HE := Lib.hid he
    obtain ⟨D1, hD1⟩ : ∃ D1, del D id = D1 := ⟨_, rfl⟩
    rw [hD1] at HSt HE hlen
    obtain ⟨m, hm⟩ : ∃ m, D1.length = m := ⟨_, rfl⟩
    rw [hm] at hlen
    have HM := Lib.hid hm
    have hmne : ((m : Int) == 64) = false := by simp; omega
    have hm1 : m + 1 ≤ maxLen := by unfold maxLen; omega
    have hs1 : (m + 1) * 8 ≤ 140737488355328 := by omega
    clear hc he hD1 hm hdl hfull
    go_enter Try.func12, Try.ntmps12
    go_wp2_with fail
    with_reducible refine HSt.out.mono ?_
    rintro e w1 ⟨rfl, va1, vb1, hw1, ho1, hf1⟩
    have c1 := hw1.c1
    have hql := hw1.qlt
    obtain ⟨A1, k1, hva1, _, _, _⟩ := own_form hw1.ids
    rw [HM.out] at hva1
    rw [hva1] at c1
    have hown1 := hw1.ids
    rw [HM.out, hva1] at hown1
    have HW1 := Lib.hid hw1
    have HO1 := Lib.hid ho1
    have HF1 := Lib.hid hf1
    have HVA := Lib.hid hva1
    have hbs : ∀ o : Obj, B ≤ (w1.alloc o).heap.size := fun o => by have := hw1.base; simp; omega
    clear hw1 ho1 hf1 hva1
    have hlay : Hid (∀ A2 c2 w3, w3.ownsRow B 3 1 (.slice A2 (m + 1) c2) (m + 1) (idv D1 ++ [.int .i64 id]) → (w1.alloc (.cells #[.int .i64 id] 3)).grownBy w3 (Value.slice A1 m k1).ownBlock →
        ((Value.slice A2 (m + 1) c2).ownBlock = (Value.slice A1 m k1).ownBlock ∨ (Value.slice A2 (m + 1) c2).ownBlock = some (w1.alloc (.cells #[.int .i64 id] 3)).heap.size) →
        w3.cell? ⟨q, 1, none⟩ = some (.slice A1 m k1) ∧ w3.frozen? ⟨q, 1, none⟩ = false ∧ q < w3.heap.size ∧
          Hid (∃ va', va' = .slice A2 (m + 1) c2 ∧ (w3.setCell ⟨q, 1, none⟩ (.slice A2 (m + 1) c2)).heap[q]? = some (.cells #[.int .u64 (now : Int), va', vb1] 31 (0, 0)) ∧ (w3.setCell ⟨q, 1, none⟩ (.slice A2 (m + 1) c2)).ownsRow B 3 1 va' (m + 1) (idv D1 ++ [.int .i64 id]) ∧
            (w3.setCell ⟨q, 1, none⟩ (.slice A2 (m + 1) c2)).ownsRow B 27 1 vb1 m (duv D1) ∧ Only (FootR q va1 vb1) w1 (w3.setCell ⟨q, 1, none⟩ (.slice A2 (m + 1) c2)) ∧ va'.ownBlock ≠ some q ∧ (∀ g, va'.ownBlock = some g → vb1.ownBlock ≠ some g) ∧
            ∀ g, va'.ownBlock = some g → va1.ownBlock = some g ∨ w1.heap.size ≤ g)) := by
      intro A2 c2 w3 hown hg hat
      have k : Only (fun g => va1.ownBlock = some g) w1 w3 := ((Only.refl (fun g => va1.ownBlock = some g) w1).alloc _).grown hg fun g e => .inr (by rw [HVA.out]; exact e)
      have hat' : ∀ g, (Value.slice A2 (m + 1) c2).ownBlock = some g → va1.ownBlock = some g ∨ w1.heap.size ≤ g := fun g hg => by
        rcases hat with e | e
        · exact .inl (by rw [HVA.out, ← e]; exact hg)
        · rw [hg] at e; cases e; exact .inr (by simp)
      obtain ⟨q1, q2, q3, q4, q5, q6, q7, q8⟩ := HW1.out.ided k hown hat'
      rw [HVA.out] at q1
      exact ⟨q1, q2, Nat.lt_of_lt_of_le HW1.out.qlt k.size, _, rfl, q3, q4, by rw [HM.out] at q5; exact q5, q6, q7, q8, hat'⟩
    go_wp2_with
      (at_builtin
       refine wpList_append_any _ rfl (.tmp 29) (.tmp 31) _ rfl B 3 i0 _ 1 8 Try.underlying28 hi0 hi1 hi2 hi3 rfl (by decide) (.slice A1 m k1) m (idv D1) rfl ((Only.refl (fun _ => False) w1 |>.alloc _).own hown1 (by simp))
         (w1.heap.size + 1) _ 1 1 [.int .i64 id] rfl (reads_one _ _ _) (by simp [Value.oneCell']) hm1 hs1 (hbs _) ?_
       intro v2 w3 hown2 hg2 hat2
       obtain ⟨A2, c2, rfl, _, _, _⟩ := own_form hown2
       obtain ⟨q1, q2, l3, Q⟩ := hlay.out A2 c2 w3 hown2 hg2 hat2
       clear hown2 hg2 hat2)
    all_goals
      obtain ⟨va', hva', hcell, hids, hdues, ho5, hna, hab, hfa⟩ := Q.out
      obtain ⟨w5, hw5⟩ : ∃ w5, w3.setCell ⟨q, 1, none⟩ (.slice A2 (m + 1) c2) = w5 := ⟨_, rfl⟩
      rw [hw5] at hcell hids hdues ho5
      rw [hw5]
      have d0 : w5.cell? ⟨q, 0, none⟩ = some (.int .u64 (now : Int)) := by rw [cell_at hcell]; rfl
      have d2 : w5.cell? ⟨q, 2, none⟩ = some vb1 := by rw [cell_at hcell]; rfl
      obtain ⟨B1, kb, hvb, _, _, _⟩ := own_form hdues
      rw [hvb] at d2
      have hown5 : ∀ o, (w5.alloc o).drew.ownsRow B 27 1 (.slice B1 m kb) m (duv D1) := fun o => by rw [← hvb]; exact ((Only.refl (fun _ => False) w5).alloc o).own hdues (by simp)
      have hnews : Reads (w5.alloc (.cells #[.int .u64 (T : Int)] 27)).drew (w5.heap.size + 1) 1 (some ⟨w5.heap.size, 0, none⟩) 1 [.int .u64 (T : Int)] := reads_one w5 (.int .u64 (T : Int)) 27
      have hB5 : B ≤ w5.heap.size := Nat.le_trans HW1.out.base ho5.size
      have hbs5 : ∀ o : Obj, B ≤ (w5.alloc o).drew.heap.size := fun o => by simp; omega
      have hq5 := lt_at hcell
      have HCell := Lib.hid hcell
      have HIds := Lib.hid hids
      have HDues := Lib.hid hdues
      have HO5 := Lib.hid ho5
      have HNa := Lib.hid hna
      have HAb := Lib.hid hab
      have HFa := Lib.hid hfa
      have HVB := Lib.hid hvb
      have HOwn5 := Lib.hid hown5
      have HNw := Lib.hid hnews
      have HBs := Lib.hid hbs5
      clear hw5 hva' hcell hids hdues ho5 hna hab hfa hvb hown5 hnews hbs5 q1 q2 Q
      go_region_law (first
        | (refine step_own (v := .slice B1 m kb) Try.underlying29 infoU rfl _ rfl _ _ rfl B rfl (HOwn5.out _) rfl HNw.out (by simp [Value.oneCell']) hs1 (HBs.out _) ?_
           intro A6 c6 w6 hown6 hg6 hat6
           have hk6 : Only (fun g => vb1.ownBlock = some g) w5 w6 := ((Only.refl (fun g => vb1.ownBlock = some g) w5).alloc _).drew.grown hg6 fun g e => .inr (by rw [HVB.out]; exact e)
           have hat6' : ∀ g, (Value.slice A6 (m + 1) c6).ownBlock = some g → vb1.ownBlock = some g ∨ w5.heap.size ≤ g := fun g hg => by
             rcases hat6 with e | e
             · exact .inl (by rw [HVB.out, ← e]; exact hg)
             · rw [hg] at e; cases e; exact .inr (by simp)
           have hle : (D1 ++ [(id, T)]).length = m + 1 := by rw [List.length_append, HM.out]; rfl
           obtain ⟨q1, q2, q3, q4⟩ := dued (D' := D1 ++ [(id, T)]) (v := .slice A6 (m + 1) c6) HCell.out (by rw [hle, idv_append]; exact HIds.out) HW1.out.low HNa.out HW1.out.nb HAb.out hk6 hown6 hle.symm (by rw [duv_append]; rfl) hat6'
           rw [HVB.out] at q1
           have l6 : q < w6.heap.size := Nat.lt_of_lt_of_le hq5 hk6.size
           have Q3 := Lib.hid q3
           have Q4 := Lib.hid q4
           have HA6 := Lib.hid hat6'
           clear hown6 hg6 hat6 hk6 hat6' hle q3 q4))
      all_goals
        go_wp2
        go_ret
        rw [HC.out, HE.out]
        refine ⟨rfl, va', _, Q3.out, ?_, ?_⟩
        · refine HO1.out.trans' (HO5.out.trans' Q4.out fun g hg => ?_) HF1.out
          rcases hg with hg | hg | hg
          · exact .inl (.inl hg)
          · rcases HFa.out g hg with e | e
            · exact .inl (.inr (.inl e))
            · exact .inr e
          · exact .inl (.inr (.inr hg))
        · intro g hg
          have hx : FootR q va1 vb1 g ∨ w1.heap.size ≤ g := by
            rcases hg with hg | hg | hg
            · exact .inl (.inl hg)
            · rcases HFa.out g hg with e | e
              · exact .inl (.inr (.inl e))
              · exact .inr e
            · rcases HA6.out g hg with e | e
              · exact .inl (.inr (.inr e))
              · exact .inr (Nat.le_trans HO5.out.size e)
          rcases hx with e | e
          · exact HF1.out g e
          · exact .inr (Nat.le_trans HO1.out.size e)
/-- Whatever is set. -/
theorem set_R (h : RAt B w q va vb now D) (hnd : (D.map (·.1)).Nodup) (hfew : D.length ≤ 64) (hn : now < 4611686018427387904) (id dl : Int) :
    Calls Try.prog 12 #[.pointer (some ⟨q, 0, none⟩), .int .i64 id, .int .i64 dl] w fun e w' => e = .returned (.int .i64 (setc now D id dl)) ∧ LeftR B w q va vb now (setd now D id dl) w' := by
  by_cases hd : dl < 1 ∨ 1048576 < dl
  · have hc : setc now D id dl = 1 := by unfold setc; rw [if_pos hd]
    have he : setd now D id dl = D := by unfold setd; rw [if_neg (by rw [hc]; decide)]
    refine (set_bad id dl hd).mono ?_
    rintro e w' ⟨rfl, hb⟩
    rw [hc, he]
    exact ⟨rfl, LeftR.of_below h hb⟩
  · obtain ⟨n, rfl⟩ := Int.eq_ofNat_of_zero_le (show 0 ≤ dl by omega)
    exact set_good h hnd hfew hn id n (by omega) (by omega)
end
end Go.Proofs.Ytecejikolgkihaa.RSet
