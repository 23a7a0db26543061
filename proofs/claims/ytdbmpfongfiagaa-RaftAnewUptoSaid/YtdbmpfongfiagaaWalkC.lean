/- What the program's write and Beat leave, walked. -/
import Derived.Test.YtdbmpfongfiagaaWalkB
set_option linter.unusedVariables false
namespace Go.Proofs.Ytdbmpfongfiagaa.WalkC
open Go.RowKit Go.Proofs.Ytdbmpfongfiagaa.Kit Go.Proofs.Ytdbmpfongfiagaa.Blocks Go.Proofs.Ytdbmpfongfiagaa.Rlog Go.Proofs.Ytdbmpfongfiagaa.Ents Go.Proofs.Ytdbmpfongfiagaa.LogAt Go.Proofs.Ytdbmpfongfiagaa.Nod Go.Proofs.Ytdbmpfongfiagaa.NodAt Go.Proofs.Ytdbmpfongfiagaa.AppL Go.Proofs.Ytdbmpfongfiagaa.WalkA Go.Proofs.Ytdbmpfongfiagaa.WalkB
open Go.Proofs.Ytdbmpfongfiagaa.RlgWalkD (snapV)

/-- A snapshot in a box. -/
structure SBox (W : World) (r : Nat) (s : Snap) : Prop where
  blk : W.heap[r]? = some (.cells #[.int .u64 (s.idx : Int), .int .u64 (s.term : Int), .int .u64 (s.cfg : Int), .string s.data] 26 (0, 0))
theorem SBox.set {W : World} {r : Nat} {a b c d : Value} (h : W.heap[r]? = some (.cells #[a, b, c, d] 26 (0, 0))) (s : Snap) :
    SBox ((((W.setCell ⟨r, 0, none⟩ (.int .u64 (s.idx : Int))).setCell ⟨r, 1, none⟩ (.int .u64 (s.term : Int))).setCell ⟨r, 2, none⟩ (.int .u64 (s.cfg : Int))).setCell ⟨r, 3, none⟩ (.string s.data)) r s ∧
      Only (fun q => q = r) W ((((W.setCell ⟨r, 0, none⟩ (.int .u64 (s.idx : Int))).setCell ⟨r, 1, none⟩ (.int .u64 (s.term : Int))).setCell ⟨r, 2, none⟩ (.int .u64 (s.cfg : Int))).setCell ⟨r, 3, none⟩ (.string s.data)) := by
  refine ⟨⟨?_⟩, ((((Only.refl (fun q => q = r) W).setCell (a := ⟨r, 0, none⟩) (.inr rfl) _).setCell (a := ⟨r, 1, none⟩) (.inr rfl) _).setCell (a := ⟨r, 2, none⟩) (.inr rfl) _).setCell (a := ⟨r, 3, none⟩) (.inr rfl) _⟩
  rw [set_at (set_at (set_at (set_at h _) _) _) _]
  rfl
/-- Behind the first region of write. -/
def Mid (w : World) (s : Snap) (X : Nat) (a b : Value) (wx : World) : Prop := ∃ r, a = .pointer (some ⟨r, 0, none⟩) ∧ b = .int .u64 (X : Int) ∧ SBox wx r s ∧ Below w.heap.size w wx
section
variable {B p N : Nat} {z : Seat} {m : Nd} {w : World}
set_option maxHeartbeats 2000000 in
theorem write_any (h : PAt B w p z m) (f : NdB N m) (hN : N ≤ 1000000000) {to_ : Nat} (ht : to_ < 7) :
    Calls Try.prog 39 #[.pointer (some ⟨p, 0, none⟩), .int .i64 (to_ : Int)] w (Does B w p z (write m to_)) := by
  have c7 := h.c7
  have cn := h.nx f.nl ht
  have hplt := h.plt
  have hfst := fun W (hb : Below w.heap.size w W) => RlgWalkE.first_any (h.below hb).log
  obtain ⟨X, hX⟩ : ∃ X, told m.next to_ = X := ⟨_, rfl⟩
  unfold snapV at hfst
  rw [hX] at cn
  obtain ⟨S, hS⟩ : ∃ S, m.g.snap = S := ⟨_, rfl⟩
  simp only [hS] at hfst
  have hlt : (to_ : Int) < 7 := by omega
  have hge : (0 : Int) ≤ (to_ : Int) := by omega
  have HF1 : Hid (Calls Try.prog 18 #[.pointer (some ⟨z.q, 0, none⟩)] w.drew fun e w' => e = .returned (.agg #[.int .u64 (S.idx : Int), .int .u64 (S.term : Int), .int .u64 (S.cfg : Int), .string S.data]) ∧ Below w.heap.size w w') := (hfst _ (Below.refl _ w).drew).mono fun e w' ⟨h1, h2⟩ => ⟨h1, (Below.refl _ w).drew.trans h2⟩
  have HF2 : Hid (Calls Try.prog 18 #[.pointer (some ⟨z.q, 0, none⟩)] (w.alloc (.cells #[.int .u64 0, .int .u64 0, .int .u64 0, .string ⟨#[]⟩] 26)).drew fun e w' => e = .returned (.agg #[.int .u64 (S.idx : Int), .int .u64 (S.term : Int), .int .u64 (S.cfg : Int), .string S.data]) ∧ Below w.heap.size w w' ∧ w'.heap[w.heap.size]? = some (.cells #[.int .u64 0, .int .u64 0, .int .u64 0, .string ⟨#[]⟩] 26 (0, 0))) :=
    (hfst _ ((Below.refl _ w).alloc (Nat.le_refl _) _).drew).mono fun e w' ⟨h1, h2⟩ => ⟨h1, (((Below.refl _ w).alloc (Nat.le_refl _) _).drew).trans (h2.mono (by simp)), (h2.block w.heap.size (by simp)).trans (heap_alloc_new w _)⟩
  have HK : Hid (∀ W, Below w.heap.size w W → W.cell? ⟨p, 7, none⟩ = some (.pointer (some ⟨z.q, 0, none⟩)) ∧ W.cell? ⟨p, 12 + to_, none⟩ = some (.int .u64 (X : Int))) := fun W hb => ⟨(hb.cell (p := ⟨p, 7, none⟩) hplt).trans c7, (hb.cell (p := ⟨p, 12 + to_, none⟩) hplt).trans cn⟩
  have HW0 : Hid (Below w.heap.size w w.drew) := (Below.refl _ w).drew
  have HA0 : Hid (Below w.heap.size w (w.alloc (.cells #[.int .u64 0, .int .u64 0, .int .u64 0, .string ⟨#[]⟩] 26))) := (Below.refl _ w).alloc (Nat.le_refl _) _
  have H := Lib.hid h
  have F := Lib.hid f
  have HXe := Lib.hid hX
  have HSe := Lib.hid hS
  obtain ⟨M, hM⟩ : ∃ M, write m to_ = M := ⟨_, rfl⟩
  rw [hM]
  have HM := Lib.hid hM
  clear hfst hX hS h f hM
  go_enter Try.func39, Try.ntmps39
  go_upto_region 0 with fail
  go_cut [4, 5] from 4 to 19 (fun a b wx => Mid w S X a b wx)
  case first =>
    go_wp2_with fail
    go_region_held3 (fun W => W.cell? ⟨p, 7, none⟩ = some (.pointer (some ⟨z.q, 0, none⟩)) ∧ W.cell? ⟨p, 12 + to_, none⟩ = some (.int .u64 (X : Int)))
      (first
        | (with_reducible exact HK.out _ HW0.out)
        | (with_reducible exact HK.out _ HA0.out.drew)
        | (with_reducible exact HK.out _ HA0.out)
        | (with_reducible exact HK.out _ hB.out)
        | (with_reducible exact HK.out _ (hBA.out _))
        | (with_reducible exact HK.out _ hBS.out))
      (first
        | (go_at_call 18
           with_reducible refine HF1.out.mono ?_
           rintro e wA ⟨rfl, hBa⟩
           have hB := Lib.hid hBa
           have hBA : Hid (∀ o, Below w.heap.size w (wA.alloc o)) := fun o => hBa.alloc hBa.size o
           clear hBa)
        | (go_at_call 18
           with_reducible refine HF2.out.mono ?_
           rintro e wA ⟨rfl, hBa, hnew⟩
           have hB := Lib.hid hBa
           have x0 : wA.cell? ⟨w.heap.size, 0, none⟩ = some (.int .u64 0) := cell_at hnew 0
           have x1 : wA.cell? ⟨w.heap.size, 1, none⟩ = some (.int .u64 0) := cell_at hnew 1
           have x2 : wA.cell? ⟨w.heap.size, 2, none⟩ = some (.int .u64 0) := cell_at hnew 2
           have x3 : wA.cell? ⟨w.heap.size, 3, none⟩ = some (.string ⟨#[]⟩) := cell_at hnew 3
           have y0 := free_at hnew 0
           have y1 := free_at hnew 1
           have y2 := free_at hnew 2
           have y3 := free_at hnew 3
           have hBX : Hid (SBox ((((wA.setCell ⟨w.heap.size, 0, none⟩ (.int .u64 (S.idx : Int))).setCell ⟨w.heap.size, 1, none⟩ (.int .u64 (S.term : Int))).setCell ⟨w.heap.size, 2, none⟩ (.int .u64 (S.cfg : Int))).setCell ⟨w.heap.size, 3, none⟩ (.string S.data)) w.heap.size S ∧ Only (fun q => q = w.heap.size) wA ((((wA.setCell ⟨w.heap.size, 0, none⟩ (.int .u64 (S.idx : Int))).setCell ⟨w.heap.size, 1, none⟩ (.int .u64 (S.term : Int))).setCell ⟨w.heap.size, 2, none⟩ (.int .u64 (S.cfg : Int))).setCell ⟨w.heap.size, 3, none⟩ (.string S.data))) := SBox.set hnew S
           have hBS := Lib.hid (below_only hB.out hBX.out.2 (Nat.le_refl _) (fun q hq => by rw [hq]; exact Nat.le_refl _))
           clear hnew hBa))
    all_goals go_wp2_with fail
    all_goals go_meet
    all_goals refine ⟨_, rfl, rfl, ?_, ?_⟩
    · first | (with_reducible exact hBX.out.1) | exact ⟨heap_alloc_new wA _⟩
    · first | (with_reducible exact hBS.out) | (with_reducible exact hBA.out _)
    · first | (with_reducible exact hBX.out.1) | exact ⟨heap_alloc_new wA _⟩
    · first | (with_reducible exact hBS.out) | (with_reducible exact hBA.out _)
  case rest =>
    obtain ⟨r, rfl, rfl, hsb, hbc⟩ := hcut
    have d0 : wc.cell? ⟨r, 0, none⟩ = some (.int .u64 (S.idx : Int)) := by rw [cell_at hsb.blk]; rfl
    have d1 : wc.cell? ⟨r, 1, none⟩ = some (.int .u64 (S.term : Int)) := by rw [cell_at hsb.blk]; rfl
    have d2 : wc.cell? ⟨r, 2, none⟩ = some (.int .u64 (S.cfg : Int)) := by rw [cell_at hsb.blk]; rfl
    have d3 : wc.cell? ⟨r, 3, none⟩ = some (.string S.data) := by rw [cell_at hsb.blk]; rfl
    have hc := H.out.below hbc
    have HC := Lib.hid hc
    have HBC := Lib.hid hbc
    clear hsb hc hbc
    by_cases hle : X ≤ S.idx
    · have hsend : Calls Try.prog 31 #[.pointer (some ⟨p, 0, none⟩), .agg #[.int .i64 5, .int .i64 0, .int .i64 (to_ : Int), .int .u64 0, .int .u64 (S.idx : Int), .int .u64 (S.term : Int), .int .u64 (S.cfg : Int), .bool false, .slice none 0 0, .string S.data]] wc (Does B wc p z M) := by
        have := send_any HC.out F.out hN (snapTo m to_) noPl (Fit.none wc _ rfl)
        rw [← HM.out, show write m to_ = post m (snapTo m to_) by unfold write letterTo; rw [if_pos (by rw [HXe.out, HSe.out]; exact hle)]]
        rw [← HSe.out]
        exact this
      have HS := Lib.hid hsend
      clear hsend
      go_wp2_with fail
      with_reducible refine HS.out.mono ?_
      rintro e w1 ⟨rfl, hl⟩
      have HL := Lib.hid hl
      clear hl
      go_wp2
      go_end0
      exact ⟨rfl, LeftP.afterBelow HBC.out HL.out⟩
    · have hX0 : 0 < X := by omega
      have hXb : X < 18446744073709551616 := by rw [← HXe.out]; exact told_b F.out.nb (by decide) to_
      have hw1 : IntKind.u64.wrap ((X : Int) - 1) = ((X - 1 : Nat) : Int) := by rw [show (X : Int) - 1 = ((X - 1 : Nat) : Int) by omega]; exact IntWalk.u64_in _ (by omega)
      have hnle : ¬ (X : Int) ≤ (S.idx : Int) := by omega
      obtain ⟨Y, hY⟩ : ∃ Y, X - 1 = Y := ⟨_, rfl⟩
      have hYb : Y < 18446744073709551616 := by omega
      have htm : ∃ TT EE : Nat, (term m.g Y).getD 0 = TT ∧ Calls Try.prog 55 #[.pointer (some ⟨z.q, 0, none⟩), .int .u64 (Y : Int)] wc fun e w' => e = .returned (.tuple #[.int .u64 (TT : Int), .int .i64 (EE : Int)]) ∧ wc = w' := by
        cases ht : term m.g Y with
        | none => exact ⟨0, 20, rfl, RlgWalkE.term_no HC.out.log hYb ht⟩
        | some t => exact ⟨t, 0, rfl, RlgWalkE.term_yes HC.out.log F.out.fine hYb ht⟩
      obtain ⟨TT, EE, hTT, htc⟩ := htm
      have hes := F.out.es
      have hget : ∀ W, Below w.heap.size w W → Calls Try.prog 11 #[.pointer (some ⟨z.q, 0, none⟩), .int .u64 (X : Int), .int .i64 8] W (RlgWalkF.Gives W (get m.g X 8)) := fun W hb => RlgWalkF.get_any (H.out.below hb).log hXb (by decide) (by omega)
      obtain ⟨L, hL⟩ : ∃ L, get m.g X 8 = L := ⟨_, rfl⟩
      have hL8 : L.length ≤ 8 := by
        rw [← hL]
        unfold Rlog.get
        split
        · simp
        · rw [List.length_take]; exact Nat.min_le_left _ _
      rw [hL] at hget
      have c7c := HC.out.c7
      have c10c := HC.out.c10
      obtain ⟨C, hC⟩ : ∃ C, m.commit = C := ⟨_, rfl⟩
      rw [hC] at c10c
      have hplc := HC.out.plt
      have hsend : ∀ W A c, Below w.heap.size w W → RE W W.heap.size A L.length L → L.length ≤ c → c ≤ 9223372036854775807 → Off (fun k => k < w.heap.size) A L.length →
          Calls Try.prog 31 #[.pointer (some ⟨p, 0, none⟩), .agg #[.int .i64 3, .int .i64 0, .int .i64 (to_ : Int), .int .u64 0, .int .u64 (Y : Int), .int .u64 (TT : Int), .int .u64 (C : Int), .bool false, .slice A L.length c, .string ⟨#[]⟩]] W (Does B W p z M) := by
        intro W A c hb hr hc hm ho
        have hfit : Fit W (Far p z) (entsTo m to_) ⟨A, L.length, c⟩ := by
          refine ⟨?_, hc, hm, by show L.length * 40 ≤ _; omega, fun hn ad e hk => ho hn ad e (NodeAt.far_lt H.out hk)⟩
          show RE W W.heap.size A L.length (get m.g (told m.next to_) 8)
          rw [HXe.out, hL]
          exact hr
        have := send_any (H.out.below hb) F.out hN (entsTo m to_) ⟨A, L.length, c⟩ hfit
        rw [← HM.out, show write m to_ = post m (entsTo m to_) by unfold write letterTo; rw [if_neg (by rw [HXe.out, HSe.out]; exact hle)]]
        have e1 : told m.next to_ - 1 = Y := by rw [HXe.out, hY]
        have e2 : ltV (entsTo m to_) ⟨A, L.length, c⟩ = .agg #[.int .i64 3, .int .i64 0, .int .i64 (to_ : Int), .int .u64 0, .int .u64 (Y : Int), .int .u64 (TT : Int), .int .u64 (C : Int), .bool false, .slice A L.length c, .string ⟨#[]⟩] := by
          unfold ltV entsTo
          simp only [e1, hTT, hC]
          rfl
        rw [e2] at this
        exact this
      have HTc := Lib.hid htc
      have HGet := Lib.hid hget
      have HSend := Lib.hid hsend
      have hq : M.commit = C := by rw [← HM.out, ← hC]; rfl
      have HQ := Lib.hid hq
      rw [hY] at hw1
      clear htc hget hsend hTT hL hC hY hq hes hX0
      go_wp2_with fail
      with_reducible refine HTc.out.mono ?_
      rintro e w1 ⟨rfl, rfl⟩
      go_wp2_with fail
      go_region_held3 (fun W => W.cell? ⟨p, 7, none⟩ = some (.pointer (some ⟨z.q, 0, none⟩)) ∧ W.cell? ⟨p, 10, none⟩ = some (.int .u64 (C : Int)))
        (first
          | exact ⟨c7c, c10c⟩
          | exact hG.out
          | exact hS.out)
        (first
          | (go_at_call 11
             with_reducible refine (HGet.out _ HBC.out.drew).mono ?_
             rintro e wG ⟨A, c, rfl, hr, hc, hm, hbg, hoff⟩
             have hG := Lib.hid (And.intro ((hbg.cell (p := ⟨p, 7, none⟩) hplc).trans c7c) ((hbg.cell (p := ⟨p, 10, none⟩) hplc).trans c10c))
             have HBG : Hid (Below w.heap.size w wG) := HBC.out.drew.trans (hbg.mono HBC.out.size)
             have HRG := Lib.hid hr
             have HOff : Hid (Off (fun k => k < w.heap.size) A L.length) := Off.more hoff HBC.out.size
             clear hr hbg hoff)
          | (go_at_call 31
             with_reducible refine (HSend.out _ _ _ HBG.out HRG.out hc hm HOff.out).mono ?_
             rintro e wS ⟨rfl, z2, h2, g2⟩
             have hS : Hid (wS.cell? ⟨p, 7, none⟩ = some (.pointer (some ⟨z.q, 0, none⟩)) ∧ wS.cell? ⟨p, 10, none⟩ = some (.int .u64 (C : Int))) := ⟨by rw [← g2.q]; exact PAt.c7 h2, by rw [← HQ.out]; exact PAt.c10 h2⟩
             have HL : Hid (LeftP B wG p z M wS) := ⟨z2, h2, g2⟩
             clear h2 g2))
      all_goals go_wp2
      all_goals go_end0
      all_goals exact ⟨rfl, LeftP.afterBelow HBG.out HL.out⟩
theorem fold_take {α β : Type} (g : β → α → β) (m : β) (L : List α) (k : Nat) (i : α) (h : L[k]? = some i) : (L.take (k + 1)).foldl g m = g ((L.take k).foldl g m) i := by
  rw [take_snoc L k i h, List.foldl_append]
  rfl
theorem fold_id (m : Nd) : ∀ (l : List Nat), (l.foldl write m).id = m.id ∧ (l.foldl write m).g = m.g ∧ (l.foldl write m).role = m.role := by
  intro l
  induction l generalizing m with
  | nil => exact ⟨rfl, rfl, rfl⟩
  | cons i l ih => obtain ⟨a, b, c⟩ := ih (write m i); exact ⟨a, b, c⟩
/-- A row of numbers that a call made lies in no block of the node's. -/
theorem off_nums {T TL : TypeId} {cs : List Value} {g : G} {kept : List Ent} {out : List Msg} (h : NodeAt T TL B w p z cs g kept out) {w1 : World} {A : Option Addr} {n c : Nat} {xs : List Value} (hown : w1.ownsRow w.heap.size 3 1 (.slice A n c) n xs) : Off (Mine p z) A n := by
  intro hn ad ha hk
  rcases hown.2 with ⟨_, h0⟩ | ⟨g, cap, cur, hv, hb, _⟩
  · omega
  · injection hv with hA _ _
    rw [hA] at ha
    cases ha
    have := (h.mine_lt hk).2
    simp only at this
    omega
set_option maxHeartbeats 1000000 in
theorem beat_any (h : PAt B w p z m) (f : NdB N m) (hN : N ≤ 900000000) : Calls Try.prog 59 #[.pointer (some ⟨p, 0, none⟩)] w (Does B w p z (beat m)) := by
  have c8 := h.c8
  have hplt := h.plt
  obtain ⟨R, hR⟩ : ∃ R, m.role = R := ⟨_, rfl⟩
  rw [hR] at c8
  by_cases hr : R = 2
  · subst hr
    have hoth := others_any h f
    have hl7 := rest_len m
    have hlt7 : ∀ i, i ∈ rest m → i < 7 := fun i hi => rest_lt hi
    obtain ⟨L, hL⟩ : ∃ L, rest m = L := ⟨_, rfl⟩
    have hb : beat m = L.foldl write m := by unfold beat; rw [if_pos hR, hL]
    rw [hb]
    rw [hL] at hoth hl7 hlt7
    have hst : ∀ k, NdB (N + 7) ((L.take k).foldl write m) := fun k => (fold_b (fun j h => write_b h j) (L.take k) f).mono (Nat.add_le_add_left (Nat.le_trans (List.length_take_le' k L) hl7) N)
    have H := Lib.hid h
    have HO := Lib.hid hoth
    have HSt := Lib.hid hst
    have H7 := Lib.hid hlt7
    clear hoth hst hlt7 h f hb hL hR
    go_enter Try.func59, Try.ntmps59
    go_wp2_with fail
    with_reducible refine HO.out.mono ?_
    rintro e w1 ⟨v, rfl, hown, hb1⟩
    obtain ⟨A, c, rfl, hnc, hcm, hrd⟩ := own_form hown
    obtain ⟨n, hn⟩ : ∃ n, L.length = n := ⟨_, rfl⟩
    have hoff := off_nums H.out hown
    rw [hn] at hrd hnc hl7 hoff
    have h1 := H.out.below hb1
    have HRd := Lib.hid hrd
    have HOff := Lib.hid hoff
    have HH1 := Lib.hid h1
    have HB1 := Lib.hid hb1
    have HN := Lib.hid hn
    clear hn hown hrd hoff h1 hb1
    rw [HN.out]
    go_wp2
    go_loopw [3, 16] (fun _ i wr => ∃ (k : Nat) (z' : Seat), k ≤ n ∧ i = .int .i64 (k : Int) ∧ Hid (PAt B wr p z' ((L.take k).foldl write m)) ∧ Hid (Grow p z z' w1 wr)) (fun _ i _ => n - (intOf i).toNat)
    case atStart => exact ⟨0, z, by omega, rfl, Lib.hid HH1.out, Lib.hid (Grow.refl _ _ _)⟩
    case round =>
      obtain ⟨k, z', hk, rfl, HK, HG⟩ := hrel
      by_cases hkn : k < n
      · obtain ⟨b, o, j, rfl, _, hj, hcell⟩ := QuoWalkC.Reads.num (Off.reads HOff.out HG.out.only HRd.out (Nat.le_refl _)) hkn
        have hjl : j < 7 := H7.out j (List.mem_of_getElem? hj)
        have hw := write_any HK.out (HSt.out k) (by omega) hjl
        rw [← fold_take write m L k j hj] at hw
        have HW := Lib.hid hw
        clear hw hj
        go_wp2_with fail
        with_reducible refine HW.out.mono ?_
        rintro e w2 ⟨rfl, z2, h2, g2⟩
        have H2 := Lib.hid h2
        have G2 := Lib.hid (HG.out.trans g2)
        clear h2 g2
        go_wp2
        go_roundw
        case rel => exact ⟨k + 1, z2, by omega, by go_num, Lib.hid H2.out, Lib.hid G2.out⟩
        case measure => simp [intOf]; omega
      · obtain rfl : k = n := by omega
        go_wp2
        go_end0
        have := HK.out
        rw [List.take_of_length_le (by rw [HN.out]; exact Nat.le_refl _)] at this
        exact ⟨rfl, LeftP.afterBelow HB1.out ⟨z', this, HG.out⟩⟩
  · have hb : beat m = m := by unfold beat; rw [if_neg (by rw [hR]; exact hr)]
    have hne : ((R : Int) != 2) = true := by simp; omega
    rw [hb]
    have H := Lib.hid h
    clear hb h f hR
    go_enter Try.func59, Try.ntmps59
    go_wp2
    (try simp only [Exit.inBlock, Exit.then]); refine bodyPost_ret (results_none rfl _ _ _) rfl ?_
    exact ⟨rfl, LeftP.refl H.out⟩
theorem beat_nil (w : World) : Calls Try.prog 59 #[.pointer none] w fun e w' => e = .returned (.tuple #[]) ∧ Below w.heap.size w w' := by
  go_enter Try.func59, Try.ntmps59
  go_wp2
  (try simp only [Exit.inBlock, Exit.then]); refine bodyPost_ret (results_none rfl _ _ _) rfl ?_
  exact ⟨rfl, Below.refl _ _⟩
end
end Go.Proofs.Ytdbmpfongfiagaa.WalkC
