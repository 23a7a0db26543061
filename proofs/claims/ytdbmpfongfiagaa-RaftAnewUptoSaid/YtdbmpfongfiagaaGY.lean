/- What the program's Receive leaves, walked. -/
import Derived.Test.YtdbmpfongfiagaaGX
set_option linter.unusedVariables false
namespace Go.Proofs.Ytdbmpfongfiagaa.WalkK
open Go.RowKit Go.Proofs.Ytdbmpfongfiagaa.Kit Go.Proofs.Ytdbmpfongfiagaa.Blocks Go.Proofs.Ytdbmpfongfiagaa.Rlog Go.Proofs.Ytdbmpfongfiagaa.Ents Go.Proofs.Ytdbmpfongfiagaa.LogAt Go.Proofs.Ytdbmpfongfiagaa.Nod Go.Proofs.Ytdbmpfongfiagaa.NodAt Go.Proofs.Ytdbmpfongfiagaa.AppL Go.Proofs.Ytdbmpfongfiagaa.WalkA Go.Proofs.Ytdbmpfongfiagaa.WalkB Go.Proofs.Ytdbmpfongfiagaa.WalkC Go.Proofs.Ytdbmpfongfiagaa.WalkD Go.Proofs.Ytdbmpfongfiagaa.WalkH
open Go.Proofs.Ytdbmpfongfiagaa.Quorum (mem size need sound maj node has turn change)

section
variable {B p N : Nat} {z : Seat} {m : Nd} {w : World}
set_option maxHeartbeats 1000000 in
theorem asked_any (h : PAt B w p z m) (f : NdB N m) (hN : N ≤ 800000000) (x : Msg) (a : Pl) (hx : MsgB x) (hn : node x.f = true) :
    Calls Try.prog 21 #[.pointer (some ⟨p, 0, none⟩), ltV x a] w (Does B w p z (asked m x)) := by
  have hba : Below w.heap.size w (w.alloc (.cells (ltCs x a).toArray 41)) := (Below.refl _ _).alloc (Nat.le_refl _) _
  have hbx := LBox.new w x a
  have hg := grants_any (h.below hba) f x a hx
  have HX := Lib.hid hx
  have hnn := node_lt hn
  obtain ⟨G, hG⟩ : ∃ G, grants m x = G := ⟨_, rfl⟩
  rw [hG] at hg
  have hM0 : asked m x = post (if G = true then votesFor m x.f else m) { blankM with k := 2, t := x.f, ok := G } := by unfold asked; rw [hG]
  have H := Lib.hid h
  have F := Lib.hid f
  obtain ⟨M, hM⟩ : ∃ M, asked m x = M := ⟨_, rfl⟩
  rw [hM] at hM0 ⊢
  have HM := Lib.hid hM0
  clear hG hM hM0 h f hx hn
  obtain ⟨kd, fr, tt, tm, ix, pv, cm, ok, es, d⟩ := x
  unfold ltV at hg ⊢
  simp only [ltCs] at hba hbx hg hnn HM ⊢
  have x0 := hbx.c0
  have x1 := hbx.c1
  have x2 := hbx.c2
  have x3 := hbx.c3
  have x4 := hbx.c4
  have x5 := hbx.c5
  have x6 := hbx.c6
  have x7 := hbx.c7
  have x8 := hbx.c8
  have x9 := hbx.c9
  have hlt := hbx.lt
  obtain ⟨w0, hw0⟩ : ∃ w0, w.alloc (.cells [.int .i64 kd, .int .i64 fr, .int .i64 tt, .int .u64 (tm : Int), .int .u64 (ix : Int), .int .u64 (pv : Int), .int .u64 (cm : Int), .bool ok, .slice a.A a.n a.c, .string d].toArray 41) = w0 := ⟨_, rfl⟩
  rw [hw0] at hba hbx hg x0 x1 x2 x3 x4 x5 x6 x7 x8 x9 hlt
  simp only at x0 x1 x2 x3 x4 x5 x6 x7 x8 x9
  have HW0 := Lib.hid hw0
  have HBA := Lib.hid hba
  have HG := Lib.hid hg
  clear hw0 hba hbx hg
  go_enter Try.func21, Try.ntmps21
  go_wp2_with fail
  rw [HW0.out]
  with_reducible refine HG.out.mono ?_
  rintro e w1 ⟨rfl, hb1⟩
  have hB1 := HBA.out.trans (hb1.mono HBA.out.size)
  have h1 := H.out.below hB1
  have y1 := (hb1.cell (p := ⟨w.heap.size, 1, none⟩) hlt).trans x1
  have c6 := h1.c6
  have c3 := h1.c3
  have k6 := NodeAt.free h1 6
  have k3 := NodeAt.free h1 3
  have hp1 := h1.plt
  have hne : ¬ w.heap.size = p := by have := H.out.plt; omega
  have hne2 : ¬ p = w.heap.size := fun e => hne e.symm
  have hl1 := Nat.lt_of_lt_of_le hlt hb1.size
  have H1 := Lib.hid h1
  have HB1 := Lib.hid hB1
  clear hb1 hB1 h1
  cases G with
  | true =>
    obtain ⟨h2, g2⟩ := PAt.setTo H1.out 6 (.int .i64 fr) { m with vote := fr } rfl rfl rfl rfl
    obtain ⟨h3, g3⟩ := PAt.setTo h2 3 (.bool true) (votesFor m fr) rfl rfl rfl rfl
    have f3 : NdB N (votesFor m fr) := { F.out with v0 := by show -1 ≤ fr; omega, v1 := by show fr < 7; omega }
    have hs : Calls Try.prog 31 #[.pointer (some ⟨p, 0, none⟩), .agg #[.int .i64 2, .int .i64 0, .int .i64 fr, .int .u64 0, .int .u64 0, .int .u64 0, .int .u64 0, .bool true, .slice none 0 0, .string ⟨#[]⟩]] ((w1.setCell ⟨p, 6, none⟩ (.int .i64 fr)).setCell ⟨p, 3, none⟩ (.bool true)) (Does B ((w1.setCell ⟨p, 6, none⟩ (.int .i64 fr)).setCell ⟨p, 3, none⟩ (.bool true)) p z M) := by
      have := send_any h3 f3 (by omega) { blankM with k := 2, t := fr, ok := true } noPl (Fit.none _ _ rfl)
      rw [HM.out, if_pos rfl]
      exact this
    have HS := Lib.hid hs
    have G3 := Lib.hid ((Grow.of_below z HB1.out).trans (g2.trans g3))
    clear hs h2 h3 g2 g3 f3
    go_wp2_with fail
    with_reducible refine HS.out.mono ?_
    rintro e w2 ⟨rfl, hl⟩
    have HL := Lib.hid hl
    clear hl
    go_wp2
    go_end0
    exact ⟨rfl, LeftP.then G3.out HL.out⟩
  | false =>
    have hs : Calls Try.prog 31 #[.pointer (some ⟨p, 0, none⟩), .agg #[.int .i64 2, .int .i64 0, .int .i64 fr, .int .u64 0, .int .u64 0, .int .u64 0, .int .u64 0, .bool false, .slice none 0 0, .string ⟨#[]⟩]] w1 (Does B w1 p z M) := by
      have := send_any H1.out F.out (by omega) { blankM with k := 2, t := fr, ok := false } noPl (Fit.none _ _ rfl)
      rw [HM.out, if_neg (by simp)]
      exact this
    have HS := Lib.hid hs
    clear hs
    go_wp2_with fail
    with_reducible refine HS.out.mono ?_
    rintro e w2 ⟨rfl, hl⟩
    have HL := Lib.hid hl
    clear hl
    go_wp2
    go_end0
    exact ⟨rfl, LeftP.afterBelow HB1.out HL.out⟩
set_option maxHeartbeats 1000000 in
theorem voted_any (h : PAt B w p z m) (f : NdB N m) (hN : N ≤ 800000000) (x : Msg) (a : Pl) (hn : node x.f = true) :
    Calls Try.prog 22 #[.pointer (some ⟨p, 0, none⟩), ltV x a] w (Does B w p z (voted m x)) := by
  have hba : Below w.heap.size w (w.alloc (.cells (ltCs x a).toArray 41)) := (Below.refl _ _).alloc (Nat.le_refl _) _
  have hbx := LBox.new w x a
  have hnn := node_lt hn
  have hMt : m.role = 1 ∧ x.tm = m.term ∧ x.ok = true → voted m x = lead { m with votes := m.votes ||| 2 ^ x.f.toNat } := fun e => if_pos e
  have hMf : ¬ (m.role = 1 ∧ x.tm = m.term ∧ x.ok = true) → voted m x = m := fun e => if_neg e
  have H := Lib.hid h
  have F := Lib.hid f
  obtain ⟨R, hR⟩ : ∃ R, m.role = R := ⟨_, rfl⟩
  obtain ⟨Y, hY⟩ : ∃ Y, m.term = Y := ⟨_, rfl⟩
  have HR := Lib.hid hR
  have HY := Lib.hid hY
  obtain ⟨M, hM⟩ : ∃ M, voted m x = M := ⟨_, rfl⟩
  rw [hM] at hMt hMf ⊢
  have HMt := Lib.hid hMt
  have HMf := Lib.hid hMf
  clear hM hMt hMf h f hn hR hY
  obtain ⟨kd, fr, tt, tm, ix, pv, cm, ok, es, d⟩ := x
  unfold ltV
  simp only [ltCs] at hba hbx hnn HMt HMf ⊢
  have x0 := hbx.c0
  have x1 := hbx.c1
  have x2 := hbx.c2
  have x3 := hbx.c3
  have x4 := hbx.c4
  have x5 := hbx.c5
  have x6 := hbx.c6
  have x7 := hbx.c7
  have x8 := hbx.c8
  have x9 := hbx.c9
  have hlt := hbx.lt
  obtain ⟨w0, hw0⟩ : ∃ w0, w.alloc (.cells [.int .i64 kd, .int .i64 fr, .int .i64 tt, .int .u64 (tm : Int), .int .u64 (ix : Int), .int .u64 (pv : Int), .int .u64 (cm : Int), .bool ok, .slice a.A a.n a.c, .string d].toArray 41) = w0 := ⟨_, rfl⟩
  rw [hw0] at hba hbx x0 x1 x2 x3 x4 x5 x6 x7 x8 x9 hlt
  simp only at x0 x1 x2 x3 x4 x5 x6 x7 x8 x9
  have HW0 := Lib.hid hw0
  have HBA := Lib.hid hba
  clear hw0
  have h1 := H.out.below hba
  have c8 := h1.c8
  have c5 := h1.c5
  rw [HR.out] at c8
  rw [HY.out] at c5
  have hp1 := h1.plt
  clear hba hbx h1
  by_cases hr : R = 1
  · by_cases hy : tm = Y
    · cases ok with
      | true =>
        have HM2 : Hid (M = lead { m with votes := m.votes ||| 2 ^ fr.toNat }) := Lib.hid (HMt.out ⟨HR.out.trans hr, hy.trans HY.out.symm, rfl⟩)
        have hr2 : ((R : Int) != 1) = false := by rw [hr]; rfl
        have hy2 : ((tm : Int) != (Y : Int)) = false := by rw [hy]; simp
        obtain ⟨I, hI⟩ : ∃ I : Nat, fr = (I : Int) := ⟨fr.toNat, by omega⟩
        have hI7 : I < 7 := by omega
        subst hI
        rw [Int.toNat_natCast] at HM2
        clear HMt HMf hr hy
        go_enter Try.func22, Try.ntmps22
        go_wp2_with fail
        rw [HW0.out]
        go_quiet (fail)
        have hbq : Below w.heap.size w (w0.drewN nq) := below_drewN HBA.out nq
        have y1 : (w0.drewN nq).cell? ⟨w.heap.size, 1, none⟩ = some (.int .i64 (I : Int)) := x1
        have hlq : w.heap.size < (w0.drewN nq).heap.size := hlt
        generalize w0.drewN nq = wq at hbq y1 hlq ⊢
        have hq := H.out.below hbq
        have c11 := hq.c11
        have k11 := NodeAt.free hq 11
        have hpq := hq.plt
        have hvl := F.out.votes
        obtain ⟨V, hV⟩ : ∃ V, m.votes = V := ⟨_, rfl⟩
        obtain ⟨P2, hP2⟩ : ∃ P2, 2 ^ I = P2 := ⟨_, rfl⟩
        have hPl : P2 < 128 := hP2 ▸ pow_lt hI7
        have hor : bits .or .u64 (V : Int) (P2 : Int) = ((V ||| P2 : Nat) : Int) := u64_or_nat V P2 (by omega) (by omega)
        have honly := fun W => only_any I hI7 W
        rw [hP2] at honly HM2
        rw [hV] at c11 HM2 hvl
        have hVl : V ||| P2 < 2 ^ 7 := Nat.or_lt_two_pow hvl hPl
        obtain ⟨U, hU⟩ : ∃ U, V ||| P2 = U := ⟨_, rfl⟩
        rw [hU] at hor HM2 hVl
        obtain ⟨h2, g2⟩ := PAt.setTo hq 11 (.int .u64 (U : Int)) { m with votes := U } rfl rfl rfl rfl
        have f2 : NdB N { m with votes := U } := { F.out with votes := hVl }
        have HOnly := Lib.hid honly
        have H2 := Lib.hid h2
        have G2 := Lib.hid ((Grow.of_below z hbq).trans g2)
        have HF2 := Lib.hid f2
        have HS0 : Hid (∀ W : World, W.cell? ⟨p, 11, none⟩ = some (.int .u64 (V : Int)) → W.cell? ⟨w.heap.size, 1, none⟩ = some (.int .i64 (I : Int)) → True) := fun _ _ _ => trivial
        clear h2 g2 f2 hV hP2 hU honly hq
        go_wp2_with fail
        go_region_law (first
          | (go_simp
             go_at_call 29
             (with_reducible refine (HOnly.out _).mono ?_)
             rintro e wC ⟨rfl, rfl⟩))
        all_goals generalize (wq.setCell ⟨p, 11, none⟩ (.int .u64 (U : Int))) = w3 at H2 G2 ⊢
        all_goals have hld := lead_any (PAt.drew H2.out) HF2.out (by omega)
        all_goals rw [← HM2.out] at hld
        all_goals have HLd := Lib.hid hld
        all_goals have G3 := Lib.hid (G2.out.thenBelow ((Below.refl _ w3).drew))
        all_goals clear hld
        all_goals go_wp2_with fail
        all_goals with_reducible refine HLd.out.mono ?_
        all_goals rintro e w5 ⟨rfl, hl⟩
        all_goals have HL := Lib.hid hl
        all_goals clear hl
        all_goals go_wp2
        all_goals go_end0
        all_goals exact ⟨rfl, LeftP.then G3.out HL.out⟩
      | false =>
        have HM2 : Hid (M = m) := Lib.hid (HMf.out (by rintro ⟨_, _, e⟩; cases e))
        have hr2 : ((R : Int) != 1) = false := by rw [hr]; rfl
        have hy2 : ((tm : Int) != (Y : Int)) = false := by rw [hy]; simp
        clear HMt HMf hr hy
        go_enter Try.func22, Try.ntmps22
        go_wp2_with fail
        rw [HW0.out]
        go_quiet (fail)
        go_wp2
        (try simp only [Exit.inBlock, Exit.then]); refine bodyPost_ret (results_none rfl _ _ _) rfl ?_
        rw [HM2.out]
        exact ⟨rfl, LeftP.of_below H.out (below_drewN HBA.out nq)⟩
    · have hy2 : ((tm : Int) != (Y : Int)) = true := by simp; omega
      have HM2 : Hid (M = m) := Lib.hid (HMf.out (by rintro ⟨_, e, _⟩; exact hy (e.trans HY.out)))
      have hr2 : ((R : Int) != 1) = false := by rw [hr]; rfl
      clear HMt HMf hr hy
      go_enter Try.func22, Try.ntmps22
      go_wp2_with fail
      rw [HW0.out]
      go_quiet (fail)
      go_wp2
      (try simp only [Exit.inBlock, Exit.then]); refine bodyPost_ret (results_none rfl _ _ _) rfl ?_
      rw [HM2.out]
      exact ⟨rfl, LeftP.of_below H.out (below_drewN HBA.out nq)⟩
  · have hr2 : ((R : Int) != 1) = true := by simp; omega
    have HM2 : Hid (M = m) := Lib.hid (HMf.out (by rintro ⟨e, _, _⟩; exact hr (HR.out.symm.trans e)))
    clear HMt HMf hr
    go_enter Try.func22, Try.ntmps22
    go_wp2_with fail
    rw [HW0.out]
    go_quiet (fail)
    go_wp2
    (try simp only [Exit.inBlock, Exit.then]); refine bodyPost_ret (results_none rfl _ _ _) rfl ?_
    rw [HM2.out]
    exact ⟨rfl, LeftP.of_below H.out (below_drewN HBA.out nq)⟩
end
end Go.Proofs.Ytdbmpfongfiagaa.WalkK
set_option linter.unusedVariables false
namespace Go.Proofs.Ytdbmpfongfiagaa.WalkL
open Go.RowKit Go.Proofs.Ytdbmpfongfiagaa.Kit Go.Proofs.Ytdbmpfongfiagaa.Blocks Go.Proofs.Ytdbmpfongfiagaa.Rlog Go.Proofs.Ytdbmpfongfiagaa.Ents Go.Proofs.Ytdbmpfongfiagaa.LogAt Go.Proofs.Ytdbmpfongfiagaa.Nod Go.Proofs.Ytdbmpfongfiagaa.NodAt Go.Proofs.Ytdbmpfongfiagaa.AppL Go.Proofs.Ytdbmpfongfiagaa.WalkA Go.Proofs.Ytdbmpfongfiagaa.WalkB Go.Proofs.Ytdbmpfongfiagaa.WalkC Go.Proofs.Ytdbmpfongfiagaa.WalkD Go.Proofs.Ytdbmpfongfiagaa.WalkE Go.Proofs.Ytdbmpfongfiagaa.WalkH
open Go.Proofs.Ytdbmpfongfiagaa.Quorum (mem size need sound maj node has turn change)

/-- The closure: is its term above the letter's? -/
theorem later_any {w : World} {r T : Nat} (hc : w.cell? ⟨r, 3, none⟩ = some (.int .u64 (T : Int))) (hlt : r < w.heap.size) (e : Ent) :
    Calls Try.prog 50 #[.agg #[.int .u64 (e.term : Int), .int .u64 (e.idx : Int), .int .i64 e.kind, .string e.data], .pointer (some ⟨r, 0, none⟩)] w fun v w' => v = .returned (.bool (decide (T < e.term))) ∧ Below w.heap.size w w' := by
  obtain ⟨tm, ix, kd, d⟩ := e
  simp only
  obtain ⟨b, hb⟩ : ∃ b, decide (T < tm) = b := ⟨_, rfl⟩
  have hb2 : decide ((T : Int) < (tm : Int)) = b := by rw [← hb]; simp
  rw [hb]
  go_enter Try.func50, Try.ntmps50
  go_wp2
  go_ret
  refine ⟨?_, (Below.refl _ _).alloc (Nat.le_refl _) _⟩
  first | rfl | (rw [← hb]; rfl) | (rw [← hb2]; rfl)
section
variable {w : World} {n c r T : Nat} {A : Option Addr} {l : List Ent}
set_option maxRecDepth 100000 in
theorem index_any (hr : RE w w.heap.size A n l) (h63 : n ≤ 9223372036854775807) (hc : w.cell? ⟨r, 3, none⟩ = some (.int .u64 (T : Int))) (hlt : r < w.heap.size) :
    Calls Try.prog 70 #[.slice A n c, .func (.func 50) #[] #[.pointer (some ⟨r, 0, none⟩)]] w fun e w' =>
      (e = .returned (.int .i64 (-1)) ∧ (l.any fun e => decide (T < e.term)) = false ∨ ∃ i : Nat, e = .returned (.int .i64 (i : Int)) ∧ (l.any fun e => decide (T < e.term)) = true) ∧ Below w.heap.size w w' := by
  have HR := Lib.hid hr
  have HLn := Lib.hid (RE.len hr)
  have HC := Lib.hid hc
  clear hr hc
  go_enter Try.func70, Try.ntmps70
  go_wp2
  go_loopw [5, 8] (fun _ i wr => ∃ k : Nat, k ≤ n ∧ i = .int .i64 (k : Int) ∧ Hid ((l.take k).any (fun e => decide (T < e.term)) = false) ∧ Below w.heap.size w wr) (fun _ i _ => n - (intOf i).toNat)
  case atStart => exact ⟨0, by omega, rfl, Lib.hid (by simp), Below.refl _ _⟩
  case round =>
    obtain ⟨k, hk, rfl, hno, hbw⟩ := hrel
    by_cases hk' : k < n
    · have hrr := (Kit.Reads.below HR.out hbw)
      obtain ⟨b', o', e, rfl, hb', he, hfour⟩ := RE.at_ hrr hk'
      have hcw := (hbw.cell (p := ⟨r, 3, none⟩) hlt).trans HC.out
      have hlw : r < wr.heap.size := Nat.lt_of_lt_of_le hlt hbw.size
      have hs := later_any hcw hlw e
      have y0 := hfour.c0
      have y1 := hfour.c1
      have y2 := hfour.c2
      have y3 := hfour.c3
      obtain ⟨q, hq⟩ : ∃ q, decide (T < e.term) = q := ⟨_, rfl⟩
      rw [hq] at hs
      have HT : Hid (l.take (k + 1) = l.take k ++ [e]) := Lib.hid (take_snoc l k _ he)
      have HE := Lib.hid he
      have HS := Lib.hid hs
      have HQ := Lib.hid hq
      clear hrr he hs hq hcw hfour
      go_wp2_with fail
      with_reducible refine HS.out.mono ?_
      rintro v w2 ⟨rfl, hb2⟩
      cases q with
      | true =>
        go_wp2
        go_ret
        refine ⟨.inr ⟨k, rfl, ?_⟩, hbw.trans (hb2.mono hbw.size)⟩
        rw [List.any_eq_true]
        exact ⟨e, List.mem_of_getElem? HE.out, HQ.out⟩
      | false =>
        go_wp2
        go_roundw
        case rel =>
          refine ⟨k + 1, by omega, by go_num, Lib.hid ?_, hbw.trans (hb2.mono hbw.size)⟩
          rw [HT.out, List.any_append, hno.out]
          simpa using HQ.out
        case measure => simp [intOf]; omega
    · obtain rfl : k = n := by omega
      go_wp2
      go_ret
      refine ⟨.inl ⟨rfl, ?_⟩, hbw⟩
      have := hno.out
      rwa [List.take_of_length_le (by rw [HLn.out]; exact Nat.le_refl _)] at this
theorem contains_any (hr : RE w w.heap.size A n l) (h63 : n ≤ 9223372036854775807) (hc : w.cell? ⟨r, 3, none⟩ = some (.int .u64 (T : Int))) (hlt : r < w.heap.size) :
    Calls Try.prog 49 #[.slice A n c, .func (.func 50) #[] #[.pointer (some ⟨r, 0, none⟩)]] w fun e w' =>
      e = .returned (.bool (l.any fun e => decide (T < e.term))) ∧ Below w.heap.size w w' := by
  have hi := index_any (c := c) hr h63 hc hlt
  obtain ⟨b, hb⟩ : ∃ b, (l.any fun e => decide (T < e.term)) = b := ⟨_, rfl⟩
  rw [hb] at hi ⊢
  have HI := Lib.hid hi
  clear hi hb hr hc
  go_enter Try.func49, Try.ntmps49
  go_wp2_with fail
  with_reducible refine HI.out.mono ?_
  rintro e w1 ⟨⟨rfl, rfl⟩ | ⟨i, rfl, rfl⟩, hb1⟩
  · go_wp2
    go_ret
    exact ⟨rfl, hb1⟩
  · have hge : decide ((0 : Int) ≤ (i : Int)) = true := by simp
    go_wp2
    go_ret
    exact ⟨rfl, hb1⟩
end
section
variable {B p N : Nat} {z : Seat} {m : Nd} {w : World}
theorem logm_b (h : NdB N m) {x : Msg} (hx : MsgB x) (hix : x.ix ≤ 4611686018427387904) : NdB (N + x.es.length) { m with g := (merge m.g x.ix x.pv x.es).2 } := by
  have hl := laid_b h hx hix
  exact { h.mono (Nat.le_add_right N x.es.length) with fine := hl.fine, es := hl.es, top := hl.top }
/-- The log takes entries that came. -/
theorem log_merge (h : PAt B w p z m) (f : NdB N m) (hN : N ≤ 800000000) (x : Msg) (a : Pl) (hx : MsgB x) (hf : Fit w (Mine p z) x a) (hix : x.ix ≤ 4611686018427387904) (hes : x.es.length ≤ 100000000) {l' : List Ent} {b : Bool} {g' : G} (hr : merge m.g x.ix x.pv x.es = ((l', b), g')) :
    Calls Try.prog 51 #[.pointer (some ⟨z.q, 0, none⟩), .int .u64 (x.ix : Int), .int .u64 (x.pv : Int), .slice a.A a.n a.c] w fun e w' =>
      ∃ A c v', e = .returned (.tuple #[.slice A l'.length c, .bool b]) ∧ RE w' w'.heap.size A l'.length l' ∧ l'.length ≤ c ∧ c ≤ 9223372036854775807 ∧ PAt B w' p { z with vg := v' } { m with g := g' } ∧ Grow p z { z with vg := v' } w w' := by
  have hge := f.es
  have hn := RE.len hf.re
  have := RlgWalkI.merge_any h.log f.fine a.A a.n a.c x.ix x.pv x.es hf.re (fun hn ad e hk => hf.off hn ad e (.inr (.inl hk))) hx.es hf.fits hf.max hx.ix (fun _ => by omega)
  rw [hr] at this
  refine this.mono ?_
  rintro e w' ⟨A, c, rfl, h1, h2, h3, hl, ho⟩
  obtain ⟨v', h', g''⟩ := NodeAt.logged h hl
  exact ⟨A, c, v', rfl, h1, h2, h3, h', g''⟩
theorem merge_false {g : G} {i t : Nat} {l : List Ent} (h : (merge g i t l).1.2 = false) : (merge g i t l).2 = g := by
  unfold merge at h ⊢
  split
  · rfl
  split
  · rfl
  split
  · rfl
  · rename_i h1 h2 h3
    rw [if_neg h1, if_neg h2, if_neg h3] at h
    unfold lay at h
    split at h <;> cases h
set_option maxHeartbeats 4000000 in
theorem merge_any (h : PAt B w p z m) (f : NdB N m) (hN : N ≤ 700000000) (x : Msg) (a : Pl) (hx : MsgB x) (hf : Fit w (Mine p z) x a) (hix : x.ix ≤ 4611686018427387904) (hes : x.es.length ≤ 100000000) :
    Calls Try.prog 37 #[.pointer (some ⟨p, 0, none⟩), ltV x a] w (Does B w p z (merged m x)) := by
  have hba : Below w.heap.size w (w.alloc (.cells (ltCs x a).toArray 41)) := (Below.refl _ _).alloc (Nat.le_refl _) _
  have hbx := LBox.new w x a
  have hmg := fun W (hb : Below w.heap.size w W) {l' : List Ent} {b : Bool} {g' : G} (hr : merge m.g x.ix x.pv x.es = ((l', b), g')) => log_merge (h.below hb) f (by omega) x a hx (hf.below hb) hix hes hr
  have hbf := fun W z' (h' : PAt B W p z' m) => before_any h' f (i := x.ix) hx.ix
  have hrp := fun W z' (h' : PAt B W p z' m) (i : Nat) (b : Bool) => reply_any h' f (by omega) x.f i b
  have hmF : (merge m.g x.ix x.pv x.es).1.2 = false → (merge m.g x.ix x.pv x.es).2 = m.g := merge_false
  have hMw : wild x = true → merged m x = m := fun e => by unfold merged; rw [if_pos e]
  have hMf : wild x = false → (merge m.g x.ix x.pv x.es).1.2 = false → merged m x = reply m x.f (before m x.ix) false := fun e1 e2 => by unfold merged; rw [if_neg (by rw [e1]; simp), if_neg (by rw [e2]; simp)]
  have hMt : wild x = false → (merge m.g x.ix x.pv x.es).1.2 = true → merged m x = reply (laid m x) x.f (aheadN x) true := fun e1 e2 => by unfold merged; rw [if_neg (by rw [e1]; simp), if_pos e2]
  have f1 := logm_b f hx hix
  have f2 := laid_b f hx hix
  have hlaid : laid m x = { m with g := (merge m.g x.ix x.pv x.es).2, kept := keepL m.kept (merge m.g x.ix x.pv x.es).1.1, commit := max m.commit (min x.cm (aheadN x)) } := rfl
  have hml := merge_len m.g x.ix x.pv x.es
  have hwild : wild x = x.es.any fun e => decide (x.tm < e.term) := rfl
  have hah : aheadN x = a.n + x.ix := by unfold aheadN; have := RE.len hf.re; omega
  have hre := hf.re
  have h63 := hf.max
  have hfits := hf.fits
  have hln := RE.len hf.re
  have hcmb := hx.cm
  have hcb := f.commit
  obtain ⟨⟨⟨l', b⟩, g'⟩, hR⟩ : ∃ R, merge m.g x.ix x.pv x.es = R := ⟨_, rfl⟩
  rw [hR] at hMf hMt f1 hlaid hml hmF
  simp only at hMf hMt f1 hlaid hml hmF
  have hmg := fun W (hb : Below w.heap.size w W) => hmg W hb hR
  obtain ⟨BF, hBF⟩ : ∃ BF, before m x.ix = BF := ⟨_, rfl⟩
  rw [hBF] at hMf
  simp only [hBF] at hbf
  obtain ⟨M, hM⟩ : ∃ M, merged m x = M := ⟨_, rfl⟩
  rw [hM] at hMw hMf hMt ⊢
  obtain ⟨m2, hm2⟩ : ∃ m2, laid m x = m2 := ⟨_, rfl⟩
  rw [hm2] at hMt f2 hlaid
  obtain ⟨X2, hX2⟩ : ∃ X2, wild x = X2 := ⟨_, rfl⟩
  rw [hX2] at hMw hMf hMt hwild
  rw [hah] at hMt hlaid
  have H := Lib.hid h
  have F1 := Lib.hid f1
  have F2 := Lib.hid f2
  have HMg := Lib.hid hmg
  have HBf := Lib.hid hbf
  have HRp := Lib.hid hrp
  have HMw := Lib.hid hMw
  have HMf := Lib.hid hMf
  have HMt := Lib.hid hMt
  have HLaid := Lib.hid hlaid
  have HRe := Lib.hid hre
  have HmF := Lib.hid hmF
  have HWild := Lib.hid hwild
  clear h f f1 f2 hmg hbf hrp hMw hMf hMt hlaid hre hwild hx hf hR hmF hBF hM hm2 hX2 hah
  obtain ⟨kd, fr, tt, tm, ix, pv, cm, ok, es, d⟩ := x
  unfold ltV
  simp only [ltCs] at hba hbx HMg HBf HRp HMf HMt HLaid HRe HWild hln hcmb hix ⊢
  have x0 := hbx.c0
  have x1 := hbx.c1
  have x2 := hbx.c2
  have x3 := hbx.c3
  have x4 := hbx.c4
  have x5 := hbx.c5
  have x6 := hbx.c6
  have x7 := hbx.c7
  have x8 := hbx.c8
  have x9 := hbx.c9
  have hlt := hbx.lt
  obtain ⟨w0, hw0⟩ : ∃ w0, w.alloc (.cells [.int .i64 kd, .int .i64 fr, .int .i64 tt, .int .u64 (tm : Int), .int .u64 (ix : Int), .int .u64 (pv : Int), .int .u64 (cm : Int), .bool ok, .slice a.A a.n a.c, .string d].toArray 41) = w0 := ⟨_, rfl⟩
  rw [hw0] at hba hbx x0 x1 x2 x3 x4 x5 x6 x7 x8 x9 hlt
  simp only at x0 x1 x2 x3 x4 x5 x6 x7 x8 x9
  have HW0 := Lib.hid hw0
  have HBA := Lib.hid hba
  clear hw0
  have y3 := x3
  have hcon := contains_any (c := a.c) ((Kit.Reads.below HRe.out hba).more hba.size) (by omega) x3 hlt
  rw [← HWild.out] at hcon
  have HCon := Lib.hid hcon
  clear hcon hba hbx
  go_enter Try.func37, Try.ntmps37
  go_wp2_with fail
  rw [HW0.out]
  with_reducible refine HCon.out.mono ?_
  rintro e w1 ⟨rfl, hb1⟩
  have HB1 := Lib.hid (HBA.out.trans (hb1.mono HBA.out.size))
  have K : Hid (∀ i u, w0.cell? ⟨w.heap.size, i, none⟩ = some u → w1.cell? ⟨w.heap.size, i, none⟩ = some u) := fun i u hu => (hb1.cell (p := ⟨w.heap.size, i, none⟩) hlt).trans hu
  have z1 := K.out _ _ x1
  have z4 := K.out _ _ x4
  have z5 := K.out _ _ x5
  have z6 := K.out _ _ x6
  have z8 := K.out _ _ x8
  have hl1 : w.heap.size < w1.heap.size := Nat.lt_of_lt_of_le hlt hb1.size
  have h1 := H.out.below HB1.out
  have c7 := h1.c7
  clear hb1 h1 x0 x1 x2 x3 x4 x5 x6 x7 x8 x9 y3
  cases X2 with
  | true =>
    have HM2 := Lib.hid (HMw.out rfl)
    clear HMw HMf HMt
    go_wp2
    (try simp only [Exit.inBlock, Exit.then]); refine bodyPost_ret (results_none rfl _ _ _) rfl ?_
    rw [HM2.out]
    exact ⟨rfl, LeftP.of_below H.out HB1.out⟩
  | false =>
    go_wp2_with fail
    go_region_held3 (fun W => W.cell? ⟨p, 7, none⟩ = some (.pointer (some ⟨z.q, 0, none⟩)) ∧ W.cell? ⟨w.heap.size, 4, none⟩ = some (.int .u64 (ix : Int)) ∧ W.cell? ⟨w.heap.size, 5, none⟩ = some (.int .u64 (pv : Int)) ∧ W.cell? ⟨w.heap.size, 8, none⟩ = some (.slice a.A a.n a.c))
      (first
        | exact ⟨c7, z4, z5, z8⟩
        | (with_reducible exact HKA.out))
      (first
        | (go_at_call 51
           with_reducible refine (HMg.out _ HB1.out.drew).mono ?_
           rintro e wA ⟨A2, c2, v2, rfl, r1, r2, r3, h2, g2⟩
           have hno : ¬ Mine p z w.heap.size := fun e => by have := (NodeAt.mine_lt H.out e).2; omega
           have K2 : Hid (∀ i u, w1.cell? ⟨w.heap.size, i, none⟩ = some u → wA.cell? ⟨w.heap.size, i, none⟩ = some u) := fun i u hu => (g2.only.cell (p := ⟨w.heap.size, i, none⟩) hl1 hno).trans hu
           have HKA := Lib.hid (And.intro (PAt.c7 h2) (And.intro (K2.out _ _ z4) (And.intro (K2.out _ _ z5) (K2.out _ _ z8))))
           have H2 := Lib.hid h2
           have G2 := Lib.hid (Grow.afterBelow HB1.out.drew g2)
           have HN2 := Lib.hid (WalkG.Grow.out g2 hno hl1)
           have R1 := Lib.hid r1
           have hlA : w.heap.size < wA.heap.size := Nat.lt_of_lt_of_le hl1 g2.size
           clear h2 g2 r1 hno))
    have z1A := K2.out _ _ z1
    have z4A := K2.out _ _ z4
    have z6A := K2.out _ _ z6
    have z8A := K2.out _ _ z8
    cases b with
    | false =>
      have hM2 := HMf.out trivial rfl
      have hg := HmF.out rfl
      have h3 : PAt B wA p { q := z.q, vg := v2, vk := z.vk, vo := z.vo, Z := z.Z, X := z.X } m := by have := H2.out; rw [hg] at this; exact this
      have H3 := Lib.hid h3
      have HM2 := Lib.hid hM2
      have HB2 : Hid (∀ W, Below wA.heap.size wA W → PAt B W p { q := z.q, vg := v2, vk := z.vk, vo := z.vo, Z := z.Z, X := z.X } m) := fun W hb => PAt.below h3 hb
      have HDA : Hid (Below wA.heap.size wA wA.drew) := (Below.refl _ wA).drew
      clear hM2 hg h3
      go_wp2_with fail
      go_region_held3 (fun W => W.cell? ⟨w.heap.size, 1, none⟩ = some (.int .i64 fr) ∧ W.cell? ⟨w.heap.size, 4, none⟩ = some (.int .u64 (ix : Int)))
        (first
          | exact ⟨z1A, z4A⟩
          | (with_reducible exact HKC.out)
          | (with_reducible exact HKD.out))
        (first
          | (go_at_call 52
             with_reducible refine (HBf.out _ _ (HB2.out _ HDA.out)).mono ?_
             rintro e wC ⟨rfl, hbC⟩
             have HKC := Lib.hid (And.intro ((hbC.cell (p := ⟨w.heap.size, 1, none⟩) hlA).trans z1A) ((hbC.cell (p := ⟨w.heap.size, 4, none⟩) hlA).trans z4A))
             have HBC := Lib.hid (HDA.out.trans hbC)
             have hlC : w.heap.size < wC.heap.size := Nat.lt_of_lt_of_le hlA hbC.size
             clear hbC)
          | (go_at_call 36
             with_reducible refine (HRp.out _ _ (HB2.out _ HBC.out) _ _).mono ?_
             rintro e wD ⟨rfl, z4', h4, g4⟩
             have HKD := Lib.hid (And.intro ((g4.only.cell (p := ⟨w.heap.size, 1, none⟩) hlC HN2.out).trans HKC.out.1) ((g4.only.cell (p := ⟨w.heap.size, 4, none⟩) hlC HN2.out).trans HKC.out.2))
             have H4 := Lib.hid h4
             have G4 := Lib.hid (G2.out.trans (Grow.afterBelow HBC.out g4))
             clear h4 g4))
      all_goals go_wp2
      all_goals (try simp only [Exit.inBlock, Exit.then])
      all_goals refine bodyPost_ret (results_none rfl _ _ _) rfl ?_
      all_goals rw [HM2.out]
      all_goals exact ⟨rfl, z4', H4.out, G4.out⟩
    | true =>
      have hM2 := HMt.out trivial rfl
      have hkp := keep_any H2.out F1.out (by omega) A2 c2 l' R1.out (by omega)
      have HM2 := Lib.hid hM2
      have HKp := Lib.hid hkp
      obtain ⟨C, hC⟩ : ∃ C, m.commit = C := ⟨_, rfl⟩
      have hCv : ∀ z' W, PAt B W p z' (keep { m with g := g' } l') → W.cell? ⟨p, 10, none⟩ = some (.int .u64 (C : Int)) := fun z' W hp => by
        have := PAt.c10 hp
        rw [show (keep { m with g := g' } l').commit = C from hC] at this
        exact this
      have HCv := Lib.hid hCv
      have HCe := Lib.hid hC
      obtain ⟨HH, hHH⟩ : ∃ HH, a.n + ix = HH := ⟨_, rfl⟩
      have hHb : HH < 18446744073709551616 := by have : es.length = a.n := hln; omega
      have hsum : IntKind.u64.wrap ((ix : Int) + (a.n : Int)) = (HH : Int) := by rw [show (ix : Int) + (a.n : Int) = (HH : Int) by omega]; exact IntWalk.u64_in _ (by omega)
      have hcv : IntKind.u64.wrap (a.n : Int) = (a.n : Int) := IntWalk.u64_in _ (by have : es.length = a.n := hln; omega)
      obtain ⟨mn, hmn⟩ : ∃ mn, min cm HH = mn := ⟨_, rfl⟩
      obtain ⟨mx, hmx⟩ : ∃ mx, max C mn = mx := ⟨_, rfl⟩
      have hmin : min (cm : Int) (HH : Int) = (mn : Int) := by omega
      have hmax : max (C : Int) (mn : Int) = (mx : Int) := by omega
      have hm2e : m2 = { keep { m with g := g' } l' with commit := mx } := by rw [HLaid.out, hHH, hC, hmn, hmx]; rfl
      have HM2e := Lib.hid hm2e
      have HHH := Lib.hid hHH
      clear hM2 hkp hCv hC hHH hmn hmx hm2e hHb
      go_wp2_with fail
      with_reducible refine HKp.out.mono ?_
      rintro e wB ⟨rfl, z3, h3, g3⟩
      have K3 : Hid (∀ i u, wA.cell? ⟨w.heap.size, i, none⟩ = some u → wB.cell? ⟨w.heap.size, i, none⟩ = some u) := fun i u hu => (g3.only.cell (p := ⟨w.heap.size, i, none⟩) hlA HN2.out).trans hu
      have z1B := K3.out _ _ z1A
      have z4B := K3.out _ _ z4A
      have z6B := K3.out _ _ z6A
      have z8B := K3.out _ _ z8A
      have q10 := HCv.out _ _ h3
      have k10 := NodeAt.free h3 10
      have hpB := NodeAt.plt h3
      have hN3 := WalkG.Grow.out g3 HN2.out hlA
      have hlB : w.heap.size < wB.heap.size := Nat.lt_of_lt_of_le hlA g3.size
      have hnp : ¬ w.heap.size = p := fun e => hN3 (.inl e)
      have hnp2 : ¬ p = w.heap.size := fun e => hnp e.symm
      obtain ⟨h4, g4⟩ := PAt.setTo h3 10 (.int .u64 (mx : Int)) m2 (by rw [HM2e.out]; rfl) (by rw [HM2e.out]) (by rw [HM2e.out]) (by rw [HM2e.out])
      have H4 := Lib.hid (PAt.drew h4)
      have G4 := Lib.hid (((G2.out.trans g3).trans g4).thenBelow ((Below.refl _ _).drew))
      have z1C : (wB.setCell ⟨p, 10, none⟩ (.int .u64 (mx : Int))).drew.cell? ⟨w.heap.size, 1, none⟩ = some (.int .i64 fr) := (g4.only.cell (p := ⟨w.heap.size, 1, none⟩) hlB hN3).trans z1B
      clear h3 g3 h4 g4
      go_wp2_with fail
      go_region
      generalize (wB.setCell ⟨p, 10, none⟩ (.int .u64 (mx : Int))).drew = wE at H4 G4 z1C ⊢
      have hrp2 := reply_any H4.out F2.out (by omega) fr HH true
      rw [← HHH.out, ← HM2.out] at hrp2
      have hrp2 : Calls Try.prog 36 #[.pointer (some ⟨p, 0, none⟩), .int .i64 fr, .int .u64 (HH : Int), .bool true] wE (Does B wE p z3 M) := by rw [← HHH.out]; exact hrp2
      have HRp2 := Lib.hid hrp2
      clear hrp2
      go_wp2_with fail
      with_reducible refine HRp2.out.mono ?_
      rintro e wF ⟨rfl, hl⟩
      have HL := Lib.hid hl
      clear hl
      go_wp2
      go_end0
      exact ⟨rfl, LeftP.then G4.out HL.out⟩
end
end Go.Proofs.Ytdbmpfongfiagaa.WalkL
set_option linter.unusedVariables false
namespace Go.Proofs.Ytdbmpfongfiagaa.WalkM
open Go.RowKit Go.Proofs.Ytdbmpfongfiagaa.Kit Go.Proofs.Ytdbmpfongfiagaa.Blocks Go.Proofs.Ytdbmpfongfiagaa.Rlog Go.Proofs.Ytdbmpfongfiagaa.Ents Go.Proofs.Ytdbmpfongfiagaa.LogAt Go.Proofs.Ytdbmpfongfiagaa.Nod Go.Proofs.Ytdbmpfongfiagaa.NodAt Go.Proofs.Ytdbmpfongfiagaa.AppL Go.Proofs.Ytdbmpfongfiagaa.WalkA Go.Proofs.Ytdbmpfongfiagaa.WalkB Go.Proofs.Ytdbmpfongfiagaa.WalkC Go.Proofs.Ytdbmpfongfiagaa.WalkD Go.Proofs.Ytdbmpfongfiagaa.WalkE Go.Proofs.Ytdbmpfongfiagaa.WalkH Go.Proofs.Ytdbmpfongfiagaa.WalkL
open Go.Proofs.Ytdbmpfongfiagaa.Quorum (mem size need sound maj node has turn change)

section
variable {B p N : Nat} {z : Seat} {m : Nd} {w : World}
theorem install_err {g : G} {s : Snap} (h : (install g s).1 ≠ 0) : (install g s).2 = g := by
  unfold install at h ⊢
  split
  · rfl
  split
  · rfl
  · rename_i h1 h2
    rw [if_neg h1, if_neg h2] at h
    exact absurd rfl h
/-- The log takes a snapshot that came. -/
theorem log_install (h : PAt B w p z m) (f : NdB N m) (hN : N ≤ 800000000) (x : Msg) (hx : MsgB x) {k : Int} {g' : G} (hr : install m.g (snapOf x) = (k, g')) :
    Calls Try.prog 54 #[.pointer (some ⟨z.q, 0, none⟩), .agg #[.int .u64 (x.ix : Int), .int .u64 (x.pv : Int), .int .u64 (x.cm : Int), .string x.d]] w fun e w' =>
      e = .returned (.int .i64 k) ∧ ∃ z', PAt B w' p z' { m with g := g' } ∧ Grow p z z' w w' := by
  have hge := f.es
  have := RlgWalkK.install_any h.log (snapOf_b hx) (by omega)
  rw [hr] at this
  refine this.mono ?_
  rintro e w' ⟨rfl, hl⟩
  obtain ⟨v', h', g''⟩ := NodeAt.logged h hl
  exact ⟨rfl, _, h', g''⟩
/-- No entries are gathered. -/
theorem PAt.unkept (h : PAt B w p z m) : PAt B (w.setCell ⟨p, 0, none⟩ (.slice none 0 0)) p { z with vk := .slice none 0 0 } { m with kept := [] } ∧ Grow p z { z with vk := .slice none 0 0 } w (w.setCell ⟨p, 0, none⟩ (.slice none 0 0)) := by
  obtain ⟨_, h2, h3⟩ := NodeAt.rekept (kept' := []) h (Only.refl (fun q => z.vk.ownBlock = some q) w) (v' := .slice none 0 0) (World.ownsRow_nil _ _ _ _) rfl rfl (fun q hq => by simp [Value.ownBlock] at hq) 0
  exact ⟨h2, h3⟩
set_option maxHeartbeats 4000000 in
theorem lay_any (h : PAt B w p z m) (f : NdB N m) (hN : N ≤ 700000000) (x : Msg) (a : Pl) (hx : MsgB x) (hix : x.ix ≤ 4611686018427387904) :
    Calls Try.prog 38 #[.pointer (some ⟨p, 0, none⟩), ltV x a] w (Does B w p z (laysDown m x)) := by
  have hba : Below w.heap.size w (w.alloc (.cells (ltCs x a).toArray 41)) := (Below.refl _ _).alloc (Nat.le_refl _) _
  have hbx := LBox.new w x a
  have hin0 := fun W (hb : Below w.heap.size w W) {k : Int} {g' : G} (hr : install m.g (snapOf x) = (k, g')) => log_install (h.below hb) f (by omega) x hx hr
  have hrp := fun W z' (h' : PAt B W p z' m) => reply_any h' f (by omega) x.f x.ix true
  have hM0 : laysDown m x = if m.commit < x.ix then (if x.tm < x.pv ∨ (install m.g (snapOf x)).1 ≠ 0 then m else reply (installs m x) x.f x.ix true) else reply m x.f x.ix true := rfl
  have f2 := installs_b f hx hix
  have hIE := install_err (g := m.g) (s := snapOf x)
  have hins : installs m x = { m with g := (install m.g (snapOf x)).2, commit := x.ix, inst := true, kept := [] } := rfl
  obtain ⟨⟨k, g'⟩, hR⟩ : ∃ R, install m.g (snapOf x) = R := ⟨_, rfl⟩
  have hin := fun W (hb : Below w.heap.size w W) => hin0 W hb hR
  clear hin0
  rw [hR] at hM0 hIE hins
  simp only at hM0 hIE hins
  obtain ⟨m2, hm2⟩ : ∃ m2, installs m x = m2 := ⟨_, rfl⟩
  rw [hm2] at hM0 f2 hins
  obtain ⟨M, hM⟩ : ∃ M, laysDown m x = M := ⟨_, rfl⟩
  rw [hM] at hM0 ⊢
  obtain ⟨C, hC⟩ : ∃ C, m.commit = C := ⟨_, rfl⟩
  rw [hC] at hM0
  have H := Lib.hid h
  have F2 := Lib.hid f2
  have HIn := Lib.hid hin
  have HRp := Lib.hid hrp
  have HM := Lib.hid hM0
  have HIE := Lib.hid hIE
  have HIns := Lib.hid hins
  have HC := Lib.hid hC
  clear h f f2 hin hrp hM0 hIE hins hx hR hm2 hM hC
  obtain ⟨kd, fr, tt, tm, ix, pv, cm, ok, es, d⟩ := x
  unfold ltV
  simp only [ltCs] at hba hbx HIn HRp HM HIns ⊢
  have x0 := hbx.c0
  have x1 := hbx.c1
  have x2 := hbx.c2
  have x3 := hbx.c3
  have x4 := hbx.c4
  have x5 := hbx.c5
  have x6 := hbx.c6
  have x7 := hbx.c7
  have x8 := hbx.c8
  have x9 := hbx.c9
  have hlt := hbx.lt
  obtain ⟨w0, hw0⟩ : ∃ w0, w.alloc (.cells [.int .i64 kd, .int .i64 fr, .int .i64 tt, .int .u64 (tm : Int), .int .u64 (ix : Int), .int .u64 (pv : Int), .int .u64 (cm : Int), .bool ok, .slice a.A a.n a.c, .string d].toArray 41) = w0 := ⟨_, rfl⟩
  rw [hw0] at hba hbx x0 x1 x2 x3 x4 x5 x6 x7 x8 x9 hlt
  simp only at x0 x1 x2 x3 x4 x5 x6 x7 x8 x9
  have HW0 := Lib.hid hw0
  have HBA := Lib.hid hba
  clear hw0
  have h0 := H.out.below HBA.out
  have c10 := h0.c10
  have c7 := h0.c7
  rw [HC.out] at c10
  have hp0 := h0.plt
  clear h0 hba hbx
  by_cases hlt2 : C < ix
  · have hgt : decide ((C : Int) < (ix : Int)) = true := by simp; omega
    by_cases hpv : tm < pv
    · have HM2 : Hid (M = m) := Lib.hid (by rw [HM.out, if_pos hlt2, if_pos (.inl hpv)])
      go_enter Try.func38, Try.ntmps38
      go_wp2_with fail
      rw [HW0.out]
      go_quiet (fail)
      have hbq : Below w.heap.size w (w0.drewN nq) := below_drewN HBA.out nq
      have y3 : (w0.drewN nq).cell? ⟨w.heap.size, 3, none⟩ = some (.int .u64 (tm : Int)) := x3
      have y4 : (w0.drewN nq).cell? ⟨w.heap.size, 4, none⟩ = some (.int .u64 (ix : Int)) := x4
      have y5 : (w0.drewN nq).cell? ⟨w.heap.size, 5, none⟩ = some (.int .u64 (pv : Int)) := x5
      have y6 : (w0.drewN nq).cell? ⟨w.heap.size, 6, none⟩ = some (.int .u64 (cm : Int)) := x6
      have y9 : (w0.drewN nq).cell? ⟨w.heap.size, 9, none⟩ = some (.string d) := x9
      have hlq : w.heap.size < (w0.drewN nq).heap.size := hlt
      generalize w0.drewN nq = wq at hbq y3 y4 y5 y6 y9 hlq ⊢
      have HBQ := Lib.hid hbq
      clear hbq
      go_wp2_with fail
      go_quiet (fail)
      go_wp2
      (try simp only [Exit.inBlock, Exit.then]); refine bodyPost_ret (results_none rfl _ _ _) rfl ?_
      rw [HM2.out]
      exact ⟨rfl, LeftP.of_below H.out (below_drewN (HBQ.out.alloc HBQ.out.size _) _)⟩
    · have hnp : ¬ w.heap.size = p := fun e => by have := H.out.plt; omega
      go_enter Try.func38, Try.ntmps38
      go_wp2_with fail
      rw [HW0.out]
      go_quiet (fail)
      have hbq : Below w.heap.size w (w0.drewN nq) := below_drewN HBA.out nq
      have y1 : (w0.drewN nq).cell? ⟨w.heap.size, 1, none⟩ = some (.int .i64 fr) := x1
      have y3 : (w0.drewN nq).cell? ⟨w.heap.size, 3, none⟩ = some (.int .u64 (tm : Int)) := x3
      have y4 : (w0.drewN nq).cell? ⟨w.heap.size, 4, none⟩ = some (.int .u64 (ix : Int)) := x4
      have y5 : (w0.drewN nq).cell? ⟨w.heap.size, 5, none⟩ = some (.int .u64 (pv : Int)) := x5
      have y6 : (w0.drewN nq).cell? ⟨w.heap.size, 6, none⟩ = some (.int .u64 (cm : Int)) := x6
      have y9 : (w0.drewN nq).cell? ⟨w.heap.size, 9, none⟩ = some (.string d) := x9
      have hlq : w.heap.size < (w0.drewN nq).heap.size := hlt
      generalize w0.drewN nq = wq at hbq y1 y3 y4 y5 y6 y9 hlq ⊢
      have hbs : Below w.heap.size w (wq.alloc (.cells #[.int .u64 (ix : Int), .int .u64 (pv : Int), .int .u64 (cm : Int), .string d] 26)) := hbq.alloc hbq.size _
      have hbl : Below wq.heap.size wq (wq.alloc (.cells #[.int .u64 (ix : Int), .int .u64 (pv : Int), .int .u64 (cm : Int), .string d] 26)) := (Below.refl _ _).alloc (Nat.le_refl _) _
      have hsb := heap_alloc_new wq (.cells #[.int .u64 (ix : Int), .int .u64 (pv : Int), .int .u64 (cm : Int), .string d] 26)
      go_wp2_with fail
      generalize wq.alloc (.cells #[.int .u64 (ix : Int), .int .u64 (pv : Int), .int .u64 (cm : Int), .string d] 26) = ws at hbs hbl hsb ⊢
      obtain ⟨R2, hR2⟩ : ∃ R2, wq.heap.size = R2 := ⟨_, rfl⟩
      have s0 : ws.cell? ⟨R2, 0, none⟩ = some (.int .u64 (ix : Int)) := by rw [← hR2]; exact cell_at hsb 0
      have s1 : ws.cell? ⟨R2, 1, none⟩ = some (.int .u64 (pv : Int)) := by rw [← hR2]; exact cell_at hsb 1
      have s2 : ws.cell? ⟨R2, 2, none⟩ = some (.int .u64 (cm : Int)) := by rw [← hR2]; exact cell_at hsb 2
      have s3 : ws.cell? ⟨R2, 3, none⟩ = some (.string d) := by rw [← hR2]; exact cell_at hsb 3
      have hl2 : R2 < ws.heap.size := by rw [← hR2]; exact lt_at hsb
      have u1 := (hbl.cell (p := ⟨w.heap.size, 1, none⟩) hlq).trans y1
      have u3 := (hbl.cell (p := ⟨w.heap.size, 3, none⟩) hlq).trans y3
      have u4 := (hbl.cell (p := ⟨w.heap.size, 4, none⟩) hlq).trans y4
      have u5 := (hbl.cell (p := ⟨w.heap.size, 5, none⟩) hlq).trans y5
      have hls : w.heap.size < ws.heap.size := Nat.lt_of_lt_of_le hlq hbl.size
      have e7 := (H.out.below hbs).c7
      have hRw : w.heap.size ≤ R2 := by rw [← hR2]; exact hbq.size
      rw [hR2]
      have HBS := Lib.hid hbs
      clear hbq hbs hbl hsb hR2 x0 x1 x2 x3 x4 x5 x6 x7 x8 x9 y1 y3 y4 y5 y6 y9
      go_wp2_with fail
      go_region_held3 (fun W => W.cell? ⟨p, 7, none⟩ = some (.pointer (some ⟨z.q, 0, none⟩)) ∧ W.cell? ⟨w.heap.size, 3, none⟩ = some (.int .u64 (tm : Int)) ∧ W.cell? ⟨w.heap.size, 5, none⟩ = some (.int .u64 (pv : Int)) ∧ W.cell? ⟨R2, 0, none⟩ = some (.int .u64 (ix : Int)) ∧ W.cell? ⟨R2, 1, none⟩ = some (.int .u64 (pv : Int)) ∧ W.cell? ⟨R2, 2, none⟩ = some (.int .u64 (cm : Int)) ∧ W.cell? ⟨R2, 3, none⟩ = some (.string d))
        (first
          | exact ⟨e7, u3, u5, s0, s1, s2, s3⟩
          | (with_reducible exact HKA.out))
        (first
          | (go_at_call 54
             with_reducible refine (HIn.out _ HBS.out.drew).mono ?_
             rintro e wA ⟨rfl, z1, h1, g1⟩
             have hno : ¬ Mine p z w.heap.size := fun e => by have := (NodeAt.mine_lt H.out e).2; omega
             have hno2 : ¬ Mine p z R2 := fun e => by have := (NodeAt.mine_lt H.out e).2; omega
             have K2 : Hid (∀ i u, ws.cell? ⟨w.heap.size, i, none⟩ = some u → wA.cell? ⟨w.heap.size, i, none⟩ = some u) := fun i u hu => (g1.only.cell (p := ⟨w.heap.size, i, none⟩) hls hno).trans hu
             have K3 : Hid (∀ i u, ws.cell? ⟨R2, i, none⟩ = some u → wA.cell? ⟨R2, i, none⟩ = some u) := fun i u hu => (g1.only.cell (p := ⟨R2, i, none⟩) hl2 hno2).trans hu
             have hq1 : wA.cell? ⟨p, 7, none⟩ = some (.pointer (some ⟨z.q, 0, none⟩)) := by rw [← g1.q]; exact PAt.c7 h1
             have HKA := Lib.hid (And.intro hq1 (And.intro (K2.out _ _ u3) (And.intro (K2.out _ _ u5) (And.intro (K3.out _ _ s0) (And.intro (K3.out _ _ s1) (And.intro (K3.out _ _ s2) (K3.out _ _ s3)))))))
             have H1 := Lib.hid h1
             have G1 := Lib.hid (Grow.afterBelow HBS.out.drew g1)
             have HN1 := Lib.hid (WalkG.Grow.out g1 hno hls)
             have hlA : w.heap.size < wA.heap.size := Nat.lt_of_lt_of_le hls g1.size
             clear h1 g1 hno hno2 hq1))
      all_goals
        have z1A := K2.out _ _ u1
        have z4A := K2.out _ _ u4
      by_cases hk : k = 0
      · subst hk
        have HM2 : Hid (M = reply m2 fr ix true) := Lib.hid (by rw [HM.out, if_pos hlt2, if_neg (by rintro (e | e); exact hpv e; exact e rfl)])
        have d10 := PAt.c10 H1.out
        have d2 := PAt.c2 H1.out
        have d0 := PAt.c0 H1.out
        have k10 := NodeAt.free H1.out 10
        have k2 := NodeAt.free H1.out 2
        have k0 := NodeAt.free H1.out 0
        have hpA := NodeAt.plt H1.out
        obtain ⟨h2, g2⟩ := PAt.setTo H1.out 10 (.int .u64 (ix : Int)) { m with g := g', commit := ix } rfl rfl rfl rfl
        obtain ⟨h3, g3⟩ := PAt.setTo h2 2 (.bool true) { m with g := g', commit := ix, inst := true } rfl rfl rfl rfl
        obtain ⟨h4, g4⟩ := PAt.unkept h3
        have he : ({ m with g := g', commit := ix, inst := true, kept := [] } : Nd) = m2 := HIns.out.symm
        have h4' : PAt B (((wA.setCell ⟨p, 10, none⟩ (.int .u64 (ix : Int))).setCell ⟨p, 2, none⟩ (.bool true)).setCell ⟨p, 0, none⟩ (.slice none 0 0)) p { z1 with vk := .slice none 0 0 } m2 := by
          have := h4
          rw [show ({ ({ m with g := g', commit := ix, inst := true } : Nd) with kept := [] } : Nd) = m2 from he] at this
          exact this
        have hrp2 := reply_any h4' F2.out (by omega) fr ix true
        rw [← HM2.out] at hrp2
        have HRp2 := Lib.hid hrp2
        have G4 := Lib.hid (((G1.out.trans g2).trans g3).trans g4)
        have hnp2 : ¬ p = w.heap.size := fun e => hnp e.symm
        clear h2 g2 h3 g3 h4 g4 h4' hrp2 he HM HIE HIns
        go_wp2_with fail
        with_reducible refine HRp2.out.mono ?_
        rintro e wD ⟨rfl, hl⟩
        have HL := Lib.hid hl
        clear hl
        go_wp2
        go_end0
        exact ⟨rfl, LeftP.then G4.out HL.out⟩
      · have HM2 : Hid (M = m) := Lib.hid (by rw [HM.out, if_pos hlt2, if_pos (.inr hk)])
        have hg := HIE.out hk
        have h2 : PAt B wA p z1 m := by have := H1.out; rw [hg] at this; exact this
        have H2 := Lib.hid h2
        have hne : (k != 0) = true := by simpa using hk
        clear h2 hg HM HIE HIns
        go_wp2
        (try simp only [Exit.inBlock, Exit.then]); refine bodyPost_ret (results_none rfl _ _ _) rfl ?_
        rw [HM2.out]
        exact ⟨rfl, z1, H2.out, G1.out⟩
  · have hgt : decide ((C : Int) < (ix : Int)) = false := by simp; omega
    have HM2 : Hid (M = reply m fr ix true) := Lib.hid (by rw [HM.out, if_neg hlt2])
    clear HM
    go_enter Try.func38, Try.ntmps38
    go_wp2_with fail
    rw [HW0.out]
    go_quiet (fail)
    have hbq : Below w.heap.size w (w0.drewN nq) := below_drewN HBA.out nq
    have y1 : (w0.drewN nq).cell? ⟨w.heap.size, 1, none⟩ = some (.int .i64 fr) := x1
    have y4 : (w0.drewN nq).cell? ⟨w.heap.size, 4, none⟩ = some (.int .u64 (ix : Int)) := x4
    generalize w0.drewN nq = wq at hbq y1 y4 ⊢
    have hr := HRp.out wq z (H.out.below hbq)
    rw [← HM2.out] at hr
    have HR := Lib.hid hr
    have HBQ := Lib.hid hbq
    clear hr hbq
    go_wp2_with fail
    with_reducible refine HR.out.mono ?_
    rintro e w2 ⟨rfl, hl⟩
    have HL := Lib.hid hl
    clear hl
    go_wp2
    go_end0
    exact ⟨rfl, LeftP.afterBelow HBQ.out HL.out⟩
set_option maxHeartbeats 4000000 in
theorem written_any (h : PAt B w p z m) (f : NdB N m) (hN : N ≤ 700000000) (x : Msg) (a : Pl) (hx : MsgB x) (hf : Fit w (Mine p z) x a) (hn : node x.f = true) (hix : x.ix ≤ 4611686018427387904) (hes : x.es.length ≤ 100000000) :
    Calls Try.prog 23 #[.pointer (some ⟨p, 0, none⟩), ltV x a] w (Does B w p z (writtenN m x)) := by
  have hba : Below w.heap.size w (w.alloc (.cells (ltCs x a).toArray 41)) := (Below.refl _ _).alloc (Nat.le_refl _) _
  have hbx := LBox.new w x a
  have hrp := fun W z' (h' : PAt B W p z' m) => reply_any h' f (by omega) x.f 0 false
  have hfo := fun W (hb : Below w.heap.size w W) => follow_any (h.below hb) f hx.tm
  have hof := hearsOf_b f hx hn
  have hmg := fun W z' (h' : PAt B W p z' (hearsOf m x)) (hf' : Fit W (Mine p z') x a) => WalkL.merge_any h' hof hN x a hx hf' hix hes
  have hly := fun W z' (h' : PAt B W p z' (hearsOf m x)) => lay_any h' hof hN x a hx hix
  have hM0 : writtenN m x = if x.tm < m.term then reply m x.f 0 false else if m.role = 2 then m else if x.k = 3 then merged (hearsOf m x) x else laysDown (hearsOf m x) x := rfl
  obtain ⟨M, hM⟩ : ∃ M, writtenN m x = M := ⟨_, rfl⟩
  rw [hM] at hM0 ⊢
  have hho : hearsOf m x = { followN m x.tm with leader := x.f, reset := true } := rfl
  obtain ⟨m1, hm1⟩ : ∃ m1, hearsOf m x = m1 := ⟨_, rfl⟩
  rw [hm1] at hM0 hmg hly hho
  obtain ⟨m0, hm0⟩ : ∃ m0, followN m x.tm = m0 := ⟨_, rfl⟩
  rw [hm0] at hho
  simp only [hm0] at hfo
  obtain ⟨Y, hY⟩ : ∃ Y, m.term = Y := ⟨_, rfl⟩
  obtain ⟨R, hR⟩ : ∃ R, m.role = R := ⟨_, rfl⟩
  rw [hY, hR] at hM0
  unfold ltV at hmg hly
  have H := Lib.hid h
  have HF := Lib.hid hf
  have HRp := Lib.hid hrp
  have HFo := Lib.hid hfo
  have HMg := Lib.hid hmg
  have HLy := Lib.hid hly
  have HM := Lib.hid hM0
  have HHo := Lib.hid hho
  have HY := Lib.hid hY
  have HR := Lib.hid hR
  clear h f hrp hfo hof hmg hly hM0 hM hho hm1 hm0 hY hR hx hf hn hes
  obtain ⟨kd, fr, tt, tm, ix, pv, cm, ok, es, d⟩ := x
  unfold ltV
  simp only [ltCs] at hba hbx HF HRp HFo HMg HLy HM HHo hix ⊢
  have x0 := hbx.c0
  have x1 := hbx.c1
  have x2 := hbx.c2
  have x3 := hbx.c3
  have x4 := hbx.c4
  have x5 := hbx.c5
  have x6 := hbx.c6
  have x7 := hbx.c7
  have x8 := hbx.c8
  have x9 := hbx.c9
  have hlt := hbx.lt
  obtain ⟨w0, hw0⟩ : ∃ w0, w.alloc (.cells [.int .i64 kd, .int .i64 fr, .int .i64 tt, .int .u64 (tm : Int), .int .u64 (ix : Int), .int .u64 (pv : Int), .int .u64 (cm : Int), .bool ok, .slice a.A a.n a.c, .string d].toArray 41) = w0 := ⟨_, rfl⟩
  rw [hw0] at hba hbx x0 x1 x2 x3 x4 x5 x6 x7 x8 x9 hlt
  simp only at x0 x1 x2 x3 x4 x5 x6 x7 x8 x9
  have HW0 := Lib.hid hw0
  have HBA := Lib.hid hba
  clear hw0
  have h0 := H.out.below HBA.out
  have c5 := h0.c5
  have c8 := h0.c8
  rw [HY.out] at c5
  rw [HR.out] at c8
  have hp0 := h0.plt
  have hno : ¬ Mine p z w.heap.size := fun e => by have := (NodeAt.mine_lt H.out e).2; omega
  have HNo := Lib.hid hno
  clear h0 hba hbx hno
  by_cases hlt2 : tm < Y
  · have hdt : decide ((tm : Int) < (Y : Int)) = true := by simp; omega
    have HM2 : Hid (M = reply m fr 0 false) := Lib.hid (by rw [HM.out, if_pos hlt2])
    clear HM
    go_enter Try.func23, Try.ntmps23
    go_wp2_with fail
    rw [HW0.out]
    go_quiet (fail)
    have hbq : Below w.heap.size w (w0.drewN nq) := below_drewN HBA.out nq
    have y1 : (w0.drewN nq).cell? ⟨w.heap.size, 1, none⟩ = some (.int .i64 fr) := x1
    generalize w0.drewN nq = wq at hbq y1 ⊢
    have hr : Calls Try.prog 36 #[.pointer (some ⟨p, 0, none⟩), .int .i64 fr, .int .u64 0, .bool false] wq (Does B wq p z M) := by
      rw [HM2.out]
      exact HRp.out wq z (H.out.below hbq)
    have HR2 := Lib.hid hr
    have HBQ := Lib.hid hbq
    clear hr hbq
    go_wp2_with fail
    with_reducible refine HR2.out.mono ?_
    rintro e w2 ⟨rfl, hl⟩
    have HL := Lib.hid hl
    clear hl
    go_wp2
    (try simp only [Exit.inBlock, Exit.then]); refine bodyPost_ret (results_none rfl _ _ _) rfl ?_
    exact ⟨rfl, LeftP.afterBelow HBQ.out HL.out⟩
  · have hdt : decide ((tm : Int) < (Y : Int)) = false := by simp; omega
    by_cases hr2 : R = 2
    · have HM2 : Hid (M = m) := Lib.hid (by rw [HM.out, if_neg hlt2, if_pos hr2])
      have hrd : ((R : Int) == 2) = true := by rw [hr2]; rfl
      clear HM
      go_enter Try.func23, Try.ntmps23
      go_wp2_with fail
      rw [HW0.out]
      go_quiet (fail)
      have hbq : Below w.heap.size w (w0.drewN nq) := below_drewN HBA.out nq
      have y8 : (w0.drewN nq).cell? ⟨p, 8, none⟩ = some (.int .i64 (R : Int)) := c8
      generalize w0.drewN nq = wq at hbq y8 ⊢
      go_wp2
      (try simp only [Exit.inBlock, Exit.then]); refine bodyPost_ret (results_none rfl _ _ _) rfl ?_
      rw [HM2.out]
      exact ⟨rfl, LeftP.of_below H.out hbq⟩
    · have HM2 : Hid (M = if kd = 3 then merged m1 ⟨kd, fr, tt, tm, ix, pv, cm, ok, es, d⟩ else laysDown m1 ⟨kd, fr, tt, tm, ix, pv, cm, ok, es, d⟩) := Lib.hid (by rw [HM.out, if_neg hlt2, if_neg hr2])
      have hrd : ((R : Int) == 2) = false := by simp; omega
      clear HM
      go_enter Try.func23, Try.ntmps23
      go_wp2_with fail
      rw [HW0.out]
      go_quiet (fail)
      have hbq : Below w.heap.size w (w0.drewN nq) := below_drewN HBA.out nq
      have y8 : (w0.drewN nq).cell? ⟨p, 8, none⟩ = some (.int .i64 (R : Int)) := c8
      have K0 : Hid (∀ i u, w0.cell? ⟨w.heap.size, i, none⟩ = some u → (w0.drewN nq).cell? ⟨w.heap.size, i, none⟩ = some u) := fun i u hu => hu
      have y3 := K0.out _ _ x3
      have hlq : w.heap.size < (w0.drewN nq).heap.size := hlt
      have hpq : p < (w0.drewN nq).heap.size := hp0
      generalize w0.drewN nq = wq at hbq y8 K0 y3 hlq hpq ⊢
      have HBQ := Lib.hid hbq
      clear hbq c5 c8
      go_wp2_with fail
      with_reducible refine (HFo.out _ HBQ.out).mono ?_
      rintro e w2 ⟨rfl, z1, h1, g1⟩
      have K1 : Hid (∀ i u, w0.cell? ⟨w.heap.size, i, none⟩ = some u → w2.cell? ⟨w.heap.size, i, none⟩ = some u) := fun i u hu => (g1.only.cell (p := ⟨w.heap.size, i, none⟩) hlq HNo.out).trans (K0.out i u hu)
      have hN1 := WalkG.Grow.out g1 HNo.out hlq
      have hl2 : w.heap.size < w2.heap.size := Nat.lt_of_lt_of_le hlq g1.size
      have G1 := Lib.hid (Grow.afterBelow HBQ.out g1)
      have d9 := PAt.c9 h1
      have d3 := PAt.c3 h1
      have k9 := NodeAt.free h1 9
      have k3 := NodeAt.free h1 3
      have hp2 := NodeAt.plt h1
      have z1A := K1.out _ _ x1
      obtain ⟨h2, g2⟩ := PAt.setTo h1 9 (.int .i64 fr) { m0 with leader := fr } rfl rfl rfl rfl
      obtain ⟨h3, g3⟩ := PAt.setTo h2 3 (.bool true) { m0 with leader := fr, reset := true } rfl rfl rfl rfl
      rw [← HHo.out] at h3
      have hnp : ¬ w.heap.size = p := fun e => HNo.out (.inl e)
      have hnp2 : ¬ p = w.heap.size := fun e => hnp e.symm
      have K3 : Hid (∀ i u, w0.cell? ⟨w.heap.size, i, none⟩ = some u → ((w2.setCell ⟨p, 9, none⟩ (.int .i64 fr)).setCell ⟨p, 3, none⟩ (.bool true)).cell? ⟨w.heap.size, i, none⟩ = some u) := fun i u hu => ((g2.trans g3).only.cell (p := ⟨w.heap.size, i, none⟩) hl2 hN1).trans (K1.out i u hu)
      have H3 := Lib.hid h3
      have G3 := Lib.hid (G1.out.trans (g2.trans g3))
      have hfit := G3.out.fit HF.out
      have HFit := Lib.hid hfit
      clear h1 h2 h3 g1 g2 g3 hfit
      generalize hw3 : (w2.setCell ⟨p, 9, none⟩ (.int .i64 fr)).setCell ⟨p, 3, none⟩ (.bool true) = w3 at K3 H3 G3 HFit
      have v0 := K3.out _ _ x0
      have v1 := K3.out _ _ x1
      have v2 := K3.out _ _ x2
      have v3 := K3.out _ _ x3
      have v4 := K3.out _ _ x4
      have v5 := K3.out _ _ x5
      have v6 := K3.out _ _ x6
      have v7 := K3.out _ _ x7
      have v8 := K3.out _ _ x8
      have v9 := K3.out _ _ x9
      by_cases hk3 : kd = 3
      · have hkd : (kd == 3) = true := by simpa using hk3
        have hmm := HMg.out w3 z1 H3.out HFit.out
        have HM3 : Hid (M = merged m1 ⟨kd, fr, tt, tm, ix, pv, cm, ok, es, d⟩) := Lib.hid (by rw [HM2.out, if_pos hk3])
        rw [← HM3.out] at hmm
        have HMm := Lib.hid hmm
        clear hmm HM2 HM3 hk3
        go_wp2_with fail
        with_reducible refine HMm.out.mono ?_
        rintro e w5 ⟨rfl, hl⟩
        have HL := Lib.hid hl
        clear hl
        go_wp2
        go_end0
        exact ⟨rfl, LeftP.then G3.out HL.out⟩
      · have hkd : (kd == 3) = false := by simpa using hk3
        have hmm := HLy.out w3 z1 H3.out
        have HM3 : Hid (M = laysDown m1 ⟨kd, fr, tt, tm, ix, pv, cm, ok, es, d⟩) := Lib.hid (by rw [HM2.out, if_neg hk3])
        rw [← HM3.out] at hmm
        have HMm := Lib.hid hmm
        clear hmm HM2 HM3 hk3
        go_wp2_with fail
        with_reducible refine HMm.out.mono ?_
        rintro e w5 ⟨rfl, hl⟩
        have HL := Lib.hid hl
        clear hl
        go_wp2
        go_end0
        exact ⟨rfl, LeftP.then G3.out HL.out⟩
end
end Go.Proofs.Ytdbmpfongfiagaa.WalkM
set_option linter.unusedVariables false
namespace Go.Proofs.Ytdbmpfongfiagaa.WalkN
open Go.RowKit Go.Proofs.Ytdbmpfongfiagaa.Kit Go.Proofs.Ytdbmpfongfiagaa.Blocks Go.Proofs.Ytdbmpfongfiagaa.Rlog Go.Proofs.Ytdbmpfongfiagaa.Ents Go.Proofs.Ytdbmpfongfiagaa.LogAt Go.Proofs.Ytdbmpfongfiagaa.Nod Go.Proofs.Ytdbmpfongfiagaa.NodAt Go.Proofs.Ytdbmpfongfiagaa.AppL Go.Proofs.Ytdbmpfongfiagaa.WalkA Go.Proofs.Ytdbmpfongfiagaa.WalkB Go.Proofs.Ytdbmpfongfiagaa.WalkC Go.Proofs.Ytdbmpfongfiagaa.WalkD Go.Proofs.Ytdbmpfongfiagaa.WalkE Go.Proofs.Ytdbmpfongfiagaa.WalkF Go.Proofs.Ytdbmpfongfiagaa.WalkH
open Go.Proofs.Ytdbmpfongfiagaa.Quorum (mem size need sound maj node has turn change)

section
variable {B p N : Nat} {z : Seat} {m : Nd} {w : World}
/-- Behind advance. -/
def MidA (B : Nat) (w : World) (p : Nat) (z : Seat) (ma : Nd) (I : Nat) (wx : World) : Prop :=
  ∃ z4, PAt B wx p z4 ma ∧ Grow p z z4 w wx ∧ wx.cell? ⟨w.heap.size, 1, none⟩ = some (.int .i64 (I : Int)) ∧ ¬ Mine p z4 w.heap.size ∧ w.heap.size < wx.heap.size
set_option maxRecDepth 6000 in
set_option maxHeartbeats 4000000 in
theorem answered_any (h : PAt B w p z m) (f : NdB N m) (hN : N ≤ 700000000) (x : Msg) (a : Pl) (hn : node x.f = true) (hix : x.ix ≤ 4611686018427387904) :
    Calls Try.prog 24 #[.pointer (some ⟨p, 0, none⟩), ltV x a] w (Does B w p z (answered m x)) := by
  have hba : Below w.heap.size w (w.alloc (.cells (ltCs x a).toArray 41)) := (Below.refl _ _).alloc (Nat.le_refl _) _
  have hbx := LBox.new w x a
  have hnn := node_lt hn
  have hMn : ¬ (m.role = 2 ∧ x.tm = m.term) → answered m x = m := fun e => if_neg e
  have hM0 : (m.role = 2 ∧ x.tm = m.term) → answered m x = if x.ok = true then
      (if (last m.g).1 < x.ix then m
      else if more (advance (hasIt m x)) x.f.toNat (last m.g).1 = true then write (onward (advance (hasIt m x)) x.f.toNat) x.f.toNat else advance (hasIt m x))
    else write (retry m x) x.f.toNat := fun e => if_pos e
  have hfr : m.role = 2 → NdB N (retry m x) := fun e => retry_b f e (by omega) hix
  have hfh : m.role = 2 → NdB N (hasIt m x) := fun e => hasIt_b f e (by omega) hix
  have hre : retry m x = { m with next := m.next.set x.f.toNat (max (told m.mat x.f.toNat) (min x.ix (last m.g).1) + 1) } := rfl
  have hha : hasIt m x = { m with mat := m.mat.set x.f.toNat (max (told m.mat x.f.toNat) x.ix), next := m.next.set x.f.toNat (max (told m.next x.f.toNat) (max (told m.mat x.f.toNat) x.ix + 1)) } := rfl
  obtain ⟨M, hM⟩ : ∃ M, answered m x = M := ⟨_, rfl⟩
  rw [hM] at hMn hM0 ⊢
  obtain ⟨mr, hmr⟩ : ∃ mr, retry m x = mr := ⟨_, rfl⟩
  obtain ⟨mh, hmh⟩ : ∃ mh, hasIt m x = mh := ⟨_, rfl⟩
  rw [hmr, hmh] at hM0
  rw [hmr] at hfr hre
  rw [hmh] at hfh hha
  have hadv := fun e W z' (h' : PAt B W p z' mh) => advance_any h' (hfh e) (by omega)
  have hfa := fun e => advance_b (hfh e)
  obtain ⟨ma, hma⟩ : ∃ ma, advance mh = ma := ⟨_, rfl⟩
  rw [hma] at hM0
  simp only [hma] at hadv hfa
  obtain ⟨LI, hLI⟩ : ∃ LI, (last m.g).1 = LI := ⟨_, rfl⟩
  rw [hLI] at hM0 hre
  have hlb : LI ≤ 9223372036854775808 + N := by rw [← hLI]; exact f.top
  have H := Lib.hid h
  have F := Lib.hid f
  have HMn := Lib.hid hMn
  have HM := Lib.hid hM0
  have HFr := Lib.hid hfr
  have HFa := Lib.hid hfa
  have HAdv := Lib.hid hadv
  have HRe := Lib.hid hre
  have HHa := Lib.hid hha
  have HLI := Lib.hid hLI
  clear h f hMn hM0 hfr hfh hre hha hM hmr hmh hadv hfa hma hLI hn
  obtain ⟨kd, fr, tt, tm, ix, pv, cm, ok, es, d⟩ := x
  unfold ltV
  simp only [ltCs] at hba hbx hnn HMn HM HRe HHa hix ⊢
  have x0 := hbx.c0
  have x1 := hbx.c1
  have x2 := hbx.c2
  have x3 := hbx.c3
  have x4 := hbx.c4
  have x5 := hbx.c5
  have x6 := hbx.c6
  have x7 := hbx.c7
  have x8 := hbx.c8
  have x9 := hbx.c9
  have hlt := hbx.lt
  obtain ⟨w0, hw0⟩ : ∃ w0, w.alloc (.cells [.int .i64 kd, .int .i64 fr, .int .i64 tt, .int .u64 (tm : Int), .int .u64 (ix : Int), .int .u64 (pv : Int), .int .u64 (cm : Int), .bool ok, .slice a.A a.n a.c, .string d].toArray 41) = w0 := ⟨_, rfl⟩
  rw [hw0] at hba hbx x0 x1 x2 x3 x4 x5 x6 x7 x8 x9 hlt
  simp only at x0 x1 x2 x3 x4 x5 x6 x7 x8 x9
  have HW0 := Lib.hid hw0
  have HBA := Lib.hid hba
  clear hw0
  have h0 := H.out.below HBA.out
  have c5 := h0.c5
  have c8 := h0.c8
  obtain ⟨Y, hY⟩ : ∃ Y, m.term = Y := ⟨_, rfl⟩
  obtain ⟨R, hR⟩ : ∃ R, m.role = R := ⟨_, rfl⟩
  rw [hY] at c5
  rw [hR] at c8
  have HY := Lib.hid hY
  have HR := Lib.hid hR
  have hp0 := h0.plt
  have hno : ¬ Mine p z w.heap.size := fun e => by have := (NodeAt.mine_lt H.out e).2; omega
  have HNo := Lib.hid hno
  clear h0 hba hbx hno hY hR
  by_cases hr : R = 2
  · by_cases hy : tm = Y
    · obtain ⟨I, hI⟩ : ∃ I : Nat, fr = (I : Int) := ⟨fr.toNat, by omega⟩
      have hI7 : I < 7 := by omega
      subst hI
      have hrole : m.role = 2 := HR.out.trans hr
      have HMM : Hid (M = if ok = true then (if LI < ix then m else if more ma I LI = true then write (onward ma I) I else ma) else write mr I) := Lib.hid (by have := HM.out ⟨hrole, hy.trans HY.out.symm⟩; simpa using this)
      have HRole := Lib.hid hrole
      have hr2 : ((R : Int) != 2) = false := by rw [hr]; rfl
      have hy2 : ((tm : Int) != (Y : Int)) = false := by rw [hy]; simp
      have hge : (0 : Int) ≤ (I : Int) := by omega
      have hl7 : (I : Int) < 7 := by omega
      clear HM HMn hr hy hrole hnn
      as_aux_lemma =>
      go_enter Try.func24, Try.ntmps24
      go_wp2_with fail
      rw [HW0.out]
      go_quiet (fail)
      have hbq : Below w.heap.size w (w0.drewN nq) := below_drewN HBA.out nq
      have K0 : Hid (∀ i u, w0.cell? ⟨w.heap.size, i, none⟩ = some u → (w0.drewN nq).cell? ⟨w.heap.size, i, none⟩ = some u) := fun i u hu => hu
      have hlq : w.heap.size < (w0.drewN nq).heap.size := hlt
      generalize w0.drewN nq = wq at hbq K0 hlq ⊢
      have hq := H.out.below hbq
      have c7 := hq.c7
      have hlast := RlgWalkE.last_any hq.log F.out.fine
      rw [HLI.out] at hlast
      obtain ⟨LT, hLT⟩ : ∃ LT, (last m.g).2 = LT := ⟨_, rfl⟩
      rw [hLT] at hlast
      have HLast := Lib.hid hlast
      have HBQ := Lib.hid hbq
      clear hq hlast hLT hbq c5 c8
      go_wp2_with fail
      with_reducible refine HLast.out.mono ?_
      rintro e w1 ⟨rfl, hb1⟩
      have K1 : Hid (∀ i u, w0.cell? ⟨w.heap.size, i, none⟩ = some u → w1.cell? ⟨w.heap.size, i, none⟩ = some u) := fun i u hu => (hb1.cell (p := ⟨w.heap.size, i, none⟩) hlq).trans (K0.out i u hu)
      have HB1 := Lib.hid (HBQ.out.trans (hb1.mono HBQ.out.size))
      have hl1 : w.heap.size < w1.heap.size := Nat.lt_of_lt_of_le hlq hb1.size
      have h1 := H.out.below HB1.out
      have d1 := K1.out _ _ x1
      have d4 := K1.out _ _ x4
      have d7 := K1.out _ _ x7
      have qn := h1.nx F.out.nl hI7
      have qm := h1.mt F.out.nl F.out.ml hI7
      have kn := NodeAt.free h1 (12 + I)
      have km := NodeAt.free h1 (19 + I)
      have hp1 := h1.plt
      have hmb := told_b F.out.mb (by omega) I
      have hnb := told_b F.out.nb (by decide) I
      obtain ⟨TN, hTN⟩ : ∃ TN, told m.next I = TN := ⟨_, rfl⟩
      obtain ⟨TM, hTM⟩ : ∃ TM, told m.mat I = TM := ⟨_, rfl⟩
      rw [hTN] at qn hnb
      rw [hTM] at qm hmb
      have HTN := Lib.hid hTN
      have HTM := Lib.hid hTM
      have H1 := Lib.hid h1
      clear hb1 h1 hTN hTM x0 x1 x2 x3 x4 x5 x6 x7 x8 x9
      as_aux_lemma =>
      cases ok with
      | false =>
        obtain ⟨mn, hmn⟩ : ∃ mn, min ix LI = mn := ⟨_, rfl⟩
        obtain ⟨mx, hmx⟩ : ∃ mx, max TM mn = mx := ⟨_, rfl⟩
        obtain ⟨V, hV⟩ : ∃ V, mx + 1 = V := ⟨_, rfl⟩
        have hmin : min (ix : Int) (LI : Int) = (mn : Int) := by omega
        have hmax : max (TM : Int) (mn : Int) = (mx : Int) := by omega
        have hix' : ix ≤ 4611686018427387904 := hix
        have hw1 : IntKind.u64.wrap ((mx : Int) + 1) = (V : Int) := by rw [show (mx : Int) + 1 = (V : Int) by omega]; exact IntWalk.u64_in _ (by omega)
        obtain ⟨h2, g2⟩ := PAt.setNx H1.out F.out.nl hI7 V
        have he : ({ m with next := m.next.set I V } : Nd) = mr := by
          have := HRe.out
          rw [Int.toNat_natCast, HTM.out, hmn, hmx, hV] at this
          exact this.symm
        rw [he] at h2
        have hw := write_any (PAt.drew h2) (HFr.out HRole.out) (by omega) hI7
        have HM2 : Hid (M = write mr I) := Lib.hid (by rw [HMM.out, if_neg (by simp)])
        rw [← HM2.out] at hw
        have HW := Lib.hid hw
        have G2 := Lib.hid (((Grow.of_below z HB1.out).trans g2).thenBelow ((Below.refl _ _).drew))
        have e1 : (w1.setCell ⟨p, 12 + I, none⟩ (.int .u64 (V : Int))).drew.cell? ⟨w.heap.size, 1, none⟩ = some (.int .i64 (I : Int)) := (g2.only.cell (p := ⟨w.heap.size, 1, none⟩) hl1 HNo.out).trans d1
        clear h2 g2 he hw hmn hmx hV
        go_wp2_with fail
        go_region
        generalize (w1.setCell ⟨p, 12 + I, none⟩ (.int .u64 (V : Int))).drew = w3 at HW G2 e1 ⊢
        go_wp2_with fail
        with_reducible refine HW.out.mono ?_
        rintro e w5 ⟨rfl, hl⟩
        have HL := Lib.hid hl
        clear hl
        go_wp2
        (try simp only [Exit.inBlock, Exit.then]); refine bodyPost_ret (results_none rfl _ _ _) rfl ?_
        exact ⟨rfl, LeftP.then G2.out HL.out⟩
      | true =>
        by_cases hgt : LI < ix
        · have HM2 : Hid (M = m) := Lib.hid (by rw [HMM.out, if_pos rfl, if_pos hgt])
          have hg2 : decide ((LI : Int) < (ix : Int)) = true := by simp; omega
          go_wp2
          (try simp only [Exit.inBlock, Exit.then]); refine bodyPost_ret (results_none rfl _ _ _) rfl ?_
          rw [HM2.out]
          exact ⟨rfl, LeftP.of_below H.out HB1.out⟩
        · have hg2 : decide ((LI : Int) < (ix : Int)) = false := by simp; omega
          have HM2 : Hid (M = if more ma I LI = true then write (onward ma I) I else ma) := Lib.hid (by rw [HMM.out, if_pos rfl, if_neg hgt])
          have hix' : ix ≤ 4611686018427387904 := hix
          obtain ⟨M1, hM1⟩ : ∃ M1, max TM ix = M1 := ⟨_, rfl⟩
          obtain ⟨V, hV⟩ : ∃ V, max TN (M1 + 1) = V := ⟨_, rfl⟩
          obtain ⟨M1s, hM1s⟩ : ∃ M1s, M1 + 1 = M1s := ⟨_, rfl⟩
          have hmaxM : max (TM : Int) (ix : Int) = (M1 : Int) := by omega
          have hw1 : IntKind.u64.wrap ((M1 : Int) + 1) = (M1s : Int) := by rw [show (M1 : Int) + 1 = (M1s : Int) by omega]; exact IntWalk.u64_in _ (by omega)
          have hmaxN : max (TN : Int) (M1s : Int) = (V : Int) := by omega
          obtain ⟨h2, g2⟩ := PAt.setMt H1.out F.out.nl hI7 M1
          have h2d := PAt.drew h2
          have g2d := g2.thenBelow ((Below.refl _ (w1.setCell ⟨p, 19 + I, none⟩ (.int .u64 (M1 : Int)))).drew)
          have qn2 := PAt.nx h2d F.out.nl hI7
          have qm2 : (w1.setCell ⟨p, 19 + I, none⟩ (.int .u64 (M1 : Int))).drew.cell? ⟨p, 19 + I, none⟩ = some (.int .u64 (M1 : Int)) := by
            have := PAt.mt h2d F.out.nl (by simp [F.out.ml]) hI7
            have hl : I < m.mat.length := by rw [F.out.ml]; exact hI7
            rw [show told ({ m with mat := m.mat.set I M1 } : Nd).mat I = M1 by
              show told (m.mat.set I M1) I = M1
              unfold told
              simp [List.getD, List.getElem?_set_self hl]] at this
            exact this
          rw [show told ({ m with mat := m.mat.set I M1 } : Nd).next I = TN from HTN.out] at qn2
          have kn2 := NodeAt.free h2d (12 + I)
          have hp2 := NodeAt.plt h2d
          obtain ⟨h3, g3⟩ := PAt.setNx h2d F.out.nl hI7 V
          have he : ({ m with mat := m.mat.set I M1, next := m.next.set I V } : Nd) = mh := by
            have := HHa.out
            rw [Int.toNat_natCast, HTM.out, HTN.out, hM1, hV] at this
            exact this.symm
          have h3' : PAt B ((w1.setCell ⟨p, 19 + I, none⟩ (.int .u64 (M1 : Int))).drew.setCell ⟨p, 12 + I, none⟩ (.int .u64 (V : Int))) p z mh := by
            have := h3
            rw [show ({ ({ m with mat := m.mat.set I M1 } : Nd) with next := ({ m with mat := m.mat.set I M1 } : Nd).next.set I V } : Nd) = mh from he] at this
            exact this
          have e1 : (w1.setCell ⟨p, 19 + I, none⟩ (.int .u64 (M1 : Int))).drew.cell? ⟨w.heap.size, 1, none⟩ = some (.int .i64 (I : Int)) := (g2d.only.cell (p := ⟨w.heap.size, 1, none⟩) hl1 HNo.out).trans d1
          have hl2 : w.heap.size < (w1.setCell ⟨p, 19 + I, none⟩ (.int .u64 (M1 : Int))).drew.heap.size := Nat.lt_of_lt_of_le hl1 g2d.size
          have e2 : ((w1.setCell ⟨p, 19 + I, none⟩ (.int .u64 (M1 : Int))).drew.setCell ⟨p, 12 + I, none⟩ (.int .u64 (V : Int))).drew.cell? ⟨w.heap.size, 1, none⟩ = some (.int .i64 (I : Int)) := (g3.only.cell (p := ⟨w.heap.size, 1, none⟩) hl2 HNo.out).trans e1
          have hl3 : w.heap.size < ((w1.setCell ⟨p, 19 + I, none⟩ (.int .u64 (M1 : Int))).drew.setCell ⟨p, 12 + I, none⟩ (.int .u64 (V : Int))).drew.heap.size := Nat.lt_of_lt_of_le hl2 g3.size
          have HV1 : Hid (M1 + 1 = M1s) := hM1s
          have H3 := Lib.hid (PAt.drew h3')
          have G3 := Lib.hid ((((Grow.of_below z HB1.out).trans g2d).trans g3).thenBelow ((Below.refl _ _).drew))
          clear h2 g2 h2d g2d h3 g3 h3' he hM1 hV hM1s
          go_wp2_with fail
          go_region
          generalize (w1.setCell ⟨p, 19 + I, none⟩ (.int .u64 (M1 : Int))).drew = w2 at qn2 qm2 kn2 hp2 e1 e2 hl2 hl3 H3 G3 ⊢
          go_wp2_with fail
          go_region
          generalize (w2.setCell ⟨p, 12 + I, none⟩ (.int .u64 (V : Int))).drew = w3 at e2 hl3 H3 G3 ⊢
          have had := HAdv.out HRole.out _ _ H3.out
          have HAd := Lib.hid had
          have HFA := Lib.hid (HFa.out HRole.out)
          clear had qn qm kn km qn2 qm2 kn2 d1 d4 d7 hmaxM hmaxN hw1
          clear HAdv HFr HRe HHa HY HR HTN HTM HLast HV1 H1 H F HBQ HLI HBA K0 K1 hr2 hy2 hix hix' hlb e1 hl2 hlt hlq hl1 hp0 hp1 hp2 hgt hg2 hmb hnb HW0
          as_aux_lemma =>
          go_wp2_with fail
          with_reducible refine HAd.out.mono ?_
          rintro e w4 ⟨rfl, z4, h4, g4'⟩
          have e4 := (g4'.only.cell (p := ⟨w.heap.size, 1, none⟩) hl3 HNo.out).trans e2
          have hN4 := WalkG.Grow.out g4' HNo.out hl3
          have hl4 : w.heap.size < w4.heap.size := Nat.lt_of_lt_of_le hl3 g4'.size
          have g4 := G3.out.trans g4'
          clear g4' HAd H3 G3 e2 hl3 HB1
          as_aux_lemma =>
          go_wp2_with fail
          have r8 := PAt.c8 h4
          have rn := PAt.nx h4 HFA.out.nl hI7
          have rm := PAt.mt h4 HFA.out.nl HFA.out.ml hI7
          have kn4 := NodeAt.free h4 (12 + I)
          have hp4 := NodeAt.plt h4
          have hmem := members_any (PAt.drew h4) HFA.out
          have hcl := cfg_lt HFA.out
          have hmb4 := told_b HFA.out.mb (by omega) I
          have H4 := Lib.hid h4
          have G4 := Lib.hid g4
          have hMo : more ma I LI = (decide (ma.role = 2) && (decide (told ma.next I ≤ LI) && has (cfg ma) (I : Int))) := rfl
          obtain ⟨RA, hRA⟩ : ∃ RA, ma.role = RA := ⟨_, rfl⟩
          obtain ⟨NX, hNX⟩ : ∃ NX, told ma.next I = NX := ⟨_, rfl⟩
          obtain ⟨MX, hMX⟩ : ∃ MX, told ma.mat I = MX := ⟨_, rfl⟩
          obtain ⟨CA, hCA⟩ : ∃ CA, cfg ma = CA := ⟨_, rfl⟩
          rw [hRA] at r8 hMo
          rw [hNX] at rn hMo
          rw [hMX] at rm hmb4
          rw [hCA] at hmem hMo hcl
          have hhas := fun W => QuoWalkB.has_any CA (by omega) (I : Int) W
          obtain ⟨hb, hhb⟩ : ∃ hb, has CA (I : Int) = hb := ⟨_, rfl⟩
          rw [hhb] at hhas hMo
          have HMem := Lib.hid hmem
          have HHas := Lib.hid hhas
          have HMo := Lib.hid hMo
          have HRA := Lib.hid hRA
          have HMX := Lib.hid hMX
          clear h4 g4 hmem hhas hMo hRA hNX hMX hCA hhb
          clear HRole HNo
          by_cases hra : RA = 2
          · have hra2 : ((RA : Int) == 2) = true := by rw [hra]; rfl
            by_cases hnx : NX ≤ LI
            · have hnx2 : decide ((NX : Int) ≤ (LI : Int)) = true := by simp; omega
              as_aux_lemma =>
              have HKD : Hid (w4.drew.cell? ⟨p, 8, none⟩ = some (.int .i64 (RA : Int)) ∧ w4.drew.cell? ⟨p, 12 + I, none⟩ = some (.int .u64 (NX : Int)) ∧ w4.drew.cell? ⟨w.heap.size, 1, none⟩ = some (.int .i64 (I : Int))) := Lib.hid ⟨r8, rn, e4⟩
              have HK4 : Hid (w4.cell? ⟨p, 8, none⟩ = some (.int .i64 (RA : Int)) ∧ w4.cell? ⟨p, 12 + I, none⟩ = some (.int .u64 (NX : Int)) ∧ w4.cell? ⟨w.heap.size, 1, none⟩ = some (.int .i64 (I : Int))) := Lib.hid ⟨r8, rn, e4⟩
              clear kn4 hcl
              go_wp2_with fail
              generalize bodyPost Try.prog Try.f24 (Does B w p z M) = Q1
              go_region_held3 (fun W => W.cell? ⟨p, 8, none⟩ = some (.int .i64 (RA : Int)) ∧ W.cell? ⟨p, 12 + I, none⟩ = some (.int .u64 (NX : Int)) ∧ W.cell? ⟨w.heap.size, 1, none⟩ = some (.int .i64 (I : Int)))
                (first
                  | (with_reducible exact HKD.out)
                  | (with_reducible exact HK4.out)
                  | (with_reducible exact HKA.out))
                (first
                  | (go_at_call 42
                     with_reducible refine HMem.out.mono ?_
                     rintro e wA ⟨rfl, hBa⟩
                     have HKA := Lib.hid (And.intro ((hBa.cell (p := ⟨p, 8, none⟩) hp4).trans r8) (And.intro ((hBa.cell (p := ⟨p, 12 + I, none⟩) hp4).trans rn) ((hBa.cell (p := ⟨w.heap.size, 1, none⟩) hl4).trans e4)))
                     have HBA4 : Hid (Below w4.heap.size w4 wA) := (Below.refl _ w4).drew.trans hBa
                     clear hBa)
                  | (go_at_call 41
                     with_reducible refine (HHas.out _).mono ?_
                     rintro e wC ⟨rfl, rfl⟩))
              as_aux_lemma =>
              have hA := PAt.below H4.out HBA4.out
              cases hb with
              | true =>
                have HM3 : Hid (M = write (onward ma I) I) := Lib.hid (by rw [HM2.out, if_pos (by rw [HMo.out, hra]; simp [hnx])])
                have tn := PAt.nx hA HFA.out.nl hI7
                have tm' := PAt.mt hA HFA.out.nl HFA.out.ml hI7
                rw [HMX.out] at tm'
                have kn5 := NodeAt.free hA (12 + I)
                have hpA := NodeAt.plt hA
                have e5 := HKA.out.2.2
                obtain ⟨U, hU⟩ : ∃ U, MX + 1 = U := ⟨_, rfl⟩
                have hw2 : IntKind.u64.wrap ((MX : Int) + 1) = (U : Int) := by rw [show (MX : Int) + 1 = (U : Int) by omega]; exact IntWalk.u64_in _ (by omega)
                obtain ⟨h5, g5⟩ := PAt.setNx hA HFA.out.nl hI7 U
                have he5 : ({ ma with next := ma.next.set I U } : Nd) = onward ma I := by unfold onward; rw [HMX.out, hU]
                rw [he5] at h5
                have hlA : w.heap.size < wA.heap.size := Nat.lt_of_lt_of_le hl4 HBA4.out.size
                have e6 : (wA.setCell ⟨p, 12 + I, none⟩ (.int .u64 (U : Int))).drew.cell? ⟨w.heap.size, 1, none⟩ = some (.int .i64 (I : Int)) := (g5.only.cell (p := ⟨w.heap.size, 1, none⟩) hlA hN4).trans e5
                have hwr := write_any (PAt.drew h5) (onward_b HFA.out (HRA.out.trans hra) (by omega) I) (by omega) hI7
                rw [← HM3.out] at hwr
                have HWr := Lib.hid hwr
                have G5 := Lib.hid (((G4.out.thenBelow HBA4.out).trans g5).thenBelow ((Below.refl _ _).drew))
                clear h5 g5 he5 hwr hU hA
                go_wp2_with fail
                go_region
                generalize (wA.setCell ⟨p, 12 + I, none⟩ (.int .u64 (U : Int))).drew = w6 at e6 HWr G5 ⊢
                go_wp2_with fail
                with_reducible refine HWr.out.mono ?_
                rintro e w7 ⟨rfl, hl⟩
                have HL := Lib.hid hl
                clear hl
                go_wp2
                go_end0
                exact ⟨rfl, LeftP.then G5.out HL.out⟩
              | false =>
                have HM3 : Hid (M = ma) := Lib.hid (by rw [HM2.out, if_neg (by rw [HMo.out]; simp)])
                have HA := Lib.hid hA
                clear hA
                go_wp2
                go_end0
                rw [HM3.out]
                exact ⟨rfl, z4, HA.out, G4.out.thenBelow HBA4.out⟩
            · have hnx2 : decide ((NX : Int) ≤ (LI : Int)) = false := by simp; omega
              have HM3 : Hid (M = ma) := Lib.hid (by rw [HM2.out, if_neg (by rw [HMo.out]; simp [hnx])])
              go_wp2_with fail
              as_aux_lemma =>
              go_quiet (fail)
              go_wp2
              go_end0
              rw [HM3.out]
              exact ⟨rfl, z4, PAt.drewN H4.out nq, G4.out.thenBelow (below_drewN (Below.refl _ _) nq)⟩
          · have hra2 : ((RA : Int) == 2) = false := by simp; omega
            have HM3 : Hid (M = ma) := Lib.hid (by rw [HM2.out, if_neg (by rw [HMo.out]; simp [hra])])
            go_wp2_with fail
            as_aux_lemma =>
            go_quiet (fail)
            go_wp2
            go_end0
            rw [HM3.out]
            exact ⟨rfl, z4, PAt.drewN H4.out nq, G4.out.thenBelow (below_drewN (Below.refl _ _) nq)⟩
    · have HM2 : Hid (M = m) := Lib.hid (HMn.out (by rintro ⟨_, e⟩; exact hy (e.trans HY.out)))
      have hr2 : ((R : Int) != 2) = false := by rw [hr]; rfl
      have hy2 : ((tm : Int) != (Y : Int)) = true := by simp; omega
      clear HM HMn hr hy
      as_aux_lemma =>
      go_enter Try.func24, Try.ntmps24
      go_wp2_with fail
      rw [HW0.out]
      go_quiet (fail)
      go_wp2
      (try simp only [Exit.inBlock, Exit.then]); refine bodyPost_ret (results_none rfl _ _ _) rfl ?_
      rw [HM2.out]
      exact ⟨rfl, LeftP.of_below H.out (below_drewN HBA.out nq)⟩
  · have HM2 : Hid (M = m) := Lib.hid (HMn.out (by rintro ⟨e, _⟩; exact hr (HR.out.symm.trans e)))
    have hr2 : ((R : Int) != 2) = true := by simp; omega
    clear HM HMn hr
    as_aux_lemma =>
    go_enter Try.func24, Try.ntmps24
    go_wp2_with fail
    rw [HW0.out]
    go_quiet (fail)
    go_wp2
    (try simp only [Exit.inBlock, Exit.then]); refine bodyPost_ret (results_none rfl _ _ _) rfl ?_
    rw [HM2.out]
    exact ⟨rfl, LeftP.of_below H.out (below_drewN HBA.out nq)⟩
end
end Go.Proofs.Ytdbmpfongfiagaa.WalkN
set_option linter.unusedVariables false
namespace Go.Proofs.Ytdbmpfongfiagaa.WalkO
open Go.RowKit Go.Proofs.Ytdbmpfongfiagaa.Kit Go.Proofs.Ytdbmpfongfiagaa.Blocks Go.Proofs.Ytdbmpfongfiagaa.Rlog Go.Proofs.Ytdbmpfongfiagaa.Ents Go.Proofs.Ytdbmpfongfiagaa.LogAt Go.Proofs.Ytdbmpfongfiagaa.Nod Go.Proofs.Ytdbmpfongfiagaa.NodAt Go.Proofs.Ytdbmpfongfiagaa.AppL Go.Proofs.Ytdbmpfongfiagaa.WalkA Go.Proofs.Ytdbmpfongfiagaa.WalkB Go.Proofs.Ytdbmpfongfiagaa.WalkC Go.Proofs.Ytdbmpfongfiagaa.WalkD Go.Proofs.Ytdbmpfongfiagaa.WalkE Go.Proofs.Ytdbmpfongfiagaa.WalkF Go.Proofs.Ytdbmpfongfiagaa.WalkH
open Go.Proofs.Ytdbmpfongfiagaa.Quorum (mem size need sound maj node has turn change)

section
variable {B p N : Nat} {z : Seat} {m : Nd} {w : World}
/-- Behind the term that the letter may have brought. -/
def MidR (B : Nat) (w : World) (p : Nat) (z : Seat) (m0 : Nd) (x : Msg) (a : Pl) (wx : World) : Prop :=
  ∃ z2, PAt B wx p z2 m0 ∧ Grow p z z2 w wx ∧ LBox wx w.heap.size x a
theorem hears_kind {x : Msg} (h : hears m x = true) : x.k = 1 ∨ x.k = 2 ∨ x.k = 3 ∨ x.k = 4 ∨ x.k = 5 := by
  have := of_decide_eq_true (Bool.and_eq_true_iff.1 h).1
  omega
set_option maxRecDepth 6000 in
set_option maxHeartbeats 4000000 in
theorem receive_any (h : PAt B w p z m) (f : NdB N m) (hN : N ≤ 700000000) (x : Msg) (a : Pl) (hx : MsgB x) (hf : Fit w (Mine p z) x a) (hes : x.es.length ≤ 100000000) :
    Calls Try.prog 8 #[.pointer (some ⟨p, 0, none⟩), ltV x a] w (Does B w p z (receive m x)) := by
  have hba : Below w.heap.size w (w.alloc (.cells (ltCs x a).toArray 41)) := (Below.refl _ _).alloc (Nat.le_refl _) _
  have hbx := LBox.new w x a
  have hhr := hears_any (h.below hba) x a
  have hfo := fun W (hb : Below w.heap.size w W) => follow_any (h.below hb) f hx.tm
  have hhb := heard_b f hx
  have hnod := fun (e : hears m x = true) => hears_node e
  have hixs := fun (e : hears m x = true) => hears_ix e
  have hkis := fun (e : hears m x = true) => hears_kind e
  have hM1 : hears m x = true → receive m x = handles (heard m x) x := fun e => if_pos e
  have hM2 : hears m x = false → receive m x = m := fun e => if_neg (by rw [e]; decide)
  have hh1 : m.term < x.tm → heard m x = followN m x.tm := fun e => if_pos e
  have hh2 : ¬ m.term < x.tm → heard m x = m := fun e => if_neg e
  obtain ⟨M, hM⟩ : ∃ M, receive m x = M := ⟨_, rfl⟩
  rw [hM] at hM1 hM2 ⊢
  obtain ⟨m0, hm0⟩ : ∃ m0, heard m x = m0 := ⟨_, rfl⟩
  rw [hm0] at hM1 hhb hh1 hh2
  obtain ⟨hb, hhb2⟩ : ∃ hb, hears m x = hb := ⟨_, rfl⟩
  rw [hhb2] at hhr hnod hixs hkis hM1 hM2
  have H := Lib.hid h
  have HX := Lib.hid hx
  have HFit := Lib.hid hf
  have HFo := Lib.hid hfo
  have HF0 := Lib.hid hhb
  have Hn := Lib.hid hnod
  have Hi := Lib.hid hixs
  have Hk := Lib.hid hkis
  have HM1 := Lib.hid hM1
  have HM2 := Lib.hid hM2
  have Hh1 := Lib.hid hh1
  have Hh2 := Lib.hid hh2
  have Hes := Lib.hid hes
  unfold ltV at hhr
  clear h f hx hf hfo hhb hnod hixs hkis hM1 hM2 hh1 hh2 hM hm0 hhb2 hes
  obtain ⟨kd, fr, tt, tm, ix, pv, cm, ok, es, d⟩ := x
  unfold ltV
  simp only [ltCs] at hba hhr ⊢
  have x3 := hbx.c3
  have x0 := hbx.c0
  have x1 := hbx.c1
  have x2 := hbx.c2
  have x4 := hbx.c4
  have x5 := hbx.c5
  have x6 := hbx.c6
  have x7 := hbx.c7
  have x8 := hbx.c8
  have x9 := hbx.c9
  have hlt := hbx.lt
  simp only [ltCs] at hbx x0 x1 x2 x3 x4 x5 x6 x7 x8 x9 hlt
  obtain ⟨w0, hw0⟩ : ∃ w0, w.alloc (.cells [.int .i64 kd, .int .i64 fr, .int .i64 tt, .int .u64 (tm : Int), .int .u64 (ix : Int), .int .u64 (pv : Int), .int .u64 (cm : Int), .bool ok, .slice a.A a.n a.c, .string d].toArray 41) = w0 := ⟨_, rfl⟩
  rw [hw0] at hba hbx hhr x0 x1 x2 x3 x4 x5 x6 x7 x8 x9 hlt
  obtain ⟨Y, hY⟩ : ∃ Y, m.term = Y := ⟨_, rfl⟩
  rw [hY] at Hh1 Hh2
  have HW0 := Lib.hid hw0
  have HBA := Lib.hid hba
  have HBX := Lib.hid hbx
  have HHr := Lib.hid hhr
  have HY := Lib.hid hY
  clear hw0 hba hbx hhr hY
  go_enter Try.func8, Try.ntmps8
  go_wp2_with fail
  rw [HW0.out]
  go_wp2_with fail
  with_reducible refine HHr.out.mono ?_
  rintro e w1 ⟨rfl, hb1⟩
  have HB1 := Lib.hid (HBA.out.trans (hb1.mono HBA.out.size))
  have hl1 : w.heap.size < w1.heap.size := Nat.lt_of_lt_of_le hlt hb1.size
  have HX1 := Lib.hid (HBX.out.below hb1)
  clear x0 x1 x2 x3 x4 x5 x6 x7 x8 x9 hb1 HHr HW0 HBA HBX hlt
  cases hb with
  | false =>
    as_aux_lemma =>
    have HM3 : Hid (M = m) := Lib.hid (HM2.out rfl)
    clear HM1 HM2 Hn Hi Hk
    go_wp2_with fail
    (try simp only [Exit.inBlock, Exit.then]); refine bodyPost_ret (results_none rfl _ _ _) rfl ?_
    rw [HM3.out]
    exact ⟨rfl, LeftP.of_below H.out HB1.out⟩
  | true =>
    have hd := Hk.out rfl
    have HD := Lib.hid hd
    have HM : Hid (M = handles m0 ⟨kd, fr, tt, tm, ix, pv, cm, ok, es, d⟩) := Lib.hid (HM1.out rfl)
    have HN := Lib.hid (Hn.out rfl)
    have HI := Lib.hid (Hi.out rfl)
    clear HM1 HM2 Hn Hi Hk
    have h1 := H.out.below HB1.out
    have c5 := h1.c5
    rw [HY.out] at c5
    have x3 := HX1.out.c3
    simp only at x3
    have hp1 := h1.plt
    clear h1 hd
    go_wp2_with fail
    go_quiet (fail)
    have HBQ : Hid (Below w.heap.size w (w1.drewN nq)) := below_drewN HB1.out nq
    have x3' : (w1.drewN nq).cell? ⟨w.heap.size, 3, none⟩ = some (.int .u64 (tm : Int)) := x3
    have HXQ : Hid (LBox (w1.drewN nq) w.heap.size ⟨kd, fr, tt, tm, ix, pv, cm, ok, es, d⟩ a) := Lib.hid (HX1.out.below (below_drewN (Below.refl _ _) nq))
    clear x3 c5 HB1 HX1 hl1 hp1
    generalize w1.drewN nq = wq at HBQ x3' HXQ ⊢
    as_aux_lemma =>
    go_upto_if 19 with fail
    go_cut [] from 4 to 23 (fun wx => MidR B w p z m0 ⟨kd, fr, tt, tm, ix, pv, cm, ok, es, d⟩ a wx)
    case first =>
      by_cases hgt : Y < tm
      · have hgd : decide ((Y : Int) < (tm : Int)) = true := by simp; omega
        have hc := HFo.out _ HBQ.out
        rw [← Hh1.out hgt] at hc
        have HC := Lib.hid hc
        clear hc
        go_wp2_with fail
        with_reducible refine HC.out.mono ?_
        rintro e w2 ⟨rfl, z2, h2, g2⟩
        have hno : ¬ Mine p z w.heap.size := fun e => by have := (NodeAt.mine_lt H.out e).2; omega
        have HMid : Hid (MidR B w p z m0 ⟨kd, fr, tt, tm, ix, pv, cm, ok, es, d⟩ a w2) := Lib.hid ⟨z2, h2, (Grow.of_below z HBQ.out).trans g2, HXQ.out.keep g2.only hno⟩
        clear h2 g2
        go_wp2_with fail
        go_meet
        (with_reducible exact HMid.out)
      · have hgd : decide ((Y : Int) < (tm : Int)) = false := by simp; omega
        have HMid : Hid (MidR B w p z m0 ⟨kd, fr, tt, tm, ix, pv, cm, ok, es, d⟩ a wq) := Lib.hid ⟨z, by rw [Hh2.out hgt]; exact H.out.below HBQ.out, Grow.of_below z HBQ.out, HXQ.out⟩
        go_wp2_with fail
        go_meet
        (with_reducible exact HMid.out)
    case rest =>
      obtain ⟨z2, h2, g2, hbx⟩ := hcut
      have y0 := hbx.c0
      have y1 := hbx.c1
      have y2 := hbx.c2
      have y3 := hbx.c3
      have y4 := hbx.c4
      have y5 := hbx.c5
      have y6 := hbx.c6
      have y7 := hbx.c7
      have y8 := hbx.c8
      have y9 := hbx.c9
      (try simp only at y0 y1 y2 y3 y4 y5 y6 y7 y8 y9)
      have H2 := Lib.hid h2
      have G2 := Lib.hid g2
      have HFit2 := Lib.hid (g2.fit HFit.out)
      have hk := HD.out
      (try simp only at hk)
      clear h2 g2 hbx x3' HBQ HXQ HD Hh1 Hh2 HFo HFit H
      rcases hk with rfl | rfl | rfl | rfl | rfl
      · as_aux_lemma =>
        have hc := WalkK.asked_any H2.out HF0.out (by omega) ⟨1, fr, tt, tm, ix, pv, cm, ok, es, d⟩ a HX.out HN.out
        rw [show asked m0 ⟨1, fr, tt, tm, ix, pv, cm, ok, es, d⟩ = M from HM.out.symm] at hc
        unfold ltV at hc
        (try simp only at hc)
        have HC := Lib.hid hc
        clear hc
        go_wp2_with fail
        with_reducible refine HC.out.mono ?_
        rintro e w3 ⟨rfl, hl⟩
        have HL := Lib.hid hl
        clear hl
        go_wp2
        go_end0
        exact ⟨rfl, LeftP.then G2.out HL.out⟩
      · as_aux_lemma =>
        have hc := WalkK.voted_any H2.out HF0.out (by omega) ⟨2, fr, tt, tm, ix, pv, cm, ok, es, d⟩ a HN.out
        rw [show voted m0 ⟨2, fr, tt, tm, ix, pv, cm, ok, es, d⟩ = M from HM.out.symm] at hc
        unfold ltV at hc
        (try simp only at hc)
        have HC := Lib.hid hc
        clear hc
        go_wp2_with fail
        with_reducible refine HC.out.mono ?_
        rintro e w3 ⟨rfl, hl⟩
        have HL := Lib.hid hl
        clear hl
        go_wp2
        go_end0
        exact ⟨rfl, LeftP.then G2.out HL.out⟩
      · as_aux_lemma =>
        have hc := WalkM.written_any H2.out HF0.out (by omega) ⟨3, fr, tt, tm, ix, pv, cm, ok, es, d⟩ a HX.out HFit2.out HN.out HI.out Hes.out
        rw [show writtenN m0 ⟨3, fr, tt, tm, ix, pv, cm, ok, es, d⟩ = M from HM.out.symm] at hc
        unfold ltV at hc
        (try simp only at hc)
        have HC := Lib.hid hc
        clear hc
        go_wp2_with fail
        with_reducible refine HC.out.mono ?_
        rintro e w3 ⟨rfl, hl⟩
        have HL := Lib.hid hl
        clear hl
        go_wp2
        go_end0
        exact ⟨rfl, LeftP.then G2.out HL.out⟩
      · as_aux_lemma =>
        have hc := WalkN.answered_any H2.out HF0.out (by omega) ⟨4, fr, tt, tm, ix, pv, cm, ok, es, d⟩ a HN.out HI.out
        rw [show answered m0 ⟨4, fr, tt, tm, ix, pv, cm, ok, es, d⟩ = M from HM.out.symm] at hc
        unfold ltV at hc
        (try simp only at hc)
        have HC := Lib.hid hc
        clear hc
        go_wp2_with fail
        with_reducible refine HC.out.mono ?_
        rintro e w3 ⟨rfl, hl⟩
        have HL := Lib.hid hl
        clear hl
        go_wp2
        go_end0
        exact ⟨rfl, LeftP.then G2.out HL.out⟩
      · as_aux_lemma =>
        have hc := WalkM.written_any H2.out HF0.out (by omega) ⟨5, fr, tt, tm, ix, pv, cm, ok, es, d⟩ a HX.out HFit2.out HN.out HI.out Hes.out
        rw [show writtenN m0 ⟨5, fr, tt, tm, ix, pv, cm, ok, es, d⟩ = M from HM.out.symm] at hc
        unfold ltV at hc
        (try simp only at hc)
        have HC := Lib.hid hc
        clear hc
        go_wp2_with fail
        with_reducible refine HC.out.mono ?_
        rintro e w3 ⟨rfl, hl⟩
        have HL := Lib.hid hl
        clear hl
        go_wp2
        go_end0
        exact ⟨rfl, LeftP.then G2.out HL.out⟩
end
end Go.Proofs.Ytdbmpfongfiagaa.WalkO
