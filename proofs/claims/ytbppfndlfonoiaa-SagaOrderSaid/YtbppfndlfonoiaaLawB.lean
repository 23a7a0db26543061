/- The walk of the statement that a saga ends behind at most so many outcomes. -/
import Derived.Test.YtbppfndlfonoiaaBegun
import Derived.Test.YtbppfndlfonoiaaLit
import Derived.Test.YtbppfndlfonoiaaOpn
import Derived.Deep.RegionHeld3
import Derived.StillTailTactics
set_option linter.unusedVariables false
set_option linter.unusedSimpArgs false
namespace Go.Proofs.Ytbppfndlfonoiaa.LawB
open Go.RowKit Go.Proofs.Ytbppfndlfonoiaa.Kit Go.Proofs.Ytbppfndlfonoiaa.Stq Go.Proofs.Ytbppfndlfonoiaa.Pln Go.Proofs.Ytbppfndlfonoiaa.Sag Go.Proofs.Ytbppfndlfonoiaa.SagAt Go.Proofs.Ytbppfndlfonoiaa.Ways Go.Proofs.Ytbppfndlfonoiaa.WalkA Go.Proofs.Ytbppfndlfonoiaa.WalkB Go.Proofs.Ytbppfndlfonoiaa.WalkC Go.Proofs.Ytbppfndlfonoiaa.WalkD Go.Proofs.Ytbppfndlfonoiaa.NewS Go.Proofs.Ytbppfndlfonoiaa.Begun Go.Proofs.Ytbppfndlfonoiaa.Opens Go.Proofs.Ytbppfndlfonoiaa.Opn Go.Proofs.Ytbppfndlfonoiaa.Lit
open Go.Proofs.Ytbppfndlfonoiaa.State (Only cell_at free_at lt_at)

/-- How many outcomes are wanted at most. -/
def left (s : Sg) : Nat := if s.st = 1 then (s.l.length - s.cu.toNat) + s.cu.toNat * 9 else if s.st = 2 then s.cu.toNat * 9 + (9 - s.fa.toNat) else 0
/-- How many at most, a saga that runs having taken n. -/
def fits (s : Sg) (n : Int) : Prop := Snd s ∧ 0 ≤ n ∧ ((s.st = 1 ∧ n = s.cu) ∨ (s.st = 2 ∧ n + ((s.cu.toNat * 9 + (9 - s.fa.toNat) : Nat) : Int) ≤ (s.l.length : Int) * 10) ∨ (3 ≤ s.st ∧ n ≤ (s.l.length : Int) * 10))
theorem fwd_ways (s : Sg) : (s.cu + 1 = s.l.length ∧ (fwd s).st = 3) ∨ (s.cu + 1 ≠ s.l.length ∧ (fwd s).st = s.st) := by
  unfold fwd
  by_cases h : s.cu + 1 = s.l.length
  · exact .inl ⟨h, by rw [if_pos h]⟩
  · exact .inr ⟨h, by rw [if_neg h]⟩
theorem fail_ways (s : Sg) : (s.fa + 1 = bud s.l s.cu ∧ (fail s).st = 5) ∨ (s.fa + 1 ≠ bud s.l s.cu ∧ (fail s).st = s.st) := by
  unfold fail
  by_cases h : s.fa + 1 = bud s.l s.cu
  · exact .inl ⟨h, by rw [if_pos h]⟩
  · exact .inr ⟨h, by rw [if_neg h]⟩
theorem back_fits {s : Sg} (hc : chk s.l = 0) {k n : Int} (h0 : -1 ≤ k) (h1 : k < s.l.length) (hn : 0 ≤ n) (hb : n + (k + 1) * 9 ≤ (s.l.length : Int) * 10) : fits (back s k) n := by
  have hs := back_snd hc h1
  refine ⟨hs, hn, ?_⟩
  unfold back
  split
  · exact .inr (.inr ⟨by show (3 : Int) ≤ 4; decide, by show n ≤ (s.l.length : Int) * 10; omega⟩)
  · refine .inr (.inl ⟨rfl, ?_⟩)
    show n + ((k.toNat * 9 + (9 - (0 : Int).toNat) : Nat) : Int) ≤ (s.l.length : Int) * 10
    omega
/-- An abort, the outcome that follows, and what is left. -/
theorem abort_fits {s : Sg} {n : Int} (h : fits s n) (ho : opn s = true) : fits (abort s) n ∧ opn (abort s) = true := by
  obtain ⟨h1, h2, h3⟩ := h
  unfold abort
  split
  · rename_i ha
    have hy := aborts_yes ha
    have hb : fits (back s s.cu) n := back_fits h1.1 (by omega) (by omega) h2 (by omega)
    refine ⟨hb, ?_⟩
    unfold opn
    rw [sound_mk hb.1, Bool.true_and]
    unfold back
    rw [if_neg (by omega)]
    rfl
  · exact ⟨⟨h1, h2, h3⟩, ho⟩
theorem next_fits {s : Sg} {n : Int} (h : fits s n) (ho : opn s = true) (ok : Bool) : fits (next s (wantB s) ok) (n + 1) ∧ n + 1 ≤ (s.l.length : Int) * 10 := by
  obtain ⟨h1, h2, h3⟩ := h
  have hw : wantB s = decide (s.st = 2) := by unfold wantB; rw [ho]; rfl
  have hs := next_snd (ok := ok) ho hw
  have hi := opn_in ho
  have h5 := (opn_yes ho).2
  have hbd := bud_def h1.1 hi.1 hi.2
  have hlen := len_def h1.1
  by_cases hst : s.st = 1
  · have hwf : wantB s = false := by rw [hw]; simp [hst]
    rw [hwf] at hs ⊢
    obtain ⟨g2, g3⟩ : n = s.cu ∧ s.fa = 0 := by omega
    refine ⟨?_, by omega⟩
    cases ok
    · show fits (back s (s.cu - 1)) (n + 1)
      exact back_fits h1.1 (by omega) (by omega) (by omega) (by omega)
    · refine ⟨hs, by omega, ?_⟩
      have e : next s false true = fwd s := rfl
      rw [e]
      rcases fwd_ways s with ⟨_, w1⟩ | ⟨_, w1⟩
      · refine .inr (.inr ⟨by rw [w1]; decide, ?_⟩)
        show n + 1 ≤ (s.l.length : Int) * 10
        omega
      · exact .inl ⟨by rw [w1]; exact hst, by show n + 1 = s.cu + 1; omega⟩
  · have hst2 : s.st = 2 := by omega
    have hwt : wantB s = true := by rw [hw]; simp [hst2]
    rw [hwt] at hs ⊢
    have h6 : n + ((s.cu.toNat * 9 + (9 - s.fa.toNat) : Nat) : Int) ≤ (s.l.length : Int) * 10 := by omega
    refine ⟨?_, by omega⟩
    cases ok
    · refine ⟨hs, by omega, ?_⟩
      have e : next s true false = fail s := rfl
      rw [e]
      rcases fail_ways s with ⟨_, w1⟩ | ⟨_, w1⟩
      · refine .inr (.inr ⟨by rw [w1]; decide, ?_⟩)
        show n + 1 ≤ (s.l.length : Int) * 10
        omega
      · refine .inr (.inl ⟨by rw [w1]; exact hst2, ?_⟩)
        show n + 1 + ((s.cu.toNat * 9 + (9 - (s.fa + 1).toNat) : Nat) : Int) ≤ (s.l.length : Int) * 10
        omega
    · show fits (back s (s.cu - 1)) (n + 1)
      exact back_fits h1.1 (by omega) (by omega) (by omega) (by omega)
theorem takes_want {s : Sg} (ho : opn s = true) (ok : Bool) : takes s (wantC s) (wantB s) s.fa ok = true := by
  unfold takes wantC wantB
  rw [ho]
  simp
theorem snd_end {s : Sg} (h : Snd s) : opn s = !ended s := by rw [opn_ended, sound_mk h]; rfl
theorem fits_fresh {l : List Sp} (h : chk l = 0) : fits (freshS l) 0 := ⟨fresh_snd h, Int.le_refl _, .inl ⟨rfl, rfl⟩⟩

/-- A truth of a slice that came in. -/
theorem bool_at {w W : World} {B : Option Addr} {m : Nat} {bs : List Bool} (h : Reads w w.heap.size 1 B m (bs.map Value.bool)) (k : Below w.heap.size w W) {i : Nat} (hi : i < m) : ∃ b o e, B = some ⟨b, o, none⟩ ∧ b < W.heap.size ∧ W.cell? ⟨b, o + i, none⟩ = some (.bool e) := by
  obtain ⟨ad, rfl, hb, hc⟩ := h.2 (by omega)
  have hl : bs.length = m := by have := h.1; simpa using this
  have h0 := hc i (.bool (bs[i]'(by omega))) (by simp [List.getElem?_eq_getElem (show i < bs.length by omega)])
  have h00 := hc 0 (.bool (bs[0]'(by omega))) (by simp [List.getElem?_eq_getElem (show 0 < bs.length by omega)])
  rw [add_zero] at h00
  have hs := World.cell?_spot h00
  obtain ⟨b, o, sp⟩ := ad
  have : sp = none := hs
  subst this
  rw [Addr.add_lit] at h0
  exact ⟨b, o, _, rfl, Nat.lt_of_lt_of_le hb k.size, (k.cell (p := ⟨b, o + i, none⟩) hb).trans h0⟩

set_option maxRecDepth 100000 in
set_option maxHeartbeats 8000000 in
theorem ends_walk (A : Option Addr) (c : Nat) (l : List Sp) (B : Option Addr) (m cb : Nat) (bs : List Bool) (ab : Int) (w : World) (h : CameS w A l.length c l) (hr : l.length * 32 ≤ 140737488355328) (hb : Reads w w.heap.size 1 B m (bs.map Value.bool)) (hm : m ≤ 9223372036854775807) (hz : -9223372036854775808 ≤ ab ∧ ab ≤ 9223372036854775807) :
    Calls Try.prog 5 #[.slice A l.length c, .slice B m cb, .int .i64 ab] w fun e w' => e = .returned (.bool true) ∧ Below w.heap.size w w' := by
  have hat := came_at h hr
  rcases chk_or l with hc | hc
  · have HC := Lib.hid hc
    have HAT := Lib.hid hat
    have HBS := Lib.hid hb
    clear h hat hc hb hz
    by_cases hm0 : m = 0
    · subst hm0
      go_enter Try.func5, Try.ntmps5
      go_wp2_with fail
      refine (begun_true _).mono ?_
      rintro e w1 ⟨rfl, hb1⟩
      have ha1 := HAT.out.below hb1
      go_wp2_with fail
      with_reducible refine (new_yes c ha1 HC).mono ?_
      rintro e w2 ⟨A2, k2, rfl, ha2, hf2, hb2⟩
      have hB := hb1.trans (hb2.mono hb1.size)
      go_wp2
      go_ret
      exact ⟨rfl, hB.trans ((bo1 _ _).mono hB.size)⟩
    · have hm1 : ((m : Int) == 0) = false := by simpa using hm0
      have hm2 : (0 : Int) < (m : Int) := by omega
      have hm3 : (m : Int) ≤ 9223372036854775807 := by omega
      clear hm0
      go_enter Try.func5, Try.ntmps5
      go_wp2_with fail
      refine (begun_true _).mono ?_
      rintro e w1 ⟨rfl, hb1⟩
      have ha1 := HAT.out.below hb1
      have HB1 := Lib.hid hb1
      clear hb1
      go_wp2_with fail
      with_reducible refine (new_yes c ha1 HC).mono ?_
      rintro e w2 ⟨A2, k2, rfl, ha2, hf2, hb2⟩
      have hs2 : SB w1 (w2.alloc (.cells #[.slice A2 l.length k2, .int .i64 1, .int .i64 0, .int .i64 0] 24)) w2.heap.size A2 k2 ⟨l, 1, 0, 0⟩ := sb_new (s := ⟨l, 1, 0, 0⟩) hb2 ha2
      have hft : fits ⟨l, 1, 0, 0⟩ 0 := fits_fresh HC.out
      obtain ⟨w3, hw3⟩ : ∃ w3, w2.alloc (.cells #[.slice A2 l.length k2, .int .i64 1, .int .i64 0, .int .i64 0] 24) = w3 := ⟨_, rfl⟩
      obtain ⟨p, hp⟩ : ∃ p, w2.heap.size = p := ⟨_, rfl⟩
      rw [hw3] at hs2
      rw [hp] at hs2
      have HS3 := Lib.hid hs2
      have HW3 := Lib.hid hw3
      have HP := Lib.hid hp
      have HFT := Lib.hid hft
      have h64 := (len_def HC.out).2
      clear hs2 hw3 hp hft ha1 ha2 hf2 hb2
      go_wp2_with fail
      try rw [HW3.out]
      try rw [HP.out]
      go_loopw [9] (fun x wr => ∃ (n : Nat) (A3 : Option Addr) (k3 : Nat) (st cu fa : Int), x = .int .i64 (n : Int) ∧ Hid (SB w1 wr p A3 k3 ⟨l, st, cu, fa⟩) ∧ Hid (fits ⟨l, st, cu, fa⟩ (n : Int))) (fun x _ => (l.length * 10 - (intOf x)).toNat)
      case atStart => exact ⟨0, A2, k2, 1, 0, 0, rfl, HS3, HFT⟩
      case round =>
        obtain ⟨n, A3, k3, st, cu, fa, rfl, HS, HF⟩ := hrel
        clear HS3 HFT HW3 HP
        have hx := HS.out.box
        have t0 := hx.c0
        have t1 := hx.c1
        have t2 := hx.c2
        have t3 := hx.c3
        have tf0 := hx.free 0
        have tf1 := hx.free 1
        have tf2 := hx.free 2
        have tf3 := hx.free 3
        have tlt := hx.lt
        simp only at t0 t1 t2 t3
        clear hx
        obtain ⟨v, hv⟩ : ∃ v, ended ⟨l, st, cu, fa⟩ = v := ⟨_, rfl⟩
        have hop : opn ⟨l, st, cu, fa⟩ = !v := by rw [snd_end HF.out.1, hv]
        have HV := Lib.hid hv
        clear hv
        go_wp2_with fail
        with_reducible refine (ended_lit k3 A3 l.length wr HV rfl).mono ?_
        rintro e w4 ⟨rfl, hb4⟩
        cases v
        · have HOP : Hid (opn ⟨l, st, cu, fa⟩ = true) := hop
          have h4 := HS.out.below hb4
          have hx := h4.box
          clear t0 t1 t2 t3 tf0 tf1 tf2 tf3 tlt
          have t0 := hx.c0
          have t1 := hx.c1
          have t2 := hx.c2
          have t3 := hx.c3
          have tf0 := hx.free 0
          have tf1 := hx.free 1
          have tf2 := hx.free 2
          have tf3 := hx.free 3
          have tlt := hx.lt
          simp only at t0 t1 t2 t3
          have HS4 := Lib.hid h4
          clear hx h4 hb4 hop
          by_cases hab : (n : Int) = ab
          · have hab' : ((n : Int) == ab) = true := by simpa using hab
            clear hab
            have hat := abort_fits HF.out HOP.out
            obtain ⟨⟨al, aS, aC, aF⟩, ha⟩ : ∃ t, abort ⟨l, st, cu, fa⟩ = t := ⟨_, rfl⟩
            have hal : al = l := by have := abort_l ⟨l, st, cu, fa⟩; rw [ha] at this; exact this
            subst hal
            rw [ha] at hat
            have HAB := Lib.hid ha
            have HFA := Lib.hid hat.1
            have HOA := Lib.hid hat.2
            obtain ⟨bq, hbq⟩ : ∃ b, aborts ⟨al, st, cu, fa⟩ = b := ⟨_, rfl⟩
            have HBQ := Lib.hid hbq
            clear ha hat hbq
            go_wp2_with fail
            with_reducible refine (abort_lit k3 HS4.out.at_ HAB HBQ).mono ?_
            rintro e w5 ⟨A5, k5, rfl, ha5, hf5, hb5⟩
            obtain ⟨w6, hw6, h6⟩ := HS4.out.put (s' := ⟨al, aS, aC, aF⟩) (c' := k5) hb5 ha5 hf5
            have hx := HS4.out.box.below hb5
            clear t0 t1 t2 t3 tf0 tf1 tf2 tf3 tlt
            have t0 := hx.c0
            have t1 := hx.c1
            have t2 := hx.c2
            have t3 := hx.c3
            have tf0 := hx.free 0
            have tf1 := hx.free 1
            have tf2 := hx.free 2
            have tf3 := hx.free 3
            have tlt := hx.lt
            simp only at t0 t1 t2 t3
            have HW6 : Hid ((((w5.setCell ⟨p, 0, none⟩ (.slice A5 al.length k5)).setCell ⟨p, 1, none⟩ (.int .i64 aS)).setCell ⟨p, 2, none⟩ (.int .i64 aC)).setCell ⟨p, 3, none⟩ (.int .i64 aF) = w6) := hw6
            have HS6 := Lib.hid h6
            clear hw6 h6 hx ha5 hf5 hb5
            -- what follows, from the world w6 on
            obtain ⟨y, hy⟩ : ∃ y, wantB ⟨al, aS, aC, aF⟩ = y := ⟨_, rfl⟩
            have hq : wantC ⟨al, aS, aC, aF⟩ = aC := by unfold wantC; rw [HOA.out]; rfl
            have HY := Lib.hid hy
            have HQ := Lib.hid hq
            have HX : Hid (opn ⟨al, aS, aC, aF⟩ = true) := HOA.out
            have hin := opn_in (s := ⟨al, aS, aC, aF⟩) HOA.out
            simp only at hin
            go_wp2_with fail
            rw [HW6.out]
            with_reducible refine (wants_lit k5 HS6.out.at_ HQ HY HX).mono ?_
            rintro e w7 ⟨rfl, hb7⟩
            clear t0 t1 t2 t3 tf0 tf1 tf2 tf3 tlt
            have h7 := HS6.out.below hb7
            have hx := h7.box
            have t0 := hx.c0
            have t1 := hx.c1
            have t2 := hx.c2
            have t3 := hx.c3
            have tf0 := hx.free 0
            have tf1 := hx.free 1
            have tf2 := hx.free 2
            have tf3 := hx.free 3
            have tlt := hx.lt
            simp only at t0 t1 t2 t3
            have HS7 := Lib.hid h7
            obtain ⟨bb, ob, eb, hBB, hbl, tb⟩ := bool_at HBS.out (HB1.out.trans (h7.bel.mono HB1.out.size)) (show n % m < m from Nat.mod_lt _ (by omega))
            subst hBB
            have hmod : (n : Int).tmod (m : Int) = ((n % m : Nat) : Int) := rfl
            obtain ⟨i, hi⟩ : ∃ i, n % m = i := ⟨_, rfl⟩
            have him : i < m := by rw [← hi]; exact Nat.mod_lt _ (by omega)
            rw [hi] at tb hmod
            have hi1 : (i : Int) < (m : Int) := by omega
            have hmz : ¬ m = 0 := by omega
            obtain ⟨⟨nl, ns, nc, nf⟩, hn⟩ : ∃ t, next ⟨al, aS, aC, aF⟩ y eb = t := ⟨_, rfl⟩
            have hnl : nl = al := by have := next_l ⟨al, aS, aC, aF⟩ y eb; rw [hn] at this; exact this
            subst hnl
            have htk : takes ⟨nl, aS, aC, aF⟩ aC y aF eb = true := by have := takes_want (s := ⟨nl, aS, aC, aF⟩) HOA.out eb; rw [hq, hy] at this; exact this
            have hou : outc ⟨nl, aS, aC, aF⟩ aC y aF eb = ⟨nl, ns, nc, nf⟩ := by unfold outc; rw [htk]; exact hn
            have hfn := next_fits (s := ⟨nl, aS, aC, aF⟩) HFA.out HOA.out eb
            rw [hy, hn] at hfn
            simp only at hfn
            have hbd : (n : Int) + 1 ≤ (nl.length : Int) * 10 := hfn.2
            have HFN := Lib.hid hfn.1
            have HTK := Lib.hid htk
            have HOU := Lib.hid hou
            clear hx h7 hb7 hi hn htk hou hfn hy hq
            have hdr : SB w1 w7.drew p A5 k5 ⟨nl, aS, aC, aF⟩ := HS7.out.below ((Below.refl _ _).drew)
            have HSD := Lib.hid hdr
            clear hdr
            have hbn : (n : Int) + 1 ≤ (nl.length : Int) + (nl.length : Int) * 9 := by omega
            go_wp2_with fail
            go_region_with
              (first
                | (go_at_call 10
                   (with_reducible refine (outcome_lit k5 HSD.out.at_ aC y aF eb HOU HTK).mono ?_)
                   rintro e w8 ⟨A8, k8, rfl, ha8, hf8, hb8⟩
                   obtain ⟨w9, hw9, h9⟩ := HSD.out.put (s' := ⟨nl, ns, nc, nf⟩) (c' := k8) hb8 ha8 hf8
                   have HW9 : Hid ((((w8.setCell ⟨p, 0, none⟩ (.slice A8 nl.length k8)).setCell ⟨p, 1, none⟩ (.int .i64 ns)).setCell ⟨p, 2, none⟩ (.int .i64 nc)).setCell ⟨p, 3, none⟩ (.int .i64 nf) = w9) := hw9
                   have hx := HSD.out.box.below hb8
                   have v0 := hx.c0
                   have v1 := hx.c1
                   have v2 := hx.c2
                   have v3 := hx.c3
                   have vf0 := hx.free 0
                   have vf1 := hx.free 1
                   have vf2 := hx.free 2
                   have vf3 := hx.free 3
                   have vlt := hx.lt
                   simp only at v0 v1 v2 v3
                   have HS9 := Lib.hid h9
                   clear hw9 h9 hx ha8 hf8 hb8))
            all_goals go_wp2
            all_goals rw [HW9.out]
            all_goals go_roundw
            all_goals first
              | exact ⟨n + 1, A8, k8, ns, nc, nf, by go_num, HS9, HFN⟩
              | (simp [intOf]; omega)
          · have hab' : ((n : Int) == ab) = false := by simpa using hab
            clear hab
            -- what follows, from the world w4 on
            obtain ⟨y, hy⟩ : ∃ y, wantB ⟨l, st, cu, fa⟩ = y := ⟨_, rfl⟩
            have hq : wantC ⟨l, st, cu, fa⟩ = cu := by unfold wantC; rw [HOP.out]; rfl
            have HY := Lib.hid hy
            have HQ := Lib.hid hq
            have HX : Hid (opn ⟨l, st, cu, fa⟩ = true) := HOP.out
            have hin := opn_in (s := ⟨l, st, cu, fa⟩) HOP.out
            simp only at hin
            go_wp2_with fail
            with_reducible refine (wants_lit k3 HS4.out.at_ HQ HY HX).mono ?_
            rintro e w7 ⟨rfl, hb7⟩
            clear t0 t1 t2 t3 tf0 tf1 tf2 tf3 tlt
            have h7 := HS4.out.below hb7
            have hx := h7.box
            have t0 := hx.c0
            have t1 := hx.c1
            have t2 := hx.c2
            have t3 := hx.c3
            have tf0 := hx.free 0
            have tf1 := hx.free 1
            have tf2 := hx.free 2
            have tf3 := hx.free 3
            have tlt := hx.lt
            simp only at t0 t1 t2 t3
            have HS7 := Lib.hid h7
            obtain ⟨bb, ob, eb, hBB, hbl, tb⟩ := bool_at HBS.out (HB1.out.trans (h7.bel.mono HB1.out.size)) (show n % m < m from Nat.mod_lt _ (by omega))
            subst hBB
            have hmod : (n : Int).tmod (m : Int) = ((n % m : Nat) : Int) := rfl
            obtain ⟨i, hi⟩ : ∃ i, n % m = i := ⟨_, rfl⟩
            have him : i < m := by rw [← hi]; exact Nat.mod_lt _ (by omega)
            rw [hi] at tb hmod
            have hi1 : (i : Int) < (m : Int) := by omega
            have hmz : ¬ m = 0 := by omega
            obtain ⟨⟨nl, ns, nc, nf⟩, hn⟩ : ∃ t, next ⟨l, st, cu, fa⟩ y eb = t := ⟨_, rfl⟩
            have hnl : nl = l := by have := next_l ⟨l, st, cu, fa⟩ y eb; rw [hn] at this; exact this
            subst hnl
            have htk : takes ⟨nl, st, cu, fa⟩ cu y fa eb = true := by have := takes_want (s := ⟨nl, st, cu, fa⟩) HOP.out eb; rw [hq, hy] at this; exact this
            have hou : outc ⟨nl, st, cu, fa⟩ cu y fa eb = ⟨nl, ns, nc, nf⟩ := by unfold outc; rw [htk]; exact hn
            have hfn := next_fits (s := ⟨nl, st, cu, fa⟩) HF.out HOP.out eb
            rw [hy, hn] at hfn
            simp only at hfn
            have hbd : (n : Int) + 1 ≤ (nl.length : Int) * 10 := hfn.2
            have HFN := Lib.hid hfn.1
            have HTK := Lib.hid htk
            have HOU := Lib.hid hou
            clear hx h7 hb7 hi hn htk hou hfn hy hq
            have hdr : SB w1 w7.drew p A3 k3 ⟨nl, st, cu, fa⟩ := HS7.out.below ((Below.refl _ _).drew)
            have HSD := Lib.hid hdr
            clear hdr
            have hbn : (n : Int) + 1 ≤ (nl.length : Int) + (nl.length : Int) * 9 := by omega
            go_wp2_with fail
            go_region_with
              (first
                | (go_at_call 10
                   (with_reducible refine (outcome_lit k3 HSD.out.at_ cu y fa eb HOU HTK).mono ?_)
                   rintro e w8 ⟨A8, k8, rfl, ha8, hf8, hb8⟩
                   obtain ⟨w9, hw9, h9⟩ := HSD.out.put (s' := ⟨nl, ns, nc, nf⟩) (c' := k8) hb8 ha8 hf8
                   have HW9 : Hid ((((w8.setCell ⟨p, 0, none⟩ (.slice A8 nl.length k8)).setCell ⟨p, 1, none⟩ (.int .i64 ns)).setCell ⟨p, 2, none⟩ (.int .i64 nc)).setCell ⟨p, 3, none⟩ (.int .i64 nf) = w9) := hw9
                   have hx := HSD.out.box.below hb8
                   have v0 := hx.c0
                   have v1 := hx.c1
                   have v2 := hx.c2
                   have v3 := hx.c3
                   have vf0 := hx.free 0
                   have vf1 := hx.free 1
                   have vf2 := hx.free 2
                   have vf3 := hx.free 3
                   have vlt := hx.lt
                   simp only at v0 v1 v2 v3
                   have HS9 := Lib.hid h9
                   clear hw9 h9 hx ha8 hf8 hb8))
            all_goals go_wp2
            all_goals rw [HW9.out]
            all_goals go_roundw
            all_goals first
              | exact ⟨n + 1, A8, k8, ns, nc, nf, by go_num, HS9, HFN⟩
              | (simp [intOf]; omega)
        · have hB4 := HB1.out.trans (((HS.out.below hb4).bel).mono HB1.out.size)
          go_wp2
          go_ret
          exact ⟨rfl, hB4⟩
  · have HC := Lib.hid hc
    have HAT := Lib.hid hat
    clear h hat hc hb hz
    go_enter Try.func5, Try.ntmps5
    go_wp2_with fail
    refine (begun_true _).mono ?_
    rintro e w1 ⟨rfl, hb1⟩
    have ha1 := HAT.out.below hb1
    go_wp2_with fail
    with_reducible refine (new_no c ha1 HC).mono ?_
    rintro e w2 ⟨rfl, hb2⟩
    have hB := hb1.trans (hb2.mono hb1.size)
    go_wp2
    go_ret
    exact ⟨rfl, hB.trans ((bo1 _ _).mono hB.size)⟩
end Go.Proofs.Ytbppfndlfonoiaa.LawB
