/- What isSound answers, walked. No statement is proved here. -/
import Derived.Test.YtdmlfnknmilhcaaWalkI
import Derived.Deep.QuietTactic
set_option linter.unusedVariables false
set_option linter.unusedSimpArgs false
namespace Go.Proofs.Ytdmlfnknmilhcaa.WalkJ
open Go.RowKit Go.Proofs.Ytdmlfnknmilhcaa.Kit Go.Proofs.Ytdmlfnknmilhcaa.Rdr Go.Proofs.Ytdmlfnknmilhcaa.Ses Go.Proofs.Ytdmlfnknmilhcaa.Rws Go.Proofs.Ytdmlfnknmilhcaa.SesB Go.Proofs.Ytdmlfnknmilhcaa.WalkA Go.Proofs.Ytdmlfnknmilhcaa.RdT

theorem bdn {B : Nat} {a w : World} (h : Below B a w) (n : Nat) : Below B a (w.drewN n) := h.trans ⟨rfl, rfl, rfl, Nat.le_refl _, fun _ _ => rfl⟩
set_option maxRecDepth 100000 in
set_option maxHeartbeats 4000000 in
theorem sound_any {B : Nat} {w : World} {p : Nat} {v : Value} {m : Tb} (h : PT B w p v m) (hU : U m.now ∧ U m.next) (hf : ∀ r ∈ m.rows, Fine r) {b : Bool} (hb : Hid (snd m = b)) :
    Calls Try.prog 35 #[.pointer (some ⟨p, 0, none⟩)] w fun e w' => e = .returned (.bool b) ∧ Below w.heap.size w w' := by
  have c0 := h.c0
  have c1 := h.c1
  have c2 := h.c2
  have hp := h.plt
  have hbo : ∀ (W : World) o, Below W.heap.size W (W.alloc o) := fun W o => (Below.refl _ _).alloc (Nat.le_refl _) o
  obtain ⟨A, c, rfl, hnc, hcm, hr⟩ := h.form
  obtain ⟨n, hn⟩ : ∃ n, m.rows.length = n := ⟨_, rfl⟩
  rw [hn] at c2 hnc hr
  obtain ⟨NW, NX, L⟩ := m
  simp only at c0 c1 c2 hU hf hn hr
  obtain ⟨hU1, hU2⟩ := hU
  by_cases h0 : NX = 0
  · subst h0
    obtain rfl : b = false := by rw [← hb.out]; rfl
    clear hb h hr hf
    go_enter Try.func35, Try.ntmps35
    go_wp2
    go_ret
    exact ⟨rfl, Below.refl _ _⟩
  · have hb' : sndL NW NX 0 L = b := by rw [← hb.out]; unfold snd; simp only; rw [decide_eq_true h0, Bool.true_and]
    have h0I : ¬ (NX : Int) = 0 := by omega
    have h0B : ((NX : Int) == 0) = false := by simpa using h0
    have HB0 : Hid (sndL NW NX 0 (L.drop 0) = b) := hb'
    have HR := Lib.hid hr
    have HF := Lib.hid hf
    have HN := Lib.hid hn
    clear hb h hr hf hn hb'
    go_enter Try.func35, Try.ntmps35
    go_wp2
    go_loopw [3, 16] (fun x i wr => ∃ j a : Nat, j ≤ n ∧ U a ∧ x = .int .u64 (a : Int) ∧ i = .int .i64 (j : Int) ∧ Hid (Below w.heap.size w wr) ∧ Hid (sndL NW NX a (L.drop j) = b)) (fun _ i _ => n - (intOf i).toNat)
    case atStart => exact ⟨0, 0, by omega, by decide, rfl, rfl, Below.refl _ _, HB0.out⟩
    case round =>
      obtain ⟨j, a, hj, ha, rfl, rfl, hbel, hbb⟩ := hrel
      clear HB0
      by_cases hjn : j < n
      · have HJ := Lib.hid hjn
        obtain ⟨bk, o, r, rfl, hbl, hrj, hsix⟩ := RR.at_ HR.out hjn
        obtain ⟨y0, y1, y2, y3, y4, y5⟩ := hsix.below hbel.out hbl
        have hlt := Nat.lt_of_lt_of_le hbl hbel.out.size
        have e0 := (hbel.out.cell (p := ⟨p, 0, none⟩) hp).trans c0
        have e1 := (hbel.out.cell (p := ⟨p, 1, none⟩) hp).trans c1
        have hplt := Nat.lt_of_lt_of_le hp hbel.out.size
        have hdrop : L.drop j = r :: L.drop (j + 1) := by
          obtain ⟨hh, rfl⟩ := List.getElem?_eq_some_iff.1 hrj
          exact List.drop_eq_getElem_cons hh
        have hsn := hbb.out
        rw [hdrop] at hsn
        have hsn' : (okRow NW NX a r && sndL NW NX r.id (L.drop (j + 1))) = b := hsn
        have hfr := HF.out r (List.mem_of_getElem? hrj)
        have hBC : Hid (∀ k o, Below w.heap.size w ((wr.alloc o).drewN k)) := fun k o => bdn (hbel.out.trans ((hbo wr o).mono hbel.out.size)) k
        obtain ⟨v0, v1, v2, v4, v5⟩ := hfr
        obtain ⟨id, us, sq, ⟨ye, yn, yx⟩⟩ := r
        simp only at y0 y1 y2 y3 y4 y5 v0 v1 v2 v4 v5
        clear hsix hrj hdrop hsn hbb
        have hcase : (id ≤ a) ∨ (a < id ∧ NX ≤ id) ∨ (a < id ∧ id < NX ∧ NW < us) ∨ (a < id ∧ id < NX ∧ us ≤ NW ∧ 1000 < NW - us) ∨ (a < id ∧ id < NX ∧ us ≤ NW ∧ NW - us ≤ 1000) := by omega
        have HS := Lib.hid hsn'
        clear hsn'
        rcases hcase with h1 | ⟨h1, h2⟩ | ⟨h1, h2, h3⟩ | ⟨h1, h2, h3, h4⟩ | ⟨h1, h2, h3, h4⟩
        · have hno : okRow NW NX a ⟨id, us, sq, ⟨ye, yn, yx⟩⟩ = false := by cases hk : okRow NW NX a ⟨id, us, sq, ⟨ye, yn, yx⟩⟩ with
            | false => rfl
            | true => have hk' := (okRow_iff.1 hk).1; have hk2 : a < id := hk'; omega
          obtain rfl : b = false := by rw [← HS.out, hno]; rfl
          have p1 : (id : Int) ≤ (a : Int) := by omega
          have q1 : decide ((id : Int) ≤ (a : Int)) = true := decide_eq_true p1
          have n1 : decide (id ≤ a) = true := decide_eq_true (by omega)
          clear hno HS
          go_wp2_with fail
          go_quiet (fail)
          go_wp2
          go_ret
          exact ⟨rfl, hBC.out _ _⟩
        · have hno : okRow NW NX a ⟨id, us, sq, ⟨ye, yn, yx⟩⟩ = false := by cases hk : okRow NW NX a ⟨id, us, sq, ⟨ye, yn, yx⟩⟩ with
            | false => rfl
            | true => have hk' := (okRow_iff.1 hk).2.1; have hk2 : id < NX := hk'; omega
          obtain rfl : b = false := by rw [← HS.out, hno]; rfl
          have p1 : ¬ (id : Int) ≤ (a : Int) := by omega
          have q1 : decide ((id : Int) ≤ (a : Int)) = false := decide_eq_false p1
          have n1 : decide (id ≤ a) = false := decide_eq_false (by omega)
          have p2 : (NX : Int) ≤ (id : Int) := by omega
          have q2 : decide ((NX : Int) ≤ (id : Int)) = true := decide_eq_true p2
          have n2 : decide (NX ≤ id) = true := decide_eq_true (by omega)
          clear hno HS
          go_wp2_with fail
          go_quiet (fail)
          go_wp2
          go_ret
          exact ⟨rfl, hBC.out _ _⟩
        · have hno : okRow NW NX a ⟨id, us, sq, ⟨ye, yn, yx⟩⟩ = false := by cases hk : okRow NW NX a ⟨id, us, sq, ⟨ye, yn, yx⟩⟩ with
            | false => rfl
            | true => have hk' := (okRow_iff.1 hk).2.2.1; have hk2 : us ≤ NW := hk'; omega
          obtain rfl : b = false := by rw [← HS.out, hno]; rfl
          have p1 : ¬ (id : Int) ≤ (a : Int) := by omega
          have q1 : decide ((id : Int) ≤ (a : Int)) = false := decide_eq_false p1
          have n1 : decide (id ≤ a) = false := decide_eq_false (by omega)
          have p2 : ¬ (NX : Int) ≤ (id : Int) := by omega
          have q2 : decide ((NX : Int) ≤ (id : Int)) = false := decide_eq_false p2
          have n2 : decide (NX ≤ id) = false := decide_eq_false (by omega)
          have p3 : (NW : Int) < (us : Int) := by omega
          have q3 : decide ((NW : Int) < (us : Int)) = true := decide_eq_true p3
          have n3 : decide (NW < us) = true := decide_eq_true (by omega)
          clear hno HS
          go_wp2_with fail
          go_quiet (fail)
          go_wp2
          go_ret
          exact ⟨rfl, hBC.out _ _⟩
        · have hno : okRow NW NX a ⟨id, us, sq, ⟨ye, yn, yx⟩⟩ = false := by cases hk : okRow NW NX a ⟨id, us, sq, ⟨ye, yn, yx⟩⟩ with
            | false => rfl
            | true => have hk' := (okRow_iff.1 hk).2.2.2; have hk2 : NW - us ≤ 1000 := hk'; omega
          obtain rfl : b = false := by rw [← HS.out, hno]; rfl
          have p1 : ¬ (id : Int) ≤ (a : Int) := by omega
          have q1 : decide ((id : Int) ≤ (a : Int)) = false := decide_eq_false p1
          have n1 : decide (id ≤ a) = false := decide_eq_false (by omega)
          have p2 : ¬ (NX : Int) ≤ (id : Int) := by omega
          have q2 : decide ((NX : Int) ≤ (id : Int)) = false := decide_eq_false p2
          have n2 : decide (NX ≤ id) = false := decide_eq_false (by omega)
          have p3 : ¬ (NW : Int) < (us : Int) := by omega
          have q3 : decide ((NW : Int) < (us : Int)) = false := decide_eq_false p3
          have n3 : decide (NW < us) = false := decide_eq_false (by omega)
          have hw : IntKind.u64.wrap ((NW : Int) - (us : Int)) = ((NW - us : Nat) : Int) := by rw [show (NW : Int) - (us : Int) = ((NW - us : Nat) : Int) by omega]; exact IntWalk.u64_in _ ⟨by omega, by omega⟩
          obtain ⟨dd, hdd⟩ : ∃ d, NW - us = d := ⟨_, rfl⟩
          rw [hdd] at hw h4
          have p4 : (1000 : Int) < (dd : Int) := by omega
          have q4 : decide ((1000 : Int) < (dd : Int)) = true := decide_eq_true p4
          have n4 : decide (1000 < dd) = true := decide_eq_true (by omega)
          clear hno HS
          go_wp2_with fail
          go_quiet (fail)
          go_wp2
          go_ret
          exact ⟨rfl, hBC.out _ _⟩
        · have hok : okRow NW NX a ⟨id, us, sq, ⟨ye, yn, yx⟩⟩ = true := okRow_iff.2 ⟨h1, h2, h3, h4⟩
          have hrest : sndL NW NX id (L.drop (j + 1)) = b := by rw [← HS.out, hok, Bool.true_and]
          have p1 : ¬ (id : Int) ≤ (a : Int) := by omega
          have q1 : decide ((id : Int) ≤ (a : Int)) = false := decide_eq_false p1
          have n1 : decide (id ≤ a) = false := decide_eq_false (by omega)
          have p2 : ¬ (NX : Int) ≤ (id : Int) := by omega
          have q2 : decide ((NX : Int) ≤ (id : Int)) = false := decide_eq_false p2
          have n2 : decide (NX ≤ id) = false := decide_eq_false (by omega)
          have p3 : ¬ (NW : Int) < (us : Int) := by omega
          have q3 : decide ((NW : Int) < (us : Int)) = false := decide_eq_false p3
          have n3 : decide (NW < us) = false := decide_eq_false (by omega)
          have hw : IntKind.u64.wrap ((NW : Int) - (us : Int)) = ((NW - us : Nat) : Int) := by rw [show (NW : Int) - (us : Int) = ((NW - us : Nat) : Int) by omega]; exact IntWalk.u64_in _ ⟨by omega, by omega⟩
          obtain ⟨dd, hdd⟩ : ∃ d, NW - us = d := ⟨_, rfl⟩
          rw [hdd] at hw h4
          have p4 : ¬ (1000 : Int) < (dd : Int) := by omega
          have q4 : decide ((1000 : Int) < (dd : Int)) = false := decide_eq_false p4
          have n4 : decide (1000 < dd) = false := decide_eq_false (by omega)
          have HREST := Lib.hid hrest
          clear hok HS hrest
          go_wp2_with fail
          go_quiet (fail)
          go_wp2
          go_roundw
          case rel => exact ⟨j + 1, id, HJ.out, v0, rfl, by go_num, hBC.out _ _, HREST.out⟩
          case measure => have := HJ.out; simp [intOf]; omega
      · obtain rfl : j = n := by omega
        have hd : L.drop j = [] := List.drop_eq_nil_of_le (by rw [HN.out]; exact Nat.le_refl _)
        have hb2 := hbb.out
        rw [hd] at hb2
        obtain rfl : b = true := hb2.symm
        go_wp2
        go_ret
        exact ⟨rfl, hbel.out⟩
end Go.Proofs.Ytdmlfnknmilhcaa.WalkJ
