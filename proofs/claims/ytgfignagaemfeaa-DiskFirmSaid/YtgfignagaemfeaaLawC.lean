/- The walk of the statement that call by call a disk answers what the document says. -/
import Derived.Test.YtgfignagaemfeaaCalls
namespace Go.Proofs.Ytgfignagaemfeaa.LawC
open Go.RowKit Go.Proofs.Ytgfignagaemfeaa.Kit Go.Proofs.Ytgfignagaemfeaa.Blocks Go.Proofs.Ytgfignagaemfeaa.Model Go.Proofs.Ytgfignagaemfeaa.Disk Go.Proofs.Ytgfignagaemfeaa.WalkA Go.Proofs.Ytgfignagaemfeaa.WalkC Go.Proofs.Ytgfignagaemfeaa.WalkD Go.Proofs.Ytgfignagaemfeaa.WalkI Go.Proofs.Ytgfignagaemfeaa.WalkJ Go.Proofs.Ytgfignagaemfeaa.Ref Go.Proofs.Ytgfignagaemfeaa.RefB Go.Proofs.Ytgfignagaemfeaa.RefF Go.Proofs.Ytgfignagaemfeaa.Ops Go.Proofs.Ytgfignagaemfeaa.Begun Go.Proofs.Ytgfignagaemfeaa.Both Go.Proofs.Ytgfignagaemfeaa.BothB Go.Proofs.Ytgfignagaemfeaa.Calls

section
variable {B : Nat} {L : List Nat} {W W' : World} {p q N : Nat} {m : M}
theorem Pair.below (h : Pair B L W p q N m) (k : Below W.heap.size W W') : Pair B L W' p q N m := ⟨h.d.below k, h.r.below k, h.low, h.apart⟩
theorem Pair.beside (h : Pair B L W p q N m) (k : Below W.heap.size W W') {b : Nat} (h0 : W.heap.size ≤ b) (h1 : b < W'.heap.size) : Pair B (b :: L) W' p q N m :=
  ⟨(h.d.beside k h0 h1).fewer fun y hy => by
    rcases List.mem_cons.1 hy with rfl | hy
    · simp
    · rcases List.mem_cons.1 hy with rfl | hy
      · simp
      · simp [hy], h.r.below k, h.low, fun e => by
    rcases List.mem_cons.1 e with e | e
    · have := h.r.lt; omega
    · exact h.apart e⟩
theorem Pair.fewer {L' : List Nat} (h : Pair B L W p q N m) (hs : ∀ y, y ∈ L' → y ∈ L) : Pair B L' W p q N m :=
  ⟨h.d.fewer fun y hy => by
    rcases List.mem_cons.1 hy with rfl | hy
    · simp
    · exact List.mem_cons_of_mem _ (hs y hy), h.r, h.low, fun e => h.apart (hs _ e)⟩
/-- Two disks at one state, since a world. -/
structure QS (B : Nat) (L : List Nat) (w : World) (p q N : Nat) (m : M) (W : World) : Prop where
  pair : Pair B L W p q N m
  since : Below w.heap.size w W
theorem QS.next {w : World} (h : QS B L w p q N m W) (k : Below W.heap.size W W') : QS B L w p q N m W' := ⟨Pair.below h.pair k, h.since.trans (k.mono h.since.size)⟩
theorem QS.drew {w : World} (h : QS B L w p q N m W) : QS B L w p q N m W.drew := h.next ((Below.refl _ _).drew)
/-- A slice of numbers that reads. -/
def FR (A : Option Addr) (l : List Nat) (W : World) : Prop := Reads W W.heap.size 1 A l.length (nums l)
theorem FR.below {A : Option Addr} {l : List Nat} (h : FR A l W) (k : Below W.heap.size W W') : FR A l W' := (Kit.Reads.below h k).more k.size
variable {w : World}
theorem q_off (h : QS B L w p q N m W) {b : Bool} (hb : Hid (m.off = b)) : Calls Try.prog 15 #[.pointer (some ⟨p, 0, none⟩)] W fun e W' => e = .returned (.bool b) ∧ W = W' := by
  have := off_has h.pair.d
  rwa [hb.out] at this
theorem q_used (h : QS B L w p q N m W) {u : Int} (hu : Hid ((m.used : Int) = u)) : Calls Try.prog 16 #[.pointer (some ⟨p, 0, none⟩)] W fun e W' => e = .returned (.int .i64 u) ∧ QS B L w p q N m W' := by
  refine (used_has h.pair.d).mono ?_
  rintro e W' ⟨rfl, hb⟩
  rw [hu.out]
  exact ⟨rfl, h.next hb⟩
theorem q_rused (h : QS B L w p q N m W) {u : Int} (hu : Hid ((m.used : Int) = u)) : Calls Try.prog 17 #[.pointer (some ⟨q, 0, none⟩)] W fun e W' => e = .returned (.int .i64 u) ∧ QS B L w p q N m W' := by
  refine (rused_any h.pair.r h.pair.d.fine).mono ?_
  rintro e W' ⟨rfl, hb⟩
  rw [hu.out]
  exact ⟨rfl, h.next hb⟩
theorem q_free (h : QS B L w p q N m W) {u : Int} (hu : Hid ((m.room : Int) - (m.used : Int) = u)) : Calls Try.prog 18 #[.pointer (some ⟨p, 0, none⟩)] W fun e W' => e = .returned (.int .i64 u) ∧ QS B L w p q N m W' := by
  refine (free_has h.pair.d).mono ?_
  rintro e W' ⟨rfl, hb⟩
  rw [hu.out]
  exact ⟨rfl, h.next hb⟩
theorem q_made {v : Value} {l : List Nat} (hown : W'.ownsRow W.heap.size 3 1 v l.length (nums l)) : ∃ A c, v = .slice A l.length c ∧ FR A l W' := by
  obtain ⟨A, c, rfl, _, _, hr⟩ := own_form hown
  exact ⟨A, c, rfl, hr⟩
theorem q_files (h : QS B L w p q N m W) {n : Nat} (hn : Hid (m.files.length = n)) : Calls Try.prog 20 #[.pointer (some ⟨p, 0, none⟩)] W fun e W' => ∃ A c, e = .returned (.slice A n c) ∧ FR A m.files W' ∧ QS B L w p q N m W' ∧ Below W.heap.size W W' := by
  refine (files_has h.pair.d).mono ?_
  rintro e W' ⟨v, rfl, hown, hb⟩
  obtain ⟨A, c, rfl, hr⟩ := q_made hown
  rw [hn.out]
  exact ⟨A, c, rfl, hr, h.next hb, hb⟩
theorem q_rfiles (h : QS B L w p q N m W) {n : Nat} (hn : Hid (m.files.length = n)) : Calls Try.prog 21 #[.pointer (some ⟨q, 0, none⟩)] W fun e W' => ∃ A c, e = .returned (.slice A n c) ∧ FR A m.files W' ∧ QS B L w p q N m W' ∧ Below W.heap.size W W' := by
  refine (rfiles_any h.pair.r).mono ?_
  rintro e W' ⟨v, rfl, hown, hb⟩
  obtain ⟨A, c, rfl, hr⟩ := q_made hown
  rw [hn.out]
  exact ⟨A, c, rfl, hr, h.next hb, hb⟩
theorem q_ints (h : QS B L w p q N m W) {n : Nat} (hn : Hid (m.files.length = n)) {A1 A2 : Option Addr} (c1 c2 : Nat) (h1 : FR A1 m.files W) (h2 : FR A2 m.files W) : Calls Try.prog 19 #[.slice A1 n c1, .slice A2 n c2] W fun e W' => e = .returned (.bool true) ∧ QS B L w p q N m W' := by
  have hl : m.files.length ≤ 16 := filesTo_le m 16
  rw [← hn.out]
  refine (ints_same A1 A2 c1 c2 m.files W h1 h2 (by omega)).mono ?_
  rintro e W' ⟨rfl, hb⟩
  exact ⟨rfl, h.next hb⟩
theorem q_read (n : Int) (h : QS B L w p q N m W) (h0 : -9223372036854775808 ≤ n) (h1 : n ≤ 9223372036854775807) {s : ByteArray} {f : Int} (hs : Hid (str (m.read n).1 = s)) (hf : Hid ((m.read n).2 = f)) :
    Calls Try.prog 13 #[.pointer (some ⟨p, 0, none⟩), .int .i64 n] W fun e W' => e = .returned (.tuple #[.string s, .int .i64 f]) ∧ QS B L w p q N m W' := by
  refine (read_has n h.pair.d h0 h1).mono ?_
  intro e W' hg
  obtain ⟨rfl, hb⟩ := Got.lit hg hs hf
  exact ⟨rfl, h.next hb⟩
theorem q_rread (n : Int) (h : QS B L w p q N m W) {s : ByteArray} {f : Int} (hs : Hid (str (m.read n).1 = s)) (hf : Hid ((m.read n).2 = f)) :
    Calls Try.prog 14 #[.pointer (some ⟨q, 0, none⟩), .int .i64 n] W fun e W' => e = .returned (.tuple #[.string s, .int .i64 f]) ∧ QS B L w p q N m W' := by
  refine (rread_any n h.pair.r h.pair.d.fine).mono ?_
  intro e W' hg
  obtain ⟨rfl, hb⟩ := Got.lit hg hs hf
  exact ⟨rfl, h.next hb⟩
theorem QS.c50 (h : QS B L w p q N m W) {b : Bool} (hb : Hid (m.off = b)) : W.cell? ⟨q, 50, none⟩ = some (.bool b) := by rw [← hb.out]; exact h.pair.r.off
theorem QS.c48 (h : QS B L w p q N m W) {R : Nat} (hR : Hid (m.room = R)) : W.cell? ⟨q, 48, none⟩ = some (.int .i64 (R : Int)) := by rw [← hR.out]; exact h.pair.r.room
end

theorem runs_no (r : Int) (a : Option Addr) (n cap : Nat) (w : World) (hr : ¬ (0 ≤ r ∧ r ≤ 1048576)) :
    Calls Try.prog 3 #[.int .i64 r, .slice a n cap] w fun e w' => e = .returned (.bool true) ∧ Below w.heap.size w w' := by
  go_enter Try.func3, Try.ntmps3
  go_wp2_with fail
  refine (begun_true _).mono ?_
  rintro e w1 ⟨rfl, hb1⟩
  go_wp2_with fail
  refine (new_no r _ hr).mono ?_
  rintro e w2 ⟨rfl, rfl⟩
  go_wp2_with fail
  refine (rnew_no r _ hr).mono ?_
  rintro e w2 ⟨rfl, rfl⟩
  go_wp2
  go_ret
  exact ⟨rfl, hb1⟩

set_option maxRecDepth 100000 in
set_option maxHeartbeats 4000000 in
theorem runs_yes (r : Nat) (a : Option Addr) (n cap : Nat) (L : List Cl) (w : World) (hr : r ≤ 1048576) (h : Holds w a n L) (hn : n ≤ cap) (_hc : cap ≤ 9223372036854775807) :
    Calls Try.prog 3 #[.int .i64 (r : Int), .slice a n cap] w fun e w' => e = .returned (.bool true) ∧ Below w.heap.size w w' := by
  go_enter Try.func3, Try.ntmps3
  go_wp2_with fail
  refine (begun_true _).mono ?_
  rintro e w1 ⟨rfl, hb1⟩
  go_wp2_with fail
  refine (new_has (B := w.heap.size) r hr hb1.size).mono ?_
  rintro e w2 ⟨p0, rfl, hD0, hp0, hb2⟩
  go_wp2_with fail
  refine (rnew_yes r _ hr).mono ?_
  rintro e w3 ⟨q0, rfl, hq0, hR0, hb3⟩
  have hP0 : Pair w.heap.size [] w3 p0 q0 20 (M.new r) := ⟨(hD0.beside hb3 hq0 hR0.lt).more (by omega), hR0, Nat.le_trans hb1.size (Nat.le_trans hb2.size hq0), by simp⟩
  have hbw : Below w.heap.size w w3 := (hb1.trans (hb2.mono hb1.size)).trans (hb3.mono (Nat.le_trans hb1.size hb2.size))
  clear hD0 hR0 hb1 hb2 hb3 hq0 hp0
  go_wp2
  go_loopw [5, 7, 43] (fun d m i wr => ∃ (k p q : Nat) (M0 : M), k ≤ n ∧ k ≤ 200 ∧ i = .int .i64 (k : Int) ∧ d = .pointer (some ⟨p, 0, none⟩) ∧ m = .pointer (some ⟨q, 0, none⟩) ∧ Pair w.heap.size [] wr p q (k + 20) M0 ∧ Below w.heap.size w wr) (fun _ _ i _ => n - (intOf i).toNat)
  case atStart => exact ⟨0, p0, q0, _, by omega, by omega, rfl, rfl, rfl, hP0, hbw⟩
  case round =>
    obtain ⟨k, p, q, m, hk, hkk, rfl, rfl, rfl, hP, hbel⟩ := hrel
    by_cases hkn : k < n
    · obtain ⟨c, b, o, hck, rfl, hblt, ⟨c0, c1, c2, c3, c4⟩, hkn2⟩ := h.at_ hbel k hkn
      have hsz := hbel.size
      have hbr : b < wr.heap.size := by omega
      have hn0 := hkn2.n0
      have hn1 := hkn2.n1
      have hss := hkn2.s1
      by_cases h200 : k = 200
      · subst h200
        go_wp2
        go_ret
        exact ⟨rfl, hbel.alloc hsz _⟩
      · have hk2 : ((k : Int) == 200) = false := by simp; omega
        by_cases hbig : 10000 < c.s.size
        · have hbI : (10000 : Int) < (c.s.size : Int) := by omega
          go_wp2
          go_ret
          exact ⟨rfl, hbel.alloc hsz _⟩
        · have hbal : Below wr.heap.size wr (wr.alloc (.cells c.cells 33)) := (Below.refl _ _).alloc (Nat.le_refl _) _
          have hcb0 := heap_alloc_new wr (.cells c.cells 33)
          have hP4 : Pair w.heap.size [wr.heap.size] (wr.alloc (.cells c.cells 33)) p q (k + 20) m := Pair.beside hP hbal (Nat.le_refl _) (by simp)
          have hli := hkn2.lies (hbel.trans (hbal.mono hsz)) (by omega)
          have hB := hbel.trans (hbal.mono hsz)
          have hBs := hB.size
          obtain ⟨m', hm'⟩ : ∃ m', (M.call m c).2 = m' := ⟨_, rfl⟩
          have hboth := both_any hP4 hli (show k + 20 < 1000000 by omega) (by omega)
          rw [hm'] at hboth
          have HBO := Lib.hid hboth
          obtain ⟨T, hT⟩ : ∃ T, str (m'.read c.n).1 = T := ⟨_, rfl⟩
          obtain ⟨f, hf⟩ : ∃ f, (m'.read c.n).2 = f := ⟨_, rfl⟩
          obtain ⟨ob, hob⟩ : ∃ ob, m'.off = ob := ⟨_, rfl⟩
          obtain ⟨U, hU⟩ : ∃ U, m'.used = U := ⟨_, rfl⟩
          obtain ⟨R, hR⟩ : ∃ R, m'.room = R := ⟨_, rfl⟩
          obtain ⟨fl, hfl⟩ : ∃ fl, m'.files.length = fl := ⟨_, rfl⟩
          have hUI : (m'.used : Int) = (U : Int) := by rw [hU]
          have hFI : (m'.room : Int) - (m'.used : Int) = (R : Int) - (U : Int) := by rw [hU, hR]
          have HT := Lib.hid hT
          have HF := Lib.hid hf
          have HO := Lib.hid hob
          have HU := Lib.hid hUI
          have HR := Lib.hid hR
          have HFI := Lib.hid hFI
          have HFL := Lib.hid hfl
          have hTT : (T.toList != T.toList) = false := by simp
          have HUR := Lib.hid (And.intro hU hR)
          clear hm' hboth hT hf hob hU hUI hR hFI hfl hP
          go_wp2_with fail
          refine HBO.out.mono ?_
          rintro e w5 ⟨p', q', rfl, hP5, k5⟩
          have hb5 : Below w.heap.size w w5 := hB.trans (k5.below (Nat.le_trans hsz hbal.size))
          have hcb5 := k5.heap hcb0 (.inr (by simp))
          have hQ5 : QS w.heap.size [wr.heap.size] w5 p' q' (k + 20 + 1) m' w5 := ⟨hP5, Below.refl _ _⟩
          have hRm : R ≤ 1048576 ∧ U ≤ R := by
            have g := hP5.d.fine
            have h1 := g.room
            have h2 := g.used
            rw [HUR.out.2] at h1 h2
            rw [HUR.out.1] at h2
            exact ⟨h1, h2⟩
          have hw1 : IntKind.i64.wrap ((R : Int) - (U : Int)) = (R : Int) - (U : Int) := IntWalk.i64_in _ (by omega)
          have hcn : w5.cell? ⟨wr.heap.size, 1, none⟩ = some (.int .i64 c.n) := by rw [cell_at hcb5]; rfl
          have hlt5 := lt_at hcb5
          clear hcb5 k5 hP5
          go_wp2_with fail
          refine (q_read c.n hQ5 hn0 hn1 HT HF).mono ?_
          rintro e w6 ⟨rfl, hQ6⟩
          have hcn6 := (hQ6.since.cell (p := ⟨wr.heap.size, 1, none⟩) hlt5).trans hcn
          go_wp2_with fail
          refine (q_rread c.n hQ6 HT HF).mono ?_
          rintro e w7 ⟨rfl, hQ7⟩
          have hQ8 := hQ7.drew
          go_wp2_with fail
          go_region_held3 (fun w' => w'.cell? ⟨q', 50, none⟩ = some (.bool ob) ∧ w'.cell? ⟨q', 48, none⟩ = some (.int .i64 (R : Int)))
            (first
              | exact ⟨QS.c50 (by assumption) HO, QS.c48 (by assumption) HR⟩)
            (first
              | (go_at_call 15
                 refine (q_off (by assumption) HO).mono ?_
                 rintro e wA ⟨rfl, rfl⟩)
              | (go_at_call 16
                 refine (q_used (by assumption) HU).mono ?_
                 rintro e wA ⟨rfl, hQA⟩)
              | (go_at_call 17
                 refine (q_rused (by assumption) HU).mono ?_
                 rintro e wA ⟨rfl, hQA⟩)
              | (go_at_call 18
                 refine (q_free (by assumption) HFI).mono ?_
                 rintro e wA ⟨rfl, hQA⟩)
              | (go_at_call 20
                 refine (q_files (by assumption) HFL).mono ?_
                 rintro e wA ⟨A1, c1, rfl, hR1, hQA, hb1⟩)
              | (go_at_call 21
                 refine (q_rfiles (by assumption) HFL).mono ?_
                 rintro e wA ⟨A2, c2, rfl, hR2, hQA, hb2⟩)
              | (go_at_call 19
                 refine (q_ints (by assumption) HFL _ _ (by first | exact hR1 | exact FR.below hR1 hb2) (by first | exact hR2 | exact FR.below hR2 hb1)).mono ?_
                 rintro e wA ⟨rfl, hQA⟩))
          all_goals go_wp2
          all_goals
            have hPF := Pair.fewer hQA.pair (L' := []) (by simp)
            rw [show k + 20 + 1 = k + 1 + 20 by omega] at hPF
            have hBF := hb5.trans (hQA.since.mono hb5.size)
            go_roundw
            case rel => exact ⟨k + 1, p', q', m', by omega, by omega, by go_num, rfl, rfl, hPF, hBF⟩
            case measure => simp [intOf]; omega
    · obtain rfl : k = n := by omega
      go_wp2
      go_ret
      exact ⟨rfl, hbel⟩
theorem runs_walk (r : Int) (a : Option Addr) (n cap : Nat) (L : List Cl) (w : World) (_hr : (Lit.int .i64 r).wf = true) (h : Holds w a n L) (hn : n ≤ cap) (hc : cap ≤ 9223372036854775807) :
    Calls Try.prog 3 #[.int .i64 r, .slice a n cap] w fun e w' => e = .returned (.bool true) ∧ Below w.heap.size w w' := by
  by_cases hr : 0 ≤ r ∧ r ≤ 1048576
  · have := runs_yes r.toNat a n cap L w (by omega) h hn hc
    rwa [show ((r.toNat : Nat) : Int) = r by omega] at this
  · exact runs_no r a n cap w hr
end Go.Proofs.Ytgfignagaemfeaa.LawC
