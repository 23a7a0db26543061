/- The statement MachineMany of tontinelaw17: for every input the call returns true, and each argument reads afterwards as it read before. -/
import Derived.Test.YthaepkpmpnofgaaHListP
import Derived.Test.YthaepkpmpnofgaaGW
import Derived.Deep.RegionHeld3
import Derived.Test.YthaepkpmpnofgaaHOpens
import Derived.Test.YthaepkpmpnofgaaFrame
set_option linter.unusedVariables false
set_option linter.unusedSimpArgs false
namespace Go.Proofs.Ythaepkpmpnofgaa.Alone
open Go.RowKit Go.Proofs.Ythaepkpmpnofgaa.Kit Go.Proofs.Ythaepkpmpnofgaa.Blocks Go.Proofs.Ythaepkpmpnofgaa.Ses Go.Proofs.Ythaepkpmpnofgaa.Rws Go.Proofs.Ythaepkpmpnofgaa.Boxs Go.Proofs.Ythaepkpmpnofgaa.Mch Go.Proofs.Ythaepkpmpnofgaa.SsnWalkA Go.Proofs.Ythaepkpmpnofgaa.MatP
open Go.Proofs.Ythaepkpmpnofgaa.MatD (Hs ics)
open Go.Proofs.Ythaepkpmpnofgaa.Cmd (Cm cmB encS encZ mayB encS_may encZ_may yes dec yes_go)
open Go.Proofs.Ythaepkpmpnofgaa.CmdAt (CAt cmV)
open Go.Proofs.Ythaepkpmpnofgaa.Stq (Sp spCs sp_new RS)
open Go.Proofs.Ythaepkpmpnofgaa.PckWalkH (str str_size)
open Go.Proofs.Ythaepkpmpnofgaa.State (cell_at free_at lt_at)

section
variable {w W W' : World} {p : Nat} {m : Mc}
/-! ### The program's machine alone -/
theorem tat_le {B B' : Nat} {T : Shape} {E : TypeId} {w : World} {p : Nat} {v : Value} {m : Tb} (h : TAt B T E w p v m) (hB : B' ≤ B) : TAt B' T E w p v m := ⟨Nat.le_trans hB h.low, h.cell, own_base h.own hB, h.np⟩
theorem mp_le {B B' : Nat} {w : World} {p pt q : Nat} {vR : Value} {m : Mc} {ks : List (Nat × Hs)} (h : MP B w p pt q vR m ks) (hB : B' ≤ B) : MP B' w p pt q vR m ks :=
  ⟨Nat.le_trans hB h.lp, Nat.le_trans hB h.lq, h.blk, tat_le h.tb hB, h.said, h.sm, h.npq, h.npt, h.nqt, h.steps⟩
def Al (w W : World) (p : Nat) (m : Mc) : Prop := ∃ pt q vR ks, MP w.heap.size W p pt q vR m ks ∧ Below w.heap.size w W
theorem Al.bel (h : Al w W p m) : Below w.heap.size w W := by obtain ⟨_, _, _, _, _, h⟩ := h; exact h
theorem Al.below (h : Al w W p m) (k : Below W.heap.size W W') : Al w W' p m := by
  obtain ⟨pt, q, vR, ks, h1, h2⟩ := h
  exact ⟨pt, q, vR, ks, h1.below k, h2.trans (k.mono h2.size)⟩
theorem Al.ap (h : Al w W p m) (hf : Fit m) (s : ByteArray) (hs : s.size ≤ 9223372036854775807) {y : Ry} (hy : (ap m s).2 = y) :
    Calls Try.prog 8 #[.pointer (some ⟨p, 0, none⟩), .string s] W fun e W' => e = .returned (.agg #[.int .i64 y.err, .int .u64 (y.num : Int), .int .u64 (y.ext : Int)]) ∧ Al w W' p (ap m s).1 := by
  subst hy
  obtain ⟨pt, q, vR, ks, h1, h2⟩ := h
  refine (ApplyQ.pap_any h1 hf s hs).mono fun e W' k => ⟨k.1, ?_⟩
  have hb := leftP_below h1 k.2
  obtain ⟨vR', ks', k1, _⟩ := k.2
  exact ⟨pt, q, vR', ks', k1, h2.trans hb⟩
theorem Al.sagas (h : Al w W p m) (hf : Fit m) : Calls Try.prog 12 #[.pointer (some ⟨p, 0, none⟩)] W fun e W' => ∃ A c, e = .returned (.slice A m.l.length c) ∧ Reads W' W'.heap.size 1 A m.l.length (ics m.l) ∧ Below W.heap.size W W' := by
  obtain ⟨pt, q, vR, ks, h1, h2⟩ := h
  exact (ListP.psagas_any h1 hf).mono fun e W' ⟨A, c, k1, k2, k3, _⟩ => ⟨A, c, k1, k2, k3⟩
theorem al_new (w : World) (hb : Below w.heap.size w W) : Calls Try.prog 7 #[] W fun e W' => ∃ p, e = .returned (.pointer (some ⟨p, 0, none⟩)) ∧ Al w W' p mc0 := by
  refine (KeepP.pnew_any W).mono ?_
  rintro e W' ⟨p, pt, q, vR, rfl, h1, h2⟩
  exact ⟨p, rfl, pt, q, vR, [], mp_le h1 hb.size, hb.trans (h2.mono hb.size)⟩
end

/-! ### What a command makes, its bytes given -/
theorem ap_cm {k : Cm} (f : Cmd.Fin k) (h : mayB k = true) (m : Mc) : ap m (str (cmB k)) = apC m k := by
  obtain ⟨h1, h2⟩ := yes_go f h
  unfold ap
  rw [if_pos h1, h2]
def regC : Cm := ⟨1, 0, 0, 0, [], 0, false, 0, false, 0⟩
def one : Sp := ⟨0, ⟨#[115]⟩, 1⟩
def subC (ss sq sg : Nat) : Cm := ⟨2, ss, sq, sg, [one], 0, false, 0, false, 0⟩
theorem reg_fin : Cmd.Fin regC := ⟨by decide, by decide, by decide, by decide⟩
theorem reg_may : mayB regC = true := by decide
theorem sub_may {ss sq sg : Nat} : mayB (subC ss sq sg) = true := by
  unfold subC
  kernel_rfl
theorem sub_fin {ss sq sg : Nat} (h1 : U ss) (h2 : U sq) (h3 : U sg) : Cmd.Fin (subC ss sq sg) := ⟨h1, h2, h3, by show (0 : Nat) < 18446744073709551616; decide⟩
def m1 : Mc := ⟨⟨0, 2, [⟨1, 0, 0, y0⟩]⟩, []⟩
theorem ap_one : apC mc0 regC = (m1, ⟨0, 1, 0⟩) := by rfl
def m2 : Mc := ⟨⟨0, 2, [⟨1, 0, 1, ⟨0, 1, 0⟩⟩]⟩, [(7, ⟨[one], 1, 0, 0⟩)]⟩
theorem ap_two : apC m1 (subC 1 1 7) = (m2, ⟨0, 1, 0⟩) := by rfl
theorem ap_three : apC m2 (subC 1 1 7) = (m2, ⟨0, 1, 0⟩) := by rfl
end Go.Proofs.Ythaepkpmpnofgaa.Alone
set_option linter.unusedVariables false
set_option linter.unusedSimpArgs false
namespace Go.Proofs.Ythaepkpmpnofgaa.Beg
open Go.RowKit Go.Proofs.Ythaepkpmpnofgaa.Kit Go.Proofs.Ythaepkpmpnofgaa.Blocks Go.Proofs.Ythaepkpmpnofgaa.Ses Go.Proofs.Ythaepkpmpnofgaa.Rws Go.Proofs.Ythaepkpmpnofgaa.Boxs Go.Proofs.Ythaepkpmpnofgaa.Mch Go.Proofs.Ythaepkpmpnofgaa.SsnWalkA Go.Proofs.Ythaepkpmpnofgaa.MatP Go.Proofs.Ythaepkpmpnofgaa.Alone
open Go.Proofs.Ythaepkpmpnofgaa.MatD (Hs ics)
open Go.Proofs.Ythaepkpmpnofgaa.Cmd (Cm cmB encS encZ mayB encS_may encZ_may yes dec yes_go)
open Go.Proofs.Ythaepkpmpnofgaa.CmdAt (CAt cmV)
open Go.Proofs.Ythaepkpmpnofgaa.Stq (Sp spCs sp_new RS)
open Go.Proofs.Ythaepkpmpnofgaa.PckWalkH (str str_size)

theorem one_def : Pln.isDef [one] = true := by kernel_rfl
theorem reg_at (w : World) : CAt w none 0 regC := ⟨RS.nil _ _ _, by decide, (fun e h => by cases h), reg_fin⟩
theorem cm_size {k : Cm} (f : Cmd.Fin k) (h : mayB k = true) (hl : k.k = 2 → Pln.isDef k.l = true) : (str (cmB k)).size ≤ 9223372036854775807 := by
  rw [str_size]
  have h1 := Rdr.num9 (Pln.u64_lt k.k)
  have h2 := Rdr.num9 f.ss
  have h3 := Rdr.num9 f.sq
  have h4 := Rdr.num9 f.sg
  have h5 := Rdr.num9 f.nw
  have h6 : (Cmd.tailB k).length ≤ 11000 := by
    unfold Cmd.tailB
    split
    · rename_i e
      have := Pln.planB_le (hl e)
      omega
    · split
      · have g1 := Rdr.num9 (Pln.u64_lt k.st)
        have g2 := Rdr.num9 (Pln.u64_lt k.tr)
        have g3 : (Num.num (PckWalkB.bit k.bk)).length ≤ 9 := Rdr.num9 (by cases k.bk <;> decide)
        have g4 : (Num.num (PckWalkB.bit k.ok)).length ≤ 9 := Rdr.num9 (by cases k.ok <;> decide)
        simp only [List.length_append]
        omega
      · decide
  unfold Cmd.cmB
  simp only [List.length_append]
  omega
/-- A command with one step is encoded. -/
theorem enc_one {w : World} {A : Option Addr} {n c : Nat} {k : Cm} (h : CAt w A n k) (hm : mayB k = true) {S : ByteArray} (hS : str (cmB k) = S) :
    Calls Try.prog 11 #[cmV A n c k] w fun e w' => e = .returned (.tuple #[.string S, .int .i64 0]) ∧ Below w.heap.size w w' := by
  have := CmnWalkC.renc_any c h
  rw [encS_may hm, encZ_may hm, hS] at this
  exact this
theorem one_at {w : World} (b : Nat) {w1 : World} (hw : w.alloc (.cells #[.int .i64 0, .string ⟨#[115]⟩, .int .i64 1] 44) = w1) {ss sq sg : Nat} (f : Cmd.Fin (subC ss sq sg)) : CAt w1 (some ⟨w.heap.size, 0, none⟩) 1 (subC ss sq sg) := by
  have h : RS (w.alloc (.cells (spCs one).toArray 44)) (w.heap.size + 1) (some ⟨w.heap.size, 0, none⟩) 1 [one] := sp_new w one 44
  have hs : w.heap.size + 1 = w1.heap.size := by rw [← hw]; simp
  have hw' : w.alloc (.cells (spCs one).toArray 44) = w1 := hw
  rw [hw', hs] at h
  refine ⟨h, by decide, fun e he => ?_, f⟩
  have : e = one := by simpa [subC] using he
  subst this
  decide
set_option maxRecDepth 100000 in
set_option maxHeartbeats 4000000 in
theorem begun_true (w : World) : Calls Try.prog 5 #[] w fun e w' => e = .returned (.bool true) ∧ Below w.heap.size w w' := by
  have HNEW := Lib.hid (al_new w (Below.refl w.heap.size w))
  obtain ⟨S1, hS1⟩ : ∃ S, str (cmB regC) = S := ⟨_, rfl⟩
  obtain ⟨S2, hS2⟩ : ∃ S, str (cmB (subC 1 1 7)) = S := ⟨_, rfl⟩
  have sf := sub_fin (ss := 1) (sq := 1) (sg := 7) (by decide) (by decide) (by decide)
  have z1 : S1.size ≤ 9223372036854775807 := by rw [← hS1]; exact cm_size reg_fin reg_may (fun e => by cases e)
  have z2 : S2.size ≤ 9223372036854775807 := by rw [← hS2]; exact cm_size sf sub_may (fun _ => one_def)
  have a1 : ap mc0 S1 = (m1, ⟨0, 1, 0⟩) := by rw [← hS1, ap_cm reg_fin reg_may, ap_one]
  have a2 : ap m1 S2 = (m2, ⟨0, 1, 0⟩) := by rw [← hS2, ap_cm sf sub_may, ap_two]
  have a3 : ap m2 S2 = (m2, ⟨0, 1, 0⟩) := by rw [← hS2, ap_cm sf sub_may, ap_three]
  have f0 := fit0
  have f1 : Fit m1 := by have := (ap_fit f0 S1).1; rw [a1] at this; exact this
  have f2 : Fit m2 := by have := (ap_fit f1 S2).1; rw [a2] at this; exact this
  have HE1 : Hid (∀ W : World, Calls Try.prog 11 #[.agg #[.int .i64 1, .int .u64 0, .int .u64 0, .int .u64 0, .slice none 0 0, .int .i64 0, .bool false, .int .i64 0, .bool false, .int .u64 0]] W fun e w' => e = .returned (.tuple #[.string S1, .int .i64 0]) ∧ Below W.heap.size W w') := fun W => enc_one (c := 0) (reg_at W) reg_may hS1
  have HE2 : Hid (∀ W W' : World, W.alloc (.cells #[.int .i64 0, .string ⟨#[115]⟩, .int .i64 1] 44) = W' → Calls Try.prog 11 #[.agg #[.int .i64 2, .int .u64 1, .int .u64 1, .int .u64 7, .slice (some ⟨W.heap.size, 0, none⟩) 1 1, .int .i64 0, .bool false, .int .i64 0, .bool false, .int .u64 0]] W' fun e w' => e = .returned (.tuple #[.string S2, .int .i64 0]) ∧ Below W'.heap.size W' w') := fun W W' hw => enc_one (c := 1) (one_at 0 hw sf) sub_may hS2
  have HA1 : Hid (∀ W p, Al w W p mc0 → Calls Try.prog 8 #[.pointer (some ⟨p, 0, none⟩), .string S1] W fun e W' => e = .returned (.agg #[.int .i64 0, .int .u64 1, .int .u64 0]) ∧ Al w W' p m1) := fun W p h => by
    have := h.ap f0 S1 z1 (y := ⟨0, 1, 0⟩) (by rw [a1])
    rw [a1] at this
    exact this
  have HA2 : Hid (∀ W p, Al w W p m1 → Calls Try.prog 8 #[.pointer (some ⟨p, 0, none⟩), .string S2] W fun e W' => e = .returned (.agg #[.int .i64 0, .int .u64 1, .int .u64 0]) ∧ Al w W' p m2) := fun W p h => by
    have := h.ap f1 S2 z2 (y := ⟨0, 1, 0⟩) (by rw [a2])
    rw [a2] at this
    exact this
  have HA3 : Hid (∀ W p, Al w W p m2 → Calls Try.prog 8 #[.pointer (some ⟨p, 0, none⟩), .string S2] W fun e W' => e = .returned (.agg #[.int .i64 0, .int .u64 1, .int .u64 0]) ∧ Al w W' p m2) := fun W p h => by
    have := h.ap f2 S2 z2 (y := ⟨0, 1, 0⟩) (by rw [a3])
    rw [a3] at this
    exact this
  have HSG : Hid (∀ W p, Al w W p m2 → Calls Try.prog 12 #[.pointer (some ⟨p, 0, none⟩)] W fun e W' => ∃ A c, e = .returned (.slice A 1 c) ∧ Below W.heap.size W W') := fun W p h => (h.sagas f2).mono fun e W' ⟨A, c, k1, k2, k3⟩ => ⟨A, c, k1, k3⟩
  clear hS1 hS2 sf z1 z2 a1 a2 a3 f0 f1 f2
  go_enter Try.func5, Try.ntmps5
  go_wp2_with fail
  go_at_call 7
  refine HNEW.out.mono ?_
  rintro e w1 ⟨p, rfl, hal⟩
  have HAL := Lib.hid hal
  clear hal
  go_wp2_with fail
  go_at_call 11
  refine (HE1.out _).mono ?_
  rintro e w2 ⟨rfl, hb2⟩
  have HAL2 := Lib.hid (HAL.out.below hb2)
  clear hb2
  obtain ⟨w3, hw3⟩ : ∃ w3, w2.alloc (.cells #[.int .i64 0, .string ⟨#[115]⟩, .int .i64 1] 44) = w3 := ⟨_, rfl⟩
  have HW3 := Lib.hid hw3
  have HAL3 : Hid (Al w w3 p mc0) := by rw [← hw3]; exact HAL2.out.below ((Below.refl _ _).alloc (Nat.le_refl _) _)
  clear hw3
  go_wp2_with fail
  go_at_call 11
  rw [HW3.out]
  refine (HE2.out w2 w3 HW3.out).mono ?_
  rintro e w4 ⟨rfl, hb4⟩
  have HAL4 := Lib.hid (HAL3.out.below hb4)
  clear hb4
  go_wp2_with fail
  go_at_call 8
  refine (HA1.out _ _ HAL4.out).mono ?_
  rintro e w5 ⟨rfl, hal5⟩
  have HAL5 := Lib.hid hal5
  clear hal5
  go_wp2_with fail
  go_at_call 8
  refine (HA2.out _ _ HAL5.out).mono ?_
  rintro e w6 ⟨rfl, hal6⟩
  have HAL6 := Lib.hid hal6
  clear hal6
  go_wp2_with fail
  go_at_call 8
  refine (HA3.out _ _ HAL6.out).mono ?_
  rintro e w7 ⟨rfl, hal7⟩
  have hb8 : ∀ o1 o2 o3, Below w7.heap.size w7 (((w7.alloc o1).alloc o2).alloc o3) := fun o1 o2 o3 => (((Below.refl w7.heap.size w7).alloc (Nat.le_refl _) o1).alloc (by simp) o2).alloc (by simp; omega) o3
  have HAL7 := Lib.hid (fun o1 o2 o3 => hal7.below (hb8 o1 o2 o3))
  clear hal7 hb8
  go_wp2_with fail
  go_at_call 12
  refine (HSG.out _ _ (HAL7.out _ _ _)).mono ?_
  rintro e w8 ⟨A, c, rfl, hb8⟩
  have hb9 := ((HAL7.out _ _ _).below hb8).bel
  have HB := Lib.hid hb9
  clear hb8 hb9 HAL7
  go_wp2
  go_ret
  exact ⟨rfl, HB.out⟩
end Go.Proofs.Ythaepkpmpnofgaa.Beg
set_option linter.unusedVariables false
set_option linter.unusedSimpArgs false
namespace Go.Proofs.Ythaepkpmpnofgaa.Lgt
open Go.RowKit Go.Proofs.Ythaepkpmpnofgaa.Kit Go.Proofs.Ythaepkpmpnofgaa.Blocks

/-- Texts, at A. -/
abbrev Txs (w : World) (B : Nat) (A : Option Addr) (L : List ByteArray) : Prop := Reads w B 1 A L.length (L.map Value.string)
theorem txs_at {w : World} {B : Nat} {A : Option Addr} {L : List ByteArray} (h : Txs w B A L) {k : Nat} (hk : k < L.length) : ∃ b o x, A = some ⟨b, o, none⟩ ∧ b < B ∧ L[k]? = some x ∧ w.cell? ⟨b, o + k, none⟩ = some (.string x) := by
  obtain ⟨ad, u, rfl, h1, h2, h3⟩ := Reads.at_ h hk
  have hs := Reads.spot h (by omega)
  rw [List.getElem?_map, List.getElem?_eq_getElem hk] at h2
  simp only [Option.map_some, Option.some.injEq] at h2
  subst h2
  refine ⟨ad.block, ad.off, L[k], by rw [← hs], h1, List.getElem?_eq_getElem hk, ?_⟩
  rw [hs, Addr.add_lit] at h3
  exact h3
/-- What came in: texts, how many, how long each. -/
structure Came (w : World) (A : Option Addr) (c : Nat) (L : List ByteArray) : Prop where
  txs : Txs w w.heap.size A L
  fits : L.length ≤ c
  max : c ≤ 9223372036854775807
  each : ∀ s ∈ L, s.size ≤ 9223372036854775807
set_option maxRecDepth 100000 in
set_option maxHeartbeats 4000000 in
theorem light_any {w W : World} {A : Option Addr} {c : Nat} {L : List ByteArray} (h : Came w A c L) (hb : Below w.heap.size w W) :
    Calls Try.prog 6 #[.slice A L.length c] W fun e W' => ∃ b, e = .returned (.bool b) ∧ Below W.heap.size W W' := by
  have hT := h.txs.below hb
  have hmax := Nat.le_trans h.fits h.max
  have heach := Lib.hid h.each
  have hsz := hb.size
  obtain ⟨n, hn⟩ : ∃ n, L.length = n := ⟨_, rfl⟩
  have HN := Lib.hid hn
  have HT := Lib.hid hT
  rw [hn] at hmax ⊢
  clear h hT hb hn
  go_enter Try.func6, Try.ntmps6
  go_wp2
  go_loopw [3, 10] (fun v x wr => ∃ (j : Nat) (y : Int), j ≤ n ∧ v = .int .i64 y ∧ x = .int .i64 (j : Int) ∧ Hid (Below W.heap.size W wr)) (fun _ x _ => n - (intOf x).toNat)
  case atStart => exact ⟨0, _, by omega, rfl, rfl, Below.refl _ _⟩
  case round =>
    obtain ⟨j, y, hj, rfl, rfl, hB⟩ := hrel
    by_cases hjn : j < n
    · obtain ⟨b, o, s, rfl, hlt, hs, hc⟩ := txs_at (HT.out.below (hB.out.mono hsz)) (k := j) (by rw [HN.out]; exact hjn)
      have hsl : s.size ≤ 9223372036854775807 := heach.out s (List.mem_of_getElem? hs)
      have HJ := Lib.hid hjn
      clear hs
      go_wp2
      refine ⟨⟨j + 1, _, HJ.out, rfl, by go_num, hB⟩, by have := HJ.out; simp [intOf]; omega⟩
    · obtain rfl : j = n := by omega
      go_wp2
      go_ret
      exact ⟨_, rfl, hB.out⟩
end Go.Proofs.Ythaepkpmpnofgaa.Lgt
set_option linter.unusedVariables false
set_option linter.unusedSimpArgs false
namespace Go.Proofs.Ythaepkpmpnofgaa.Mny
open Go.RowKit Go.Proofs.Ythaepkpmpnofgaa.Kit Go.Proofs.Ythaepkpmpnofgaa.Blocks Go.Proofs.Ythaepkpmpnofgaa.Ses Go.Proofs.Ythaepkpmpnofgaa.Rws Go.Proofs.Ythaepkpmpnofgaa.Boxs Go.Proofs.Ythaepkpmpnofgaa.Mch Go.Proofs.Ythaepkpmpnofgaa.SsnWalkA Go.Proofs.Ythaepkpmpnofgaa.MatP Go.Proofs.Ythaepkpmpnofgaa.Alone
open Go.Proofs.Ythaepkpmpnofgaa.MatD (Hs ics)
open Go.Proofs.Ythaepkpmpnofgaa.Sag (Sg Snd)

/-! ### What each submit makes -/
def mm (j : Nat) (y : Ry) (l : List (Nat × Sg)) : Mc := ⟨⟨0, 2, [⟨1, 0, j, y⟩]⟩, l⟩
theorem mm_step (j : Nat) (hj : j ≤ 1000) (y : Ry) (l : List (Nat × Sg)) (id : Nat) :
    apC (mm j y l) (subC 1 (j + 1) id) = (mm (j + 1) (does l (subC 1 (j + 1) id)).2 (does l (subC 1 (j + 1) id)).1, (does l (subC 1 (j + 1) id)).2) := by
  have h1 : begF (clock (mm j y l).t 0) 1 (j + 1) = true := by
    simp [mm, clock, begF, seek, isNext]
  unfold apC
  rw [if_neg (show ¬ (subC 1 (j + 1) id).k = 1 from by show ¬ (2 : Int) = 1; decide), if_neg (show ¬ (subC 1 (j + 1) id).k = 4 from by show ¬ (2 : Int) = 4; decide)]
  show (if begF (clock (mm j y l).t 0) 1 (j + 1) = true then _ else _) = _
  rw [if_pos h1]
  simp [mm, clock, begT, endT, seek, isNext, usedRow, endRow, subC]
/-- What was seen, as the sagas say. -/
theorem does_said (l : List (Nat × Sg)) (s id : Nat) (hu : ∀ i, seekS l id = some i → i < l.length) :
    does l (subC 1 s id) = (match seekS l id with | some _ => (l, yE 42) | none => if 16 ≤ l.length then (l, yE 11) else (putS l id (first (subC 1 s id)), ⟨0, 1, 0⟩)) := by
  unfold does
  show (match seekS l id with | none => _ | some i => _) = _
  cases h : seekS l id with
  | none =>
    simp only
    rw [if_pos (show (subC 1 s id).k = 2 from rfl)]
    rfl
  | some i =>
    have := hu i h
    simp only
    rw [List.getElem?_eq_getElem this]
    simp only
    rw [if_pos (show (subC 1 s id).k = 2 from rfl)]
theorem seekS_put {l : List (Nat × Sg)} {id : Nat} (s : Sg) (h : seekS l id = none) (i : Nat) : (seekS (putS l id s) i).isSome = (decide (i = id) || (seekS l i).isSome) := by
  induction l with
  | nil =>
    simp only [putS, seekS]
    by_cases hi : id = i
    · rw [if_pos hi]; simp [hi]
    · rw [if_neg hi]; simp; exact fun e => hi e.symm
  | cons x l ih =>
    unfold seekS at h
    split at h
    · cases h
    · rename_i h0
      have h1 : seekS l id = none := by simpa using h
      unfold putS
      split
      · rw [seekS, seekS]
        by_cases hi : x.1 = i
        · simp [hi]
        · rw [if_neg hi, if_neg hi]
          have := ih h1
          simpa using this
      · rw [seekS]
        by_cases hi : id = i
        · rw [if_pos hi]; simp [hi]
        · rw [if_neg hi]; simp; exact fun e => absurd e.symm hi

/-! ### The map of what was seen -/
def SeenAt (w : World) (q : Nat) (l : List (Nat × Sg)) : Prop :=
  ∃ D : DataW Value, w.ownsMap Try.prog 28 asIs q l.length D ∧ Maps.size D = l.length ∧ ∀ i : Nat, U i → ∀ z, D.atKey (lu i) z = (match seekS l i with | some _ => .held (.int .i64 1) | none => z)
section
variable {w w' W W' : World} {q p : Nat} {l : List (Nat × Sg)} {m : Mc}
theorem SeenAt.lt (h : SeenAt w q l) : q < w.heap.size := by obtain ⟨D, h1, _⟩ := h; exact h1.lt
theorem SeenAt.keep (h : SeenAt w q l) (hb : w'.heap[q]? = w.heap[q]?) : SeenAt w' q l := by
  obtain ⟨D, ⟨es, clock, h1, h2⟩, h3⟩ := h
  exact ⟨D, ⟨es, clock, hb.trans h1, h2⟩, h3⟩
theorem seen_new (w : World) : SeenAt (w.alloc (.map #[] 0)) w.heap.size [] := ⟨.map [], World.ownsMap_made w _ _ _, rfl, fun i _ z => rfl⟩
theorem SeenAt.has {D : DataW Value} (hat : ∀ i : Nat, U i → ∀ z, D.atKey (lu i) z = (match seekS l i with | some _ => .held (.int .i64 1) | none => z)) {i : Nat} (hi : U i) : Maps.has D (lu i) = (seekS l i).isSome := by
  cases hl : seekS l i with
  | none => exact Maps.has_false_of_atKey fun z => by rw [hat i hi, hl]
  | some e => exact Maps.has_true_of_atKey (y := .held (.int .i64 1)) fun z => by rw [hat i hi, hl]
theorem SeenAt.look (h : SeenAt w q l) {id : Nat} (hu : U id) : (Instr.lookup 42 (.map (some q)) (.int .u64 (id : Int)) false).run Try.prog w = .ok (.int .i64 (match seekS l id with | some _ => 1 | none => 0)) w := by
  obtain ⟨D, h1, h2, hat⟩ := h
  have hz : (zeroValue 3).run Try.prog w = .ok (.int .i64 0) w := Try.zeroValue3 w
  obtain ⟨v, ps, hrun, hv⟩ := h1.lookup num_keyed Try.underlying42 hz (zd := .held (.int .i64 0)) (zp := []) rfl (key_num hu)
  rw [hrun]
  have hh := hat id hu (.held (.int .i64 0))
  simp only [asIs, Option.some.injEq, Prod.mk.injEq] at hv
  rw [hh] at hv
  cases hl : seekS l id with
  | none => rw [hl] at hv; simp only [DataW.held.injEq] at hv; rw [hv.1]
  | some e => rw [hl] at hv; simp only [DataW.held.injEq] at hv; rw [hv.1]
theorem SeenAt.len (h : SeenAt w q l) (ty : TypeId) : (Builtin.len_ #[42] ty #[.map (some q)]).run Try.prog w = .ok (.int .i64 (l.length : Int)) w := by
  obtain ⟨D, h1, h2, _⟩ := h
  rw [h1.len Try.underlying42 ty, h2]
theorem SeenAt.store (h : SeenAt w q l) (h16 : l.length ≤ 1000) {id : Nat} (hu : U id) (s : Sg) (hn : seekS l id = none) :
    ∃ w', (Instr.mapUpdate 42 (.map (some q)) (.int .u64 (id : Int)) (.int .i64 1)).run Try.prog w = .ok () w' ∧ SeenAt w' q (putS l id s) ∧ Only (fun g => g = q) w w' := by
  obtain ⟨D, h1, h2, hat⟩ := h
  have hT := h1.tidy num_keyed
  obtain ⟨w', hrun, h3, h4⟩ := h1.store num_keyed Try.underlying42 (by unfold maxLen; omega) (key_num hu) (show asIs (.int .i64 1) = some (.held (.int .i64 1), []) from rfl)
  have hsz : Maps.size (D.put (lu id) (.held (.int .i64 1))) = (putS l id s).length := by
    rw [Maps.size_put hT, SeenAt.has hat hu, h2, hn, putS_length]; rfl
  refine ⟨w', hrun, ⟨_, by rw [← hsz]; exact MatP.tight h3, hsz, fun i hi z => ?_⟩, (Only.refl _ w).grown h4.grown fun g hg => by cases hg; exact .inr rfl⟩
  have hs := seekS_put s hn i
  by_cases hid : i = id
  · subst hid
    rw [Maps.atKey_put_same h1.isMap (lu_key _)]
    cases hx : seekS (putS l i s) i with
    | none => rw [hx] at hs; simp at hs
    | some _ => rfl
  · rw [Maps.atKey_put_other (lu_ne hid), hat i hi]
    cases hx : seekS (putS l id s) i <;> cases hy : seekS l i <;> rw [hx, hy] at hs <;> simp [hid] at hs <;> rfl
/-! ### A block of the caller's beside the machine -/
def Aq (w W : World) (p : Nat) (m : Mc) (q : Nat) : Prop := ∃ pt pq vR ks, MP w.heap.size W p pt pq vR m ks ∧ Below w.heap.size w W ∧ w.heap.size ≤ q ∧ q < W.heap.size ∧ ¬ MatP.Own p pt pq vR q ∧ ¬ St ks q
theorem Aq.bel (h : Aq w W p m q) : Below w.heap.size w W := by obtain ⟨_, _, _, _, _, h, _⟩ := h; exact h
theorem Aq.ql (h : Aq w W p m q) : q < W.heap.size := by obtain ⟨_, _, _, _, _, _, _, h, _⟩ := h; exact h
theorem Aq.below (h : Aq w W p m q) (k : Below W.heap.size W W') : Aq w W' p m q ∧ W'.heap[q]? = W.heap[q]? := by
  obtain ⟨pt, pq, vR, ks, h1, h2, h3, h4, h5, h6⟩ := h
  exact ⟨⟨pt, pq, vR, ks, h1.below k, h2.trans (k.mono h2.size), h3, Nat.lt_of_lt_of_le h4 k.size, h5, h6⟩, k.block q h4⟩
theorem Aq.new (h : Al w W p m) (o : Obj) : Aq w (W.alloc o) p m W.heap.size := by
  obtain ⟨pt, pq, vR, ks, h1, h2⟩ := h
  have hb : Below W.heap.size W (W.alloc o) := (Below.refl _ _).alloc (Nat.le_refl _) o
  exact ⟨pt, pq, vR, ks, h1.below hb, h2.trans (hb.mono h2.size), h2.size, by simp, fun e => by have := (h1.own_lt e).2; omega, fun e => by have := h1.st_lt e; omega⟩
theorem Aq.put (h : Aq w W p m q) (o : Only (fun g => g = q) W W') : Aq w W' p m q := by
  obtain ⟨pt, pq, vR, ks, h1, h2, h3, h4, h5, h6⟩ := h
  exact ⟨pt, pq, vR, ks, h1.box h5 h6 o, h2.trans (o.below h2.size fun g hg => by omega), h3, Nat.lt_of_lt_of_le h4 o.size, h5, h6⟩
theorem Aq.ap (h : Aq w W p m q) (hf : Fit m) (s : ByteArray) (hs : s.size ≤ 9223372036854775807) {y : Ry} (hy : (ap m s).2 = y) :
    Calls Try.prog 8 #[.pointer (some ⟨p, 0, none⟩), .string s] W fun e W' => e = .returned (.agg #[.int .i64 y.err, .int .u64 (y.num : Int), .int .u64 (y.ext : Int)]) ∧ Aq w W' p (ap m s).1 q ∧ W'.heap[q]? = W.heap[q]? := by
  subst hy
  obtain ⟨pt, pq, vR, ks, h1, h2, h3, h4, h5, h6⟩ := h
  refine (ApplyQ.pap_any h1 hf s hs).mono fun e W' k => ⟨k.1, ?_⟩
  have hb := leftP_below h1 k.2
  obtain ⟨vR', ks', k1, k2, k3, k4⟩ := k.2
  refine ⟨⟨pt, pq, vR', ks', k1, h2.trans hb, h3, Nat.lt_of_lt_of_le h4 hb.size, fun e => ?_, fun e => ?_⟩, k2.block q h4 h5⟩
  · rcases k3 q e with e | e
    · exact h5 e
    · omega
  · rcases k4 q e with e | e
    · exact h6 e
    · omega
theorem Aq.sagas (h : Aq w W p m q) (hf : Fit m) : Calls Try.prog 12 #[.pointer (some ⟨p, 0, none⟩)] W fun e W' => ∃ A c, e = .returned (.slice A m.l.length c) ∧ Reads W' W'.heap.size 1 A m.l.length (ics m.l) ∧ Below W.heap.size W W' := by
  obtain ⟨pt, pq, vR, ks, h1, _⟩ := h
  exact (ListP.psagas_any h1 hf).mono fun e W' ⟨A, c, k1, k2, k3, _⟩ => ⟨A, c, k1, k2, k3⟩
end
end Go.Proofs.Ythaepkpmpnofgaa.Mny
set_option linter.unusedVariables false
set_option linter.unusedSimpArgs false
namespace Go.Proofs.Ythaepkpmpnofgaa.LawM
open Go.RowKit Go.Proofs.Ythaepkpmpnofgaa.Kit Go.Proofs.Ythaepkpmpnofgaa.Blocks Go.Proofs.Ythaepkpmpnofgaa.Ses Go.Proofs.Ythaepkpmpnofgaa.Rws Go.Proofs.Ythaepkpmpnofgaa.Boxs Go.Proofs.Ythaepkpmpnofgaa.Mch Go.Proofs.Ythaepkpmpnofgaa.SsnWalkA Go.Proofs.Ythaepkpmpnofgaa.MatP Go.Proofs.Ythaepkpmpnofgaa.Alone Go.Proofs.Ythaepkpmpnofgaa.Beg Go.Proofs.Ythaepkpmpnofgaa.Mny
open Go.Proofs.Ythaepkpmpnofgaa.MatD (Hs ics id_at)
open Go.Proofs.Ythaepkpmpnofgaa.Cmd (Cm cmB encS encZ mayB encS_may encZ_may yes dec yes_go)
open Go.Proofs.Ythaepkpmpnofgaa.PckWalkH (str str_size)
open Go.Proofs.Ythaepkpmpnofgaa.Sag (Sg Snd)
open Go.Proofs.Ythaepkpmpnofgaa.State (cell_at)

/-- Numbers, at A. -/
abbrev Nums (w : World) (B : Nat) (A : Option Addr) (L : List Nat) : Prop := Reads w B 1 A L.length (L.map fun x : Nat => Value.int .u64 (x : Int))
theorem nums_at {w : World} {B : Nat} {A : Option Addr} {L : List Nat} (h : Nums w B A L) {k : Nat} (hk : k < L.length) : ∃ b o x, A = some ⟨b, o, none⟩ ∧ b < B ∧ L[k]? = some x ∧ w.cell? ⟨b, o + k, none⟩ = some (.int .u64 (x : Int)) := by
  obtain ⟨ad, u, rfl, h1, h2, h3⟩ := Reads.at_ h hk
  have hs := Reads.spot h (by omega)
  rw [List.getElem?_map, List.getElem?_eq_getElem hk] at h2
  simp only [Option.map_some, Option.some.injEq] at h2
  subst h2
  refine ⟨ad.block, ad.off, L[k], by rw [← hs], h1, List.getElem?_eq_getElem hk, ?_⟩
  rw [hs, Addr.add_lit] at h3
  exact h3
/-- The state of the first loop. -/
structure Stt (w W : World) (p q j : Nat) (y : Ry) (l : List (Nat × Sg)) : Prop where
  a : Aq w W p (mm j y l) q
  s : SeenAt W q l
  f : Fit (mm j y l)
theorem Stt.below {w W W' : World} {p q j : Nat} {y : Ry} {l : List (Nat × Sg)} (h : Stt w W p q j y l) (k : Below W.heap.size W W') : Stt w W' p q j y l := ⟨(h.a.below k).1, h.s.keep (h.a.below k).2, h.f⟩
/-- One submit. -/
theorem stt_ap {w W : World} {p q j : Nat} {y : Ry} {l : List (Nat × Sg)} (h : Stt w W p q j y l) (hj : j ≤ 1000) {id : Nat} (hu : U id) {y' : Ry} {l' : List (Nat × Sg)} (hd : does l (subC 1 (j + 1) id) = (l', y')) :
    Calls Try.prog 8 #[.pointer (some ⟨p, 0, none⟩), .string (str (cmB (subC 1 (j + 1) id)))] W fun e W' => e = .returned (.agg #[.int .i64 y'.err, .int .u64 (y'.num : Int), .int .u64 (y'.ext : Int)]) ∧ Aq w W' p (mm (j + 1) y' l') q ∧ SeenAt W' q l ∧ Fit (mm (j + 1) y' l') := by
  have sf := sub_fin (ss := 1) (sq := j + 1) (sg := id) (by decide) (show j + 1 < 18446744073709551616 by omega) hu
  have e1 : ap (mm j y l) (str (cmB (subC 1 (j + 1) id))) = (mm (j + 1) y' l', y') := by rw [ap_cm sf sub_may, mm_step j hj, hd]
  have z1 := cm_size sf sub_may (fun _ => one_def)
  have hf := (ap_fit h.f (str (cmB (subC 1 (j + 1) id)))).1
  rw [e1] at hf
  refine (h.a.ap h.f _ z1 (y := y') (by rw [e1])).mono ?_
  rintro e W' ⟨k1, k2, k3⟩
  rw [e1] at k2
  exact ⟨k1, k2, h.s.keep k3, hf⟩
theorem enc_sub (j id : Nat) (hj : j ≤ 1000) (hu : U id) (W W' : World) (hw : W.alloc (.cells #[.int .i64 0, .string ⟨#[115]⟩, .int .i64 1] 44) = W') :
    Calls Try.prog 11 #[.agg #[.int .i64 2, .int .u64 1, .int .u64 ((j : Int) + 1), .int .u64 (id : Int), .slice (some ⟨W.heap.size, 0, none⟩) 1 1, .int .i64 0, .bool false, .int .i64 0, .bool false, .int .u64 0]] W' fun e w' => e = .returned (.tuple #[.string (str (cmB (subC 1 (j + 1) id))), .int .i64 0]) ∧ Below W'.heap.size W' w' :=
  have sf := sub_fin (ss := 1) (sq := j + 1) (sg := id) (by decide) (show j + 1 < 18446744073709551616 by omega) hu
  enc_one (c := 1) (one_at 0 hw sf) sub_may rfl
set_option maxRecDepth 100000 in
set_option maxHeartbeats 8000000 in
theorem many_any {w : World} {A : Option Addr} {c : Nat} {L : List Nat} (h : Nums w w.heap.size A L) (hc : L.length ≤ c) (hm : c ≤ 9223372036854775807) (hu : ∀ x ∈ L, U x) :
    Calls Try.prog 4 #[.slice A L.length c] w fun e w' => e = .returned (.bool true) ∧ Below w.heap.size w w' := by
  have HU := Lib.hid hu
  have HL := Lib.hid h
  obtain ⟨n, hn⟩ : ∃ n, L.length = n := ⟨_, rfl⟩
  have HN := Lib.hid hn
  have hmax := Nat.le_trans hc hm
  rw [hn] at hc hmax ⊢
  clear h hu hn
  obtain ⟨S1, hS1⟩ : ∃ S, str (cmB regC) = S := ⟨_, rfl⟩
  have z1 : S1.size ≤ 9223372036854775807 := by rw [← hS1]; exact cm_size reg_fin reg_may (fun e => by cases e)
  have a1 : ap mc0 S1 = (mm 0 y0 [], ⟨0, 1, 0⟩) := by rw [← hS1, ap_cm reg_fin reg_may, ap_one]; rfl
  have f1 : Fit (mm 0 y0 []) := by have := (ap_fit fit0 S1).1; rw [a1] at this; exact this
  have HE1 : Hid (∀ W : World, Calls Try.prog 11 #[.agg #[.int .i64 1, .int .u64 0, .int .u64 0, .int .u64 0, .slice none 0 0, .int .i64 0, .bool false, .int .i64 0, .bool false, .int .u64 0]] W fun e w' => e = .returned (.tuple #[.string S1, .int .i64 0]) ∧ Below W.heap.size W w') := fun W => enc_one (c := 0) (reg_at W) reg_may hS1
  have HA1 : Hid (∀ W p, Al w W p mc0 → Calls Try.prog 8 #[.pointer (some ⟨p, 0, none⟩), .string S1] W fun e W' => e = .returned (.agg #[.int .i64 0, .int .u64 1, .int .u64 0]) ∧ Al w W' p (mm 0 y0 [])) := fun W p h => by
    have := h.ap fit0 S1 z1 (y := ⟨0, 1, 0⟩) (by rw [a1])
    rw [a1] at this
    exact this
  have HF1 := Lib.hid f1
  clear hS1 z1 a1 f1
  go_enter Try.func4, Try.ntmps4
  go_wp2_with fail
  go_at_call 5
  refine (begun_true w).mono ?_
  rintro e w1 ⟨rfl, hb1⟩
  by_cases h200 : 200 < n
  · go_wp2
    go_ret
    exact ⟨rfl, hb1⟩
  have HB1 := Lib.hid hb1
  clear hb1
  go_wp2_with fail
  go_at_call 7
  refine (al_new w HB1.out).mono ?_
  rintro e w2 ⟨p, rfl, hal⟩
  have HAL := Lib.hid hal
  clear hal HB1
  go_wp2_with fail
  go_at_call 11
  refine (HE1.out _).mono ?_
  rintro e w3 ⟨rfl, hb3⟩
  have HAL3 := Lib.hid (HAL.out.below hb3)
  clear hb3 HAL
  go_wp2_with fail
  go_at_call 8
  refine (HA1.out _ _ HAL3.out).mono ?_
  rintro e w4 ⟨rfl, hal4⟩
  have hst : Stt w (w4.alloc (.map #[] 0)) p w4.heap.size 0 y0 [] := ⟨Aq.new hal4 _, seen_new w4, HF1.out⟩
  obtain ⟨w5, hw5⟩ : ∃ w5, w4.alloc (.map #[] 0) = w5 := ⟨_, rfl⟩
  obtain ⟨q, hq⟩ : ∃ q, w4.heap.size = q := ⟨_, rfl⟩
  rw [hw5, hq] at hst
  have HST := Lib.hid hst
  have HW5 := Lib.hid hw5
  have HQ := Lib.hid hq
  clear hal4 hst hw5 hq HE1 HA1 HF1 HAL3
  have hmm := @run_makeMap Try.prog
  go_wp2_with fail
  rw [HW5.out, HQ.out]
  go_loopw [33] (fun x wr => ∃ (j : Nat) (y : Ry) (l : List (Nat × Sg)), j ≤ n ∧ x = .int .i64 (j : Int) ∧ Hid (Stt w wr p q j y l)) (fun x _ => n - (intOf x).toNat)
  case atStart => exact ⟨0, y0, [], by omega, rfl, HST⟩
  case round =>
    obtain ⟨j, y, l, hj, rfl, hS⟩ := hrel
    clear HST HW5 HQ hmm
    by_cases hjn : j < n
    · obtain ⟨b, o, id, rfl, hlt, hid, hcell⟩ := nums_at (HL.out.below hS.out.a.bel) (k := j) (by rw [HN.out]; exact hjn)
      have hU := HU.out id (List.mem_of_getElem? hid)
      have hU' : id < 18446744073709551616 := hU
      have hj2 : j ≤ 200 := by omega
      have hl16 : l.length ≤ 16 := hS.out.f.few
      have HJ := Lib.hid hjn
      obtain ⟨S2, hS2⟩ : ∃ S, str (cmB (subC 1 (j + 1) id)) = S := ⟨_, rfl⟩
      have hen := enc_sub j id (by omega) hU
      rw [hS2] at hen
      have HEN := Lib.hid hen
      obtain ⟨w6, hw6⟩ : ∃ w6, wr.alloc (.cells #[.int .i64 0, .string ⟨#[115]⟩, .int .i64 1] 44) = w6 := ⟨_, rfl⟩
      have HW6 := Lib.hid hw6
      have HS6 : Hid (Stt w w6 p q j y l) := by rw [← hw6]; exact hS.out.below ((Below.refl _ _).alloc (Nat.le_refl _) _)
      have hdd := does_said l (j + 1) id (fun i h => by obtain ⟨_, _, _, h3, _⟩ := seekS_some h; exact h3)
      have hb0 : b < wr.heap.size := Nat.lt_of_lt_of_le hlt hS.out.a.bel.size
      clear hen hw6 hid hS hlt
      cases hsk : seekS l id with
      | some i =>
        have hd : does l (subC 1 (j + 1) id) = (l, yE 42) := by rw [hdd, hsk]
        have HSK := Lib.hid hsk
        clear hdd hsk
        have HAP : Hid (∀ W, Stt w W p q j y l → Calls Try.prog 8 #[.pointer (some ⟨p, 0, none⟩), .string S2] W fun e W' => e = .returned (.agg #[.int .i64 42, .int .u64 0, .int .u64 0]) ∧ Aq w W' p (mm (j + 1) (yE 42) l) q ∧ SeenAt W' q l ∧ Fit (mm (j + 1) (yE 42) l)) := fun W h => by
          have := stt_ap h (by omega) hU hd
          rw [hS2] at this
          exact this
        clear hS2 hd
        go_wp2_with fail
        rw [HW6.out]
        go_at_call 11
        refine (HEN.out wr w6 HW6.out).mono ?_
        rintro e w7 ⟨rfl, hb7⟩
        have HS7 := Lib.hid (HS6.out.below hb7)
        clear hb7 HS6
        go_wp2_with fail
        go_at_call 8
        refine (HAP.out w7 HS7.out).mono ?_
        rintro e w8 ⟨rfl, ha8, hs8, hf8⟩
        have hb9 : ∀ o, Below w8.heap.size w8 (w8.alloc o) := fun o => (Below.refl _ _).alloc (Nat.le_refl _) o
        have hk8 : ∀ o, SeenAt (w8.alloc o) q l := fun o => hs8.keep (ha8.below (hb9 o)).2
        have hlk : ∀ o, (Instr.lookup 42 (.map (some q)) (.int .u64 (id : Int)) false).run Try.prog (w8.alloc o) = .ok (.int .i64 1) (w8.alloc o) := fun o => by
          have := (hk8 o).look hU
          rw [HSK.out] at this
          exact this
        have HR := Lib.hid (fun o => (⟨(ha8.below (hb9 o)).1, hk8 o, hf8⟩ : Stt w (w8.alloc o) p q (j + 1) (yE 42) l))
        clear ha8 hs8 hf8 hb9 hk8 HAP HEN HS7
        go_wp2
        refine ⟨⟨j + 1, yE 42, l, HJ.out, by go_num, HR.out _⟩, by have := HJ.out; simp [intOf]; omega⟩
      | none =>
        by_cases h16 : 16 ≤ l.length
        · have hd : does l (subC 1 (j + 1) id) = (l, yE 11) := by rw [hdd, hsk]; simp only; rw [if_pos h16]
          have HSK := Lib.hid hsk
          clear hdd hsk
          have HAP : Hid (∀ W, Stt w W p q j y l → Calls Try.prog 8 #[.pointer (some ⟨p, 0, none⟩), .string S2] W fun e W' => e = .returned (.agg #[.int .i64 11, .int .u64 0, .int .u64 0]) ∧ Aq w W' p (mm (j + 1) (yE 11) l) q ∧ SeenAt W' q l ∧ Fit (mm (j + 1) (yE 11) l)) := fun W h => by
            have := stt_ap h (by omega) hU hd
            rw [hS2] at this
            exact this
          clear hS2 hd
          go_wp2_with fail
          rw [HW6.out]
          go_at_call 11
          refine (HEN.out wr w6 HW6.out).mono ?_
          rintro e w7 ⟨rfl, hb7⟩
          have HS7 := Lib.hid (HS6.out.below hb7)
          clear hb7 HS6
          go_wp2_with fail
          go_at_call 8
          refine (HAP.out w7 HS7.out).mono ?_
          rintro e w8 ⟨rfl, ha8, hs8, hf8⟩
          have hb9 : ∀ o, Below w8.heap.size w8 (w8.alloc o) := fun o => (Below.refl _ _).alloc (Nat.le_refl _) o
          have hk8 : ∀ o, SeenAt (w8.alloc o) q l := fun o => hs8.keep (ha8.below (hb9 o)).2
          have hlk : ∀ o, (Instr.lookup 42 (.map (some q)) (.int .u64 (id : Int)) false).run Try.prog (w8.alloc o) = .ok (.int .i64 0) (w8.alloc o) := fun o => by
            have := (hk8 o).look hU
            rw [HSK.out] at this
            exact this
          have hln : ∀ o ty, (Builtin.len_ #[42] ty #[.map (some q)]).run Try.prog (w8.alloc o) = .ok (.int .i64 (l.length : Int)) (w8.alloc o) := fun o ty => (hk8 o).len ty
          have HR := Lib.hid (fun o => (⟨(ha8.below (hb9 o)).1, hk8 o, hf8⟩ : Stt w (w8.alloc o) p q (j + 1) (yE 11) l))
          obtain ⟨k, hk⟩ : ∃ k, l.length = k := ⟨_, rfl⟩
          rw [hk] at hln h16 hl16
          clear ha8 hs8 hf8 hb9 hk8 HAP HEN HS7 hk
          go_wp2
          refine ⟨⟨j + 1, yE 11, l, HJ.out, by go_num, HR.out _⟩, by have := HJ.out; simp [intOf]; omega⟩
        · have hd : does l (subC 1 (j + 1) id) = (putS l id (first (subC 1 (j + 1) id)), ⟨0, 1, 0⟩) := by rw [hdd, hsk]; simp only; rw [if_neg h16]
          have HSK := Lib.hid hsk
          obtain ⟨l', hl'⟩ : ∃ l', putS l id (first (subC 1 (j + 1) id)) = l' := ⟨_, rfl⟩
          rw [hl'] at hd
          have HL' := Lib.hid hl'
          clear hdd hsk hl'
          have HAP : Hid (∀ W, Stt w W p q j y l → Calls Try.prog 8 #[.pointer (some ⟨p, 0, none⟩), .string S2] W fun e W' => e = .returned (.agg #[.int .i64 0, .int .u64 1, .int .u64 0]) ∧ Aq w W' p (mm (j + 1) ⟨0, 1, 0⟩ l') q ∧ SeenAt W' q l ∧ Fit (mm (j + 1) ⟨0, 1, 0⟩ l')) := fun W h => by
            have := stt_ap h (by omega) hU hd
            rw [hS2] at this
            exact this
          clear hS2 hd
          go_wp2_with fail
          rw [HW6.out]
          go_at_call 11
          refine (HEN.out wr w6 HW6.out).mono ?_
          rintro e w7 ⟨rfl, hb7⟩
          have HS7 := Lib.hid (HS6.out.below hb7)
          clear hb7 HS6
          go_wp2_with fail
          go_at_call 8
          refine (HAP.out w7 HS7.out).mono ?_
          rintro e w8 ⟨rfl, ha8, hs8, hf8⟩
          have hb9 : ∀ o, Below w8.heap.size w8 (w8.alloc o) := fun o => (Below.refl _ _).alloc (Nat.le_refl _) o
          have hk8 : ∀ o, SeenAt (w8.alloc o) q l := fun o => hs8.keep (ha8.below (hb9 o)).2
          have hlk : ∀ o, (Instr.lookup 42 (.map (some q)) (.int .u64 (id : Int)) false).run Try.prog (w8.alloc o) = .ok (.int .i64 0) (w8.alloc o) := fun o => by
            have := (hk8 o).look hU
            rw [HSK.out] at this
            exact this
          have hln : ∀ o ty, (Builtin.len_ #[42] ty #[.map (some q)]).run Try.prog (w8.alloc o) = .ok (.int .i64 (l.length : Int)) (w8.alloc o) := fun o ty => (hk8 o).len ty
          obtain ⟨w10, hst, hs10, ho10⟩ := (hk8 (.cells #[.int .i64 0, .int .u64 1, .int .u64 0] 30)).store (by omega) hU (first (subC 1 (j + 1) id)) HSK.out
          have hq8 : q ≠ w8.heap.size := by have := ha8.ql; omega
          have hbx : w10.heap[w8.heap.size]? = some (.cells #[.int .i64 0, .int .u64 1, .int .u64 0] 30 (0, 0)) := (ho10.block _ (by simp) (fun e => hq8 e.symm)).trans (heap_alloc_new w8 _)
          have bx0 : w10.cell? ⟨w8.heap.size, 0, none⟩ = some (.int .i64 0) := by rw [State.cell_at hbx]; rfl
          rw [HL'.out] at hs10
          have HR : Hid (Stt w w10 p q (j + 1) ⟨0, 1, 0⟩ l') := ⟨(ha8.below (hb9 _)).1.put ho10, hs10, hf8⟩
          have hsz : w8.heap.size < w10.heap.size := Nat.lt_of_lt_of_le (by simp) ho10.size
          obtain ⟨k, hk⟩ : ∃ k, l.length = k := ⟨_, rfl⟩
          rw [hk] at hln h16 hl16
          clear ha8 hs8 hf8 hb9 hk8 HAP HEN HS7 hk hs10 ho10 hbx
          go_wp2
          refine ⟨⟨j + 1, _, l', HJ.out, by go_num, HR⟩, by have := HJ.out; simp [intOf]; omega⟩
    · obtain rfl : j = n := by omega
      have hsg : Calls Try.prog 12 #[.pointer (some ⟨p, 0, none⟩)] wr fun e W' => ∃ A c, e = .returned (.slice A l.length c) ∧ Reads W' W'.heap.size 1 A l.length (ics l) ∧ Below wr.heap.size wr W' := hS.out.a.sagas hS.out.f
      have hgrow : Grow l := hS.out.f.grow
      have hul : ∀ x ∈ l, U x.1 := hS.out.f.u
      have hl16 : l.length ≤ 16 := hS.out.f.few
      obtain ⟨k, hk⟩ : ∃ k, l.length = k := ⟨_, rfl⟩
      rw [hk] at hsg hl16
      have HSG := Lib.hid hsg
      have HK := Lib.hid hk
      have HGR := Lib.hid hgrow
      have HUL := Lib.hid hul
      clear hsg hk hgrow hul
      go_wp2_with fail
      go_at_call 12
      refine HSG.out.mono ?_
      rintro e w12 ⟨A2, c2, rfl, hr12, hb12⟩
      have HR12 := Lib.hid hr12
      have HS12 := Lib.hid (hS.out.below hb12)
      clear hr12 hb12 hS HSG
      go_wp2
      go_loopw [74] (fun x wv => ∃ i : Nat, i ≤ k ∧ x = .int .i64 (i : Int) ∧ Hid (Below w12.heap.size w12 wv)) (fun x _ => k - (intOf x).toNat)
      case atStart => exact ⟨0, by omega, rfl, Below.refl _ _⟩
      case round =>
        obtain ⟨i, hi, rfl, hB⟩ := hrel
        have hs := (HS12.out.below hB.out)
        have hln : ∀ ty, (Builtin.len_ #[42] ty #[.map (some q)]).run Try.prog wr = .ok (.int .i64 (k : Int)) wr := fun ty => by rw [← HK.out]; exact hs.s.len ty
        by_cases hik : i < k
        · obtain ⟨b2, o2, x, rfl, hlt2, hx, hc2⟩ := id_at (HR12.out.below hB.out) hik
          have hux := HUL.out x (List.mem_of_getElem? hx)
          have hlk : (Instr.lookup 42 (.map (some q)) (.int .u64 (x.1 : Int)) false).run Try.prog wr = .ok (.int .i64 1) wr := by
            have := hs.s.look hux
            cases hsk : seekS l x.1 with
            | none => exact absurd rfl (seekS_none hsk x (List.mem_of_getElem? hx))
            | some _ => rw [hsk] at this; exact this
          have hb2 : b2 < wr.heap.size := Nat.lt_of_lt_of_le hlt2 hB.out.size
          have HI := Lib.hid hik
          cases i with
          | zero =>
            obtain ⟨id2, hid2⟩ : ∃ a, x.1 = a := ⟨_, rfl⟩
            rw [hid2] at hlk hc2
            rw [Nat.add_zero] at hc2
            clear hs hx hux
            go_wp2
            refine ⟨⟨1, HI.out, rfl, hB⟩, by have := HI.out; simp [intOf]; omega⟩
          | succ i =>
            obtain ⟨b3, o3, x3, e3, hlt3, hx3, hc3⟩ := id_at (HR12.out.below hB.out) (k := i) (by omega)
            cases e3
            have hg : x3.1 < x.1 := by
              have hp := HGR.out
              unfold Grow at hp
              rw [List.pairwise_iff_getElem] at hp
              obtain ⟨a1, rfl⟩ := List.getElem?_eq_some_iff.1 hx3
              obtain ⟨a2, rfl⟩ := List.getElem?_eq_some_iff.1 hx
              exact hp i (i + 1) a1 a2 (by omega)
            obtain ⟨id2, hid2⟩ : ∃ a, x.1 = a := ⟨_, rfl⟩
            obtain ⟨id3, hid3⟩ : ∃ a, x3.1 = a := ⟨_, rfl⟩
            rw [hid2] at hlk hc2 hg
            rw [hid3] at hc3 hg
            clear hs hx hux hx3
            go_wp2
            refine ⟨⟨i + 2, by have := HI.out; omega, by go_num, hB⟩, by have := HI.out; simp [intOf]; omega⟩
        · obtain rfl : i = k := by omega
          have HBB := Lib.hid (hs.a.bel)
          clear hs
          go_wp2
          go_ret
          exact ⟨by simp, HBB.out⟩
end Go.Proofs.Ythaepkpmpnofgaa.LawM
set_option linter.unusedVariables false
set_option linter.unusedSimpArgs false
namespace Go.Proofs.Ythaepkpmpnofgaa.Opn
open Go.ChangeShapes Go.WideShapes Go.ChangeAt Go.RowKit Go.Proofs.Ythaepkpmpnofgaa.Kit Go.Proofs.Ythaepkpmpnofgaa.Ses Go.Proofs.Ythaepkpmpnofgaa.LawM

theorem u64_wf {z : Int} (h : (Lit.int .u64 z).wf = true) : ∃ n : Nat, z = (n : Int) ∧ n < 18446744073709551616 := by
  have hb : 0 ≤ z ∧ z ≤ 18446744073709551615 := by simpa [Lit.wf, IntKind.min, IntKind.max, IntKind.signed, IntKind.bits] using h
  exact ⟨z.toNat, by omega, by omega⟩
/-- Numbers that came in. -/
structure CameN (w : World) (A : Option Addr) (n c : Nat) (L : List Nat) : Prop where
  len : L.length = n
  nums : Nums w w.heap.size A L
  fits : n ≤ c
  max : c ≤ 9223372036854775807
  each : ∀ x ∈ L, U x
section
variable {H : Type} {enc : TypeId × Value → H} {w : World} {b0 : Nat} {v : Value} {d : DataW H} {p : List MemPlace}
theorem came_none (w : World) : CameN w none 0 0 [] := ⟨rfl, Reads.none_, by omega, by omega, by simp⟩
set_option maxRecDepth 100000 in
theorem arg_nums (hv : Value.okWide Try.prog w .any b0 36 v) (h : DataW.Trod enc Try.prog w 0 (fun _ => true) true 36 v d p) :
    ∃ A n c L, v = .slice A n c ∧ CameN w A n c L := by
  obtain ⟨A, n, c, rfl⟩ := okWide_slice Try.underlying36 hv
  obtain ⟨fuel, hf⟩ := h
  rcases Go.ChangeShapes.open_ints Try.underlying36 Try.underlying28 (by kernel_rfl) hf with ⟨he, _⟩ | ⟨a, len, cap, zs, he, _, hl, hm, hz, _, hc, hw⟩
  · simp [Value.cells] at he
    obtain ⟨rfl, rfl, rfl⟩ := he
    exact ⟨none, 0, 0, [], rfl, came_none w⟩
  · simp [Value.cells] at he
    obtain ⟨rfl, rfl, rfl⟩ := he
    simp only [if_true] at hz
    unfold maxLen at hm
    refine ⟨some a, n, c, (zs.take n).map Int.toNat, rfl, by simp; omega, ?_, hl, by omega, fun x hx => ?_⟩
    · have hlen : ((zs.take n).map Int.toNat).length = n := by simp; omega
      refine ⟨by simp, fun hn => ?_⟩
      rw [hlen] at hn
      have h0 := hc 0 (by omega)
      refine ⟨a, rfl, ?_, fun j u hj => ?_⟩
      · have := World.block_lt_of_cell? _ _ h0
        exact this
      · have hjn : j < n := by
          have := (List.getElem?_eq_some_iff.1 hj).1
          simp at this
          omega
        have hjz : j < zs.length := by omega
        have h1 := hc j hjz
        rw [h1]
        obtain ⟨k, hk, _⟩ := u64_wf (hw zs[j] (List.getElem_mem _))
        rw [← hj]
        simp [hjn, hjz, List.getElem?_take, hk]
    · obtain ⟨z, hz', rfl⟩ := List.mem_map.1 hx
      obtain ⟨k, hk, hk2⟩ := u64_wf (hw z (List.mem_of_mem_take hz'))
      rw [hk]
      exact hk2
end
theorem many_walk (A : Option Addr) (n c : Nat) (L : List Nat) (w : World) (h : CameN w A n c L) : Calls Try.prog 4 #[.slice A n c] w fun e w' => e = .returned (.bool true) ∧ Below w.heap.size w w' := by
  have := many_any h.nums (by rw [h.len]; exact h.fits) h.max h.each
  rw [h.len] at this
  exact this
end Go.Proofs.Ythaepkpmpnofgaa.Opn
namespace Go.Proofs.Ythaepkpmpnofgaa.PMachineMany
open Go.ChangeShapes Go.WideShapes Go.ChangeAt Go.RowKit Go.Proofs.Ythaepkpmpnofgaa.Kit Go.Proofs.Ythaepkpmpnofgaa.Frame
set_option linter.unusedVariables false

theorem own : ownKnob Try.prog.godebug = none := by kernel_rfl
theorem laidOut : laidOutB Try.prog = true := by kernel_rfl

set_option maxRecDepth 100000 in
theorem contract (H : Type) (enc : TypeId × Value → H) (W : World) (base : Nat) (args : Array Value) (ds gs : List (DataW H)) (before : List MemPlace)
    (hval : ∀ (j : Nat) t v, Try.f4.params[j]? = some t → args[j]? = some v → Value.okWide Try.prog W .any base t v)
    (hW : DataW.Whole enc Try.prog Try.f4.params.toList Rows.machineManySpec.vars false W args.toList ds gs before)
    (hs0 : (DataW.weightsEach Try.prog (Try.f4.params.toList ++ Rows.machineManySpec.plain.varTypes Try.prog) (ds ++ gs)).all (· ≤ reachBytes) = true) :
    Calls Try.prog 4 args W fun e W' => ∃ v, e = .returned v ∧ Rows.machineManySpec.post enc Try.prog Try.f4 false true false false W args v W' := by
  have hW' := hW
  have hsz : (DataW.weightsEach Try.prog (Try.f4.params.toList ++ Rows.machineManySpec.plain.varTypes Try.prog) (ds ++ gs)).all (· ≤ reachBytes) = true := hs0
  obtain ⟨p, q, hA0, hV, rfl, hfz, hnd⟩ := hW
  have hA : DataW.TrodAll enc Try.prog W 0 (fun _ => true) true Try.f4.params.toList args.toList ds p := hA0
  rw [Try.params4] at hA hval hsz
  obtain ⟨v0, vs0, d0, ds0, p0, q0, hargs, rfl, rfl, h0, r0⟩ := trodAll_cons hA
  obtain ⟨rfl, rfl, rfl⟩ := trodAll_nil r0
  obtain rfl : args = #[v0] := by cases args; simp_all
  obtain ⟨rfl, rfl⟩ := trodVars_none hV
  have lt0 : ∀ x ∈ p0, x.block < W.heap.size := by obtain ⟨m, hm⟩ := h0; exact DataW.trod_lt m _ _ _ hm
  obtain ⟨A0, n0, c0, l0, rfl, h0_0⟩ := Opn.arg_nums (hval 0 36 v0 rfl rfl) h0
  clear hA0
  refine (Opn.many_walk A0 n0 c0 l0 W h0_0).mono fun e W' ⟨he, bel⟩ => ?_
  subst he
  exact ⟨_, rfl, _, _, _, [], _, [], hW', trodAll_mk1 (shut_bool Try.underlying4 _), (trodAll_cons_mk (Below.trod laidOut (by kernel_rfl) (of_decide_eq_true (by kernel_rfl)) h0 bel lt0) trodAll_mk0), rfl, bel.frame _, fun h => by cases h⟩

set_option maxRecDepth 100000 in
theorem lifted (os : Os) (started : os.Started) (H : Type) (enc : TypeId × Value → H) :
    ReturnsInHanded {} Try.checked os 4 .any (Rows.machineManySpec.pre6 enc Try.prog Try.f4 Rows.machineManyRow.domain false) (Rows.machineManySpec.post enc Try.prog Try.f4 false true false false) := by
  refine returnsInHanded_of_change_sized (C := Try.checked) own started (by kernel_rfl) Try.func4
    (ChangeSpec.witness6 (enc := enc) (C := Try.checked) false ⟨#[], #[.slice none 0 0], []⟩ 8 (by kernel_rfl) (by kernel_rfl) (by kernel_rfl) (by kernel_rfl)) ?_
  intro W base args ds gs before hval hW _ hs _
  exact contract H enc W base args ds gs before hval hW hs

theorem over : Rows.machineManyRow.holds Try.pinned (OpenSpec.ofChange Rows.machineManySpec) :=
  OpenClaim.holds_of_wide 4 Try.f4 rfl rfl rfl rfl rfl rfl rfl ⟨rfl, rfl, rfl, rfl, rfl⟩ rfl rfl rfl rfl rfl (by kernel_rfl) Try.func4 (by kernel_rfl)
    (of_decide_eq_true (by kernel_rfl)) (by unfold Func.isWrapper; first | (rw [if_pos (by decide +kernel)]; kernel_rfl) | (rw [if_neg (by decide +kernel)]; exact ⟨rfl, rfl⟩))
    (fun os started H enc _ => lifted os started H enc)

theorem proved : Rows.MachineManySaid := over
end Go.Proofs.Ythaepkpmpnofgaa.PMachineMany
