/- How this layer's arguments are opened: texts that came in. No statement is proved here. -/
import Derived.Test.YthaepkpmpnofgaaGreatHListP
import Derived.Test.YthaepkpmpnofgaaGreatHCmnWalkC
import Derived.Test.YthaepkpmpnofgaaGreatGF
import Derived.Deep.Strs
set_option linter.unusedVariables false
set_option linter.unusedSimpArgs false
namespace Go.Proofs.YthaepkpmpnofgaaGreat.Alone
open Go.RowKit Go.Proofs.YthaepkpmpnofgaaGreat.Kit Go.Proofs.YthaepkpmpnofgaaGreat.Blocks Go.Proofs.YthaepkpmpnofgaaGreat.Ses Go.Proofs.YthaepkpmpnofgaaGreat.Rws Go.Proofs.YthaepkpmpnofgaaGreat.Boxs Go.Proofs.YthaepkpmpnofgaaGreat.Mch Go.Proofs.YthaepkpmpnofgaaGreat.SsnWalkA Go.Proofs.YthaepkpmpnofgaaGreat.MatP
open Go.Proofs.YthaepkpmpnofgaaGreat.MatD (Hs ics)
open Go.Proofs.YthaepkpmpnofgaaGreat.Cmd (Cm cmB encS encZ mayB encS_may encZ_may yes dec yes_go)
open Go.Proofs.YthaepkpmpnofgaaGreat.CmdAt (CAt cmV)
open Go.Proofs.YthaepkpmpnofgaaGreat.Stq (Sp spCs sp_new RS)
open Go.Proofs.YthaepkpmpnofgaaGreat.PckWalkH (str str_size)
open Go.Proofs.YthaepkpmpnofgaaGreat.State (cell_at free_at lt_at)

section
variable {w W W' : World} {p : Nat} {m : Mc}
/-! ### The program's machine alone -/
theorem tat_le {B B' : Nat} {T : Shape} {E : TypeId} {w : World} {p : Nat} {v : Value} {m : Tb} (h : TAt B T E w p v m) (hB : B' ≤ B) : TAt B' T E w p v m := ⟨Nat.le_trans hB h.low, h.cell, own_base h.own hB, h.np⟩
theorem mp_le {B B' : Nat} {w : World} {p pt q : Nat} {vR : Value} {m : Mc} {ks : List (Nat × Hs)} (h : MP B w p pt q vR m ks) (hB : B' ≤ B) : MP B' w p pt q vR m ks :=
  ⟨Nat.le_trans hB h.lp, Nat.le_trans hB h.lq, h.blk, tat_le h.tb hB, h.said, h.sm, h.npq, h.npt, h.nqt, h.steps⟩
def Al (w W : World) (p : Nat) (m : Mc) : Prop := ∃ pt q vR ks, MP w.heap.size W p pt q vR m ks ∧ Below w.heap.size w W
theorem Al.bel (h : Al w W p m) : Below w.heap.size w W := by obtain ⟨_, _, _, _, _, h⟩ := h; exact h
theorem Al.below (h : Al w W p m) (k : Below W.heap.size W W') : Al w W' p m := by
  obtain ⟨pt, q, vR, ks, h1, h2⟩ := h
  exact ⟨pt, q, vR, ks, h1.below k, h2.trans (k.mono h2.size)⟩
theorem Al.ap (h : Al w W p m) (hf : Fit m) (s : ByteArray) (hs : s.size ≤ 9223372036854775807) {y : Ry} (hy : (ap m s).2 = y) :
    Calls Tryz.prog 11 #[.pointer (some ⟨p, 0, none⟩), .string s] W fun e W' => e = .returned (.agg #[.int .i64 y.err, .int .u64 (y.num : Int), .int .u64 (y.ext : Int)]) ∧ Al w W' p (ap m s).1 := by
  subst hy
  obtain ⟨pt, q, vR, ks, h1, h2⟩ := h
  refine (ApplyQ.pap_any h1 hf s hs).mono fun e W' k => ⟨k.1, ?_⟩
  have hb := leftP_below h1 k.2
  obtain ⟨vR', ks', k1, _⟩ := k.2
  exact ⟨pt, q, vR', ks', k1, h2.trans hb⟩
theorem Al.sagas (h : Al w W p m) (hf : Fit m) : Calls Tryz.prog 18 #[.pointer (some ⟨p, 0, none⟩)] W fun e W' => ∃ A c, e = .returned (.slice A m.l.length c) ∧ Reads W' W'.heap.size 1 A m.l.length (ics m.l) ∧ Below W.heap.size W W' := by
  obtain ⟨pt, q, vR, ks, h1, h2⟩ := h
  exact (ListP.psagas_any h1 hf).mono fun e W' ⟨A, c, k1, k2, k3, _⟩ => ⟨A, c, k1, k2, k3⟩
theorem al_new (w : World) (hb : Below w.heap.size w W) : Calls Tryz.prog 9 #[] W fun e W' => ∃ p, e = .returned (.pointer (some ⟨p, 0, none⟩)) ∧ Al w W' p mc0 := by
  refine (KeepP.pnew_any W).mono ?_
  rintro e W' ⟨p, pt, q, vR, rfl, h1, h2⟩
  exact ⟨p, rfl, pt, q, vR, [], mp_le h1 hb.size, hb.trans (h2.mono hb.size)⟩
end

/-! ### What a command makes, its bytes given -/
theorem ap_cm {k : Cm} (f : Cmd.Fin k) (h : mayB k = true) (m : Mc) : ap m (str (cmB k)) = apC m k := by
  obtain ⟨h1, h2⟩ := yes_go f h
  unfold ap
  rw [if_pos h1, h2]
def regC : Cm := ⟨1, 0, 0, 0, [], 0, false, 0, false, 0⟩
def one : Sp := ⟨0, ⟨#[115]⟩, 1⟩
def subC (ss sq sg : Nat) : Cm := ⟨2, ss, sq, sg, [one], 0, false, 0, false, 0⟩
theorem reg_fin : Cmd.Fin regC := ⟨by decide, by decide, by decide, by decide⟩
theorem reg_may : mayB regC = true := by decide
theorem sub_may {ss sq sg : Nat} : mayB (subC ss sq sg) = true := by
  unfold subC
  kernel_rfl
theorem sub_fin {ss sq sg : Nat} (h1 : U ss) (h2 : U sq) (h3 : U sg) : Cmd.Fin (subC ss sq sg) := ⟨h1, h2, h3, by show (0 : Nat) < 18446744073709551616; decide⟩
def m1 : Mc := ⟨⟨0, 2, [⟨1, 0, 0, y0⟩]⟩, []⟩
theorem ap_one : apC mc0 regC = (m1, ⟨0, 1, 0⟩) := by rfl
def m2 : Mc := ⟨⟨0, 2, [⟨1, 0, 1, ⟨0, 1, 0⟩⟩]⟩, [(7, ⟨[one], 1, 0, 0⟩)]⟩
theorem ap_two : apC m1 (subC 1 1 7) = (m2, ⟨0, 1, 0⟩) := by rfl
theorem ap_three : apC m2 (subC 1 1 7) = (m2, ⟨0, 1, 0⟩) := by rfl
end Go.Proofs.YthaepkpmpnofgaaGreat.Alone
set_option linter.unusedVariables false
set_option linter.unusedSimpArgs false
namespace Go.Proofs.YthaepkpmpnofgaaGreat.Beg
open Go.RowKit Go.Proofs.YthaepkpmpnofgaaGreat.Kit Go.Proofs.YthaepkpmpnofgaaGreat.Blocks Go.Proofs.YthaepkpmpnofgaaGreat.Ses Go.Proofs.YthaepkpmpnofgaaGreat.Rws Go.Proofs.YthaepkpmpnofgaaGreat.Boxs Go.Proofs.YthaepkpmpnofgaaGreat.Mch Go.Proofs.YthaepkpmpnofgaaGreat.SsnWalkA Go.Proofs.YthaepkpmpnofgaaGreat.MatP Go.Proofs.YthaepkpmpnofgaaGreat.Alone
open Go.Proofs.YthaepkpmpnofgaaGreat.MatD (Hs ics)
open Go.Proofs.YthaepkpmpnofgaaGreat.Cmd (Cm cmB encS encZ mayB encS_may encZ_may yes dec yes_go)
open Go.Proofs.YthaepkpmpnofgaaGreat.CmdAt (CAt cmV)
open Go.Proofs.YthaepkpmpnofgaaGreat.Stq (Sp spCs sp_new RS)
open Go.Proofs.YthaepkpmpnofgaaGreat.PckWalkH (str str_size)

theorem one_def : Pln.isDef [one] = true := by kernel_rfl
theorem reg_at (w : World) : CAt w none 0 regC := ⟨RS.nil _ _ _, by decide, (fun e h => by cases h), reg_fin⟩
theorem cm_size {k : Cm} (f : Cmd.Fin k) (h : mayB k = true) (hl : k.k = 2 → Pln.isDef k.l = true) : (str (cmB k)).size ≤ 9223372036854775807 := by
  rw [str_size]
  have h1 := Rdr.num9 (Pln.u64_lt k.k)
  have h2 := Rdr.num9 f.ss
  have h3 := Rdr.num9 f.sq
  have h4 := Rdr.num9 f.sg
  have h5 := Rdr.num9 f.nw
  have h6 : (Cmd.tailB k).length ≤ 11000 := by
    unfold Cmd.tailB
    split
    · rename_i e
      have := Pln.planB_le (hl e)
      omega
    · split
      · have g1 := Rdr.num9 (Pln.u64_lt k.st)
        have g2 := Rdr.num9 (Pln.u64_lt k.tr)
        have g3 : (Num.num (PckWalkB.bit k.bk)).length ≤ 9 := Rdr.num9 (by cases k.bk <;> decide)
        have g4 : (Num.num (PckWalkB.bit k.ok)).length ≤ 9 := Rdr.num9 (by cases k.ok <;> decide)
        simp only [List.length_append]
        omega
      · decide
  unfold Cmd.cmB
  simp only [List.length_append]
  omega
/-- A command with one step is encoded. -/
theorem enc_one {w : World} {A : Option Addr} {n c : Nat} {k : Cm} (h : CAt w A n k) (hm : mayB k = true) {S : ByteArray} (hS : str (cmB k) = S) :
    Calls Tryz.prog 22 #[cmV A n c k] w fun e w' => e = .returned (.tuple #[.string S, .int .i64 0]) ∧ Below w.heap.size w w' := by
  have := CmnWalkC.renc_any c h
  rw [encS_may hm, encZ_may hm, hS] at this
  exact this
theorem one_at {w : World} (b : Nat) {w1 : World} (hw : w.alloc (.cells #[.int .i64 0, .string ⟨#[115]⟩, .int .i64 1] 67) = w1) {ss sq sg : Nat} (f : Cmd.Fin (subC ss sq sg)) : CAt w1 (some ⟨w.heap.size, 0, none⟩) 1 (subC ss sq sg) := by
  have h : RS (w.alloc (.cells (spCs one).toArray 67)) (w.heap.size + 1) (some ⟨w.heap.size, 0, none⟩) 1 [one] := sp_new w one 67
  have hs : w.heap.size + 1 = w1.heap.size := by rw [← hw]; simp
  have hw' : w.alloc (.cells (spCs one).toArray 67) = w1 := hw
  rw [hw', hs] at h
  refine ⟨h, by decide, fun e he => ?_, f⟩
  have : e = one := by simpa [subC] using he
  subst this
  decide
set_option maxRecDepth 100000 in
set_option maxHeartbeats 4000000 in
theorem begun_true (w : World) : Calls Tryz.prog 7 #[] w fun e w' => e = .returned (.bool true) ∧ Below w.heap.size w w' := by
  have HNEW := Lib.hid (al_new w (Below.refl w.heap.size w))
  obtain ⟨S1, hS1⟩ : ∃ S, str (cmB regC) = S := ⟨_, rfl⟩
  obtain ⟨S2, hS2⟩ : ∃ S, str (cmB (subC 1 1 7)) = S := ⟨_, rfl⟩
  have sf := sub_fin (ss := 1) (sq := 1) (sg := 7) (by decide) (by decide) (by decide)
  have z1 : S1.size ≤ 9223372036854775807 := by rw [← hS1]; exact cm_size reg_fin reg_may (fun e => by cases e)
  have z2 : S2.size ≤ 9223372036854775807 := by rw [← hS2]; exact cm_size sf sub_may (fun _ => one_def)
  have a1 : ap mc0 S1 = (m1, ⟨0, 1, 0⟩) := by rw [← hS1, ap_cm reg_fin reg_may, ap_one]
  have a2 : ap m1 S2 = (m2, ⟨0, 1, 0⟩) := by rw [← hS2, ap_cm sf sub_may, ap_two]
  have a3 : ap m2 S2 = (m2, ⟨0, 1, 0⟩) := by rw [← hS2, ap_cm sf sub_may, ap_three]
  have f0 := fit0
  have f1 : Fit m1 := by have := (ap_fit f0 S1).1; rw [a1] at this; exact this
  have f2 : Fit m2 := by have := (ap_fit f1 S2).1; rw [a2] at this; exact this
  have HE1 : Hid (∀ W : World, Calls Tryz.prog 22 #[.agg #[.int .i64 1, .int .u64 0, .int .u64 0, .int .u64 0, .slice none 0 0, .int .i64 0, .bool false, .int .i64 0, .bool false, .int .u64 0]] W fun e w' => e = .returned (.tuple #[.string S1, .int .i64 0]) ∧ Below W.heap.size W w') := fun W => enc_one (c := 0) (reg_at W) reg_may hS1
  have HE2 : Hid (∀ W W' : World, W.alloc (.cells #[.int .i64 0, .string ⟨#[115]⟩, .int .i64 1] 67) = W' → Calls Tryz.prog 22 #[.agg #[.int .i64 2, .int .u64 1, .int .u64 1, .int .u64 7, .slice (some ⟨W.heap.size, 0, none⟩) 1 1, .int .i64 0, .bool false, .int .i64 0, .bool false, .int .u64 0]] W' fun e w' => e = .returned (.tuple #[.string S2, .int .i64 0]) ∧ Below W'.heap.size W' w') := fun W W' hw => enc_one (c := 1) (one_at 0 hw sf) sub_may hS2
  have HA1 : Hid (∀ W p, Al w W p mc0 → Calls Tryz.prog 11 #[.pointer (some ⟨p, 0, none⟩), .string S1] W fun e W' => e = .returned (.agg #[.int .i64 0, .int .u64 1, .int .u64 0]) ∧ Al w W' p m1) := fun W p h => by
    have := h.ap f0 S1 z1 (y := ⟨0, 1, 0⟩) (by rw [a1])
    rw [a1] at this
    exact this
  have HA2 : Hid (∀ W p, Al w W p m1 → Calls Tryz.prog 11 #[.pointer (some ⟨p, 0, none⟩), .string S2] W fun e W' => e = .returned (.agg #[.int .i64 0, .int .u64 1, .int .u64 0]) ∧ Al w W' p m2) := fun W p h => by
    have := h.ap f1 S2 z2 (y := ⟨0, 1, 0⟩) (by rw [a2])
    rw [a2] at this
    exact this
  have HA3 : Hid (∀ W p, Al w W p m2 → Calls Tryz.prog 11 #[.pointer (some ⟨p, 0, none⟩), .string S2] W fun e W' => e = .returned (.agg #[.int .i64 0, .int .u64 1, .int .u64 0]) ∧ Al w W' p m2) := fun W p h => by
    have := h.ap f2 S2 z2 (y := ⟨0, 1, 0⟩) (by rw [a3])
    rw [a3] at this
    exact this
  have HSG : Hid (∀ W p, Al w W p m2 → Calls Tryz.prog 18 #[.pointer (some ⟨p, 0, none⟩)] W fun e W' => ∃ A c, e = .returned (.slice A 1 c) ∧ Below W.heap.size W W') := fun W p h => (h.sagas f2).mono fun e W' ⟨A, c, k1, k2, k3⟩ => ⟨A, c, k1, k3⟩
  clear hS1 hS2 sf z1 z2 a1 a2 a3 f0 f1 f2
  go_enter Tryz.func7, Tryz.ntmps7
  go_wp2_with fail
  go_at_call 9
  refine HNEW.out.mono ?_
  rintro e w1 ⟨p, rfl, hal⟩
  have HAL := Lib.hid hal
  clear hal
  go_wp2_with fail
  go_at_call 22
  refine (HE1.out _).mono ?_
  rintro e w2 ⟨rfl, hb2⟩
  have HAL2 := Lib.hid (HAL.out.below hb2)
  clear hb2
  obtain ⟨w3, hw3⟩ : ∃ w3, w2.alloc (.cells #[.int .i64 0, .string ⟨#[115]⟩, .int .i64 1] 67) = w3 := ⟨_, rfl⟩
  have HW3 := Lib.hid hw3
  have HAL3 : Hid (Al w w3 p mc0) := by rw [← hw3]; exact HAL2.out.below ((Below.refl _ _).alloc (Nat.le_refl _) _)
  clear hw3
  go_wp2_with fail
  go_at_call 22
  rw [HW3.out]
  refine (HE2.out w2 w3 HW3.out).mono ?_
  rintro e w4 ⟨rfl, hb4⟩
  have HAL4 := Lib.hid (HAL3.out.below hb4)
  clear hb4
  go_wp2_with fail
  go_at_call 11
  refine (HA1.out _ _ HAL4.out).mono ?_
  rintro e w5 ⟨rfl, hal5⟩
  have HAL5 := Lib.hid hal5
  clear hal5
  go_wp2_with fail
  go_at_call 11
  refine (HA2.out _ _ HAL5.out).mono ?_
  rintro e w6 ⟨rfl, hal6⟩
  have HAL6 := Lib.hid hal6
  clear hal6
  go_wp2_with fail
  go_at_call 11
  refine (HA3.out _ _ HAL6.out).mono ?_
  rintro e w7 ⟨rfl, hal7⟩
  have hb8 : ∀ o1 o2 o3, Below w7.heap.size w7 (((w7.alloc o1).alloc o2).alloc o3) := fun o1 o2 o3 => (((Below.refl w7.heap.size w7).alloc (Nat.le_refl _) o1).alloc (by simp) o2).alloc (by simp; omega) o3
  have HAL7 := Lib.hid (fun o1 o2 o3 => hal7.below (hb8 o1 o2 o3))
  clear hal7 hb8
  go_wp2_with fail
  go_at_call 18
  refine (HSG.out _ _ (HAL7.out _ _ _)).mono ?_
  rintro e w8 ⟨A, c, rfl, hb8⟩
  have hb9 := ((HAL7.out _ _ _).below hb8).bel
  have HB := Lib.hid hb9
  clear hb8 hb9 HAL7
  go_wp2
  go_ret
  exact ⟨rfl, HB.out⟩
end Go.Proofs.YthaepkpmpnofgaaGreat.Beg
set_option linter.unusedVariables false
set_option linter.unusedSimpArgs false
namespace Go.Proofs.YthaepkpmpnofgaaGreat.Lgt
open Go.RowKit Go.Proofs.YthaepkpmpnofgaaGreat.Kit Go.Proofs.YthaepkpmpnofgaaGreat.Blocks

/-- Texts, at A. -/
abbrev Txs (w : World) (B : Nat) (A : Option Addr) (L : List ByteArray) : Prop := Reads w B 1 A L.length (L.map Value.string)
theorem txs_at {w : World} {B : Nat} {A : Option Addr} {L : List ByteArray} (h : Txs w B A L) {k : Nat} (hk : k < L.length) : ∃ b o x, A = some ⟨b, o, none⟩ ∧ b < B ∧ L[k]? = some x ∧ w.cell? ⟨b, o + k, none⟩ = some (.string x) := by
  obtain ⟨ad, u, rfl, h1, h2, h3⟩ := Reads.at_ h hk
  have hs := Reads.spot h (by omega)
  rw [List.getElem?_map, List.getElem?_eq_getElem hk] at h2
  simp only [Option.map_some, Option.some.injEq] at h2
  subst h2
  refine ⟨ad.block, ad.off, L[k], by rw [← hs], h1, List.getElem?_eq_getElem hk, ?_⟩
  rw [hs, Addr.add_lit] at h3
  exact h3
/-- What came in: texts, how many, how long each. -/
structure Came (w : World) (A : Option Addr) (c : Nat) (L : List ByteArray) : Prop where
  txs : Txs w w.heap.size A L
  fits : L.length ≤ c
  max : c ≤ 9223372036854775807
  each : ∀ s ∈ L, s.size ≤ 9223372036854775807
set_option maxRecDepth 100000 in
set_option maxHeartbeats 4000000 in
theorem light_any {w W : World} {A : Option Addr} {c : Nat} {L : List ByteArray} (h : Came w A c L) (hb : Below w.heap.size w W) :
    Calls Tryz.prog 8 #[.slice A L.length c] W fun e W' => ∃ b, e = .returned (.bool b) ∧ Below W.heap.size W W' := by
  have hT := h.txs.below hb
  have hmax := Nat.le_trans h.fits h.max
  have heach := Lib.hid h.each
  have hsz := hb.size
  obtain ⟨n, hn⟩ : ∃ n, L.length = n := ⟨_, rfl⟩
  have HN := Lib.hid hn
  have HT := Lib.hid hT
  rw [hn] at hmax ⊢
  clear h hT hb hn
  go_enter Tryz.func8, Tryz.ntmps8
  go_wp2
  go_loopw [3, 10] (fun v x wr => ∃ (j : Nat) (y : Int), j ≤ n ∧ v = .int .i64 y ∧ x = .int .i64 (j : Int) ∧ Hid (Below W.heap.size W wr)) (fun _ x _ => n - (intOf x).toNat)
  case atStart => exact ⟨0, _, by omega, rfl, rfl, Below.refl _ _⟩
  case round =>
    obtain ⟨j, y, hj, rfl, rfl, hB⟩ := hrel
    by_cases hjn : j < n
    · obtain ⟨b, o, s, rfl, hlt, hs, hc⟩ := txs_at (HT.out.below (hB.out.mono hsz)) (k := j) (by rw [HN.out]; exact hjn)
      have hsl : s.size ≤ 9223372036854775807 := heach.out s (List.mem_of_getElem? hs)
      have HJ := Lib.hid hjn
      clear hs
      go_wp2
      refine ⟨⟨j + 1, _, HJ.out, rfl, by go_num, hB⟩, by have := HJ.out; simp [intOf]; omega⟩
    · obtain rfl : j = n := by omega
      go_wp2
      go_ret
      exact ⟨_, rfl, hB.out⟩
end Go.Proofs.YthaepkpmpnofgaaGreat.Lgt
set_option linter.unusedVariables false
set_option linter.unusedSimpArgs false
namespace Go.Proofs.YthaepkpmpnofgaaGreat.Opt
open Go.ChangeShapes Go.WideShapes Go.ChangeAt Go.RowKit Go.Deep Go.Proofs.YthaepkpmpnofgaaGreat.Kit Go.Proofs.YthaepkpmpnofgaaGreat.Lgt

/-- Texts that came in, how many. -/
structure CameT (w : World) (A : Option Addr) (n c : Nat) (L : List ByteArray) : Prop where
  len : L.length = n
  came : Came w A c L
section
variable {H : Type} {enc : TypeId × Value → H} {w : World} {b0 : Nat} {v : Value} {d : DataW H} {p : List MemPlace}
set_option maxRecDepth 100000 in
theorem arg_texts (hv : Value.okWide Tryz.prog w .any b0 22 v) (h : DataW.Trod enc Tryz.prog w 0 (fun _ => true) true 22 v d p) :
    ∃ A n c L, v = .slice A n c ∧ CameT w A n c L := by
  obtain ⟨A, n, c, rfl⟩ := okWide_slice Tryz.underlying22 hv
  obtain ⟨fuel, hf⟩ := h
  rcases open_strs Tryz.underlying22 Tryz.underlying9 (by kernel_rfl) hf with ⟨he, _⟩ | ⟨a, len, cap, m, Sx, he, _, hl, hm, hmm, _, hc⟩
  · simp [Value.cells] at he
    obtain ⟨rfl, rfl, rfl⟩ := he
    exact ⟨none, 0, 0, [], rfl, rfl, Reads.none_, by simp, by omega, by simp⟩
  · simp [Value.cells] at he
    obtain ⟨rfl, rfl, rfl⟩ := he
    simp only [if_true] at hmm
    unfold maxLen at hm hc
    refine ⟨some a, n, c, (List.range n).map Sx, rfl, by simp, ⟨by simp, fun hn => ?_⟩, by simpa using hl, by omega, fun x hx => ?_⟩
    · have hn' : 0 < n := by simpa using hn
      have h0 := (hc 0 (by omega)).1
      refine ⟨a, rfl, World.block_lt_of_cell? _ _ h0, fun j u hj => ?_⟩
      have hjn : j < n := by
        have := (List.getElem?_eq_some_iff.1 hj).1
        simpa using this
      rw [(hc j (by omega)).1, ← hj]
      simp [hjn]
    · obtain ⟨i, hi, rfl⟩ := List.mem_map.1 hx
      have := List.mem_range.1 hi
      have := (hc i (by omega)).2
      omega
end
end Go.Proofs.YthaepkpmpnofgaaGreat.Opt
