/- Apply of the program's machine, any bytes, walked. No statement is proved here. -/
import Derived.Test.YthaepkpmpnofgaaGreatHMatP
import Derived.Test.YthaepkpmpnofgaaGreatHCmdAt
import Derived.Deep.RegionHeld3
import Derived.BigRegion
import Derived.Test.YthaepkpmpnofgaaGreatGG
import Derived.Test.YthaepkpmpnofgaaGreatHNewS
import Derived.Deep.CutRange
import Derived.Test.YthaepkpmpnofgaaGreatGD
set_option linter.unusedVariables false
set_option linter.unusedSimpArgs false
namespace Go.Proofs.YthaepkpmpnofgaaGreat.KeepP
open Go.RowKit Go.Proofs.YthaepkpmpnofgaaGreat.Kit Go.Proofs.YthaepkpmpnofgaaGreat.Blocks Go.Proofs.YthaepkpmpnofgaaGreat.Ses Go.Proofs.YthaepkpmpnofgaaGreat.Rws Go.Proofs.YthaepkpmpnofgaaGreat.Boxs Go.Proofs.YthaepkpmpnofgaaGreat.Mch Go.Proofs.YthaepkpmpnofgaaGreat.SsnWalkA Go.Proofs.YthaepkpmpnofgaaGreat.MatP
open Go.Proofs.YthaepkpmpnofgaaGreat.MatD (Hs res1y)
open Go.Proofs.YthaepkpmpnofgaaGreat.Sag (Sg)
open Go.Proofs.YthaepkpmpnofgaaGreat.SagAt (At Box4 sgV)
open Go.Proofs.YthaepkpmpnofgaaGreat.Pln (u64 u64_lt u64_wrap)

set_option maxRecDepth 100000 in
theorem tell_any (A : Option Addr) (c : Nat) (s : Sg) (w : World) : Calls Tryz.prog 104 #[sgV A c s] w fun e w' => e = .returned (ryV (told s)) ∧ Below w.heap.size w w' := by
  obtain ⟨l, st, cu, fa⟩ := s
  unfold SagAt.sgV
  simp only
  have z1 := u64_wrap st
  have z2 := u64_wrap cu
  have hx := Box4.new w (.slice A l.length c) (.int .i64 st) (.int .i64 cu) (.int .i64 fa)
  have hb1 : Below w.heap.size w (w.alloc (.cells #[.slice A l.length c, .int .i64 st, .int .i64 cu, .int .i64 fa] 49)) := (Below.refl _ _).alloc (Nat.le_refl _) _
  obtain ⟨w1, hw1⟩ : ∃ w1, w.alloc (.cells #[.slice A l.length c, .int .i64 st, .int .i64 cu, .int .i64 fa] 49) = w1 := ⟨_, rfl⟩
  obtain ⟨G, hG⟩ : ∃ G, w.heap.size = G := ⟨_, rfl⟩
  have hs1 : w1.heap.size = G + 1 := by rw [← hw1, ← hG]; simp
  rw [hw1] at hx hb1
  rw [hG] at hx
  have hy := Box3.new w1 (.int .i64 0) (.int .u64 0) (.int .u64 0)
  have hb2 : Below w1.heap.size w1 (w1.alloc (.cells #[.int .i64 0, .int .u64 0, .int .u64 0] 32)) := (Below.refl _ _).alloc (Nat.le_refl _) _
  obtain ⟨w2, hw2⟩ : ∃ w2, w1.alloc (.cells #[.int .i64 0, .int .u64 0, .int .u64 0] 32) = w2 := ⟨_, rfl⟩
  rw [hw2] at hy hb2
  rw [hs1] at hy
  have hx2 := hx.below hb2
  obtain ⟨x0, x1, x2, x3⟩ : _ ∧ _ ∧ _ ∧ _ := ⟨hx2.c0, hx2.c1, hx2.c2, hx2.c3⟩
  obtain ⟨y0', y1, y2⟩ : _ ∧ _ ∧ _ := ⟨hy.c0, hy.c1, hy.c2⟩
  have yf := hy.free
  have hGl := hx2.lt
  have hYl := hy.lt
  have HW1 := Lib.hid hw1
  have HW2 := Lib.hid hw2
  have HB2 := Lib.hid (hb1.trans (hb2.mono hb1.size))
  have HZ := Lib.hid (hy.set (.int .i64 0) (.int .u64 (u64 st : Int)) (.int .u64 (u64 cu : Int)))
  clear hw1 hw2 hb1 hb2 hx hx2 hy
  go_enter Tryz.func104, Tryz.ntmps104
  go_upto_region 1 with fail
  rw [HW1.out, HW2.out]
  go_wp2
  refine bodyPost_ret (res1y (q := 2) rfl _ rfl HZ.out.1) rfl ?_
  exact ⟨rfl, HB2.out.trans (HZ.out.2.below HB2.out.size fun k hk => by have := HB2.out.size; omega)⟩
section
variable {B : Nat} {w w' : World} {p pt q : Nat} {vR : Value} {m : Mc} {ks ks' : List (Nat × Hs)}
set_option maxRecDepth 100000 in
theorem pnew_any (w : World) : Calls Tryz.prog 9 #[] w fun e w' => ∃ p pt q vR, e = .returned (.pointer (some ⟨p, 0, none⟩)) ∧ MP w.heap.size w' p pt q vR mc0 [] ∧ Below w.heap.size w w' := by
  go_enter Tryz.func9, Tryz.ntmps9
  go_wp2_with fail
  go_at_call 23
  refine (SsnWalkA.new_any w).mono ?_
  rintro e w1 ⟨pt, v, rfl, ht, hb⟩
  have HT := Lib.hid ht
  have HB := Lib.hid hb
  clear ht hb
  have hmm := @run_makeMap Tryz.prog
  go_wp2
  go_ret
  have ha1 : Below w1.heap.size w1 (w1.alloc (.map #[] 0)) := (Below.refl _ _).alloc (Nat.le_refl _) _
  have hsz : (w1.alloc (.map #[] 0)).heap.size = w1.heap.size + 1 := by simp
  have ha2 : Below (w1.alloc (.map #[] 0)).heap.size (w1.alloc (.map #[] 0)) ((w1.alloc (.map #[] 0)).alloc (.cells #[.pointer (some ⟨pt, 0, none⟩), .map (some w1.heap.size)] 72)) := (Below.refl _ _).alloc (Nat.le_refl _) _
  have ht2 := (HT.out.below ha1).below ha2
  have hlt := fun g (hg : Mine pt v g) => HT.out.mine_lt hg
  have hsm := (sm_new w1).keep (S := fun _ => False) (Only.of_below ha2) (by simp)
  have hbl := heap_alloc_new (w1.alloc (.map #[] 0)) (.cells #[.pointer (some ⟨pt, 0, none⟩), .map (some w1.heap.size)] 72 (0, 0))
  rw [hsz] at hbl
  have hs1 := HB.out.size
  refine ⟨w1.heap.size + 1, pt, w1.heap.size, v, rfl, ⟨by omega, hs1, hbl, ht2, rfl, hsm, by omega, fun e => ?_, fun e => ?_, by simp⟩, HB.out.trans ((ha1.trans (ha2.mono ha1.size)).mono hs1)⟩
  · have := (hlt _ e).2; omega
  · have := (hlt _ e).2; omega
set_option maxRecDepth 100000 in
theorem keep_any (h : MP B w p pt q vR m ks) {id : Nat} (hu : U id) {e : Hs} (h16 : ks.length ≤ 1000) (hl : ks'.length = if (lookS ks id).isSome then ks.length else ks.length + 1) (hk : ∀ i, lookS ks' i = if i = id then some e else lookS ks i)
    {l' : List (Nat × Sg)} (hp : pure1 ks' = l') (hm : ∀ x ∈ ks', x = (id, e) ∨ x ∈ ks) (hat : At w e.A e.s.l) (hoff : 0 < e.s.l.length → ∀ ad, e.A = some ad → ¬ Own p pt q vR ad.block) :
    Calls Tryz.prog 70 #[.pointer (some ⟨p, 0, none⟩), .int .u64 (id : Int), hsV e] w fun en w' => en = .returned (ryV (told e.s)) ∧ MP B w' p pt q vR ⟨m.t, l'⟩ ks' ∧ Only (fun g => g = q) w w' := by
  obtain ⟨A, c, ⟨l, st, cu, fa⟩⟩ := e
  simp only at hat hoff
  have hat0 := hat
  have hx := Box4.new w (.slice A l.length c) (.int .i64 st) (.int .i64 cu) (.int .i64 fa)
  have hb1 : Below w.heap.size w (w.alloc (.cells #[.slice A l.length c, .int .i64 st, .int .i64 cu, .int .i64 fa] 49)) := (Below.refl _ _).alloc (Nat.le_refl _) _
  obtain ⟨w1, hw1⟩ : ∃ w1, w.alloc (.cells #[.slice A l.length c, .int .i64 st, .int .i64 cu, .int .i64 fa] 49) = w1 := ⟨_, rfl⟩
  obtain ⟨G, hG⟩ : ∃ G, w.heap.size = G := ⟨_, rfl⟩
  have hs1 : w1.heap.size = G + 1 := by rw [← hw1, ← hG]; simp
  rw [hw1] at hx hb1
  have hy := Box3.new w1 (.int .i64 0) (.int .u64 0) (.int .u64 0)
  have hb2 : Below w1.heap.size w1 (w1.alloc (.cells #[.int .i64 0, .int .u64 0, .int .u64 0] 32)) := (Below.refl _ _).alloc (Nat.le_refl _) _
  obtain ⟨w2, hw2⟩ : ∃ w2, w1.alloc (.cells #[.int .i64 0, .int .u64 0, .int .u64 0] 32) = w2 := ⟨_, rfl⟩
  rw [hw2] at hy hb2
  have hx2 := hx.below hb2
  have hbb : Below w.heap.size w w2 := hb1.trans (hb2.mono hb1.size)
  have h2 := h.below hbb
  have hat2 := hat.below hbb
  have hx2d := hx2
  have hD : Below w.heap.size w w2.drew := hbb.drew
  have h2 := h.below hD
  have hat2 := hat.below hD
  obtain ⟨w3, hrun, hs3, ho3⟩ := h2.sm.store (ks' := ks') h16 hu ⟨A, c, ⟨l, st, cu, fa⟩⟩ hl hk
  have h3 := h2.stored hs3 ho3 hp (y := (id, ⟨A, c, ⟨l, st, cu, fa⟩⟩)) hm hat2 hoff
  unfold hsV SagAt.sgV at hrun
  simp only at hrun
  have hqx : q < w.heap.size := h.sm.lt
  have hx3 := (Box4.mk (w := w2.drew) hx2.blk).keep (RdT.only_s ho3) (by omega)
  have hy3 := (Box3.mk (w := w2.drew) hy.blk).keep ho3 (by rw [hs1]; omega)
  have hs2 : w2.heap.size = G + 2 := by rw [← hw2]; simp [hs1]
  have c1 := h2.c1
  have hpl := h2.plt
  rw [hG] at hx2 hx3
  rw [hs1] at hy hy3
  obtain ⟨x0, x1, x2, x3⟩ : _ ∧ _ ∧ _ ∧ _ := ⟨hx2.c0, hx2.c1, hx2.c2, hx2.c3⟩
  obtain ⟨X0, X1, X2, X3⟩ : _ ∧ _ ∧ _ ∧ _ := ⟨hx3.c0, hx3.c1, hx3.c2, hx3.c3⟩
  have hGl := hx2.lt
  have hG3 := hx3.lt
  have HW1 := Lib.hid hw1
  have HW2 := Lib.hid hw2
  have HY := Lib.hid hy3
  have HO : Hid (Only (fun g => g = q) w w3) := (Only.of_below hD).trans ho3
  have HM := Lib.hid h3
  obtain ⟨⟨te, tn, tx⟩, htl⟩ : ∃ r, told ⟨l, st, cu, fa⟩ = r := ⟨_, rfl⟩
  have HT : Hid (Calls Tryz.prog 104 #[.agg #[.slice A l.length c, .int .i64 st, .int .i64 cu, .int .i64 fa]] w3 fun e w' => e = .returned (.agg #[.int .i64 te, .int .u64 (tn : Int), .int .u64 (tx : Int)]) ∧ Below w3.heap.size w3 w') := by
    have := tell_any A c ⟨l, st, cu, fa⟩ w3
    rw [htl] at this
    exact this
  have HTL := Lib.hid htl
  clear htl
  have hnq : G ≤ G + 1 := by omega
  have HQ2 : Hid ((∀ g, Own p pt q vR g → g < G) ∧ (∀ g, St ks' g → g < G)) := by
    refine ⟨fun g hg => by have := (h.own_lt hg).2; omega, fun g hg => ?_⟩
    obtain ⟨x, hxk, hn, ad, e1, rfl⟩ := hg
    rcases hm x hxk with rfl | hxo
    · obtain ⟨ad', e2, e3, _⟩ := hat0.rs.2 hn
      simp only at e1
      rw [e1] at e2
      cases e2
      omega
    · have := h.st_lt ⟨x, hxo, hn, ad, e1, rfl⟩; omega
  have HQ : Hid (q < G + 1 ∧ w.heap.size = G) := ⟨by omega, hG⟩
  clear hw1 hw2 hb1 hb2 hx hx2 hx2d hD hx3 hy hy3 hbb h2 h3 hat hat0 hat2 hs3 ho3 hoff hl hk hp hm h
  unfold hsV SagAt.sgV
  simp only
  go_enter Tryz.func70, Tryz.ntmps70
  go_upto_region 1 with fail
  rw [HW1.out, HW2.out]
  go_wp2_with fail
  go_region
  go_wp2_with fail
  go_at_call 104
  refine HT.out.mono ?_
  rintro en w4 ⟨rfl, hb4⟩
  have hy4 := HY.out.below hb4
  obtain ⟨y0', y1, y2⟩ : _ ∧ _ ∧ _ := ⟨hy4.c0, hy4.c1, hy4.c2⟩
  have yf := hy4.free
  have hYl := hy4.lt
  have hMz := HM.out.below hb4
  have HZ := Lib.hid (hy4.set (.int .i64 te) (.int .u64 (tn : Int)) (.int .u64 (tx : Int)))
  have HF : Hid (MP B ((((w4.setCell ⟨G + 1, 0, none⟩ (.int .i64 te)).setCell ⟨G + 1, 1, none⟩ (.int .u64 (tn : Int))).setCell ⟨G + 1, 2, none⟩ (.int .u64 (tx : Int)))) p pt q vR ⟨m.t, l'⟩ ks' ∧
      Only (fun g => g = q) w (((w4.setCell ⟨G + 1, 0, none⟩ (.int .i64 te)).setCell ⟨G + 1, 1, none⟩ (.int .u64 (tn : Int))).setCell ⟨G + 1, 2, none⟩ (.int .u64 (tx : Int)))) :=
    ⟨hMz.box (fun hg => by have := HQ2.out.1 _ hg; omega) (fun hg => by have := HQ2.out.2 _ hg; omega) HZ.out.2, (HO.out.thenBelow hb4).trans' HZ.out.2 fun g hg => .inr (by have := HQ.out.2; omega)⟩
  clear hb4 hy4 hMz
  go_wp2
  refine bodyPost_ret (res1y (q := 6) rfl _ rfl HZ.out.1) rfl ?_
  exact ⟨by rw [HTL.out]; rfl, HF.out⟩
end
end Go.Proofs.YthaepkpmpnofgaaGreat.KeepP
set_option linter.unusedVariables false
set_option linter.unusedSimpArgs false
namespace Go.Proofs.YthaepkpmpnofgaaGreat.OutP
open Go.RowKit Go.Proofs.YthaepkpmpnofgaaGreat.Kit Go.Proofs.YthaepkpmpnofgaaGreat.Blocks Go.Proofs.YthaepkpmpnofgaaGreat.Ses Go.Proofs.YthaepkpmpnofgaaGreat.Rws Go.Proofs.YthaepkpmpnofgaaGreat.Boxs Go.Proofs.YthaepkpmpnofgaaGreat.Mch Go.Proofs.YthaepkpmpnofgaaGreat.SsnWalkA Go.Proofs.YthaepkpmpnofgaaGreat.MatP Go.Proofs.YthaepkpmpnofgaaGreat.KeepP
open Go.Proofs.YthaepkpmpnofgaaGreat.MatD (Hs res1y)
open Go.Proofs.YthaepkpmpnofgaaGreat.Sag (Sg takes outc abort)
open Go.Proofs.YthaepkpmpnofgaaGreat.SagAt (At Box4 sgV)
open Go.Proofs.YthaepkpmpnofgaaGreat.Cmd (Cm)
open Go.Proofs.YthaepkpmpnofgaaGreat.CmdAt (cmV CAt Bx cm_box)

section
variable {B : Nat} {w w' W W' : World} {p pt q P G : Nat} {vR vR' : Value} {m m' : Mc} {ks ks' : List (Nat × Hs)} {A : Option Addr} {n c : Nat} {k : Cm}
theorem outc_l (s : Sg) (a : Int) (b : Bool) (d : Int) (e : Bool) : (Sag.outc s a b d e).l = s.l := by
  unfold Sag.outc Sag.next Sag.back
  split
  · split
    · rfl
    · first | (split <;> first | rfl | (split <;> first | rfl | (split <;> rfl))) | rfl
  · rfl
/-- The reply is laid, the call is at its end. -/
theorem LeftP.close (h : MP B w p pt q vR m ks) (ho : Only (Own p pt q vR) w W) (h' : MP B W p pt q vR' m' ks') (hf : ∀ g, Own p pt q vR' g → Own p pt q vR g ∨ w.heap.size ≤ g) (hs : ∀ r, St ks' r → St ks r ∨ w.heap.size ≤ r) (hP : w.heap.size ≤ P) (hPn : ¬ St ks' P) (hPo : ¬ Own p pt q vR' P) (o : Only (fun g => g = P) W W') : LeftP B w p pt q vR ks m' W' :=
  ⟨vR', ks', h'.box hPo hPn o, ho.trans' o fun g hg => .inr (by omega), hf, hs⟩
/-- A command's box and a reply's box were made. -/
structure Two (w W : World) (G : Nat) (A : Option Addr) (n c : Nat) (k : Cm) : Prop where
  below : Below w.heap.size w W
  size : W.heap.size = G + 2
  was : w.heap.size = G
  cm : Bx W G (.int .i64 k.k) (.int .u64 (k.ss : Int)) (.int .u64 (k.sq : Int)) (.int .u64 (k.sg : Int)) (.slice A n c) (.int .i64 k.st) (.bool k.bk) (.int .i64 k.tr) (.bool k.ok) (.int .u64 (k.nw : Int))
  ry : Box3 W (G + 1) (.int .i64 0) (.int .u64 0) (.int .u64 0)
  cat : CAt W A n k
theorem two_new (c : Nat) (hc : CAt w A n k) : ∃ w1 w2 G, Hid (w.alloc (.cells #[.int .i64 k.k, .int .u64 (k.ss : Int), .int .u64 (k.sq : Int), .int .u64 (k.sg : Int), .slice A n c, .int .i64 k.st, .bool k.bk, .int .i64 k.tr, .bool k.ok, .int .u64 (k.nw : Int)] 42) = w1) ∧
    Hid (w1.alloc (.cells #[.int .i64 0, .int .u64 0, .int .u64 0] 32) = w2) ∧ Hid (w.heap.size = G) ∧ Hid (w1.heap.size = G + 1) ∧ Two w w2 G A n c k := by
  obtain ⟨w1, hw1, hx, hc1, hb1⟩ := cm_box c hc
  have hs1 : w1.heap.size = w.heap.size + 1 := by rw [← hw1.out]; simp
  have hy := Box3.new w1 (.int .i64 0) (.int .u64 0) (.int .u64 0)
  have hb2 : Below w1.heap.size w1 (w1.alloc (.cells #[.int .i64 0, .int .u64 0, .int .u64 0] 32)) := (Below.refl _ _).alloc (Nat.le_refl _) _
  rw [hs1] at hy
  exact ⟨w1, _, w.heap.size, hw1, Lib.hid rfl, Lib.hid rfl, Lib.hid hs1, hb1.trans (hb2.mono hb1.size), by simp [hs1], rfl, hx.below hb2, hy, hc1.below hb2⟩
/-- A look-up, wherever a box may have been made ahead of it. -/
def Looks (W : World) (q id : Nat) (v : Value) : Prop :=
  ∀ W', (W' = W ∨ W' = W.drew ∨ ∃ o, W' = W.alloc o ∨ W' = (W.alloc o).drew) → (Instr.lookup 70 (.map (some q)) (.int .u64 (id : Int)) true).run Tryz.prog W' = .ok v W'
theorem looks_of (h : MP B w p pt q vR m ks) {id : Nat} (hu : U id) {v : Value} (hv : (.tuple #[(match lookS ks id with | some e => hsV e | none => zeroV), .bool (lookS ks id).isSome] : Value) = v) : Looks w q id v := by
  subst hv
  intro W' hW
  have hs : SM W' q ks := by
    rcases hW with rfl | rfl | ⟨o, rfl | rfl⟩
    · exact h.sm
    · exact h.sm.keep (S := fun _ => False) ((Only.refl _ w).drew) (by simp)
    · exact h.sm.keep (S := fun _ => False) ((Only.refl _ w).alloc o) (by simp)
    · exact h.sm.keep (S := fun _ => False) (((Only.refl _ w).alloc o).drew) (by simp)
  exact hs.look hu
theorem Looks.four {W : World} {id : Nat} {v : Value} (h : Looks W q id v) :
    (Instr.lookup 70 (.map (some q)) (.int .u64 (id : Int)) true).run Tryz.prog W = .ok v W ∧
    (Instr.lookup 70 (.map (some q)) (.int .u64 (id : Int)) true).run Tryz.prog W.drew = .ok v W.drew ∧
    (∀ o, (Instr.lookup 70 (.map (some q)) (.int .u64 (id : Int)) true).run Tryz.prog (W.alloc o) = .ok v (W.alloc o)) ∧
    (∀ o, (Instr.lookup 70 (.map (some q)) (.int .u64 (id : Int)) true).run Tryz.prog (W.alloc o).drew = .ok v (W.alloc o).drew) :=
  ⟨h _ (.inl rfl), h _ (.inr (.inl rfl)), fun o => h _ (.inr (.inr ⟨o, .inl rfl⟩)), fun o => h _ (.inr (.inr ⟨o, .inr rfl⟩))⟩
theorem look_no (h : MP B w p pt q vR m ks) {id : Nat} (hu : U id) (hn : seekS m.l id = none) : Looks w q id (.tuple #[.agg #[.slice none 0 0, .int .i64 0, .int .i64 0, .int .i64 0], .bool false]) := by
  have hl := seek_none (ks := ks) (id := id) (by rw [h.said]; exact hn)
  exact looks_of h hu (by rw [hl]; rfl)
theorem look_yes (h : MP B w p pt q vR m ks) {id j : Nat} (hu : U id) (hn : seekS m.l id = some j) : ∃ e, lookS ks id = some e ∧ ks[j]? = some (id, e) ∧ m.l[j]? = some (id, e.s) ∧ At w e.A e.s.l ∧ (0 < e.s.l.length → ∀ ad, e.A = some ad → ¬ Own p pt q vR ad.block) ∧
    Looks w q id (.tuple #[.agg #[.slice e.A e.s.l.length e.c, .int .i64 e.s.st, .int .i64 e.s.cu, .int .i64 e.s.fa], .bool true]) := by
  obtain ⟨e, h1, h2⟩ := seek_at (ks := ks) (id := id) (by rw [h.said]; exact hn)
  refine ⟨e, h1, h2, by rw [← h.said]; simp [pure1, h2], (h.steps _ (List.mem_of_getElem? h2)).1, (h.steps _ (List.mem_of_getElem? h2)).2, looks_of h hu (by rw [h1]; rfl)⟩
/-- A third box: a saga's. -/
structure Thr (w W : World) (G : Nat) (A : Option Addr) (n c : Nat) (k : Cm) (a b d e : Value) : Prop where
  below : Below w.heap.size w W
  size : W.heap.size = G + 3
  was : w.heap.size = G
  cm : Bx W G (.int .i64 k.k) (.int .u64 (k.ss : Int)) (.int .u64 (k.sq : Int)) (.int .u64 (k.sg : Int)) (.slice A n c) (.int .i64 k.st) (.bool k.bk) (.int .i64 k.tr) (.bool k.ok) (.int .u64 (k.nw : Int))
  ry : Box3 W (G + 1) (.int .i64 0) (.int .u64 0) (.int .u64 0)
  sg : Box4 W (G + 2) a b d e
  cat : CAt W A n k
theorem Two.thr (T : Two w W G A n c k) (a b d e : Value) : Thr w (W.alloc (.cells #[a, b, d, e] 49)).drew G A n c k a b d e := by
  have hb : Below W.heap.size W (W.alloc (.cells #[a, b, d, e] 49)).drew := ((Below.refl _ _).alloc (Nat.le_refl _) _).drew
  have hx := Box4.new W a b d e
  rw [T.size] at hx
  exact ⟨T.below.trans (hb.mono T.below.size), by show (W.alloc _).heap.size = _; simp [T.size], T.was, T.cm.below hb, T.ry.below hb, ⟨hx.blk⟩, T.cat.below hb⟩
/-- A reply is laid in a box of the call's own: nothing elder has changed. -/
theorem ry_below (hb : Below w.heap.size w W) {r : Nat} (hr : w.heap.size ≤ r) {u0 u1 u2 v0 v1 v2 : Value} (h : Box3 W r u0 u1 u2) : Below w.heap.size w (((W.setCell ⟨r, 0, none⟩ v0).setCell ⟨r, 1, none⟩ v1).setCell ⟨r, 2, none⟩ v2) :=
  hb.trans ((h.set v0 v1 v2).2.below hb.size fun g hg => by omega)
set_option maxRecDepth 100000 in
theorem pout_no (h : MP B w p pt q vR m ks) (hc : CAt w A n k) (hn : seekS m.l k.sg = none) :
    Calls Tryz.prog 27 #[.pointer (some ⟨p, 0, none⟩), cmV A n c k] w fun e w' => e = .returned (ryV (yE 43)) ∧ Below w.heap.size w w' := by
  obtain ⟨w1, w2, G, HW1, HW2, HG, HG1, T⟩ := two_new c hc
  have h2 := h.below T.below
  obtain ⟨l1, l2, l3, l4⟩ := (look_no h2 hc.fin.sg hn).four
  have c1 := h2.c1
  have hpl := h2.plt
  have k3 := T.cm.c3
  have hGl := T.cm.lt
  have T3 := T.thr (.slice none 0 0) (.int .i64 0) (.int .i64 0) (.int .i64 0)
  obtain ⟨w3, hw3⟩ : ∃ w3, (w2.alloc (.cells #[.slice none 0 0, .int .i64 0, .int .i64 0, .int .i64 0] 49)).drew = w3 := ⟨_, rfl⟩
  rw [hw3] at T3
  have HW3 := Lib.hid hw3
  have HS2 := Lib.hid T.size
  have hy := T3.ry
  obtain ⟨y0', y1, y2⟩ : _ ∧ _ ∧ _ := ⟨hy.c0, hy.c1, hy.c2⟩
  have yf := hy.free
  have hYl := hy.lt
  have HZ := Lib.hid (hy.set (.int .i64 43) (.int .u64 0) (.int .u64 0))
  have HF := Lib.hid (ry_below T3.below (by rw [T3.was]; omega) hy (v0 := .int .i64 43) (v1 := .int .u64 0) (v2 := .int .u64 0))
  clear T h2 h hw3 T3 hy
  unfold CmdAt.cmV
  go_enter Tryz.func27, Tryz.ntmps27
  go_upto_region 1 with fail
  rw [HW1.out, HW2.out, HG.out]
  go_wp2_with fail
  go_region
  rw [HW3.out, HS2.out]
  clear l1 l2 l3 l4
  go_wp2
  refine bodyPost_ret (res1y (q := 4) rfl _ rfl HZ.out.1) rfl ?_
  exact ⟨rfl, HF.out⟩
set_option maxRecDepth 100000 in
set_option maxHeartbeats 2000000 in
theorem pout_stale (h : MP B w p pt q vR m ks) (hc : CAt w A n k) {j : Nat} {y : Nat × Sg} (hn : seekS m.l k.sg = some j) (hy : m.l[j]? = some y) (ht : takes y.2 k.st k.bk k.tr k.ok = false) :
    Calls Tryz.prog 27 #[.pointer (some ⟨p, 0, none⟩), cmV A n c k] w fun e w' => e = .returned (ryV (yE 41)) ∧ Below w.heap.size w w' := by
  obtain ⟨w1, w2, G, HW1, HW2, HG, HG1, T⟩ := two_new c hc
  have h2 := h.below T.below
  obtain ⟨e, e1, e2, e3, hat, hoff, hlk⟩ := look_yes h2 hc.fin.sg hn
  rw [hy] at e3
  cases e3
  obtain ⟨l1, l2, l3, l4⟩ := hlk.four
  have c1 := h2.c1
  have hpl := h2.plt
  have k3 := T.cm.c3
  have hGl := T.cm.lt
  obtain ⟨eA, ec, ⟨el, est, ecu, efa⟩⟩ := e
  simp only at hat hoff ht l1 l2 l3 l4
  obtain ⟨⟨tl, ts, tc, tf⟩, ho⟩ : ∃ r, outc ⟨el, est, ecu, efa⟩ k.st k.bk k.tr k.ok = r := ⟨_, rfl⟩
  have T3 := T.thr (.slice eA el.length ec) (.int .i64 est) (.int .i64 ecu) (.int .i64 efa)
  obtain ⟨w3, hw3⟩ : ∃ w3, (w2.alloc (.cells #[.slice eA el.length ec, .int .i64 est, .int .i64 ecu, .int .i64 efa] 49)).drew = w3 := ⟨_, rfl⟩
  rw [hw3] at T3
  have hb23 : Below w2.heap.size w2 w3 := by rw [← hw3]; exact ((Below.refl _ _).alloc (Nat.le_refl _) _).drew
  have HW3 := Lib.hid hw3
  have HS2 := Lib.hid T.size
  have HC := Lib.hid (SgaWalkC.outcome_any ec (s := ⟨el, est, ecu, efa⟩) (hat.below hb23) k.st k.bk k.tr k.ok (Lib.hid ho) (Lib.hid ht))
  obtain ⟨x0, x1, x2, x3⟩ : _ ∧ _ ∧ _ ∧ _ := ⟨T3.sg.c0, T3.sg.c1, T3.sg.c2, T3.sg.c3⟩
  obtain ⟨k5, k6, k7, k8⟩ : _ ∧ _ ∧ _ ∧ _ := ⟨T3.cm.c5, T3.cm.c6, T3.cm.c7, T3.cm.c8⟩
  have hG3 := T3.cm.lt
  have hS3 := T3.sg.lt
  have HT3 := Lib.hid T3
  clear T h2 h hw3 T3 hb23 hat hoff ht e1 e2 hy hlk
  unfold CmdAt.cmV
  go_enter Tryz.func27, Tryz.ntmps27
  go_upto_region 1 with fail
  rw [HW1.out, HW2.out, HG.out]
  go_wp2_with fail
  go_region
  rw [HW3.out, HS2.out]
  clear l1 l2 l3 l4
  go_wp2_with fail
  go_at_call 69
  refine HC.out.mono ?_
  rintro en w4 ⟨A4, c4, he, hA4, hF4, hb4⟩
  unfold SagAt.sgV at he
  simp only at he
  subst he
  have hx4 := HT3.out.sg.below hb4
  have hy4 := HT3.out.ry.below hb4
  have hk4 := HT3.out.cm.below hb4
  obtain ⟨x40, x41, x42, x43⟩ : _ ∧ _ ∧ _ ∧ _ := ⟨hx4.c0, hx4.c1, hx4.c2, hx4.c3⟩
  have xf := hx4.free
  have hXl := hx4.lt
  obtain ⟨w5, hw5⟩ : ∃ w5, (((w4.setCell ⟨G + 2, 0, none⟩ (.slice A4 tl.length c4)).setCell ⟨G + 2, 1, none⟩ (.int .i64 ts)).setCell ⟨G + 2, 2, none⟩ (.int .i64 tc)).setCell ⟨G + 2, 3, none⟩ (.int .i64 tf) = w5 := ⟨_, rfl⟩
  have hset := hx4.set (.slice A4 tl.length c4) (.int .i64 ts) (.int .i64 tc) (.int .i64 tf)
  rw [hw5] at hset
  have hy5 : Box3 w5 (G + 1) (.int .i64 0) (.int .u64 0) (.int .u64 0) := hy4.keep (RdT.only_b hset.2) (by omega)
  have hb5 : Below w.heap.size w w5 := (HT3.out.below.trans (hb4.mono HT3.out.below.size)).trans ((RdT.only_b hset.2).below (by have := HT3.out.below.size; have := hb4.size; omega) fun g hg => by have := HT3.out.was; omega)
  obtain ⟨y0', y1, y2⟩ : _ ∧ _ ∧ _ := ⟨hy5.c0, hy5.c1, hy5.c2⟩
  have yf := hy5.free
  have hYl := hy5.lt
  have HZ := Lib.hid (hy5.set (.int .i64 41) (.int .u64 0) (.int .u64 0))
  have HF := Lib.hid (ry_below hb5 (by have := HT3.out.was; omega) hy5 (v0 := .int .i64 41) (v1 := .int .u64 0) (v2 := .int .u64 0))
  have HW5 := Lib.hid hw5
  clear hw5 hset hy5 hb5 hx4 hy4 hk4 hA4 hF4 hb4
  go_upto_region 5 with fail
  rw [HW5.out]
  go_wp2
  refine bodyPost_ret (res1y (q := 4) rfl _ rfl HZ.out.1) rfl ?_
  exact ⟨rfl, HF.out⟩
set_option maxRecDepth 100000 in
set_option maxHeartbeats 2000000 in
theorem pout_yes (h : MP B w p pt q vR m ks) (hc : CAt w A n k) {j : Nat} {y : Nat × Sg} (hn : seekS m.l k.sg = some j) (hy : m.l[j]? = some y) (ht : takes y.2 k.st k.bk k.tr k.ok = true) (h16 : ks.length ≤ 1000) :
    Calls Tryz.prog 27 #[.pointer (some ⟨p, 0, none⟩), cmV A n c k] w fun e w' => e = .returned (ryV (told (outc y.2 k.st k.bk k.tr k.ok))) ∧ LeftP B w p pt q vR ks ⟨m.t, m.l.set j (k.sg, outc y.2 k.st k.bk k.tr k.ok)⟩ w' := by
  obtain ⟨w1, w2, G, HW1, HW2, HG, HG1, T⟩ := two_new c hc
  have h2 := h.below T.below
  obtain ⟨e, e1, e2, e3, hat, hoff, hlk⟩ := look_yes h2 hc.fin.sg hn
  rw [hy] at e3
  cases e3
  obtain ⟨l1, l2, l3, l4⟩ := hlk.four
  have c1 := h2.c1
  have hpl := h2.plt
  have k3 := T.cm.c3
  have hGl := T.cm.lt
  obtain ⟨eA, ec, ⟨el, est, ecu, efa⟩⟩ := e
  simp only at hat hoff ht l1 l2 l3 l4
  obtain ⟨⟨tl, ts, tc, tf⟩, ho⟩ : ∃ r, outc ⟨el, est, ecu, efa⟩ k.st k.bk k.tr k.ok = r := ⟨_, rfl⟩
  have T3 := T.thr (.slice eA el.length ec) (.int .i64 est) (.int .i64 ecu) (.int .i64 efa)
  obtain ⟨w3, hw3⟩ : ∃ w3, (w2.alloc (.cells #[.slice eA el.length ec, .int .i64 est, .int .i64 ecu, .int .i64 efa] 49)).drew = w3 := ⟨_, rfl⟩
  rw [hw3] at T3
  have hb23 : Below w2.heap.size w2 w3 := by rw [← hw3]; exact ((Below.refl _ _).alloc (Nat.le_refl _) _).drew
  have HW3 := Lib.hid hw3
  have HS2 := Lib.hid T.size
  have HC := Lib.hid (SgaWalkC.outcome_any ec (s := ⟨el, est, ecu, efa⟩) (hat.below hb23) k.st k.bk k.tr k.ok (Lib.hid ho) (Lib.hid ht))
  obtain ⟨x0, x1, x2, x3⟩ : _ ∧ _ ∧ _ ∧ _ := ⟨T3.sg.c0, T3.sg.c1, T3.sg.c2, T3.sg.c3⟩
  obtain ⟨k5, k6, k7, k8⟩ : _ ∧ _ ∧ _ ∧ _ := ⟨T3.cm.c5, T3.cm.c6, T3.cm.c7, T3.cm.c8⟩
  have hG3 := T3.cm.lt
  have hS3 := T3.sg.lt
  have HT3 := Lib.hid T3
  have HH : Hid (MP B w p pt q vR m ks ∧ seekS m.l k.sg = some j ∧ (lookS ks k.sg).isSome = true ∧ U k.sg) := ⟨h, hn, by rw [e1]; rfl, hc.fin.sg⟩
  have hol : tl = el := by
    have := outc_l ⟨el, est, ecu, efa⟩ k.st k.bk k.tr k.ok
    rw [ho] at this
    exact this
  have HO := Lib.hid ho
  clear ho hol T h2 h hw3 T3 hb23 hat hoff ht e1 e2 hy hlk
  unfold CmdAt.cmV
  go_enter Tryz.func27, Tryz.ntmps27
  go_upto_region 1 with fail
  rw [HW1.out, HW2.out, HG.out]
  go_wp2_with fail
  go_region
  rw [HW3.out, HS2.out]
  clear l1 l2 l3 l4
  go_wp2_with fail
  go_at_call 69
  refine HC.out.mono ?_
  rintro en w4 ⟨A4, c4, he, hA4, hF4, hb4⟩
  unfold SagAt.sgV at he
  simp only at he
  subst he
  have hx4 := HT3.out.sg.below hb4
  have hy4 := HT3.out.ry.below hb4
  have hk4 := HT3.out.cm.below hb4
  obtain ⟨x40, x41, x42, x43⟩ : _ ∧ _ ∧ _ ∧ _ := ⟨hx4.c0, hx4.c1, hx4.c2, hx4.c3⟩
  have xf := hx4.free
  have hXl := hx4.lt
  obtain ⟨w5, hw5⟩ : ∃ w5, (((w4.setCell ⟨G + 2, 0, none⟩ (.slice A4 tl.length c4)).setCell ⟨G + 2, 1, none⟩ (.int .i64 ts)).setCell ⟨G + 2, 2, none⟩ (.int .i64 tc)).setCell ⟨G + 2, 3, none⟩ (.int .i64 tf) = w5 := ⟨_, rfl⟩
  have hset := hx4.set (.slice A4 tl.length c4) (.int .i64 ts) (.int .i64 tc) (.int .i64 tf)
  rw [hw5] at hset
  have hy5 : Box3 w5 (G + 1) (.int .i64 0) (.int .u64 0) (.int .u64 0) := hy4.keep (RdT.only_b hset.2) (by omega)
  have hk5 := hk4.keep hset.2 (by omega)
  obtain ⟨hM, hsk, hsome, hu⟩ := HH.out
  have hwG := HT3.out.was
  have hs3 := HT3.out.size
  have hs4 := hb4.size
  have hb4w : Below w.heap.size w w4 := HT3.out.below.trans (hb4.mono HT3.out.below.size)
  have hb5 : Below w.heap.size w w5 := hb4w.trans ((RdT.only_b hset.2).below hb4w.size fun g hg => by omega)
  have hM5 := hM.below hb5
  have hA5 : At w5 A4 tl := hA4.only hset.2 fun hn ad e0 e1 => by have := hF4 hn ad e0; omega
  have hlen5 : w4.heap.size ≤ w5.heap.size := hset.2.size
  have HK := Lib.hid (keep_any hM5 hu (e := ⟨A4, c4, ⟨tl, ts, tc, tf⟩⟩) (ks' := ks.set j (k.sg, ⟨A4, c4, ⟨tl, ts, tc, tf⟩⟩)) h16 (by rw [hsome, List.length_set]; rfl) (look_set (by rw [hM.said]; exact hsk) _) (by rw [set_pure, hM.said])
    (fun x hx => (List.mem_or_eq_of_mem_set hx).symm) hA5 (fun hn ad e0 ho => by have h1 := hF4 hn ad e0; have h2 := (hM.own_lt ho).2; omega))
  have HST : Hid (∀ r, St (ks.set j (k.sg, ⟨A4, c4, ⟨tl, ts, tc, tf⟩⟩)) r → r < G ∨ G + 3 ≤ r) := fun r hr => by
    obtain ⟨x, hx, hn, ad, e0, rfl⟩ := hr
    rcases List.mem_or_eq_of_mem_set hx with hx | rfl
    · have := hM.st_lt ⟨x, hx, hn, ad, e0, rfl⟩; omega
    · have := hF4 hn ad e0; omega
  have HST2 : Hid (∀ r, St (ks.set j (k.sg, ⟨A4, c4, ⟨tl, ts, tc, tf⟩⟩)) r → St ks r ∨ w.heap.size ≤ r) := fun r hr => by
    obtain ⟨x, hx, hn, ad, e0, rfl⟩ := hr
    rcases List.mem_or_eq_of_mem_set hx with hx | rfl
    · exact .inl ⟨x, hx, hn, ad, e0, rfl⟩
    · have := hF4 hn ad e0; exact .inr (by omega)
  have HB5 := Lib.hid hb5
  have HY5 := Lib.hid (And.intro hy5 (And.intro hwG (show G + 3 ≤ w5.heap.size by omega)))
  obtain ⟨z0, z1, z2, z3⟩ : _ ∧ _ ∧ _ ∧ _ := ⟨Box4.c0 hset.1, Box4.c1 hset.1, Box4.c2 hset.1, Box4.c3 hset.1⟩
  have z4 := hk5.c3
  have z5 := hk5.lt
  have z6 := Box4.lt hset.1
  have HW5 := Lib.hid hw5
  clear hw5 hset hy5 hb5 hx4 hy4 hk4 hk5 hA4 hF4 hb4 hM hsk hsome hu hwG hs3 hs4 hb4w hM5 hA5 hlen5
  go_upto_region 5 with fail
  rw [HW5.out]
  go_wp2_with fail
  go_at_call 70
  refine HK.out.mono ?_
  rintro en w6 ⟨he, hM6, hO6⟩
  obtain ⟨⟨te, tn, tx⟩, htl⟩ : ∃ r, told ⟨tl, ts, tc, tf⟩ = r := ⟨_, rfl⟩
  have he' : en = .returned (.agg #[.int .i64 te, .int .u64 (tn : Int), .int .u64 (tx : Int)]) := by rw [he, htl]; rfl
  subst he'
  have hq6 : q < G := by have := (HH.out.1.own_lt (.inr (.inl rfl) : Own p pt q vR q)).2; have := HY5.out.2.1; omega
  have hy6 : Box3 w6 (G + 1) (.int .i64 0) (.int .u64 0) (.int .u64 0) := HY5.out.1.keep hO6 (by omega)
  obtain ⟨y0', y1, y2⟩ : _ ∧ _ ∧ _ := ⟨hy6.c0, hy6.c1, hy6.c2⟩
  have yf := hy6.free
  have hYl := hy6.lt
  have HZ := Lib.hid (hy6.set (.int .i64 te) (.int .u64 (tn : Int)) (.int .u64 (tx : Int)))
  have HTL := Lib.hid htl
  have HF := Lib.hid (LeftP.close HH.out.1 ((Only.of_below HB5.out).trans' hO6 fun g hg => .inl (.inr (.inl hg))) hM6 (fun g hg => .inl hg) HST2.out (by have := HY5.out.2.1; omega) (P := G + 1) (fun hr => by have := HST.out _ hr; omega) (fun hr => by have := (HH.out.1.own_lt hr).2; have := HY5.out.2.1; omega) HZ.out.2)
  clear he hM6 hO6 hy6 htl
  go_wp2
  refine bodyPost_ret (res1y (q := 4) rfl _ rfl HZ.out.1) rfl ?_
  rw [HO.out, HTL.out]
  exact ⟨rfl, HF.out⟩
end
end Go.Proofs.YthaepkpmpnofgaaGreat.OutP
set_option linter.unusedVariables false
set_option linter.unusedSimpArgs false
namespace Go.Proofs.YthaepkpmpnofgaaGreat.SubP
open Go.RowKit Go.Proofs.YthaepkpmpnofgaaGreat.Kit Go.Proofs.YthaepkpmpnofgaaGreat.Blocks Go.Proofs.YthaepkpmpnofgaaGreat.Ses Go.Proofs.YthaepkpmpnofgaaGreat.Rws Go.Proofs.YthaepkpmpnofgaaGreat.Boxs Go.Proofs.YthaepkpmpnofgaaGreat.Mch Go.Proofs.YthaepkpmpnofgaaGreat.SsnWalkA Go.Proofs.YthaepkpmpnofgaaGreat.MatP Go.Proofs.YthaepkpmpnofgaaGreat.KeepP Go.Proofs.YthaepkpmpnofgaaGreat.OutP
open Go.Proofs.YthaepkpmpnofgaaGreat.MatD (Hs res1y)
open Go.Proofs.YthaepkpmpnofgaaGreat.Sag (Sg takes outc abort)
open Go.Proofs.YthaepkpmpnofgaaGreat.SagAt (At Box4 sgV Fresh)
open Go.Proofs.YthaepkpmpnofgaaGreat.Cmd (Cm)
open Go.Proofs.YthaepkpmpnofgaaGreat.CmdAt (cmV CAt Bx cm_box)
open Go.Proofs.YthaepkpmpnofgaaGreat.Pln (chk)

section
variable {B : Nat} {w w' W W' : World} {p pt q P G : Nat} {vR vR' : Value} {m m' : Mc} {ks ks' : List (Nat × Hs)} {A : Option Addr} {n c : Nat} {k : Cm}
set_option maxRecDepth 100000 in
theorem psub_twice (h : MP B w p pt q vR m ks) (hc : CAt w A n k) {j : Nat} (hn : seekS m.l k.sg = some j) :
    Calls Tryz.prog 107 #[.pointer (some ⟨p, 0, none⟩), cmV A n c k] w fun e w' => e = .returned (ryV (yE 42)) ∧ Below w.heap.size w w' := by
  obtain ⟨w1, w2, G, HW1, HW2, HG, HG1, T⟩ := two_new c hc
  have h2 := h.below T.below
  obtain ⟨e, e1, e2, e3, hat, hoff, hlk⟩ := look_yes h2 hc.fin.sg hn
  obtain ⟨l1, l2, l3, l4⟩ := hlk.four
  obtain ⟨eA, ec, ⟨el, est, ecu, efa⟩⟩ := e
  simp only at hat hoff l1 l2 l3 l4
  have c1 := h2.c1
  have hpl := h2.plt
  have k3 := T.cm.c3
  have hGl := T.cm.lt
  have T3 := T.thr (.slice eA el.length ec) (.int .i64 est) (.int .i64 ecu) (.int .i64 efa)
  obtain ⟨w3, hw3⟩ : ∃ w3, (w2.alloc (.cells #[.slice eA el.length ec, .int .i64 est, .int .i64 ecu, .int .i64 efa] 49)).drew = w3 := ⟨_, rfl⟩
  rw [hw3] at T3
  have hb23 : Below w2.heap.size w2 w3 := by rw [← hw3]; exact ((Below.refl _ _).alloc (Nat.le_refl _) _).drew
  have HW3 := Lib.hid hw3
  have HS2 := Lib.hid T.size
  have h3 := h2.below hb23
  have hy := T3.ry
  obtain ⟨y0', y1, y2⟩ : _ ∧ _ ∧ _ := ⟨hy.c0, hy.c1, hy.c2⟩
  have yf := hy.free
  have hYl := hy.lt
  have HZ := Lib.hid (hy.set (.int .i64 42) (.int .u64 0) (.int .u64 0))
  have HF := Lib.hid (ry_below T3.below (by rw [T3.was]; omega) hy (v0 := .int .i64 42) (v1 := .int .u64 0) (v2 := .int .u64 0))
  clear T h2 h3 h hw3 T3 hy hb23 hat hoff e1 e2 e3 hlk
  unfold CmdAt.cmV
  go_enter Tryz.func107, Tryz.ntmps107
  go_upto_region 1 with fail
  rw [HW1.out, HW2.out, HG.out]
  go_wp2_with fail
  go_region
  rw [HW3.out, HS2.out]
  clear l1 l2 l3 l4
  go_wp2
  refine bodyPost_ret (res1y (q := 4) rfl _ rfl HZ.out.1) rfl ?_
  exact ⟨rfl, HF.out⟩
set_option maxRecDepth 100000 in
theorem psub_full (h : MP B w p pt q vR m ks) (hc : CAt w A n k) (hn : seekS m.l k.sg = none) (hf : 16 ≤ m.l.length) :
    Calls Tryz.prog 107 #[.pointer (some ⟨p, 0, none⟩), cmV A n c k] w fun e w' => e = .returned (ryV (yE 11)) ∧ Below w.heap.size w w' := by
  obtain ⟨w1, w2, G, HW1, HW2, HG, HG1, T⟩ := two_new c hc
  have h2 := h.below T.below
  obtain ⟨l1, l2, l3, l4⟩ := (look_no h2 hc.fin.sg hn).four
  have c1 := h2.c1
  have hpl := h2.plt
  have k3 := T.cm.c3
  have hGl := T.cm.lt
  have T3 := T.thr (.slice none 0 0) (.int .i64 0) (.int .i64 0) (.int .i64 0)
  obtain ⟨w3, hw3⟩ : ∃ w3, (w2.alloc (.cells #[.slice none 0 0, .int .i64 0, .int .i64 0, .int .i64 0] 49)).drew = w3 := ⟨_, rfl⟩
  rw [hw3] at T3
  have hb23 : Below w2.heap.size w2 w3 := by rw [← hw3]; exact ((Below.refl _ _).alloc (Nat.le_refl _) _).drew
  have HW3 := Lib.hid hw3
  have HS2 := Lib.hid T.size
  have h3 := h2.below hb23
  have hy := T3.ry
  obtain ⟨y0', y1, y2⟩ : _ ∧ _ ∧ _ := ⟨hy.c0, hy.c1, hy.c2⟩
  have yf := hy.free
  have hYl := hy.lt
  have HZ := Lib.hid (hy.set (.int .i64 11) (.int .u64 0) (.int .u64 0))
  have HF := Lib.hid (ry_below T3.below (by rw [T3.was]; omega) hy (v0 := .int .i64 11) (v1 := .int .u64 0) (v2 := .int .u64 0))
  have hlen : ∀ ty, (Builtin.len_ #[70] ty #[.map (some q)]).run Tryz.prog w3 = .ok (.int .i64 (ks.length : Int)) w3 := fun ty => h3.sm.len ty
  have c31 := h3.c1
  have h16 : ¬ (ks.length : Int) < 16 := by rw [h3.len]; omega
  have h16' : (16 : Int) ≤ (ks.length : Int) := by omega
  clear T h2 h3 h hw3 T3 hy hb23 hf
  unfold CmdAt.cmV
  go_enter Tryz.func107, Tryz.ntmps107
  go_upto_region 1 with fail
  rw [HW1.out, HW2.out, HG.out]
  go_wp2_with fail
  go_region
  rw [HW3.out, HS2.out]
  clear l1 l2 l3 l4
  go_wp2
  refine bodyPost_ret (res1y (q := 4) rfl _ rfl HZ.out.1) rfl ?_
  exact ⟨rfl, HF.out⟩
set_option maxRecDepth 100000 in
set_option maxHeartbeats 2000000 in
theorem psub_new (h : MP B w p pt q vR m ks) (hc : CAt w A n k) (hn : seekS m.l k.sg = none) (hf : m.l.length < 16) (hchk : chk k.l = 0) :
    Calls Tryz.prog 107 #[.pointer (some ⟨p, 0, none⟩), cmV A n c k] w fun e w' => e = .returned (ryV (told (first k))) ∧ LeftP B w p pt q vR ks ⟨m.t, putS m.l k.sg (first k)⟩ w' := by
  obtain ⟨w1, w2, G, HW1, HW2, HG, HG1, T⟩ := two_new c hc
  have h2 := h.below T.below
  obtain ⟨l1, l2, l3, l4⟩ := (look_no h2 hc.fin.sg hn).four
  have c1 := h2.c1
  have hpl := h2.plt
  have k3 := T.cm.c3
  have hGl := T.cm.lt
  have T3 := T.thr (.slice none 0 0) (.int .i64 0) (.int .i64 0) (.int .i64 0)
  obtain ⟨w3, hw3⟩ : ∃ w3, (w2.alloc (.cells #[.slice none 0 0, .int .i64 0, .int .i64 0, .int .i64 0] 49)).drew = w3 := ⟨_, rfl⟩
  rw [hw3] at T3
  have hb23 : Below w2.heap.size w2 w3 := by rw [← hw3]; exact ((Below.refl _ _).alloc (Nat.le_refl _) _).drew
  have HW3 := Lib.hid hw3
  have HS2 := Lib.hid T.size
  have h3 := h2.below hb23
  have hlen : ∀ ty, (Builtin.len_ #[70] ty #[.map (some q)]).run Tryz.prog w3 = .ok (.int .i64 (ks.length : Int)) w3 := fun ty => h3.sm.len ty
  have c31 := h3.c1
  have h16 : (ks.length : Int) < 16 := by rw [h3.len]; omega
  have hnl : n = k.l.length := (Stq.RS.len T3.cat.rs).symm
  have hdl := Sag.len_def hchk
  have hatk : At w3 A k.l := ⟨by rw [← hnl]; exact T3.cat.rs, by omega, T3.cat.nm⟩
  have HC := Lib.hid (NewS.new_yes c hatk (Lib.hid hchk))
  have HH : Hid (MP B w p pt q vR m ks ∧ lookS ks k.sg = none ∧ U k.sg ∧ ks.length < 16) := ⟨h, seek_none (by rw [h.said]; exact hn), hc.fin.sg, by rw [h.len]; exact hf⟩
  have k4 := T3.cm.c4
  have hG3 := T3.cm.lt
  have HT3 := Lib.hid T3
  have HNL := Lib.hid hnl
  clear T h2 h3 h hw3 T3 hb23 hf hatk hdl hchk hnl hn
  unfold CmdAt.cmV
  go_enter Tryz.func107, Tryz.ntmps107
  go_upto_region 1 with fail
  rw [HW1.out, HW2.out, HG.out]
  go_wp2_with fail
  go_region
  rw [HW3.out, HS2.out]
  clear l1 l2 l3 l4
  go_wp2_with fail
  rw [HNL.out]
  go_at_call 124
  refine HC.out.mono ?_
  rintro en w4 ⟨A4, c4, rfl, hA4, hF4, hb4⟩
  have hy4 := HT3.out.ry.below hb4
  have hk4 := HT3.out.cm.below hb4
  have hx5 := Box4.new w4 (.slice A4 k.l.length c4) (.int .i64 1) (.int .i64 0) (.int .i64 0)
  have hb45 : Below w4.heap.size w4 (w4.alloc (.cells #[.slice A4 k.l.length c4, .int .i64 1, .int .i64 0, .int .i64 0] 49)) := (Below.refl _ _).alloc (Nat.le_refl _) _
  obtain ⟨w5, hw5⟩ : ∃ w5, w4.alloc (.cells #[.slice A4 k.l.length c4, .int .i64 1, .int .i64 0, .int .i64 0] 49) = w5 := ⟨_, rfl⟩
  rw [hw5] at hx5 hb45
  have hy5 := hy4.below hb45
  have hk5 := hk4.below hb45
  obtain ⟨hM, hnone, hu, hfew⟩ := HH.out
  have hwG := HT3.out.was
  have hs3 := HT3.out.size
  have hs4 := hb4.size
  have hlen5 := hb45.size
  have hb4w : Below w.heap.size w w4 := HT3.out.below.trans (hb4.mono HT3.out.below.size)
  have hb5 : Below w.heap.size w w5 := hb4w.trans (hb45.mono hb4w.size)
  have hM5 := hM.below hb5
  have hA5 : At w5 A4 k.l := hA4.below hb45
  have HK := Lib.hid (keep_any hM5 hu (e := ⟨A4, c4, ⟨k.l, 1, 0, 0⟩⟩) (ks' := putK ks k.sg ⟨A4, c4, ⟨k.l, 1, 0, 0⟩⟩) (by omega) (by rw [hnone, putK_len]; rfl) (look_put hnone _) (by rw [putK_pure, hM.said])
    (fun x hx => putK_mem hx) hA5 (fun hn ad e0 ho => by have h1 := hF4 hn ad e0; have h2 := (hM.own_lt ho).2; omega))
  have HST : Hid (∀ r, St (putK ks k.sg ⟨A4, c4, ⟨k.l, 1, 0, 0⟩⟩) r → r < G ∨ G + 3 ≤ r) := fun r hr => by
    obtain ⟨x, hx, hn, ad, e0, rfl⟩ := hr
    rcases putK_mem hx with rfl | hx
    · have := hF4 hn ad e0; omega
    · have := hM.st_lt ⟨x, hx, hn, ad, e0, rfl⟩; omega
  have HST2 : Hid (∀ r, St (putK ks k.sg ⟨A4, c4, ⟨k.l, 1, 0, 0⟩⟩) r → St ks r ∨ w.heap.size ≤ r) := fun r hr => by
    obtain ⟨x, hx, hn, ad, e0, rfl⟩ := hr
    rcases putK_mem hx with rfl | hx
    · have := hF4 hn ad e0; exact .inr (by omega)
    · exact .inl ⟨x, hx, hn, ad, e0, rfl⟩
  have HB5 := Lib.hid hb5
  have HY5 := Lib.hid (And.intro hy5 (And.intro hwG (show G + 3 ≤ w5.heap.size by omega)))
  obtain ⟨z0, z1, z2, z3⟩ : _ ∧ _ ∧ _ ∧ _ := ⟨Box4.c0 hx5, Box4.c1 hx5, Box4.c2 hx5, Box4.c3 hx5⟩
  have z4 := hk5.c3
  have z5 := hk5.lt
  have z6 := Box4.lt hx5
  have HW5 := Lib.hid hw5
  clear hw5 hx5 hy5 hb5 hb45 hy4 hk4 hk5 hA4 hF4 hb4 hM hnone hu hfew hwG hs3 hs4 hb4w hM5 hA5 hlen5
  go_upto_region 7 with fail
  rw [HW5.out]
  go_wp2_with fail
  go_at_call 70
  refine HK.out.mono ?_
  rintro en w6 ⟨he, hM6, hO6⟩
  obtain ⟨⟨te, tn, tx⟩, htl⟩ : ∃ r, told ⟨k.l, 1, 0, 0⟩ = r := ⟨_, rfl⟩
  have he' : en = .returned (.agg #[.int .i64 te, .int .u64 (tn : Int), .int .u64 (tx : Int)]) := by rw [he, htl]; rfl
  subst he'
  have hq6 : q < G := by have := (HH.out.1.own_lt (.inr (.inl rfl) : Own p pt q vR q)).2; have := HY5.out.2.1; omega
  have hy6 : Box3 w6 (G + 1) (.int .i64 0) (.int .u64 0) (.int .u64 0) := HY5.out.1.keep hO6 (by omega)
  obtain ⟨y0', y1, y2⟩ : _ ∧ _ ∧ _ := ⟨hy6.c0, hy6.c1, hy6.c2⟩
  have yf := hy6.free
  have hYl := hy6.lt
  have HZ := Lib.hid (hy6.set (.int .i64 te) (.int .u64 (tn : Int)) (.int .u64 (tx : Int)))
  have HTL := Lib.hid htl
  have HF := Lib.hid (LeftP.close HH.out.1 ((Only.of_below HB5.out).trans' hO6 fun g hg => .inl (.inr (.inl hg))) hM6 (fun g hg => .inl hg) HST2.out (by have := HY5.out.2.1; omega) (P := G + 1) (fun hr => by have := HST.out _ hr; omega) (fun hr => by have := (HH.out.1.own_lt hr).2; have := HY5.out.2.1; omega) HZ.out.2)
  clear he hM6 hO6 hy6 htl
  go_wp2
  refine bodyPost_ret (res1y (q := 4) rfl _ rfl HZ.out.1) rfl ?_
  unfold first
  rw [HTL.out]
  exact ⟨rfl, HF.out⟩
end
end Go.Proofs.YthaepkpmpnofgaaGreat.SubP
set_option linter.unusedVariables false
set_option linter.unusedSimpArgs false
namespace Go.Proofs.YthaepkpmpnofgaaGreat.DoP
open Go.RowKit Go.Proofs.YthaepkpmpnofgaaGreat.Kit Go.Proofs.YthaepkpmpnofgaaGreat.Blocks Go.Proofs.YthaepkpmpnofgaaGreat.Ses Go.Proofs.YthaepkpmpnofgaaGreat.Rws Go.Proofs.YthaepkpmpnofgaaGreat.Boxs Go.Proofs.YthaepkpmpnofgaaGreat.Mch Go.Proofs.YthaepkpmpnofgaaGreat.SsnWalkA Go.Proofs.YthaepkpmpnofgaaGreat.MatP Go.Proofs.YthaepkpmpnofgaaGreat.KeepP Go.Proofs.YthaepkpmpnofgaaGreat.OutP Go.Proofs.YthaepkpmpnofgaaGreat.SubP
open Go.Proofs.YthaepkpmpnofgaaGreat.MatD (Hs res1y)
open Go.Proofs.YthaepkpmpnofgaaGreat.Sag (Sg takes outc abort)
open Go.Proofs.YthaepkpmpnofgaaGreat.SagAt (At Box4 sgV Fresh)
open Go.Proofs.YthaepkpmpnofgaaGreat.Cmd (Cm mayB may_kind)
open Go.Proofs.YthaepkpmpnofgaaGreat.CmdAt (cmV CAt Bx cm_box)
open Go.Proofs.YthaepkpmpnofgaaGreat.Pln (chk)

section
variable {B : Nat} {w w' W W' : World} {p pt q P G : Nat} {vR vR' : Value} {m m' : Mc} {ks ks' : List (Nat × Hs)} {A : Option Addr} {n c : Nat} {k : Cm}
theorem psub_any (h : MP B w p pt q vR m ks) (hf : Fit m) (hc : CAt w A n k) (h2 : k.k = 2) (hchk : chk k.l = 0) :
    Calls Tryz.prog 107 #[.pointer (some ⟨p, 0, none⟩), cmV A n c k] w fun e w' => e = .returned (ryV (does m.l k).2) ∧ LeftP B w p pt q vR ks ⟨m.t, (does m.l k).1⟩ w' := by
  unfold does
  cases hs : seekS m.l k.sg with
  | none =>
    simp only
    rw [if_pos h2]
    by_cases h16 : 16 ≤ m.l.length
    · rw [if_pos h16]
      exact (psub_full h hc hs h16).mono fun e w' q => ⟨q.1, LeftP.of_below h q.2⟩
    · rw [if_neg h16]
      exact psub_new h hc hs (by omega) hchk
  | some i =>
    obtain ⟨y, hy, _, _, _⟩ := seekS_some hs
    simp only [hy]
    rw [if_pos h2]
    exact (psub_twice h hc hs).mono fun e w' q => ⟨q.1, LeftP.of_below h q.2⟩
set_option maxRecDepth 100000 in
theorem pdo_sub (h : MP B w p pt q vR m ks) (hf : Fit m) (hc : CAt w A n k) (h2 : k.k = 2) (hchk : chk k.l = 0) :
    Calls Tryz.prog 72 #[.pointer (some ⟨p, 0, none⟩), cmV A n c k] w fun e w' => e = .returned (ryV (does m.l k).2) ∧ LeftP B w p pt q vR ks ⟨m.t, (does m.l k).1⟩ w' := by
  obtain ⟨w1, w2, G, HW1, HW2, HG, HG1, T⟩ := two_new c hc
  have hM2 := h.below T.below
  have HC := Lib.hid (psub_any (c := c) hM2 hf T.cat h2 hchk)
  obtain ⟨⟨te, tn, tx⟩, htl⟩ : ∃ r, (does m.l k).2 = r := ⟨_, rfl⟩
  have HTL := Lib.hid htl
  obtain ⟨k0, k1, k2, k3, k4⟩ : _ ∧ _ ∧ _ ∧ _ ∧ _ := ⟨T.cm.c0, T.cm.c1, T.cm.c2, T.cm.c3, T.cm.c4⟩
  obtain ⟨k5, k6, k7, k8, k9⟩ : _ ∧ _ ∧ _ ∧ _ ∧ _ := ⟨T.cm.c5, T.cm.c6, T.cm.c7, T.cm.c8, T.cm.c9⟩
  have hGl := T.cm.lt
  have hk2 : (k.k == 2) = true := by rw [h2]; rfl
  have HT := Lib.hid T
  have HH := Lib.hid h
  clear T h hM2 htl h2 hchk
  unfold CmdAt.cmV
  go_enter Tryz.func72, Tryz.ntmps72
  go_upto_region 1 with fail
  rw [HW1.out, HW2.out, HG.out]
  go_wp2_with fail
  go_at_call 107
  refine HC.out.mono ?_
  rintro en w6 ⟨he, hL⟩
  have he' : en = .returned (.agg #[.int .i64 te, .int .u64 (tn : Int), .int .u64 (tx : Int)]) := by rw [he, HTL.out]; rfl
  subst he'
  have hy6 : Box3 w6 (G + 1) (.int .i64 0) (.int .u64 0) (.int .u64 0) := by
    obtain ⟨_, _, _, ho, _⟩ := hL
    exact HT.out.ry.keep ho fun hg => by have := (HH.out.own_lt hg).2; have := HT.out.was; omega
  obtain ⟨y0', y1, y2⟩ : _ ∧ _ ∧ _ := ⟨hy6.c0, hy6.c1, hy6.c2⟩
  have yf := hy6.free
  have hYl := hy6.lt
  have HZ := Lib.hid (hy6.set (.int .i64 te) (.int .u64 (tn : Int)) (.int .u64 (tx : Int)))
  have HF := Lib.hid (LeftP.boxed HH.out HT.out.below hL (r := G + 1) (by have := HT.out.was; omega) (by have := HT.out.size; omega) HZ.out.2)
  clear he hL hy6
  go_wp2
  refine bodyPost_ret (res1y (q := 4) rfl _ rfl HZ.out.1) rfl ?_
  rw [HTL.out]
  exact ⟨rfl, HF.out⟩
set_option maxRecDepth 100000 in
theorem pdo_none (h : MP B w p pt q vR m ks) (hc : CAt w A n k) (hn : seekS m.l k.sg = none) (hk : k.k ≠ 2) :
    Calls Tryz.prog 72 #[.pointer (some ⟨p, 0, none⟩), cmV A n c k] w fun e w' => e = .returned (ryV (yE 43)) ∧ Below w.heap.size w w' := by
  obtain ⟨w1, w2, G, HW1, HW2, HG, HG1, T⟩ := two_new c hc
  have h2 := h.below T.below
  obtain ⟨l1, l2, l3, l4⟩ := (look_no h2 hc.fin.sg hn).four
  have c1 := h2.c1
  have hpl := h2.plt
  have k3 := T.cm.c3
  have hGl := T.cm.lt
  have T3 := T.thr (.slice none 0 0) (.int .i64 0) (.int .i64 0) (.int .i64 0)
  obtain ⟨w3, hw3⟩ : ∃ w3, (w2.alloc (.cells #[.slice none 0 0, .int .i64 0, .int .i64 0, .int .i64 0] 49)).drew = w3 := ⟨_, rfl⟩
  rw [hw3] at T3
  have hb23 : Below w2.heap.size w2 w3 := by rw [← hw3]; exact ((Below.refl _ _).alloc (Nat.le_refl _) _).drew
  have HW3 := Lib.hid hw3
  have HS2 := Lib.hid T.size
  have h3 := h2.below hb23
  have hy := T3.ry
  obtain ⟨y0', y1, y2⟩ : _ ∧ _ ∧ _ := ⟨hy.c0, hy.c1, hy.c2⟩
  have yf := hy.free
  have hYl := hy.lt
  have HZ := Lib.hid (hy.set (.int .i64 43) (.int .u64 0) (.int .u64 0))
  have HF := Lib.hid (ry_below T3.below (by rw [T3.was]; omega) hy (v0 := .int .i64 43) (v1 := .int .u64 0) (v2 := .int .u64 0))
  have k0 := T.cm.c0
  have hk2 : (k.k == 2) = false := by simpa using hk
  clear T h2 h3 h hw3 T3 hy hb23 hk
  unfold CmdAt.cmV
  go_enter Tryz.func72, Tryz.ntmps72
  go_upto_region 1 with fail
  rw [HW1.out, HW2.out, HG.out]
  go_wp2_with fail
  go_region
  rw [HW3.out, HS2.out]
  clear l1 l2 l3 l4
  go_wp2
  refine bodyPost_ret (res1y (q := 4) rfl _ rfl HZ.out.1) rfl ?_
  exact ⟨rfl, HF.out⟩
theorem abort_l (s : Sg) : (abort s).l = s.l := by
  unfold Sag.abort Sag.back
  split
  · first | rfl | (split <;> rfl)
  · rfl
set_option maxRecDepth 100000 in
set_option maxHeartbeats 2000000 in
theorem pdo_abort (h : MP B w p pt q vR m ks) (hc : CAt w A n k) {j : Nat} {y : Nat × Sg} (hn : seekS m.l k.sg = some j) (hy : m.l[j]? = some y) (hk : k.k = 3) (h16 : ks.length ≤ 1000) :
    Calls Tryz.prog 72 #[.pointer (some ⟨p, 0, none⟩), cmV A n c k] w fun e w' => e = .returned (ryV (told (abort y.2))) ∧ LeftP B w p pt q vR ks ⟨m.t, m.l.set j (k.sg, abort y.2)⟩ w' := by
  obtain ⟨w1, w2, G, HW1, HW2, HG, HG1, T⟩ := two_new c hc
  have h2 := h.below T.below
  obtain ⟨e, e1, e2, e3, hat, hoff, hlk⟩ := look_yes h2 hc.fin.sg hn
  rw [hy] at e3
  cases e3
  obtain ⟨l1, l2, l3, l4⟩ := hlk.four
  have c1 := h2.c1
  have hpl := h2.plt
  have k3 := T.cm.c3
  have hGl := T.cm.lt
  obtain ⟨eA, ec, ⟨el, est, ecu, efa⟩⟩ := e
  simp only at hat hoff l1 l2 l3 l4
  obtain ⟨⟨tl, ts, tc, tf⟩, ho⟩ : ∃ r, abort ⟨el, est, ecu, efa⟩ = r := ⟨_, rfl⟩
  have T3 := T.thr (.slice eA el.length ec) (.int .i64 est) (.int .i64 ecu) (.int .i64 efa)
  obtain ⟨w3, hw3⟩ : ∃ w3, (w2.alloc (.cells #[.slice eA el.length ec, .int .i64 est, .int .i64 ecu, .int .i64 efa] 49)).drew = w3 := ⟨_, rfl⟩
  rw [hw3] at T3
  have hb23 : Below w2.heap.size w2 w3 := by rw [← hw3]; exact ((Below.refl _ _).alloc (Nat.le_refl _) _).drew
  have HW3 := Lib.hid hw3
  have HS2 := Lib.hid T.size
  have HC := Lib.hid (SgaWalkC.abort_any ec (s := ⟨el, est, ecu, efa⟩) (hat.below hb23) (Lib.hid ho) (Lib.hid rfl))
  obtain ⟨x0, x1, x2, x3⟩ : _ ∧ _ ∧ _ ∧ _ := ⟨T3.sg.c0, T3.sg.c1, T3.sg.c2, T3.sg.c3⟩
  have k0 := T.cm.c0
  have k03 := T3.cm.c0
  have hk2 : (k.k == 2) = false := by rw [hk]; rfl
  have hk3 : (k.k == 3) = true := by rw [hk]; rfl
  have hG3 := T3.cm.lt
  have hS3 := T3.sg.lt
  have HT3 := Lib.hid T3
  have HH : Hid (MP B w p pt q vR m ks ∧ seekS m.l k.sg = some j ∧ (lookS ks k.sg).isSome = true ∧ U k.sg) := ⟨h, hn, by rw [e1]; rfl, hc.fin.sg⟩
  have hol : tl = el := by
    have := abort_l ⟨el, est, ecu, efa⟩
    rw [ho] at this
    exact this
  have HO := Lib.hid ho
  clear ho hol T h2 h hw3 T3 hb23 hat hoff hk e1 e2 hy hlk
  unfold CmdAt.cmV
  go_enter Tryz.func72, Tryz.ntmps72
  go_upto_region 1 with fail
  rw [HW1.out, HW2.out, HG.out]
  go_wp2_with fail
  go_region
  rw [HW3.out, HS2.out]
  clear l1 l2 l3 l4
  go_wp2_with fail
  go_at_call 108
  refine HC.out.mono ?_
  rintro en w4 ⟨A4, c4, he, hA4, hF4, hb4⟩
  unfold SagAt.sgV at he
  simp only at he
  subst he
  have hx4 := HT3.out.sg.below hb4
  have hy4 := HT3.out.ry.below hb4
  have hk4 := HT3.out.cm.below hb4
  obtain ⟨x40, x41, x42, x43⟩ : _ ∧ _ ∧ _ ∧ _ := ⟨hx4.c0, hx4.c1, hx4.c2, hx4.c3⟩
  have xf := hx4.free
  have hXl := hx4.lt
  obtain ⟨w5, hw5⟩ : ∃ w5, (((w4.setCell ⟨G + 2, 0, none⟩ (.slice A4 tl.length c4)).setCell ⟨G + 2, 1, none⟩ (.int .i64 ts)).setCell ⟨G + 2, 2, none⟩ (.int .i64 tc)).setCell ⟨G + 2, 3, none⟩ (.int .i64 tf) = w5 := ⟨_, rfl⟩
  have hset := hx4.set (.slice A4 tl.length c4) (.int .i64 ts) (.int .i64 tc) (.int .i64 tf)
  rw [hw5] at hset
  have hy5 : Box3 w5 (G + 1) (.int .i64 0) (.int .u64 0) (.int .u64 0) := hy4.keep (RdT.only_b hset.2) (by omega)
  have hk5 := hk4.keep hset.2 (by omega)
  obtain ⟨hM, hsk, hsome, hu⟩ := HH.out
  have hwG := HT3.out.was
  have hs3 := HT3.out.size
  have hs4 := hb4.size
  have hb4w : Below w.heap.size w w4 := HT3.out.below.trans (hb4.mono HT3.out.below.size)
  have hb5 : Below w.heap.size w w5 := hb4w.trans ((RdT.only_b hset.2).below hb4w.size fun g hg => by omega)
  have hM5 := hM.below hb5
  have hA5 : At w5 A4 tl := hA4.only hset.2 fun hn ad e0 e1 => by have := hF4 hn ad e0; omega
  have hlen5 : w4.heap.size ≤ w5.heap.size := hset.2.size
  have HK := Lib.hid (keep_any hM5 hu (e := ⟨A4, c4, ⟨tl, ts, tc, tf⟩⟩) (ks' := ks.set j (k.sg, ⟨A4, c4, ⟨tl, ts, tc, tf⟩⟩)) h16 (by rw [hsome, List.length_set]; rfl) (look_set (by rw [hM.said]; exact hsk) _) (by rw [set_pure, hM.said])
    (fun x hx => (List.mem_or_eq_of_mem_set hx).symm) hA5 (fun hn ad e0 ho => by have h1 := hF4 hn ad e0; have h2 := (hM.own_lt ho).2; omega))
  have HST : Hid (∀ r, St (ks.set j (k.sg, ⟨A4, c4, ⟨tl, ts, tc, tf⟩⟩)) r → r < G ∨ G + 3 ≤ r) := fun r hr => by
    obtain ⟨x, hx, hn, ad, e0, rfl⟩ := hr
    rcases List.mem_or_eq_of_mem_set hx with hx | rfl
    · have := hM.st_lt ⟨x, hx, hn, ad, e0, rfl⟩; omega
    · have := hF4 hn ad e0; omega
  have HST2 : Hid (∀ r, St (ks.set j (k.sg, ⟨A4, c4, ⟨tl, ts, tc, tf⟩⟩)) r → St ks r ∨ w.heap.size ≤ r) := fun r hr => by
    obtain ⟨x, hx, hn, ad, e0, rfl⟩ := hr
    rcases List.mem_or_eq_of_mem_set hx with hx | rfl
    · exact .inl ⟨x, hx, hn, ad, e0, rfl⟩
    · have := hF4 hn ad e0; exact .inr (by omega)
  have HB5 := Lib.hid hb5
  have HY5 := Lib.hid (And.intro hy5 (And.intro hwG (show G + 3 ≤ w5.heap.size by omega)))
  obtain ⟨z0, z1, z2, z3⟩ : _ ∧ _ ∧ _ ∧ _ := ⟨Box4.c0 hset.1, Box4.c1 hset.1, Box4.c2 hset.1, Box4.c3 hset.1⟩
  have z4 := hk5.c3
  have z5 := hk5.lt
  have z6 := Box4.lt hset.1
  have HW5 := Lib.hid hw5
  clear hw5 hset hy5 hb5 hx4 hy4 hk4 hk5 hA4 hF4 hb4 hM hsk hsome hu hwG hs3 hs4 hb4w hM5 hA5 hlen5
  go_upto_region 8 with fail
  rw [HW5.out]
  go_wp2_with fail
  go_at_call 70
  refine HK.out.mono ?_
  rintro en w6 ⟨he, hM6, hO6⟩
  obtain ⟨⟨te, tn, tx⟩, htl⟩ : ∃ r, told ⟨tl, ts, tc, tf⟩ = r := ⟨_, rfl⟩
  have he' : en = .returned (.agg #[.int .i64 te, .int .u64 (tn : Int), .int .u64 (tx : Int)]) := by rw [he, htl]; rfl
  subst he'
  have hq6 : q < G := by have := (HH.out.1.own_lt (.inr (.inl rfl) : Own p pt q vR q)).2; have := HY5.out.2.1; omega
  have hy6 : Box3 w6 (G + 1) (.int .i64 0) (.int .u64 0) (.int .u64 0) := HY5.out.1.keep hO6 (by omega)
  obtain ⟨y0', y1, y2⟩ : _ ∧ _ ∧ _ := ⟨hy6.c0, hy6.c1, hy6.c2⟩
  have yf := hy6.free
  have hYl := hy6.lt
  have HZ := Lib.hid (hy6.set (.int .i64 te) (.int .u64 (tn : Int)) (.int .u64 (tx : Int)))
  have HTL := Lib.hid htl
  have HF := Lib.hid (LeftP.close HH.out.1 ((Only.of_below HB5.out).trans' hO6 fun g hg => .inl (.inr (.inl hg))) hM6 (fun g hg => .inl hg) HST2.out (by have := HY5.out.2.1; omega) (P := G + 1) (fun hr => by have := HST.out _ hr; omega) (fun hr => by have := (HH.out.1.own_lt hr).2; have := HY5.out.2.1; omega) HZ.out.2)
  clear he hM6 hO6 hy6 htl
  go_wp2
  refine bodyPost_ret (res1y (q := 4) rfl _ rfl HZ.out.1) rfl ?_
  rw [HO.out, HTL.out]
  exact ⟨rfl, HF.out⟩
set_option maxRecDepth 100000 in
set_option maxHeartbeats 2000000 in
theorem pdo_query (h : MP B w p pt q vR m ks) (hc : CAt w A n k) {j : Nat} {y : Nat × Sg} (hn : seekS m.l k.sg = some j) (hy : m.l[j]? = some y) (hk2' : k.k ≠ 2) (hk : k.k ≠ 3) (h16 : ks.length ≤ 1000) :
    Calls Tryz.prog 72 #[.pointer (some ⟨p, 0, none⟩), cmV A n c k] w fun e w' => e = .returned (ryV (told y.2)) ∧ Below w.heap.size w w' := by
  obtain ⟨w1, w2, G, HW1, HW2, HG, HG1, T⟩ := two_new c hc
  have h2 := h.below T.below
  obtain ⟨e, e1, e2, e3, hat, hoff, hlk⟩ := look_yes h2 hc.fin.sg hn
  rw [hy] at e3
  cases e3
  obtain ⟨l1, l2, l3, l4⟩ := hlk.four
  have c1 := h2.c1
  have hpl := h2.plt
  have k3 := T.cm.c3
  have hGl := T.cm.lt
  obtain ⟨eA, ec, ⟨el, est, ecu, efa⟩⟩ := e
  simp only at hat hoff l1 l2 l3 l4
  obtain ⟨⟨te, tn, tx⟩, htl⟩ : ∃ r, told ⟨el, est, ecu, efa⟩ = r := ⟨_, rfl⟩
  have T3 := T.thr (.slice eA el.length ec) (.int .i64 est) (.int .i64 ecu) (.int .i64 efa)
  obtain ⟨w3, hw3⟩ : ∃ w3, (w2.alloc (.cells #[.slice eA el.length ec, .int .i64 est, .int .i64 ecu, .int .i64 efa] 49)).drew = w3 := ⟨_, rfl⟩
  rw [hw3] at T3
  have hb23 : Below w2.heap.size w2 w3 := by rw [← hw3]; exact ((Below.refl _ _).alloc (Nat.le_refl _) _).drew
  have HW3 := Lib.hid hw3
  have HS2 := Lib.hid T.size
  have HC := Lib.hid (tell_any eA ec ⟨el, est, ecu, efa⟩ w3)
  obtain ⟨x0, x1, x2, x3⟩ : _ ∧ _ ∧ _ ∧ _ := ⟨T3.sg.c0, T3.sg.c1, T3.sg.c2, T3.sg.c3⟩
  have k0 := T.cm.c0
  have k03 := T3.cm.c0
  have hk2 : (k.k == 2) = false := by simpa using hk2'
  have hk3 : (k.k == 3) = false := by simpa using hk
  have hG3 := T3.cm.lt
  have hS3 := T3.sg.lt
  have HT3 := Lib.hid T3
  have HTL := Lib.hid htl
  clear htl T h2 h hw3 T3 hb23 hat hoff hk hk2' e1 e2 hy hlk
  unfold CmdAt.cmV
  go_enter Tryz.func72, Tryz.ntmps72
  go_upto_region 1 with fail
  rw [HW1.out, HW2.out, HG.out]
  go_wp2_with fail
  go_region
  rw [HW3.out, HS2.out]
  clear l1 l2 l3 l4
  go_wp2_with fail
  go_at_call 104
  refine HC.out.mono ?_
  rintro en w6 ⟨he, hb4⟩
  have he' : en = .returned (.agg #[.int .i64 te, .int .u64 (tn : Int), .int .u64 (tx : Int)]) := by rw [he, HTL.out]; rfl
  subst he'
  have hy6 := HT3.out.ry.below hb4
  obtain ⟨y0', y1, y2⟩ : _ ∧ _ ∧ _ := ⟨hy6.c0, hy6.c1, hy6.c2⟩
  have yf := hy6.free
  have hYl := hy6.lt
  have HZ := Lib.hid (hy6.set (.int .i64 te) (.int .u64 (tn : Int)) (.int .u64 (tx : Int)))
  have HF := Lib.hid (ry_below (HT3.out.below.trans (hb4.mono HT3.out.below.size)) (by have := HT3.out.was; omega) hy6 (v0 := .int .i64 te) (v1 := .int .u64 (tn : Int)) (v2 := .int .u64 (tx : Int)))
  clear he hb4 hy6
  go_wp2
  refine bodyPost_ret (res1y (q := 4) rfl _ rfl HZ.out.1) rfl ?_
  rw [HTL.out]
  exact ⟨rfl, HF.out⟩
/-- A session's command that is new. -/
theorem pdo_any (h : MP B w p pt q vR m ks) (hf : Fit m) (hc : CAt w A n k) (hm : mayB k = true) (h1 : k.k ≠ 1) (h4 : k.k ≠ 4) :
    Calls Tryz.prog 72 #[.pointer (some ⟨p, 0, none⟩), cmV A n c k] w fun e w' => e = .returned (ryV (does m.l k).2) ∧ LeftP B w p pt q vR ks ⟨m.t, (does m.l k).1⟩ w' := by
  by_cases h2 : k.k = 2
  · refine pdo_sub h hf hc h2 ?_
    rcases may_kind hm with ⟨a1, _⟩ | ⟨_, a2, _⟩ | ⟨a1, _⟩
    · omega
    · exact a2
    · omega
  · unfold does
    cases hs : seekS m.l k.sg with
    | none =>
      simp only
      rw [if_neg h2]
      exact (pdo_none h hc hs h2).mono fun e w' q => ⟨q.1, LeftP.of_below h q.2⟩
    | some i =>
      obtain ⟨y, hy, _, _, _⟩ := seekS_some hs
      simp only [hy]
      rw [if_neg h2]
      by_cases h3 : k.k = 3
      · rw [if_pos h3]
        exact pdo_abort h hc hs hy h3 (by rw [h.len]; have := hf.few; omega)
      · rw [if_neg h3]
        exact (pdo_query h hc hs hy h2 h3 (by rw [h.len]; have := hf.few; omega)).mono fun e w' q => ⟨q.1, LeftP.of_below h q.2⟩
end
end Go.Proofs.YthaepkpmpnofgaaGreat.DoP
set_option linter.unusedVariables false
set_option linter.unusedSimpArgs false
namespace Go.Proofs.YthaepkpmpnofgaaGreat.OnceP
open Go.RowKit Go.Proofs.YthaepkpmpnofgaaGreat.Kit Go.Proofs.YthaepkpmpnofgaaGreat.Blocks Go.Proofs.YthaepkpmpnofgaaGreat.Ses Go.Proofs.YthaepkpmpnofgaaGreat.Rws Go.Proofs.YthaepkpmpnofgaaGreat.Boxs Go.Proofs.YthaepkpmpnofgaaGreat.Mch Go.Proofs.YthaepkpmpnofgaaGreat.SsnWalkA Go.Proofs.YthaepkpmpnofgaaGreat.MatP Go.Proofs.YthaepkpmpnofgaaGreat.KeepP Go.Proofs.YthaepkpmpnofgaaGreat.OutP Go.Proofs.YthaepkpmpnofgaaGreat.SubP Go.Proofs.YthaepkpmpnofgaaGreat.DoP
open Go.Proofs.YthaepkpmpnofgaaGreat.MatD (Hs res1y)
open Go.Proofs.YthaepkpmpnofgaaGreat.Sag (Sg takes outc abort)
open Go.Proofs.YthaepkpmpnofgaaGreat.SagAt (At Box4 sgV Fresh)
open Go.Proofs.YthaepkpmpnofgaaGreat.Cmd (Cm mayB may_kind)
open Go.Proofs.YthaepkpmpnofgaaGreat.CmdAt (cmV CAt Bx cm_box)
open Go.Proofs.YthaepkpmpnofgaaGreat.RdT (only_s only_b)

/-- A command is under way: the machine, the command's box at C, the answer's at P. -/
structure Cq (B : Nat) (w0 W : World) (p pt q C P : Nat) (vR0 : Value) (ks0 : List (Nat × Hs)) (vR : Value) (m : Mc) (ks : List (Nat × Hs)) (A : Option Addr) (n c : Nat) (k : Cm) : Prop where
  mp : MP B W p pt q vR m ks
  cx : Bx W C (.int .i64 k.k) (.int .u64 (k.ss : Int)) (.int .u64 (k.sq : Int)) (.int .u64 (k.sg : Int)) (.slice A n c) (.int .i64 k.st) (.bool k.bk) (.int .i64 k.tr) (.bool k.ok) (.int .u64 (k.nw : Int))
  px : Box3 W P (.int .i64 0) (.int .u64 0) (.int .u64 0)
  cat : CAt W A n k
  oc : ¬ Own p pt q vR C
  op : ¬ Own p pt q vR P
  na : 0 < n → ∀ ad, A = some ad → ¬ Own p pt q vR ad.block
  sp : ¬ St ks P
  only : Only (Own p pt q vR0) w0 W
  fr : ∀ g, Own p pt q vR g → Own p pt q vR0 g ∨ w0.heap.size ≤ g
  st : ∀ r, St ks r → St ks0 r ∨ w0.heap.size ≤ r
  lp : w0.heap.size ≤ P
/-- A box of the call's own. -/
structure Off (w0 : World) (p pt q C P : Nat) (vR : Value) (ks : List (Nat × Hs)) (A : Option Addr) (n D : Nat) : Prop where
  no : ¬ Own p pt q vR D
  ns : ¬ St ks D
  nc : C ≠ D
  np : P ≠ D
  na : 0 < n → ∀ ad, A = some ad → ad.block ≠ D
  lo : w0.heap.size ≤ D
section
variable {B : Nat} {w0 w W W' : World} {p pt q C P D : Nat} {vR0 vR vR' : Value} {m m' : Mc} {ks0 ks ks' : List (Nat × Hs)} {A : Option Addr} {n c : Nat} {k : Cm}
theorem cat_only {S : Nat → Prop} (h : CAt W A n k) (o : Only S W W') (hs : 0 < n → ∀ ad, A = some ad → ¬ S ad.block) : CAt W' A n k :=
  ⟨⟨h.rs.1, fun hn => by
    obtain ⟨ad, e, hb, hc⟩ := h.rs.2 hn
    exact ⟨ad, e, Nat.lt_of_lt_of_le hb o.size, fun i u hi => (o.cell (p := ad.add i) (by rw [block_of_add]; exact hb) (by rw [block_of_add]; exact hs hn ad e)).trans (hc i u hi)⟩⟩, h.n63, h.nm, h.fin⟩
theorem Cq.step (x : Cq B w0 W p pt q C P vR0 ks0 vR m ks A n c k) (h' : MP B W' p pt q vR' m' ks') (o : Only (Own p pt q vR) W W') (f : ∀ g, Own p pt q vR' g → Own p pt q vR g ∨ W.heap.size ≤ g) (s : ∀ r, St ks' r → St ks r ∨ W.heap.size ≤ r) :
    Cq B w0 W' p pt q C P vR0 ks0 vR' m' ks' A n c k := by
  refine ⟨h', x.cx.keep (only_s o) x.oc, x.px.keep o x.op, cat_only x.cat o x.na, fun e => ?_, fun e => ?_, fun hn ad e e2 => ?_, fun e => ?_, x.only.trans' o x.fr, fun g hg => ?_, fun r hr => ?_, x.lp⟩
  · rcases f C e with h | h
    · exact x.oc h
    · have := x.cx.lt; omega
  · rcases f P e with h | h
    · exact x.op h
    · have := x.px.lt; omega
  · rcases f _ e2 with h | h
    · exact x.na hn ad e h
    · obtain ⟨ad', e3, hb, _⟩ := x.cat.rs.2 hn
      rw [e] at e3
      cases e3
      omega
  · rcases s P e with h | h
    · exact x.sp h
    · have := x.px.lt; omega
  · rcases f g hg with h | h
    · exact x.fr g h
    · exact .inr (Nat.le_trans x.only.size h)
  · rcases s r hr with h | h
    · exact x.st r h
    · exact .inr (Nat.le_trans x.only.size h)
theorem Cq.below (x : Cq B w0 W p pt q C P vR0 ks0 vR m ks A n c k) (o : Below W.heap.size W W') : Cq B w0 W' p pt q C P vR0 ks0 vR m ks A n c k :=
  x.step (x.mp.below o) (Only.of_below o) (fun _ h => .inl h) (fun _ h => .inl h)
theorem Cq.sess (x : Cq B w0 W p pt q C P vR0 ks0 vR m ks A n c k) {t' : Tb} (d : PLeft MatP.shp B W pt vR t' W') :
    ∃ vR', Cq B w0 W' p pt q C P vR0 ks0 vR' ⟨t', m.l⟩ ks A n c k ∧ Only (Own p pt q vR) W W' ∧ ∀ g, Own p pt q vR' g → Own p pt q vR g ∨ W.heap.size ≤ g := by
  obtain ⟨vR', h1, h2, h3⟩ := MatP.MP.sess x.mp d
  exact ⟨vR', x.step h1 h2 h3 (fun _ h => .inl h), h2, h3⟩
theorem Cq.left (x : Cq B w0 W p pt q C P vR0 ks0 vR m ks A n c k) (d : LeftP B W p pt q vR ks m' W') :
    ∃ vR' ks', Cq B w0 W' p pt q C P vR0 ks0 vR' m' ks' A n c k ∧ Only (Own p pt q vR) W W' ∧ (∀ g, Own p pt q vR' g → Own p pt q vR g ∨ W.heap.size ≤ g) ∧ ∀ r, St ks' r → St ks r ∨ W.heap.size ≤ r := by
  obtain ⟨vR', ks', h1, h2, h3, h4⟩ := d
  exact ⟨vR', ks', x.step h1 h2 h3 h4, h2, h3, h4⟩
theorem Cq.off (x : Cq B w0 W p pt q C P vR0 ks0 vR m ks A n c k) : Off w0 p pt q C P vR ks A n W.heap.size := by
  refine ⟨fun h => ?_, fun h => ?_, Nat.ne_of_lt x.cx.lt, Nat.ne_of_lt x.px.lt, fun hn ad e => ?_, x.only.size⟩
  · have := (x.mp.own_lt h).2; omega
  · have := x.mp.st_lt h; omega
  · obtain ⟨ad', e1, e2, _⟩ := x.cat.rs.2 hn
    rw [e] at e1
    cases e1
    omega
theorem Off.step (d : Off w0 p pt q C P vR ks A n D) (f : ∀ g, Own p pt q vR' g → Own p pt q vR g ∨ W.heap.size ≤ g) (s : ∀ r, St ks' r → St ks r ∨ W.heap.size ≤ r) (hD : D < W.heap.size) : Off w0 p pt q C P vR' ks' A n D :=
  ⟨fun h => by
    rcases f D h with h | h
    · exact d.no h
    · omega, fun h => by
    rcases s D h with h | h
    · exact d.ns h
    · omega, d.nc, d.np, d.na, d.lo⟩
theorem Cq.put (x : Cq B w0 W p pt q C P vR0 ks0 vR m ks A n c k) {a b d : Value} (y : Box3 W D a b d) (r : Off w0 p pt q C P vR ks A n D) (u0 u1 u2 : Value) :
    Cq B w0 (((W.setCell ⟨D, 0, none⟩ u0).setCell ⟨D, 1, none⟩ u1).setCell ⟨D, 2, none⟩ u2) p pt q C P vR0 ks0 vR m ks A n c k ∧ Box3 (((W.setCell ⟨D, 0, none⟩ u0).setCell ⟨D, 1, none⟩ u1).setCell ⟨D, 2, none⟩ u2) D u0 u1 u2 := by
  obtain ⟨hb, ho⟩ := y.set u0 u1 u2
  exact ⟨⟨x.mp.box r.no r.ns ho, x.cx.keep (only_s ho) r.nc, x.px.keep ho r.np, cat_only x.cat ho r.na, x.oc, x.op, x.na, x.sp, x.only.trans' ho (fun g hg => .inr (by rw [hg]; exact r.lo)), x.fr, x.st, x.lp⟩, hb⟩
theorem Cq.fin1 (x : Cq B w0 W p pt q C P vR0 ks0 vR m ks A n c k) (u0 u1 u2 : Value) :
    Cq B w0 (W.alloc (.cells #[.int .i64 0, .int .u64 0, .int .u64 0] 32)) p pt q C P vR0 ks0 vR m ks A n c k ∧ Box3 (W.alloc (.cells #[.int .i64 0, .int .u64 0, .int .u64 0] 32)) W.heap.size (.int .i64 0) (.int .u64 0) (.int .u64 0) ∧ Off w0 p pt q C P vR ks A n W.heap.size ∧
    ∃ w6, Hid (W.alloc (.cells #[u0, u1, u2] 32) = w6) ∧ Cq B w0 w6 p pt q C P vR0 ks0 vR m ks A n c k ∧ Box3 w6 W.heap.size u0 u1 u2 :=
  ⟨x.below ((Below.refl W.heap.size W).alloc (Nat.le_refl _) _), Box3.new W _ _ _, Cq.off x, _, Lib.hid rfl, x.below ((Below.refl W.heap.size W).alloc (Nat.le_refl _) _), Box3.new W _ _ _⟩
theorem Cq.fin2 (x : Cq B w0 W p pt q C P vR0 ks0 vR m ks A n c k) {t' : Tb} (d : PLeft MatP.shp B (W.alloc (.cells #[.int .i64 0, .int .u64 0, .int .u64 0] 32)).drew pt vR t' W') (u0 u1 u2 : Value) : ∃ vR',
    Cq B w0 W' p pt q C P vR0 ks0 vR' ⟨t', m.l⟩ ks A n c k ∧ Box3 W' W.heap.size (.int .i64 0) (.int .u64 0) (.int .u64 0) ∧ Off w0 p pt q C P vR' ks A n W.heap.size ∧
    ∃ w6, Hid ((((W'.setCell ⟨W.heap.size, 0, none⟩ u0).setCell ⟨W.heap.size, 1, none⟩ u1).setCell ⟨W.heap.size, 2, none⟩ u2) = w6) ∧ Cq B w0 w6 p pt q C P vR0 ks0 vR' ⟨t', m.l⟩ ks A n c k ∧ Box3 w6 W.heap.size u0 u1 u2 := by
  have hb := ((Below.refl W.heap.size W).alloc (Nat.le_refl _) (.cells #[.int .i64 0, .int .u64 0, .int .u64 0] 32)).drew
  have h1 := x.below hb
  have h2 := (Box3.new W (.int .i64 0) (.int .u64 0) (.int .u64 0)).below ((Below.refl _ _).drew)
  have h3 := Cq.off x
  obtain ⟨vR', h4, h5, h6⟩ := Cq.sess h1 d
  have h7 := h2.keep h5 h3.no
  have h8 := h3.step h6 (fun _ h => .inl h) h2.lt
  obtain ⟨h9, h10⟩ := Cq.put h4 h7 h8 u0 u1 u2
  exact ⟨vR', h4, h7, h8, _, Lib.hid rfl, h9, h10⟩
theorem Cq.ends (x : Cq B w0 W p pt q C P vR0 ks0 vR m ks A n c k) (u0 u1 u2 : Value) : LeftP B w0 p pt q vR0 ks0 m (((W.setCell ⟨P, 0, none⟩ u0).setCell ⟨P, 1, none⟩ u1).setCell ⟨P, 2, none⟩ u2) := by
  have ho := (x.px.set u0 u1 u2).2
  exact ⟨vR, ks, x.mp.box x.op x.sp ho, x.only.trans' ho fun g hg => .inr (by rw [hg]; exact x.lp), x.fr, x.st⟩
theorem two_cq (h : MP B w p pt q vR m ks) {G : Nat} (T : Two w W G A n c k) (hA : 0 < n → ∀ ad, A = some ad → ¬ Own p pt q vR ad.block) : Cq B w W p pt q G (G + 1) vR ks vR m ks A n c k := by
  have h2 := h.below T.below
  refine ⟨h2, T.cm, T.ry, T.cat, fun e => ?_, fun e => ?_, hA, fun e => ?_, Only.of_below T.below, fun _ h => .inl h, fun _ h => .inl h, by rw [T.was]; omega⟩
  · have := (h.own_lt e).2; have := T.was; omega
  · have := (h.own_lt e).2; have := T.was; omega
  · have := h.st_lt e; have := T.was; omega
set_option maxRecDepth 100000 in
set_option maxHeartbeats 16000000 in
theorem ponce_new (h : MP B w p pt q vR m ks) (hf : Fit m) (hc : CAt w A n k) (hA : 0 < n → ∀ ad, A = some ad → ¬ Own p pt q vR ad.block) (hm : mayB k = true) (h1 : k.k ≠ 1) (h4 : k.k ≠ 4) (hb : begF m.t k.ss k.sq = true) :
    Calls Tryz.prog 28 #[.pointer (some ⟨p, 0, none⟩), cmV A n c k] w fun e w' => e = .returned (ryV (does m.l k).2) ∧ LeftP B w p pt q vR ks ⟨endT (begT m.t k.ss) k.ss k.sq (does m.l k).2, (does m.l k).1⟩ w' := by
  obtain ⟨w1, w2, G, HW1, HW2, HG, HG1, T⟩ := two_new c hc
  have X2 := Lib.hid (two_cq h T hA)
  have hG1 := hf.tb
  obtain ⟨t1, ht1⟩ : ∃ t, m.t = t := ⟨_, rfl⟩
  rw [ht1] at hG1 hb ⊢
  have HT1 := Lib.hid ht1
  obtain ⟨t2, ht2⟩ : ∃ t, begT t1 k.ss = t := ⟨_, rfl⟩
  obtain ⟨y0, y1, y2, hy⟩ : ∃ a b c, begY t1 k.ss k.sq = ⟨a, b, c⟩ := ⟨_, _, _, rfl⟩
  have hG2 : Sane t2 := by rw [← ht2]; exact hG1.beg k.ss
  rw [ht2]
  obtain ⟨⟨te, tn, tx⟩, htl⟩ : ∃ r, (does m.l k).2 = r := ⟨_, rfl⟩
  obtain ⟨t3, ht3⟩ : ∃ t, endT t2 k.ss k.sq ⟨te, tn, tx⟩ = t := ⟨_, rfl⟩
  obtain ⟨bf, hbf⟩ : ∃ t, endF t2 k.ss k.sq = t := ⟨_, rfl⟩
  obtain ⟨ml, hml⟩ : ∃ x, (does m.l k).1 = x := ⟨_, rfl⟩
  rw [htl, ht3, hml]
  have hfit : Fit ⟨t2, m.l⟩ := hf.list.fit hG2
  have HT2 := Lib.hid ht2
  have HY := Lib.hid hy
  have HB := Lib.hid hb
  have HSQ : Hid (U k.sq) := hc.fin.sq
  have HDO : Hid (∀ W vR2, Cq B w W p pt q G (G + 1) vR ks vR2 ⟨t2, m.l⟩ ks A n c k → Calls Tryz.prog 72 #[.pointer (some ⟨p, 0, none⟩), cmV A n c k] W fun e w' => e = .returned (.agg #[.int .i64 te, .int .u64 (tn : Int), .int .u64 (tx : Int)]) ∧ LeftP B W p pt q vR2 ks ⟨t2, ml⟩ w') := fun W vR2 X => by
    have := pdo_any (c := c) X.mp hfit X.cat hm h1 h4
    simp only at this
    rw [htl, hml] at this
    exact this
  have hen : ∀ W vR2 ks2, Cq B w W p pt q G (G + 1) vR ks vR2 ⟨t2, ml⟩ ks2 A n c k → Calls Tryz.prog 73 #[.pointer (some ⟨pt, 0, none⟩), .int .u64 (k.ss : Int), .int .u64 (k.sq : Int), .agg #[.int .i64 te, .int .u64 (tn : Int), .int .u64 (tx : Int)]] W fun e w' => e = .returned (.bool bf) ∧ PLeft MatP.shp B W pt vR2 t3 w' := fun W vR2 ks2 X => Cal.end_any X.mp.tb k.ss HSQ.out ⟨te, tn, tx⟩ (Lib.hid ht3) (Lib.hid hbf)
  have HEN := Lib.hid hen
  have HG2 := Lib.hid hG1
  clear ht1 ht2 hy hG2 ht3 hbf hml hfit h1 h4 hb hm hG1 hen
  obtain ⟨x0, x1, x2, x3, x4, x5, x6, x7, x8, x9⟩ := X2.out.cx.all
  have hCl := X2.out.cx.lt
  have c0 := X2.out.mp.c0
  have hpl := X2.out.mp.plt
  have hXd := X2.out.below ((Below.refl w2.heap.size w2).drew)
  have hXa := (X2.out.below ((Below.refl w2.heap.size w2).alloc (Nat.le_refl _) (.cells #[.int .i64 0, .int .u64 0, .int .u64 0] 32))).below (Below.refl _ _).drew
  have X2d := Lib.hid hXd
  have X2a := Lib.hid hXa
  have HBG := Lib.hid (fun W (X : Cq B w W p pt q G (G + 1) vR ks vR m ks A n c k) => Cal.beg_any X.mp.tb (by rw [HT1.out]; exact HG2.out) k.ss HSQ.out (by rw [HT1.out]; exact HT2) (by rw [HT1.out]; exact HY) (by rw [HT1.out]; exact HB))
  unfold Rws.ryV at HBG
  have HTL := Lib.hid htl
  clear hXd hXa T h hc htl
  unfold CmdAt.cmV
  go_enter Tryz.func28, Tryz.ntmps28
  go_upto_region 1 with fail
  rw [HW1.out, HW2.out, HG.out]
  go_cut [5, 6] from 7 to 18 (fun dd ff wx => ∃ vR2 D, dd = .pointer (some ⟨D, 0, none⟩) ∧ ff = .bool true ∧ Hid (Cq B w wx p pt q G (G + 1) vR ks vR2 ⟨t2, m.l⟩ ks A n c k) ∧ Hid (Box3 wx D (.int .i64 y0) (.int .u64 (y1 : Int)) (.int .u64 (y2 : Int))) ∧ Hid (Off w p pt q G (G + 1) vR2 ks A n D))
  case first =>
    go_region_held3 (fun W => W.cell? ⟨p, 0, none⟩ = some (.pointer (some ⟨pt, 0, none⟩)) ∧ W.cell? ⟨G, 1, none⟩ = some (.int .u64 (k.ss : Int)) ∧ W.cell? ⟨G, 2, none⟩ = some (.int .u64 (k.sq : Int)))
      (first
        | exact ⟨X2d.out.mp.c0, X2d.out.cx.c1, X2d.out.cx.c2⟩
        | exact ⟨X2a.out.mp.c0, X2a.out.cx.c1, X2a.out.cx.c2⟩
        | exact ⟨X4.out.mp.c0, X4.out.cx.c1, X4.out.cx.c2⟩
        | exact ⟨X5.out.mp.c0, X5.out.cx.c1, X5.out.cx.c2⟩
        | (rw [HW6.out]; exact ⟨X6.out.mp.c0, X6.out.cx.c1, X6.out.cx.c2⟩))
      (first
        | (go_at_call 71
           (with_reducible refine (HBG.out _ X2d.out).mono ?_)
           rintro e w5 ⟨rfl, hleft⟩
           obtain ⟨vR2, hX4, _, _⟩ := X2d.out.sess hleft
           obtain ⟨hX5, hQ5, hR, w6, HW6, hX6, hQ6⟩ := Cq.fin1 hX4 (.int .i64 y0) (.int .u64 (y1 : Int)) (.int .u64 (y2 : Int))
           have X4 := Lib.hid hX4
           have X5 := Lib.hid hX5
           have X6 := Lib.hid hX6
           have R6 := Lib.hid hR
           have Q6 := Lib.hid hQ6
           have z0 := hQ5.c0
           have z1 := hQ5.c1
           have z2 := hQ5.c2
           have zf := hQ5.free
           have zl := hQ5.lt
           clear hleft hX4 hX5 hQ5 hR hX6 hQ6)
        | (go_at_call 71
           (with_reducible refine (HBG.out _ X2a.out).mono ?_)
           rintro e w5 ⟨rfl, hleft⟩
           obtain ⟨vR2, hX4, hQ5, hR, w6, HW6, hX6, hQ6⟩ := Cq.fin2 X2.out hleft (.int .i64 y0) (.int .u64 (y1 : Int)) (.int .u64 (y2 : Int))
           have X4 := Lib.hid hX4
           have X6 := Lib.hid hX6
           have R6 := Lib.hid hR
           have Q6 := Lib.hid hQ6
           have z0 := hQ5.c0
           have z1 := hQ5.c1
           have z2 := hQ5.c2
           have zf := hQ5.free
           have zl := hQ5.lt
           clear hleft hX4 hQ5 hR hX6 hQ6))
    all_goals
      go_wp2_with fail
      go_meet
      rw [HW6.out]
      exact ⟨_, _, rfl, rfl, X6, Q6, R6⟩
  case rest =>
    obtain ⟨vR2, D, rfl, rfl, X6, Q6, R6⟩ := hcut
    clear x0 x1 x2 x3 x4 x5 x6 x7 x8 x9 hCl c0 hpl X2d X2a HBG
    obtain ⟨x0, x1, x2, x3, x4, x5, x6, x7, x8, x9⟩ := X6.out.cx.all
    have hCl := X6.out.cx.lt
    go_wp2_with fail
    go_at_call 72
    refine (HDO.out _ _ X6.out).mono ?_
    rintro e w7 ⟨rfl, hL⟩
    obtain ⟨vR7, ks7, hX7, ho7, hf7, hs7⟩ := Cq.left X6.out hL
    have hQ7 := Q6.out.keep ho7 R6.out.no
    have hR7 := R6.out.step hf7 hs7 Q6.out.lt
    obtain ⟨q0, q1, q2⟩ : _ ∧ _ ∧ _ := ⟨hQ7.c0, hQ7.c1, hQ7.c2⟩
    have qf := hQ7.free
    have ql := hQ7.lt
    obtain ⟨hX8, hQ8⟩ := Cq.put hX7 hQ7 hR7 (.int .i64 te) (.int .u64 (tn : Int)) (.int .u64 (tx : Int))
    obtain ⟨w8, hw8⟩ : ∃ w8, (((w7.setCell ⟨D, 0, none⟩ (.int .i64 te)).setCell ⟨D, 1, none⟩ (.int .u64 (tn : Int))).setCell ⟨D, 2, none⟩ (.int .u64 (tx : Int))) = w8 := ⟨_, rfl⟩
    rw [hw8] at hX8 hQ8
    have X8 := Lib.hid hX8
    have Q8 := Lib.hid hQ8
    have R8 := Lib.hid hR7
    have HW8 := Lib.hid hw8
    clear x0 x1 x2 x3 x4 x5 x6 x7 x8 x9 hCl hL hX7 ho7 hf7 hs7 hQ7 hR7 hX8 hQ8 hw8
    go_upto_region 5 with fail
    rw [HW8.out]
    clear q0 q1 q2 qf ql
    have hpr := X8.out.mp.plt
    have hXd := X8.out.below ((Below.refl w8.heap.size w8).drew)
    have hQd := Q8.out.below ((Below.refl w8.heap.size w8).drew)
    have HE := Lib.hid (HEN.out _ _ _ hXd)
    have XD := Lib.hid hXd
    have QD := Lib.hid hQd
    clear hXd hQd
    go_region_held3 (fun W => W.cell? ⟨p, 0, none⟩ = some (.pointer (some ⟨pt, 0, none⟩)) ∧ W.cell? ⟨G, 1, none⟩ = some (.int .u64 (k.ss : Int)) ∧ W.cell? ⟨G, 2, none⟩ = some (.int .u64 (k.sq : Int)) ∧ W.cell? ⟨D, 0, none⟩ = some (.int .i64 te) ∧ W.cell? ⟨D, 1, none⟩ = some (.int .u64 (tn : Int)) ∧ W.cell? ⟨D, 2, none⟩ = some (.int .u64 (tx : Int)))
      (first
        | exact ⟨XD.out.mp.c0, XD.out.cx.c1, XD.out.cx.c2, QD.out.c0, QD.out.c1, QD.out.c2⟩
        | exact ⟨X9.out.mp.c0, X9.out.cx.c1, X9.out.cx.c2, Q9.out.c0, Q9.out.c1, Q9.out.c2⟩)
      (first
        | (go_at_call 73
           (with_reducible refine HE.out.mono ?_)
           rintro e w9 ⟨rfl, hleft⟩
           obtain ⟨vR9, hX9, ho9, _⟩ := Cq.sess XD.out hleft
           have hQ9 := QD.out.keep ho9 R8.out.no
           have X9 := Lib.hid hX9
           have Q9 := Lib.hid hQ9
           clear hleft hX9 hQ9 ho9))
    obtain ⟨e0, e1, e2⟩ : _ ∧ _ ∧ _ := ⟨Q9.out.c0, Q9.out.c1, Q9.out.c2⟩
    have hpx := X9.out.px
    have e3 := Q9.out.lt
    obtain ⟨p0, p1, p2⟩ : _ ∧ _ ∧ _ := ⟨hpx.c0, hpx.c1, hpx.c2⟩
    have pf := hpx.free
    have hPl := hpx.lt
    have HZ := Lib.hid (hpx.set (.int .i64 te) (.int .u64 (tn : Int)) (.int .u64 (tx : Int))).1
    have HF := Lib.hid (X9.out.ends (.int .i64 te) (.int .u64 (tn : Int)) (.int .u64 (tx : Int)))
    clear hpx
    go_wp2
    refine bodyPost_ret (res1y (q := 4) rfl _ rfl HZ.out) rfl ?_
    exact ⟨rfl, HF.out⟩
end
end Go.Proofs.YthaepkpmpnofgaaGreat.OnceP
set_option linter.unusedVariables false
set_option linter.unusedSimpArgs false
namespace Go.Proofs.YthaepkpmpnofgaaGreat.ApplyP
open Go.RowKit Go.Proofs.YthaepkpmpnofgaaGreat.Kit Go.Proofs.YthaepkpmpnofgaaGreat.Blocks Go.Proofs.YthaepkpmpnofgaaGreat.Ses Go.Proofs.YthaepkpmpnofgaaGreat.Rws Go.Proofs.YthaepkpmpnofgaaGreat.Boxs Go.Proofs.YthaepkpmpnofgaaGreat.Mch Go.Proofs.YthaepkpmpnofgaaGreat.SsnWalkA Go.Proofs.YthaepkpmpnofgaaGreat.MatP Go.Proofs.YthaepkpmpnofgaaGreat.KeepP Go.Proofs.YthaepkpmpnofgaaGreat.OutP Go.Proofs.YthaepkpmpnofgaaGreat.SubP Go.Proofs.YthaepkpmpnofgaaGreat.DoP Go.Proofs.YthaepkpmpnofgaaGreat.OnceP
open Go.Proofs.YthaepkpmpnofgaaGreat.MatD (Hs res1y)
open Go.Proofs.YthaepkpmpnofgaaGreat.Sag (Sg takes outc abort)
open Go.Proofs.YthaepkpmpnofgaaGreat.SagAt (At Box4 sgV Fresh)
open Go.Proofs.YthaepkpmpnofgaaGreat.Cmd (Cm mayB may_kind yes dec decZ yes_back)
open Go.Proofs.YthaepkpmpnofgaaGreat.CmdAt (cmV CAt Bx cm_box)
open Go.Proofs.YthaepkpmpnofgaaGreat.RdT (only_s only_b)

section
variable {B : Nat} {w0 w W W' : World} {p pt q C P D : Nat} {vR0 vR vR' : Value} {m m' : Mc} {ks0 ks ks' : List (Nat × Hs)} {A : Option Addr} {n c : Nat} {k : Cm}
set_option maxRecDepth 100000 in
set_option maxHeartbeats 16000000 in
theorem ponce_old (h : MP B w p pt q vR m ks) (hf : Fit m) (hc : CAt w A n k) (hA : 0 < n → ∀ ad, A = some ad → ¬ Own p pt q vR ad.block) (hb : begF m.t k.ss k.sq = false) :
    Calls Tryz.prog 28 #[.pointer (some ⟨p, 0, none⟩), cmV A n c k] w fun e w' => e = .returned (ryV (begY m.t k.ss k.sq)) ∧ LeftP B w p pt q vR ks ⟨begT m.t k.ss, m.l⟩ w' := by
  obtain ⟨w1, w2, G, HW1, HW2, HG, HG1, T⟩ := two_new c hc
  have X2 := Lib.hid (two_cq h T hA)
  have hG1 := hf.tb
  obtain ⟨t1, ht1⟩ : ∃ t, m.t = t := ⟨_, rfl⟩
  rw [ht1] at hG1 hb ⊢
  have HT1 := Lib.hid ht1
  obtain ⟨t2, ht2⟩ : ∃ t, begT t1 k.ss = t := ⟨_, rfl⟩
  obtain ⟨y0, y1, y2, hy⟩ : ∃ a b c, begY t1 k.ss k.sq = ⟨a, b, c⟩ := ⟨_, _, _, rfl⟩
  have hG2 : Sane t2 := by rw [← ht2]; exact hG1.beg k.ss
  rw [ht2]
  rw [hy]
  have HT2 := Lib.hid ht2
  have HY := Lib.hid hy
  have HB := Lib.hid hb
  have HSQ : Hid (U k.sq) := hc.fin.sq
  have HG2 := Lib.hid hG1
  clear ht1 ht2 hy hG2 hb hG1
  obtain ⟨x0, x1, x2, x3, x4, x5, x6, x7, x8, x9⟩ := X2.out.cx.all
  have hCl := X2.out.cx.lt
  have c0 := X2.out.mp.c0
  have hpl := X2.out.mp.plt
  have hXd := X2.out.below ((Below.refl w2.heap.size w2).drew)
  have hXa := (X2.out.below ((Below.refl w2.heap.size w2).alloc (Nat.le_refl _) (.cells #[.int .i64 0, .int .u64 0, .int .u64 0] 32))).below (Below.refl _ _).drew
  have X2d := Lib.hid hXd
  have X2a := Lib.hid hXa
  have HBG := Lib.hid (fun W (X : Cq B w W p pt q G (G + 1) vR ks vR m ks A n c k) => Cal.beg_any X.mp.tb (by rw [HT1.out]; exact HG2.out) k.ss HSQ.out (by rw [HT1.out]; exact HT2) (by rw [HT1.out]; exact HY) (by rw [HT1.out]; exact HB))
  unfold Rws.ryV at HBG
  clear hXd hXa T h hc
  unfold CmdAt.cmV
  go_enter Tryz.func28, Tryz.ntmps28
  go_upto_region 1 with fail
  rw [HW1.out, HW2.out, HG.out]
  go_cut [5, 6] from 7 to 18 (fun dd ff wx => ∃ vR2 D, dd = .pointer (some ⟨D, 0, none⟩) ∧ ff = .bool false ∧ Hid (Cq B w wx p pt q G (G + 1) vR ks vR2 ⟨t2, m.l⟩ ks A n c k) ∧ Hid (Box3 wx D (.int .i64 y0) (.int .u64 (y1 : Int)) (.int .u64 (y2 : Int))) ∧ Hid (Off w p pt q G (G + 1) vR2 ks A n D))
  case first =>
    go_region_held3 (fun W => W.cell? ⟨p, 0, none⟩ = some (.pointer (some ⟨pt, 0, none⟩)) ∧ W.cell? ⟨G, 1, none⟩ = some (.int .u64 (k.ss : Int)) ∧ W.cell? ⟨G, 2, none⟩ = some (.int .u64 (k.sq : Int)))
      (first
        | exact ⟨X2d.out.mp.c0, X2d.out.cx.c1, X2d.out.cx.c2⟩
        | exact ⟨X2a.out.mp.c0, X2a.out.cx.c1, X2a.out.cx.c2⟩
        | exact ⟨X4.out.mp.c0, X4.out.cx.c1, X4.out.cx.c2⟩
        | exact ⟨X5.out.mp.c0, X5.out.cx.c1, X5.out.cx.c2⟩
        | (rw [HW6.out]; exact ⟨X6.out.mp.c0, X6.out.cx.c1, X6.out.cx.c2⟩))
      (first
        | (go_at_call 71
           (with_reducible refine (HBG.out _ X2d.out).mono ?_)
           rintro e w5 ⟨rfl, hleft⟩
           obtain ⟨vR2, hX4, _, _⟩ := X2d.out.sess hleft
           obtain ⟨hX5, hQ5, hR, w6, HW6, hX6, hQ6⟩ := Cq.fin1 hX4 (.int .i64 y0) (.int .u64 (y1 : Int)) (.int .u64 (y2 : Int))
           have X4 := Lib.hid hX4
           have X5 := Lib.hid hX5
           have X6 := Lib.hid hX6
           have R6 := Lib.hid hR
           have Q6 := Lib.hid hQ6
           have z0 := hQ5.c0
           have z1 := hQ5.c1
           have z2 := hQ5.c2
           have zf := hQ5.free
           have zl := hQ5.lt
           clear hleft hX4 hX5 hQ5 hR hX6 hQ6)
        | (go_at_call 71
           (with_reducible refine (HBG.out _ X2a.out).mono ?_)
           rintro e w5 ⟨rfl, hleft⟩
           obtain ⟨vR2, hX4, hQ5, hR, w6, HW6, hX6, hQ6⟩ := Cq.fin2 X2.out hleft (.int .i64 y0) (.int .u64 (y1 : Int)) (.int .u64 (y2 : Int))
           have X4 := Lib.hid hX4
           have X6 := Lib.hid hX6
           have R6 := Lib.hid hR
           have Q6 := Lib.hid hQ6
           have z0 := hQ5.c0
           have z1 := hQ5.c1
           have z2 := hQ5.c2
           have zf := hQ5.free
           have zl := hQ5.lt
           clear hleft hX4 hQ5 hR hX6 hQ6))
    all_goals
      go_wp2_with fail
      go_meet
      rw [HW6.out]
      exact ⟨_, _, rfl, rfl, X6, Q6, R6⟩
  case rest =>
    obtain ⟨vR2, D, rfl, rfl, X6, Q6, R6⟩ := hcut
    clear x0 x1 x2 x3 x4 x5 x6 x7 x8 x9 hCl c0 hpl X2d X2a HBG
    obtain ⟨e0, e1, e2⟩ : _ ∧ _ ∧ _ := ⟨Q6.out.c0, Q6.out.c1, Q6.out.c2⟩
    have e3 := Q6.out.lt
    have hpx := X6.out.px
    obtain ⟨p0, p1, p2⟩ : _ ∧ _ ∧ _ := ⟨hpx.c0, hpx.c1, hpx.c2⟩
    have pf := hpx.free
    have hPl := hpx.lt
    have HZ := Lib.hid (hpx.set (.int .i64 y0) (.int .u64 (y1 : Int)) (.int .u64 (y2 : Int))).1
    have HF := Lib.hid (X6.out.ends (.int .i64 y0) (.int .u64 (y1 : Int)) (.int .u64 (y2 : Int)))
    clear hpx
    go_wp2
    refine bodyPost_ret (res1y (q := 4) rfl _ rfl HZ.out) rfl ?_
    exact ⟨rfl, HF.out⟩
theorem ponce_any (h : MP B w p pt q vR m ks) (hf : Fit m) (hc : CAt w A n k) (hA : 0 < n → ∀ ad, A = some ad → ¬ Own p pt q vR ad.block) (hm : mayB k = true) (h1 : k.k ≠ 1) (h4 : k.k ≠ 4) :
    Calls Tryz.prog 28 #[.pointer (some ⟨p, 0, none⟩), cmV A n c k] w fun e w' =>
      e = .returned (ryV (if begF m.t k.ss k.sq = true then (does m.l k).2 else begY m.t k.ss k.sq)) ∧ LeftP B w p pt q vR ks (if begF m.t k.ss k.sq = true then ⟨endT (begT m.t k.ss) k.ss k.sq (does m.l k).2, (does m.l k).1⟩ else ⟨begT m.t k.ss, m.l⟩) w' := by
  cases hb : begF m.t k.ss k.sq with
  | true => rw [if_pos rfl, if_pos rfl]; exact ponce_new h hf hc hA hm h1 h4 hb
  | false => rw [if_neg (by decide), if_neg (by decide)]; exact ponce_old h hf hc hA hb
theorem pout_any (h : MP B w p pt q vR m ks) (hf : Fit m) (hc : CAt w A n k) :
    Calls Tryz.prog 27 #[.pointer (some ⟨p, 0, none⟩), cmV A n c k] w fun e w' => e = .returned (ryV (hears m.l k).2) ∧ LeftP B w p pt q vR ks ⟨m.t, (hears m.l k).1⟩ w' := by
  unfold hears
  cases hs : seekS m.l k.sg with
  | none =>
    simp only
    exact (pout_no h hc hs).mono fun e w' q => ⟨q.1, LeftP.of_below h q.2⟩
  | some i =>
    obtain ⟨y, hy, _, _, _⟩ := seekS_some hs
    simp only [hy]
    cases ht : takes y.2 k.st k.bk k.tr k.ok with
    | true =>
      simp only [if_true]
      exact pout_yes h hc hs hy ht (by rw [h.len]; have := hf.few; omega)
    | false =>
      rw [if_neg (by decide)]
      exact (pout_stale h hc hs hy ht).mono fun e w' q => ⟨q.1, LeftP.of_below h q.2⟩
set_option maxRecDepth 100000 in
theorem preg_any (h : MP B w p pt q vR m ks) (hf : Fit m) :
    Calls Tryz.prog 26 #[.pointer (some ⟨p, 0, none⟩)] w fun e w' => e = .returned (ryV ⟨regE m.t, regId m.t, 0⟩) ∧ LeftP B w p pt q vR ks ⟨regT m.t, m.l⟩ w' := by
  have hy := Box3.new w (.int .i64 0) (.int .u64 0) (.int .u64 0)
  have hb2 : Below w.heap.size w (w.alloc (.cells #[.int .i64 0, .int .u64 0, .int .u64 0] 32)) := (Below.refl _ _).alloc (Nat.le_refl _) _
  obtain ⟨w2, hw2⟩ : ∃ w2, w.alloc (.cells #[.int .i64 0, .int .u64 0, .int .u64 0] 32) = w2 := ⟨_, rfl⟩
  obtain ⟨G, hG⟩ : ∃ G, w.heap.size = G := ⟨_, rfl⟩
  rw [hw2, hG] at hy
  rw [hw2] at hb2
  obtain ⟨e0, he0⟩ : ∃ x, regE m.t = x := ⟨_, rfl⟩
  obtain ⟨i0, hi0⟩ : ∃ x, regId m.t = x := ⟨_, rfl⟩
  have h2 := h.below hb2
  have HC := Lib.hid (Cal.reg_any h2.tb hf.tb (Lib.hid rfl) (Lib.hid hi0) (Lib.hid he0))
  rw [he0, hi0]
  have c0 := h2.c0
  have hpl := h2.plt
  have HW2 := Lib.hid hw2
  have HG := Lib.hid hG
  have HH := Lib.hid (And.intro h (And.intro h2 (And.intro hb2 hy)))
  clear hw2 hG hb2 hy h h2 he0 hi0
  go_enter Tryz.func26, Tryz.ntmps26
  go_upto_region 1 with fail
  rw [HW2.out, HG.out]
  go_wp2_with fail
  go_at_call 68
  refine HC.out.mono ?_
  rintro e w5 ⟨rfl, hleft⟩
  obtain ⟨hM, hM2, hb2, hy⟩ := HH.out
  obtain ⟨vR', h1, h2, h3⟩ := MatP.MP.sess hM2 hleft
  have hno : ¬ Own p pt q vR G := fun hg => by have := (hM.own_lt hg).2; have := HG.out; omega
  have hns : ¬ St ks G := fun hg => by have := hM.st_lt hg; have := HG.out; omega
  have hno' : ¬ Own p pt q vR' G := fun hg => by
    rcases h3 G hg with e1 | e1
    · exact hno e1
    · have := hy.lt; omega
  have hy5 := hy.keep h2 hno
  obtain ⟨p0, p1, p2⟩ : _ ∧ _ ∧ _ := ⟨hy5.c0, hy5.c1, hy5.c2⟩
  have pf := hy5.free
  have hPl := hy5.lt
  have HZ := Lib.hid (hy5.set (.int .i64 e0) (.int .u64 (i0 : Int)) (.int .u64 0))
  have HF := Lib.hid (OutP.LeftP.close hM ((Only.of_below hb2).trans h2) h1 (fun g hg => (h3 g hg).imp id fun e => Nat.le_trans hb2.size e) (fun r hr => .inl hr) (P := G) (by have := HG.out; omega) hns hno' HZ.out.2)
  clear hM hM2 hb2 hy h1 h2 h3 hno hns hno' hy5 hleft
  go_wp2
  refine bodyPost_ret (res1y (q := 2) rfl _ rfl HZ.out.1) rfl ?_
  exact ⟨rfl, HF.out⟩
end
end Go.Proofs.YthaepkpmpnofgaaGreat.ApplyP
set_option linter.unusedVariables false
set_option linter.unusedSimpArgs false
namespace Go.Proofs.YthaepkpmpnofgaaGreat.ApplyQ
open Go.RowKit Go.Proofs.YthaepkpmpnofgaaGreat.Kit Go.Proofs.YthaepkpmpnofgaaGreat.Blocks Go.Proofs.YthaepkpmpnofgaaGreat.Ses Go.Proofs.YthaepkpmpnofgaaGreat.Rws Go.Proofs.YthaepkpmpnofgaaGreat.Boxs Go.Proofs.YthaepkpmpnofgaaGreat.Mch Go.Proofs.YthaepkpmpnofgaaGreat.SsnWalkA Go.Proofs.YthaepkpmpnofgaaGreat.MatP Go.Proofs.YthaepkpmpnofgaaGreat.KeepP Go.Proofs.YthaepkpmpnofgaaGreat.OutP Go.Proofs.YthaepkpmpnofgaaGreat.SubP Go.Proofs.YthaepkpmpnofgaaGreat.DoP Go.Proofs.YthaepkpmpnofgaaGreat.OnceP Go.Proofs.YthaepkpmpnofgaaGreat.ApplyP
open Go.Proofs.YthaepkpmpnofgaaGreat.MatD (Hs res1y)
open Go.Proofs.YthaepkpmpnofgaaGreat.Sag (Sg takes outc abort)
open Go.Proofs.YthaepkpmpnofgaaGreat.SagAt (At Box4 sgV Fresh)
open Go.Proofs.YthaepkpmpnofgaaGreat.Cmd (Cm mayB may_kind yes dec decZ yes_back)
open Go.Proofs.YthaepkpmpnofgaaGreat.CmdAt (cmV CAt Bx cm_box)
open Go.Proofs.YthaepkpmpnofgaaGreat.RdT (only_s only_b)

theorem dec_lit {s : ByteArray} (hs : s.size ≤ 9223372036854775807) {k : Cm} {z : Int} (hm : dec s = k) (hz : decZ s = z) (w : World) : Calls Tryz.prog 24 #[.string s] w fun e w' => ∃ A n c, e = .returned (.tuple #[cmV A n c k, .int .i64 z]) ∧ CAt w' A n k ∧ Below w.heap.size w w' ∧ Dx.New w A n :=
  (CmnWalkD.dec_any s w hs).mono fun e w' ⟨A, n, c, h⟩ => ⟨A, n, c, by rw [← hm, ← hz]; exact h.1, by rw [← hm]; exact h.2.1, h.2.2⟩
section
variable {B : Nat} {w0 w W W' : World} {p pt q C P D : Nat} {vR0 vR vR' : Value} {m m' : Mc} {ks0 ks ks' : List (Nat × Hs)} {A : Option Addr} {n c : Nat} {k : Cm}
theorem cq_new {w1 w2 w3 : World} (h : MP B w p pt q vR m ks) (hP : Box3 w1 w.heap.size (.int .i64 0) (.int .u64 0) (.int .u64 0)) (hb1 : Below w.heap.size w w1) (hb2 : Below w1.heap.size w1 w2) (hnew : Dx.New w1 A n)
    (hx : Bx w3 w2.heap.size (.int .i64 k.k) (.int .u64 (k.ss : Int)) (.int .u64 (k.sq : Int)) (.int .u64 (k.sg : Int)) (.slice A n c) (.int .i64 k.st) (.bool k.bk) (.int .i64 k.tr) (.bool k.ok) (.int .u64 (k.nw : Int))) (hA3 : CAt w3 A n k) (hb3 : Below w2.heap.size w2 w3) :
    Cq B w w3 p pt q w2.heap.size w.heap.size vR ks vR m ks A n c k := by
  have hb12 : Below w.heap.size w w2 := hb1.trans (hb2.mono hb1.size)
  have hb : Below w.heap.size w w3 := hb12.trans (hb3.mono hb12.size)
  have h3 := h.below hb
  refine ⟨h3, hx, (hP.below hb2).below hb3, hA3, fun e => ?_, fun e => ?_, fun hn ad e e2 => ?_, fun e => ?_, Only.of_below hb, fun _ h => .inl h, fun _ h => .inl h, Nat.le_refl _⟩
  · have := (h.own_lt e).2; have := hb12.size; omega
  · have := (h.own_lt e).2; omega
  · have := hnew hn ad e; have := (h.own_lt e2).2; have := hb1.size; omega
  · have := h.st_lt e; omega
set_option maxRecDepth 100000 in
set_option maxHeartbeats 16000000 in
theorem papp_bad (h : MP B w p pt q vR m ks) (s : ByteArray) (hsz : s.size ≤ 9223372036854775807) (hz : decZ s = 2) :
    Calls Tryz.prog 11 #[.pointer (some ⟨p, 0, none⟩), .string s] w fun e w' => e = .returned (ryV (yE 2)) ∧ LeftP B w p pt q vR ks m w' := by
  obtain ⟨k, hk⟩ : ∃ k, dec s = k := ⟨_, rfl⟩
  have HD := Lib.hid (dec_lit hsz hk hz)
  have H := Lib.hid h
  have hP := Box3.new w (.int .i64 0) (.int .u64 0) (.int .u64 0)
  have hb0 : Below w.heap.size w (w.alloc (.cells #[.int .i64 0, .int .u64 0, .int .u64 0] 32)) := (Below.refl _ _).alloc (Nat.le_refl _) _
  obtain ⟨w0, hw0⟩ : ∃ x, w.alloc (.cells #[.int .i64 0, .int .u64 0, .int .u64 0] 32) = x := ⟨_, rfl⟩
  rw [hw0] at hP hb0
  have HW0 := Lib.hid hw0
  have HP := Lib.hid hP
  have HB0 := Lib.hid hb0
  clear hw0 hP hb0 hk hz h hsz
  go_enter Tryz.func11, Tryz.ntmps11
  go_wp2_with fail
  rw [HW0.out]
  with_reducible refine (HD.out w0).mono ?_
  rintro e w1 ⟨A, n, c, rfl, hA, hb1, hnew⟩
  obtain ⟨w2, HW2, hx, hA2, hb2⟩ := cm_box c hA
  have hX := cq_new H.out HP.out HB0.out hb1 hnew hx hA2 hb2
  obtain ⟨P, hPe⟩ : ∃ P, w.heap.size = P := ⟨_, rfl⟩
  obtain ⟨C, hCe⟩ : ∃ C, w1.heap.size = C := ⟨_, rfl⟩
  rw [hPe, hCe] at hX
  clear hA hb1 hnew hx hA2 hb2
  unfold CmdAt.cmV
  go_upto_region 4 with fail
  rw [HW2.out]
  clear hPe hCe
  have hpx := hX.px
  obtain ⟨p0, p1, p2⟩ : _ ∧ _ ∧ _ := ⟨hpx.c0, hpx.c1, hpx.c2⟩
  have pf := hpx.free
  have hPl := hpx.lt
  have HZ := Lib.hid (hpx.set (.int .i64 2) (.int .u64 0) (.int .u64 0)).1
  have HF := Lib.hid (hX.ends (.int .i64 2) (.int .u64 0) (.int .u64 0))
  clear hpx hX
  go_wp2
  refine bodyPost_ret (res1y (q := 4) rfl _ rfl HZ.out) rfl ?_
  exact ⟨rfl, HF.out⟩
set_option maxRecDepth 100000 in
set_option maxHeartbeats 16000000 in
theorem papp_reg (h : MP B w p pt q vR m ks) (hf : Fit m) (s : ByteArray) (hsz : s.size ≤ 9223372036854775807) (hk : dec s = k) (hz : decZ s = 0) (hm : mayB k = true) (hfin : Cmd.Fin k) (h1 : k.k = 1) :
    Calls Tryz.prog 11 #[.pointer (some ⟨p, 0, none⟩), .string s] w fun e w' => e = .returned (ryV (apC m k).2) ∧ LeftP B w p pt q vR ks (apC m k).1 w' := by
  have HD := Lib.hid (dec_lit hsz hk hz)
  obtain ⟨t1, ht1⟩ : ∃ t, clock m.t k.nw = t := ⟨_, rfl⟩
  have hG1 : Sane t1 := by rw [← ht1]; exact hf.tb.clock hfin.nw
  have hfit : Fit ⟨t1, m.l⟩ := hf.list.fit hG1
  have hap : apC m k = ((⟨regT t1, m.l⟩ : Mc), (⟨regE t1, regId t1, 0⟩ : Ry)) := by
    unfold apC
    rw [ht1]
    rw [if_pos h1]
  rw [hap]
  simp only
  obtain ⟨⟨te, tn, tx⟩, htl⟩ : ∃ r, (⟨regE t1, regId t1, 0⟩ : Ry) = r := ⟨_, rfl⟩
  obtain ⟨m1, hm1⟩ : ∃ r, (⟨regT t1, m.l⟩ : Mc) = r := ⟨_, rfl⟩
  rw [htl, hm1]
  have HFN : Hid (∀ (A : Option Addr) (n c C P : Nat) W vR2, Cq B w W p pt q C P vR ks vR2 ⟨t1, m.l⟩ ks A n c k → Calls Tryz.prog 26 #[.pointer (some ⟨p, 0, none⟩)] W fun e w' => e = .returned (.agg #[.int .i64 te, .int .u64 (tn : Int), .int .u64 (tx : Int)]) ∧ LeftP B W p pt q vR2 ks m1 w') := fun A n c C P W vR2 X => by
    have := preg_any X.mp hfit
    simp only at this
    rw [htl, hm1] at this
    exact this
  have HT1 := Lib.hid ht1
  have HNW : Hid (U k.nw) := hfin.nw
  have HFT := Lib.hid hf.tb
  have H := Lib.hid h
  have hP := Box3.new w (.int .i64 0) (.int .u64 0) (.int .u64 0)
  have hb0 : Below w.heap.size w (w.alloc (.cells #[.int .i64 0, .int .u64 0, .int .u64 0] 32)) := (Below.refl _ _).alloc (Nat.le_refl _) _
  obtain ⟨w0, hw0⟩ : ∃ x, w.alloc (.cells #[.int .i64 0, .int .u64 0, .int .u64 0] 32) = x := ⟨_, rfl⟩
  rw [hw0] at hP hb0
  have HW0 := Lib.hid hw0
  have HP := Lib.hid hP
  have HB0 := Lib.hid hb0
  have k1 : (k.k == 1) = true := by rw [h1]; rfl
  clear hw0 hP hb0 hk hz h hsz htl hm1 hap hfit hG1 ht1 h1 hm hf hfin
  go_enter Tryz.func11, Tryz.ntmps11
  go_wp2_with fail
  rw [HW0.out]
  with_reducible refine (HD.out w0).mono ?_
  rintro e w1 ⟨A, n, c, rfl, hA, hb1, hnew⟩
  obtain ⟨w2, HW2, hx, hA2, hb2⟩ := cm_box c hA
  have hX := cq_new H.out HP.out HB0.out hb1 hnew hx hA2 hb2
  obtain ⟨P, hPe⟩ : ∃ P, w.heap.size = P := ⟨_, rfl⟩
  obtain ⟨C, hCe⟩ : ∃ C, w1.heap.size = C := ⟨_, rfl⟩
  rw [hPe, hCe] at hX
  clear hA hb1 hnew hx hA2 hb2
  unfold CmdAt.cmV
  go_upto_region 4 with fail
  rw [HW2.out]
  clear hPe hCe
  have hd := hX.below ((Below.refl w2.heap.size w2).drew)
  have HCLK := Lib.hid (Cal.clock_any hd.mp.tb HFT.out HNW.out HT1)
  have XD := Lib.hid hd
  have hpl := hX.mp.plt
  have hCl := hX.cx.lt
  clear hX hd
  go_upto_region 6 with fail
  go_region_held3 (fun W => W.cell? ⟨p, 0, none⟩ = some (.pointer (some ⟨pt, 0, none⟩)) ∧ W.cell? ⟨C, 9, none⟩ = some (.int .u64 (k.nw : Int)))
    (first
      | exact ⟨XD.out.mp.c0, XD.out.cx.c9⟩
      | exact ⟨X3.out.mp.c0, X3.out.cx.c9⟩)
    (first
      | (go_at_call 25
         (with_reducible refine HCLK.out.mono ?_)
         rintro e w3 ⟨rfl, hleft⟩
         obtain ⟨vR1, hX3, _, _⟩ := XD.out.sess hleft
         have X3 := Lib.hid hX3
         clear hleft hX3))
  clear hCl hpl
  obtain ⟨x0, x1, x2, x3, x4, x5, x6, x7, x8, x9⟩ := X3.out.cx.all
  have hCl := X3.out.cx.lt
  go_wp2_with fail
  go_at_call 26
  refine (HFN.out A n c C P _ _ X3.out).mono ?_
  rintro e w4 ⟨rfl, hL⟩
  obtain ⟨vR4, ks4, hX4, _, _, _⟩ := Cq.left X3.out hL
  have hpx := hX4.px
  obtain ⟨p0, p1, p2⟩ : _ ∧ _ ∧ _ := ⟨hpx.c0, hpx.c1, hpx.c2⟩
  have pf := hpx.free
  have hPl := hpx.lt
  have HZ := Lib.hid (hpx.set (.int .i64 te) (.int .u64 (tn : Int)) (.int .u64 (tx : Int))).1
  have HF := Lib.hid (hX4.ends (.int .i64 te) (.int .u64 (tn : Int)) (.int .u64 (tx : Int)))
  clear hpx hX4 hL x0 x1 x2 x3 x4 x5 x6 x7 x8 x9 hCl
  go_wp2
  refine bodyPost_ret (res1y (q := 4) rfl _ rfl HZ.out) rfl ?_
  exact ⟨rfl, HF.out⟩
set_option maxRecDepth 100000 in
set_option maxHeartbeats 16000000 in
theorem papp_out (h : MP B w p pt q vR m ks) (hf : Fit m) (s : ByteArray) (hsz : s.size ≤ 9223372036854775807) (hk : dec s = k) (hz : decZ s = 0) (hm : mayB k = true) (hfin : Cmd.Fin k) (h4 : k.k = 4) :
    Calls Tryz.prog 11 #[.pointer (some ⟨p, 0, none⟩), .string s] w fun e w' => e = .returned (ryV (apC m k).2) ∧ LeftP B w p pt q vR ks (apC m k).1 w' := by
  have HD := Lib.hid (dec_lit hsz hk hz)
  obtain ⟨t1, ht1⟩ : ∃ t, clock m.t k.nw = t := ⟨_, rfl⟩
  have hG1 : Sane t1 := by rw [← ht1]; exact hf.tb.clock hfin.nw
  have hfit : Fit ⟨t1, m.l⟩ := hf.list.fit hG1
  have hap : apC m k = ((⟨t1, (hears m.l k).1⟩ : Mc), (hears m.l k).2) := by
    unfold apC
    rw [ht1]
    rw [if_neg (by omega), if_pos h4]
  rw [hap]
  simp only
  obtain ⟨⟨te, tn, tx⟩, htl⟩ : ∃ r, (hears m.l k).2 = r := ⟨_, rfl⟩
  obtain ⟨m1, hm1⟩ : ∃ r, (⟨t1, (hears m.l k).1⟩ : Mc) = r := ⟨_, rfl⟩
  rw [htl, hm1]
  have HFN : Hid (∀ (A : Option Addr) (n c C P : Nat) W vR2, Cq B w W p pt q C P vR ks vR2 ⟨t1, m.l⟩ ks A n c k → Calls Tryz.prog 27 #[.pointer (some ⟨p, 0, none⟩), cmV A n c k] W fun e w' => e = .returned (.agg #[.int .i64 te, .int .u64 (tn : Int), .int .u64 (tx : Int)]) ∧ LeftP B W p pt q vR2 ks m1 w') := fun A n c C P W vR2 X => by
    have := pout_any (c := c) X.mp hfit X.cat
    simp only at this
    rw [htl, hm1] at this
    exact this
  have HT1 := Lib.hid ht1
  have HNW : Hid (U k.nw) := hfin.nw
  have HFT := Lib.hid hf.tb
  have H := Lib.hid h
  have hP := Box3.new w (.int .i64 0) (.int .u64 0) (.int .u64 0)
  have hb0 : Below w.heap.size w (w.alloc (.cells #[.int .i64 0, .int .u64 0, .int .u64 0] 32)) := (Below.refl _ _).alloc (Nat.le_refl _) _
  obtain ⟨w0, hw0⟩ : ∃ x, w.alloc (.cells #[.int .i64 0, .int .u64 0, .int .u64 0] 32) = x := ⟨_, rfl⟩
  rw [hw0] at hP hb0
  have HW0 := Lib.hid hw0
  have HP := Lib.hid hP
  have HB0 := Lib.hid hb0
  have k1 : (k.k == 1) = false := by rw [h4]; rfl
  have k4 : (k.k == 4) = true := by rw [h4]; rfl
  clear hw0 hP hb0 hk hz h hsz htl hm1 hap hfit hG1 ht1 h4 hm hf hfin
  go_enter Tryz.func11, Tryz.ntmps11
  go_wp2_with fail
  rw [HW0.out]
  with_reducible refine (HD.out w0).mono ?_
  rintro e w1 ⟨A, n, c, rfl, hA, hb1, hnew⟩
  obtain ⟨w2, HW2, hx, hA2, hb2⟩ := cm_box c hA
  have hX := cq_new H.out HP.out HB0.out hb1 hnew hx hA2 hb2
  obtain ⟨P, hPe⟩ : ∃ P, w.heap.size = P := ⟨_, rfl⟩
  obtain ⟨C, hCe⟩ : ∃ C, w1.heap.size = C := ⟨_, rfl⟩
  rw [hPe, hCe] at hX
  clear hA hb1 hnew hx hA2 hb2
  unfold CmdAt.cmV
  go_upto_region 4 with fail
  rw [HW2.out]
  clear hPe hCe
  have hd := hX.below ((Below.refl w2.heap.size w2).drew)
  have HCLK := Lib.hid (Cal.clock_any hd.mp.tb HFT.out HNW.out HT1)
  have XD := Lib.hid hd
  have hpl := hX.mp.plt
  have hCl := hX.cx.lt
  clear hX hd
  go_upto_region 6 with fail
  go_region_held3 (fun W => W.cell? ⟨p, 0, none⟩ = some (.pointer (some ⟨pt, 0, none⟩)) ∧ W.cell? ⟨C, 9, none⟩ = some (.int .u64 (k.nw : Int)))
    (first
      | exact ⟨XD.out.mp.c0, XD.out.cx.c9⟩
      | exact ⟨X3.out.mp.c0, X3.out.cx.c9⟩)
    (first
      | (go_at_call 25
         (with_reducible refine HCLK.out.mono ?_)
         rintro e w3 ⟨rfl, hleft⟩
         obtain ⟨vR1, hX3, _, _⟩ := XD.out.sess hleft
         have X3 := Lib.hid hX3
         clear hleft hX3))
  clear hCl hpl
  obtain ⟨x0, x1, x2, x3, x4, x5, x6, x7, x8, x9⟩ := X3.out.cx.all
  have hCl := X3.out.cx.lt
  go_wp2_with fail
  go_at_call 27
  refine (HFN.out A n c C P _ _ X3.out).mono ?_
  rintro e w4 ⟨rfl, hL⟩
  obtain ⟨vR4, ks4, hX4, _, _, _⟩ := Cq.left X3.out hL
  have hpx := hX4.px
  obtain ⟨p0, p1, p2⟩ : _ ∧ _ ∧ _ := ⟨hpx.c0, hpx.c1, hpx.c2⟩
  have pf := hpx.free
  have hPl := hpx.lt
  have HZ := Lib.hid (hpx.set (.int .i64 te) (.int .u64 (tn : Int)) (.int .u64 (tx : Int))).1
  have HF := Lib.hid (hX4.ends (.int .i64 te) (.int .u64 (tn : Int)) (.int .u64 (tx : Int)))
  clear hpx hX4 hL x0 x1 x2 x3 x4 x5 x6 x7 x8 x9 hCl
  go_wp2
  refine bodyPost_ret (res1y (q := 4) rfl _ rfl HZ.out) rfl ?_
  exact ⟨rfl, HF.out⟩
set_option maxRecDepth 100000 in
set_option maxHeartbeats 16000000 in
theorem papp_once (h : MP B w p pt q vR m ks) (hf : Fit m) (s : ByteArray) (hsz : s.size ≤ 9223372036854775807) (hk : dec s = k) (hz : decZ s = 0) (hm : mayB k = true) (hfin : Cmd.Fin k) (h1 : k.k ≠ 1) (h4 : k.k ≠ 4) :
    Calls Tryz.prog 11 #[.pointer (some ⟨p, 0, none⟩), .string s] w fun e w' => e = .returned (ryV (apC m k).2) ∧ LeftP B w p pt q vR ks (apC m k).1 w' := by
  have HD := Lib.hid (dec_lit hsz hk hz)
  obtain ⟨t1, ht1⟩ : ∃ t, clock m.t k.nw = t := ⟨_, rfl⟩
  have hG1 : Sane t1 := by rw [← ht1]; exact hf.tb.clock hfin.nw
  have hfit : Fit ⟨t1, m.l⟩ := hf.list.fit hG1
  have hap : apC m k = ((if begF t1 k.ss k.sq = true then (⟨endT (begT t1 k.ss) k.ss k.sq (does m.l k).2, (does m.l k).1⟩ : Mc) else ⟨begT t1 k.ss, m.l⟩), (if begF t1 k.ss k.sq = true then (does m.l k).2 else begY t1 k.ss k.sq)) := by
    unfold apC
    rw [ht1]
    rw [if_neg h1, if_neg h4]
    split <;> rfl
  rw [hap]
  simp only
  obtain ⟨⟨te, tn, tx⟩, htl⟩ : ∃ r, (if begF t1 k.ss k.sq = true then (does m.l k).2 else begY t1 k.ss k.sq) = r := ⟨_, rfl⟩
  obtain ⟨m1, hm1⟩ : ∃ r, (if begF t1 k.ss k.sq = true then (⟨endT (begT t1 k.ss) k.ss k.sq (does m.l k).2, (does m.l k).1⟩ : Mc) else ⟨begT t1 k.ss, m.l⟩) = r := ⟨_, rfl⟩
  rw [htl, hm1]
  have HFN : Hid (∀ (A : Option Addr) (n c C P : Nat) W vR2, Cq B w W p pt q C P vR ks vR2 ⟨t1, m.l⟩ ks A n c k → Calls Tryz.prog 28 #[.pointer (some ⟨p, 0, none⟩), cmV A n c k] W fun e w' => e = .returned (.agg #[.int .i64 te, .int .u64 (tn : Int), .int .u64 (tx : Int)]) ∧ LeftP B W p pt q vR2 ks m1 w') := fun A n c C P W vR2 X => by
    have := ponce_any (c := c) X.mp hfit X.cat X.na hm h1 h4
    simp only at this
    rw [htl, hm1] at this
    exact this
  have HT1 := Lib.hid ht1
  have HNW : Hid (U k.nw) := hfin.nw
  have HFT := Lib.hid hf.tb
  have H := Lib.hid h
  have hP := Box3.new w (.int .i64 0) (.int .u64 0) (.int .u64 0)
  have hb0 : Below w.heap.size w (w.alloc (.cells #[.int .i64 0, .int .u64 0, .int .u64 0] 32)) := (Below.refl _ _).alloc (Nat.le_refl _) _
  obtain ⟨w0, hw0⟩ : ∃ x, w.alloc (.cells #[.int .i64 0, .int .u64 0, .int .u64 0] 32) = x := ⟨_, rfl⟩
  rw [hw0] at hP hb0
  have HW0 := Lib.hid hw0
  have HP := Lib.hid hP
  have HB0 := Lib.hid hb0
  have k1 : (k.k == 1) = false := by simpa using h1
  have k4 : (k.k == 4) = false := by simpa using h4
  clear hw0 hP hb0 hk hz h hsz htl hm1 hap hfit hG1 ht1 h1 h4 hm hf hfin
  go_enter Tryz.func11, Tryz.ntmps11
  go_wp2_with fail
  rw [HW0.out]
  with_reducible refine (HD.out w0).mono ?_
  rintro e w1 ⟨A, n, c, rfl, hA, hb1, hnew⟩
  obtain ⟨w2, HW2, hx, hA2, hb2⟩ := cm_box c hA
  have hX := cq_new H.out HP.out HB0.out hb1 hnew hx hA2 hb2
  obtain ⟨P, hPe⟩ : ∃ P, w.heap.size = P := ⟨_, rfl⟩
  obtain ⟨C, hCe⟩ : ∃ C, w1.heap.size = C := ⟨_, rfl⟩
  rw [hPe, hCe] at hX
  clear hA hb1 hnew hx hA2 hb2
  unfold CmdAt.cmV
  go_upto_region 4 with fail
  rw [HW2.out]
  clear hPe hCe
  have hd := hX.below ((Below.refl w2.heap.size w2).drew)
  have HCLK := Lib.hid (Cal.clock_any hd.mp.tb HFT.out HNW.out HT1)
  have XD := Lib.hid hd
  have hpl := hX.mp.plt
  have hCl := hX.cx.lt
  clear hX hd
  go_upto_region 6 with fail
  go_region_held3 (fun W => W.cell? ⟨p, 0, none⟩ = some (.pointer (some ⟨pt, 0, none⟩)) ∧ W.cell? ⟨C, 9, none⟩ = some (.int .u64 (k.nw : Int)))
    (first
      | exact ⟨XD.out.mp.c0, XD.out.cx.c9⟩
      | exact ⟨X3.out.mp.c0, X3.out.cx.c9⟩)
    (first
      | (go_at_call 25
         (with_reducible refine HCLK.out.mono ?_)
         rintro e w3 ⟨rfl, hleft⟩
         obtain ⟨vR1, hX3, _, _⟩ := XD.out.sess hleft
         have X3 := Lib.hid hX3
         clear hleft hX3))
  clear hCl hpl
  obtain ⟨x0, x1, x2, x3, x4, x5, x6, x7, x8, x9⟩ := X3.out.cx.all
  have hCl := X3.out.cx.lt
  go_wp2_with fail
  go_at_call 28
  refine (HFN.out A n c C P _ _ X3.out).mono ?_
  rintro e w4 ⟨rfl, hL⟩
  obtain ⟨vR4, ks4, hX4, _, _, _⟩ := Cq.left X3.out hL
  have hpx := hX4.px
  obtain ⟨p0, p1, p2⟩ : _ ∧ _ ∧ _ := ⟨hpx.c0, hpx.c1, hpx.c2⟩
  have pf := hpx.free
  have hPl := hpx.lt
  have HZ := Lib.hid (hpx.set (.int .i64 te) (.int .u64 (tn : Int)) (.int .u64 (tx : Int))).1
  have HF := Lib.hid (hX4.ends (.int .i64 te) (.int .u64 (tn : Int)) (.int .u64 (tx : Int)))
  clear hpx hX4 hL x0 x1 x2 x3 x4 x5 x6 x7 x8 x9 hCl
  go_wp2
  refine bodyPost_ret (res1y (q := 4) rfl _ rfl HZ.out) rfl ?_
  exact ⟨rfl, HF.out⟩
/-- Any bytes are applied to the program's machine. -/
theorem pap_any (h : MP B w p pt q vR m ks) (hf : Fit m) (s : ByteArray) (hsz : s.size ≤ 9223372036854775807) :
    Calls Tryz.prog 11 #[.pointer (some ⟨p, 0, none⟩), .string s] w fun e w' => e = .returned (ryV (ap m s).2) ∧ LeftP B w p pt q vR ks (ap m s).1 w' := by
  unfold ap
  by_cases hy : yes s = true
  · rw [if_pos hy]
    obtain ⟨h1, _, h3⟩ := yes_back hy
    have hz : decZ s = 0 := by unfold Cmd.decZ; rw [if_pos hy]
    by_cases k1 : (dec s).k = 1
    · exact papp_reg h hf s hsz rfl hz h1 h3 k1
    · by_cases k4 : (dec s).k = 4
      · exact papp_out h hf s hsz rfl hz h1 h3 k4
      · exact papp_once h hf s hsz rfl hz h1 h3 k1 k4
  · rw [if_neg hy]
    exact papp_bad h s hsz (by unfold Cmd.decZ; rw [if_neg hy])
end
end Go.Proofs.YthaepkpmpnofgaaGreat.ApplyQ
