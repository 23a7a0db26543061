/- SessionOnce, walked: of each number of a session a command is new once at most. No statement is proved here. -/
import Derived.Test.YtdmlfnknmilhcaaOnc
import Derived.Test.YtdmlfnknmilhcaaLawA
import Derived.Deep.RegionLaw
set_option linter.unusedVariables false
set_option linter.unusedSimpArgs false
namespace Go.Proofs.Ytdmlfnknmilhcaa.LawC
open Go.RowKit Go.Proofs.Ytdmlfnknmilhcaa.Kit Go.Proofs.Ytdmlfnknmilhcaa.Blocks Go.Proofs.Ytdmlfnknmilhcaa.Ses Go.Proofs.Ytdmlfnknmilhcaa.Rws Go.Proofs.Ytdmlfnknmilhcaa.WalkA Go.Proofs.Ytdmlfnknmilhcaa.Boxs Go.Proofs.Ytdmlfnknmilhcaa.Cal Go.Proofs.Ytdmlfnknmilhcaa.Begn Go.Proofs.Ytdmlfnknmilhcaa.Opn Go.Proofs.Ytdmlfnknmilhcaa.KeysG Go.Proofs.Ytdmlfnknmilhcaa.Onc
open Go.Maps (Keyed)

/-- m[i] = v, as one step of a region that draws its order. -/
theorem step_upd {P : Program} {ops : Array Oper} {o : Oper} {a : Act} {K : Act → World → Prop} {Q : Exit → Act → World → Prop} {E : Prop} (w : World) (hgd : o.guard = none) (m x u : Operand) (t : TypeId) (hop : o.op = Op.mapUpdate t m x u)
    (k e : TypeId) (KK : Keyed P k) (ht : P.underlying t = some (.map k e)) (b n : Nat) (g : Lit → Option Value) (xv v : Value) (i : Lit) (hx0 : keyOf P k xv = some i)
    (hm : a.eval m = .map (some b)) (hx : a.eval x = xv) (hv : a.eval u = v) (h : MapAt P k w b n g) (hn : n < maxLen)
    (hK : ∀ w', MapAt P k w' b (n + 1) (upd g i v) → Only (fun q => q = b) w w' → K (a.put o.dst undef) w') :
    if Region.wanted o (yielded ops a.tmps) = true then Oper.wp P o a w K Q else E := by
  have hw : Region.wanted o (yielded ops a.tmps) = true := by simp [Region.wanted, hgd]
  rw [if_pos hw]
  obtain ⟨w', hrun, r1, r2⟩ := h.store KK ht hn hx0 v
  unfold Oper.wp
  simp [execOp, hop, hm, hx, hv, hrun, Result.andThen]
  exact hK w' r1 r2
/-- A table beside two maps. -/
structure Ste (B p D L j : Nat) (w : World) (v : Value) (m : Tb) (g1 g2 : Lit → Option Value) : Prop where
  t : PT B w p v m
  s : Sane m
  d : MapAt Try.prog 59 w D j g1
  l : MapAt Try.prog 27 w L j g2
  nd : ¬ Mine p v D
  nl : ¬ Mine p v L
  ne : D ≠ L
  bd : B ≤ D
  bl : B ≤ L
  i : Onc m g1 g2
section
variable {B p D L j : Nat} {w w' : World} {v : Value} {m m' : Tb} {g1 g2 : Lit → Option Value}
theorem Ste.below (h : Ste B p D L j w v m g1 g2) (k : Below w.heap.size w w') : Ste B p D L j w' v m g1 g2 :=
  ⟨h.t.below k, h.s, h.d.keep (k.block D h.d.lt), h.l.keep (k.block L h.l.lt), h.nd, h.nl, h.ne, h.bd, h.bl, h.i⟩
theorem Ste.more (h : Ste B p D L j w v m g1 g2) : Ste B p D L (j + 1) w v m g1 g2 :=
  ⟨h.t, h.s, h.d.more (Nat.le_succ _), h.l.more (Nat.le_succ _), h.nd, h.nl, h.ne, h.bd, h.bl, h.i⟩
/-- A call on the table. -/
theorem Ste.left (h : Ste B p D L j w v m g1 g2) (k : PLeft B w p v m' w') (hs : Sane m') (hi : Onc m' g1 g2) : ∃ v', Ste B p D L j w' v' m' g1 g2 ∧ Below B w w' ∧ ∀ g, g < w.heap.size → ¬ Mine p v g → ¬ Mine p v' g := by
  have hb := left_below h.t k
  obtain ⟨v', ht, o, f⟩ := k
  have hne : ∀ g, g < w.heap.size → ¬ Mine p v g → ¬ Mine p v' g := fun g hg hn e => by
    rcases e with e | e
    · exact hn (.inl e)
    · rcases f g e with h1 | h1
      · exact hn (.inr h1)
      · omega
  exact ⟨v', ⟨ht, hs, h.d.keep (o.block D h.d.lt h.nd), h.l.keep (o.block L h.l.lt h.nl), hne D h.d.lt h.nd, hne L h.l.lt h.nl, h.ne, h.bd, h.bl, hi⟩, hb, hne⟩
/-- A block of the statement's own is written. -/
theorem Ste.put (h : Ste B p D L j w v m g1 g2) {r : Nat} (o : Only (fun q => q = r) w w') (h1 : ¬ Mine p v r) (h2 : r ≠ D) (h3 : r ≠ L) : Ste B p D L j w' v m g1 g2 :=
  ⟨h.t.keep o (fun g hg e => h1 (e ▸ hg)), h.s, h.d.keep (o.block D h.d.lt (fun e => h2 e.symm)), h.l.keep (o.block L h.l.lt (fun e => h3 e.symm)), h.nd, h.nl, h.ne, h.bd, h.bl, h.i⟩
/-- The same, where only the maps are asked for. -/
theorem Ste.mid (h : Ste B p D L j w v m g1 g2) (k : PLeft B w p v m' w') (hs : Sane m') : ∃ v', PT B w' p v' m' ∧ MapAt Try.prog 59 w' D j g1 ∧ MapAt Try.prog 27 w' L j g2 ∧ ¬ Mine p v' D ∧ ¬ Mine p v' L ∧ Below B w w' := by
  have hb := left_below h.t k
  obtain ⟨v', ht, o, f⟩ := k
  have hne : ∀ g, g < w.heap.size → ¬ Mine p v g → ¬ Mine p v' g := fun g hg hn e => by
    rcases e with e | e
    · exact hn (.inl e)
    · rcases f g e with h1 | h1
      · exact hn (.inr h1)
      · omega
  exact ⟨v', ht, h.d.keep (o.block D h.d.lt h.nd), h.l.keep (o.block L h.l.lt h.nl), hne D h.d.lt h.nd, hne L h.l.lt h.nl, hb⟩
end
theorem seek_set {r' : Rw} (id : Nat) : ∀ {l : List Rw} {i : Nat}, (∀ r, l[i]? = some r → r'.id = r.id) → seek (l.set i r') id = seek l id
  | [], _, _ => rfl
  | x :: l, 0, h => by
    have e := h x rfl
    show (if r'.id = id then some 0 else _) = (if x.id = id then some 0 else _)
    rw [e]
  | x :: l, i + 1, h => by
    show (if x.id = id then some 0 else (seek (l.set i r') id).map (· + 1)) = (if x.id = id then some 0 else (seek l id).map (· + 1))
    rw [seek_set id (l := l) (i := i) fun r hr => h r (by simpa using hr)]
/-- Asking does not change what is new. -/
theorem begF_beg (m : Tb) (id s : Nat) : begF (begT m id) id s = begF m id s := by
  cases hl : seek m.rows id with
  | none => unfold begT; rw [hl]
  | some i =>
    obtain ⟨r, h1, h2, h3, h4⟩ := seek_some hl
    have e : begT m id = ⟨m.now, m.next, m.rows.set i (usedRow m r)⟩ := by unfold begT; rw [hl]; simp only [h1]
    rw [e]
    unfold begF
    have e2 : seek (m.rows.set i (usedRow m r)) id = some i := by
      rw [seek_set id (fun x hx => by rw [h1] at hx; cases hx; rfl), hl]
    simp only [e2, hl, h1, List.getElem?_set_self h3]
    rfl
theorem zeroR (w : World) : (zeroValue 33).run Try.prog w = .ok (.agg #[.int .i64 0, .int .u64 0, .int .u64 0]) w := by kernel_rfl
theorem zeroU (w : World) : (zeroValue 27).run Try.prog w = .ok (.int .u64 0) w := by kernel_rfl
set_option maxRecDepth 100000 in
set_option maxHeartbeats 4000000 in
theorem once_walk (A : Option Addr) (n c : Nat) (l : List Cl) (w : World) (hc : RC w w.heap.size A n l) (hm : n ≤ 9223372036854775807) (hi : ∀ e ∈ l, InC e) :
    Calls Try.prog 5 #[.slice A n c] w fun e w' => e = .returned (.bool true) ∧ Below w.heap.size w w' := by
  have hbo : ∀ (W : World) o, Below W.heap.size W (W.alloc o) := fun W o => (Below.refl _ _).alloc (Nat.le_refl _) o
  have HR := Lib.hid hc
  have HI := Lib.hid hi
  clear hc hi
  have hmm := @run_makeMap Try.prog
  go_enter Try.func5, Try.ntmps5
  go_wp2_with fail
  with_reducible refine (begun_true _).mono ?_
  rintro e w1 ⟨rfl, hb1⟩
  go_wp2_with fail
  with_reducible refine (new_any _).mono ?_
  rintro e w2 ⟨p, v2, rfl, h2, hb2⟩
  have HSZ := Lib.hid hb1.size
  have HST : Hid (Ste w1.heap.size p w2.heap.size (w2.heap.size + 1) 0 ((w2.alloc (.map #[] 0)).alloc (.map #[] 0)) v2 tb0 (fun _ => none) (fun _ => none) ∧ Below w.heap.size w ((w2.alloc (.map #[] 0)).alloc (.map #[] 0))) := by
    have ha := hbo w2 (.map #[] 0)
    have hb := hbo (w2.alloc (.map #[] 0)) (.map #[] 0)
    have h2' := (h2.below ha).below hb
    have hs2 := hb2.size
    have hsz : (w2.alloc (.map #[] 0)).heap.size = w2.heap.size + 1 := by simp
    have hdm := (mapAt_made w2 Try.prog 59).keep (hb.block w2.heap.size (by rw [hsz]; omega))
    have hlm := mapAt_made (w2.alloc (.map #[] 0)) Try.prog 27
    rw [hsz] at hlm
    refine ⟨⟨h2', good0, hdm, hlm, fun e => ?_, fun e => ?_, by omega, hs2, by omega, onc0⟩, ?_⟩
    · have := (h2.mine_lt e).2; omega
    · have := (h2.mine_lt e).2; omega
    · have h12 := hb1.trans (hb2.mono hb1.size)
      exact (h12.alloc h12.size _).alloc (by have := h12.size; simp; omega) _
  clear hb1 hb2 h2
  go_wp2_with fail
  clear hmm
  obtain ⟨D, hD⟩ : ∃ D, w2.heap.size = D := ⟨_, rfl⟩
  have hst0 := HST.out
  rw [hD] at hst0
  rw [hD]
  have HST0 := Lib.hid hst0
  clear hst0 HST hD
  go_loopw [20] (fun i wr => ∃ (k : Nat) (v : Value) (m : Tb) (g1 g2 : Lit → Option Value), k ≤ n ∧ k ≤ 500 ∧ i = .int .i64 (k : Int) ∧ Hid (Ste w1.heap.size p D (D + 1) k wr v m g1 g2) ∧ Hid (Below w.heap.size w wr)) (fun i _ => n - (intOf i).toNat)
  case atStart => exact ⟨0, v2, tb0, _, _, by omega, by omega, rfl, HST0.out.1, HST0.out.2⟩
  case round =>
    obtain ⟨k, v, m, g1, g2, hkn, hk5, rfl, hst, hbel⟩ := hrel
    clear HST0
    by_cases hlast : k < n ∧ k ≠ 500
    · obtain ⟨hkn', hk500⟩ := hlast
      have HJ := Lib.hid hkn'
      obtain ⟨b, o, x, rfl, hb, hx, hsix⟩ := RC.at_ HR.out hkn'
      have hin := HI.out x (List.mem_of_getElem? hx)
      obtain ⟨y0, y1, y2, y3, y4, y5⟩ := hsix.below hbel.out hb
      have hbw := Nat.lt_of_lt_of_le hb hbel.out.size
      have h500I : ¬ (k : Int) = 500 := by omega
      obtain ⟨hkk, hid, hs, hyok⟩ := hin
      obtain ⟨kd, id, s, ⟨ye, yn, yx⟩⟩ := x
      simp only at y0 y1 y2 y3 y4 y5 hkk hid hs hyok
      have hboC := hbo wr (.cells #[.int .i64 kd, .int .u64 (id : Int), .int .u64 (s : Int), .int .i64 ye, .int .u64 (yn : Int), .int .u64 (yx : Int)] 35)
      have hnewC := heap_alloc_new wr (.cells #[.int .i64 kd, .int .u64 (id : Int), .int .u64 (s : Int), .int .i64 ye, .int .u64 (yn : Int), .int .u64 (yx : Int)] 35)
      have hste := hst.out.below hboC
      have hBC := hbel.out.trans (hboC.mono hbel.out.size)
      clear hsix hx
      by_cases hk0 : kd = 0
      · subst hk0
        have HC := Lib.hid (clock_any hste.t hste.s hid (Lib.hid rfl))
        have HS := Lib.hid hste
        have HB := Lib.hid hBC
        clear hste hBC hboC hnewC
        go_wp2_with fail
        with_reducible refine HC.out.mono ?_
        rintro e w4 ⟨rfl, hL⟩
        obtain ⟨v', h', hb', _⟩ := HS.out.left hL (HS.out.s.clock hid) (HS.out.i.clock id)
        have H4 := Lib.hid h'.more
        have HB4 := Lib.hid (HB.out.trans (hb'.mono HSZ.out))
        clear hL h' hb' HC HS HB
        go_wp2
        go_roundw
        case rel => exact ⟨k + 1, v', _, _, _, HJ.out, by omega, by go_num, H4.out, HB4.out⟩
        case measure => have := HJ.out; simp [intOf]; omega
      by_cases hk1 : kd = 1
      · subst hk1
        have HC := Lib.hid (reg_any hste.t hste.s (Lib.hid rfl) (Lib.hid rfl) (Lib.hid rfl))
        have HS := Lib.hid hste
        have HB := Lib.hid hBC
        clear hste hBC hboC hnewC
        go_wp2_with fail
        with_reducible refine HC.out.mono ?_
        rintro e w4 ⟨rfl, hL⟩
        obtain ⟨v', h', hb', _⟩ := HS.out.left hL HS.out.s.reg (HS.out.i.reg HS.out.s)
        have H4 := Lib.hid h'.more
        have HB4 := Lib.hid (HB.out.trans (hb'.mono HSZ.out))
        clear hL h' hb' HC HS HB
        go_wp2
        go_roundw
        case rel => exact ⟨k + 1, v', _, _, _, HJ.out, by omega, by go_num, H4.out, HB4.out⟩
        case measure => have := HJ.out; simp [intOf]; omega
      have hk0I : ¬ kd = 0 := hk0
      have hk1I : ¬ kd = 1 := hk1
      have hboK := hbo (wr.alloc (.cells #[.int .i64 kd, .int .u64 (id : Int), .int .u64 (s : Int), .int .i64 ye, .int .u64 (yn : Int), .int .u64 (yx : Int)] 35)) (.cells #[.int .u64 (id : Int), .int .u64 (s : Int)] 59)
      have hnewK := heap_alloc_new (wr.alloc (.cells #[.int .i64 kd, .int .u64 (id : Int), .int .u64 (s : Int), .int .i64 ye, .int .u64 (yn : Int), .int .u64 (yx : Int)] 35)) (.cells #[.int .u64 (id : Int), .int .u64 (s : Int)] 59)
      have hC5 := (hboK.block _ (lt_at hnewC)).trans hnewC
      have hs5 := hste.below hboK
      have hB5 := hBC.trans (hboK.mono hBC.size)
      have hcb : wr.heap.size ≠ D ∧ wr.heap.size ≠ D + 1 := by have := hst.out.d.lt; have := hst.out.l.lt; omega
      have hsz4 : (wr.alloc (.cells #[.int .i64 kd, .int .u64 (id : Int), .int .u64 (s : Int), .int .i64 ye, .int .u64 (yn : Int), .int .u64 (yx : Int)] 35)).heap.size = wr.heap.size + 1 := by simp
      rw [hsz4] at hnewK
      have hmine : ¬ Mine p v wr.heap.size ∧ ¬ Mine p v (wr.heap.size + 1) := ⟨fun e => by have := (hst.out.t.mine_lt e).2; omega, fun e => by have := (hst.out.t.mine_lt e).2; omega⟩
      obtain ⟨w5, hw5⟩ : ∃ w5, (wr.alloc (.cells #[.int .i64 kd, .int .u64 (id : Int), .int .u64 (s : Int), .int .i64 ye, .int .u64 (yn : Int), .int .u64 (yx : Int)] 35)).alloc (.cells #[.int .u64 (id : Int), .int .u64 (s : Int)] 59) = w5 := ⟨_, rfl⟩
      rw [hw5] at hnewK hC5 hs5 hB5
      have HW5 := Lib.hid hw5
      obtain ⟨y', hy'⟩ : ∃ y', begY m id s = y' := ⟨_, rfl⟩
      obtain ⟨f', hf'⟩ : ∃ f', begF m id s = f' := ⟨_, rfl⟩
      have HC := Lib.hid (beg_any hs5.t hs5.s id hs (Lib.hid rfl) (Lib.hid hy') (Lib.hid hf'))
      have HSAY := Lib.hid (hs5.i.says hs5.s hid hs)
      have HS5 := Lib.hid hs5
      have HB5 := Lib.hid hB5
      have hC5k := hC5
      have hK5k := hnewK
      have HC5 := Lib.hid hC5
      have HK5 := Lib.hid hnewK
      have HY := Lib.hid hy'
      have HF := Lib.hid hf'
      obtain ⟨cb, hcbn⟩ : ∃ cb, wr.heap.size = cb := ⟨_, rfl⟩
      clear hste hBC hboC hnewC hboK hnewK hC5 hs5 hB5 hw5 hy' hf'
      go_wp2_with fail
      rw [HW5.out]
      rw [hcbn] at HC5 HK5 hcb hmine hC5k hK5k
      with_reducible refine HC.out.mono ?_
      rintro e w6 ⟨rfl, hL⟩
      have hC6 := (hL.choose_spec.2.1.block cb (lt_at HC5.out) hmine.1).trans HC5.out
      have hK6 := (hL.choose_spec.2.1.block (cb + 1) (lt_at HK5.out) hmine.2).trans HK5.out
      obtain ⟨v6, h6, hb6, hne6⟩ := HS5.out.left hL (HS5.out.s.beg id) (HS5.out.i.beg id)
      have hB6 := HB5.out.trans (hb6.mono HSZ.out)
      have hcl := lt_at hC6
      have hkl := lt_at hK6
      have q0 := cell_at hK6 0
      have q1 := cell_at hK6 1
      have r1 := cell_at hC6 1
      have r2 := cell_at hC6 2
      have r3 := cell_at hC6 3
      have r4 := cell_at hC6 4
      have r5 := cell_at hC6 5
      simp only [List.getElem?_toArray, List.getElem?_cons_zero, List.getElem?_cons_succ] at q0 q1 r1 r2 r3 r4 r5
      obtain ⟨⟨we, wn, wx⟩, hwas⟩ : ∃ y, (g1 (lp id s)).getD (.agg #[.int .i64 0, .int .u64 0, .int .u64 0]) = ryV y := by
        cases he : g1 (lp id s) with
        | none => exact ⟨Ses.y0, rfl⟩
        | some vv => obtain ⟨y, hy⟩ := h6.i.form _ _ he; exact ⟨y, hy⟩
      unfold ryV at hwas
      simp only at hwas
      obtain ⟨th, hth⟩ : ∃ b, (g1 (lp id s)).isSome = b := ⟨_, rfl⟩
      have hlk : ∀ o, (Instr.lookup 53 (.map (some D)) (.agg #[.int .u64 (id : Int), .int .u64 (s : Int)]) true).run Try.prog (w6.alloc o) = .ok (.tuple #[.agg #[.int .i64 we, .int .u64 (wn : Int), .int .u64 (wx : Int)], .bool th]) (w6.alloc o) := fun o => by
        have := (h6.d.keep ((hbo w6 o).block D h6.d.lt)).look (t := 53) one_keyed Try.underlying53 (zeroR _) (key_one hid hs) true
        rw [if_pos rfl, hwas, hth] at this
        exact this
      have H6 := Lib.hid h6
      have HB6 := Lib.hid hB6
      have HC6 := Lib.hid hC6
      have HK6 := Lib.hid hK6
      have HFIN : Hid (∀ o o', Ste w1.heap.size p D (D + 1) (k + 1) ((w6.alloc o).alloc o') v6 (begT m id) g1 g2 ∧ Below w.heap.size w ((w6.alloc o).alloc o')) := fun o o' =>
        ⟨((h6.below (hbo w6 o)).below (hbo _ o')).more, (hB6.trans ((hbo w6 o).mono hB6.size)).trans ((hbo _ o').mono (Nat.le_trans hB6.size (hbo w6 o).size))⟩
      clear h6 hB6 hL hb6 hC6 hK6 HC HS5 HB5 HC5 HK5 HW5
      rcases HSAY.out with ⟨e1, e2, e3, qq, e4, e5⟩ | ⟨e1, ee, e2, e3⟩ | ⟨e1, zn, zx, e2, e3⟩
      · obtain rfl : f' = true := by rw [← HF.out, e1]
        obtain rfl : y' = Ses.y0 := by rw [← HY.out, e3]
        obtain rfl : th = false := by rw [← hth, e2]; rfl
        clear e1 e2 e3 HSAY hth hwas HY
        unfold ryV Ses.y0
        have h6 := H6.out
        have ho3 : Only (fun q => q = cb) w6 (w6.setCell ⟨cb, 3, none⟩ (.int .i64 0)) := (Only.refl (fun q => q = cb) w6).setCell (a := ⟨cb, 3, none⟩) (.inr rfl) _
        have hC3 : (w6.setCell ⟨cb, 3, none⟩ (.int .i64 0)).heap[cb]? = some (.cells #[.int .i64 kd, .int .u64 (id : Int), .int .u64 (s : Int), .int .i64 0, .int .u64 (yn : Int), .int .u64 (yx : Int)] 35 (0, 0)) := by rw [set_at HC6.out]; rfl
        have hK3 := ho3.heap HK6.out (by omega)
        have h63 := h6.put ho3 (hne6 cb (lt_at hC5k) hmine.1) hcb.1 hcb.2
        have fz := free_at HC6.out 3
        obtain ⟨w7, hw7⟩ : ∃ w7, w6.setCell ⟨cb, 3, none⟩ (.int .i64 0) = w7 := ⟨_, rfl⟩
        rw [hw7] at hC3 hK3 h63 ho3
        have hb8 := hbo w7 (.cells #[.int .i64 0, .int .u64 0, .int .u64 0] 33)
        have hb9 := hbo (w7.alloc (.cells #[.int .i64 0, .int .u64 0, .int .u64 0] 33)) (.cells #[.int .i64 we, .int .u64 (wn : Int), .int .u64 (wx : Int)] 33)
        have h9 := (h63.below hb8).below hb9
        have hC9 := (hb9.block cb (lt_at ((hb8.block cb (lt_at hC3)).trans hC3))).trans ((hb8.block cb (lt_at hC3)).trans hC3)
        have hK9 := (hb9.block (cb + 1) (lt_at ((hb8.block (cb + 1) (lt_at hK3)).trans hK3))).trans ((hb8.block (cb + 1) (lt_at hK3)).trans hK3)
        have hsb : w.heap.size ≤ cb := by rw [← hcbn]; exact hbel.out.size
        have hB7 : Below w.heap.size w w7 := HB6.out.trans (ho3.below HB6.out.size fun q hq => by omega)
        have hB9 := (hB7.trans (hb8.mono hB7.size)).trans (hb9.mono (Nat.le_trans hB7.size hb8.size))
        obtain ⟨w9, hw9⟩ : ∃ w9, (w7.alloc (.cells #[.int .i64 0, .int .u64 0, .int .u64 0] 33)).alloc (.cells #[.int .i64 we, .int .u64 (wn : Int), .int .u64 (wx : Int)] 33) = w9 := ⟨_, rfl⟩
        rw [hw9] at h9 hC9 hK9 hB9
        have hF9 : endF (begT m id) id s = true := by show begF (begT m id) id s = true; rw [begF_beg, HF.out]
        have hend : Calls Try.prog 22 #[.pointer (some ⟨p, 0, none⟩), .int .u64 (id : Int), .int .u64 (s : Int), .agg #[.int .i64 0, .int .u64 (yn : Int), .int .u64 (yx : Int)]] w9 fun e w' => e = .returned (.bool true) ∧ PLeft w1.heap.size w9 p v6 (endT (begT m id) id s ⟨0, yn, yx⟩) w' := end_any h9.t id hs ⟨0, yn, yx⟩ (Lib.hid rfl) (Lib.hid hF9)
        have HW9 : Hid (((w6.setCell ⟨cb, 3, none⟩ (.int .i64 0)).alloc (.cells #[.int .i64 0, .int .u64 0, .int .u64 0] 33)).alloc (.cells #[.int .i64 we, .int .u64 (wn : Int), .int .u64 (wx : Int)] 33) = w9) := by
          have : ((w6.setCell ⟨cb, 3, none⟩ (.int .i64 0)).alloc (.cells #[.int .i64 0, .int .u64 0, .int .u64 0] 33)).alloc (.cells #[.int .i64 we, .int .u64 (wn : Int), .int .u64 (wx : Int)] 33) = w9 := by rw [hw7, hw9]
          exact this
        have HEND := Lib.hid hend
        have H9 := Lib.hid h9
        have HC9 := Lib.hid hC9
        have HK9 := Lib.hid hK9
        have HB9 := Lib.hid hB9
        have HF9 := Lib.hid hF9
        have HNE : Hid (∀ g, g < w9.heap.size → ¬ Mine p v6 g → g = cb ∨ g = cb + 1 → True) := fun _ _ _ _ => trivial
        have hm9 : ¬ Mine p v6 cb ∧ ¬ Mine p v6 (cb + 1) := ⟨hne6 cb (lt_at hC5k) hmine.1, hne6 (cb + 1) (lt_at hK5k) hmine.2⟩
        have hw10 : IntKind.u64.wrap ((qq : Int) + 1) = (s : Int) := by rw [show (qq : Int) + 1 = (s : Int) by omega]; exact IntWalk.u64_in _ ⟨by omega, by omega⟩
        clear h6 ho3 hC3 hK3 h63 hb8 hb9 h9 hC9 hK9 hsb hB7 hB9 hw9 hF9 hend hw7 hne6
        simp only
        go_wp2_with fail
        rw [HW9.out]
        with_reducible refine HEND.out.mono ?_
        rintro e w10 ⟨rfl, hL⟩
        have hC10 := (hL.choose_spec.2.1.block cb (lt_at HC9.out) hm9.1).trans HC9.out
        have hK10 := (hL.choose_spec.2.1.block (cb + 1) (lt_at HK9.out) hm9.2).trans HK9.out
        have hs10 := H9.out.s.fin id hs (y := ⟨0, yn, yx⟩) ⟨by show -9223372036854775808 ≤ (0 : Int); decide, by show (0 : Int) ≤ 9223372036854775807; decide, hyok.2.2.1, hyok.2.2.2⟩
        obtain ⟨v10, t10, d10, l10, nd10, nl10, hb10⟩ := H9.out.mid hL hs10
        have hB10 := HB9.out.trans (hb10.mono HSZ.out)
        have hl10 : (Instr.lookup 54 (.map (some (D + 1))) (.int .u64 (id : Int)) false).run Try.prog w10 = .ok (.int .u64 (qq : Int)) w10 := by
          have := l10.look (t := 54) num_keyed Try.underlying54 (zeroU _) (key_num hid) false
          rw [if_neg (by decide), e5] at this
          exact this
        have hcl10 := lt_at hC10
        have hkl10 := lt_at hK10
        have p0 := cell_at hK10 0
        have p1 := cell_at hK10 1
        have s1 := cell_at hC10 1
        have s2 := cell_at hC10 2
        have s3 := cell_at hC10 3
        have s4 := cell_at hC10 4
        have s5 := cell_at hC10 5
        simp only [List.getElem?_toArray, List.getElem?_cons_zero, List.getElem?_cons_succ] at p0 p1 s1 s2 s3 s4 s5
        have HD10 := Lib.hid d10.drewn
        have HL10 := Lib.hid l10.drewn
        have HT10 := Lib.hid (t10.below ((Below.refl _ _).drew))
        have HB10 := Lib.hid hB10.drew
        have HS10 := Lib.hid hs10
        have HON := Lib.hid (H9.out.i.fin H9.out.s hid hs (by have := HF9.out; exact this) yn yx)
        have hk63 : k < maxLen := by unfold maxLen; omega
        obtain ⟨w11, hrun1, hd11, ho11⟩ := HD10.out.store (t := 53) one_keyed Try.underlying53 hk63 (key_one hid hs) (.agg #[.int .i64 0, .int .u64 (yn : Int), .int .u64 (yx : Int)])
        have hl11 := HL10.out.keep (ho11.block (D + 1) HL10.out.lt (by omega))
        obtain ⟨w12, hrun2, hl12, ho12⟩ := hl11.store (t := 54) num_keyed Try.underlying54 hk63 (key_num hid) (.int .u64 (s : Int))
        have hC11 := ho11.heap (show w10.drew.heap[cb]? = _ from hC10) hcb.1
        have hd12 := hd11.keep (ho12.block D hd11.lt (by omega))
        have ht12 := (HT10.out.keep ho11 (fun g hg e => nd10 (e ▸ hg))).keep ho12 (fun g hg e => nl10 (e ▸ hg))
        have hB12 := (HB10.out.trans (ho11.below HB10.out.size fun q hq => by have := H9.out.bd; have := HSZ.out; omega))
        have hB13 := hB12.trans (ho12.below hB12.size fun q hq => by have := H9.out.bl; have := HSZ.out; omega)
        have H12 : Hid (Ste w1.heap.size p D (D + 1) (k + 1) w12 v10 (endT (begT m id) id s ⟨0, yn, yx⟩) (upd g1 (lp id s) (.agg #[.int .i64 0, .int .u64 (yn : Int), .int .u64 (yx : Int)])) (upd g2 (lu id) (.int .u64 (s : Int))) ∧ Below w.heap.size w w12) :=
          ⟨⟨ht12, HS10.out, hd12, hl12, nd10, nl10, by omega, H9.out.bd, H9.out.bl, HON.out⟩, hB13⟩
        have hcl11 := lt_at hC11
        have m1 := cell_at hC11 1
        have m2 := cell_at hC11 2
        have m3 := cell_at hC11 3
        have m4 := cell_at hC11 4
        have m5 := cell_at hC11 5
        simp only [List.getElem?_toArray, List.getElem?_cons_zero, List.getElem?_cons_succ] at m1 m2 m3 m4 m5
        clear hL hC10 hK10 hs10 d10 l10 t10 hB10 hb10 hd11 ho11 hl11 hl12 ho12 hC11 hd12 ht12 hB12 hB13
        go_wp2_with fail
        go_region
        all_goals go_wp2
        all_goals refine ⟨⟨k + 1, v10, _, _, _, HJ.out, by omega, by go_num, H12.out.1, H12.out.2⟩, ?_⟩
        all_goals have := HJ.out
        all_goals simp [intOf]
        all_goals omega
      · obtain rfl : f' = false := by rw [← HF.out, e1]
        obtain rfl : y' = yE ee := by rw [← HY.out, e3]
        clear e1 e3 HSAY hth hwas HY HF
        unfold ryV yE
        have heB : (ee == (0 : Int)) = false := by simpa using e2
        simp only
        go_wp2
        refine ⟨⟨k + 1, v6, _, _, _, HJ.out, by omega, by go_num, (HFIN.out _ _).1, (HFIN.out _ _).2⟩, ?_⟩
        have := HJ.out
        simp [intOf]
        omega
      · obtain rfl : f' = false := by rw [← HF.out, e1]
        obtain rfl : y' = ⟨0, zn, zx⟩ := by rw [← HY.out, e2]
        obtain rfl : th = true := by rw [← hth, e3]; rfl
        rw [e3] at hwas
        unfold ryV at hwas
        simp only [Option.getD_some, Value.agg.injEq, Array.mk.injEq, List.cons.injEq, Value.int.injEq, true_and, and_true] at hwas
        obtain ⟨rfl, hz1, hz2⟩ := hwas
        obtain rfl : zn = wn := by omega
        obtain rfl : zx = wx := by omega
        clear e1 e2 e3 HSAY hth HY HF
        unfold ryV
        simp only
        go_wp2
        refine ⟨⟨k + 1, v6, _, _, _, HJ.out, by omega, by go_num, (HFIN.out _ _).1, (HFIN.out _ _).2⟩, ?_⟩
        have := HJ.out
        simp [intOf]
        omega
    · by_cases hkn' : k = n
      · subst hkn'
        go_wp2
        go_ret
        exact ⟨rfl, hbel.out⟩
      · have hk500 : k = 500 := by omega
        have hk500I : (k : Int) = 500 := by omega
        have hkn2 : k < n := by omega
        have hkn3 : (500 : Int) < (n : Int) := by omega
        obtain ⟨b, o, x, rfl, hb, hx, hsix⟩ := RC.at_ HR.out hkn2
        obtain ⟨y0, y1, y2, y3, y4, y5⟩ := hsix.below hbel.out hb
        have hbw := Nat.lt_of_lt_of_le hb hbel.out.size
        rw [hk500] at y0 y1 y2 y3 y4 y5
        have hboC := hbel.out.trans ((hbo wr (.cells #[.int .i64 x.k, .int .u64 (x.id : Int), .int .u64 (x.s : Int), .int .i64 x.y.err, .int .u64 (x.y.num : Int), .int .u64 (x.y.ext : Int)] 35)).mono hbel.out.size)
        clear hsix hx
        go_wp2
        go_ret
        exact ⟨rfl, hboC⟩
end Go.Proofs.Ytdmlfnknmilhcaa.LawC
