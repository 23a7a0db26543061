/- Whether states are the same, the document's way, walked. -/
import Derived.Test.YtamncdpeklbhlaaDoorGB
import Derived.BigRegion
import Derived.Deep.RegionHeld3
import Derived.Test.YtamncdpeklbhlaaDoorGA
import Derived.BigQuiet
import Derived.Deep.QuietTactic
set_option linter.unusedVariables false
set_option linter.unusedSimpArgs false
namespace Go.Proofs.YtamncdpeklbhlaaDoor.Save
open Go.RowKit Go.Proofs.YtamncdpeklbhlaaDoor.Kit Go.Proofs.YtamncdpeklbhlaaDoor.Blocks Go.Proofs.YtamncdpeklbhlaaDoor.Rlog Go.Proofs.YtamncdpeklbhlaaDoor.Sto Go.Proofs.YtamncdpeklbhlaaDoor.Sav Go.Proofs.YtamncdpeklbhlaaDoor.Ents Go.Proofs.YtamncdpeklbhlaaDoor.Hold Go.Proofs.YtamncdpeklbhlaaDoor.Few Go.Proofs.YtamncdpeklbhlaaDoor.Ahe Go.Proofs.YtamncdpeklbhlaaDoor.Fol Go.Proofs.YtamncdpeklbhlaaDoor.Chg Go.Proofs.YtamncdpeklbhlaaDoor.Del Go.Proofs.YtamncdpeklbhlaaDoor.Model Go.Proofs.YtamncdpeklbhlaaDoor.Ops Go.Proofs.YtamncdpeklbhlaaDoor.ScA Go.Proofs.YtamncdpeklbhlaaDoor.FrA Go.Proofs.YtamncdpeklbhlaaDoor.SumB
open Go.Proofs.YtamncdpeklbhlaaDoor.Log (LogAt wappend wanew)
open Go.Proofs.YtamncdpeklbhlaaDoor.LogC (LS append_any)
open Go.Proofs.YtamncdpeklbhlaaDoor.App (step_app)

theorem save_none (tm : Nat) (vt : Int) (Al : Option Addr) (nl cl : Nat) (w : World) :
    Calls Tryd.prog 11 #[.pointer none, .agg #[.int .u64 (tm : Int), .int .i64 vt], .slice Al nl cl] w fun e w' => e = .returned (.int .i64 10) ∧ Below w.heap.size w w' := by
  have hba : Below w.heap.size w (w.alloc (.cells #[.int .u64 (tm : Int), .int .i64 vt] 32)) := (Below.refl _ _).alloc (Nat.le_refl _) _
  go_enter Tryd.func11, Tryd.ntmps11
  go_wp2
  go_ret
  exact ⟨rfl, hba⟩

/-- A slice that a store's calls leave alone. -/
def Out (B : Nat) (X : List Nat) (A : Option Addr) (n : Nat) : Prop := 0 < n → ∀ ad, A = some ad → ad.block < B ∨ ad.block ∈ X
theorem Out.low {B n : Nat} {X : List Nat} {A : Option Addr} {w : World} {l : List Ent} (h : RE w B A n l) : Out B X A n := fun hn ad e => by
  obtain ⟨ad', e', hb, _⟩ := h.2 hn
  rw [e] at e'
  cases e'
  exact .inl hb
theorem re_keep {B D n : Nat} {X : List Nat} {A : Option Addr} {w w' : World} {l : List Ent} {S : Nat → Prop} (hr : RE w D A n l) (ho : Out B X A n) (k : Only S w w') (hD : D ≤ w.heap.size) (hS : ∀ q, S q → B ≤ q ∧ q ∉ X) : RE w' D A n l :=
  LogAt.Off.reads (fun hn ad e hs => by
    obtain ⟨h1, h2⟩ := hS _ hs
    rcases ho hn ad e with h | h
    · omega
    · exact h2 h) k hr hD
/-- What a call that changes a store leaves. -/
def Saved (B : Nat) (X : List Nat) (w : World) (t b p N : Nat) (n : Int) (r : Int × (M × Sta)) (e : Ending) (w' : World) : Prop :=
  e = .returned (.int .i64 r.1) ∧ (∃ L v, SAt B X w' t b p N n r.2.1 r.2.2 L v) ∧ Keeps B X w w'
section
variable {B : Nat} {X L : List Nat} {w w' : World} {t b p N : Nat} {n : Int} {m : M} {s : Sta} {v : Value}

theorem hard_hid {vt : Int} {q : Bool} (tm : Nat) (h : Hid (voteB vt = q)) (W : World) : Calls Tryd.prog 28 #[.agg #[.int .u64 (tm : Int), .int .i64 vt]] W (Few.TellsB W q) := by
  have := Few.hard_any tm vt W
  rwa [h.out] at this
set_option maxRecDepth 100000 in
set_option maxHeartbeats 2000000 in
theorem save_no (h : SAt B X w t b p N n m s L v) (tm : Nat) (vt : Int) (Al : Option Addr) (nl cl : Nat) (l : List Ent) (hl : RE w w.heap.size Al nl l) (hlb : ∀ e ∈ l, EntB e) (h40 : nl * 40 ≤ 140737488355328) (hno : okSave s vt l = false) :
    Calls Tryd.prog 11 #[.pointer (some ⟨t, 0, none⟩), .agg #[.int .u64 (tm : Int), .int .i64 vt], .slice Al nl cl] w (Saved B X w t b p N n (1, (m, s))) := by
  obtain ⟨A, c, rfl, _, _, _⟩ := h.sto.form
  have hba : Below w.heap.size w (w.alloc (.cells #[.int .u64 (tm : Int), .int .i64 vt] 32)) := (Below.refl _ _).alloc (Nat.le_refl _) _
  have hcb := heap_alloc_new w (.cells #[.int .u64 (tm : Int), .int .i64 vt] 32)
  obtain ⟨w0, hw0⟩ : ∃ w0, w.alloc (.cells #[.int .u64 (tm : Int), .int .i64 vt] 32) = w0 := ⟨_, rfl⟩
  rw [hw0] at hba hcb
  have x0 : w0.cell? ⟨w.heap.size, 0, none⟩ = some (.int .u64 (tm : Int)) := by rw [cell_at hcb]; rfl
  have x1 : w0.cell? ⟨w.heap.size, 1, none⟩ = some (.int .i64 vt) := by rw [cell_at hcb]; rfl
  have hltb : w.heap.size < w0.heap.size := lt_at hcb
  have hre : ∀ W, Below w.heap.size w W → RE W W.heap.size Al nl l := fun W hb => (Kit.Reads.below hl hb).more hb.size
  have ha := ahead_any (h.sto.below hba) h.ok Al nl cl l (hre _ hba) (by omega)
  have hf := fun W (hb : Below w.heap.size w W) k hk1 hk2 => follow_any (h.sto.below hb) h.sb Al nl cl l (hre W hb) hlb h40 k hk1 hk2
  obtain ⟨q1, hq1⟩ : ∃ q1, voteB vt = q1 := ⟨_, rfl⟩
  obtain ⟨q2, hq2⟩ : ∃ q2, okB (behindS s l) l = q2 := ⟨_, rfl⟩
  rw [hq2] at hf
  have hqq : (q1 && q2) = false := by rw [← hno, ← hq1, ← hq2]; rfl
  have HF := Lib.hid hf
  have HA := Lib.hid ha
  have HQ1 := Lib.hid hq1
  have HH := Lib.hid h
  have HW0 := Lib.hid hw0
  have HBA := Lib.hid hba
  clear hf ha hq1 hq2 h hl hlb hre hw0 hcb hba hno
  go_enter Tryd.func11, Tryd.ntmps11
  go_wp2_with fail
  rw [HW0.out]
  refine HA.out.mono ?_
  rintro e w1 ⟨k, hk1, hk2, rfl, hb1⟩
  have hB1 := HBA.out.trans (hb1.mono HBA.out.size)
  have y0 : w1.cell? ⟨w.heap.size, 0, none⟩ = some (.int .u64 (tm : Int)) := (hb1.cell (p := ⟨w.heap.size, 0, none⟩) hltb).trans x0
  have y1 : w1.cell? ⟨w.heap.size, 1, none⟩ = some (.int .i64 vt) := (hb1.cell (p := ⟨w.heap.size, 1, none⟩) hltb).trans x1
  have HK1 := Lib.hid hk1
  have HK2 := Lib.hid hk2
  clear hk1 hk2 hb1
  go_wp2_with fail
  refine (hard_hid tm HQ1 _).mono ?_
  rintro e w2 ⟨rfl, hb2⟩
  have hB2 := hB1.trans (hb2.mono hB1.size)
  cases q1 with
  | false =>
    go_wp2
    go_ret
    exact ⟨rfl, ⟨L, _, HH.out.below hB2⟩, Keeps.of_below hB2⟩
  | true =>
    obtain rfl : q2 = false := hqq
    go_wp2_with fail
    refine (HF.out w2 hB2 k HK1.out HK2.out).mono ?_
    rintro e w3 ⟨rfl, hb3⟩
    have hB3 := hB2.trans (hb3.mono hB2.size)
    go_wp2
    go_ret
    exact ⟨rfl, ⟨L, _, HH.out.below hB3⟩, Keeps.of_below hB3⟩

set_option maxRecDepth 100000 in
set_option maxHeartbeats 8000000 in
theorem save_same (h : SAt B X w t b p N n m s L v) (htab : Tab w) (hgB : 0 < B) (hN : N < 900000) (hn0 : -9223372036854775808 ≤ n) (hn1 : n ≤ 9223372036854775807) (tm : Nat) (vt : Int) (htm : tm < 18446744073709551616) (hv0 : -9223372036854775808 ≤ vt) (hv1 : vt ≤ 9223372036854775807) (Al : Option Addr) (nl cl : Nat) (l : List Ent) (hl : RE w w.heap.size Al nl l) (hout : Out B X Al nl) (hlb : ∀ e ∈ l, EntB e) (hnl : nl ≤ 999990) (hes : s.es.length ≤ 2000000)
    (hok : right (savedS s tm vt l) = true) (hnone : out s tm vt l = []) (N' : Nat) (hN' : N ≤ N') :
    Calls Tryd.prog 11 #[.pointer (some ⟨t, 0, none⟩), .agg #[.int .u64 (tm : Int), .int .i64 vt], .slice Al nl cl] w (Saved B X w t b p N' n (0, (m, savedS s tm vt l))) := by
  obtain ⟨A, c, rfl, _, _, _⟩ := h.sto.form
  have hBw := h.base
  have hok2 : okSave s vt l = true := by rw [← right_after h.ok tm vt l]; exact hok
  have hq1 : voteB vt = true := (Bool.and_eq_true_iff.1 hok2).1
  have hq2 : okB (behindS s l) l = true := (Bool.and_eq_true_iff.1 hok2).2
  have hls : ∀ e ∈ l, e.data.size ≤ 32768 := fun e he => (follow_mem (Bool.and_eq_true_iff.1 hq2).2 he).1
  have hpc := pcuts_eq h.ok hok
  have hba : Below w.heap.size w (w.alloc (.cells #[.int .u64 (tm : Int), .int .i64 vt] 32)) := (Below.refl _ _).alloc (Nat.le_refl _) _
  have hcb := heap_alloc_new w (.cells #[.int .u64 (tm : Int), .int .i64 vt] 32)
  obtain ⟨w0, hw0⟩ : ∃ w0, w.alloc (.cells #[.int .u64 (tm : Int), .int .i64 vt] 32) = w0 := ⟨_, rfl⟩
  rw [hw0] at hba hcb
  have x0 : w0.cell? ⟨w.heap.size, 0, none⟩ = some (.int .u64 (tm : Int)) := by rw [cell_at hcb]; rfl
  have x1 : w0.cell? ⟨w.heap.size, 1, none⟩ = some (.int .i64 vt) := by rw [cell_at hcb]; rfl
  have hltb : w.heap.size < w0.heap.size := lt_at hcb
  have hre : ∀ W, Below w.heap.size w W → RE W W.heap.size Al nl l := fun W hb => ((Kit.Reads.below hl hb).more hb.size)
  have ha := ahead_any (h.sto.below hba) h.ok Al nl cl l (hre _ hba) (by omega)
  have hf := fun W (hb : Below w.heap.size w W) k hk1 hk2 => follow_any (h.sto.below hb) h.sb Al nl cl l (hre W hb) hlb (by omega) k hk1 hk2
  rw [hq2] at hf
  have hc := fun W (hb : Below w.heap.size w W) k hk1 hk2 => changes_any (h.sto.below hb) tm vt k Al nl cl l (hre W hb) hlb hls (by omega) htm hv0 hv1 hk1 hk2
  rw [hpc] at hc
  have hol := out_len s tm vt l
  rw [RE.len hl] at hol
  obtain ⟨O, hO⟩ : ∃ O, hards s tm vt ++ (cuts s l ++ l.map recEnt) = O := ⟨_, rfl⟩
  have hO2 : out s tm vt l = O := hO
  rw [hO2] at hol
  rw [hO] at hc
  have HF := Lib.hid hf
  have HA := Lib.hid ha
  have HCh := Lib.hid hc
  have HQ1 : Hid (voteB vt = true) := hq1
  have HH := Lib.hid h
  have HW0 := Lib.hid hw0
  have HBA := Lib.hid hba
  have HOut := Lib.hid hO2
  have HOk := Lib.hid hok
  have HL := Lib.hid hl
  have HOT := Lib.hid hout
  have HLB := Lib.hid hlb
  have HLN := Lib.hid (RE.len hl)
  have HT := Lib.hid htab
  clear hf ha hc hq1 hq2 h hl hout hlb hre hw0 hcb hba hok hok2 hls hpc hO hO2 htab
  go_enter Tryd.func11, Tryd.ntmps11
  go_wp2_with fail
  rw [HW0.out]
  refine HA.out.mono ?_
  rintro e w1 ⟨k, hk1, hk2, rfl, hb1⟩
  have hB1 := HBA.out.trans (hb1.mono HBA.out.size)
  have y0 : w1.cell? ⟨w.heap.size, 0, none⟩ = some (.int .u64 (tm : Int)) := (hb1.cell (p := ⟨w.heap.size, 0, none⟩) hltb).trans x0
  have y1 : w1.cell? ⟨w.heap.size, 1, none⟩ = some (.int .i64 vt) := (hb1.cell (p := ⟨w.heap.size, 1, none⟩) hltb).trans x1
  have hlt1 : w.heap.size < w1.heap.size := Nat.lt_of_lt_of_le hltb hb1.size
  have HK1 := Lib.hid hk1
  have HK2 := Lib.hid hk2
  clear hk1 hk2 hb1 x0 x1
  go_wp2_with fail
  refine (hard_hid tm HQ1 _).mono ?_
  rintro e w2 ⟨rfl, hb2⟩
  have hB2 := hB1.trans (hb2.mono hB1.size)
  go_wp2_with fail
  refine (HF.out w2 hB2 k HK1.out HK2.out).mono ?_
  rintro e w3 ⟨rfl, hb3⟩
  have hB3 := hB2.trans (hb3.mono hB2.size)
  have hb13 : Below w1.heap.size w1 w3 := hb2.trans (hb3.mono hb2.size)
  have z0 : w3.cell? ⟨w.heap.size, 0, none⟩ = some (.int .u64 (tm : Int)) := (hb13.cell (p := ⟨w.heap.size, 0, none⟩) hlt1).trans y0
  have z1 : w3.cell? ⟨w.heap.size, 1, none⟩ = some (.int .i64 vt) := (hb13.cell (p := ⟨w.heap.size, 1, none⟩) hlt1).trans y1
  have hlt3 : w.heap.size < w3.heap.size := Nat.lt_of_lt_of_le hlt1 hb13.size
  clear y0 y1 hb2 hb3 hb13
  go_wp2_with fail
  refine (HCh.out w3 hB3 k HK1.out HK2.out).mono ?_
  rintro e w4 ⟨v4, rfl, A4, c4, rfl, hrow4, hb4⟩
  have hB4 := hB3.trans (hb4.mono hB3.size)
  have u0 : w4.cell? ⟨w.heap.size, 0, none⟩ = some (.int .u64 (tm : Int)) := (hb4.cell (p := ⟨w.heap.size, 0, none⟩) hlt3).trans z0
  have u1 : w4.cell? ⟨w.heap.size, 1, none⟩ = some (.int .i64 vt) := (hb4.cell (p := ⟨w.heap.size, 1, none⟩) hlt3).trans z1
  have hlt4 : w.heap.size < w4.heap.size := Nat.lt_of_lt_of_le hlt3 hb4.size
  have h4 := HH.out.below hB4
  clear z0 z1 hb4
  obtain rfl : O = [] := by rw [← HOut.out]; exact hnone
  clear hrow4
  have hkq : Keeps B L w w4 := Keeps.of_below hB4
  have hsq := h4
  clear h4
  have hq4 := hsq.sto.at_ 1 rfl
  have hq5 := hsq.sto.at_ 2 rfl
  have hf4 := hsq.sto.free 1
  have hf5 := hsq.sto.free 2
  have hltt := hsq.sto.lt
  obtain ⟨hs1, o1⟩ := hsq.sto.set (i := 1) (.int .u64 (tm : Int)) (by simp [pre])
  obtain ⟨hs2, o2⟩ := hs1.set (i := 2) (.int .i64 vt) (by simp [pre])
  have hs2' : Hold 67 B ((w4.setCell ⟨t, 1, none⟩ (.int .u64 (tm : Int))).setCell ⟨t, 2, none⟩ (.int .i64 vt)) t (.pointer (some ⟨b, 0, none⟩) :: pre (savedS s tm vt l)) (.slice A s.es.length c) s.es := hs2
  have o12 := o1.trans o2
  have hc7 := hs2'.at_ 7 rfl
  have hlts := hs2'.lt
  obtain ⟨ws, hws⟩ : ∃ ws, ((w4.setCell ⟨t, 1, none⟩ (.int .u64 (tm : Int))).setCell ⟨t, 2, none⟩ (.int .i64 vt)) = ws := ⟨_, rfl⟩
  rw [hws] at hs2' o12 hc7 hlts
  have hes1 : s.es.length = s.es.length := rfl
  obtain ⟨ne, hne⟩ : ∃ ne, s.es.length = ne := ⟨_, rfl⟩
  rw [hne] at hc7
  have hdel := fun k' (hk' : k' ≤ ne) => delete_all (base := B) (A := A) (n := ne) (c := c) (k := k') (l := s.es) (w := ws.drew) (by have := hs2'.drew.own; rwa [hne] at this) hk'
  have HDel := Lib.hid (hdel k (by rw [← hne]; exact HK1.out))
  have hre4 : RE w4 w.heap.size Al nl l := re_keep HL.out HOT.out hkq (Nat.le_refl _) (fun q hq => ⟨hq.1, fun e => hq.2 (HH.out.sub q e)⟩)
  have hre5 : RE ws w.heap.size Al nl l := re_keep hre4 HOT.out o12 hkq.size (fun q hq => by rw [hq]; exact ⟨hsq.sto.low, HH.out.tX⟩)
  have HSZ : Hid (w.heap.size ≤ ws.heap.size) := Nat.le_trans hkq.size o12.size
  have HR5 := Lib.hid hre5
  have HS2 := Lib.hid hs2'
  have HO12 := Lib.hid o12
  have HWS := Lib.hid hws
  have HSQ := Lib.hid hsq
  have HKQ := Lib.hid hkq
  have HNE := Lib.hid hne
  have hroom : (k + nl) * 40 ≤ 140737488355328 := by have := HK1.out; omega
  clear hs1 hs2 hs2' o1 o2 o12 hdel hre4 hre5 hws hsq hkq hes1 hne
  go_wp2_with fail
  rw [HWS.out]
  go_region_law (first
    | (refine step_app (v := .slice A k c) _ rfl _ _ rfl B rfl HO5.out rfl HR6.out (ecells_one _) hroom HBS5.out ?_
       intro A' c' w6 hown6 hg6 hat6
       have ho6 : Only (fun q => (Value.slice A ne c).ownBlock = some q) ws w6 := (Only.drew (Only.refl _ ws)).trans (HON5.out.grown hg6 fun q hq => .inr (by cases A <;> exact hq))
       have hat' : ∀ q, (Value.slice A' (k + nl) c').ownBlock = some q → (Value.slice A ne c).ownBlock = some q ∨ ws.heap.size ≤ q := fun q hq => by
         rcases hat6 with e | e
         · exact .inl (by rw [← hq, e]; cases A <;> rfl)
         · rw [hq] at e; cases e; exact .inr HON5.out.size
       obtain ⟨hcell6, hfr6, hh6, hoo6⟩ := (by have := HS2.out; rwa [HNE.out] at this : Hold 67 B ws t (.pointer (some ⟨b, 0, none⟩) :: pre (savedS s tm vt l)) (.slice A ne c) s.es).rowed (es' := s.es.take k ++ l) ho6 hown6 (by rw [List.length_append, List.length_take, HNE.out, HLN.out]; have := HK1.out; rw [HNE.out] at this; omega) (by rw [ecells_append]) hat' (i := 7) rfl
       have hlt6 : t < w6.heap.size := Nat.lt_of_lt_of_le hlts ho6.size
       have HH6 := Lib.hid hh6
       have HO6 := Lib.hid hoo6
       have HAt := Lib.hid hat'
       clear hh6 hoo6 hat' hat6 hg6 hown6 ho6)
    | (go_simp
       go_at_call 32
       (with_reducible refine HDel.out.mono ?_)
       rintro e w5 ⟨rfl, hown5, ho5⟩
       have HO5 := Lib.hid hown5
       have HON5 : Hid (Only (fun q => (Value.slice A ne c).ownBlock = some q) ws.drew w5) := ho5
       have HR6 : Hid (RE w5 w.heap.size Al nl l) := re_keep (Reads.drew HR5.out) HOT.out ho5 HSZ.out (fun q hq => ⟨(HS2.out.own.lt q (by cases A <;> exact hq)).1, HH.out.vX q (by cases A <;> exact hq)⟩)
       have HBS5 : Hid (B ≤ w5.heap.size) := Nat.le_trans HS2.out.base ho5.size
       have hlt5 : t < w5.heap.size := Nat.lt_of_lt_of_le hlts ho5.size
       clear hown5 ho5))
  all_goals
    have hsb : StaB (savedS s tm vt l) := after_b HH.out.sb htm hv0 hv1 HLB.out
    have hes : (savedS s tm vt l).es = s.es.take k ++ l := by
      show stayE s l ++ l = _
      rw [HK2.out]
    have hh := HH6.out
    rw [← hes] at hh
    have hfo : Only (Hold.Foot t (.slice A s.es.length c)) w4 (w6.setCell ⟨t, 7, none⟩ (.slice A' (k + nl) c')) := (HO12.out.mono fun q _ hq => .inl hq).trans (by have := HO6.out; rwa [← HNE.out] at this)
    have hat : ∀ q, (Value.slice A' (k + nl) c').ownBlock = some q → (Value.slice A s.es.length c).ownBlock = some q ∨ (w4).heap.size ≤ q := fun q hq => (HAt.out q hq).imp (fun e => by rw [HNE.out]; exact e) fun e => Nat.le_trans HO12.out.size e
    obtain ⟨⟨L', hS'⟩, hK'⟩ := HSQ.out.turned hfo hh hat hsb HOk.out
    have HF1 := Lib.hid hS'
    have HF2 := Lib.hid hK'
    have HF3 := Lib.hid (HH.out.keeps HKQ.out)
    clear hsb hes hh hfo hat hS' hK'
    go_wp2
    go_ret
    exact ⟨rfl, ⟨L', _, HF1.out.more hN'⟩, HF3.out.trans HF2.out⟩

set_option maxRecDepth 100000 in
set_option maxHeartbeats 8000000 in
theorem save_wrote (h : SAt B X w t b p N n m s L v) (htab : Tab w) (hgB : 0 < B) (hN : N < 900000) (hn0 : -9223372036854775808 ≤ n) (hn1 : n ≤ 9223372036854775807) (tm : Nat) (vt : Int) (htm : tm < 18446744073709551616) (hv0 : -9223372036854775808 ≤ vt) (hv1 : vt ≤ 9223372036854775807) (Al : Option Addr) (nl cl : Nat) (l : List Ent) (hl : RE w w.heap.size Al nl l) (hout : Out B X Al nl) (hlb : ∀ e ∈ l, EntB e) (hnl : nl ≤ 999990) (hes : s.es.length ≤ 2000000)
    (hok : right (savedS s tm vt l) = true) (hsome : out s tm vt l ≠ []) {r : Int} {m' : M} (hw : Hid (wappend m n (out s tm vt l) = (r, m'))) (res : Int × (M × Sta)) (hres : Hid (res = if r = 0 then (0, (m', savedS s tm vt l)) else (r, (m', s)))) :
    Calls Tryd.prog 11 #[.pointer (some ⟨t, 0, none⟩), .agg #[.int .u64 (tm : Int), .int .i64 vt], .slice Al nl cl] w (Saved B X w t b p (N + 2) n res) := by
  obtain ⟨A, c, rfl, _, _, _⟩ := h.sto.form
  have hBw := h.base
  have hok2 : okSave s vt l = true := by rw [← right_after h.ok tm vt l]; exact hok
  have hq1 : voteB vt = true := (Bool.and_eq_true_iff.1 hok2).1
  have hq2 : okB (behindS s l) l = true := (Bool.and_eq_true_iff.1 hok2).2
  have hls : ∀ e ∈ l, e.data.size ≤ 32768 := fun e he => (follow_mem (Bool.and_eq_true_iff.1 hq2).2 he).1
  have hpc := pcuts_eq h.ok hok
  have hba : Below w.heap.size w (w.alloc (.cells #[.int .u64 (tm : Int), .int .i64 vt] 32)) := (Below.refl _ _).alloc (Nat.le_refl _) _
  have hcb := heap_alloc_new w (.cells #[.int .u64 (tm : Int), .int .i64 vt] 32)
  obtain ⟨w0, hw0⟩ : ∃ w0, w.alloc (.cells #[.int .u64 (tm : Int), .int .i64 vt] 32) = w0 := ⟨_, rfl⟩
  rw [hw0] at hba hcb
  have x0 : w0.cell? ⟨w.heap.size, 0, none⟩ = some (.int .u64 (tm : Int)) := by rw [cell_at hcb]; rfl
  have x1 : w0.cell? ⟨w.heap.size, 1, none⟩ = some (.int .i64 vt) := by rw [cell_at hcb]; rfl
  have hltb : w.heap.size < w0.heap.size := lt_at hcb
  have hre : ∀ W, Below w.heap.size w W → RE W W.heap.size Al nl l := fun W hb => ((Kit.Reads.below hl hb).more hb.size)
  have ha := ahead_any (h.sto.below hba) h.ok Al nl cl l (hre _ hba) (by omega)
  have hf := fun W (hb : Below w.heap.size w W) k hk1 hk2 => follow_any (h.sto.below hb) h.sb Al nl cl l (hre W hb) hlb (by omega) k hk1 hk2
  rw [hq2] at hf
  have hc := fun W (hb : Below w.heap.size w W) k hk1 hk2 => changes_any (h.sto.below hb) tm vt k Al nl cl l (hre W hb) hlb hls (by omega) htm hv0 hv1 hk1 hk2
  rw [hpc] at hc
  have hol := out_len s tm vt l
  rw [RE.len hl] at hol
  obtain ⟨O, hO⟩ : ∃ O, hards s tm vt ++ (cuts s l ++ l.map recEnt) = O := ⟨_, rfl⟩
  have hO2 : out s tm vt l = O := hO
  rw [hO2] at hol
  rw [hO] at hc
  have HF := Lib.hid hf
  have HA := Lib.hid ha
  have HCh := Lib.hid hc
  have HQ1 : Hid (voteB vt = true) := hq1
  have HH := Lib.hid h
  have HW0 := Lib.hid hw0
  have HBA := Lib.hid hba
  have HOut := Lib.hid hO2
  have HOk := Lib.hid hok
  have HL := Lib.hid hl
  have HOT := Lib.hid hout
  have HLB := Lib.hid hlb
  have HLN := Lib.hid (RE.len hl)
  have HT := Lib.hid htab
  clear hf ha hc hq1 hq2 h hl hout hlb hre hw0 hcb hba hok hok2 hls hpc hO hO2 htab
  go_enter Tryd.func11, Tryd.ntmps11
  go_wp2_with fail
  rw [HW0.out]
  refine HA.out.mono ?_
  rintro e w1 ⟨k, hk1, hk2, rfl, hb1⟩
  have hB1 := HBA.out.trans (hb1.mono HBA.out.size)
  have y0 : w1.cell? ⟨w.heap.size, 0, none⟩ = some (.int .u64 (tm : Int)) := (hb1.cell (p := ⟨w.heap.size, 0, none⟩) hltb).trans x0
  have y1 : w1.cell? ⟨w.heap.size, 1, none⟩ = some (.int .i64 vt) := (hb1.cell (p := ⟨w.heap.size, 1, none⟩) hltb).trans x1
  have hlt1 : w.heap.size < w1.heap.size := Nat.lt_of_lt_of_le hltb hb1.size
  have HK1 := Lib.hid hk1
  have HK2 := Lib.hid hk2
  clear hk1 hk2 hb1 x0 x1
  go_wp2_with fail
  refine (hard_hid tm HQ1 _).mono ?_
  rintro e w2 ⟨rfl, hb2⟩
  have hB2 := hB1.trans (hb2.mono hB1.size)
  go_wp2_with fail
  refine (HF.out w2 hB2 k HK1.out HK2.out).mono ?_
  rintro e w3 ⟨rfl, hb3⟩
  have hB3 := hB2.trans (hb3.mono hB2.size)
  have hb13 : Below w1.heap.size w1 w3 := hb2.trans (hb3.mono hb2.size)
  have z0 : w3.cell? ⟨w.heap.size, 0, none⟩ = some (.int .u64 (tm : Int)) := (hb13.cell (p := ⟨w.heap.size, 0, none⟩) hlt1).trans y0
  have z1 : w3.cell? ⟨w.heap.size, 1, none⟩ = some (.int .i64 vt) := (hb13.cell (p := ⟨w.heap.size, 1, none⟩) hlt1).trans y1
  have hlt3 : w.heap.size < w3.heap.size := Nat.lt_of_lt_of_le hlt1 hb13.size
  clear y0 y1 hb2 hb3 hb13
  go_wp2_with fail
  refine (HCh.out w3 hB3 k HK1.out HK2.out).mono ?_
  rintro e w4 ⟨v4, rfl, A4, c4, rfl, hrow4, hb4⟩
  have hB4 := hB3.trans (hb4.mono hB3.size)
  have u0 : w4.cell? ⟨w.heap.size, 0, none⟩ = some (.int .u64 (tm : Int)) := (hb4.cell (p := ⟨w.heap.size, 0, none⟩) hlt3).trans z0
  have u1 : w4.cell? ⟨w.heap.size, 1, none⟩ = some (.int .i64 vt) := (hb4.cell (p := ⟨w.heap.size, 1, none⟩) hlt3).trans z1
  have hlt4 : w.heap.size < w4.heap.size := Nat.lt_of_lt_of_le hlt3 hb4.size
  have h4 := HH.out.beside hB4 (Nat.le_refl _) hlt4
  clear z0 z1 hb4
  obtain ⟨n4, hn4⟩ : ∃ n4, O.length = n4 := ⟨_, rfl⟩
  have hn4p : 0 < n4 := by
    rcases Nat.eq_zero_or_pos n4 with h0 | h0
    · exact absurd (List.eq_nil_of_length_eq_zero (by rw [hn4, h0])) (by rw [← HOut.out]; exact hsome)
    · exact h0
  have hn4i : decide (0 < n4) = true := decide_eq_true hn4p
  have hn4j : (0 : Int) < (n4 : Int) := by omega
  rw [hn4] at hrow4 hol
  have hw4 := hw.out
  rw [HOut.out] at hw4
  have hrs : RS w4 A4 n4 O := Reads.of_own hrow4
  have happ := append_any A4 n4 c4 O h4.log h4.disk h4.bL hrs (Tab.below HT.out hgB (hB4.mono hBw)) (by omega) hN hn0 hn1
  unfold LogC.Wrote at happ
  rw [hw4] at happ
  have HAP := Lib.hid happ
  have d0 := h4.sto.at_ 0 rfl
  have hlt40 := h4.sto.lt
  have H4 := Lib.hid h4
  rw [hn4]
  clear happ hrs hrow4 hw4 hw h4 hn4
  go_wp2_with fail
  refine HAP.out.mono ?_
  rintro e wq ⟨rfl, hls⟩
  have hkq : Keeps B (w.heap.size :: L) w wq := (Keeps.of_below hB4).trans hls.kept
  have hsq := H4.out.wrote hls.disk hls.log hls.kept
  have hwb : Below B w4 wq := hls.kept.below H4.out.base
  by_cases hr0 : r = 0
  · subst hr0
    obtain rfl : res = (0, (m', savedS s tm vt l)) := by rw [hres.out, if_pos rfl]
    clear hres
    have g0 : wq.cell? ⟨w.heap.size, 0, none⟩ = some (.int .u64 (tm : Int)) := (Only.cell hls.kept (p := ⟨w.heap.size, 0, none⟩) hlt4 (fun e => e.2 (by simp))).trans u0
    have g1 : wq.cell? ⟨w.heap.size, 1, none⟩ = some (.int .i64 vt) := (Only.cell hls.kept (p := ⟨w.heap.size, 1, none⟩) hlt4 (fun e => e.2 (by simp))).trans u1
    have hlt5 : w.heap.size < wq.heap.size := Nat.lt_of_lt_of_le hlt4 hls.kept.size
    have hq4 := hsq.sto.at_ 1 rfl
    have hq5 := hsq.sto.at_ 2 rfl
    have hf4 := hsq.sto.free 1
    have hf5 := hsq.sto.free 2
    have hltt := hsq.sto.lt
    obtain ⟨hs1, o1⟩ := hsq.sto.set (i := 1) (.int .u64 (tm : Int)) (by simp [pre])
    obtain ⟨hs2, o2⟩ := hs1.set (i := 2) (.int .i64 vt) (by simp [pre])
    have hs2' : Hold 67 B ((wq.setCell ⟨t, 1, none⟩ (.int .u64 (tm : Int))).setCell ⟨t, 2, none⟩ (.int .i64 vt)) t (.pointer (some ⟨b, 0, none⟩) :: pre (savedS s tm vt l)) (.slice A s.es.length c) s.es := hs2
    have o12 := o1.trans o2
    have hc7 := hs2'.at_ 7 rfl
    have hlts := hs2'.lt
    obtain ⟨ws, hws⟩ : ∃ ws, ((wq.setCell ⟨t, 1, none⟩ (.int .u64 (tm : Int))).setCell ⟨t, 2, none⟩ (.int .i64 vt)) = ws := ⟨_, rfl⟩
    rw [hws] at hs2' o12 hc7 hlts
    have hes1 : s.es.length = s.es.length := rfl
    obtain ⟨ne, hne⟩ : ∃ ne, s.es.length = ne := ⟨_, rfl⟩
    rw [hne] at hc7
    have hdel := fun k' (hk' : k' ≤ ne) => delete_all (base := B) (A := A) (n := ne) (c := c) (k := k') (l := s.es) (w := ws.drew) (by have := hs2'.drew.own; rwa [hne] at this) hk'
    have HDel := Lib.hid (hdel k (by rw [← hne]; exact HK1.out))
    have hre4 : RE wq w.heap.size Al nl l := re_keep HL.out HOT.out hkq (Nat.le_refl _) (fun q hq => ⟨hq.1, fun e => hq.2 (List.mem_cons_of_mem _ (HH.out.sub q e))⟩)
    have hre5 : RE ws w.heap.size Al nl l := re_keep hre4 HOT.out o12 hkq.size (fun q hq => by rw [hq]; exact ⟨hsq.sto.low, HH.out.tX⟩)
    have HSZ : Hid (w.heap.size ≤ ws.heap.size) := Nat.le_trans hkq.size o12.size
    have HR5 := Lib.hid hre5
    have HS2 := Lib.hid hs2'
    have HO12 := Lib.hid o12
    have HWS := Lib.hid hws
    have HSQ := Lib.hid hsq
    have HKQ := Lib.hid hkq
    have HNE := Lib.hid hne
    have hroom : (k + nl) * 40 ≤ 140737488355328 := by have := HK1.out; omega
    clear hs1 hs2 hs2' o1 o2 o12 hdel hre4 hre5 hws hsq hkq hes1 hne
    go_wp2_with fail
    rw [HWS.out]
    go_region_law (first
      | (refine step_app (v := .slice A k c) _ rfl _ _ rfl B rfl HO5.out rfl HR6.out (ecells_one _) hroom HBS5.out ?_
         intro A' c' w6 hown6 hg6 hat6
         have ho6 : Only (fun q => (Value.slice A ne c).ownBlock = some q) ws w6 := (Only.drew (Only.refl _ ws)).trans (HON5.out.grown hg6 fun q hq => .inr (by cases A <;> exact hq))
         have hat' : ∀ q, (Value.slice A' (k + nl) c').ownBlock = some q → (Value.slice A ne c).ownBlock = some q ∨ ws.heap.size ≤ q := fun q hq => by
           rcases hat6 with e | e
           · exact .inl (by rw [← hq, e]; cases A <;> rfl)
           · rw [hq] at e; cases e; exact .inr HON5.out.size
         obtain ⟨hcell6, hfr6, hh6, hoo6⟩ := (by have := HS2.out; rwa [HNE.out] at this : Hold 67 B ws t (.pointer (some ⟨b, 0, none⟩) :: pre (savedS s tm vt l)) (.slice A ne c) s.es).rowed (es' := s.es.take k ++ l) ho6 hown6 (by rw [List.length_append, List.length_take, HNE.out, HLN.out]; have := HK1.out; rw [HNE.out] at this; omega) (by rw [ecells_append]) hat' (i := 7) rfl
         have hlt6 : t < w6.heap.size := Nat.lt_of_lt_of_le hlts ho6.size
         have HH6 := Lib.hid hh6
         have HO6 := Lib.hid hoo6
         have HAt := Lib.hid hat'
         clear hh6 hoo6 hat' hat6 hg6 hown6 ho6)
      | (go_simp
         go_at_call 32
         (with_reducible refine HDel.out.mono ?_)
         rintro e w5 ⟨rfl, hown5, ho5⟩
         have HO5 := Lib.hid hown5
         have HON5 : Hid (Only (fun q => (Value.slice A ne c).ownBlock = some q) ws.drew w5) := ho5
         have HR6 : Hid (RE w5 w.heap.size Al nl l) := re_keep (Reads.drew HR5.out) HOT.out ho5 HSZ.out (fun q hq => ⟨(HS2.out.own.lt q (by cases A <;> exact hq)).1, HH.out.vX q (by cases A <;> exact hq)⟩)
         have HBS5 : Hid (B ≤ w5.heap.size) := Nat.le_trans HS2.out.base ho5.size
         have hlt5 : t < w5.heap.size := Nat.lt_of_lt_of_le hlts ho5.size
         clear hown5 ho5))
    all_goals
      have hsb : StaB (savedS s tm vt l) := after_b HH.out.sb htm hv0 hv1 HLB.out
      have hes : (savedS s tm vt l).es = s.es.take k ++ l := by
        show stayE s l ++ l = _
        rw [HK2.out]
      have hh := HH6.out
      rw [← hes] at hh
      have hfo : Only (Hold.Foot t (.slice A s.es.length c)) wq (w6.setCell ⟨t, 7, none⟩ (.slice A' (k + nl) c')) := (HO12.out.mono fun q _ hq => .inl hq).trans (by have := HO6.out; rwa [← HNE.out] at this)
      have hat : ∀ q, (Value.slice A' (k + nl) c').ownBlock = some q → (Value.slice A s.es.length c).ownBlock = some q ∨ (wq).heap.size ≤ q := fun q hq => (HAt.out q hq).imp (fun e => by rw [HNE.out]; exact e) fun e => Nat.le_trans HO12.out.size e
      obtain ⟨⟨L', hS'⟩, hK'⟩ := HSQ.out.turned hfo hh hat hsb HOk.out
      have HF1 := Lib.hid hS'
      have HF2 := Lib.hid hK'
      have HF3 : Hid (Keeps B (w.heap.size :: X) w wq) := HKQ.out.fewer HSQ.out.sub
      clear hsb hes hh hfo hat hS' hK'
      go_wp2
      go_ret
      exact ⟨rfl, ⟨L', _, HF1.out.less fun x hx => List.mem_cons_of_mem _ hx⟩, (HF3.out.trans HF2.out).fewer fun x hx => List.mem_cons_of_mem _ hx⟩
  · obtain rfl : res = (r, (m', s)) := by rw [hres.out, if_neg hr0]
    clear hres
    have hri : (r != 0) = true := bne_iff_ne.2 hr0
    have HF1 := Lib.hid hsq
    have HF3 : Hid (Keeps B (w.heap.size :: X) w wq) := hkq.fewer hsq.sub
    clear hsq hkq hls
    go_wp2
    go_ret
    exact ⟨rfl, ⟨_, _, HF1.out.less fun x hx => List.mem_cons_of_mem _ hx⟩, HF3.out.fewer fun x hx => List.mem_cons_of_mem _ hx⟩
/-- Any Save. -/
theorem save_any (h : SAt B X w t b p N n m s L v) (htab : Tab w) (hgB : 0 < B) (hN : N < 900000) (hn0 : -9223372036854775808 ≤ n) (hn1 : n ≤ 9223372036854775807) (tm : Nat) (vt : Int) (htm : tm < 18446744073709551616) (hv0 : -9223372036854775808 ≤ vt) (hv1 : vt ≤ 9223372036854775807) (Al : Option Addr) (nl cl : Nat) (l : List Ent) (hl : RE w w.heap.size Al nl l) (hout : Out B X Al nl) (hlb : ∀ e ∈ l, EntB e) (hnl : nl ≤ 999990) (hes : s.es.length ≤ 2000000) :
    Calls Tryd.prog 11 #[.pointer (some ⟨t, 0, none⟩), .agg #[.int .u64 (tm : Int), .int .i64 vt], .slice Al nl cl] w (Saved B X w t b p (N + 2) n (ssave m n s tm vt l)) := by
  cases hok : right (savedS s tm vt l) with
  | false =>
    have e : ssave m n s tm vt l = (1, (m, s)) := by unfold ssave; rw [if_neg (by rw [hok]; decide)]
    rw [e]
    refine (save_no h tm vt Al nl cl l hl hlb (by omega) (by rw [← right_after h.ok tm vt l]; exact hok)).mono ?_
    rintro e w' ⟨h1, ⟨L', v', h2⟩, h3⟩
    exact ⟨h1, ⟨L', v', h2.more (by omega)⟩, h3⟩
  | true =>
    by_cases ho : out s tm vt l = []
    · have e : ssave m n s tm vt l = (0, (m, savedS s tm vt l)) := by unfold ssave; rw [if_pos hok, if_pos ho]
      rw [e]
      exact save_same h htab hgB hN hn0 hn1 tm vt htm hv0 hv1 Al nl cl l hl hout hlb hnl hes hok ho (N + 2) (by omega)
    · obtain ⟨r, m', hw⟩ : ∃ r m', wappend m n (out s tm vt l) = (r, m') := ⟨_, _, rfl⟩
      refine save_wrote h htab hgB hN hn0 hn1 tm vt htm hv0 hv1 Al nl cl l hl hout hlb hnl hes hok ho (Lib.hid hw) _ ?_
      have e : ssave m n s tm vt l = if r = 0 then (0, (m', savedS s tm vt l)) else (r, (m', s)) := by unfold ssave; rw [if_pos hok, if_neg ho, hw]
      exact e
end
end Go.Proofs.YtamncdpeklbhlaaDoor.Save
set_option linter.unusedVariables false
set_option linter.unusedSimpArgs false
namespace Go.Proofs.YtamncdpeklbhlaaDoor.Anew
open Go.RowKit Go.Proofs.YtamncdpeklbhlaaDoor.Kit Go.Proofs.YtamncdpeklbhlaaDoor.Blocks Go.Proofs.YtamncdpeklbhlaaDoor.Rlog Go.Proofs.YtamncdpeklbhlaaDoor.Sto Go.Proofs.YtamncdpeklbhlaaDoor.Sav Go.Proofs.YtamncdpeklbhlaaDoor.Ents Go.Proofs.YtamncdpeklbhlaaDoor.Hold Go.Proofs.YtamncdpeklbhlaaDoor.Few Go.Proofs.YtamncdpeklbhlaaDoor.Ahe Go.Proofs.YtamncdpeklbhlaaDoor.Fol Go.Proofs.YtamncdpeklbhlaaDoor.Chg Go.Proofs.YtamncdpeklbhlaaDoor.Del Go.Proofs.YtamncdpeklbhlaaDoor.Save Go.Proofs.YtamncdpeklbhlaaDoor.Model Go.Proofs.YtamncdpeklbhlaaDoor.Ops Go.Proofs.YtamncdpeklbhlaaDoor.ScA Go.Proofs.YtamncdpeklbhlaaDoor.FrA Go.Proofs.YtamncdpeklbhlaaDoor.SumB Go.Proofs.YtamncdpeklbhlaaDoor.RlgWalkB Go.Proofs.YtamncdpeklbhlaaDoor.RlgWalkC
open Go.Proofs.YtamncdpeklbhlaaDoor.PckWalkH (str)
open Go.Proofs.YtamncdpeklbhlaaDoor.Log (LogAt wappend wanew)
open Go.Proofs.YtamncdpeklbhlaaDoor.LogC (LS anew_any)

set_option maxRecDepth 100000 in
theorem anew_none (x : Sta) (Al : Option Addr) (nl cl : Nat) (w : World) :
    Calls Tryd.prog 10 #[.pointer none, staV x Al nl cl] w fun e w' => e = .returned (.int .i64 10) ∧ Below w.heap.size w w' := by
  have hba : Below w.heap.size w (w.alloc (boxO x Al nl cl)) := (Below.refl _ _).alloc (Nat.le_refl _) _
  unfold boxO at hba
  unfold staV
  go_enter Tryd.func10, Tryd.ntmps10
  go_wp2
  go_ret
  exact ⟨rfl, hba⟩
theorem isState_hid {x : Sta} {q : Bool} (hs : StaB x) (A : Option Addr) (n c : Nat) (w : World) (hr : RE w w.heap.size A n x.es) (h63 : n * 40 ≤ 140737488355328) (hq : Hid (right x = q)) :
    Calls Tryd.prog 21 #[staV x A n c] w (Few.TellsB w q) := by
  have := isState_any x hs A n c w hr h63
  rwa [hq.out] at this
theorem own_two (w : World) (a b : ByteArray) {base : Nat} (hb : base ≤ w.heap.size) : (w.alloc (.cells #[.string a, .string b] 9)).ownsRow base 9 1 (.slice (some ⟨w.heap.size, 0, none⟩) 2 2) 2 [.string a, .string b] :=
  ⟨rfl, .inr ⟨w.heap.size, 2, _, rfl, hb, heap_alloc_new w _, Nat.le_refl _, by decide, rfl, rfl⟩⟩

section
variable {B : Nat} {X L : List Nat} {w w' : World} {t b p N : Nat} {n : Int} {m : M} {s : Sta} {v : Value}
set_option maxRecDepth 100000 in
set_option maxHeartbeats 2000000 in
theorem anew_no (h : SAt B X w t b p N n m s L v) (x : Sta) (hx : StaB x) (Al : Option Addr) (nl cl : Nat) (hl : RE w w.heap.size Al nl x.es) (h40 : nl * 40 ≤ 140737488355328) (hd : x.snap.data.size ≤ 9223372036854775807) (hno : okAnew x = false) :
    Calls Tryd.prog 10 #[.pointer (some ⟨t, 0, none⟩), staV x Al nl cl] w (Saved B X w t b p N n (1, (m, s))) := by
  have hba : Below w.heap.size w (w.alloc (boxO x Al nl cl)) := (Below.refl _ _).alloc (Nat.le_refl _) _
  have hcb := heap_alloc_new w (boxO x Al nl cl)
  obtain ⟨q, hq⟩ : ∃ q, right x = q := ⟨_, rfl⟩
  have hst := isState_hid hx Al nl cl _ ((Kit.Reads.below hl hba).more hba.size) h40 (Lib.hid hq)
  obtain ⟨w0, hw0⟩ : ∃ w0, w.alloc (boxO x Al nl cl) = w0 := ⟨_, rfl⟩
  rw [hw0] at hba hcb hst
  have hltb : w.heap.size < w0.heap.size := lt_at hcb
  have hdd : q = true → 32768 < x.snap.data.size := fun e => by
    unfold okAnew at hno
    rw [hq, e, Bool.true_and] at hno
    have := of_decide_eq_false hno
    omega
  unfold boxO at hw0 hcb
  unfold staV at hst ⊢
  obtain ⟨tm, vt, ⟨ix, st, cf, d⟩, es⟩ := x
  simp only at *
  have x5 : w0.cell? ⟨w.heap.size, 5, none⟩ = some (.string d) := by rw [cell_at hcb]; rfl
  have HST := Lib.hid hst
  have HW0 := Lib.hid hw0
  have HBA := Lib.hid hba
  have HH := Lib.hid h
  clear hst hw0 hba hcb h hq hno hl hx
  go_enter Tryd.func10, Tryd.ntmps10
  go_wp2_with fail
  rw [HW0.out]
  refine HST.out.mono ?_
  rintro e w1 ⟨rfl, hb1⟩
  have hB1 := HBA.out.trans (hb1.mono HBA.out.size)
  have y5 : w1.cell? ⟨w.heap.size, 5, none⟩ = some (.string d) := (hb1.cell (p := ⟨w.heap.size, 5, none⟩) hltb).trans x5
  have hlt1 : w.heap.size < w1.heap.size := Nat.lt_of_lt_of_le hltb hb1.size
  clear hb1
  cases q with
  | false =>
    go_wp2
    go_ret
    exact ⟨rfl, ⟨L, _, HH.out.below hB1⟩, Keeps.of_below hB1⟩
  | true =>
    have hd1 : (32768 : Int) < (d.size : Int) := by have := hdd rfl; omega
    have hd2 : 32768 < d.size := hdd rfl
    go_wp2
    go_ret
    exact ⟨rfl, ⟨L, _, HH.out.below hB1⟩, Keeps.of_below hB1⟩
theorem rec_snap (x : Snap) (W : World) {Y : ByteArray} (hb : SnapB x) (hd : x.data.size ≤ 32768) (hX : Hid (str (recSnap x) = Y)) :
    Calls Tryd.prog 23 #[.agg #[.int .u64 (x.idx : Int), .int .u64 (x.term : Int), .int .u64 (x.cfg : Int), .string x.data]] W fun e w' => e = .returned (.string Y) ∧ Below W.heap.size W w' := by
  have := Rec.snap_rec x W hb (by omega)
  unfold Rec.Said at this
  rwa [hX.out] at this
theorem Below.bx {w0 w1 : World} {a : Addr} {v : Value} (h : Below w0.heap.size w0 w1) (hc : w0.cell? a = some v) (ha : a.block < w0.heap.size) : w1.cell? a = some v := (h.cell (p := a) ha).trans hc
set_option maxRecDepth 100000 in
set_option maxHeartbeats 8000000 in
theorem anew_ok (h : SAt B X w t b p N n m s L v) (htab : Tab w) (hgB : 0 < B) (hN : N < 900000) (x : Sta) (hx : StaB x) (Al : Option Addr) (nl cl : Nat) (hl : RE w B Al nl x.es) (hnl : nl ≤ 999990) (hok : okAnew x = true)
    {r : Int} {m' : M} (hw : Hid (wanew m n (allOf x) = (r, m'))) (res : Int × (M × Sta)) (hres : Hid (res = if r = 0 then (0, (m', x)) else (r, (m', s)))) :
    Calls Tryd.prog 10 #[.pointer (some ⟨t, 0, none⟩), staV x Al nl cl] w (Saved B X w t b p (N + 2) n res) := by
  have hBw := h.base
  have hrx : right x = true := (Bool.and_eq_true_iff.1 hok).1
  have hdx : x.snap.data.size ≤ 32768 := of_decide_eq_true (Bool.and_eq_true_iff.1 hok).2
  have hls : ∀ e ∈ x.es, e.data.size ≤ 32768 := fun e he => (follow_mem (right_iff.1 hrx).1.2 he).1
  have hba : Below w.heap.size w (w.alloc (boxO x Al nl cl)) := (Below.refl _ _).alloc (Nat.le_refl _) _
  have hcb := heap_alloc_new w (boxO x Al nl cl)
  have hst := isState_hid hx Al nl cl _ ((Kit.Reads.below (hl.more hBw) hba).more hba.size) (by omega) (Lib.hid hrx)
  obtain ⟨w0, hw0⟩ : ∃ w0, w.alloc (boxO x Al nl cl) = w0 := ⟨_, rfl⟩
  rw [hw0] at hba hcb hst
  have hltb : w.heap.size < w0.heap.size := lt_at hcb
  obtain ⟨X1, hX1⟩ : ∃ Y, str (recHard x.term x.vote) = Y := ⟨_, rfl⟩
  obtain ⟨X2, hX2⟩ : ∃ Y, str (recSnap x.snap) = Y := ⟨_, rfl⟩
  have hr1 := fun W => rec_hard x.term x.vote W hx.term hx.v0 hx.v1 (Lib.hid hX1)
  have hr2 := fun W => rec_snap x.snap W hx.snap hdx (Lib.hid hX2)
  have hL0 : strs [recHard x.term x.vote, recSnap x.snap] = [.string X1, .string X2] := by rw [← hX1, ← hX2]; rfl
  have hall : allOf x = [recHard x.term x.vote, recSnap x.snap] ++ x.es.map recEnt := rfl
  obtain ⟨L0, hL0e⟩ : ∃ L0, [recHard x.term x.vote, recSnap x.snap] = L0 := ⟨_, rfl⟩
  have hL0n : L0.length = 2 := by rw [← hL0e]; rfl
  rw [hL0e] at hL0 hall
  have hxe := hx.ents
  have hcp := fun W (hb : RE W W.heap.size Al nl x.es) => copied_any x Al nl cl W hb (by omega)
  have hxx := hx
  have hlen := RE.len hl
  have HX0 : Hid (StaB x) := hxx
  have HRX := Lib.hid hrx
  unfold boxO at hw0 hcb
  unfold staV at hst hcp ⊢
  unfold Few.Gives staV at hcp
  obtain ⟨tm, vt, ⟨ix, st, cf, d⟩, es⟩ := x
  simp only at *
  have x0 : w0.cell? ⟨w.heap.size, 0, none⟩ = some (.int .u64 (tm : Int)) := by rw [cell_at hcb]; rfl
  have x1 : w0.cell? ⟨w.heap.size, 1, none⟩ = some (.int .i64 vt) := by rw [cell_at hcb]; rfl
  have x2 : w0.cell? ⟨w.heap.size, 2, none⟩ = some (.int .u64 (ix : Int)) := by rw [cell_at hcb]; rfl
  have x3 : w0.cell? ⟨w.heap.size, 3, none⟩ = some (.int .u64 (st : Int)) := by rw [cell_at hcb]; rfl
  have x4 : w0.cell? ⟨w.heap.size, 4, none⟩ = some (.int .u64 (cf : Int)) := by rw [cell_at hcb]; rfl
  have x5 : w0.cell? ⟨w.heap.size, 5, none⟩ = some (.string d) := by rw [cell_at hcb]; rfl
  have x6 : w0.cell? ⟨w.heap.size, 6, none⟩ = some (.slice Al nl cl) := by rw [cell_at hcb]; rfl
  have hd1 : ¬ (32768 : Int) < (d.size : Int) := by omega
  have hd2 : ¬ 32768 < d.size := by omega
  have HST := Lib.hid hst
  have HW0 := Lib.hid hw0
  have HBA := Lib.hid hba
  have HH := Lib.hid h
  have HR1 := Lib.hid hr1
  have HR2 := Lib.hid hr2
  have HL0 := Lib.hid hL0
  have HALL := Lib.hid hall
  have HL0N := Lib.hid hL0n
  have HL := Lib.hid hl
  have HLN := Lib.hid hlen
  have HLS := Lib.hid hls
  have HXE := Lib.hid hxe
  have HCP := Lib.hid hcp
  have HT := Lib.hid htab
  clear hst hw0 hba hcb h hr1 hr2 hL0 hall hL0e hL0n hl hlen hls hxe hcp htab hX1 hX2 hx hxx hrx hok hdx
  go_enter Tryd.func10, Tryd.ntmps10
  go_wp2_with fail
  rw [HW0.out]
  refine HST.out.mono ?_
  rintro e w1 ⟨rfl, hb1⟩
  have y0 := Below.bx hb1 x0 hltb
  have y1 := Below.bx hb1 x1 hltb
  have y2 := Below.bx hb1 x2 hltb
  have y3 := Below.bx hb1 x3 hltb
  have y4 := Below.bx hb1 x4 hltb
  have y5 := Below.bx hb1 x5 hltb
  have y6 := Below.bx hb1 x6 hltb
  have hB1 := HBA.out.trans (hb1.mono HBA.out.size)
  have hlt1 : w.heap.size < w1.heap.size := Nat.lt_of_lt_of_le hltb hb1.size
  clear x0 x1 x2 x3 x4 x5 x6 hb1
  go_wp2_with fail
  go_region_held3 (fun w' => w'.cell? ⟨w.heap.size, 0, none⟩ = some (.int .u64 (tm : Int)) ∧ w'.cell? ⟨w.heap.size, 1, none⟩ = some (.int .i64 vt) ∧ w'.cell? ⟨w.heap.size, 2, none⟩ = some (.int .u64 (ix : Int)) ∧ w'.cell? ⟨w.heap.size, 3, none⟩ = some (.int .u64 (st : Int)) ∧ w'.cell? ⟨w.heap.size, 4, none⟩ = some (.int .u64 (cf : Int)) ∧ w'.cell? ⟨w.heap.size, 5, none⟩ = some (.string d))
    (first
      | exact ⟨y0, y1, y2, y3, y4, y5⟩
      | exact ⟨Below.bx (hB3.alloc hB3.size _) y0 hlt1, Below.bx (hB3.alloc hB3.size _) y1 hlt1, Below.bx (hB3.alloc hB3.size _) y2 hlt1, Below.bx (hB3.alloc hB3.size _) y3 hlt1, Below.bx (hB3.alloc hB3.size _) y4 hlt1, Below.bx (hB3.alloc hB3.size _) y5 hlt1⟩
      | exact ⟨Below.bx (hB2.alloc hB2.size _) y0 hlt1, Below.bx (hB2.alloc hB2.size _) y1 hlt1, Below.bx (hB2.alloc hB2.size _) y2 hlt1, Below.bx (hB2.alloc hB2.size _) y3 hlt1, Below.bx (hB2.alloc hB2.size _) y4 hlt1, Below.bx (hB2.alloc hB2.size _) y5 hlt1⟩
      | exact ⟨Below.bx hB3 y0 hlt1, Below.bx hB3 y1 hlt1, Below.bx hB3 y2 hlt1, Below.bx hB3 y3 hlt1, Below.bx hB3 y4 hlt1, Below.bx hB3 y5 hlt1⟩
      | exact ⟨Below.bx hB2 y0 hlt1, Below.bx hB2 y1 hlt1, Below.bx hB2 y2 hlt1, Below.bx hB2 y3 hlt1, Below.bx hB2 y4 hlt1, Below.bx hB2 y5 hlt1⟩)
    (first
      | (go_at_call 22
         (with_reducible refine (HR1.out _).mono ?_)
         rintro e w2 ⟨rfl, hb2⟩
         have hB2 : Below w1.heap.size w1 w2 := by first | exact ((Below.refl _ _).drew).trans hb2 | exact hB3.trans (hb2.mono hB3.size))
      | (go_at_call 23
         (with_reducible refine (HR2.out _).mono ?_)
         rintro e w3 ⟨rfl, hb3⟩
         have hB3 : Below w1.heap.size w1 w3 := by first | exact ((Below.refl _ _).drew).trans hb3 | exact hB2.trans (hb3.mono hB2.size)))
  have hB4 : Below w1.heap.size w1 (w3.alloc (.cells #[.string X1, .string X2] 9)) := hB3.alloc hB3.size _
  have hB4w : Below w.heap.size w (w3.alloc (.cells #[.string X1, .string X2] 9)) := hB1.trans (hB4.mono hB1.size)
  have hrow0 : (w3.alloc (.cells #[.string X1, .string X2] 9)).ownsRow w1.heap.size 9 1 (.slice (some ⟨w3.heap.size, 0, none⟩) 2 2) 2 [.string X1, .string X2] := own_two w3 X1 X2 hB3.size
  obtain ⟨w4, hw4⟩ : ∃ w4, w3.alloc (.cells #[.string X1, .string X2] 9) = w4 := ⟨_, rfl⟩
  rw [hw4] at hB4 hB4w hrow0
  rw [hw4]
  have z6 := Below.bx hB4 y6 hlt1
  have hmid0 : Mid w1 L0 (.slice (some ⟨w3.heap.size, 0, none⟩) 2 2) w4 := ⟨_, 2, by rw [HL0N.out], by rw [HL0N.out, HL0.out]; exact hrow0, hB4⟩
  have HM0 := Lib.hid hmid0
  have hlt4 : w.heap.size < w4.heap.size := Nat.lt_of_lt_of_le hlt1 hB4.size
  clear hrow0 hmid0 hw4 hB2 hB3 hb2 hb3
  go_wp2_with fail
  go_loopw [5, 31] (fun v i wr => ∃ j : Nat, j ≤ nl ∧ i = .int .i64 (j : Int) ∧ Mid w1 (L0 ++ (es.take j).map recEnt) v wr) (fun _ i _ => nl - (intOf i).toNat)
  case atStart => exact ⟨0, Nat.zero_le _, rfl, by rw [List.take_zero, List.map_nil, List.append_nil]; exact HM0.out⟩
  case round =>
    obtain ⟨j, hj, rfl, hmid⟩ := hrel
    obtain ⟨A2, c2, rfl, hrow2, hB2⟩ := hmid
    obtain ⟨n2, hn2⟩ : ∃ n2, (L0 ++ (es.take j).map recEnt).length = n2 := ⟨_, rfl⟩
    have hn2b : n2 ≤ 999992 := by
      rw [← hn2, List.length_append, List.length_map, List.length_take, HL0N.out]
      omega
    rw [hn2] at hrow2 ⊢
    have HN2 := Lib.hid hn2
    have hsz2 := hB2.size
    have hb3 := hB1.trans (hB2.mono hB1.size)
    by_cases hjn : j < nl
    · obtain ⟨bl, ol, y, rfl, hbl, hy, hf⟩ := RE.at_ HL.out hjn
      have hfr := Four.below hf (hb3.mono hBw) hbl
      have e0 := hfr.c0
      have e1 := hfr.c1
      have e2 := hfr.c2
      have e3 := hfr.c3
      have hym := List.mem_of_getElem? hy
      obtain ⟨Y, hY⟩ : ∃ Y, str (recEnt y) = Y := ⟨_, rfl⟩
      have HY := Lib.hid hY
      have hrec := fun W => rec_ent y W (HXE.out y hym) (HLS.out y hym) HY
      have HSN := Lib.hid (map_snoc hy)
      have hba2 : Below wr.heap.size wr (wr.alloc (.cells #[.int .u64 (y.term : Int), .int .u64 (y.idx : Int), .int .i64 y.kind, .string y.data] 55)) := (Below.refl _ _).alloc (Nat.le_refl _) _
      have hR2 := own_below hrow2 hba2
      have hB3 := hB2.trans (hba2.mono hsz2)
      obtain ⟨tm', ix', kd', d'⟩ := y
      simp only at *
      have HRec := Lib.hid hrec
      clear hrec hY hym hy hf hfr hn2 hrow2
      go_wp2_with fail
      refine (HRec.out _).mono ?_
      rintro e w5 ⟨rfl, hb5⟩
      have hR3 := own_below hR2 hb5
      have hB5 := hB3.trans (hb5.mono hB3.size)
      go_wp2_with
        (at_builtin
         refine wpList_rec (.tmp 35) (.tmp 38) rfl rfl rfl HN2 hR3 hB5 rfl rfl HY (by omega) ?_
         intro A3 c3 w6 hm6)
      go_roundw
      case rel => exact ⟨j + 1, by omega, by go_num, by rw [HSN.out, ← List.append_assoc]; exact hm6⟩
      case measure => simp [intOf]; omega
    · obtain rfl : j = nl := by omega
      have hall : es.take j = es := List.take_of_length_le (by rw [HLN.out]; exact Nat.le_refl _)
      rw [hall, ← HALL.out] at hrow2 HN2
      have h4 := HH.out.beside hb3 (Nat.le_refl _) (Nat.lt_of_lt_of_le hlt1 hsz2)
      have hrs : RS wr A2 n2 (allOf ⟨tm, vt, ⟨ix, st, cf, d⟩, es⟩) := Reads.of_own hrow2
      have happ := anew_any A2 n2 c2 _ h4.log h4.disk h4.bL hrs (Tab.below HT.out hgB (hb3.mono hBw)) (by omega) hN
      unfold LogC.Wrote at happ
      rw [hw.out] at happ
      have HAP := Lib.hid happ
      have d0 := h4.sto.at_ 0 rfl
      have hlt40 := h4.sto.lt
      have H4 := Lib.hid h4
      have u0 := Below.bx hB2 y0 hlt1
      have u1 := Below.bx hB2 y1 hlt1
      have u2 := Below.bx hB2 y2 hlt1
      have u3 := Below.bx hB2 y3 hlt1
      have u4 := Below.bx hB2 y4 hlt1
      have u5 := Below.bx hB2 y5 hlt1
      have u6 := Below.bx hB2 y6 hlt1
      have hltr : w.heap.size < wr.heap.size := Nat.lt_of_lt_of_le hlt1 hsz2
      clear happ hrs hrow2 h4 hn2 hall
      go_wp2_with fail
      refine HAP.out.mono ?_
      rintro e wq ⟨rfl, hls⟩
      have hkq : Keeps B (w.heap.size :: L) w wq := (Keeps.of_below hb3).trans hls.kept
      have hsq := H4.out.wrote hls.disk hls.log hls.kept
      by_cases hr0 : r = 0
      · subst hr0
        obtain rfl : res = (0, (m', ⟨tm, vt, ⟨ix, st, cf, d⟩, es⟩)) := by rw [hres.out, if_pos rfl]
        clear hres
        have q0 : wq.cell? ⟨w.heap.size, 0, none⟩ = some (.int .u64 (tm : Int)) := (Only.cell hls.kept (p := ⟨w.heap.size, 0, none⟩) hltr (fun e => e.2 (by simp))).trans u0
        have q1 : wq.cell? ⟨w.heap.size, 1, none⟩ = some (.int .i64 vt) := (Only.cell hls.kept (p := ⟨w.heap.size, 1, none⟩) hltr (fun e => e.2 (by simp))).trans u1
        have q2 : wq.cell? ⟨w.heap.size, 2, none⟩ = some (.int .u64 (ix : Int)) := (Only.cell hls.kept (p := ⟨w.heap.size, 2, none⟩) hltr (fun e => e.2 (by simp))).trans u2
        have q3 : wq.cell? ⟨w.heap.size, 3, none⟩ = some (.int .u64 (st : Int)) := (Only.cell hls.kept (p := ⟨w.heap.size, 3, none⟩) hltr (fun e => e.2 (by simp))).trans u3
        have q4 : wq.cell? ⟨w.heap.size, 4, none⟩ = some (.int .u64 (cf : Int)) := (Only.cell hls.kept (p := ⟨w.heap.size, 4, none⟩) hltr (fun e => e.2 (by simp))).trans u4
        have q5 : wq.cell? ⟨w.heap.size, 5, none⟩ = some (.string d) := (Only.cell hls.kept (p := ⟨w.heap.size, 5, none⟩) hltr (fun e => e.2 (by simp))).trans u5
        have q6 : wq.cell? ⟨w.heap.size, 6, none⟩ = some (.slice Al j cl) := (Only.cell hls.kept (p := ⟨w.heap.size, 6, none⟩) hltr (fun e => e.2 (by simp))).trans u6
        have hltq : w.heap.size < wq.heap.size := Nat.lt_of_lt_of_le hltr hls.kept.size
        have hreq : RE wq wq.heap.size Al j es := (Kit.Reads.below HL.out (hkq.below hBw)).more hsq.base
        have hcp := HCP.out wq hreq
        have HCPQ := Lib.hid hcp
        have HSQ := Lib.hid hsq
        have HKQ := Lib.hid hkq
        clear hcp hreq hsq hkq hls u0 u1 u2 u3 u4 u5 u6
        go_wp2_with fail
        refine HCPQ.out.mono ?_
        rintro e w6 ⟨A6, c6, rfl, hown6, hb6⟩
        have h6 := HSQ.out.below hb6
        have hlt6 := h6.sto.lt
        have t1 := h6.sto.at_ 1 rfl
        have f1 := h6.sto.free 1
        have t2 := h6.sto.at_ 2 rfl
        have f2 := h6.sto.free 2
        have t3 := h6.sto.at_ 3 rfl
        have f3 := h6.sto.free 3
        have t4 := h6.sto.at_ 4 rfl
        have f4 := h6.sto.free 4
        have t5 := h6.sto.at_ 5 rfl
        have f5 := h6.sto.free 5
        have t6 := h6.sto.at_ 6 rfl
        have f6 := h6.sto.free 6
        have t7 := h6.sto.at_ 7 rfl
        have f7 := h6.sto.free 7
        obtain ⟨hs1, o1⟩ := h6.sto.set (i := 1) (.int .u64 (tm : Int)) (by simp [pre])
        obtain ⟨hs2, o2⟩ := hs1.set (i := 2) (.int .i64 vt) (by simp [pre])
        obtain ⟨hs3, o3⟩ := hs2.set (i := 3) (.int .u64 (ix : Int)) (by simp [pre])
        obtain ⟨hs4, o4⟩ := hs3.set (i := 4) (.int .u64 (st : Int)) (by simp [pre])
        obtain ⟨hs5, o5⟩ := hs4.set (i := 5) (.int .u64 (cf : Int)) (by simp [pre])
        obtain ⟨hs6, o6⟩ := hs5.set (i := 6) (.string d) (by simp [pre])
        have o16 := ((((o1.trans o2).trans o3).trans o4).trans o5).trans o6
        have hnt : (Value.slice A6 es.length c6).ownBlock ≠ some t := fun e => by have := (hown6.lt t e).1; have := HSQ.out.sto.lt; omega
        have hown7 := (o16.own hown6 fun q hq e => hnt (by rw [hq, e]))
        obtain ⟨hs7, o7⟩ := hs6.laid (v1 := .slice A6 es.length c6) (es' := es) (own_base hown7 HSQ.out.base) rfl rfl hnt (i := 7) (by simp [pre])
        have hfo := (Only.of_below (S := Hold.Foot t v) hb6).trans ((o16.trans o7).mono (S' := Hold.Foot t v) fun q _ hq => .inl hq)
        obtain ⟨⟨L', hS'⟩, hK'⟩ := HSQ.out.turned (s' := ⟨tm, vt, ⟨ix, st, cf, d⟩, es⟩) hfo hs7 (fun q hq => .inr (hown6.lt q hq).1) HX0.out HRX.out
        have HF1 := Lib.hid hS'
        have HF2 := Lib.hid hK'
        have HF3 : Hid (Keeps B (w.heap.size :: X) w wq) := HKQ.out.fewer HSQ.out.sub
        clear hS' hK' hfo hs7 o7 hown7 o16 hs1 hs2 hs3 hs4 hs5 hs6 o1 o2 o3 o4 o5 o6 h6 hb6 hown6
        go_wp2_with fail
        go_ret
        exact ⟨rfl, ⟨L', _, HF1.out.less fun x hx => List.mem_cons_of_mem _ hx⟩, (HF3.out.trans HF2.out).fewer fun x hx => List.mem_cons_of_mem _ hx⟩
      · obtain rfl : res = (r, (m', s)) := by rw [hres.out, if_neg hr0]
        clear hres
        have hri : (r != 0) = true := bne_iff_ne.2 hr0
        have HF1 := Lib.hid hsq
        have HF3 : Hid (Keeps B (w.heap.size :: X) w wq) := hkq.fewer hsq.sub
        clear hsq hkq hls
        go_wp2
        go_ret
        exact ⟨rfl, ⟨_, _, HF1.out.less fun x hx => List.mem_cons_of_mem _ hx⟩, HF3.out.fewer fun x hx => List.mem_cons_of_mem _ hx⟩
/-- Any Anew. -/
theorem anew_any' (h : SAt B X w t b p N n m s L v) (htab : Tab w) (hgB : 0 < B) (hN : N < 900000) (x : Sta) (hx : StaB x) (Al : Option Addr) (nl cl : Nat) (hl : RE w B Al nl x.es) (hnl : nl ≤ 999990) (hd : x.snap.data.size ≤ 9223372036854775807) :
    Calls Tryd.prog 10 #[.pointer (some ⟨t, 0, none⟩), staV x Al nl cl] w (Saved B X w t b p (N + 2) n (sanew m n s x)) := by
  cases hok : okAnew x with
  | false =>
    have e : sanew m n s x = (1, (m, s)) := by unfold sanew; rw [if_neg (by rw [hok]; decide)]
    rw [e]
    refine (anew_no h x hx Al nl cl (hl.more h.base) (by omega) hd hok).mono ?_
    rintro e w' ⟨h1, ⟨L', v', h2⟩, h3⟩
    exact ⟨h1, ⟨L', v', h2.more (by omega)⟩, h3⟩
  | true =>
    obtain ⟨r, m', hw⟩ : ∃ r m', wanew m n (allOf x) = (r, m') := ⟨_, _, rfl⟩
    refine anew_ok h htab hgB hN x hx Al nl cl hl hnl hok (Lib.hid hw) _ ?_
    have e : sanew m n s x = if r = 0 then (0, (m', x)) else (r, (m', s)) := by unfold sanew; rw [if_pos hok, hw]
    exact e
end
end Go.Proofs.YtamncdpeklbhlaaDoor.Anew
set_option linter.unusedVariables false
set_option linter.unusedSimpArgs false
namespace Go.Proofs.YtamncdpeklbhlaaDoor.LogB
open Go.RowKit Go.Proofs.YtamncdpeklbhlaaDoor.Kit Go.Proofs.YtamncdpeklbhlaaDoor.Blocks Go.Proofs.YtamncdpeklbhlaaDoor.SumB Go.Proofs.YtamncdpeklbhlaaDoor.Wal Go.Proofs.YtamncdpeklbhlaaDoor.FrA Go.Proofs.YtamncdpeklbhlaaDoor.FrC Go.Proofs.YtamncdpeklbhlaaDoor.ScA Go.Proofs.YtamncdpeklbhlaaDoor.ScB Go.Proofs.YtamncdpeklbhlaaDoor.Frm Go.Proofs.YtamncdpeklbhlaaDoor.Model Go.Proofs.YtamncdpeklbhlaaDoor.Disk Go.Proofs.YtamncdpeklbhlaaDoor.Ops Go.Proofs.YtamncdpeklbhlaaDoor.Log
open Go.Proofs.YtamncdpeklbhlaaDoor.DskWalkC (str Got)
open Go.Proofs.YtamncdpeklbhlaaDoor.Model.M
section
variable {B : Nat} {L : List Nat} {w : World} {p N : Nat} {m : M}

set_option maxRecDepth 100000 in
set_option maxHeartbeats 4000000 in
theorem open_old (n : Int) (h : Has B L w p N m) (ht : Tab w) (hgB : 0 < B) (hN : N < 900000) (hn : 0 ≤ n ∧ n < 16) (hoff : m.off = false) (hhas : m.has n = true) :
    Calls Tryd.prog 19 #[.pointer (some ⟨p, 0, none⟩), .int .i64 n] w (Opened B L w p (N + 2) n (wopen m n)) := by
  have hBw := h.low
  have hr := read_has n h (by omega) (by omega)
  have e1 : m.read n = (m.all n.toNat, 0) := by simp [M.read, hoff, hhas]
  rw [e1] at hr
  obtain ⟨W, hW⟩ : ∃ W, wopen m n = W := ⟨_, rfl⟩
  rw [hW]
  obtain ⟨S, hS⟩ : ∃ S, str (m.all n.toNat) = S := ⟨_, rfl⟩
  have hSl : S.data.toList = m.all n.toNat := by rw [← hS]; rfl
  have hSs : S.size ≤ 1000000000 := by
    have := all_le h.fine n.toNat
    rw [← size_list, hSl]
    omega
  have HW : Hid (behind m n S.data.toList = W) := by
    rw [← hW, hSl, wopen_old hn hoff hhas]
    rfl
  obtain ⟨⟨rl, k⟩, hsc⟩ : ∃ q, scan S.data.toList = q := ⟨_, rfl⟩
  have HSc := Lib.hid hsc
  have HR := Lib.hid hr
  have HS := Lib.hid hS
  have h1 := hn.1
  have h2 := hn.2
  have h0 : Keeps B L w w := Keeps.refl B L w
  clear hr e1 hS hSl hW hsc
  go_enter Tryd.func19, Tryd.ntmps19
  go_wp2_with fail
  refine HR.out.mono ?_
  intro e w1 hg
  obtain ⟨rfl, hb1⟩ := Got.lit hg HS rfl
  have hH := h.below hb1
  have hK : Keeps B L w w1 := h0.trans (Keeps.of_below hb1)
  clear hg HR
  go_wp2_with fail
  refine (scan_any S _ (Tab.below ht hgB (hK.below hBw)) hSs).mono ?_
  rintro e w2 ⟨v, rfl, hown, hb2⟩
  rw [HSc.out] at hown
  obtain ⟨A, c, L', rfl, hH2, hsub, hread⟩ := beside_scan hH hown hb2
  have hK2 : Keeps B L w w2 := hK.trans (Keeps.of_below hb2)
  have HRD := Lib.hid hread
  have HSUB := Lib.hid hsub
  clear hread hsub hown
  rw [HSc.out]
  simp only []
  by_cases hks : k < S.size
  · have hki : (k : Int) < (S.size : Int) := by omega
    have hd := replace_has n (S.extract 0 k) hH2 (show N < 1000000 by omega)
    obtain ⟨r2, hr2⟩ : ∃ r2, (m.replace n (S.extract 0 k).data.toList).1 = r2 := ⟨_, rfl⟩
    obtain ⟨m2, hm2⟩ : ∃ m2, (m.replace n (S.extract 0 k).data.toList).2 = m2 := ⟨_, rfl⟩
    have hx : (S.extract 0 k).data.toList = S.data.toList.take k := by rw [extract_list]; simp
    have HW2 : Hid ((if r2 = 0 then ((0, rl), m2) else ((r2, []), m2)) = W) := by
      have := HW.out
      unfold behind at this
      rw [HSc.out, if_pos (show k < S.data.toList.length from hks), ← hx, hr2, hm2] at this
      exact this
    have HR2 := Lib.hid hr2
    have HM2 := Lib.hid hm2
    have HD := Lib.hid hd
    clear hd hr2 hm2 hx HW
    go_wp2_with fail
    refine HD.out.mono ?_
    intro e w3 hd
    obtain ⟨rfl, h3, k3⟩ := Done.lit hd HR2 HM2
    have hR3 := HRD.out w3 k3
    have hK3 : Keeps B L w w3 := hK2.trans (k3.fewer HSUB.out)
    clear hd k3 HD
    by_cases hr : r2 = 0
    · subst hr
      have hW := HW2.out
      rw [if_pos rfl] at hW
      clear HW2
      subst hW
      go_wp2
      go_ret3
      have hbn : Below w3.heap.size w3 (w3.alloc (.cells #[.pointer (some ⟨p, 0, none⟩), .int .i64 n] 97)) := (Below.refl _ _).alloc (Nat.le_refl _) _
      exact .inr ⟨rfl, _, A, c, rfl, heap_alloc_new w3 _, (hR3.below hbn).more hbn.size, (((h3.fewer HSUB.out).beside hbn (Nat.le_refl _) (by simp)).more (by omega)), hK3.trans (Keeps.of_below hbn), hK3.size⟩
    · have hri : (r2 != 0) = true := bne_iff_ne.2 hr
      have hW := HW2.out
      rw [if_neg hr] at hW
      clear HW2
      subst hW
      go_wp2
      go_ret3
      exact .inl ⟨hr, rfl, ((h3.fewer HSUB.out).more (by omega)), hK3⟩
  · have hki : ¬ (k : Int) < (S.size : Int) := by omega
    have hd := sync_has n hH2 (show N < 1000000 by omega) (by omega) (by omega)
    obtain ⟨r2, hr2⟩ : ∃ r2, (m.sync n).1 = r2 := ⟨_, rfl⟩
    obtain ⟨m2, hm2⟩ : ∃ m2, (m.sync n).2 = m2 := ⟨_, rfl⟩
    have HW2 : Hid ((if r2 = 0 then ((0, rl), m2) else ((r2, []), m2)) = W) := by
      have := HW.out
      unfold behind at this
      rw [HSc.out, if_neg (show ¬ k < S.data.toList.length from hks), hr2, hm2] at this
      exact this
    have HR2 := Lib.hid hr2
    have HM2 := Lib.hid hm2
    have HD := Lib.hid hd
    clear hd hr2 hm2 HW
    go_wp2_with fail
    refine HD.out.mono ?_
    intro e w3 hd
    obtain ⟨rfl, h3, k3⟩ := Done.lit hd HR2 HM2
    have hR3 := HRD.out w3 k3
    have hK3 : Keeps B L w w3 := hK2.trans (k3.fewer HSUB.out)
    clear hd k3 HD
    by_cases hr : r2 = 0
    · subst hr
      have hW := HW2.out
      rw [if_pos rfl] at hW
      clear HW2
      subst hW
      go_wp2
      go_ret3
      have hbn : Below w3.heap.size w3 (w3.alloc (.cells #[.pointer (some ⟨p, 0, none⟩), .int .i64 n] 97)) := (Below.refl _ _).alloc (Nat.le_refl _) _
      exact .inr ⟨rfl, _, A, c, rfl, heap_alloc_new w3 _, (hR3.below hbn).more hbn.size, (((h3.fewer HSUB.out).beside hbn (Nat.le_refl _) (by simp)).more (by omega)), hK3.trans (Keeps.of_below hbn), hK3.size⟩
    · have hri : (r2 != 0) = true := bne_iff_ne.2 hr
      have hW := HW2.out
      rw [if_neg hr] at hW
      clear HW2
      subst hW
      go_wp2
      go_ret3
      exact .inl ⟨hr, rfl, ((h3.fewer HSUB.out).more (by omega)), hK3⟩

set_option maxRecDepth 100000 in
set_option maxHeartbeats 4000000 in
theorem open_new (n : Int) (h : Has B L w p N m) (ht : Tab w) (hgB : 0 < B) (hN : N < 900000) (hn : 0 ≤ n ∧ n < 16) (hoff : m.off = false) (hhas : m.has n = false) :
    Calls Tryd.prog 19 #[.pointer (some ⟨p, 0, none⟩), .int .i64 n] w (Opened B L w p (N + 2) n (wopen m n)) := by
  have hBw := h.low
  have hr := read_has n h (by omega) (by omega)
  have e1 : m.read n = ([], 12) := by simp [M.read, hoff, hhas]
  rw [e1] at hr
  obtain ⟨W, hW⟩ : ∃ W, wopen m n = W := ⟨_, rfl⟩
  rw [hW]
  obtain ⟨S, hS⟩ : ∃ S, str [] = S := ⟨_, rfl⟩
  obtain ⟨r1, hr1⟩ : ∃ r1, (m.replace n []).1 = r1 := ⟨_, rfl⟩
  obtain ⟨m1, hm1⟩ : ∃ m1, (m.replace n []).2 = m1 := ⟨_, rfl⟩
  have hSl : S.data.toList = [] := by rw [← hS]; rfl
  have hSs : S.size ≤ 1000000000 := by rw [← size_list, hSl]; simp
  have HW0 : Hid ((if r1 = 0 then behind m1 n S.data.toList else ((r1, []), m1)) = W) := by
    rw [← hW, hSl, wopen_new hn hoff hhas, hr1, hm1]
    rfl
  obtain ⟨⟨rl, k⟩, hsc⟩ : ∃ q, scan S.data.toList = q := ⟨_, rfl⟩
  have HSc := Lib.hid hsc
  have HR := Lib.hid hr
  have HS := Lib.hid hS
  have HR1 := Lib.hid hr1
  have HM1 := Lib.hid hm1
  have h1 := hn.1
  have h2 := hn.2
  have h0 : Keeps B L w w := Keeps.refl B L w
  have hrep := fun W' (hb : Below w.heap.size w W') => replace_has n ⟨#[]⟩ (h.below hb) (show N < 1000000 by omega)
  have HREP := Lib.hid hrep
  clear hr e1 hS hSl hW hsc hr1 hm1 hrep
  go_enter Tryd.func19, Tryd.ntmps19
  go_wp2_with fail
  refine HR.out.mono ?_
  intro e w0 hg
  obtain ⟨rfl, hb1⟩ := Got.lit hg HS rfl
  clear hg HR
  go_wp2_with fail
  refine (HREP.out w0 hb1).mono ?_
  intro e w1 hd
  obtain ⟨rfl, hH, k1⟩ := Done.lit hd HR1 HM1
  have hK : Keeps B L w w1 := (Keeps.of_below hb1).trans k1
  clear hd k1 HREP
  by_cases hr : r1 = 0
  · subst hr
    have HW : Hid (behind m1 n S.data.toList = W) := by
      have := HW0.out
      rwa [if_pos rfl] at this
    clear HW0
    go_wp2_with fail
    refine (scan_any S _ (Tab.below ht hgB (hK.below hBw)) hSs).mono ?_
    rintro e w2 ⟨v, rfl, hown, hb2⟩
    rw [HSc.out] at hown
    obtain ⟨A, c, L', rfl, hH2, hsub, hread⟩ := beside_scan hH hown hb2
    have hK2 : Keeps B L w w2 := hK.trans (Keeps.of_below hb2)
    have HRD := Lib.hid hread
    have HSUB := Lib.hid hsub
    clear hread hsub hown
    rw [HSc.out]
    simp only []
    by_cases hks : k < S.size
    · have hki : (k : Int) < (S.size : Int) := by omega
      have hd := replace_has n (S.extract 0 k) hH2 (show N + 1 < 1000000 by omega)
      obtain ⟨r2, hr2⟩ : ∃ r2, (m1.replace n (S.extract 0 k).data.toList).1 = r2 := ⟨_, rfl⟩
      obtain ⟨m2, hm2⟩ : ∃ m2, (m1.replace n (S.extract 0 k).data.toList).2 = m2 := ⟨_, rfl⟩
      have hx : (S.extract 0 k).data.toList = S.data.toList.take k := by rw [extract_list]; simp
      have HW2 : Hid ((if r2 = 0 then ((0, rl), m2) else ((r2, []), m2)) = W) := by
        have := HW.out
        unfold behind at this
        rw [HSc.out, if_pos (show k < S.data.toList.length from hks), ← hx, hr2, hm2] at this
        exact this
      have HR2 := Lib.hid hr2
      have HM2 := Lib.hid hm2
      have HD := Lib.hid hd
      clear hd hr2 hm2 hx HW
      go_wp2_with fail
      refine HD.out.mono ?_
      intro e w3 hd
      obtain ⟨rfl, h3, k3⟩ := Done.lit hd HR2 HM2
      have hR3 := HRD.out w3 k3
      have hK3 : Keeps B L w w3 := hK2.trans (k3.fewer HSUB.out)
      clear hd k3 HD
      by_cases hr : r2 = 0
      · subst hr
        have hW := HW2.out
        rw [if_pos rfl] at hW
        clear HW2
        subst hW
        go_wp2
        go_ret3
        have hbn : Below w3.heap.size w3 (w3.alloc (.cells #[.pointer (some ⟨p, 0, none⟩), .int .i64 n] 97)) := (Below.refl _ _).alloc (Nat.le_refl _) _
        exact .inr ⟨rfl, _, A, c, rfl, heap_alloc_new w3 _, (hR3.below hbn).more hbn.size, (((h3.fewer HSUB.out).beside hbn (Nat.le_refl _) (by simp)).more (by omega)), hK3.trans (Keeps.of_below hbn), hK3.size⟩
      · have hri : (r2 != 0) = true := bne_iff_ne.2 hr
        have hW := HW2.out
        rw [if_neg hr] at hW
        clear HW2
        subst hW
        go_wp2
        go_ret3
        exact .inl ⟨hr, rfl, ((h3.fewer HSUB.out).more (by omega)), hK3⟩
    · have hki : ¬ (k : Int) < (S.size : Int) := by omega
      have hd := sync_has n hH2 (show N + 1 < 1000000 by omega) (by omega) (by omega)
      obtain ⟨r2, hr2⟩ : ∃ r2, (m1.sync n).1 = r2 := ⟨_, rfl⟩
      obtain ⟨m2, hm2⟩ : ∃ m2, (m1.sync n).2 = m2 := ⟨_, rfl⟩
      have HW2 : Hid ((if r2 = 0 then ((0, rl), m2) else ((r2, []), m2)) = W) := by
        have := HW.out
        unfold behind at this
        rw [HSc.out, if_neg (show ¬ k < S.data.toList.length from hks), hr2, hm2] at this
        exact this
      have HR2 := Lib.hid hr2
      have HM2 := Lib.hid hm2
      have HD := Lib.hid hd
      clear hd hr2 hm2 HW
      go_wp2_with fail
      refine HD.out.mono ?_
      intro e w3 hd
      obtain ⟨rfl, h3, k3⟩ := Done.lit hd HR2 HM2
      have hR3 := HRD.out w3 k3
      have hK3 : Keeps B L w w3 := hK2.trans (k3.fewer HSUB.out)
      clear hd k3 HD
      by_cases hr : r2 = 0
      · subst hr
        have hW := HW2.out
        rw [if_pos rfl] at hW
        clear HW2
        subst hW
        go_wp2
        go_ret3
        have hbn : Below w3.heap.size w3 (w3.alloc (.cells #[.pointer (some ⟨p, 0, none⟩), .int .i64 n] 97)) := (Below.refl _ _).alloc (Nat.le_refl _) _
        exact .inr ⟨rfl, _, A, c, rfl, heap_alloc_new w3 _, (hR3.below hbn).more hbn.size, (((h3.fewer HSUB.out).beside hbn (Nat.le_refl _) (by simp)).more (by omega)), hK3.trans (Keeps.of_below hbn), hK3.size⟩
      · have hri : (r2 != 0) = true := bne_iff_ne.2 hr
        have hW := HW2.out
        rw [if_neg hr] at hW
        clear HW2
        subst hW
        go_wp2
        go_ret3
        exact .inl ⟨hr, rfl, ((h3.fewer HSUB.out).more (by omega)), hK3⟩
  · have hri : (r1 != 0) = true := bne_iff_ne.2 hr
    have hW := HW0.out
    rw [if_neg hr] at hW
    clear HW0
    subst hW
    go_wp2
    go_ret3
    exact .inl ⟨hr, rfl, hH.more (by omega), hK⟩

theorem open_any (n : Int) (h : Has B L w p N m) (ht : Tab w) (hgB : 0 < B) (hN : N < 900000) :
    Calls Tryd.prog 19 #[.pointer (some ⟨p, 0, none⟩), .int .i64 n] w (Opened B L w p (N + 2) n (wopen m n)) := by
  by_cases hn : 0 ≤ n ∧ n < 16
  · cases hoff : m.off with
    | true =>
      refine (open_off n h hn hoff).mono ?_
      rintro e w' ⟨rfl, hb⟩
      rw [wopen_off hn hoff]
      exact .inl ⟨show (10 : Int) ≠ 0 by decide, rfl, (h.below hb).more (by omega), Keeps.of_below hb⟩
    | false =>
      cases hhas : m.has n with
      | true => exact open_old n h ht hgB hN hn hoff hhas
      | false => exact open_new n h ht hgB hN hn hoff hhas
  · refine (open_arg _ n w hn).mono ?_
    rintro e w' ⟨rfl, rfl⟩
    rw [wopen_arg hn]
    exact .inl ⟨show (1 : Int) ≠ 0 by decide, rfl, h.more (by omega), Keeps.refl _ _ _⟩
end
end Go.Proofs.YtamncdpeklbhlaaDoor.LogB
set_option linter.unusedVariables false
set_option linter.unusedSimpArgs false
namespace Go.Proofs.YtamncdpeklbhlaaDoor.Open
open Go.RowKit Go.Proofs.YtamncdpeklbhlaaDoor.Kit Go.Proofs.YtamncdpeklbhlaaDoor.Blocks Go.Proofs.YtamncdpeklbhlaaDoor.Rlog Go.Proofs.YtamncdpeklbhlaaDoor.Sto Go.Proofs.YtamncdpeklbhlaaDoor.Sav Go.Proofs.YtamncdpeklbhlaaDoor.Ents Go.Proofs.YtamncdpeklbhlaaDoor.Hold Go.Proofs.YtamncdpeklbhlaaDoor.Few Go.Proofs.YtamncdpeklbhlaaDoor.Ahe Go.Proofs.YtamncdpeklbhlaaDoor.Take Go.Proofs.YtamncdpeklbhlaaDoor.Del Go.Proofs.YtamncdpeklbhlaaDoor.Save Go.Proofs.YtamncdpeklbhlaaDoor.Anew Go.Proofs.YtamncdpeklbhlaaDoor.Model Go.Proofs.YtamncdpeklbhlaaDoor.Ops Go.Proofs.YtamncdpeklbhlaaDoor.ScA Go.Proofs.YtamncdpeklbhlaaDoor.FrA Go.Proofs.YtamncdpeklbhlaaDoor.SumB Go.Proofs.YtamncdpeklbhlaaDoor.Wal
open Go.Proofs.YtamncdpeklbhlaaDoor.PckWalkH (str)
open Go.Proofs.YtamncdpeklbhlaaDoor.Log (LogAt wopen wappend wanew)
open Go.Proofs.YtamncdpeklbhlaaDoor.LogB (open_any)
open Go.Proofs.YtamncdpeklbhlaaDoor.Quorum (sound)
open Go.Proofs.YtamncdpeklbhlaaDoor.Model.M (all)

theorem unframe_short {l x : List UInt8} (h : unframe l = some x) : x.length ≤ 65536 := by
  unfold unframe at h
  split at h
  · cases h
  · split at h
    · rename_i hc
      cases h
      rw [List.length_take]
      omega
    · cases h
theorem scan_short (l : List UInt8) : ∀ x ∈ (scan l).1, x.length ≤ 65536 := by
  induction hn : l.length using Nat.strongRecOn generalizing l with
  | _ n ih =>
    by_cases h0 : Stuff.zl l < l.length
    · cases h : unframe (l.take (Stuff.zl l)) with
      | none => rw [scan_bad l h]; simp
      | some x =>
        rw [scan_good l x h0 h]
        intro y hy
        rcases List.mem_cons.1 hy with rfl | hy
        · exact unframe_short h
        · exact ih (l.drop (Stuff.zl l + 1)).length (by simp only [List.length_drop]; omega) _ rfl y hy
    · rw [scan_end l (by have := Stuff.zl_le l; omega)]; simp
structure Few (l : List (List UInt8)) : Prop where
  len : l.length ≤ 1048576
  each : ∀ x ∈ l, x.length ≤ 65536
theorem few_nil : Few [] := ⟨by decide, by simp⟩
theorem few_behind (m : M) (n : Int) (s : List UInt8) (hs : s.length ≤ 1048576) : Few (Log.behind m n s).1.2 := by
  have h : Few (scan s).1 := ⟨Nat.le_trans (scan_many s) hs, scan_short s⟩
  unfold Log.behind
  split
  · split
    · exact h
    · exact few_nil
  · split
    · exact h
    · exact few_nil
theorem wopen_few {m : M} (g : Fine m) (n : Int) : Few (wopen m n).1.2 := by
  unfold wopen
  split
  · exact few_nil
  split
  · exact few_nil
  split
  · split
    · exact few_behind _ _ _ (by simp)
    · exact few_nil
  · exact few_behind _ _ _ (all_le g n.toNat)

theorem results_tct {P : Program} {fn : Func} {a p u : Tmp} {ty : TypeId} (h : fn.results = #[.tmp a, .cell p ty, .tmp u]) (tmps : Array Value) (w : World) (g : Nat) (t : TypeId) (cs : Array Value) (fr : Nat × Nat) (d : TypeDesc)
    (hp : tmps.getD p undef = .pointer (some ⟨g, 0, none⟩)) (hg : w.heap[g]? = some (.cells cs t fr))
    (hu : P.underlying ty = some d) (hd : (match d with | .struct _ | .array _ _ => true | _ => false) = true) (hi : (P.info? ty).map (·.size) = some cs.size) :
    (results fn tmps).run P w = .ok (.tuple #[tmps.getD a undef, .agg cs, tmps.getD u undef]) w := by
  have hp' : tmps[p]?.getD undef = .pointer (some ⟨g, 0, none⟩) := by simpa using hp
  simp [results, h, hp', asAddr, Result.andThen, run_loadVar_row w g t ty cs fr d hg hu hd hi]

/-- The state that nothing says. -/
def zeroS : Value := .agg #[.int .u64 0, .int .i64 0, .int .u64 0, .int .u64 0, .int .u64 0, .string ⟨#[]⟩, .slice none 0 0]
/-- What Open leaves. -/
def OpenS (B : Nat) (L : List Nat) (w : World) (p N : Nat) (n : Int) (r : (Int × Sta) × M) (e : Ending) (w' : World) : Prop :=
  (r.1.1 ≠ 0 ∧ e = .returned (.tuple #[.pointer none, zeroS, .int .i64 r.1.1]) ∧ Has B L w' p N r.2 ∧ Keeps B L w w') ∨
  (r.1.1 = 0 ∧ ∃ t b L' v A c, e = .returned (.tuple #[.pointer (some ⟨t, 0, none⟩), staV r.1.2 A r.1.2.es.length c, .int .i64 0]) ∧ SAt B L w' t b p N n r.2 r.1.2 L' v ∧ RE w' w'.heap.size A r.1.2.es.length r.1.2.es ∧ Keeps B L w w' ∧ w.heap.size ≤ t ∧ r.1.2.es.length ≤ 1048576)
/-- The zero state is handed back. -/
theorem refuse {B : Nat} {L : List Nat} {w w2 : World} {p N q : Nat} {m' : M} (hz : w2.heap[q]? = some (.cells #[.int .u64 0, .int .i64 0, .int .u64 0, .int .u64 0, .int .u64 0, .string ⟨#[]⟩, .slice none 0 0] 37 (0, 0))) (hd : Has B (q :: L) w2 p N m') (hk : Keeps B (q :: L) w w2) (hq : w.heap.size ≤ q) (hB : B ≤ w.heap.size) (hL : ∀ x ∈ L, x < w.heap.size) :
    (((((((w2.setCell ⟨q, 0, none⟩ (.int .u64 0)).setCell ⟨q, 1, none⟩ (.int .i64 0)).setCell ⟨q, 2, none⟩ (.int .u64 0)).setCell ⟨q, 3, none⟩ (.int .u64 0)).setCell ⟨q, 4, none⟩ (.int .u64 0)).setCell ⟨q, 5, none⟩ (.string ⟨#[]⟩)).setCell ⟨q, 6, none⟩ (.slice none 0 0)).heap[q]? = some (.cells #[.int .u64 0, .int .i64 0, .int .u64 0, .int .u64 0, .int .u64 0, .string ⟨#[]⟩, .slice none 0 0] 37 (0, 0)) ∧
    Has B L (((((((w2.setCell ⟨q, 0, none⟩ (.int .u64 0)).setCell ⟨q, 1, none⟩ (.int .i64 0)).setCell ⟨q, 2, none⟩ (.int .u64 0)).setCell ⟨q, 3, none⟩ (.int .u64 0)).setCell ⟨q, 4, none⟩ (.int .u64 0)).setCell ⟨q, 5, none⟩ (.string ⟨#[]⟩)).setCell ⟨q, 6, none⟩ (.slice none 0 0)) p N m' ∧
    Keeps B L w (((((((w2.setCell ⟨q, 0, none⟩ (.int .u64 0)).setCell ⟨q, 1, none⟩ (.int .i64 0)).setCell ⟨q, 2, none⟩ (.int .u64 0)).setCell ⟨q, 3, none⟩ (.int .u64 0)).setCell ⟨q, 4, none⟩ (.int .u64 0)).setCell ⟨q, 5, none⟩ (.string ⟨#[]⟩)).setCell ⟨q, 6, none⟩ (.slice none 0 0)) := by
  obtain ⟨h1, h2⟩ := set7 hz rfl (.int .u64 0) (.int .i64 0) (.int .u64 0) (.int .u64 0) (.int .u64 0) (.string ⟨#[]⟩) (.slice none 0 0)
  refine ⟨h1, (has_only hd h2 fun x hx => .inl (by rw [hx]; simp)).fewer fun x hx => List.mem_cons_of_mem _ hx, (hk.fewer fun x hx => List.mem_cons_of_mem _ hx).trans (h2.mono fun x _ hx => ⟨by rw [hx]; omega, fun e => ?_⟩)⟩
  rw [hx] at e
  have := hL q e
  omega
section
variable {B : Nat} {L : List Nat} {w : World} {p N : Nat} {m : M}
set_option maxRecDepth 100000 in
theorem open_mad (h : Has B L w p N m) (n : Int) (c : Nat) (hc : c < 18446744073709551616) (hs : sound c = false) :
    Calls Tryd.prog 9 #[.pointer (some ⟨p, 0, none⟩), .int .i64 n, .int .u64 (c : Int)] w (OpenS B L w p N n ((1, first c), m)) := by
  have hba : Below w.heap.size w (w.alloc (.cells #[.int .u64 0, .int .i64 0, .int .u64 0, .int .u64 0, .int .u64 0, .string ⟨#[]⟩, .slice none 0 0] 37)) := (Below.refl _ _).alloc (Nat.le_refl _) _
  have HCZ := Lib.hid (heap_alloc_new w (.cells #[.int .u64 0, .int .i64 0, .int .u64 0, .int .u64 0, .int .u64 0, .string ⟨#[]⟩, .slice none 0 0] 37))
  have hsd := QuoWalkA.sound_any c hc
  rw [hs] at hsd
  have HSD := Lib.hid hsd
  have HH := Lib.hid h
  clear hsd h hs
  go_enter Tryd.func9, Tryd.ntmps9
  go_wp2_with fail
  refine (HSD.out _).mono ?_
  rintro e w1 ⟨rfl, rfl⟩
  go_wp2_with fail
  refine bodyPost_ret (results_tct (a := 6) (p := 7) (u := 8) (ty := 37) rfl _ _ w.heap.size 37 _ (0, 0) _ rfl HCZ.out Tryd.underlying37 rfl (by kernel_rfl)) rfl ?_
  exact .inl ⟨by show (1 : Int) ≠ 0; decide, rfl, HH.out.below hba, Keeps.of_below hba⟩
set_option maxRecDepth 100000 in
set_option maxHeartbeats 2000000 in
theorem open_bad (h : Has B L w p N m) (htab : Tab w) (hgB : 0 < B) (hN : N < 900000) (n : Int) (c : Nat) (hc : c < 18446744073709551616) (hs : sound c = true) {r : Int} {rl : List (List UInt8)} {m' : M} (hw : Hid (wopen m n = ((r, rl), m'))) (hr : r ≠ 0) :
    Calls Tryd.prog 9 #[.pointer (some ⟨p, 0, none⟩), .int .i64 n, .int .u64 (c : Int)] w (OpenS B L w p (N + 2) n ((r, first c), m')) := by
  have hba : Below w.heap.size w (w.alloc (.cells #[.int .u64 0, .int .i64 0, .int .u64 0, .int .u64 0, .int .u64 0, .string ⟨#[]⟩, .slice none 0 0] 37)) := (Below.refl _ _).alloc (Nat.le_refl _) _
  have hcz := heap_alloc_new w (.cells #[.int .u64 0, .int .i64 0, .int .u64 0, .int .u64 0, .int .u64 0, .string ⟨#[]⟩, .slice none 0 0] 37)
  obtain ⟨w0, hw0⟩ : ∃ w0, w.alloc (.cells #[.int .u64 0, .int .i64 0, .int .u64 0, .int .u64 0, .int .u64 0, .string ⟨#[]⟩, .slice none 0 0] 37) = w0 := ⟨_, rfl⟩
  rw [hw0] at hba hcz
  have hlt := lt_at hcz
  have hH := h.beside hba (Nat.le_refl _) hlt
  have hop := open_any n hH (Tab.below htab hgB (hba.mono h.low)) hgB hN
  rw [hw.out] at hop
  have hsd := QuoWalkA.sound_any c hc
  rw [hs] at hsd
  have HSD := Lib.hid hsd
  have HH := Lib.hid h
  have HOP := Lib.hid hop
  have HW0 := Lib.hid hw0
  have HCZ := Lib.hid hcz
  have hri : (r != 0) = true := bne_iff_ne.2 hr
  clear hsd h hs hop hH hw0 hcz hw
  go_enter Tryd.func9, Tryd.ntmps9
  go_wp2_with fail
  rw [HW0.out]
  refine (HSD.out _).mono ?_
  rintro e w1 ⟨rfl, rfl⟩
  go_wp2_with fail
  refine HOP.out.mono ?_
  intro e w2 hop
  rcases hop with ⟨_, rfl, hd, hk⟩ | ⟨h0, _⟩
  · have hcz2 := hk.heap HCZ.out (.inr (by simp))
    have z0 : w2.cell? ⟨w.heap.size, 0, none⟩ = some (.int .u64 0) := by rw [cell_at hcz2]; rfl
    have z1 : w2.cell? ⟨w.heap.size, 1, none⟩ = some (.int .i64 0) := by rw [cell_at hcz2]; rfl
    have z2 : w2.cell? ⟨w.heap.size, 2, none⟩ = some (.int .u64 0) := by rw [cell_at hcz2]; rfl
    have z3 : w2.cell? ⟨w.heap.size, 3, none⟩ = some (.int .u64 0) := by rw [cell_at hcz2]; rfl
    have z4 : w2.cell? ⟨w.heap.size, 4, none⟩ = some (.int .u64 0) := by rw [cell_at hcz2]; rfl
    have z5 : w2.cell? ⟨w.heap.size, 5, none⟩ = some (.string ⟨#[]⟩) := by rw [cell_at hcz2]; rfl
    have z6 : w2.cell? ⟨w.heap.size, 6, none⟩ = some (.slice none 0 0) := by rw [cell_at hcz2]; rfl
    have g0 := free_at hcz2 0
    have g1 := free_at hcz2 1
    have g2 := free_at hcz2 2
    have g3 := free_at hcz2 3
    have g4 := free_at hcz2 4
    have g5 := free_at hcz2 5
    have g6 := free_at hcz2 6
    have hlt2 := lt_at hcz2
    have HZ2 := Lib.hid hcz2
    have HD := Lib.hid hd
    have HK := Lib.hid hk
    clear hcz2 hd hk
    obtain ⟨q1, q2, q3⟩ := refuse (w := w) HZ2.out HD.out ((Keeps.of_below hba).trans HK.out) (Nat.le_refl _) HH.out.low HH.out.old
    have Q1 := Lib.hid q1
    have Q2 := Lib.hid q2
    have Q3 := Lib.hid q3
    clear q1 q2 q3
    go_wp2_with fail
    refine bodyPost_ret (results_tct (a := 6) (p := 7) (u := 8) (ty := 37) rfl _ _ w.heap.size 37 _ (0, 0) _ rfl Q1.out Tryd.underlying37 rfl (by kernel_rfl)) rfl ?_
    exact .inl ⟨hr, rfl, Q2.out, Q3.out⟩
  · exact absurd h0 hr
theorem has_plus {B : Nat} {L : List Nat} {w w' : World} {p N : Nat} {m : M} (h : Has B L w p N m) (k : Below w.heap.size w w') (S : List Nat) (hS : ∀ y ∈ S, w.heap.size ≤ y ∧ y < w'.heap.size) : Has B (S ++ L) w' p N m := by
  obtain ⟨A, c, mb, x, hD, hF⟩ := h.disk
  refine ⟨h.fine, Nat.le_trans h.low k.size, fun b hb => ?_, A, c, mb, x, hD.below k, fun q hq => ⟨(hF q hq).1, fun e => ?_⟩⟩
  · rcases List.mem_append.1 hb with hb | hb
    · exact (hS b hb).2
    · exact Nat.lt_of_lt_of_le (h.old b hb) k.size
  · rcases List.mem_append.1 e with e | e
    · have := hD.foot_lt hq
      have := (hS q e).1
      omega
    · exact (hF q hq).2 e
theorem Few.Gives.reads' {w' : World} {base n : Nat} {l : List Ent} {A : Option Addr} {c : Nat} (h : w'.ownsRow base 55 4 (.slice A n c) n (ecells l)) : RE w' w'.heap.size A n l := by
  obtain ⟨A', c', he, _, _, hr⟩ := own_form h
  cases he
  exact hr
theorem makes_fail {s st : Sta} {rl : List (List UInt8)} {j : Nat} {x : List UInt8} (hj : rl[j]? = some x) (h : makes s (rl.take j) = some st) (hx : (say st (str x)).2 = false) : makes s rl = none := by
  obtain ⟨hl, he⟩ := List.getElem?_eq_some_iff.1 hj
  have e : rl = rl.take j ++ x :: rl.drop (j + 1) := by
    rw [← he, ← List.drop_eq_getElem_cons hl, List.take_append_drop]
  rw [e, makes_append, h]
  simp only [Option.bind_some, makes]
  rw [if_neg (by rw [hx]; decide)]
theorem makes_next {s st : Sta} {rl : List (List UInt8)} {j : Nat} {x : List UInt8} (hj : rl[j]? = some x) (h : makes s (rl.take j) = some st) (hx : (say st (str x)).2 = true) : makes s (rl.take (j + 1)) = some (say st (str x)).1 := by
  obtain ⟨hl, he⟩ := List.getElem?_eq_some_iff.1 hj
  rw [List.take_succ_eq_append_getElem hl, he, makes_append, h]
  simp only [Option.bind_some, makes]
  rw [if_pos hx]
set_option maxRecDepth 100000 in
set_option maxHeartbeats 8000000 in
theorem open_good (h : Has B L w p N m) (htab : Tab w) (hgB : 0 < B) (hN : N < 900000) (n : Int) (c : Nat) (hc : c < 18446744073709551616) (hs : sound c = true) {rl : List (List UInt8)} {m' : M} (hw : Hid (wopen m n = ((0, rl), m'))) (hfew : Few rl) (res : (Int × Sta) × M)
    (hres : Hid (res = match said c rl with | none => ((2, first c), m') | some s => ((0, s), m'))) :
    Calls Tryd.prog 9 #[.pointer (some ⟨p, 0, none⟩), .int .i64 n, .int .u64 (c : Int)] w (OpenS B L w p (N + 2) n res) := by
  have hba : Below w.heap.size w (w.alloc (.cells #[.int .u64 0, .int .i64 0, .int .u64 0, .int .u64 0, .int .u64 0, .string ⟨#[]⟩, .slice none 0 0] 37)) := (Below.refl _ _).alloc (Nat.le_refl _) _
  have hcz := heap_alloc_new w (.cells #[.int .u64 0, .int .i64 0, .int .u64 0, .int .u64 0, .int .u64 0, .string ⟨#[]⟩, .slice none 0 0] 37)
  obtain ⟨w0, hw0⟩ : ∃ w0, w.alloc (.cells #[.int .u64 0, .int .i64 0, .int .u64 0, .int .u64 0, .int .u64 0, .string ⟨#[]⟩, .slice none 0 0] 37) = w0 := ⟨_, rfl⟩
  rw [hw0] at hba hcz
  have hlt := lt_at hcz
  have hH := h.beside hba (Nat.le_refl _) hlt
  have hop := open_any n hH (Tab.below htab hgB (hba.mono h.low)) hgB hN
  rw [hw.out] at hop
  have hsd := QuoWalkA.sound_any c hc
  rw [hs] at hsd
  have HSD := Lib.hid hsd
  have HH := Lib.hid h
  have HOP := Lib.hid hop
  have HW0 := Lib.hid hw0
  have HCZ := Lib.hid hcz
  have HBA := Lib.hid hba
  have HFE := Lib.hid hfew
  have HSO := Lib.hid hs
  clear hsd h hs hop hH hw0 hcz hw hba hfew
  go_enter Tryd.func9, Tryd.ntmps9
  go_wp2_with fail
  rw [HW0.out]
  refine (HSD.out _).mono ?_
  rintro e w1 ⟨rfl, rfl⟩
  go_wp2_with fail
  refine HOP.out.mono ?_
  intro e w2 hop
  rcases hop with ⟨h0, _⟩ | ⟨_, b, A1, c1, rfl, hlog, hrs, hd, hk, hbb⟩
  · exact absurd rfl h0
  · simp only at hlog hrs hd hk
    obtain ⟨k1, hk1⟩ : ∃ k1, rl.length = k1 := ⟨_, rfl⟩
    rw [hk1] at hrs ⊢
    have hk1b : k1 ≤ 1048576 := by rw [← hk1]; exact HFE.out.len
    have HK1 := Lib.hid hk1
    have HLOG := Lib.hid hlog
    have HRS := Lib.hid hrs
    have HD := Lib.hid hd
    have HK : Hid (Keeps B (w.heap.size :: L) w w2) := (Keeps.of_below HBA.out).trans hk
    have hcz2 := hk.heap HCZ.out (.inr (by simp))
    have HZ2 := Lib.hid hcz2
    have hl12 : Below w2.heap.size w2 (w2.alloc (.cells #[.int .u64 0, .int .i64 (-1), .int .u64 0, .int .u64 0, .int .u64 (c : Int), .string ⟨#[]⟩, .slice none 0 0] 37)) := (Below.refl _ _).alloc (Nat.le_refl _) _
    have hhold : Hold 37 w2.heap.size (w2.alloc (.cells #[.int .u64 0, .int .i64 (-1), .int .u64 0, .int .u64 0, .int .u64 (c : Int), .string ⟨#[]⟩, .slice none 0 0] 37)) w2.heap.size (pre (first c)) (.slice none 0 0) (first c).es := ⟨Nat.le_refl _, heap_alloc_new w2 _, World.ownsRow_nil _ _ _ _, by simp [Value.ownBlock]⟩
    have HHO := Lib.hid hhold
    have HL12 := Lib.hid hl12
    have hltp : w2.heap.size < (w2.alloc (.cells #[.int .u64 0, .int .i64 (-1), .int .u64 0, .int .u64 0, .int .u64 (c : Int), .string ⟨#[]⟩, .slice none 0 0] 37)).heap.size := hhold.lt
    clear hlog hrs hd hk hcz2 hhold hl12 hk1
    go_wp2_with fail
    go_loopw [37] (fun i wr => ∃ (j : Nat) (st : Sta) (v : Value), j ≤ k1 ∧ i = .int .i64 (j : Int) ∧ Hold 37 w2.heap.size wr w2.heap.size (pre st) v st.es ∧ Hid (makes (first c) (rl.take j) = some st) ∧ Below w2.heap.size w2 wr) (fun i _ => k1 - (intOf i).toNat)
    case atStart => exact ⟨0, first c, _, Nat.zero_le _, rfl, HHO.out, Lib.hid rfl, HL12.out⟩
    case round =>
      obtain ⟨j, st, v, hj, rfl, hhold, HMK, hbel⟩ := hrel
      have hstl := makes_len _ HMK.out
      have hstb := makes_b _ (first_b hc) (fun x hx => by have := HFE.out.each x (List.mem_of_mem_take hx); omega) HMK.out
      have hstn : st.es.length ≤ 1048576 := by
        rw [List.length_take] at hstl
        have : (first c).es.length = 0 := rfl
        omega
      by_cases hjn : j < k1
      · have hjl : j < rl.length := by rw [HK1.out]; exact hjn
        obtain ⟨bx, ox, rfl, hbx, hcx⟩ := Reads.text HRS.out hjn hjl
        have hcr : wr.cell? ⟨bx, ox + j, none⟩ = some (.string (str rl[j])) := (hbel.cell (p := ⟨bx, ox + j, none⟩) hbx).trans hcx
        have hgj : rl[j]? = some rl[j] := List.getElem?_eq_getElem hjl
        have hxs : (str rl[j]).size ≤ 65536 := by rw [PckWalkH.str_size]; exact HFE.out.each _ (List.getElem_mem hjl)
        obtain ⟨x, hx⟩ : ∃ x, rl[j] = x := ⟨_, rfl⟩
        rw [hx] at hcr hgj hxs
        have htk := take_any hhold (str x) (by omega) (by omega)
        obtain ⟨q, hq⟩ : ∃ q, (say st (str x)).2 = q := ⟨_, rfl⟩
        unfold Took at htk
        rw [hq] at htk
        have HTK := Lib.hid htk
        have HGJ := Lib.hid hgj
        have HQ := Lib.hid hq
        obtain ⟨S, hS⟩ : ∃ S, str x = S := ⟨_, rfl⟩
        have HS := Lib.hid hS
        rw [hS] at hcr HTK
        have hltp2 := hhold.lt
        clear htk hgj hq hx hcx hxs hS hhold
        go_wp2_with fail
        refine HTK.out.mono ?_
        rintro e w5 ⟨rfl, v', hh5, hb5⟩
        have hB5 := hbel.trans hb5
        cases q with
        | true =>
          have HNX := Lib.hid (makes_next HGJ.out HMK.out HQ.out)
          rw [HS.out] at HNX
          have HH5 := Lib.hid hh5
          clear hh5 hb5
          go_wp2
          go_roundw
          case rel => exact ⟨j + 1, _, v', by omega, by go_num, HH5.out, HNX, hB5⟩
          case measure => simp [intOf]; omega
        | false =>
          have HNO : Hid (said c rl = none) := by
            have : said c rl = none := by unfold said; rw [makes_fail HGJ.out HMK.out HQ.out]
            exact this
          clear hh5 hb5
          have hczx := (hB5.block w.heap.size (lt_at HZ2.out)).trans HZ2.out
          have z0 : w5.cell? ⟨w.heap.size, 0, none⟩ = some (.int .u64 0) := by rw [cell_at hczx]; rfl
          have g0 := free_at hczx 0
          have z1 : w5.cell? ⟨w.heap.size, 1, none⟩ = some (.int .i64 0) := by rw [cell_at hczx]; rfl
          have g1 := free_at hczx 1
          have z2 : w5.cell? ⟨w.heap.size, 2, none⟩ = some (.int .u64 0) := by rw [cell_at hczx]; rfl
          have g2 := free_at hczx 2
          have z3 : w5.cell? ⟨w.heap.size, 3, none⟩ = some (.int .u64 0) := by rw [cell_at hczx]; rfl
          have g3 := free_at hczx 3
          have z4 : w5.cell? ⟨w.heap.size, 4, none⟩ = some (.int .u64 0) := by rw [cell_at hczx]; rfl
          have g4 := free_at hczx 4
          have z5 : w5.cell? ⟨w.heap.size, 5, none⟩ = some (.string ⟨#[]⟩) := by rw [cell_at hczx]; rfl
          have g5 := free_at hczx 5
          have z6 : w5.cell? ⟨w.heap.size, 6, none⟩ = some (.slice none 0 0) := by rw [cell_at hczx]; rfl
          have g6 := free_at hczx 6
          have hltz := lt_at hczx
          have HZX := Lib.hid hczx
          obtain ⟨q1, q2, q3⟩ := refuse (w := w) HZX.out ((HD.out.below hB5).fewer (L' := w.heap.size :: L) fun x hx => List.mem_cons_of_mem _ hx) (HK.out.trans (Keeps.of_below hB5)) (Nat.le_refl _) HH.out.low HH.out.old
          have Q1 := Lib.hid q1
          have Q2 := Lib.hid q2
          have Q3 := Lib.hid q3
          obtain rfl : res = ((2, first c), m') := by rw [hres.out, HNO.out]
          clear q1 q2 q3 hres hczx
          go_wp2_with fail
          refine bodyPost_ret (results_tct (a := 6) (p := 7) (u := 8) (ty := 37) rfl _ _ w.heap.size 37 _ (0, 0) _ rfl Q1.out Tryd.underlying37 rfl (by kernel_rfl)) rfl ?_
          exact .inl ⟨by show (2 : Int) ≠ 0; decide, rfl, Q2.out, Q3.out⟩
      · obtain rfl : j = k1 := by omega
        have hmk : makes (first c) rl = some st := by
          have := HMK.out
          rwa [List.take_of_length_le (by rw [HK1.out]; exact Nat.le_refl _)] at this
        obtain ⟨Av, cv, hv, _, _, hrv⟩ := hhold.form
        subst hv
        have hist := isState_any st hstb Av st.es.length cv wr hrv (by omega)
        obtain ⟨q, hq⟩ : ∃ q, right st = q := ⟨_, rfl⟩
        rw [hq] at hist
        have e0 := hhold.at_ 0 rfl
        have e1 := hhold.at_ 1 rfl
        have e2 := hhold.at_ 2 rfl
        have e3 := hhold.at_ 3 rfl
        have e4 := hhold.at_ 4 rfl
        have e5 := hhold.at_ 5 rfl
        have e6 := hhold.at_ 6 rfl
        have hltp3 := hhold.lt
        have HIS := Lib.hid hist
        have HHD := Lib.hid hhold
        have HQ := Lib.hid hq
        have HMK2 := Lib.hid hmk
        have HSB := Lib.hid hstb
        have HHrv := Lib.hid hrv
        unfold staV at HIS
        clear hist hhold hmk hstb hrv hq
        go_wp2_with fail
        refine HIS.out.mono ?_
        rintro e w5 ⟨rfl, hb5⟩
        have hB5 := hbel.trans (hb5.mono hbel.size)
        cases q with
        | false =>
          have HNO : Hid (said c rl = none) := by
            have : said c rl = none := by unfold said; rw [HMK2.out]; simp only; rw [if_neg (by rw [HQ.out]; decide)]
            exact this
          clear hb5
          have hczx := (hB5.block w.heap.size (lt_at HZ2.out)).trans HZ2.out
          have z0 : w5.cell? ⟨w.heap.size, 0, none⟩ = some (.int .u64 0) := by rw [cell_at hczx]; rfl
          have g0 := free_at hczx 0
          have z1 : w5.cell? ⟨w.heap.size, 1, none⟩ = some (.int .i64 0) := by rw [cell_at hczx]; rfl
          have g1 := free_at hczx 1
          have z2 : w5.cell? ⟨w.heap.size, 2, none⟩ = some (.int .u64 0) := by rw [cell_at hczx]; rfl
          have g2 := free_at hczx 2
          have z3 : w5.cell? ⟨w.heap.size, 3, none⟩ = some (.int .u64 0) := by rw [cell_at hczx]; rfl
          have g3 := free_at hczx 3
          have z4 : w5.cell? ⟨w.heap.size, 4, none⟩ = some (.int .u64 0) := by rw [cell_at hczx]; rfl
          have g4 := free_at hczx 4
          have z5 : w5.cell? ⟨w.heap.size, 5, none⟩ = some (.string ⟨#[]⟩) := by rw [cell_at hczx]; rfl
          have g5 := free_at hczx 5
          have z6 : w5.cell? ⟨w.heap.size, 6, none⟩ = some (.slice none 0 0) := by rw [cell_at hczx]; rfl
          have g6 := free_at hczx 6
          have hltz := lt_at hczx
          have HZX := Lib.hid hczx
          obtain ⟨q1, q2, q3⟩ := refuse (w := w) HZX.out ((HD.out.below hB5).fewer (L' := w.heap.size :: L) fun x hx => List.mem_cons_of_mem _ hx) (HK.out.trans (Keeps.of_below hB5)) (Nat.le_refl _) HH.out.low HH.out.old
          have Q1 := Lib.hid q1
          have Q2 := Lib.hid q2
          have Q3 := Lib.hid q3
          obtain rfl : res = ((2, first c), m') := by rw [hres.out, HNO.out]
          clear q1 q2 q3 hres hczx
          go_wp2_with fail
          refine bodyPost_ret (results_tct (a := 6) (p := 7) (u := 8) (ty := 37) rfl _ _ w.heap.size 37 _ (0, 0) _ rfl Q1.out Tryd.underlying37 rfl (by kernel_rfl)) rfl ?_
          exact .inl ⟨by show (2 : Int) ≠ 0; decide, rfl, Q2.out, Q3.out⟩
        | true =>
          obtain rfl : res = ((0, st), m') := by
            have : said c rl = some st := by unfold said; rw [HMK2.out]; simp only; rw [if_pos HQ.out]
            rw [hres.out, this]
          clear hres
          have h5 := HHD.out.below hb5
          have c0 := h5.at_ 0 rfl
          have c1' := h5.at_ 1 rfl
          have c2 := h5.at_ 2 rfl
          have c3 := h5.at_ 3 rfl
          have c4 := h5.at_ 4 rfl
          have c5 := h5.at_ 5 rfl
          have c6 := h5.at_ 6 rfl
          have hltp5 := h5.lt
          have hb6 : Below w5.heap.size w5 (w5.alloc (.cells #[.pointer (some ⟨b, 0, none⟩), .int .u64 (st.term : Int), .int .i64 st.vote, .int .u64 (st.snap.idx : Int), .int .u64 (st.snap.term : Int), .int .u64 (st.snap.cfg : Int), .string st.snap.data, .slice Av st.es.length cv] 67)) := (Below.refl _ _).alloc (Nat.le_refl _) _
          have hcs := heap_alloc_new w5 (.cells #[.pointer (some ⟨b, 0, none⟩), .int .u64 (st.term : Int), .int .i64 st.vote, .int .u64 (st.snap.idx : Int), .int .u64 (st.snap.term : Int), .int .u64 (st.snap.cfg : Int), .string st.snap.data, .slice Av st.es.length cv] 67)
          obtain ⟨w6, hw6⟩ : ∃ w6, w5.alloc (.cells #[.pointer (some ⟨b, 0, none⟩), .int .u64 (st.term : Int), .int .i64 st.vote, .int .u64 (st.snap.idx : Int), .int .u64 (st.snap.term : Int), .int .u64 (st.snap.cfg : Int), .string st.snap.data, .slice Av st.es.length cv] 67) = w6 := ⟨_, rfl⟩
          rw [hw6] at hb6 hcs
          have hB2w : B ≤ w2.heap.size := Nat.le_trans HH.out.low HK.out.size
          have hsto : StoAt B w6 w5.heap.size b st (.slice Av st.es.length cv) := ⟨Nat.le_trans hB2w hB5.size, hcs, own_base (h5.below hb6).own hB2w, fun e => by have := (h5.own.lt _ e).2; omega⟩
          have hsta := state_any hsto (by omega)
          unfold Few.Gives staV at hsta
          have HST := Lib.hid hsta
          have HSTO := Lib.hid hsto
          have HW6 := Lib.hid hw6
          have H5 := Lib.hid h5
          clear hsta hsto hw6 hcs h5
          go_wp2_with fail
          rw [HW6.out]
          refine HST.out.mono ?_
          rintro e w7 ⟨A7, c7, rfl, hown7, hb7⟩
          have hB7 : Below w2.heap.size w2 w7 := hB5.trans ((hb6.trans (hb7.mono hb6.size)).mono hB5.size)
          have hczx := (hB7.block w.heap.size (lt_at HZ2.out)).trans HZ2.out
          have z0 : w7.cell? ⟨w.heap.size, 0, none⟩ = some (.int .u64 0) := by rw [cell_at hczx]; rfl
          have g0 := free_at hczx 0
          have z1 : w7.cell? ⟨w.heap.size, 1, none⟩ = some (.int .i64 0) := by rw [cell_at hczx]; rfl
          have g1 := free_at hczx 1
          have z2 : w7.cell? ⟨w.heap.size, 2, none⟩ = some (.int .u64 0) := by rw [cell_at hczx]; rfl
          have g2 := free_at hczx 2
          have z3 : w7.cell? ⟨w.heap.size, 3, none⟩ = some (.int .u64 0) := by rw [cell_at hczx]; rfl
          have g3 := free_at hczx 3
          have z4 : w7.cell? ⟨w.heap.size, 4, none⟩ = some (.int .u64 0) := by rw [cell_at hczx]; rfl
          have g4 := free_at hczx 4
          have z5 : w7.cell? ⟨w.heap.size, 5, none⟩ = some (.string ⟨#[]⟩) := by rw [cell_at hczx]; rfl
          have g5 := free_at hczx 5
          have z6 : w7.cell? ⟨w.heap.size, 6, none⟩ = some (.slice none 0 0) := by rw [cell_at hczx]; rfl
          have g6 := free_at hczx 6
          have hltz := lt_at hczx
          have HZX := Lib.hid hczx
          have HO7 := Lib.hid hown7
          have HB7 := Lib.hid hB7
          have HB67 := Lib.hid hb7
          have HB56 := Lib.hid hb6
          clear hczx hown7 hB7 hb7 hb6
          go_wp2_with fail
          obtain ⟨hblk, o8⟩ := set7 HZX.out rfl (.int .u64 (st.term : Int)) (.int .i64 st.vote) (.int .u64 (st.snap.idx : Int)) (.int .u64 (st.snap.term : Int)) (.int .u64 (st.snap.cfg : Int)) (.string st.snap.data) (.slice A7 st.es.length c7)
          have hB2w : B ≤ w2.heap.size := Nat.le_trans HH.out.low HK.out.size
          have h57 : w5.heap.size < w7.heap.size := Nat.lt_of_lt_of_le HSTO.out.lt HB67.out.size
          have hlL : ∀ x ∈ L, x < w.heap.size := HH.out.old
          have hw2 : w.heap.size < w2.heap.size := lt_at HZ2.out
          have hbw : w.heap.size ≤ b := by have := HBA.out.size; omega
          have hvg : ∀ g, (Value.slice Av st.es.length cv).ownBlock = some g → w2.heap.size ≤ g ∧ g < w5.heap.size := fun g hg => H5.out.own.lt g hg
          obtain ⟨S, hS1, hS2, hS3⟩ : ∃ S : List Nat, w5.heap.size ∈ S ∧ (∀ g, (Value.slice Av st.es.length cv).ownBlock = some g → g ∈ S) ∧ ∀ y ∈ S, w2.heap.size ≤ y ∧ y < w7.heap.size := by
            have h5s := hB5.size
            cases hv : (Value.slice Av st.es.length cv).ownBlock with
            | none => exact ⟨[w5.heap.size], by simp, (fun g hg => by cases hg), fun y hy => by simp only [List.mem_singleton] at hy; omega⟩
            | some g =>
              have hg := hvg g hv
              exact ⟨[w5.heap.size, g], by simp, (fun g' hg' => by cases hg'; simp), fun y hy => by
                simp only [List.mem_cons, List.not_mem_nil, or_false] at hy
                rcases hy with rfl | rfl <;> omega⟩
          have hd7 := has_plus HD.out HB7.out S hS3
          have hd8 := has_only hd7 o8 fun x hx => .inl (by rw [hx]; simp)
          have hne : ∀ g, (Value.slice Av st.es.length cv).ownBlock = some g → g ≠ w.heap.size := fun g hg e => by have := (hvg g hg).1; omega
          have hsto8 := (HSTO.out.below HB67.out).keep o8 fun q hq e => by
            rcases hq with rfl | hq
            · have := hB5.size; omega
            · exact hne q hq e
          have hlog8 : LogAt _ b p n := o8.heap (HLOG.out.below HB7.out) (by have := HBA.out.size; have := lt_at HCZ.out; omega)
          have hrow8 := o8.own HO7.out fun q hq e => by have := (HO7.out.lt q hq).1; have := HSTO.out.lt; omega
          have hK8 : Keeps B L w _ := ((HK.out.trans (Keeps.of_below HB7.out)).fewer fun x hx => List.mem_cons_of_mem _ hx).trans (o8.mono fun x _ hx => ⟨by have := HH.out.low; omega, fun e => by have := hlL x e; omega⟩)
          have HF1 : Hid (SAt B L _ w5.heap.size b p (N + 2) n m' st (S ++ (b :: w.heap.size :: L)) (.slice Av st.es.length cv)) := ⟨hd8, hsto8, hlog8, by simp [hS1], by simp, fun g hg => by simp [hS2 g hg], fun x hx => by simp [hx], fun e => by have := hlL _ e; have := hB5.size; omega, fun e => by have := hlL _ e; omega, fun g hg e => by have := hlL _ e; have := (hvg g hg).1; omega, HSB.out, HQ.out⟩
          have HF2 := Lib.hid (Few.Gives.reads' hrow8)
          have HF3 := Lib.hid hK8
          have HF4 : Hid (w.heap.size ≤ w5.heap.size) := by show w.heap.size ≤ _; have := hB5.size; omega
          have HF5 := Lib.hid hblk
          refine bodyPost_ret (results_tct (a := 6) (p := 7) (u := 8) (ty := 37) rfl _ _ w.heap.size 37 _ (0, 0) _ rfl HF5.out Tryd.underlying37 rfl (by kernel_rfl)) rfl ?_
          exact .inr ⟨rfl, w5.heap.size, b, _, _, A7, c7, rfl, HF1.out, HF2.out, HF3.out, HF4.out, hstn⟩
/-- Any Open. -/
theorem open_sto (h : Has B L w p N m) (htab : Tab w) (hgB : 0 < B) (hN : N < 900000) (n : Int) (c : Nat) (hc : c < 18446744073709551616) :
    Calls Tryd.prog 9 #[.pointer (some ⟨p, 0, none⟩), .int .i64 n, .int .u64 (c : Int)] w (OpenS B L w p (N + 2) n (sopen m n c)) := by
  cases hs : sound c with
  | false =>
    have e : sopen m n c = ((1, first c), m) := by unfold sopen; rw [if_pos hs]
    rw [e]
    exact open_mad (h.more (by omega)) n c hc hs
  | true =>
    obtain ⟨⟨⟨r, rl⟩, m'⟩, hw⟩ : ∃ q, wopen m n = q := ⟨_, rfl⟩
    have hf := wopen_few h.fine n
    rw [hw] at hf
    by_cases hr : r = 0
    · subst hr
      refine open_good h htab hgB hN n c hc hs (Lib.hid hw) hf _ ?_
      have e : sopen m n c = match said c rl with | none => ((2, first c), m') | some s => ((0, s), m') := by unfold sopen; rw [if_neg (by rw [hs]; decide), hw]; rfl
      exact e
    · have e : sopen m n c = ((r, first c), m') := by unfold sopen; rw [if_neg (by rw [hs]; decide), hw]; exact if_neg hr
      rw [e]
      exact open_bad h htab hgB hN n c hc hs (Lib.hid hw) hr
end
end Go.Proofs.YtamncdpeklbhlaaDoor.Open
set_option linter.unusedVariables false
set_option linter.unusedSimpArgs false
namespace Go.Proofs.YtamncdpeklbhlaaDoor.Solo
open Go.Proofs.YtamncdpeklbhlaaDoor.Stuff Go.Proofs.YtamncdpeklbhlaaDoor.Wal Go.Proofs.YtamncdpeklbhlaaDoor.Model Go.Proofs.YtamncdpeklbhlaaDoor.Log Go.Proofs.YtamncdpeklbhlaaDoor.Frm
open Go.Proofs.YtamncdpeklbhlaaDoor.Model.M

/-- A disk of which file i alone has bytes; T: which others are there. -/
def solo (R : Nat) (f : Int) (o : Bool) (i : Nat) (F S : List UInt8) (t : Bool) (T : Nat → Bool) : M :=
  { room := R, fuel := f, off := o, firm := fun j => if j = i then F else [], soft := fun j => if j = i then S else [], there := fun j => if j = i then t else T j }
def burn (f : Int) : Int := if 0 < f then f - 1 else f

section
variable {R : Nat} {f : Int} {o : Bool} {i : Nat} {F S : List UInt8} {t : Bool} {T : Nat → Bool}
theorem new_solo (R i : Nat) : M.new R = solo R (-1) false i [] [] false (fun _ => false) := by simp [M.new, solo]
theorem solo_move (j : Nat) : solo R f o i [] [] t T = solo R f o j [] [] (if j = i then t else T j) (fun k => if k = i then t else T k) := by
  unfold solo
  simp only [ite_self, M.mk.injEq, true_and]
  funext k
  by_cases h : k = j
  · subst h; simp
  · simp [h]
theorem solo_usedTo : ∀ k, (solo R f o i F S t T).usedTo k = if i < k then F.length + S.length else 0
  | 0 => by simp [M.usedTo]
  | k + 1 => by
    have e : (solo R f o i F S t T).len k = if k = i then F.length + S.length else 0 := by
      simp only [M.len, solo]
      by_cases h : k = i <;> simp [h]
    simp only [M.usedTo]
    rw [solo_usedTo k, e]
    by_cases h : k = i
    · subst h; simp
    · by_cases h2 : i < k
      · rw [if_pos h2, if_neg h, if_pos (by omega)]; rfl
      · rw [if_neg h2, if_neg h, if_neg (by omega)]
theorem solo_used (hi : i < 16) : (solo R f o i F S t T).used = F.length + S.length := by
  unfold M.used
  rw [solo_usedTo, if_pos hi]
theorem solo_len : (solo R f o i F S t T).len i = F.length + S.length := by simp [M.len, solo]
theorem solo_all : (solo R f o i F S t T).all i = F ++ S := by simp [M.all, solo]
theorem solo_has (hi : i < 16) : (solo R f o i F S t T).has (i : Int) = t := by
  unfold M.has
  rw [decide_eq_true (show 0 ≤ (i : Int) ∧ (i : Int) < 16 by omega)]
  simp [solo]
theorem solo_burnt : (solo R f o i F S t T).burnt = solo R (burn f) o i F S t T := rfl
theorem solo_dead : (solo R f o i F S t T).dead = solo R f true i F S t T := rfl
theorem solo_fuelled (n : Int) : (solo R f o i F S t T).fuelled n = solo R (max n (-1)) o i F S t T := rfl
theorem solo_set (F' S' : List UInt8) (t' : Bool) : (solo R f o i F S t T).set i F' S' t' = solo R f o i F' S' t' T := by
  unfold solo M.set
  simp only [M.mk.injEq, true_and]
  refine ⟨?_, ?_, ?_⟩ <;> (funext k; by_cases h : k = i <;> simp [h])
theorem solo_append (hi : i < 16) (s : List UInt8) : (solo R f false i F S t T).append i s =
    if R < F.length + S.length + s.length then (11, solo R f false i F S t T) else if f = 0 then (10, solo R f true i F S t T) else (0, solo R (burn f) false i F (S ++ s) true T) := by
  unfold M.append
  rw [if_neg (by omega), if_neg (by simp [solo]), solo_used hi]
  show (if R < _ then _ else if f = 0 then _ else _) = _
  rw [solo_burnt, show ((i : Int)).toNat = i by omega, solo_set, solo_dead]
  congr 1
  congr 1
  simp [solo]
theorem solo_sync (hi : i < 16) : (solo R f false i F S true T).sync i = if f = 0 then (10, solo R f true i F S true T) else (0, solo R (burn f) false i (F ++ S) [] true T) := by
  unfold M.sync
  rw [if_neg (by simp [solo]), if_neg (by rw [solo_has hi]; simp)]
  show (if f = 0 then _ else _) = _
  rw [solo_burnt, show ((i : Int)).toNat = i by omega, solo_set, solo_dead, solo_all]
theorem solo_replace (hi : i < 16) (s : List UInt8) : (solo R f false i F S t T).replace i s =
    if R < s.length then (11, solo R f false i F S t T) else if f = 0 then (10, solo R f true i F S t T) else (0, solo R (burn f) false i s [] true T) := by
  unfold M.replace
  rw [if_neg (by omega), if_neg (by simp [solo]), solo_used hi, show ((i : Int)).toNat = i by omega, solo_len, solo_burnt, solo_set, solo_dead]
  show (if R + (F.length + S.length) < F.length + S.length + s.length then _ else if f = 0 then _ else _) = _
  by_cases h : R < s.length
  · rw [if_pos h, if_pos (by omega)]
  · rw [if_neg h, if_neg (by omega)]
theorem solo_crash (keep : List Int) : (solo R f o i F S t T).crash keep =
    solo R (-1) false i (F ++ S.take (kept keep i S.length)) [] (t && (!(F ++ S.take (kept keep i S.length)).isEmpty || S.isEmpty)) T := by
  have e : ∀ k, (solo R f o i F S t T).left keep k = if k = i then F ++ S.take (kept keep i S.length) else [] := fun k => by
    simp only [M.left, solo]
    by_cases h : k = i
    · subst h; simp
    · simp [h]
  have e2 : (solo R f o i F S t T).left keep = fun k => if k = i then F ++ S.take (kept keep i S.length) else [] := funext e
  unfold M.crash
  rw [e2]
  unfold solo
  simp only [M.mk.injEq, true_and, ite_self]
  funext k
  by_cases h : k = i
  · subst h; simp
  · simp [h]
/-- What a log is behind an opening with enough fuel. -/
theorem solo_behind (hi : i < 16) (hf : f ≠ 0) (hR : F.length + S.length ≤ R) : behind (solo R f false i F S true T) i (F ++ S) = ((0, (scan (F ++ S)).1), solo R (burn f) false i ((F ++ S).take (scan (F ++ S)).2) [] true T) := by
  unfold behind
  have hle := scan_le (F ++ S)
  have e1 : (solo R f false i F S true T).replace i ((F ++ S).take (scan (F ++ S)).2) = (0, solo R (burn f) false i ((F ++ S).take (scan (F ++ S)).2) [] true T) := by
    rw [solo_replace hi, if_neg (by rw [List.length_take, List.length_append]; omega), if_neg hf]
  have e2 : (solo R f false i F S true T).sync i = (0, solo R (burn f) false i (F ++ S) [] true T) := by rw [solo_sync hi, if_neg hf]
  rw [e1, e2]
  by_cases h : (scan (F ++ S)).2 < (F ++ S).length
  · rw [if_pos h]; rfl
  · rw [if_neg h, List.take_of_length_le (by omega)]; rfl
theorem solo_open_old (hi : i < 16) (hf : f ≠ 0) (hR : F.length + S.length ≤ R) : wopen (solo R f false i F S true T) i = ((0, (scan (F ++ S)).1), solo R (burn f) false i ((F ++ S).take (scan (F ++ S)).2) [] true T) := by
  rw [wopen_old (by omega) rfl (solo_has hi), show ((i : Int)).toNat = i by omega, solo_all, solo_behind hi hf hR]
theorem scan_nil : scan [] = ([], 0) := scan_end [] rfl
theorem solo_open_new (hi : i < 16) (hf : f = -1) : wopen (solo R f false i F S false T) i = ((0, []), solo R (-1) false i [] [] true T) := by
  subst hf
  have e1 : (solo R (-1) false i F S false T).replace i [] = (0, solo R (-1) false i [] [] true T) := by
    rw [solo_replace hi]
    rfl
  rw [wopen_new (by omega) rfl (solo_has hi), e1]
  have := solo_behind (R := R) (f := -1) (i := i) (F := []) (S := []) (T := T) hi (by decide) (by simp)
  simp only [List.append_nil, scan_nil, List.take_nil] at this
  exact this
/-- A log that is opened behind a crash. -/
theorem solo_again (hi : i < 16) (hR : F.length + S.length ≤ R) (keep : List Int) :
    ∃ t', wopen ((solo R f o i F S true T).crash keep) i = ((0, (scan (F ++ S.take (kept keep i S.length))).1), solo R (-1) false i ((F ++ S.take (kept keep i S.length)).take (scan (F ++ S.take (kept keep i S.length))).2) [] t' T) := by
  rw [solo_crash]
  have hk := kept_le keep i S.length
  obtain ⟨C, hC⟩ : ∃ C, F ++ S.take (kept keep i S.length) = C := ⟨_, rfl⟩
  have hCl : C.length ≤ R := by rw [← hC, List.length_append, List.length_take]; omega
  rw [hC]
  refine ⟨true, ?_⟩
  cases ht : (true && (!C.isEmpty || S.isEmpty)) with
  | true =>
    have := solo_open_old (R := R) (f := -1) (i := i) (F := C) (S := []) (T := T) hi (by decide) (by simpa using hCl)
    rw [List.append_nil] at this
    rw [this]
    rfl
  | false =>
    have hCe : C = [] := by
      simp only [Bool.true_and, Bool.or_eq_false_iff, Bool.not_eq_false', List.isEmpty_iff] at ht
      exact ht.1
    subst hCe
    rw [solo_open_new hi rfl, scan_nil]
    rfl
/-- Records that are written with enough fuel. -/
theorem solo_wappend (hi : i < 16) (l : List (List UInt8)) (hl : Recs l) (hR : F.length + (frames l).length ≤ R) : wappend (solo R f false i F [] true T) i l =
    if f = 0 then (10, solo R f true i F [] true T) else if f = 1 then (10, solo R 0 true i F (frames l) true T) else (0, solo R (burn (burn f)) false i (F ++ frames l) [] true T) := by
  have e1 : (solo R f false i F [] true T).append i (frames l) = if f = 0 then (10, solo R f true i F [] true T) else (0, solo R (burn f) false i F (frames l) true T) := by
    rw [solo_append hi, if_neg (by simp only [List.length_nil]; omega), List.nil_append]
  unfold wappend
  rw [if_pos hl, e1]
  by_cases h0 : f = 0
  · subst h0
    rfl
  · rw [if_neg h0, if_neg h0]
    have e2 := solo_sync (R := R) (f := burn f) (i := i) (F := F) (S := frames l) (T := T) hi
    show (solo R (burn f) false i F (frames l) true T).sync i = _
    rw [e2]
    by_cases h1 : f = 1
    · subst h1
      rfl
    · rw [if_neg h1, if_neg (by unfold burn; split <;> omega)]
theorem solo_wappend_free (hi : i < 16) (l : List (List UInt8)) (hl : Recs l) (hR : F.length + (frames l).length ≤ R) : wappend (solo R (-1) false i F [] true T) i l = (0, solo R (-1) false i (F ++ frames l) [] true T) := solo_wappend hi l hl hR
theorem solo_wanew (hi : i < 16) (l : List (List UInt8)) (hl : Recs l) (hR : (frames l).length ≤ R) : wanew (solo R f false i F S t T) i l =
    if f = 0 then (10, solo R f true i F S t T) else (0, solo R (burn f) false i (frames l) [] true T) := by
  unfold wanew
  rw [if_pos hl, solo_replace hi, if_neg (by omega)]
end

/-- What stands in a log's file behind a crash: some first records. -/
theorem crash_scan (a c : List (List UInt8)) (k : Nat) (ha : Recs a) (hc : Recs c) (hk : k ≤ (frames c).length) : (scan (frames a ++ (frames c).take k)).1 = a ++ c.take (cut c k) := by
  rw [scan_frames a _ ha, scan_take c k hc]
theorem half_scan (a : List (List UInt8)) (r : List UInt8) (ha : Recs a) (hr : ∀ c ∈ r, c ≠ 0) : scan (frames a ++ r) = (a, (frames a).length) := by
  rw [scan_frames a r ha, scan_end r ((free_iff r).2 hr)]
  simp
theorem all_scan (a : List (List UInt8)) (ha : Recs a) : scan (frames a) = (a, (frames a).length) := scan_all a ha
end Go.Proofs.YtamncdpeklbhlaaDoor.Solo
set_option linter.unusedVariables false
set_option linter.unusedSimpArgs false
namespace Go.Proofs.YtamncdpeklbhlaaDoor.Sol
open Go.Proofs.YtamncdpeklbhlaaDoor.Rlog Go.Proofs.YtamncdpeklbhlaaDoor.Sto Go.Proofs.YtamncdpeklbhlaaDoor.Sav Go.Proofs.YtamncdpeklbhlaaDoor.Wal Go.Proofs.YtamncdpeklbhlaaDoor.Solo
open Go.Proofs.YtamncdpeklbhlaaDoor.Quorum (sound)
open Go.Proofs.YtamncdpeklbhlaaDoor.Model (M)
open Go.Proofs.YtamncdpeklbhlaaDoor.Log (wopen wappend wanew)
open Go.Proofs.YtamncdpeklbhlaaDoor.Model.M (kept)

theorem said_nil {c : Nat} (h : sound c = true) : said c [] = some (first c) := by
  unfold said
  simp only [makes]
  rw [if_pos (first_right h)]
theorem said_iff {c : Nat} {l : List (List UInt8)} {s : Sta} : said c l = some s ↔ makes (first c) l = some s ∧ right s = true := by
  unfold said
  cases h : makes (first c) l with
  | none => simp
  | some x =>
    simp only
    by_cases hr : right x = true
    · rw [if_pos hr]
      constructor
      · intro e; cases e; exact ⟨rfl, hr⟩
      · rintro ⟨e, _⟩; exact e
    · rw [if_neg hr]
      constructor
      · intro e; cases e
      · rintro ⟨e, h2⟩; cases e; exact absurd h2 hr
theorem sopen_said {m m' : M} {n : Int} {c : Nat} {rl : List (List UInt8)} {s : Sta} (hc : sound c = true) (hw : wopen m n = ((0, rl), m')) (h : said c rl = some s) : sopen m n c = ((0, s), m') := by
  unfold sopen
  rw [if_neg (by rw [hc]; decide), hw]
  simp only [if_true]
  rw [h]
theorem sopen_new (R i : Nat) (hi : i < 16) {c : Nat} (hc : sound c = true) : sopen (M.new R) i c = ((0, first c), solo R (-1) false i [] [] true (fun _ => false)) := by
  refine sopen_said hc ?_ (said_nil hc)
  rw [new_solo R i]
  exact solo_open_new hi rfl
theorem ssave_ok {m m' : M} {n : Int} {s : Sta} {t : Nat} {v : Int} {l : List Ent} (hr : right (savedS s t v l) = true) (hw : out s t v l ≠ [] → wappend m n (out s t v l) = (0, m')) (h0 : out s t v l = [] → m' = m) : ssave m n s t v l = (0, (m', savedS s t v l)) := by
  unfold ssave
  rw [if_pos hr]
  by_cases ho : out s t v l = []
  · rw [if_pos ho, h0 ho]
  · rw [if_neg ho, hw ho]
    rfl

/-! ### How long records are -/
def bulk (l : List Ent) : Nat := (l.map fun e => e.data.size + 38).sum
theorem weigh_ents : ∀ (l : List Ent), (∀ e ∈ l, EntB e) → weigh (l.map recEnt) ≤ bulk l
  | [], _ => by simp [weigh, bulk]
  | e :: l, h => by
    have h1 := ent_length (h e (by simp))
    have h2 := weigh_ents l fun x hx => h x (by simp [hx])
    unfold bulk at h2 ⊢
    simp only [List.map_cons, weigh, List.sum_cons]
    omega
theorem weigh_hards {s : Sta} {t : Nat} {v : Int} (ht : t < 18446744073709551616) : weigh (hards s t v) ≤ 20 := by
  have := hard_length (v := v) ht
  unfold hards
  split
  · simp [weigh]
  · simp [weigh]; exact this
theorem weigh_cuts {s : Sta} {l : List Ent} (hl : ∀ e ∈ l, EntB e) : weigh (cuts s l) ≤ 11 := by
  cases l with
  | nil => simp [cuts, weigh]
  | cons e r =>
    have := cut_length (hl e (by simp)).idx
    unfold cuts
    simp only
    split
    · simp [weigh]; exact this
    · simp [weigh]
theorem weigh_out {s : Sta} {t : Nat} {v : Int} {l : List Ent} (ht : t < 18446744073709551616) (hl : ∀ e ∈ l, EntB e) : weigh (out s t v l) ≤ 31 + bulk l := by
  unfold out
  rw [weigh_append, weigh_append]
  have h1 := weigh_hards (s := s) (v := v) ht
  have h2 := weigh_cuts (s := s) hl
  have h3 := weigh_ents l hl
  omega
theorem recs_ents {l : List Ent} (hl : ∀ e ∈ l, EntB e) (hd : ∀ e ∈ l, e.data.size ≤ 32768) : Recs (l.map recEnt) := fun x hx => by
  obtain ⟨e, he, rfl⟩ := List.mem_map.1 hx
  have := ent_length (hl e he)
  have := hd e he
  omega
theorem recs_out {s : Sta} {t : Nat} {v : Int} {l : List Ent} (ht : t < 18446744073709551616) (hl : ∀ e ∈ l, EntB e) (hd : ∀ e ∈ l, e.data.size ≤ 32768) : Recs (out s t v l) := by
  intro x hx
  unfold out at hx
  rcases List.mem_append.1 hx with hx | hx
  · unfold hards at hx
    split at hx
    · cases hx
    · simp only [List.mem_singleton] at hx
      have := hard_length (v := v) ht
      rw [hx]
      omega
  · rcases List.mem_append.1 hx with hx | hx
    · cases l with
      | nil => simp [cuts] at hx
      | cons e r =>
        unfold cuts at hx
        simp only at hx
        split at hx
        · simp only [List.mem_singleton] at hx
          have := cut_length (hl e (by simp)).idx
          rw [hx]
          omega
        · cases hx
    · exact recs_ents hl hd x hx
theorem data_right {s : Sta} (h : right s = true) : ∀ e ∈ s.es, e.data.size ≤ 32768 := fun e he => (follow_mem (right_iff.1 h).1.2 he).1
theorem data_saved {s : Sta} {t : Nat} {v : Int} {l : List Ent} (h : right (savedS s t v l) = true) : ∀ e ∈ l, e.data.size ≤ 32768 := fun e he => data_right h e (List.mem_append_right _ he)
theorem recs_all {s : Sta} (hb : StaB s) (h : right s = true) (hd : s.snap.data.size ≤ 32768) : Recs (allOf s) := by
  intro x hx
  unfold allOf at hx
  rcases List.mem_cons.1 hx with rfl | hx
  · have := hard_length (v := s.vote) hb.term; omega
  rcases List.mem_cons.1 hx with rfl | hx
  · have := snap_length hb.snap (by omega); omega
  · exact recs_ents hb.ents (data_right h) x hx
theorem weigh_all {s : Sta} (hb : StaB s) (hd : s.snap.data.size < 18446744073709551616) : weigh (allOf s) ≤ 58 + s.snap.data.size + bulk s.es := by
  unfold allOf
  simp only [weigh]
  have h1 := hard_length (v := s.vote) hb.term
  have h2 := snap_length hb.snap hd
  have h3 := weigh_ents s.es hb.ents
  omega
end Go.Proofs.YtamncdpeklbhlaaDoor.Sol
set_option linter.unusedVariables false
set_option linter.unusedSimpArgs false
namespace Go.Proofs.YtamncdpeklbhlaaDoor.Bgn
open Go.RowKit Go.Proofs.YtamncdpeklbhlaaDoor.Kit Go.Proofs.YtamncdpeklbhlaaDoor.Blocks Go.Proofs.YtamncdpeklbhlaaDoor.Rlog Go.Proofs.YtamncdpeklbhlaaDoor.Sto Go.Proofs.YtamncdpeklbhlaaDoor.Sav Go.Proofs.YtamncdpeklbhlaaDoor.Ents Go.Proofs.YtamncdpeklbhlaaDoor.Hold Go.Proofs.YtamncdpeklbhlaaDoor.Del Go.Proofs.YtamncdpeklbhlaaDoor.Save Go.Proofs.YtamncdpeklbhlaaDoor.Open Go.Proofs.YtamncdpeklbhlaaDoor.Model Go.Proofs.YtamncdpeklbhlaaDoor.Ops Go.Proofs.YtamncdpeklbhlaaDoor.ScA Go.Proofs.YtamncdpeklbhlaaDoor.FrA Go.Proofs.YtamncdpeklbhlaaDoor.SumB Go.Proofs.YtamncdpeklbhlaaDoor.Wal Go.Proofs.YtamncdpeklbhlaaDoor.Solo Go.Proofs.YtamncdpeklbhlaaDoor.Sol
open Go.Proofs.YtamncdpeklbhlaaDoor.Log (LogAt wopen wappend wanew)
open Go.Proofs.YtamncdpeklbhlaaDoor.Quorum (sound)

/-- Open, by a name. -/
theorem open_lit {B : Nat} {L : List Nat} {w : World} {p N : Nat} {m m' : M} {s : Sta} (h : Has B L w p N m) (htab : Tab w) (hgB : 0 < B) (hN : N < 900000) (n : Int) (c : Nat) (hc : c < 18446744073709551616) (ho : Hid (sopen m n c = ((0, s), m'))) :
    Calls Tryd.prog 9 #[.pointer (some ⟨p, 0, none⟩), .int .i64 n, .int .u64 (c : Int)] w fun e w' => ∃ t b L' v A cc, e = .returned (.tuple #[.pointer (some ⟨t, 0, none⟩), staV s A s.es.length cc, .int .i64 0]) ∧ SAt B L w' t b p (N + 2) n m' s L' v ∧ RE w' w'.heap.size A s.es.length s.es ∧ Keeps B L w w' ∧ w.heap.size ≤ t ∧ s.es.length ≤ 1048576 := by
  refine (open_sto h htab hgB hN n c hc).mono ?_
  intro e w' hh
  rw [ho.out] at hh
  rcases hh with ⟨h0, _⟩ | ⟨_, hh⟩
  · exact absurd rfl h0
  · exact hh
theorem save_lit {B : Nat} {X L : List Nat} {w : World} {t b p N : Nat} {n : Int} {m m' : M} {s s' : Sta} {v : Value} {r : Int} (h : SAt B X w t b p N n m s L v) (htab : Tab w) (hgB : 0 < B) (hN : N < 900000) (hn0 : -9223372036854775808 ≤ n) (hn1 : n ≤ 9223372036854775807) (tm : Nat) (vt : Int) (htm : tm < 18446744073709551616) (hv0 : -9223372036854775808 ≤ vt) (hv1 : vt ≤ 9223372036854775807) (Al : Option Addr) (nl cl : Nat) (l : List Ent) (hl : RE w w.heap.size Al nl l) (hout : Out B X Al nl) (hlb : ∀ e ∈ l, EntB e) (hnl : nl ≤ 999990) (hes : s.es.length ≤ 2000000)
    (hs : Hid (ssave m n s tm vt l = (r, (m', s')))) :
    Calls Tryd.prog 11 #[.pointer (some ⟨t, 0, none⟩), .agg #[.int .u64 (tm : Int), .int .i64 vt], .slice Al nl cl] w fun e w' => e = .returned (.int .i64 r) ∧ (∃ L v, SAt B X w' t b p (N + 2) n m' s' L v) ∧ Keeps B X w w' := by
  refine (save_any h htab hgB hN hn0 hn1 tm vt htm hv0 hv1 Al nl cl l hl hout hlb hnl hes).mono ?_
  intro e w' hh
  unfold Saved at hh
  rw [hs.out] at hh
  exact hh

def e1 : Ent := ⟨3, 1, 0, ⟨#[]⟩⟩
def s1 : Sta := savedS (first 7) 3 1 [e1]
theorem sound7 : sound 7 = true := by decide
theorem e1_b : EntB e1 := ⟨by decide, by decide, by decide, by decide, by decide⟩
theorem s1_right : right s1 = true := by decide +kernel
theorem s1_is : s1 = ⟨3, 1, ⟨0, 0, 7, ByteArray.empty⟩, [e1]⟩ := by
  unfold s1 savedS stayE first
  simp
theorem out_ne : out (first 7) 3 1 [e1] ≠ [] := by
  unfold out
  simp
theorem begun_math : ∃ m2 m4, ssave (solo 1000 (-1) false 0 [] [] true (fun _ => false)) 0 (first 7) 3 1 [e1] = (0, (m2, s1)) ∧ sopen (m2.crash []) 0 7 = ((0, s1), m4) := by
  have hrec : Recs (out (first 7) 3 1 [e1]) := recs_out (by decide) (fun x hx => by simp only [List.mem_singleton] at hx; subst hx; exact e1_b) (fun x hx => by simp only [List.mem_singleton] at hx; subst hx; decide)
  have hw : weigh (out (first 7) 3 1 [e1]) ≤ 31 + bulk [e1] := weigh_out (by decide) (fun x hx => by simp only [List.mem_singleton] at hx; subst hx; exact e1_b)
  have hb : bulk [e1] = 38 := by decide
  have hlen := out_len (first 7) 3 1 [e1]
  have hfs := frames_short (out (first 7) 3 1 [e1])
  have hfl : (frames (out (first 7) 3 1 [e1])).length ≤ 1000 := by
    have : [e1].length = 1 := rfl
    omega
  have hwr := solo_wappend_free (R := 1000) (i := 0) (F := []) (T := fun _ => false) (by omega) (out (first 7) 3 1 [e1]) hrec (by simpa using hfl)
  rw [List.nil_append] at hwr
  refine ⟨solo 1000 (-1) false 0 (frames (out (first 7) 3 1 [e1])) [] true (fun _ => false), ?_⟩
  obtain ⟨t', ha⟩ := solo_again (R := 1000) (f := -1) (o := false) (i := 0) (F := frames (out (first 7) 3 1 [e1])) (S := []) (T := fun _ => false) (by omega) (by simpa using hfl) []
  rw [List.take_nil, List.append_nil, scan_all _ hrec] at ha
  refine ⟨_, ssave_ok s1_right (fun _ => hwr) (fun h => absurd h out_ne), sopen_said sound7 ha ?_⟩
  refine said_iff.2 ⟨records_ok (first_right sound7) (by decide) (by decide) (by decide) (fun x hx => by simp only [List.mem_singleton] at hx; subst hx; exact e1_b) s1_right, s1_right⟩
theorem eq_hard (a b : Int) (w : World) : (binOp .eql 32 (.agg #[.int .u64 a, .int .i64 b]) (.agg #[.int .u64 a, .int .i64 b])).run Tryd.prog w = .ok (.bool true) w := by
  simp [binOp, Op.equal, Op.maxDepth, go_sem]

set_option maxRecDepth 100000 in
set_option maxHeartbeats 8000000 in
theorem begun_any (w : World) (ht : Tab w) : Calls Tryd.prog 6 #[] w fun e w' => e = .returned (.bool true) ∧ Below w.heap.size w w' := by
  have hg := Tab.lt ht
  have HT := Lib.hid ht
  obtain ⟨m2, m4, hsv, hop2⟩ := begun_math
  obtain ⟨m0, hm0⟩ : ∃ m0, M.new 1000 = m0 := ⟨_, rfl⟩
  obtain ⟨m1, hm1⟩ : ∃ m1, solo 1000 (-1) false 0 [] [] true (fun _ => false) = m1 := ⟨_, rfl⟩
  have hop1 : sopen m0 0 7 = ((0, first 7), m1) := by rw [← hm0, ← hm1]; exact sopen_new 1000 0 (by omega) sound7
  obtain ⟨m3, hm3⟩ : ∃ m3, m2.crash [] = m3 := ⟨_, rfl⟩
  rw [hm1, s1_is] at hsv
  rw [hm3, s1_is] at hop2
  have HM0 := Lib.hid hm0
  have HM3 := Lib.hid hm3
  have HO1 := Lib.hid hop1
  have HSV := Lib.hid hsv
  have HO2 := Lib.hid hop2
  have hopA := fun (B p N : Nat) (L : List Nat) (w : World) (h : Has B L w p N m0) (h1 : Tab w) (h2 : 0 < B) (h3 : N < 900000) => open_lit h h1 h2 h3 0 7 (by decide) HO1
  have hopB := fun (B p N : Nat) (L : List Nat) (w : World) (h : Has B L w p N m3) (h1 : Tab w) (h2 : 0 < B) (h3 : N < 900000) => open_lit h h1 h2 h3 0 7 (by decide) HO2
  have HOA := Lib.hid hopA
  have HOB := Lib.hid hopB
  have heq := eq_hard 3 1
  clear hm0 hm1 hop1 hm3 hsv hop2 ht hopA hopB
  go_enter Tryd.func6, Tryd.ntmps6
  go_wp2_with fail
  refine (new_has (B := w.heap.size) 1000 (by omega) (Nat.le_refl _)).mono ?_
  rintro e w1 ⟨p, rfl, hD1, hp, hb1⟩
  rw [HM0.out] at hD1
  have ht1 := Tab.next HT.out hb1
  go_wp2_with fail
  refine (HOA.out _ _ _ _ _ hD1 ht1 hg (by omega)).mono ?_
  rintro e w2 ⟨t, b, L, v, A, cc, rfl, hS, hre, hk2, hlt, _⟩
  have hb2 := hb1.trans (hk2.below hD1.low)
  have hS1 := Lib.hid hS
  have hBb := hS.base
  have ht2 := Tab.next HT.out hb2
  unfold staV
  simp only [first, List.length_nil]
  have l3 : Below w2.heap.size w2 (w2.alloc (.cells #[.int .u64 0, .int .i64 (-1), .int .u64 0, .int .u64 0, .int .u64 7, .string ByteArray.empty, .slice A 0 cc] 37)) := (Below.refl _ _).alloc (Nat.le_refl _) _
  have c3 := heap_alloc_new w2 (.cells #[.int .u64 0, .int .i64 (-1), .int .u64 0, .int .u64 0, .int .u64 7, .string ByteArray.empty, .slice A 0 cc] 37)
  obtain ⟨w3, hw3⟩ : ∃ w3, w2.alloc (.cells #[.int .u64 0, .int .i64 (-1), .int .u64 0, .int .u64 0, .int .u64 7, .string ByteArray.empty, .slice A 0 cc] 37) = w3 := ⟨_, rfl⟩
  rw [hw3] at l3 c3
  have l4 : Below w3.heap.size w3 (w3.alloc (.cells #[.int .u64 3, .int .u64 1, .int .i64 0, .string ⟨#[]⟩] 55)) := (Below.refl _ _).alloc (Nat.le_refl _) _
  have c4 := heap_alloc_new w3 (.cells #[.int .u64 3, .int .u64 1, .int .i64 0, .string ⟨#[]⟩] 55)
  have hre4 : RE (w3.alloc (.cells #[.int .u64 3, .int .u64 1, .int .i64 0, .string ⟨#[]⟩] 55)) (w3.alloc (.cells #[.int .u64 3, .int .u64 1, .int .i64 0, .string ⟨#[]⟩] 55)).heap.size (some ⟨w3.heap.size, 0, none⟩) 1 [e1] := (Take.ent_new w3 e1 55).more (by simp)
  obtain ⟨w4, hw4⟩ : ∃ w4, w3.alloc (.cells #[.int .u64 3, .int .u64 1, .int .i64 0, .string ⟨#[]⟩] 55) = w4 := ⟨_, rfl⟩
  rw [hw4] at l4 c4 hre4
  have hA := (hS.beside l3 (Nat.le_refl _) (lt_at c3)).beside l4 (Nat.le_refl _) (lt_at c4)
  have hsvc := save_lit hA (Tab.next (Tab.next ht2 l3) l4) hg (by omega) (by decide) (by decide) 3 1 (by decide) (by decide) (by decide) (some ⟨w3.heap.size, 0, none⟩) 1 1 [e1] hre4 (fun _ ad e => by cases e; exact .inr (by simp)) (fun x hx => by simp only [List.mem_singleton] at hx; subst hx; exact e1_b) (by decide) (by decide) HSV
  have hs3 : w3.heap.size = w2.heap.size + 1 := by rw [← hw3]; simp
  rw [hs3] at hsvc
  have HSVC := Lib.hid hsvc
  have HW3 := Lib.hid hw3
  have HW4 := Lib.hid hw4
  have HC3 : Hid (w4.heap[w2.heap.size]? = _) := (l4.block w2.heap.size (lt_at c3)).trans c3
  have HB4 : Hid (Below w.heap.size w w4) := hb2.trans ((l3.trans (l4.mono l3.size)).mono hb2.size)
  clear hsvc hs3 hw3 hw4 c3 c4 l3 l4 hre4 hA hS hre hk2
  go_wp2_with fail
  rw [HW3.out, HW4.out]
  refine HSVC.out.mono ?_
  rintro e w5 ⟨rfl, ⟨L5, v5, hS5⟩, hk5⟩
  have HK5 := Lib.hid hk5
  have HS5 := Lib.hid hS5
  have hb5 : Below w.heap.size w w5 := HB4.out.trans (hk5.below HB4.out.size)
  have ht5 := Tab.next HT.out hb5
  have hcr := crash_has none 0 0 [] hS5.disk Reads.none_
  have HCR := Lib.hid hcr
  have hc35 := hk5.heap HC3.out (.inr (by simp))
  clear hcr hk5 hS5
  go_wp2_with fail
  refine HCR.out.mono ?_
  rintro e w6 ⟨p', rfl, hD6, _, hp6, hb6⟩
  rw [HM3.out] at hD6
  have hb6' := hb5.trans (hb6.mono hb5.size)
  have hc36 := (hb6.block w2.heap.size (lt_at hc35)).trans hc35
  go_wp2_with fail
  refine (HOB.out _ _ _ _ _ hD6 (Tab.next HT.out hb6') hg (by omega)).mono ?_
  rintro e w7 ⟨t7, b7, L7, v7, A7, cc7, rfl, hS7, hre7, hk7, hlt7, _⟩
  have hc37 := hk7.heap hc36 (.inr (HS5.out.sub _ (by simp)))
  have hb7 := hb6'.trans (hk7.below hD6.low)
  unfold staV
  simp only [List.length_cons, List.length_nil]
  have l8 : Below w7.heap.size w7 (w7.alloc (.cells #[.int .u64 3, .int .i64 1, .int .u64 0, .int .u64 0, .int .u64 7, .string ByteArray.empty, .slice A7 1 cc7] 37)) := (Below.refl _ _).alloc (Nat.le_refl _) _
  have d1 : w7.cell? ⟨w2.heap.size, 1, none⟩ = some (.int .i64 (-1)) := by rw [cell_at hc37]; rfl
  have hltd := lt_at hc37
  have hb8 := hb7.trans (l8.mono hb7.size)
  clear hD1 hD6 hS7 hre7 hk7 hc37 hc36 hc35 l8
  go_wp2
  go_ret
  exact ⟨rfl, hb8⟩
end Go.Proofs.YtamncdpeklbhlaaDoor.Bgn
set_option linter.unusedVariables false
set_option linter.unusedSimpArgs false
namespace Go.Proofs.YtamncdpeklbhlaaDoor.RSame
open Go.RowKit Go.Proofs.YtamncdpeklbhlaaDoor.Kit Go.Proofs.YtamncdpeklbhlaaDoor.Blocks Go.Proofs.YtamncdpeklbhlaaDoor.Rlog Go.Proofs.YtamncdpeklbhlaaDoor.Sto Go.Proofs.YtamncdpeklbhlaaDoor.Sav Go.Proofs.YtamncdpeklbhlaaDoor.Ents Go.Proofs.YtamncdpeklbhlaaDoor.Hold Go.Proofs.YtamncdpeklbhlaaDoor.RlgWalkB Go.Proofs.YtamncdpeklbhlaaDoor.RlgWalkC

theorem neq_ents (a b c a' b' c' : Int) (d d' : ByteArray) : ∃ q : Bool, (∀ w, (binOp .neq 55 (.agg #[.int .u64 a, .int .u64 b, .int .i64 c, .string d]) (.agg #[.int .u64 a', .int .u64 b', .int .i64 c', .string d'])).run Tryd.prog w = .ok (.bool q) w) ∧ ((a = a' ∧ b = b' ∧ c = c' ∧ d = d') → q = false) := by
  by_cases h1 : a = a'
  · by_cases h2 : b = b'
    · by_cases h3 : c = c'
      · by_cases h4 : d.toList = d'.toList
        · exact ⟨false, fun w => by simp [binOp, Op.equal, Op.maxDepth, go_sem, h1, h2, h3, h4], fun _ => rfl⟩
        · exact ⟨true, fun w => by simp [binOp, Op.equal, Op.maxDepth, go_sem, h1, h2, h3, h4], fun h => absurd (by rw [h.2.2.2]) h4⟩
      · exact ⟨true, fun w => by simp [binOp, Op.equal, Op.maxDepth, go_sem, h1, h2, h3], fun h => absurd h.2.2.1 h3⟩
    · exact ⟨true, fun w => by simp [binOp, Op.equal, Op.maxDepth, go_sem, h1, h2], fun h => absurd h.2.1 h2⟩
  · exact ⟨true, fun w => by simp [binOp, Op.equal, Op.maxDepth, go_sem, h1], fun h => absurd h.1 h1⟩
theorem eql_snaps (a b c a' b' c' : Int) (d d' : ByteArray) : ∃ q : Bool, (∀ w, (binOp .eql 34 (.agg #[.int .u64 a, .int .u64 b, .int .u64 c, .string d]) (.agg #[.int .u64 a', .int .u64 b', .int .u64 c', .string d'])).run Tryd.prog w = .ok (.bool q) w) ∧ ((a = a' ∧ b = b' ∧ c = c' ∧ d = d') → q = true) := by
  by_cases h1 : a = a'
  · by_cases h2 : b = b'
    · by_cases h3 : c = c'
      · by_cases h4 : d.toList = d'.toList
        · exact ⟨true, fun w => by simp [binOp, Op.equal, Op.maxDepth, go_sem, h1, h2, h3, h4], fun _ => rfl⟩
        · exact ⟨false, fun w => by simp [binOp, Op.equal, Op.maxDepth, go_sem, h1, h2, h3, h4], fun h => absurd (by rw [h.2.2.2]) h4⟩
      · exact ⟨false, fun w => by simp [binOp, Op.equal, Op.maxDepth, go_sem, h1, h2, h3], fun h => absurd h.2.2.1 h3⟩
    · exact ⟨false, fun w => by simp [binOp, Op.equal, Op.maxDepth, go_sem, h1, h2], fun h => absurd h.2.1 h2⟩
  · exact ⟨false, fun w => by simp [binOp, Op.equal, Op.maxDepth, go_sem, h1], fun h => absurd h.1 h1⟩
theorem eql_hards (a b a' b' : Int) : ∃ q : Bool, (∀ w, (binOp .eql 32 (.agg #[.int .u64 a, .int .i64 b]) (.agg #[.int .u64 a', .int .i64 b'])).run Tryd.prog w = .ok (.bool q) w) ∧ ((a = a' ∧ b = b') → q = true) := by
  by_cases h1 : a = a'
  · by_cases h2 : b = b'
    · exact ⟨true, fun w => by simp [binOp, Op.equal, Op.maxDepth, go_sem, h1, h2], fun _ => rfl⟩
    · exact ⟨false, fun w => by simp [binOp, Op.equal, Op.maxDepth, go_sem, h1, h2], fun h => absurd h.2 h2⟩
  · exact ⟨false, fun w => by simp [binOp, Op.equal, Op.maxDepth, go_sem, h1], fun h => absurd h.1 h1⟩

/-- What a test of two answers: it says yes of the same. -/
def Says (P : Prop) (w : World) (e : Ending) (w' : World) : Prop := ∃ q : Bool, e = .returned (.bool q) ∧ (P → q = true) ∧ Below w.heap.size w w'
set_option maxRecDepth 100000 in
set_option maxHeartbeats 1000000 in
theorem same_ents {w : World} {A C : Option Addr} {n m ca cc : Nat} {l r : List Ent} (ha : RE w w.heap.size A n l) (hc : RE w w.heap.size C m r) (h63 : n ≤ 9223372036854775807) (h64 : m ≤ 9223372036854775807) :
    Calls Tryd.prog 59 #[.slice A n ca, .slice C m cc] w (Says (l = r) w) := by
  have hn := RE.len ha
  have hm := RE.len hc
  by_cases hnm : n = m
  · subst hnm
    have HNN : (n != n) = false := by simp
    have HNI : ((n : Int) != (n : Int)) = false := by simp
    clear hn hm
    go_enter Tryd.func59, Tryd.ntmps59
    go_wp2_with fail
    go_loopw [5] (fun x wr => ∃ k : Nat, k ≤ n ∧ x = .int .i64 (k : Int) ∧ Below w.heap.size w wr) (fun x _ => n - (intOf x).toNat)
    case atStart => exact ⟨0, by omega, rfl, Below.refl _ _⟩
    case round =>
      obtain ⟨k, hk, rfl, hbel⟩ := hrel
      by_cases hkn : k < n
      · obtain ⟨b, o, e, rfl, hbl, he, hfour⟩ := RE.at_ ha hkn
        obtain ⟨b', o', e', rfl, hbl', he', hfour'⟩ := RE.at_ hc hkn
        have hfr := Four.below hfour hbel hbl
        have hfr' := Four.below hfour' hbel hbl'
        have c0 := hfr.c0
        have c1 := hfr.c1
        have c2 := hfr.c2
        have c3 := hfr.c3
        have d0 := hfr'.c0
        have d1 := hfr'.c1
        have d2 := hfr'.c2
        have d3 := hfr'.c3
        obtain ⟨q, hneq, hq⟩ := neq_ents (e.term : Int) (e.idx : Int) e.kind (e'.term : Int) (e'.idx : Int) e'.kind e.data e'.data
        have HQ : Hid (l = r → q = false) := fun h => by
          subst h
          rw [he] at he'
          cases he'
          exact hq ⟨rfl, rfl, rfl, rfl⟩
        obtain ⟨tm, ix, kd, d⟩ := e
        obtain ⟨tm', ix', kd', d'⟩ := e'
        simp only at c0 c1 c2 c3 d0 d1 d2 d3 hneq
        clear hfr hfr' hfour hfour' he he' ha hc hq
        go_wp2_with fail
        go_quiet (fail)
        have hbq := below_drewN hbel nq
        cases q with
        | false =>
          go_wp2
          go_roundw
          case rel => exact ⟨k + 1, by omega, by go_num, hbq⟩
          case measure => simp [intOf]; omega
        | true =>
          go_wp2
          go_ret
          exact ⟨false, rfl, (fun h => by have := HQ.out h; cases this), hbq⟩
      · obtain rfl : k = n := by omega
        go_wp2
        go_ret
        exact ⟨true, rfl, fun _ => rfl, hbel⟩
  · have hne : (n != m) = true := bne_iff_ne.2 hnm
    have hni : ((n : Int) != (m : Int)) = true := bne_iff_ne.2 (by omega)
    have HNE : Hid (l = r → False) := fun h => hnm (by rw [← hn, ← hm, h])
    clear hn hm ha hc
    go_enter Tryd.func59, Tryd.ntmps59
    go_wp2
    go_ret
    exact ⟨false, rfl, fun h => (HNE.out h).elim, Below.refl _ _⟩

set_option maxRecDepth 100000 in
set_option maxHeartbeats 2000000 in
theorem rsame_any {w : World} {A C : Option Addr} {n m ca cc : Nat} (a b : Sta) (ha : RE w w.heap.size A n a.es) (hc : RE w w.heap.size C m b.es) (h63 : n ≤ 9223372036854775807) (h64 : m ≤ 9223372036854775807) :
    Calls Tryd.prog 36 #[staV a A n ca, staV b C m cc] w (Says (a = b) w) := by
  obtain ⟨q1, hq1, hp1⟩ := eql_hards (a.term : Int) a.vote (b.term : Int) b.vote
  obtain ⟨q2, hq2, hp2⟩ := eql_snaps (a.snap.idx : Int) (a.snap.term : Int) (a.snap.cfg : Int) (b.snap.idx : Int) (b.snap.term : Int) (b.snap.cfg : Int) a.snap.data b.snap.data
  have HP : Hid (a = b → (q1 = true ∧ q2 = true) ∧ a.es = b.es) := fun h => by
    subst h
    exact ⟨⟨hp1 ⟨rfl, rfl⟩, hp2 ⟨rfl, rfl, rfl, rfl⟩⟩, rfl⟩
  revert HP
  generalize (a = b) = P
  intro HP
  have hb1 : Below w.heap.size w ((w.alloc (.cells #[.int .u64 (a.term : Int), .int .i64 a.vote, .int .u64 (a.snap.idx : Int), .int .u64 (a.snap.term : Int), .int .u64 (a.snap.cfg : Int), .string a.snap.data, .slice A n ca] 46)).alloc (.cells #[.int .u64 (b.term : Int), .int .i64 b.vote, .int .u64 (b.snap.idx : Int), .int .u64 (b.snap.term : Int), .int .u64 (b.snap.cfg : Int), .string b.snap.data, .slice C m cc] 46)) := ((Below.refl _ _).alloc (Nat.le_refl _) _).alloc (by simp) _
  obtain ⟨w0, hw0⟩ : ∃ w0, (w.alloc (.cells #[.int .u64 (a.term : Int), .int .i64 a.vote, .int .u64 (a.snap.idx : Int), .int .u64 (a.snap.term : Int), .int .u64 (a.snap.cfg : Int), .string a.snap.data, .slice A n ca] 46)).alloc (.cells #[.int .u64 (b.term : Int), .int .i64 b.vote, .int .u64 (b.snap.idx : Int), .int .u64 (b.snap.term : Int), .int .u64 (b.snap.cfg : Int), .string b.snap.data, .slice C m cc] 46) = w0 := ⟨_, rfl⟩
  rw [hw0] at hb1
  have hse := same_ents (ca := ca) (cc := cc) ((Kit.Reads.below ha hb1).more hb1.size) ((Kit.Reads.below hc hb1).more hb1.size) h63 h64
  have HSE := Lib.hid hse
  have HW0 := Lib.hid hw0
  unfold staV
  obtain ⟨tm, vt, ⟨ix, st, cf, d⟩, es⟩ := a
  obtain ⟨tm', vt', ⟨ix', st', cf', d'⟩, es'⟩ := b
  simp only at *
  clear hse hw0 ha hc hp1 hp2
  cases q1 with
  | false =>
    go_enter Tryd.func36, Tryd.ntmps36
    go_wp2_with fail
    rw [HW0.out]
    go_ret
    exact ⟨false, rfl, (fun h => by have := (HP.out h).1.1; cases this), hb1⟩
  | true =>
    cases q2 with
    | false =>
      go_enter Tryd.func36, Tryd.ntmps36
      go_wp2_with fail
      rw [HW0.out]
      go_ret
      exact ⟨false, rfl, (fun h => by have := (HP.out h).1.2; cases this), hb1⟩
    | true =>
      go_enter Tryd.func36, Tryd.ntmps36
      go_wp2_with fail
      rw [HW0.out]
      refine HSE.out.mono ?_
      rintro e w1 ⟨q, rfl, hq, hb2⟩
      go_wp2
      go_ret
      exact ⟨q, rfl, (fun h => hq (HP.out h).2), hb1.trans (hb2.mono hb1.size)⟩
set_option maxRecDepth 100000 in
set_option maxHeartbeats 2000000 in
theorem same_any {w : World} {A C : Option Addr} {n m ca cc : Nat} (a b : Sta) (ha : RE w w.heap.size A n a.es) (hc : RE w w.heap.size C m b.es) (h63 : n ≤ 9223372036854775807) (h64 : m ≤ 9223372036854775807) :
    Calls Tryd.prog 14 #[staV a A n ca, staV b C m cc] w (Says (a = b) w) := by
  have hb1 : Below w.heap.size w ((w.alloc (.cells #[.int .u64 (a.term : Int), .int .i64 a.vote, .int .u64 (a.snap.idx : Int), .int .u64 (a.snap.term : Int), .int .u64 (a.snap.cfg : Int), .string a.snap.data, .slice A n ca] 37)).alloc (.cells #[.int .u64 (b.term : Int), .int .i64 b.vote, .int .u64 (b.snap.idx : Int), .int .u64 (b.snap.term : Int), .int .u64 (b.snap.cfg : Int), .string b.snap.data, .slice C m cc] 46)) := ((Below.refl _ _).alloc (Nat.le_refl _) _).alloc (by simp) _
  obtain ⟨w0, hw0⟩ : ∃ w0, (w.alloc (.cells #[.int .u64 (a.term : Int), .int .i64 a.vote, .int .u64 (a.snap.idx : Int), .int .u64 (a.snap.term : Int), .int .u64 (a.snap.cfg : Int), .string a.snap.data, .slice A n ca] 37)).alloc (.cells #[.int .u64 (b.term : Int), .int .i64 b.vote, .int .u64 (b.snap.idx : Int), .int .u64 (b.snap.term : Int), .int .u64 (b.snap.cfg : Int), .string b.snap.data, .slice C m cc] 46) = w0 := ⟨_, rfl⟩
  rw [hw0] at hb1
  have hse := rsame_any (ca := ca) (cc := cc) a b ((Kit.Reads.below ha hb1).more hb1.size) ((Kit.Reads.below hc hb1).more hb1.size) h63 h64
  have HSE := Lib.hid hse
  have HW0 := Lib.hid hw0
  unfold staV at HSE ⊢
  clear hse hw0 ha hc
  go_enter Tryd.func14, Tryd.ntmps14
  go_wp2_with fail
  rw [HW0.out]
  refine HSE.out.mono ?_
  rintro e w1 ⟨q, rfl, hq, hb2⟩
  go_wp2
  go_ret
  exact ⟨q, rfl, hq, hb1.trans (hb2.mono hb1.size)⟩
end Go.Proofs.YtamncdpeklbhlaaDoor.RSame
