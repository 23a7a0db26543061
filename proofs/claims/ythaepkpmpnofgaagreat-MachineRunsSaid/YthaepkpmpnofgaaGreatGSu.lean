/- The program's calls on a table, by what the table becomes. No statement is proved here. -/
import Derived.Test.YthaepkpmpnofgaaGreatGSs
import Derived.Laws.CopyOwn
import Derived.OwnWalk
import Derived.Lib.SliceRun
import Derived.Deep.MidRow
import Derived.Test.YthaepkpmpnofgaaGreatGSt
set_option linter.unusedVariables false
set_option linter.unusedSimpArgs false
namespace Go.Proofs.YthaepkpmpnofgaaGreat.SsnWalkD
open Go.RowKit Go.Proofs.YthaepkpmpnofgaaGreat.Kit Go.Proofs.YthaepkpmpnofgaaGreat.Blocks Go.Proofs.YthaepkpmpnofgaaGreat.Ses Go.Proofs.YthaepkpmpnofgaaGreat.Rws Go.Proofs.YthaepkpmpnofgaaGreat.SsnWalkA Go.Proofs.YthaepkpmpnofgaaGreat.Boxs

theorem run_copy6 {P : Program} (w : World) (dT sT ty elem : TypeId) (g n dCap : Nat) (a : Addr) (sCap : Nat) (cur : Array Value) (t : TypeId) (cs : List Value)
    (hu : P.underlying dT = some (.slice elem)) (hs : (P.info? elem).map (·.size) = some 6)
    (hg : w.heap[g]? = some (.cells cur t (0, 0))) (hn : cs.length = n * 6)
    (hsrc : ∀ j v, cs[j]? = some v → w.cell? (a.add j) = some v) (hfit : cs.length = cur.size) (h1 : ∀ v ∈ cs, v.oneCell' = true) :
    (Builtin.copy_ #[dT, sT] ty #[.slice (some ⟨g, 0, none⟩) n dCap, .slice (some a) n sCap]).run P w = .ok (goInt n) (w.setRow g cs.toArray) := by
  have hl := run_loadCells_list (P := P) w a cs hsrc
  have hst := run_storeCells_at P g 0 t cs 0 cur w hg (by omega) h1
  have e1 : cur.toList.drop cs.length = [] := List.drop_eq_nil_of_le (by simp; omega)
  simp only [Nat.add_zero, Nat.zero_add, List.take_zero, List.nil_append, e1, List.append_nil] at hst
  cases hq : P.info? elem with
  | none => simp [hq] at hs
  | some i =>
    have hi : i.size = 6 := by simpa [hq] using hs
    simp [Builtin.copy_, run_underlying hu, Builtin.lenOf, Builtin.firstCells, sizeOf, typeInfo, hq, hi, ← hn, hl, hst]
theorem run_copy0 {P : Program} (w : World) (dT sT ty elem : TypeId) (d a : Option Addr) (dCap sCap : Nat)
    (hu : P.underlying dT = some (.slice elem)) (hs : (P.info? elem).map (·.size) = some 6) :
    (Builtin.copy_ #[dT, sT] ty #[.slice d 0 dCap, .slice a 0 sCap]).run P w = .ok (goInt 0) w := by
  cases hq : P.info? elem with
  | none => simp [hq] at hs
  | some i =>
    have hi : i.size = 6 := by simpa [hq] using hs
    cases d <;> cases a <;> simp [Builtin.copy_, run_underlying hu, Builtin.lenOf, Builtin.firstCells, sizeOf, typeInfo, hq, hi, storeCells, loadCells, loadCellsFrom]
theorem infoZ : ((Tryz.prog.info? 63).map (·.size)) = some 6 := by kernel_rfl
/-- The rows, copied. -/
def Listed (w : World) (l : List Rw) (e : Ending) (w' : World) : Prop := ∃ A c, e = .returned (.slice A l.length c) ∧ RR w' w'.heap.size A l.length l ∧ Below w.heap.size w w'
set_option maxRecDepth 100000 in
theorem rows_none (w : World) : Calls Tryz.prog 55 #[.pointer none] w (Listed w []) := by
  go_enter Tryz.func55, Tryz.ntmps55
  go_wp2
  go_ret
  exact ⟨none, 0, rfl, RR.nil _ _ _, Below.refl _ _⟩
/-- A new row of zeros. -/
theorem made (w : World) (n : Nat) (hn : n ≤ 1000) : ∃ w1, (Instr.makeSlice 60 (.int .i64 (n : Int)) (.int .i64 (n : Int))).run Tryz.prog w = .ok (.slice (some ⟨w.heap.size, 0, none⟩) n n) w1 ∧
    (∃ cur, w1.heap[w.heap.size]? = some (.cells cur 63 (0, 0)) ∧ cur.size = n * 6) ∧ Below w.heap.size w w1 := by
  obtain ⟨i0, hi0, hz0, hz1, hz2⟩ := info_parts infoP
  obtain ⟨w1, h1, h2, h3⟩ := run_makeSlice_full (P := Tryz.prog) w w.heap.size 60 63 i0 _ 6 Tryz.underlying60 hi0 hz0 hz1 .i64 .i64 n (by omega) (by rw [hz2]; omega) (by unfold maxLen; omega) (Nat.le_refl _)
  refine ⟨w1, h1, ?_, (Below.refl _ _).grown h3 (Nat.le_refl _) (by simp)⟩
  rcases h2.2 with ⟨e, _⟩ | ⟨g, cap, cur, e, hb, hg, h4, h5, h6, h7⟩
  · cases e
  · cases e
    exact ⟨cur, hg, h6⟩
section
variable {T : Shape} {B : Nat} {w : World} {p : Nat} {v : Value} {m : Tb}
set_option maxRecDepth 100000 in
theorem rows_any (h : PT T B w p v m) (hf : m.rows.length ≤ 16) : Calls Tryz.prog 55 #[.pointer (some ⟨p, 0, none⟩)] w (Listed w m.rows) := by
  obtain ⟨w1, hmk, ⟨cur, hg, hcs⟩, hb1⟩ := made w m.rows.length (by omega)
  have c2 := h.c2
  have hp := h.plt
  have h1 := h.below hb1
  have d2 := h1.c2
  have hp1 := h1.plt
  obtain ⟨A, c, rfl, hnc, hcm, hr⟩ := h1.form
  obtain ⟨n, hl⟩ : ∃ n, m.rows.length = n := ⟨_, rfl⟩
  rw [hl] at hmk hcs c2 d2 hnc hr hf
  have hlt : w.heap.size < w1.heap.size := lt_at hg
  rcases Nat.eq_zero_or_pos n with h0 | h0
  · subst h0
    have hrows : m.rows = [] := List.eq_nil_of_length_eq_zero hl
    rw [hrows]
    have hcp := fun ty => run_copy0 (P := Tryz.prog) w1 60 60 ty 63 (some ⟨w.heap.size, 0, none⟩) A 0 c Tryz.underlying60 infoZ
    have hmk0 : (Instr.makeSlice 60 (.int .i64 0) (.int .i64 0)).run Tryz.prog w = .ok (.slice (some ⟨w.heap.size, 0, none⟩) 0 0) w1 := hmk
    clear h h1 hr hg hl hrows hmk
    go_enter Tryz.func55, Tryz.ntmps55
    go_wp2
    go_ret
    exact ⟨_, 0, rfl, RR.nil _ _ _, hb1⟩
  · obtain ⟨ad, rfl, hbl, hcell⟩ := hr.2 h0
    have hcp := fun ty => run_copy6 (P := Tryz.prog) w1 60 60 ty 63 w.heap.size n n ad c cur _ (rcells m.rows) Tryz.underlying60 infoZ hg (by rw [rcells_length, hl]) hcell (by rw [rcells_length, hl, hcs]) (rcells_one _)
    have hrow := setRow_heap w1 w.heap.size cur (rcells m.rows).toArray _ (0, 0) hg
    have HR : Hid (Listed w m.rows (.returned (.slice (some ⟨w.heap.size, 0, none⟩) n n)) (w1.setRow w.heap.size (rcells m.rows).toArray)) := by
      refine ⟨_, n, by rw [hl], ⟨by rw [rcells_length], fun hn => ⟨_, rfl, lt_at hrow, fun j u hj => ?_⟩⟩, below_setRow hb1 (Nat.le_refl _) _⟩
      rw [Addr.add_lit, Nat.zero_add, cell_of_row _ _ j _ _ (0, 0) hrow]
      simpa using hj
    clear h h1 hr hg hrow hcell
    go_enter Tryz.func55, Tryz.ntmps55
    go_wp2
    go_ret
    exact HR.out
end
end Go.Proofs.YthaepkpmpnofgaaGreat.SsnWalkD
set_option linter.unusedVariables false
set_option linter.unusedSimpArgs false
namespace Go.Proofs.YthaepkpmpnofgaaGreat.SsnWalkE
open Go.RowKit Go.Proofs.YthaepkpmpnofgaaGreat.Kit Go.Proofs.YthaepkpmpnofgaaGreat.Blocks Go.Proofs.YthaepkpmpnofgaaGreat.Ses Go.Proofs.YthaepkpmpnofgaaGreat.Rws Go.Proofs.YthaepkpmpnofgaaGreat.SsnWalkA Go.Proofs.YthaepkpmpnofgaaGreat.Boxs

set_option maxRecDepth 100000 in
/-- The closure: wasn't it used for too long? -/
theorem late_any {w : World} {Bx t : Nat} (hc : w.cell? ⟨Bx, 0, none⟩ = some (.int .u64 (t : Int))) (hlt : Bx < w.heap.size) (ht : U t) {r : Rw} (hu : r.used ≤ t) {q : Bool} (hq : Hid (kept t r = q)) :
    Calls Tryz.prog 67 #[rwV r, .pointer (some ⟨Bx, 0, none⟩)] w fun e w' => e = .returned (.bool (!q)) ∧ Below w.heap.size w w' := by
  obtain ⟨a, d, s, y, z, x⟩ := r
  unfold rwV
  simp only at hu ⊢
  have hw : IntKind.u64.wrap ((t : Int) - (d : Int)) = ((t - d : Nat) : Int) := by rw [show (t : Int) - (d : Int) = ((t - d : Nat) : Int) by omega]; exact IntWalk.u64_in _ ⟨by omega, by omega⟩
  have hb : decide ((1000 : Int) < ((t - d : Nat) : Int)) = !q := by
    rw [← hq.out]; unfold kept; simp only
    by_cases e : t - d ≤ 1000
    · rw [decide_eq_true e, decide_eq_false (by omega)]; rfl
    · rw [decide_eq_false e, decide_eq_true (by omega)]; rfl
  obtain ⟨k, hk⟩ : ∃ k, t - d = k := ⟨_, rfl⟩
  rw [hk] at hw hb
  have hbo := fun o => (Below.refl w.heap.size w).alloc (Nat.le_refl _) o
  clear hq
  go_enter Tryz.func67, Tryz.ntmps67
  go_wp2
  go_ret
  exact ⟨by simp [hb], hbo _⟩
theorem take_snoc {α : Type} (l : List α) (k : Nat) (e : α) (h : l[k]? = some e) : l.take (k + 1) = l.take k ++ [e] := by
  obtain ⟨hk, rfl⟩ := List.getElem?_eq_some_iff.1 h
  rw [List.take_succ_eq_append_getElem hk]
def fnV (Bx : Nat) : Value := .func (.func 67) #[] #[.pointer (some ⟨Bx, 0, none⟩)]
section
variable {w : World} {D n c Bx t : Nat} {A : Option Addr} {l : List Rw}
set_option maxRecDepth 100000 in
theorem index_any (hr : RR w D A n l) (hD : D ≤ w.heap.size) (h63 : n ≤ 9223372036854775807) (hc : w.cell? ⟨Bx, 0, none⟩ = some (.int .u64 (t : Int))) (hlt : Bx < w.heap.size) (ht : U t) (hu : ∀ r ∈ l, r.used ≤ t) :
    Calls Tryz.prog 98 #[.slice A n c, .func (.func 67) #[] #[.pointer (some ⟨Bx, 0, none⟩)]] w fun e w' =>
      (e = .returned (.int .i64 (-1)) ∧ (∀ r ∈ l, kept t r = true) ∨ ∃ (i : Nat) (r : Rw), e = .returned (.int .i64 (i : Int)) ∧ l[i]? = some r ∧ kept t r = false ∧ ∀ r ∈ l.take i, kept t r = true) ∧ Below w.heap.size w w' := by
  have HR := Lib.hid hr
  have HLn := Lib.hid (RR.len hr)
  have HC := Lib.hid hc
  have HU := Lib.hid hu
  clear hr hc hu
  go_enter Tryz.func98, Tryz.ntmps98
  go_wp2
  go_loopw [8] (fun i wr => ∃ k : Nat, k ≤ n ∧ i = .int .i64 (k : Int) ∧ Hid (∀ r ∈ l.take k, kept t r = true) ∧ Below w.heap.size w wr) (fun i _ => n - (intOf i).toNat)
  case atStart => exact ⟨0, by omega, rfl, (by intro r hr; simp at hr), Below.refl _ _⟩
  case round =>
    obtain ⟨k, hk, rfl, hno, hbw⟩ := hrel
    by_cases hk' : k < n
    · have hrr := (Kit.Reads.below (HR.out.more hD) hbw)
      obtain ⟨b', o', r, rfl, hb', he, ⟨y0, y1, y2, y3, y4, y5⟩⟩ := RR.at_ hrr hk'
      have hcw := (hbw.cell (p := ⟨Bx, 0, none⟩) hlt).trans HC.out
      have hlw : Bx < wr.heap.size := Nat.lt_of_lt_of_le hlt hbw.size
      obtain ⟨q, hq⟩ : ∃ q, kept t r = q := ⟨_, rfl⟩
      have hs := late_any hcw hlw ht (HU.out r (List.mem_of_getElem? he)) (Lib.hid hq)
      have HT := Lib.hid (take_snoc l k _ he)
      have HE := Lib.hid he
      unfold rwV at hs
      have HS := Lib.hid hs
      have HQ := Lib.hid hq
      clear hrr he hs hq hcw
      go_wp2_with fail
      refine HS.out.mono ?_
      rintro e w2 ⟨rfl, hb2⟩
      cases q with
      | false =>
        go_wp2
        go_ret
        exact ⟨.inr ⟨k, r, rfl, HE.out, HQ.out, hno.out⟩, hbw.trans (hb2.mono hbw.size)⟩
      | true =>
        go_wp2
        go_roundw
        case rel =>
          refine ⟨k + 1, by omega, by simp, ?_, hbw.trans (hb2.mono hbw.size)⟩
          show ∀ r ∈ l.take (k + 1), kept t r = true
          rw [HT.out]
          intro x hx
          rcases List.mem_append.1 hx with hx | hx
          · exact hno.out x hx
          · simp at hx; subst hx; exact HQ.out
        case measure => simp [intOf]; omega
    · obtain rfl : k = n := by omega
      go_wp2
      go_ret
      refine ⟨.inl ⟨rfl, ?_⟩, hbw⟩
      have := hno.out
      rwa [List.take_of_length_le (by rw [HLn.out]; exact Nat.le_refl _)] at this
end
end Go.Proofs.YthaepkpmpnofgaaGreat.SsnWalkE
set_option linter.unusedVariables false
set_option linter.unusedSimpArgs false
namespace Go.Proofs.YthaepkpmpnofgaaGreat.SsnWalkF
open Go.RowKit Go.Proofs.YthaepkpmpnofgaaGreat.Kit Go.Proofs.YthaepkpmpnofgaaGreat.Blocks Go.Proofs.YthaepkpmpnofgaaGreat.Ses Go.Proofs.YthaepkpmpnofgaaGreat.Rws Go.Proofs.YthaepkpmpnofgaaGreat.SsnWalkA Go.Proofs.YthaepkpmpnofgaaGreat.Boxs Go.Proofs.YthaepkpmpnofgaaGreat.SsnWalkE

theorem heap_setCells {t : TypeId} {g : Nat} : ∀ (vs : List Value) (o : Nat) (w : World) (cur : Array Value), w.heap[g]? = some (.cells cur t (0, 0)) → o + vs.length ≤ cur.size →
    ∃ cur' : Array Value, (w.setCells g o vs).heap[g]? = some (.cells cur' t (0, 0)) ∧ cur'.size = cur.size ∧ cur'.toList = cur.toList.take o ++ vs ++ cur.toList.drop (o + vs.length)
  | [], o, w, cur, h, hl => ⟨cur, h, rfl, by simp⟩
  | v :: vs, o, w, cur, h, hl => by
    obtain ⟨cur', h1, h2, h3⟩ := heap_setCells vs (o + 1) (w.setCell ⟨g, o, none⟩ v) (cur.setIfInBounds o v) (set_at h v) (by simp at hl ⊢; omega)
    refine ⟨cur', h1, by simpa using h2, ?_⟩
    rw [h3]
    have e := list_seg_step cur.toList o v vs (by simp at hl ⊢; omega)
    simpa [Array.toList_setIfInBounds, Nat.add_assoc] using e
theorem only_setCells (g : Nat) : ∀ (vs : List Value) (o : Nat) (w : World), Only (fun q => q = g) w (w.setCells g o vs)
  | [], o, w => Only.refl _ w
  | v :: vs, o, w => ((Only.refl (fun q => q = g) w).setCell (a := ⟨g, o, none⟩) (.inr rfl) v).trans (only_setCells g vs (o + 1) _)

/-- Behind j rows of which k were kept. -/
structure Mid (w : World) (g : Nat) (cur : Array Value) (l : List Rw) (t j k : Nat) (wr : World) : Prop where
  ex : ∃ cur' : Array Value, wr.heap[g]? = some (.cells cur' 63 (0, 0)) ∧ cur'.size = cur.size ∧ cur'.toList.take (k * 6) = rcells ((l.take j).filter (kept t)) ∧ cur'.toList.drop (j * 6) = cur.toList.drop (j * 6)
  len : ((l.take j).filter (kept t)).length = k
  lt : k < j
  only : Only (fun q => q = g) w wr
section
variable {w wr w2 : World} {g t j k n : Nat} {cur : Array Value} {l : List Rw}
theorem Mid.below (h : Mid w g cur l t j k wr) (hb : Below wr.heap.size wr w2) : Mid w g cur l t j k w2 := by
  obtain ⟨c1, h1, h2, h3, h4⟩ := h.ex
  exact ⟨⟨c1, (hb.block g (lt_at h1)).trans h1, h2, h3, h4⟩, h.len, h.lt, h.only.thenBelow hb⟩
/-- The row that is asked for. -/
theorem Mid.six (h : Mid w g cur l t j k wr) (hn : l.length = n) (hcur : cur.toList.take (n * 6) = rcells l) {r : Rw} (hr : l[j]? = some r) : Six wr g (j * 6) r ∧ g < wr.heap.size := by
  obtain ⟨c1, h1, h2, h3, h4⟩ := h.ex
  have hj : j < l.length := (List.getElem?_eq_some_iff.1 hr).1
  have hcell : ∀ i u, i < 6 → (rwCs r)[i]? = some u → wr.cell? ⟨g, j * 6 + i, none⟩ = some u := fun i u hi hu => by
    rw [cell_at h1, ← Array.getElem?_toList, ← List.getElem?_drop, h4, List.getElem?_drop, ← List.getElem?_take_of_lt (i := j * 6 + i) (j := n * 6) (by omega), hcur, rcells_get l j i r hr hi, hu]
  exact ⟨⟨hcell 0 _ (by omega) rfl, hcell 1 _ (by omega) rfl, hcell 2 _ (by omega) rfl, hcell 3 _ (by omega) rfl, hcell 4 _ (by omega) rfl, hcell 5 _ (by omega) rfl⟩, lt_at h1⟩
/-- The cells to be written are there. -/
theorem Mid.room (h : Mid w g cur l t j k wr) (hs : cur.size = n) (hj : j * 6 ≤ n) (i : Nat) (hi : i < 6) : (∃ u, wr.cell? ⟨g, k * 6 + i, none⟩ = some u) ∧ wr.frozen? ⟨g, k * 6 + i, none⟩ = false := by
  obtain ⟨c1, h1, h2, h3, h4⟩ := h.ex
  have := h.lt
  refine ⟨?_, free_at h1 _⟩
  rw [cell_at h1]
  exact ⟨_, Array.getElem?_eq_getElem (by omega)⟩
theorem Mid.drop (h : Mid w g cur l t j k wr) {r : Rw} (hr : l[j]? = some r) (hk : kept t r = false) : Mid w g cur l t (j + 1) k wr := by
  obtain ⟨c1, h1, h2, h3, h4⟩ := h.ex
  have hl := h.len
  have hlt := h.lt
  have e : (l.take (j + 1)).filter (kept t) = (l.take j).filter (kept t) := by rw [take_snoc l j r hr, List.filter_append]; simp [hk]
  refine ⟨⟨c1, h1, h2, by rw [e]; exact h3, ?_⟩, by rw [e]; exact hl, by omega, h.only⟩
  rw [show (j + 1) * 6 = j * 6 + 6 by omega, ← List.drop_drop, h4, List.drop_drop]
theorem Mid.put (h : Mid w g cur l t j k wr) (hj : j * 6 < cur.size) {r : Rw} (hr : l[j]? = some r) (hk : kept t r = true) : Mid w g cur l t (j + 1) (k + 1) (wr.setCells g (k * 6) (rwCs r)) := by
  obtain ⟨c1, h1, h2, h3, h4⟩ := h.ex
  have hl := h.len
  have hlt := h.lt
  have e : (l.take (j + 1)).filter (kept t) = (l.take j).filter (kept t) ++ [r] := by rw [take_snoc l j r hr, List.filter_append]; simp [hk]
  obtain ⟨c2, k1, k2, k3⟩ := heap_setCells (rwCs r) (k * 6) wr c1 h1 (by show k * 6 + 6 ≤ _; omega)
  have hlen : (c1.toList.take (k * 6)).length = k * 6 := by rw [List.length_take]; simp; omega
  refine ⟨⟨c2, k1, k2.trans h2, ?_, ?_⟩, by rw [e]; simp [hl], by omega, h.only.trans (only_setCells g _ _ _)⟩
  · rw [k3, e, rcells_append, rcells_one_rw, ← h3]
    exact List.take_left' (by rw [List.length_append, hlen]; show _ + 6 = _; omega)
  · rw [k3, List.append_assoc, List.drop_append, hlen, List.drop_of_length_le (by omega), List.nil_append, List.drop_append, List.drop_of_length_le (by show 6 ≤ _; omega), List.nil_append, List.drop_drop]
    have e2 : k * 6 + (rwCs r).length + ((j + 1) * 6 - k * 6 - (rwCs r).length) = j * 6 + 6 := by show k * 6 + 6 + ((j + 1) * 6 - k * 6 - 6) = _; omega
    rw [e2, show (j + 1) * 6 = j * 6 + 6 by omega, ← List.drop_drop, h4, List.drop_drop]
end
theorem zero_one (n : Nat) : ∀ u ∈ (Builtin.zeroCells zR.cells n).toList, u.oneCell' = true := by
  intro u hu
  unfold Builtin.zeroCells at hu
  simp only [Array.toList_map, List.mem_map] at hu
  obtain ⟨i, _, rfl⟩ := hu
  show (zR.cells[i % 6]!).oneCell' = true
  have h6 : i % 6 < 6 := Nat.mod_lt _ (by decide)
  obtain h | h | h | h | h | h : i % 6 = 0 ∨ i % 6 = 1 ∨ i % 6 = 2 ∨ i % 6 = 3 ∨ i % 6 = 4 ∨ i % 6 = 5 := by omega
  all_goals rw [h]; rfl
theorem run_clear_rw (w : World) (ty : TypeId) (g o n c : Nat) (cur : Array Value) (t : TypeId) (hg : w.heap[g]? = some (.cells cur t (0, 0))) (hn : 0 < n) (hfit : o + n * 6 ≤ cur.size) :
    (Builtin.clear_ #[60] ty #[.slice (some ⟨g, o, none⟩) n c]).run Tryz.prog w = .ok (.tuple #[]) (w.setRow g (cur.toList.take o ++ (Builtin.zeroCells zR.cells n).toList ++ cur.toList.drop (o + n * 6)).toArray) := by
  have hv : ∀ w, (zeroValue 63).run Tryz.prog w = .ok zR w := fun w => by kernel_rfl
  have hlen : (Builtin.zeroCells zR.cells n).toList.length = n * 6 := by rw [Array.length_toList, size_zeroCells]; rfl
  have hst := run_storeCells_at Tryz.prog g o t (Builtin.zeroCells zR.cells n).toList 0 cur w hg (by rw [hlen]; omega) (zero_one n)
  rw [hlen] at hst
  simp only [Nat.add_zero] at hst
  obtain ⟨m, rfl⟩ : ∃ m, n = m + 1 := ⟨n - 1, by omega⟩
  simp [Builtin.clear_, run_underlying Tryz.underlying60, hv, hst]
/-- What comes of a table's rows: those that were kept, where they lay. -/
def Del (w : World) (g c : Nat) (cur : Array Value) (l : List Rw) (t : Nat) (e : Ending) (w' : World) : Prop :=
  ∃ cur', e = .returned (.slice (some ⟨g, 0, none⟩) (l.filter (kept t)).length c) ∧ w'.heap[g]? = some (.cells cur' 63 (0, 0)) ∧ cur'.size = cur.size ∧ cur'.toList.take ((l.filter (kept t)).length * 6) = rcells (l.filter (kept t)) ∧ Only (fun q => q = g) w w'
section
variable {w : World} {g n c Bx t : Nat} {cur : Array Value} {l : List Rw}
set_option maxRecDepth 100000 in
set_option maxHeartbeats 4000000 in
theorem delete_any (hg : w.heap[g]? = some (.cells cur 63 (0, 0))) (hl : l.length = n) (hcur : cur.toList.take (n * 6) = rcells l) (hnc : n ≤ c) (hcs : cur.size = c * 6) (h63 : c ≤ 9223372036854775807) (hgB : Bx ≠ g)
    (hc : w.cell? ⟨Bx, 0, none⟩ = some (.int .u64 (t : Int))) (hlt : Bx < w.heap.size) (ht : U t) (hu : ∀ r ∈ l, r.used ≤ t) :
    Calls Tryz.prog 66 #[.slice (some ⟨g, 0, none⟩) n c, .func (.func 67) #[] #[.pointer (some ⟨Bx, 0, none⟩)]] w (Del w g c cur l t) := by
  have hgl := lt_at hg
  have hr : RR w w.heap.size (some ⟨g, 0, none⟩) n l := ⟨by rw [rcells_length, hl], fun hn => ⟨_, rfl, hgl, fun j u hj => by
    rw [Addr.add_lit, Nat.zero_add, cell_at hg, ← Array.getElem?_toList]
    rw [← hcur, List.getElem?_take] at hj
    split at hj
    · exact hj
    · cases hj⟩⟩
  have hix := index_any (c := c) hr (Nat.le_refl _) (by omega) hc hlt ht hu
  have HIX := Lib.hid hix
  have HG := Lib.hid hg
  have HCUR := Lib.hid hcur
  have HL := Lib.hid hl
  have HC := Lib.hid hc
  have HU := Lib.hid hu
  have HCS := Lib.hid hcs
  clear hr hix hg hcur hl hc hu hcs
  go_enter Tryz.func66, Tryz.ntmps66
  go_wp2_with fail
  with_reducible refine HIX.out.mono ?_
  rintro e w1 ⟨hcase, hb1⟩
  have HCASE := Lib.hid hcase
  clear hcase
  rcases HCASE.out with ⟨rfl, hall⟩ | ⟨i, r0, rfl, hi, hk0, hall⟩
  · have HALL := Lib.hid hall
    clear hall HCASE
    go_wp2
    go_ret
    have hf : l.filter (kept t) = l := List.filter_eq_self.2 HALL.out
    refine ⟨cur, by rw [hf, HL.out]; rfl, (hb1.block g (lt_at HG.out)).trans HG.out, rfl, by rw [hf, HL.out]; exact HCUR.out, Only.of_below hb1⟩
  · have hin : i < n := by rw [← HL.out]; exact (List.getElem?_eq_some_iff.1 hi).1
    have hne1 : ((i : Int) == -1) = false := beq_eq_false_iff_ne.2 (by omega)
    have hM : Mid w g cur l t (i + 1) i w1 := by
      have hft : (l.take (i + 1)).filter (kept t) = l.take i := by rw [take_snoc l i r0 hi, List.filter_append]; simp [hk0, List.filter_eq_self.2 hall]
      have hll := HL.out
      refine ⟨⟨cur, (hb1.block g (lt_at HG.out)).trans HG.out, rfl, ?_, rfl⟩, by rw [hft, List.length_take]; omega, by omega, Only.of_below hb1⟩
      rw [hft, rcells_take, ← HCUR.out, List.take_take]
      congr 1
      omega
    have HMID := Lib.hid hM
    clear hM hi hk0 hall HCASE
    go_wp2_with fail
    go_loopw [5, 6] (fun x y wr => ∃ (k j : Nat), j ≤ n ∧ x = .int .i64 (k : Int) ∧ y = .int .i64 (j : Int) ∧ Hid (Mid w g cur l t j k wr)) (fun _ y _ => n - (intOf y).toNat)
    case atStart => exact ⟨i, i + 1, by omega, rfl, by simp, HMID.out⟩
    case round =>
      obtain ⟨k, j, hj, rfl, rfl, hm⟩ := hrel
      have hkj := hm.out.lt
      by_cases hj' : j < n
      · obtain ⟨r, hr⟩ : ∃ r, l[j]? = some r := ⟨_, List.getElem?_eq_getElem (by have := HL.out; omega)⟩
        obtain ⟨⟨y0, y1, y2, y3, y4, y5⟩, hgr⟩ := hm.out.six HL.out HCUR.out hr
        obtain ⟨q, hq⟩ : ∃ q, kept t r = q := ⟨_, rfl⟩
        have hbr : ∀ o, Below wr.heap.size wr (wr.alloc o) := fun o => (Below.refl _ _).alloc (Nat.le_refl _) o
        have HS : Hid (∀ o, Calls Tryz.prog 67 #[.agg #[.int .u64 (r.id : Int), .int .u64 (r.used : Int), .int .u64 (r.seq : Int), .int .i64 r.y.err, .int .u64 (r.y.num : Int), .int .u64 (r.y.ext : Int)], .pointer (some ⟨Bx, 0, none⟩)] (wr.alloc o) fun e w' => e = .returned (.bool (!q)) ∧ Below (wr.alloc o).heap.size (wr.alloc o) w') := fun o => by
          have ho : Only (fun q => q = g) w (wr.alloc o) := hm.out.only.alloc o
          exact late_any ((ho.cell (p := ⟨Bx, 0, none⟩) hlt hgB).trans HC.out) (Nat.lt_of_lt_of_le hlt ho.size) ht (HU.out r (List.mem_of_getElem? hr)) (Lib.hid hq)
        have HR := Lib.hid hr
        have HQ := Lib.hid hq
        clear hr hq
        go_wp2_with fail
        with_reducible refine (HS.out _).mono ?_
        rintro e w2 ⟨rfl, hb2⟩
        have hM2 := hm.out.below ((hbr _).trans (hb2.mono (hbr _).size))
        have hnew := heap_alloc_new wr (.cells #[.int .u64 (r.id : Int), .int .u64 (r.used : Int), .int .u64 (r.seq : Int), .int .i64 r.y.err, .int .u64 (r.y.num : Int), .int .u64 (r.y.ext : Int)] 63)
        have hnew2 := (hb2.block _ (lt_at hnew)).trans hnew
        have b0 := cell_at hnew2 0
        have b1 := cell_at hnew2 1
        have b2 := cell_at hnew2 2
        have b3 := cell_at hnew2 3
        have b4 := cell_at hnew2 4
        have b5 := cell_at hnew2 5
        have hblt := lt_at hnew2
        have hM3 := hM2
        cases q with
        | false =>
          have HD := Lib.hid (hM2.drop HR.out HQ.out)
          clear hM2 hM3 hnew hnew2 b0 b1 b2 b3 b4 b5
          go_wp2
          go_roundw
          case rel => exact ⟨k, j + 1, by omega, rfl, by simp, HD.out⟩
          case measure => simp [intOf]; omega
        | true =>
          have hcsz := HCS.out
          have HP : Hid (Mid w g cur l t (j + 1) (k + 1) ((((((w2.setCell ⟨g, k * 6, none⟩ (.int .u64 (r.id : Int))).setCell ⟨g, k * 6 + 1, none⟩ (.int .u64 (r.used : Int))).setCell ⟨g, k * 6 + 2, none⟩ (.int .u64 (r.seq : Int))).setCell ⟨g, k * 6 + 3, none⟩ (.int .i64 r.y.err)).setCell ⟨g, k * 6 + 4, none⟩ (.int .u64 (r.y.num : Int))).setCell ⟨g, k * 6 + 5, none⟩ (.int .u64 (r.y.ext : Int)))) := hM2.put (by omega) HR.out HQ.out
          obtain ⟨⟨u0, z0⟩, f0⟩ := hM2.room (n := cur.size) rfl (by omega) 0 (by omega)
          obtain ⟨⟨u1, z1⟩, f1⟩ := hM2.room (n := cur.size) rfl (by omega) 1 (by omega)
          obtain ⟨⟨u2, z2⟩, f2⟩ := hM2.room (n := cur.size) rfl (by omega) 2 (by omega)
          obtain ⟨⟨u3, z3⟩, f3⟩ := hM2.room (n := cur.size) rfl (by omega) 3 (by omega)
          obtain ⟨⟨u4, z4⟩, f4⟩ := hM2.room (n := cur.size) rfl (by omega) 4 (by omega)
          obtain ⟨⟨u5, z5⟩, f5⟩ := hM2.room (n := cur.size) rfl (by omega) 5 (by omega)
          rw [Nat.add_zero] at z0 f0
          have hkn : k < n := by omega
          clear hM2 hM3 hnew hnew2
          go_wp2
          refine ⟨⟨k + 1, j + 1, by omega, by simp, by simp, HP.out⟩, ?_⟩
          simp [intOf]; omega
      · obtain rfl : j = n := by omega
        have hlf : l.take j = l := List.take_of_length_le (by rw [HL.out]; exact Nat.le_refl _)
        obtain ⟨c1, k1, k2, k3, k4⟩ := hm.out.ex
        have hlen := hm.out.len
        rw [hlf] at k3 hlen
        have hckI : ¬ c = k := by omega
        have hkjI : k ≤ j := by omega
        have hkcI : k ≤ c := by omega
        have hcl := fun ty => run_clear_rw wr ty g (k * 6) (j - k) (c - k) c1 _ k1 (by omega) (by rw [k2, HCS.out]; omega)
        obtain ⟨R, hR⟩ : ∃ R, wr.setRow g (c1.toList.take (k * 6) ++ (Builtin.zeroCells zR.cells (j - k)).toList ++ c1.toList.drop (k * 6 + (j - k) * 6)).toArray = R := ⟨_, rfl⟩
        rw [hR] at hcl
        have hlen6 : (c1.toList.take (k * 6)).length = k * 6 := by rw [List.length_take, Array.length_toList, k2, HCS.out]; omega
        have hlenz : (Builtin.zeroCells zR.cells (j - k)).toList.length = (j - k) * 6 := by rw [Array.length_toList, size_zeroCells]; rfl
        have HFIN : Hid (Del w g c cur l t (.returned (.slice (some ⟨g, 0, none⟩) k c)) R) := by
          rw [← hR]
          refine ⟨_, by rw [hlen], setRow_heap wr g c1 _ _ (0, 0) k1, ?_, ?_, ?_⟩
          · rw [← Array.length_toList]
            simp only [List.toList_toArray, List.length_append, hlen6, hlenz, List.length_drop, Array.length_toList, k2, HCS.out]
            omega
          · simp only [List.toList_toArray]
            rw [hlen, List.append_assoc, List.take_left' hlen6, k3]
          · refine hm.out.only.trans ⟨rfl, rfl, rfl, by simp [World.setRow], fun q hq hn => setRow_other wr g q _ hn⟩
        clear k1 k3 k4 hR
        go_wp2
        go_ret
        exact HFIN.out
end
end Go.Proofs.YthaepkpmpnofgaaGreat.SsnWalkF
set_option linter.unusedVariables false
set_option linter.unusedSimpArgs false
namespace Go.Proofs.YthaepkpmpnofgaaGreat.SsnWalkG
open Go.RowKit Go.Proofs.YthaepkpmpnofgaaGreat.Kit Go.Proofs.YthaepkpmpnofgaaGreat.Blocks Go.Proofs.YthaepkpmpnofgaaGreat.Ses Go.Proofs.YthaepkpmpnofgaaGreat.Rws Go.Proofs.YthaepkpmpnofgaaGreat.SsnWalkA Go.Proofs.YthaepkpmpnofgaaGreat.Boxs Go.Proofs.YthaepkpmpnofgaaGreat.SsnWalkF

theorem bdn {B : Nat} {a w : World} (h : Below B a w) (n : Nat) : Below B a (w.drewN n) := h.trans ⟨rfl, rfl, rfl, Nat.le_refl _, fun _ _ => rfl⟩
set_option maxRecDepth 100000 in
theorem clock_none (t : Nat) (w : World) : Calls Tryz.prog 25 #[.pointer none, .int .u64 (t : Int)] w fun e w' => e = .returned (.tuple #[]) ∧ Below w.heap.size w w' := by
  have hbo := fun o => (Below.refl w.heap.size w).alloc (Nat.le_refl _) o
  go_enter Tryz.func25, Tryz.ntmps25
  go_wp2
  go_quiet (fail)
  go_wp2
  refine bodyPost_ret (results_none rfl _ _ _) rfl ?_
  exact ⟨rfl, bdn (hbo _) _⟩
section
variable {T : Shape} {B : Nat} {w : World} {p : Nat} {v : Value} {m : Tb}
set_option maxRecDepth 100000 in
/-- DeleteFunc over a table's rows, whatever slice they have. -/
theorem delete_own {W : World} {Bx t : Nat} {v : Value} {l : List Rw} (hown : W.ownsRow B 63 6 v l.length (rcells l)) (hgB : ∀ g, v.ownBlock = some g → Bx ≠ g)
    (hc : W.cell? ⟨Bx, 0, none⟩ = some (.int .u64 (t : Int))) (hlt : Bx < W.heap.size) (ht : U t) (hu : ∀ r ∈ l, r.used ≤ t) :
    Calls Tryz.prog 66 #[v, .func (.func 67) #[] #[.pointer (some ⟨Bx, 0, none⟩)]] W fun e w' =>
      ∃ A c, e = .returned (.slice A (l.filter (kept t)).length c) ∧ w'.ownsRow B 63 6 (.slice A (l.filter (kept t)).length c) (l.filter (kept t)).length (rcells (l.filter (kept t))) ∧ Only (fun q => v.ownBlock = some q) W w' ∧ (Value.slice A (l.filter (kept t)).length c).ownBlock = v.ownBlock := by
  rcases hown.2 with ⟨rfl, h0⟩ | ⟨g, cap, cur, rfl, hbg, hg, hnc, hcm, hcs, htake⟩
  · obtain rfl : l = [] := List.eq_nil_of_length_eq_zero h0
    have hix := SsnWalkE.index_any (c := 0) (A := none) (n := 0) (D := W.heap.size) (RR.nil W W.heap.size none) (Nat.le_refl _) (by omega) hc hlt ht hu
    have HIX := Lib.hid hix
    clear hix hc hu hown
    go_enter Tryz.func66, Tryz.ntmps66
    go_wp2_with fail
    with_reducible refine HIX.out.mono ?_
    rintro e w1 ⟨hcase, hb1⟩
    rcases hcase with ⟨rfl, _⟩ | ⟨i, r0, _, hi, _⟩
    · go_wp2
      go_ret
      exact ⟨none, 0, rfl, World.ownsRow_nil _ _ _ _, Only.of_below hb1, rfl⟩
    · simp at hi
  · unfold maxLen at hcm
    refine (delete_any hg rfl htake hnc hcs (by omega) (hgB g rfl) hc hlt ht hu).mono ?_
    rintro e w' ⟨cur', rfl, h1, h2, h3, h4⟩
    refine ⟨_, _, rfl, ⟨by rw [rcells_length], .inr ⟨g, cap, cur', rfl, hbg, h1, ?_, by unfold maxLen; omega, by rw [h2, hcs], h3⟩⟩, h4.mono fun q _ e => by rw [e]; rfl, rfl⟩
    exact Nat.le_trans (List.length_filter_le _ _) hnc
set_option maxRecDepth 100000 in
theorem clock_no (h : PT T B w p v m) {t : Nat} (ht : t ≤ m.now) : Calls Tryz.prog 25 #[.pointer (some ⟨p, 0, none⟩), .int .u64 (t : Int)] w fun e w' => e = .returned (.tuple #[]) ∧ Below w.heap.size w w' := by
  have hbo := fun o => (Below.refl w.heap.size w).alloc (Nat.le_refl _) o
  have h0 := h.below (hbo (.cells #[.int .u64 (t : Int)] 30))
  have c0 := h0.c0
  have hp := h0.plt
  have htI : (t : Int) ≤ (m.now : Int) := by omega
  have qd : decide ((t : Int) ≤ (m.now : Int)) = true := decide_eq_true htI
  clear h h0 ht
  go_enter Tryz.func25, Tryz.ntmps25
  go_wp2
  go_quiet (fail)
  go_wp2
  refine bodyPost_ret (results_none rfl _ _ _) rfl ?_
  exact ⟨rfl, bdn (hbo _) _⟩
set_option maxRecDepth 100000 in
set_option maxHeartbeats 4000000 in
theorem clock_yes (h : PT T B w p v m) {t : Nat} (ht : m.now < t) (hU : U t) (hu : ∀ r ∈ m.rows, r.used ≤ m.now) : Calls Tryz.prog 25 #[.pointer (some ⟨p, 0, none⟩), .int .u64 (t : Int)] w fun e w' => e = .returned (.tuple #[]) ∧ PLeft T B w p v ⟨t, m.next, m.rows.filter (kept t)⟩ w' := by
  have hbo : Below w.heap.size w (w.alloc (.cells #[.int .u64 (t : Int)] 30)) := (Below.refl w.heap.size w).alloc (Nat.le_refl _) _
  have hnew := heap_alloc_new w (.cells #[.int .u64 (t : Int)] 30)
  obtain ⟨w0, hw0⟩ : ∃ w0, w.alloc (.cells #[.int .u64 (t : Int)] 30) = w0 := ⟨_, rfl⟩
  rw [hw0] at hbo hnew
  have h0 := h.below hbo
  have hpw := h.plt
  have b0 := cell_at hnew 0
  have hblt := lt_at hnew
  have c0 := h0.c0
  have c2 := h0.c2
  have f0 := h0.free 0
  have hp0 := h0.plt
  have htI : ¬ (t : Int) ≤ (m.now : Int) := by omega
  have qd : decide ((t : Int) ≤ (m.now : Int)) = false := decide_eq_false htI
  have FIN : Hid (∀ k, ∃ W1, (w0.drewN k).setCell ⟨p, 0, none⟩ (.int .u64 (t : Int)) = W1 ∧ W1.cell? ⟨p, 2, none⟩ = some v ∧ p < W1.heap.size ∧
      Hid (Calls Tryz.prog 66 #[v, .func (.func 67) #[] #[.pointer (some ⟨w.heap.size, 0, none⟩)]] W1 fun e W2 => ∃ A n c, e = .returned (.slice A n c) ∧
        W2.cell? ⟨p, 2, none⟩ = some v ∧ W2.frozen? ⟨p, 2, none⟩ = false ∧ p < W2.heap.size ∧ PLeft T B w p v ⟨t, m.next, m.rows.filter (kept t)⟩ (W2.setCell ⟨p, 2, none⟩ (.slice A n c)))) := by
    intro k
    have hd := h0.below (bdn (Below.refl _ _) k)
    obtain ⟨h1, o1⟩ := hd.timed t
    refine ⟨_, rfl, h1.c2, h1.plt, ?_⟩
    have hx1 := o1.heap hnew (fun e => by omega)
    have hu2 : ∀ r ∈ m.rows, r.used ≤ t := fun r hr => by have := hu r hr; omega
    refine Calls.mono (delete_own (Bx := w.heap.size) (t := t) (l := m.rows) h1.own (fun g hg e => ?_) (cell_at hx1 0) (lt_at hx1) hU hu2) ?_
    · have := (h.own.lt g hg).2; omega
    · rintro e W2 ⟨A, c, rfl, hown, ho, hat⟩
      obtain ⟨q1, q2, q3, q4⟩ := h1.rowed (L := m.rows.filter (kept t)) ho hown rfl rfl (fun q hq => .inl (hat ▸ hq))
      exact ⟨_, _, _, rfl, q1, q2, q3, LeftT.afterBelow (hbo.trans ((bdn (Below.refl w0.heap.size w0) k).mono hbo.size)) (LeftT.then (o1.mono fun q _ hq => .inl hq) (fun g hg => .inl hg) q4)⟩
  have HW0 := Lib.hid hw0
  clear h h0 hbo hnew hw0 hu ht hU
  go_enter Tryz.func25, Tryz.ntmps25
  go_wp2_with fail
  rw [HW0.out]
  go_quiet (fail)
  go_wp2_with fail
  obtain ⟨W1, hW1, d2, hp1, HDEL⟩ := FIN.out nq
  rw [hW1]
  have HW1 := Lib.hid hW1
  clear hW1
  with_reducible refine HDEL.out.mono ?_
  rintro e W2 ⟨A, n, c, rfl, q1, q2, q3, q4⟩
  have Q4 := Lib.hid q4
  clear q4
  go_wp2
  go_end0
  exact ⟨rfl, Q4.out⟩
end
end Go.Proofs.YthaepkpmpnofgaaGreat.SsnWalkG
set_option linter.unusedVariables false
set_option linter.unusedSimpArgs false
namespace Go.Proofs.YthaepkpmpnofgaaGreat.Cal
open Go.RowKit Go.Proofs.YthaepkpmpnofgaaGreat.Kit Go.Proofs.YthaepkpmpnofgaaGreat.Blocks Go.Proofs.YthaepkpmpnofgaaGreat.Ses Go.Proofs.YthaepkpmpnofgaaGreat.Rws Go.Proofs.YthaepkpmpnofgaaGreat.SsnWalkA

section
variable {T : Shape} {B : Nat} {w : World} {p : Nat} {v : Value} {m : Tb}
theorem clock_any (h : PT T B w p v m) (hG : Sane m) {t : Nat} (ht : U t) {m' : Tb} (hm : Hid (clock m t = m')) : Calls Tryz.prog 25 #[.pointer (some ⟨p, 0, none⟩), .int .u64 (t : Int)] w fun e w' => e = .returned (.tuple #[]) ∧ PLeft T B w p v m' w' := by
  have hm' := hm.out
  unfold clock at hm'
  split at hm'
  · subst hm'
    exact (SsnWalkG.clock_no h (by assumption)).mono fun e w' k => ⟨k.1, LeftT.of_below h k.2⟩
  · subst hm'
    exact SsnWalkG.clock_yes h (by omega) ht fun r hr => (hG.fits r hr).1
theorem reg_any (h : PT T B w p v m) (hG : Sane m) {m' : Tb} {id : Nat} {e0 : Int} (hm : Hid (regT m = m')) (hi : Hid (regId m = id)) (he : Hid (regE m = e0)) : Calls Tryz.prog 68 #[.pointer (some ⟨p, 0, none⟩)] w fun e w' => e = .returned (.tuple #[.int .u64 (id : Int), .int .i64 e0]) ∧ PLeft T B w p v m' w' := by
  have hm' := hm.out
  have hi' := hi.out
  have he' := he.out
  unfold regT at hm'
  unfold regId at hi'
  unfold regE at he'
  by_cases hc : canReg m = true
  · rw [if_pos hc] at hm' hi' he'
    subst hm' hi' he'
    exact SsnWalkB.reg_yes h hG.next hc
  · rw [if_neg hc] at hm' hi' he'
    subst hm' hi' he'
    exact (SsnWalkB.reg_no h hG.next (by simpa using hc)).mono fun e w' k => ⟨k.1, by rw [k.2]; exact LeftT.refl h⟩
theorem beg_any (h : PT T B w p v m) (hG : Sane m) (id : Nat) {s : Nat} (hs : U s) {m' : Tb} {y : Ry} {b : Bool} (hm : Hid (begT m id = m')) (hy : Hid (begY m id s = y)) (hb : Hid (begF m id s = b)) :
    Calls Tryz.prog 71 #[.pointer (some ⟨p, 0, none⟩), .int .u64 (id : Int), .int .u64 (s : Int)] w fun e w' => e = .returned (.tuple #[ryV y, .bool b]) ∧ PLeft T B w p v m' w' := by
  have hm' := hm.out
  have hy' := hy.out
  have hb' := hb.out
  unfold begT at hm'
  unfold begY at hy'
  unfold begF at hb'
  cases hl : seek m.rows id with
  | none =>
    simp only [hl] at hm' hy' hb'
    subst hm' hy' hb'
    exact SsnWalkC.begin_no h id s hl
  | some i =>
    obtain ⟨r, h1, h2, h3, h4⟩ := seek_some hl
    simp only [hl, h1] at hm' hy' hb'
    subst hm'
    exact SsnWalkC.begin_yes h id s hs hl h1 (hG.fits r (List.mem_of_getElem? h1)).2.2.1 (Lib.hid hb') (Lib.hid hy')
theorem end_any (h : PT T B w p v m) (id : Nat) {s : Nat} (hs : U s) (y : Ry) {m' : Tb} {b : Bool} (hm : Hid (endT m id s y = m')) (hb : Hid (endF m id s = b)) :
    Calls Tryz.prog 73 #[.pointer (some ⟨p, 0, none⟩), .int .u64 (id : Int), .int .u64 (s : Int), ryV y] w fun e w' => e = .returned (.bool b) ∧ PLeft T B w p v m' w' := by
  have hm' := hm.out
  have hb' := hb.out
  unfold endT at hm'
  unfold endF begF at hb'
  cases hl : seek m.rows id with
  | none =>
    simp only [hl] at hm' hb'
    subst hm' hb'
    exact SsnWalkC.end_no h id s hl y
  | some i =>
    obtain ⟨r, h1, h2, h3, h4⟩ := seek_some hl
    simp only [hl, h1] at hm' hb'
    cases b with
    | false =>
      rw [if_neg (by rw [hb']; decide)] at hm'
      subst hm'
      exact SsnWalkC.end_stale h id s hs hl h1 hb' y
    | true =>
      rw [if_pos hb'] at hm'
      subst hm'
      exact SsnWalkC.end_yes h id s hs hl h1 hb' y
end
end Go.Proofs.YthaepkpmpnofgaaGreat.Cal
