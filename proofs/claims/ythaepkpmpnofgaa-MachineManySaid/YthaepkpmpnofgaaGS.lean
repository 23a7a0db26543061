/- What DeleteFunc at the closure of Clock leaves, walked. No statement is proved here. -/
import Derived.Test.YthaepkpmpnofgaaHBoxs
import Derived.Laws.CopyOwn
import Derived.OwnWalk
import Derived.Lib.SliceRun
import Derived.Deep.MidRow
set_option linter.unusedVariables false
set_option linter.unusedSimpArgs false
namespace Go.Proofs.Ythaepkpmpnofgaa.SsnWalkD
open Go.RowKit Go.Proofs.Ythaepkpmpnofgaa.Kit Go.Proofs.Ythaepkpmpnofgaa.Blocks Go.Proofs.Ythaepkpmpnofgaa.Ses Go.Proofs.Ythaepkpmpnofgaa.Rws Go.Proofs.Ythaepkpmpnofgaa.SsnWalkA Go.Proofs.Ythaepkpmpnofgaa.Boxs

theorem run_copy6 {P : Program} (w : World) (dT sT ty elem : TypeId) (g n dCap : Nat) (a : Addr) (sCap : Nat) (cur : Array Value) (t : TypeId) (cs : List Value)
    (hu : P.underlying dT = some (.slice elem)) (hs : (P.info? elem).map (·.size) = some 6)
    (hg : w.heap[g]? = some (.cells cur t (0, 0))) (hn : cs.length = n * 6)
    (hsrc : ∀ j v, cs[j]? = some v → w.cell? (a.add j) = some v) (hfit : cs.length = cur.size) (h1 : ∀ v ∈ cs, v.oneCell' = true) :
    (Builtin.copy_ #[dT, sT] ty #[.slice (some ⟨g, 0, none⟩) n dCap, .slice (some a) n sCap]).run P w = .ok (goInt n) (w.setRow g cs.toArray) := by
  have hl := run_loadCells_list (P := P) w a cs hsrc
  have hst := run_storeCells_at P g 0 t cs 0 cur w hg (by omega) h1
  have e1 : cur.toList.drop cs.length = [] := List.drop_eq_nil_of_le (by simp; omega)
  simp only [Nat.add_zero, Nat.zero_add, List.take_zero, List.nil_append, e1, List.append_nil] at hst
  cases hq : P.info? elem with
  | none => simp [hq] at hs
  | some i =>
    have hi : i.size = 6 := by simpa [hq] using hs
    simp [Builtin.copy_, run_underlying hu, Builtin.lenOf, Builtin.firstCells, sizeOf, typeInfo, hq, hi, ← hn, hl, hst]
theorem run_copy0 {P : Program} (w : World) (dT sT ty elem : TypeId) (d a : Option Addr) (dCap sCap : Nat)
    (hu : P.underlying dT = some (.slice elem)) (hs : (P.info? elem).map (·.size) = some 6) :
    (Builtin.copy_ #[dT, sT] ty #[.slice d 0 dCap, .slice a 0 sCap]).run P w = .ok (goInt 0) w := by
  cases hq : P.info? elem with
  | none => simp [hq] at hs
  | some i =>
    have hi : i.size = 6 := by simpa [hq] using hs
    cases d <;> cases a <;> simp [Builtin.copy_, run_underlying hu, Builtin.lenOf, Builtin.firstCells, sizeOf, typeInfo, hq, hi, storeCells, loadCells, loadCellsFrom]
theorem infoZ : ((Try.prog.info? 85).map (·.size)) = some 6 := by kernel_rfl
/-- The rows, copied. -/
def Listed (w : World) (l : List Rw) (e : Ending) (w' : World) : Prop := ∃ A c, e = .returned (.slice A l.length c) ∧ RR w' w'.heap.size A l.length l ∧ Below w.heap.size w w'
/-- A new row of zeros. -/
theorem made (w : World) (n : Nat) (hn : n ≤ 1000) : ∃ w1, (Instr.makeSlice 77 (.int .i64 (n : Int)) (.int .i64 (n : Int))).run Try.prog w = .ok (.slice (some ⟨w.heap.size, 0, none⟩) n n) w1 ∧
    (∃ cur, w1.heap[w.heap.size]? = some (.cells cur 85 (0, 0)) ∧ cur.size = n * 6) ∧ Below w.heap.size w w1 := by
  obtain ⟨i0, hi0, hz0, hz1, hz2⟩ := info_parts infoP
  obtain ⟨w1, h1, h2, h3⟩ := run_makeSlice_full (P := Try.prog) w w.heap.size 77 85 i0 _ 6 Try.underlying77 hi0 hz0 hz1 .i64 .i64 n (by omega) (by rw [hz2]; omega) (by unfold maxLen; omega) (Nat.le_refl _)
  refine ⟨w1, h1, ?_, (Below.refl _ _).grown h3 (Nat.le_refl _) (by simp)⟩
  rcases h2.2 with ⟨e, _⟩ | ⟨g, cap, cur, e, hb, hg, h4, h5, h6, h7⟩
  · cases e
  · cases e
    exact ⟨cur, hg, h6⟩
section
variable {T : Shape} {B : Nat} {w : World} {p : Nat} {v : Value} {m : Tb}
end
end Go.Proofs.Ythaepkpmpnofgaa.SsnWalkD
set_option linter.unusedVariables false
set_option linter.unusedSimpArgs false
namespace Go.Proofs.Ythaepkpmpnofgaa.SsnWalkE
open Go.RowKit Go.Proofs.Ythaepkpmpnofgaa.Kit Go.Proofs.Ythaepkpmpnofgaa.Blocks Go.Proofs.Ythaepkpmpnofgaa.Ses Go.Proofs.Ythaepkpmpnofgaa.Rws Go.Proofs.Ythaepkpmpnofgaa.SsnWalkA Go.Proofs.Ythaepkpmpnofgaa.Boxs

set_option maxRecDepth 100000 in
/-- The closure: wasn't it used for too long? -/
theorem late_any {w : World} {Bx t : Nat} (hc : w.cell? ⟨Bx, 0, none⟩ = some (.int .u64 (t : Int))) (hlt : Bx < w.heap.size) (ht : U t) {r : Rw} (hu : r.used ≤ t) {q : Bool} (hq : Hid (kept t r = q)) :
    Calls Try.prog 39 #[rwV r, .pointer (some ⟨Bx, 0, none⟩)] w fun e w' => e = .returned (.bool (!q)) ∧ Below w.heap.size w w' := by
  obtain ⟨a, d, s, y, z, x⟩ := r
  unfold rwV
  simp only at hu ⊢
  have hw : IntKind.u64.wrap ((t : Int) - (d : Int)) = ((t - d : Nat) : Int) := by rw [show (t : Int) - (d : Int) = ((t - d : Nat) : Int) by omega]; exact IntWalk.u64_in _ ⟨by omega, by omega⟩
  have hb : decide ((1000 : Int) < ((t - d : Nat) : Int)) = !q := by
    rw [← hq.out]; unfold kept; simp only
    by_cases e : t - d ≤ 1000
    · rw [decide_eq_true e, decide_eq_false (by omega)]; rfl
    · rw [decide_eq_false e, decide_eq_true (by omega)]; rfl
  obtain ⟨k, hk⟩ : ∃ k, t - d = k := ⟨_, rfl⟩
  rw [hk] at hw hb
  have hbo := fun o => (Below.refl w.heap.size w).alloc (Nat.le_refl _) o
  clear hq
  go_enter Try.func39, Try.ntmps39
  go_wp2
  go_ret
  exact ⟨by simp [hb], hbo _⟩
theorem take_snoc {α : Type} (l : List α) (k : Nat) (e : α) (h : l[k]? = some e) : l.take (k + 1) = l.take k ++ [e] := by
  obtain ⟨hk, rfl⟩ := List.getElem?_eq_some_iff.1 h
  rw [List.take_succ_eq_append_getElem hk]
def fnV (Bx : Nat) : Value := .func (.func 39) #[] #[.pointer (some ⟨Bx, 0, none⟩)]
section
variable {w : World} {D n c Bx t : Nat} {A : Option Addr} {l : List Rw}
set_option maxRecDepth 100000 in
theorem index_any (hr : RR w D A n l) (hD : D ≤ w.heap.size) (h63 : n ≤ 9223372036854775807) (hc : w.cell? ⟨Bx, 0, none⟩ = some (.int .u64 (t : Int))) (hlt : Bx < w.heap.size) (ht : U t) (hu : ∀ r ∈ l, r.used ≤ t) :
    Calls Try.prog 63 #[.slice A n c, .func (.func 39) #[] #[.pointer (some ⟨Bx, 0, none⟩)]] w fun e w' =>
      (e = .returned (.int .i64 (-1)) ∧ (∀ r ∈ l, kept t r = true) ∨ ∃ (i : Nat) (r : Rw), e = .returned (.int .i64 (i : Int)) ∧ l[i]? = some r ∧ kept t r = false ∧ ∀ r ∈ l.take i, kept t r = true) ∧ Below w.heap.size w w' := by
  have HR := Lib.hid hr
  have HLn := Lib.hid (RR.len hr)
  have HC := Lib.hid hc
  have HU := Lib.hid hu
  clear hr hc hu
  go_enter Try.func63, Try.ntmps63
  go_wp2
  go_loopw [8] (fun i wr => ∃ k : Nat, k ≤ n ∧ i = .int .i64 (k : Int) ∧ Hid (∀ r ∈ l.take k, kept t r = true) ∧ Below w.heap.size w wr) (fun i _ => n - (intOf i).toNat)
  case atStart => exact ⟨0, by omega, rfl, (by intro r hr; simp at hr), Below.refl _ _⟩
  case round =>
    obtain ⟨k, hk, rfl, hno, hbw⟩ := hrel
    by_cases hk' : k < n
    · have hrr := (Kit.Reads.below (HR.out.more hD) hbw)
      obtain ⟨b', o', r, rfl, hb', he, ⟨y0, y1, y2, y3, y4, y5⟩⟩ := RR.at_ hrr hk'
      have hcw := (hbw.cell (p := ⟨Bx, 0, none⟩) hlt).trans HC.out
      have hlw : Bx < wr.heap.size := Nat.lt_of_lt_of_le hlt hbw.size
      obtain ⟨q, hq⟩ : ∃ q, kept t r = q := ⟨_, rfl⟩
      have hs := late_any hcw hlw ht (HU.out r (List.mem_of_getElem? he)) (Lib.hid hq)
      have HT := Lib.hid (take_snoc l k _ he)
      have HE := Lib.hid he
      unfold rwV at hs
      have HS := Lib.hid hs
      have HQ := Lib.hid hq
      clear hrr he hs hq hcw
      go_wp2_with fail
      refine HS.out.mono ?_
      rintro e w2 ⟨rfl, hb2⟩
      cases q with
      | false =>
        go_wp2
        go_ret
        exact ⟨.inr ⟨k, r, rfl, HE.out, HQ.out, hno.out⟩, hbw.trans (hb2.mono hbw.size)⟩
      | true =>
        go_wp2
        go_roundw
        case rel =>
          refine ⟨k + 1, by omega, by simp, ?_, hbw.trans (hb2.mono hbw.size)⟩
          show ∀ r ∈ l.take (k + 1), kept t r = true
          rw [HT.out]
          intro x hx
          rcases List.mem_append.1 hx with hx | hx
          · exact hno.out x hx
          · simp at hx; subst hx; exact HQ.out
        case measure => simp [intOf]; omega
    · obtain rfl : k = n := by omega
      go_wp2
      go_ret
      refine ⟨.inl ⟨rfl, ?_⟩, hbw⟩
      have := hno.out
      rwa [List.take_of_length_le (by rw [HLn.out]; exact Nat.le_refl _)] at this
end
end Go.Proofs.Ythaepkpmpnofgaa.SsnWalkE
set_option linter.unusedVariables false
set_option linter.unusedSimpArgs false
namespace Go.Proofs.Ythaepkpmpnofgaa.SsnWalkF
open Go.RowKit Go.Proofs.Ythaepkpmpnofgaa.Kit Go.Proofs.Ythaepkpmpnofgaa.Blocks Go.Proofs.Ythaepkpmpnofgaa.Ses Go.Proofs.Ythaepkpmpnofgaa.Rws Go.Proofs.Ythaepkpmpnofgaa.SsnWalkA Go.Proofs.Ythaepkpmpnofgaa.Boxs Go.Proofs.Ythaepkpmpnofgaa.SsnWalkE

theorem heap_setCells {t : TypeId} {g : Nat} : ∀ (vs : List Value) (o : Nat) (w : World) (cur : Array Value), w.heap[g]? = some (.cells cur t (0, 0)) → o + vs.length ≤ cur.size →
    ∃ cur' : Array Value, (w.setCells g o vs).heap[g]? = some (.cells cur' t (0, 0)) ∧ cur'.size = cur.size ∧ cur'.toList = cur.toList.take o ++ vs ++ cur.toList.drop (o + vs.length)
  | [], o, w, cur, h, hl => ⟨cur, h, rfl, by simp⟩
  | v :: vs, o, w, cur, h, hl => by
    obtain ⟨cur', h1, h2, h3⟩ := heap_setCells vs (o + 1) (w.setCell ⟨g, o, none⟩ v) (cur.setIfInBounds o v) (set_at h v) (by simp at hl ⊢; omega)
    refine ⟨cur', h1, by simpa using h2, ?_⟩
    rw [h3]
    have e := list_seg_step cur.toList o v vs (by simp at hl ⊢; omega)
    simpa [Array.toList_setIfInBounds, Nat.add_assoc] using e
theorem only_setCells (g : Nat) : ∀ (vs : List Value) (o : Nat) (w : World), Only (fun q => q = g) w (w.setCells g o vs)
  | [], o, w => Only.refl _ w
  | v :: vs, o, w => ((Only.refl (fun q => q = g) w).setCell (a := ⟨g, o, none⟩) (.inr rfl) v).trans (only_setCells g vs (o + 1) _)

/-- Behind j rows of which k were kept. -/
structure Mid (w : World) (g : Nat) (cur : Array Value) (l : List Rw) (t j k : Nat) (wr : World) : Prop where
  ex : ∃ cur' : Array Value, wr.heap[g]? = some (.cells cur' 85 (0, 0)) ∧ cur'.size = cur.size ∧ cur'.toList.take (k * 6) = rcells ((l.take j).filter (kept t)) ∧ cur'.toList.drop (j * 6) = cur.toList.drop (j * 6)
  len : ((l.take j).filter (kept t)).length = k
  lt : k < j
  only : Only (fun q => q = g) w wr
section
variable {w wr w2 : World} {g t j k n : Nat} {cur : Array Value} {l : List Rw}
theorem Mid.below (h : Mid w g cur l t j k wr) (hb : Below wr.heap.size wr w2) : Mid w g cur l t j k w2 := by
  obtain ⟨c1, h1, h2, h3, h4⟩ := h.ex
  exact ⟨⟨c1, (hb.block g (lt_at h1)).trans h1, h2, h3, h4⟩, h.len, h.lt, h.only.thenBelow hb⟩
/-- The row that is asked for. -/
theorem Mid.six (h : Mid w g cur l t j k wr) (hn : l.length = n) (hcur : cur.toList.take (n * 6) = rcells l) {r : Rw} (hr : l[j]? = some r) : Six wr g (j * 6) r ∧ g < wr.heap.size := by
  obtain ⟨c1, h1, h2, h3, h4⟩ := h.ex
  have hj : j < l.length := (List.getElem?_eq_some_iff.1 hr).1
  have hcell : ∀ i u, i < 6 → (rwCs r)[i]? = some u → wr.cell? ⟨g, j * 6 + i, none⟩ = some u := fun i u hi hu => by
    rw [cell_at h1, ← Array.getElem?_toList, ← List.getElem?_drop, h4, List.getElem?_drop, ← List.getElem?_take_of_lt (i := j * 6 + i) (j := n * 6) (by omega), hcur, rcells_get l j i r hr hi, hu]
  exact ⟨⟨hcell 0 _ (by omega) rfl, hcell 1 _ (by omega) rfl, hcell 2 _ (by omega) rfl, hcell 3 _ (by omega) rfl, hcell 4 _ (by omega) rfl, hcell 5 _ (by omega) rfl⟩, lt_at h1⟩
/-- The cells to be written are there. -/
theorem Mid.room (h : Mid w g cur l t j k wr) (hs : cur.size = n) (hj : j * 6 ≤ n) (i : Nat) (hi : i < 6) : (∃ u, wr.cell? ⟨g, k * 6 + i, none⟩ = some u) ∧ wr.frozen? ⟨g, k * 6 + i, none⟩ = false := by
  obtain ⟨c1, h1, h2, h3, h4⟩ := h.ex
  have := h.lt
  refine ⟨?_, free_at h1 _⟩
  rw [cell_at h1]
  exact ⟨_, Array.getElem?_eq_getElem (by omega)⟩
theorem Mid.drop (h : Mid w g cur l t j k wr) {r : Rw} (hr : l[j]? = some r) (hk : kept t r = false) : Mid w g cur l t (j + 1) k wr := by
  obtain ⟨c1, h1, h2, h3, h4⟩ := h.ex
  have hl := h.len
  have hlt := h.lt
  have e : (l.take (j + 1)).filter (kept t) = (l.take j).filter (kept t) := by rw [take_snoc l j r hr, List.filter_append]; simp [hk]
  refine ⟨⟨c1, h1, h2, by rw [e]; exact h3, ?_⟩, by rw [e]; exact hl, by omega, h.only⟩
  rw [show (j + 1) * 6 = j * 6 + 6 by omega, ← List.drop_drop, h4, List.drop_drop]
theorem Mid.put (h : Mid w g cur l t j k wr) (hj : j * 6 < cur.size) {r : Rw} (hr : l[j]? = some r) (hk : kept t r = true) : Mid w g cur l t (j + 1) (k + 1) (wr.setCells g (k * 6) (rwCs r)) := by
  obtain ⟨c1, h1, h2, h3, h4⟩ := h.ex
  have hl := h.len
  have hlt := h.lt
  have e : (l.take (j + 1)).filter (kept t) = (l.take j).filter (kept t) ++ [r] := by rw [take_snoc l j r hr, List.filter_append]; simp [hk]
  obtain ⟨c2, k1, k2, k3⟩ := heap_setCells (rwCs r) (k * 6) wr c1 h1 (by show k * 6 + 6 ≤ _; omega)
  have hlen : (c1.toList.take (k * 6)).length = k * 6 := by rw [List.length_take]; simp; omega
  refine ⟨⟨c2, k1, k2.trans h2, ?_, ?_⟩, by rw [e]; simp [hl], by omega, h.only.trans (only_setCells g _ _ _)⟩
  · rw [k3, e, rcells_append, rcells_one_rw, ← h3]
    exact List.take_left' (by rw [List.length_append, hlen]; show _ + 6 = _; omega)
  · rw [k3, List.append_assoc, List.drop_append, hlen, List.drop_of_length_le (by omega), List.nil_append, List.drop_append, List.drop_of_length_le (by show 6 ≤ _; omega), List.nil_append, List.drop_drop]
    have e2 : k * 6 + (rwCs r).length + ((j + 1) * 6 - k * 6 - (rwCs r).length) = j * 6 + 6 := by show k * 6 + 6 + ((j + 1) * 6 - k * 6 - 6) = _; omega
    rw [e2, show (j + 1) * 6 = j * 6 + 6 by omega, ← List.drop_drop, h4, List.drop_drop]
end
theorem zero_one (n : Nat) : ∀ u ∈ (Builtin.zeroCells zR.cells n).toList, u.oneCell' = true := by
  intro u hu
  unfold Builtin.zeroCells at hu
  simp only [Array.toList_map, List.mem_map] at hu
  obtain ⟨i, _, rfl⟩ := hu
  show (zR.cells[i % 6]!).oneCell' = true
  have h6 : i % 6 < 6 := Nat.mod_lt _ (by decide)
  obtain h | h | h | h | h | h : i % 6 = 0 ∨ i % 6 = 1 ∨ i % 6 = 2 ∨ i % 6 = 3 ∨ i % 6 = 4 ∨ i % 6 = 5 := by omega
  all_goals rw [h]; rfl
theorem run_clear_rw (w : World) (ty : TypeId) (g o n c : Nat) (cur : Array Value) (t : TypeId) (hg : w.heap[g]? = some (.cells cur t (0, 0))) (hn : 0 < n) (hfit : o + n * 6 ≤ cur.size) :
    (Builtin.clear_ #[77] ty #[.slice (some ⟨g, o, none⟩) n c]).run Try.prog w = .ok (.tuple #[]) (w.setRow g (cur.toList.take o ++ (Builtin.zeroCells zR.cells n).toList ++ cur.toList.drop (o + n * 6)).toArray) := by
  have hv : ∀ w, (zeroValue 85).run Try.prog w = .ok zR w := fun w => by kernel_rfl
  have hlen : (Builtin.zeroCells zR.cells n).toList.length = n * 6 := by rw [Array.length_toList, size_zeroCells]; rfl
  have hst := run_storeCells_at Try.prog g o t (Builtin.zeroCells zR.cells n).toList 0 cur w hg (by rw [hlen]; omega) (zero_one n)
  rw [hlen] at hst
  simp only [Nat.add_zero] at hst
  obtain ⟨m, rfl⟩ : ∃ m, n = m + 1 := ⟨n - 1, by omega⟩
  simp [Builtin.clear_, run_underlying Try.underlying77, hv, hst]
/-- What comes of a table's rows: those that were kept, where they lay. -/
def Del (w : World) (g c : Nat) (cur : Array Value) (l : List Rw) (t : Nat) (e : Ending) (w' : World) : Prop :=
  ∃ cur', e = .returned (.slice (some ⟨g, 0, none⟩) (l.filter (kept t)).length c) ∧ w'.heap[g]? = some (.cells cur' 85 (0, 0)) ∧ cur'.size = cur.size ∧ cur'.toList.take ((l.filter (kept t)).length * 6) = rcells (l.filter (kept t)) ∧ Only (fun q => q = g) w w'
section
variable {w : World} {g n c Bx t : Nat} {cur : Array Value} {l : List Rw}
set_option maxRecDepth 100000 in
set_option maxHeartbeats 4000000 in
theorem delete_any (hg : w.heap[g]? = some (.cells cur 85 (0, 0))) (hl : l.length = n) (hcur : cur.toList.take (n * 6) = rcells l) (hnc : n ≤ c) (hcs : cur.size = c * 6) (h63 : c ≤ 9223372036854775807) (hgB : Bx ≠ g)
    (hc : w.cell? ⟨Bx, 0, none⟩ = some (.int .u64 (t : Int))) (hlt : Bx < w.heap.size) (ht : U t) (hu : ∀ r ∈ l, r.used ≤ t) :
    Calls Try.prog 38 #[.slice (some ⟨g, 0, none⟩) n c, .func (.func 39) #[] #[.pointer (some ⟨Bx, 0, none⟩)]] w (Del w g c cur l t) := by
  have hgl := lt_at hg
  have hr : RR w w.heap.size (some ⟨g, 0, none⟩) n l := ⟨by rw [rcells_length, hl], fun hn => ⟨_, rfl, hgl, fun j u hj => by
    rw [Addr.add_lit, Nat.zero_add, cell_at hg, ← Array.getElem?_toList]
    rw [← hcur, List.getElem?_take] at hj
    split at hj
    · exact hj
    · cases hj⟩⟩
  have hix := index_any (c := c) hr (Nat.le_refl _) (by omega) hc hlt ht hu
  have HIX := Lib.hid hix
  have HG := Lib.hid hg
  have HCUR := Lib.hid hcur
  have HL := Lib.hid hl
  have HC := Lib.hid hc
  have HU := Lib.hid hu
  have HCS := Lib.hid hcs
  clear hr hix hg hcur hl hc hu hcs
  go_enter Try.func38, Try.ntmps38
  go_wp2_with fail
  with_reducible refine HIX.out.mono ?_
  rintro e w1 ⟨hcase, hb1⟩
  have HCASE := Lib.hid hcase
  clear hcase
  rcases HCASE.out with ⟨rfl, hall⟩ | ⟨i, r0, rfl, hi, hk0, hall⟩
  · have HALL := Lib.hid hall
    clear hall HCASE
    go_wp2
    go_ret
    have hf : l.filter (kept t) = l := List.filter_eq_self.2 HALL.out
    refine ⟨cur, by rw [hf, HL.out]; rfl, (hb1.block g (lt_at HG.out)).trans HG.out, rfl, by rw [hf, HL.out]; exact HCUR.out, Only.of_below hb1⟩
  · have hin : i < n := by rw [← HL.out]; exact (List.getElem?_eq_some_iff.1 hi).1
    have hne1 : ((i : Int) == -1) = false := beq_eq_false_iff_ne.2 (by omega)
    have hM : Mid w g cur l t (i + 1) i w1 := by
      have hft : (l.take (i + 1)).filter (kept t) = l.take i := by rw [take_snoc l i r0 hi, List.filter_append]; simp [hk0, List.filter_eq_self.2 hall]
      have hll := HL.out
      refine ⟨⟨cur, (hb1.block g (lt_at HG.out)).trans HG.out, rfl, ?_, rfl⟩, by rw [hft, List.length_take]; omega, by omega, Only.of_below hb1⟩
      rw [hft, rcells_take, ← HCUR.out, List.take_take]
      congr 1
      omega
    have HMID := Lib.hid hM
    clear hM hi hk0 hall HCASE
    go_wp2_with fail
    go_loopw [5, 6] (fun x y wr => ∃ (k j : Nat), j ≤ n ∧ x = .int .i64 (k : Int) ∧ y = .int .i64 (j : Int) ∧ Hid (Mid w g cur l t j k wr)) (fun _ y _ => n - (intOf y).toNat)
    case atStart => exact ⟨i, i + 1, by omega, rfl, by simp, HMID.out⟩
    case round =>
      obtain ⟨k, j, hj, rfl, rfl, hm⟩ := hrel
      have hkj := hm.out.lt
      by_cases hj' : j < n
      · obtain ⟨r, hr⟩ : ∃ r, l[j]? = some r := ⟨_, List.getElem?_eq_getElem (by have := HL.out; omega)⟩
        obtain ⟨⟨y0, y1, y2, y3, y4, y5⟩, hgr⟩ := hm.out.six HL.out HCUR.out hr
        obtain ⟨q, hq⟩ : ∃ q, kept t r = q := ⟨_, rfl⟩
        have hbr : ∀ o, Below wr.heap.size wr (wr.alloc o) := fun o => (Below.refl _ _).alloc (Nat.le_refl _) o
        have HS : Hid (∀ o, Calls Try.prog 39 #[.agg #[.int .u64 (r.id : Int), .int .u64 (r.used : Int), .int .u64 (r.seq : Int), .int .i64 r.y.err, .int .u64 (r.y.num : Int), .int .u64 (r.y.ext : Int)], .pointer (some ⟨Bx, 0, none⟩)] (wr.alloc o) fun e w' => e = .returned (.bool (!q)) ∧ Below (wr.alloc o).heap.size (wr.alloc o) w') := fun o => by
          have ho : Only (fun q => q = g) w (wr.alloc o) := hm.out.only.alloc o
          exact late_any ((ho.cell (p := ⟨Bx, 0, none⟩) hlt hgB).trans HC.out) (Nat.lt_of_lt_of_le hlt ho.size) ht (HU.out r (List.mem_of_getElem? hr)) (Lib.hid hq)
        have HR := Lib.hid hr
        have HQ := Lib.hid hq
        clear hr hq
        go_wp2_with fail
        with_reducible refine (HS.out _).mono ?_
        rintro e w2 ⟨rfl, hb2⟩
        have hM2 := hm.out.below ((hbr _).trans (hb2.mono (hbr _).size))
        have hnew := heap_alloc_new wr (.cells #[.int .u64 (r.id : Int), .int .u64 (r.used : Int), .int .u64 (r.seq : Int), .int .i64 r.y.err, .int .u64 (r.y.num : Int), .int .u64 (r.y.ext : Int)] 85)
        have hnew2 := (hb2.block _ (lt_at hnew)).trans hnew
        have b0 := cell_at hnew2 0
        have b1 := cell_at hnew2 1
        have b2 := cell_at hnew2 2
        have b3 := cell_at hnew2 3
        have b4 := cell_at hnew2 4
        have b5 := cell_at hnew2 5
        have hblt := lt_at hnew2
        have hM3 := hM2
        cases q with
        | false =>
          have HD := Lib.hid (hM2.drop HR.out HQ.out)
          clear hM2 hM3 hnew hnew2 b0 b1 b2 b3 b4 b5
          go_wp2
          go_roundw
          case rel => exact ⟨k, j + 1, by omega, rfl, by simp, HD.out⟩
          case measure => simp [intOf]; omega
        | true =>
          have hcsz := HCS.out
          have HP : Hid (Mid w g cur l t (j + 1) (k + 1) ((((((w2.setCell ⟨g, k * 6, none⟩ (.int .u64 (r.id : Int))).setCell ⟨g, k * 6 + 1, none⟩ (.int .u64 (r.used : Int))).setCell ⟨g, k * 6 + 2, none⟩ (.int .u64 (r.seq : Int))).setCell ⟨g, k * 6 + 3, none⟩ (.int .i64 r.y.err)).setCell ⟨g, k * 6 + 4, none⟩ (.int .u64 (r.y.num : Int))).setCell ⟨g, k * 6 + 5, none⟩ (.int .u64 (r.y.ext : Int)))) := hM2.put (by omega) HR.out HQ.out
          obtain ⟨⟨u0, z0⟩, f0⟩ := hM2.room (n := cur.size) rfl (by omega) 0 (by omega)
          obtain ⟨⟨u1, z1⟩, f1⟩ := hM2.room (n := cur.size) rfl (by omega) 1 (by omega)
          obtain ⟨⟨u2, z2⟩, f2⟩ := hM2.room (n := cur.size) rfl (by omega) 2 (by omega)
          obtain ⟨⟨u3, z3⟩, f3⟩ := hM2.room (n := cur.size) rfl (by omega) 3 (by omega)
          obtain ⟨⟨u4, z4⟩, f4⟩ := hM2.room (n := cur.size) rfl (by omega) 4 (by omega)
          obtain ⟨⟨u5, z5⟩, f5⟩ := hM2.room (n := cur.size) rfl (by omega) 5 (by omega)
          rw [Nat.add_zero] at z0 f0
          have hkn : k < n := by omega
          clear hM2 hM3 hnew hnew2
          go_wp2
          refine ⟨⟨k + 1, j + 1, by omega, by simp, by simp, HP.out⟩, ?_⟩
          simp [intOf]; omega
      · obtain rfl : j = n := by omega
        have hlf : l.take j = l := List.take_of_length_le (by rw [HL.out]; exact Nat.le_refl _)
        obtain ⟨c1, k1, k2, k3, k4⟩ := hm.out.ex
        have hlen := hm.out.len
        rw [hlf] at k3 hlen
        have hckI : ¬ c = k := by omega
        have hkjI : k ≤ j := by omega
        have hkcI : k ≤ c := by omega
        have hcl := fun ty => run_clear_rw wr ty g (k * 6) (j - k) (c - k) c1 _ k1 (by omega) (by rw [k2, HCS.out]; omega)
        obtain ⟨R, hR⟩ : ∃ R, wr.setRow g (c1.toList.take (k * 6) ++ (Builtin.zeroCells zR.cells (j - k)).toList ++ c1.toList.drop (k * 6 + (j - k) * 6)).toArray = R := ⟨_, rfl⟩
        rw [hR] at hcl
        have hlen6 : (c1.toList.take (k * 6)).length = k * 6 := by rw [List.length_take, Array.length_toList, k2, HCS.out]; omega
        have hlenz : (Builtin.zeroCells zR.cells (j - k)).toList.length = (j - k) * 6 := by rw [Array.length_toList, size_zeroCells]; rfl
        have HFIN : Hid (Del w g c cur l t (.returned (.slice (some ⟨g, 0, none⟩) k c)) R) := by
          rw [← hR]
          refine ⟨_, by rw [hlen], setRow_heap wr g c1 _ _ (0, 0) k1, ?_, ?_, ?_⟩
          · rw [← Array.length_toList]
            simp only [List.toList_toArray, List.length_append, hlen6, hlenz, List.length_drop, Array.length_toList, k2, HCS.out]
            omega
          · simp only [List.toList_toArray]
            rw [hlen, List.append_assoc, List.take_left' hlen6, k3]
          · refine hm.out.only.trans ⟨rfl, rfl, rfl, by simp [World.setRow], fun q hq hn => setRow_other wr g q _ hn⟩
        clear k1 k3 k4 hR
        go_wp2
        go_ret
        exact HFIN.out
end
end Go.Proofs.Ythaepkpmpnofgaa.SsnWalkF
