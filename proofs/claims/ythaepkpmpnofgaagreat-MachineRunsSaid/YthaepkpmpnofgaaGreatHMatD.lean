/- The document's machine in memory: its numbers' slice, its sagas' slice, its table; find, told, New walked. No statement is proved here. -/
import Derived.Test.YthaepkpmpnofgaaGreatGN
import Derived.Test.YthaepkpmpnofgaaGreatHSagAt
import Derived.Test.YthaepkpmpnofgaaGreatGSs
import Derived.Deep.Cut
set_option linter.unusedVariables false
set_option linter.unusedSimpArgs false
namespace Go.Proofs.YthaepkpmpnofgaaGreat.MatD
open Go.RowKit Go.Proofs.YthaepkpmpnofgaaGreat.Kit Go.Proofs.YthaepkpmpnofgaaGreat.Blocks Go.Proofs.YthaepkpmpnofgaaGreat.Ses Go.Proofs.YthaepkpmpnofgaaGreat.Rws Go.Proofs.YthaepkpmpnofgaaGreat.Boxs Go.Proofs.YthaepkpmpnofgaaGreat.Mch
open Go.Proofs.YthaepkpmpnofgaaGreat.Sag (Sg)
open Go.Proofs.YthaepkpmpnofgaaGreat.SagAt (At Box4 sgV)
open Go.Proofs.YthaepkpmpnofgaaGreat.Pln (u64 u64_lt u64_wrap)
open Go.Proofs.YthaepkpmpnofgaaGreat.RdT (only_s only_b)

/-! ### Sagas in a slice -/
/-- A saga as it lies in a slice: its steps' address and capacity. -/
structure Hs where
  A : Option Addr
  c : Nat
  s : Sg
def hsCs (h : Hs) : List Value := [.slice h.A h.s.l.length h.c, .int .i64 h.s.st, .int .i64 h.s.cu, .int .i64 h.s.fa]
def scs (l : List Hs) : List Value := l.flatMap hsCs
def ics (l : List (Nat × Sg)) : List Value := l.map fun x => .int .u64 (x.1 : Int)
theorem scs_nil : scs [] = [] := rfl
theorem scs_cons (e : Hs) (l : List Hs) : scs (e :: l) = hsCs e ++ scs l := rfl
theorem scs_append (l r : List Hs) : scs (l ++ r) = scs l ++ scs r := by simp [scs]
theorem scs_one (e : Hs) : scs [e] = hsCs e := by simp [scs]
theorem scs_length (l : List Hs) : (scs l).length = l.length * 4 := by
  induction l with
  | nil => rfl
  | cons e l ih => rw [scs_cons, List.length_append, ih]; simp [hsCs]; omega
theorem scs_take (l : List Hs) (k : Nat) : scs (l.take k) = (scs l).take (k * 4) := by
  induction l generalizing k with
  | nil => simp [scs]
  | cons e l ih =>
    cases k with
    | zero => simp [scs]
    | succ k =>
      rw [List.take_succ_cons, scs_cons, scs_cons, ih, List.take_append, List.take_of_length_le (l := hsCs e) (by show 4 ≤ _; omega)]
      show _ = _ ++ List.take ((k + 1) * 4 - 4) _
      rw [show (k + 1) * 4 - 4 = k * 4 by omega]
theorem scs_drop (l : List Hs) (k : Nat) : scs (l.drop k) = (scs l).drop (k * 4) := by
  induction l generalizing k with
  | nil => simp [scs]
  | cons e l ih =>
    cases k with
    | zero => simp
    | succ k =>
      rw [List.drop_succ_cons, scs_cons, ih, List.drop_append, List.drop_of_length_le (l := hsCs e) (by show 4 ≤ _; omega), List.nil_append]
      show _ = List.drop ((k + 1) * 4 - 4) _
      rw [show (k + 1) * 4 - 4 = k * 4 by omega]
theorem scs_get (l : List Hs) (k j : Nat) (e : Hs) (h : l[k]? = some e) (hj : j < 4) : (scs l)[k * 4 + j]? = (hsCs e)[j]? := by
  obtain ⟨hk, rfl⟩ := List.getElem?_eq_some_iff.1 h
  have h1 : (scs (l.drop k))[j]? = (scs l)[k * 4 + j]? := by rw [scs_drop, List.getElem?_drop]
  rw [← h1, List.drop_eq_getElem_cons hk, scs_cons, List.getElem?_append_left (by show j < 4; exact hj)]
theorem hsCs_one (e : Hs) : ∀ u ∈ hsCs e, u.oneCell' = true := by
  intro u hu
  simp only [hsCs, List.mem_cons, List.not_mem_nil, or_false] at hu
  rcases hu with rfl | rfl | rfl | rfl <;> rfl
theorem scs_ones (l : List Hs) : ∀ u ∈ scs l, u.oneCell' = true := by
  intro u hu
  obtain ⟨e, _, he⟩ := List.mem_flatMap.1 hu
  exact hsCs_one e u he
theorem ics_ones (l : List (Nat × Sg)) : ∀ u ∈ ics l, u.oneCell' = true := by
  intro u hu
  obtain ⟨e, _, rfl⟩ := List.mem_map.1 hu
  rfl
/-- The slice with address A and n elements holds these sagas. -/
abbrev RG (w : World) (B : Nat) (A : Option Addr) (n : Nat) (l : List Hs) : Prop := Reads w B 4 A n (scs l)
/-- A saga lies at these four cells. -/
structure FourS (w : World) (b o : Nat) (h : Hs) : Prop where
  c0 : w.cell? ⟨b, o, none⟩ = some (.slice h.A h.s.l.length h.c)
  c1 : w.cell? ⟨b, o + 1, none⟩ = some (.int .i64 h.s.st)
  c2 : w.cell? ⟨b, o + 2, none⟩ = some (.int .i64 h.s.cu)
  c3 : w.cell? ⟨b, o + 3, none⟩ = some (.int .i64 h.s.fa)
section
variable {w w' : World} {B n : Nat} {A : Option Addr} {l : List Hs}
theorem RG.len (h : RG w B A n l) : l.length = n := by have := h.1; rw [scs_length] at this; omega
theorem RG.spot {ad : Addr} (h : RG w B (some ad) n l) (hn : 0 < n) : ad = ⟨ad.block, ad.off, none⟩ := by
  obtain ⟨ad', e, _, hc⟩ := h.2 hn
  cases e
  have hl := RG.len h
  have h0 := hc 0 _ (by rw [scs_get l 0 0 l[0] (List.getElem?_eq_getElem (by omega)) (by omega)]; rfl)
  rw [add_zero] at h0
  have hs := World.cell?_spot h0
  obtain ⟨b, o, s⟩ := ad
  have : s = none := hs
  subst this
  rfl
theorem RG.at_ (h : RG w B A n l) {k : Nat} (hk : k < n) : ∃ b o e, A = some ⟨b, o, none⟩ ∧ b < B ∧ l[k]? = some e ∧ FourS w b (o + k * 4) e := by
  obtain ⟨ad, rfl, hb, hc⟩ := h.2 (by omega)
  have hsp := RG.spot h (by omega)
  have hl := RG.len h
  have he : l[k]? = some l[k] := List.getElem?_eq_getElem (by omega)
  have hj : ∀ j u, j < 4 → (hsCs l[k])[j]? = some u → w.cell? ⟨ad.block, ad.off + (k * 4 + j), none⟩ = some u := fun j u hj hu => by
    have := hc (k * 4 + j) u (by rw [scs_get l k j _ he hj, hu])
    rw [hsp, Addr.add_lit] at this
    exact this
  exact ⟨ad.block, ad.off, l[k], by rw [← hsp], hb, he, hj 0 _ (by omega) rfl, hj 1 _ (by omega) rfl, hj 2 _ (by omega) rfl, hj 3 _ (by omega) rfl⟩
end
theorem FourS.below {w w' : World} {b o B : Nat} {e : Hs} (h : FourS w b o e) (k : Below B w w') (hb : b < B) : FourS w' b o e :=
  ⟨(k.cell (p := ⟨b, o, none⟩) hb).trans h.c0, (k.cell (p := ⟨b, o + 1, none⟩) hb).trans h.c1, (k.cell (p := ⟨b, o + 2, none⟩) hb).trans h.c2, (k.cell (p := ⟨b, o + 3, none⟩) hb).trans h.c3⟩
/-- One new saga. -/
theorem hs_new (w : World) (e : Hs) (t : TypeId) : RG (w.alloc (.cells (hsCs e).toArray t)) (w.heap.size + 1) (some ⟨w.heap.size, 0, none⟩) 1 [e] := by
  refine ⟨by rw [scs_length]; rfl, fun _ => ⟨_, rfl, Nat.lt_succ_self _, fun j x hj => ?_⟩⟩
  rw [scs_one] at hj
  rw [Addr.add_lit, Nat.zero_add, cell_of_row _ _ j _ t (0, 0) (heap_alloc_new w _)]
  simpa using hj

/-! ### The machine -/
/-- The blocks that a machine's calls may change. -/
def Own (p : Nat) (vR vI vS : Value) (g : Nat) : Prop := Mine p vR g ∨ vI.ownBlock = some g ∨ vS.ownBlock = some g
/-- The document's machine lies at p. -/
structure MD (B : Nat) (w : World) (p : Nat) (vR vI vS : Value) (m : Mc) (hs : List Hs) : Prop where
  tb : TAt B ⟨59, [vI, vS]⟩ 125 w p vR m.t
  said : hs.map Hs.s = m.l.map Prod.snd
  ids : w.ownsRow B 30 1 vI m.l.length (ics m.l)
  sgs : w.ownsRow B 49 4 vS hs.length (scs hs)
  pi : vI.ownBlock ≠ some p
  ps : vS.ownBlock ≠ some p
  ri : ∀ g, vR.ownBlock = some g → vI.ownBlock ≠ some g
  rs : ∀ g, vR.ownBlock = some g → vS.ownBlock ≠ some g
  is_ : ∀ g, vI.ownBlock = some g → vS.ownBlock ≠ some g
  steps : ∀ h ∈ hs, At w h.A h.s.l ∧ (0 < h.s.l.length → ∀ ad, h.A = some ad → ¬ Own p vR vI vS ad.block)
section
variable {B : Nat} {w w' : World} {p : Nat} {vR vI vS : Value} {m : Mc} {hs : List Hs}
theorem MD.len (h : MD B w p vR vI vS m hs) : hs.length = m.l.length := by have := congrArg List.length h.said; simpa using this
theorem MD.c3 (h : MD B w p vR vI vS m hs) : w.cell? ⟨p, 3, none⟩ = some vI := by rw [cell_at h.tb.cell]; simp
theorem MD.c4 (h : MD B w p vR vI vS m hs) : w.cell? ⟨p, 4, none⟩ = some vS := by rw [cell_at h.tb.cell]; simp
theorem MD.plt (h : MD B w p vR vI vS m hs) : p < w.heap.size := h.tb.plt
theorem MD.free (h : MD B w p vR vI vS m hs) (i : Nat) : w.frozen? ⟨p, i, none⟩ = false := h.tb.free i
theorem MD.own_lt (h : MD B w p vR vI vS m hs) {g : Nat} (hg : Own p vR vI vS g) : B ≤ g ∧ g < w.heap.size := by
  rcases hg with hg | hg | hg
  · exact h.tb.mine_lt hg
  · exact h.ids.lt g hg
  · exact h.sgs.lt g hg
/-- Nothing of the machine's is touched. -/
theorem MD.keep (h : MD B w p vR vI vS m hs) {S : Nat → Prop} (k : Only S w w') (h1 : ∀ g, Own p vR vI vS g → ¬ S g) (h2 : ∀ x ∈ hs, 0 < x.s.l.length → ∀ ad, x.A = some ad → ¬ S ad.block) : MD B w' p vR vI vS m hs :=
  ⟨h.tb.keep k fun g hg => h1 g (.inl hg), h.said, k.own h.ids fun g hg => h1 g (.inr (.inl hg)), k.own h.sgs fun g hg => h1 g (.inr (.inr hg)), h.pi, h.ps, h.ri, h.rs, h.is_,
    fun x hx => ⟨(h.steps x hx).1.only (only_s k) (h2 x hx), (h.steps x hx).2⟩⟩
theorem MD.below (h : MD B w p vR vI vS m hs) (k : Below w.heap.size w w') : MD B w' p vR vI vS m hs := h.keep (S := fun _ => False) (Only.of_below k) (by simp) (by simp)
/-- The numbers' slice, in its form. -/
theorem MD.idform (h : MD B w p vR vI vS m hs) : ∃ A c, vI = .slice A m.l.length c ∧ m.l.length ≤ c ∧ c ≤ 9223372036854775807 ∧ Reads w w.heap.size 1 A m.l.length (ics m.l) := by
  obtain ⟨A, c, hv, h1, h2, h3⟩ := own_form h.ids
  unfold maxLen at h2
  exact ⟨A, c, hv, h1, by omega, h3⟩
theorem MD.sgform (h : MD B w p vR vI vS m hs) : ∃ A c, vS = .slice A hs.length c ∧ hs.length ≤ c ∧ c ≤ 9223372036854775807 ∧ RG w w.heap.size A hs.length hs := by
  obtain ⟨A, c, hv, h1, h2, h3⟩ := own_form h.sgs
  unfold maxLen at h2
  exact ⟨A, c, hv, h1, by omega, h3⟩
/-- A number, where it lies. -/
theorem id_at {A : Option Addr} {n k : Nat} {l : List (Nat × Sg)} (h : Reads w B 1 A n (ics l)) (hk : k < n) : ∃ b o x, A = some ⟨b, o, none⟩ ∧ b < B ∧ l[k]? = some x ∧ w.cell? ⟨b, o + k, none⟩ = some (.int .u64 (x.1 : Int)) := by
  obtain ⟨ad, u, rfl, hb, hu, hc⟩ := h.at_ hk
  have hsp := h.spot (by omega)
  have hu' : (l[k]?).map (fun x : Nat × Sg => Value.int .u64 (x.1 : Int)) = some u := by rw [← hu, ics, List.getElem?_map]
  cases hx : l[k]? with
  | none => rw [hx] at hu'; simp at hu'
  | some x =>
    rw [hx] at hu'
    simp at hu'
    subst hu'
    refine ⟨ad.block, ad.off, x, by rw [← hsp], hb, rfl, ?_⟩
    rw [hsp, Addr.add_lit] at hc
    exact hc

/-! ### find, told -/
set_option maxRecDepth 100000 in
theorem dfind_no (h : MD B w p vR vI vS m hs) (id : Nat) (hn : seekS m.l id = none) :
    Calls Tryz.prog 31 #[.pointer (some ⟨p, 0, none⟩), .int .u64 (id : Int)] w fun e w' => e = .returned (.int .i64 (-1)) ∧ w' = w := by
  have c3 := h.c3
  have hp := h.plt
  obtain ⟨A, c, rfl, hnc, hcm, hr⟩ := h.idform
  obtain ⟨n, hl⟩ : ∃ n, m.l.length = n := ⟨_, rfl⟩
  rw [hl] at hr hnc c3
  have HN := Lib.hid (seekS_none hn)
  have HR := Lib.hid hr
  clear h hr hn hl
  go_enter Tryz.func31, Tryz.ntmps31
  go_wp2
  go_loopw [5] (fun i wr => ∃ k : Nat, k ≤ n ∧ i = .int .i64 (k : Int) ∧ wr = w) (fun i _ => n - (intOf i).toNat)
  case atStart => exact ⟨0, by omega, rfl, rfl⟩
  case round =>
    obtain ⟨k, hk, rfl, rfl⟩ := hrel
    by_cases hk' : k < n
    · obtain ⟨b', o', t, rfl, hb', he, y⟩ := id_at HR.out hk'
      have hne : ¬ (t.1 : Int) = (id : Int) := by have := HN.out t (List.mem_of_getElem? he); omega
      go_wp2
      go_roundw
      case rel => exact ⟨k + 1, by omega, by simp, by trivial⟩
      case measure => simp [intOf]; omega
    · obtain rfl : k = n := by omega
      go_wp2
      go_ret
      exact ⟨rfl, rfl⟩
set_option maxRecDepth 100000 in
theorem dfind_yes (h : MD B w p vR vI vS m hs) (id : Nat) {i : Nat} (hn : seekS m.l id = some i) :
    Calls Tryz.prog 31 #[.pointer (some ⟨p, 0, none⟩), .int .u64 (id : Int)] w fun e w' => e = .returned (.int .i64 (i : Int)) ∧ w' = w := by
  have c3 := h.c3
  have hp := h.plt
  obtain ⟨A, c, rfl, hnc, hcm, hr⟩ := h.idform
  obtain ⟨n, hl⟩ : ∃ n, m.l.length = n := ⟨_, rfl⟩
  obtain ⟨r, h1, h2, h3, h4⟩ := seekS_some hn
  rw [hl] at hr hnc c3 h3
  have HN := Lib.hid h4
  have HI := Lib.hid h1
  have HR := Lib.hid hr
  clear h hr hn hl h1 h4
  go_enter Tryz.func31, Tryz.ntmps31
  go_wp2
  go_loopw [5] (fun q wr => ∃ k : Nat, k ≤ i ∧ q = .int .i64 (k : Int) ∧ wr = w) (fun q _ => n - (intOf q).toNat)
  case atStart => exact ⟨0, by omega, rfl, rfl⟩
  case round =>
    obtain ⟨k, hk, rfl, rfl⟩ := hrel
    obtain ⟨b', o', t, rfl, hb', he, y⟩ := id_at HR.out (show k < n by omega)
    by_cases hk' : k < i
    · have hne : ¬ (t.1 : Int) = (id : Int) := by have := HN.out k hk' t he; omega
      go_wp2
      go_roundw
      case rel => exact ⟨k + 1, by omega, by simp, by trivial⟩
      case measure => simp [intOf]; omega
    · obtain rfl : k = i := by omega
      obtain rfl : t = r := by have := HI.out; rw [he] at this; cases this; rfl
      have heq : (t.1 : Int) = (id : Int) := by omega
      go_wp2
      go_ret
      simp
end
section
variable {fn : Func} {q : Tmp} {w : World} {g : Nat} {a b c : Value}
theorem res1y (hf : fn.results = #[.cell q 32]) (tmps : Array Value) (hp : tmps.getD q undef = .pointer (some ⟨g, 0, none⟩)) (hx : Box3 w g a b c) : (results fn tmps).run Tryz.prog w = .ok (.agg #[a, b, c]) w := by
  have hp' : tmps[q]?.getD undef = .pointer (some ⟨g, 0, none⟩) := by simpa using hp
  have hl := run_loadVar_row (P := Tryz.prog) w g 32 32 #[a, b, c] (0, 0) _ hx.blk Tryz.underlying32 rfl (by kernel_rfl)
  simp [results, hf, hp', asAddr, Result.andThen, hl]
end
set_option maxRecDepth 100000 in
theorem dtold_any (A : Option Addr) (c : Nat) (s : Sg) (w : World) : Calls Tryz.prog 33 #[sgV A c s] w fun e w' => e = .returned (ryV (told s)) ∧ Below w.heap.size w w' := by
  obtain ⟨l, st, cu, fa⟩ := s
  unfold SagAt.sgV
  simp only
  have z1 := u64_wrap st
  have z2 := u64_wrap cu
  have hx := Box4.new w (.slice A l.length c) (.int .i64 st) (.int .i64 cu) (.int .i64 fa)
  have hb1 : Below w.heap.size w (w.alloc (.cells #[.slice A l.length c, .int .i64 st, .int .i64 cu, .int .i64 fa] 49)) := (Below.refl _ _).alloc (Nat.le_refl _) _
  obtain ⟨w1, hw1⟩ : ∃ w1, w.alloc (.cells #[.slice A l.length c, .int .i64 st, .int .i64 cu, .int .i64 fa] 49) = w1 := ⟨_, rfl⟩
  obtain ⟨G, hG⟩ : ∃ G, w.heap.size = G := ⟨_, rfl⟩
  have hs1 : w1.heap.size = G + 1 := by rw [← hw1, ← hG]; simp
  rw [hw1] at hx hb1
  rw [hG] at hx
  have hy := Box3.new w1 (.int .i64 0) (.int .u64 0) (.int .u64 0)
  have hb2 : Below w1.heap.size w1 (w1.alloc (.cells #[.int .i64 0, .int .u64 0, .int .u64 0] 32)) := (Below.refl _ _).alloc (Nat.le_refl _) _
  obtain ⟨w2, hw2⟩ : ∃ w2, w1.alloc (.cells #[.int .i64 0, .int .u64 0, .int .u64 0] 32) = w2 := ⟨_, rfl⟩
  rw [hw2] at hy hb2
  rw [hs1] at hy
  have hx2 := hx.below hb2
  obtain ⟨x0, x1, x2, x3⟩ : _ ∧ _ ∧ _ ∧ _ := ⟨hx2.c0, hx2.c1, hx2.c2, hx2.c3⟩
  obtain ⟨y0', y1, y2⟩ : _ ∧ _ ∧ _ := ⟨hy.c0, hy.c1, hy.c2⟩
  have yf := hy.free
  have hGl := hx2.lt
  have hYl := hy.lt
  have HW1 := Lib.hid hw1
  have HW2 := Lib.hid hw2
  have HB2 := Lib.hid (hb1.trans (hb2.mono hb1.size))
  have HZ := Lib.hid (hy.set (.int .i64 0) (.int .u64 (u64 st : Int)) (.int .u64 (u64 cu : Int)))
  clear hw1 hw2 hb1 hb2 hx hx2 hy
  go_enter Tryz.func33, Tryz.ntmps33
  go_upto_region 1 with fail
  rw [HW1.out, HW2.out]
  go_wp2
  refine bodyPost_ret (res1y (q := 2) rfl _ rfl HZ.out.1) rfl ?_
  exact ⟨rfl, HB2.out.trans (HZ.out.2.below HB2.out.size fun k hk => by have := HB2.out.size; omega)⟩
/-- A machine that is new. -/
theorem dnew_any (w : World) : Calls Tryz.prog 10 #[] w fun e w' => ∃ p, e = .returned (.pointer (some ⟨p, 0, none⟩)) ∧ MD w.heap.size w' p (.slice none 0 0) (.slice none 0 0) (.slice none 0 0) mc0 [] ∧ Below w.heap.size w w' := by
  have hh : (w.alloc (.cells #[.int .u64 0, .int .u64 1, .slice none 0 0, .slice none 0 0, .slice none 0 0] 59)).heap[w.heap.size]? = some (.cells #[.int .u64 0, .int .u64 1, .slice none 0 0, .slice none 0 0, .slice none 0 0] 59 (0, 0)) := heap_alloc_new w _
  have hb : Below w.heap.size w (w.alloc (.cells #[.int .u64 0, .int .u64 1, .slice none 0 0, .slice none 0 0, .slice none 0 0] 59)) := (Below.refl _ _).alloc (Nat.le_refl _) _
  go_enter Tryz.func10, Tryz.ntmps10
  go_wp2
  go_ret
  exact ⟨_, rfl, ⟨⟨Nat.le_refl _, hh, World.ownsRow_nil _ _ _ _, by simp [Value.ownBlock]⟩, rfl, World.ownsRow_nil _ _ _ _, World.ownsRow_nil _ _ _ _, by simp [Value.ownBlock], by simp [Value.ownBlock], by simp [Value.ownBlock], by simp [Value.ownBlock], by simp [Value.ownBlock], by simp⟩, hb⟩
end Go.Proofs.YthaepkpmpnofgaaGreat.MatD
