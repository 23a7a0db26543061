/- A machine: sessions, and sagas by their numbers; what each command makes of it: plain mathematics. No statement is proved here. -/
import Derived.Test.YthaepkpmpnofgaaGreatGX
import Derived.Test.YthaepkpmpnofgaaGreatRows
import Derived.Test.YthaepkpmpnofgaaGreatOnly
import Derived.WalkKit
set_option linter.unusedVariables false
namespace Go.Proofs.YthaepkpmpnofgaaGreat.Ses
open Go.RowKit Go.Proofs.YthaepkpmpnofgaaGreat.Kit

/-- A reply. -/
structure Ry where
  err : Int
  num : Nat
  ext : Nat
/-- A session. -/
structure Rw where
  id : Nat
  used : Nat
  seq : Nat
  y : Ry
/-- A table. -/
structure Tb where
  now : Nat
  next : Nat
  rows : List Rw
abbrev U (x : Nat) : Prop := x < 18446744073709551616
def Ry.Ok (y : Ry) : Prop := -9223372036854775808 ≤ y.err ∧ y.err ≤ 9223372036854775807 ∧ U y.num ∧ U y.ext
def y0 : Ry := ⟨0, 0, 0⟩
def yE (e : Int) : Ry := ⟨e, 0, 0⟩
theorem y0_ok : y0.Ok := ⟨by decide, by decide, by decide, by decide⟩
/-- Numbers grow, from above a, up to below n. -/
def Grows (n : Nat) : Nat → List Rw → Prop
  | _, [] => True
  | a, r :: l => a < r.id ∧ r.id < n ∧ Grows n r.id l
/-- A row of a table at a time. -/
def Fits (now : Nat) (r : Rw) : Prop := r.used ≤ now ∧ now - r.used ≤ 1000 ∧ U r.seq ∧ r.y.Ok
structure Sane (m : Tb) : Prop where
  now : U m.now
  next : U m.next
  pos : 0 < m.next
  few : m.rows.length ≤ 16
  grows : Grows m.next 0 m.rows
  fits : ∀ r ∈ m.rows, Fits m.now r

/-! ### Where a session lies -/
def seek : List Rw → Nat → Option Nat
  | [], _ => none
  | r :: l, id => if r.id = id then some 0 else (seek l id).map (· + 1)
theorem seek_some {l : List Rw} {id i : Nat} (h : seek l id = some i) : ∃ r, l[i]? = some r ∧ r.id = id ∧ i < l.length ∧ ∀ j < i, ∀ x, l[j]? = some x → x.id ≠ id := by
  induction l generalizing i with
  | nil => cases h
  | cons a l ih =>
    unfold seek at h
    split at h
    · rename_i h0
      cases h
      exact ⟨a, rfl, h0, by simp, fun j hj => absurd hj (Nat.not_lt_zero _)⟩
    · rename_i h0
      cases hl : seek l id with
      | none => rw [hl] at h; cases h
      | some k =>
        rw [hl] at h
        cases h
        obtain ⟨r, h1, h2, h3, h4⟩ := ih hl
        refine ⟨r, by simpa using h1, h2, by simp; omega, fun j hj x hx => ?_⟩
        cases j with
        | zero => simp at hx; subst hx; exact h0
        | succ j => exact h4 j (by have hj' : j + 1 < k + 1 := hj; omega) x (by simpa using hx)
theorem seek_none {l : List Rw} {id : Nat} (h : seek l id = none) : ∀ r ∈ l, r.id ≠ id := by
  induction l with
  | nil => simp
  | cons a l ih =>
    unfold seek at h
    split at h
    · cases h
    · rename_i h0
      have h1 : seek l id = none := by simpa using h
      intro r hr
      rcases List.mem_cons.1 hr with rfl | hr
      · exact h0
      · exact ih h1 r hr

/-! ### The calls -/
def kept (t : Nat) (r : Rw) : Bool := decide (t - r.used ≤ 1000)
def clock (m : Tb) (t : Nat) : Tb := if t ≤ m.now then m else ⟨t, m.next, m.rows.filter (kept t)⟩
def canReg (m : Tb) : Bool := decide (m.rows.length < 16) && decide (m.next ≠ 18446744073709551615)
def freshRow (m : Tb) : Rw := ⟨m.next, m.now, 0, y0⟩
def regT (m : Tb) : Tb := if canReg m then ⟨m.now, m.next + 1, m.rows ++ [freshRow m]⟩ else m
def regId (m : Tb) : Nat := if canReg m then m.next else 0
def regE (m : Tb) : Int := if canReg m then 0 else 11
/-- A number that comes right behind. -/
def isNext (r : Rw) (s : Nat) : Bool := decide (s ≠ 0) && decide (s - 1 = r.seq)
def isLast (r : Rw) (s : Nat) : Bool := decide (s ≠ 0) && decide (s = r.seq)
def usedRow (m : Tb) (r : Rw) : Rw := ⟨r.id, m.now, r.seq, r.y⟩
def begT (m : Tb) (id : Nat) : Tb := match seek m.rows id with
  | none => m
  | some i => match m.rows[i]? with
    | none => m
    | some r => ⟨m.now, m.next, m.rows.set i (usedRow m r)⟩
def begY (m : Tb) (id s : Nat) : Ry := match seek m.rows id with
  | none => yE 40
  | some i => match m.rows[i]? with
    | none => yE 40
    | some r => if isNext r s then y0 else if isLast r s then r.y else yE 41
def begF (m : Tb) (id s : Nat) : Bool := match seek m.rows id with
  | none => false
  | some i => match m.rows[i]? with
    | none => false
    | some r => isNext r s
def endRow (r : Rw) (s : Nat) (y : Ry) : Rw := ⟨r.id, r.used, s, y⟩
def endF (m : Tb) (id s : Nat) : Bool := begF m id s
def endT (m : Tb) (id s : Nat) (y : Ry) : Tb := match seek m.rows id with
  | none => m
  | some i => match m.rows[i]? with
    | none => m
    | some r => if isNext r s then ⟨m.now, m.next, m.rows.set i (endRow r s y)⟩ else m
def tb0 : Tb := ⟨0, 1, []⟩

/-! ### What stays -/
theorem grows_mono {n n' a a' : Nat} (hn : n ≤ n') (ha : a' ≤ a) : ∀ {l : List Rw}, Grows n a l → Grows n' a' l
  | [], _ => trivial
  | r :: l, ⟨h1, h2, h3⟩ => ⟨by omega, by omega, grows_mono hn (Nat.le_refl _) h3⟩
theorem grows_filter {n : Nat} (p : Rw → Bool) : ∀ {a : Nat} {l : List Rw}, Grows n a l → Grows n a (l.filter p)
  | _, [], _ => trivial
  | a, r :: l, ⟨h1, h2, h3⟩ => by
    rw [List.filter_cons]
    split
    · exact ⟨h1, h2, grows_filter p h3⟩
    · exact grows_mono (Nat.le_refl _) (by omega) (grows_filter p h3)
theorem grows_snoc {n : Nat} {r : Rw} (hr : r.id = n) : ∀ {a : Nat} {l : List Rw}, a < n → Grows n a l → Grows (n + 1) a (l ++ [r])
  | a, [], ha, _ => ⟨by omega, by omega, trivial⟩
  | a, x :: l, ha, ⟨h1, h2, h3⟩ => ⟨h1, by omega, grows_snoc hr h2 h3⟩
theorem grows_set {n : Nat} {r' : Rw} : ∀ {a : Nat} {l : List Rw} {i : Nat}, Grows n a l → (∀ r, l[i]? = some r → r'.id = r.id) → Grows n a (l.set i r')
  | _, [], _, _, _ => trivial
  | a, x :: l, 0, ⟨h1, h2, h3⟩, h => by
    have e := h x rfl
    exact ⟨by omega, by omega, by rw [e]; exact h3⟩
  | a, x :: l, i + 1, ⟨h1, h2, h3⟩, h => ⟨h1, h2, grows_set h3 fun r hr => h r (by simpa using hr)⟩
theorem grows_mem {n : Nat} : ∀ {a : Nat} {l : List Rw}, Grows n a l → ∀ r ∈ l, a < r.id ∧ r.id < n
  | _, [], _, r, hr => by simp at hr
  | a, x :: l, ⟨h1, h2, h3⟩, r, hr => by
    rcases List.mem_cons.1 hr with rfl | hr
    · exact ⟨h1, h2⟩
    · have := grows_mem h3 r hr; omega
theorem good0 : Sane tb0 := ⟨by decide, by decide, by decide, by decide, trivial, by simp [tb0]⟩
theorem Sane.clock {m : Tb} (h : Sane m) {t : Nat} (ht : U t) : Sane (clock m t) := by
  unfold Ses.clock
  split
  · exact h
  · rename_i hh
    refine ⟨ht, h.next, h.pos, Nat.le_trans (List.length_filter_le _ _) h.few, grows_filter _ h.grows, fun r hr => ?_⟩
    obtain ⟨h1, h2⟩ := List.mem_filter.1 hr
    obtain ⟨f1, f2, f3, f4⟩ := h.fits r h1
    unfold kept at h2
    have := of_decide_eq_true h2
    exact ⟨by show r.used ≤ t; omega, this, f3, f4⟩
theorem Sane.reg {m : Tb} (h : Sane m) : Sane (regT m) := by
  unfold regT
  split
  · rename_i hh
    unfold canReg at hh
    simp only [Bool.and_eq_true, decide_eq_true_eq] at hh
    obtain ⟨h1, h2⟩ := hh
    have hn := h.next
    unfold U at hn
    refine ⟨h.now, by show m.next + 1 < _; omega, by show 0 < m.next + 1; omega, by simp; omega, grows_snoc (r := freshRow m) rfl h.pos h.grows, fun r hr => ?_⟩
    rcases List.mem_append.1 hr with hr | hr
    · exact h.fits r hr
    · simp at hr; subst hr; exact ⟨Nat.le_refl _, by show m.now - m.now ≤ 1000; omega, by show U 0; decide, y0_ok⟩
  · exact h
theorem mem_set {l : List Rw} {i : Nat} {x r : Rw} (h : x ∈ l.set i r) : x = r ∨ x ∈ l := by
  rcases List.mem_or_eq_of_mem_set h with h | h
  · exact .inr h
  · exact .inl h
theorem Sane.beg {m : Tb} (h : Sane m) (id : Nat) : Sane (begT m id) := by
  unfold begT
  split
  · exact h
  · split
    · exact h
    · rename_i i _ r hr
      refine ⟨h.now, h.next, h.pos, by simpa using h.few, grows_set h.grows fun x hx => ?_, fun x hx => ?_⟩
      · rw [hr] at hx; cases hx; rfl
      · rcases mem_set hx with rfl | hx
        · obtain ⟨f1, f2, f3, f4⟩ := h.fits r (List.mem_of_getElem? hr)
          exact ⟨Nat.le_refl _, by show m.now - m.now ≤ 1000; omega, f3, f4⟩
        · exact h.fits x hx
theorem Sane.fin {m : Tb} (h : Sane m) (id : Nat) {s : Nat} (hs : U s) {y : Ry} (hy : y.Ok) : Sane (endT m id s y) := by
  unfold endT
  split
  · exact h
  · split
    · exact h
    · rename_i i _ r hr
      split
      · refine ⟨h.now, h.next, h.pos, by simpa using h.few, grows_set h.grows fun x hx => ?_, fun x hx => ?_⟩
        · rw [hr] at hx; cases hx; rfl
        · rcases mem_set hx with rfl | hx
          · obtain ⟨f1, f2, f3, f4⟩ := h.fits r (List.mem_of_getElem? hr)
            exact ⟨f1, f2, hs, hy⟩
          · exact h.fits x hx
      · exact h
end Go.Proofs.YthaepkpmpnofgaaGreat.Ses
set_option linter.unusedVariables false
namespace Go.Proofs.YthaepkpmpnofgaaGreat.Stq
open Go.RowKit Go.Proofs.YthaepkpmpnofgaaGreat.Kit Go.Proofs.YthaepkpmpnofgaaGreat.Blocks

/-- A step. -/
structure Sp where
  pt : Int
  nm : ByteArray
  bg : Int
def spCs (e : Sp) : List Value := [.int .i64 e.pt, .string e.nm, .int .i64 e.bg]
def scells (l : List Sp) : List Value := l.flatMap spCs
theorem scells_nil : scells [] = [] := rfl
theorem scells_cons (e : Sp) (l : List Sp) : scells (e :: l) = spCs e ++ scells l := rfl
theorem scells_append (l r : List Sp) : scells (l ++ r) = scells l ++ scells r := by simp [scells]
theorem scells_one_sp (e : Sp) : scells [e] = spCs e := by simp [scells]
theorem scells_length (l : List Sp) : (scells l).length = l.length * 3 := by
  induction l with
  | nil => rfl
  | cons e l ih => rw [scells_cons, List.length_append, ih]; simp [spCs]; omega
theorem scells_take (l : List Sp) (k : Nat) : scells (l.take k) = (scells l).take (k * 3) := by
  induction l generalizing k with
  | nil => simp [scells]
  | cons e l ih =>
    cases k with
    | zero => simp [scells]
    | succ k =>
      rw [List.take_succ_cons, scells_cons, scells_cons, ih, List.take_append, List.take_of_length_le (l := spCs e) (by show 3 ≤ _; omega)]
      show _ = _ ++ List.take ((k + 1) * 3 - 3) _
      rw [show (k + 1) * 3 - 3 = k * 3 by omega]
theorem scells_drop (l : List Sp) (k : Nat) : scells (l.drop k) = (scells l).drop (k * 3) := by
  induction l generalizing k with
  | nil => simp [scells]
  | cons e l ih =>
    cases k with
    | zero => simp
    | succ k =>
      rw [List.drop_succ_cons, scells_cons, ih, List.drop_append, List.drop_of_length_le (l := spCs e) (by show 3 ≤ _; omega), List.nil_append]
      show _ = List.drop ((k + 1) * 3 - 3) _
      rw [show (k + 1) * 3 - 3 = k * 3 by omega]
theorem scells_get (l : List Sp) (k j : Nat) (e : Sp) (h : l[k]? = some e) (hj : j < 3) : (scells l)[k * 3 + j]? = (spCs e)[j]? := by
  obtain ⟨hk, rfl⟩ := List.getElem?_eq_some_iff.1 h
  have h1 : (scells (l.drop k))[j]? = (scells l)[k * 3 + j]? := by rw [scells_drop, List.getElem?_drop]
  rw [← h1, List.drop_eq_getElem_cons hk, scells_cons, List.getElem?_append_left (by show j < 3; exact hj)]
theorem spCs_one (e : Sp) : ∀ u ∈ spCs e, u.oneCell' = true := by
  intro u hu
  simp only [spCs, List.mem_cons, List.not_mem_nil, or_false] at hu
  rcases hu with rfl | rfl | rfl <;> rfl
theorem scells_one (l : List Sp) : ∀ u ∈ scells l, u.oneCell' = true := by
  intro u hu
  obtain ⟨e, _, he⟩ := List.mem_flatMap.1 hu
  exact spCs_one e u he

/-- The slice with address A and n elements holds these steps. -/
abbrev RS (w : World) (B : Nat) (A : Option Addr) (n : Nat) (l : List Sp) : Prop := Reads w B 3 A n (scells l)
/-- A step lies at these three cells. -/
structure Three (w : World) (b o : Nat) (e : Sp) : Prop where
  c0 : w.cell? ⟨b, o, none⟩ = some (.int .i64 e.pt)
  c1 : w.cell? ⟨b, o + 1, none⟩ = some (.string e.nm)
  c2 : w.cell? ⟨b, o + 2, none⟩ = some (.int .i64 e.bg)

section
variable {w w' : World} {B n : Nat} {A : Option Addr} {l : List Sp}
theorem RS.len (h : RS w B A n l) : l.length = n := by have := h.1; rw [scells_length] at this; omega
theorem RS.spot {ad : Addr} (h : RS w B (some ad) n l) (hn : 0 < n) : ad = ⟨ad.block, ad.off, none⟩ := by
  obtain ⟨ad', e, _, hc⟩ := h.2 hn
  cases e
  have hl := RS.len h
  have h0 := hc 0 _ (by rw [scells_get l 0 0 l[0] (List.getElem?_eq_getElem (by omega)) (by omega)]; rfl)
  rw [add_zero] at h0
  have hs := World.cell?_spot h0
  obtain ⟨b, o, s⟩ := ad
  have : s = none := hs
  subst this
  rfl
theorem RS.at_ (h : RS w B A n l) {k : Nat} (hk : k < n) : ∃ b o e, A = some ⟨b, o, none⟩ ∧ b < B ∧ l[k]? = some e ∧ Three w b (o + k * 3) e := by
  obtain ⟨ad, rfl, hb, hc⟩ := h.2 (by omega)
  have hsp := RS.spot h (by omega)
  have hl := RS.len h
  have he : l[k]? = some l[k] := List.getElem?_eq_getElem (by omega)
  have hj : ∀ j u, j < 3 → (spCs l[k])[j]? = some u → w.cell? ⟨ad.block, ad.off + (k * 3 + j), none⟩ = some u := fun j u hj hu => by
    have := hc (k * 3 + j) u (by rw [scells_get l k j _ he hj, hu])
    rw [hsp, Addr.add_lit] at this
    exact this
  refine ⟨ad.block, ad.off, l[k], by rw [← hsp], hb, he, ?_, ?_, ?_⟩
  · exact hj 0 _ (by omega) rfl
  · exact hj 1 _ (by omega) rfl
  · exact hj 2 _ (by omega) rfl
theorem RS.nil (w : World) (B : Nat) (A : Option Addr) : RS w B A 0 [] := ⟨rfl, fun h => absurd h (by omega)⟩
end

theorem Three.below {w w' : World} {b o B : Nat} {e : Sp} (h : Three w b o e) (k : Below B w w') (hb : b < B) : Three w' b o e :=
  ⟨(k.cell (p := ⟨b, o, none⟩) hb).trans h.c0, (k.cell (p := ⟨b, o + 1, none⟩) hb).trans h.c1, (k.cell (p := ⟨b, o + 2, none⟩) hb).trans h.c2⟩
/-- One new step. -/
theorem sp_new (w : World) (e : Sp) (t : TypeId) : RS (w.alloc (.cells (spCs e).toArray t)) (w.heap.size + 1) (some ⟨w.heap.size, 0, none⟩) 1 [e] := by
  refine ⟨by rw [scells_length]; rfl, fun _ => ⟨_, rfl, Nat.lt_succ_self _, fun j x hj => ?_⟩⟩
  rw [scells_one_sp] at hj
  rw [Addr.add_lit, Nat.zero_add, cell_of_row _ _ j _ t (0, 0) (heap_alloc_new w _)]
  simpa using hj
theorem sz3 (w : World) : (Go.sizeOf 67).run Tryz.prog w = .ok 3 w := by kernel_rfl
theorem infoS : (Tryz.prog.info? 67).map (fun i => (i.zero, i.size, i.bytes)) = some (some (.agg #[.int .i64 0, .string .empty, .int .i64 0]), 3, 32) := by kernel_rfl
end Go.Proofs.YthaepkpmpnofgaaGreat.Stq
set_option linter.unusedVariables false
set_option linter.unusedSimpArgs false
namespace Go.Proofs.YthaepkpmpnofgaaGreat.Pln
open Go.RowKit Go.Proofs.YthaepkpmpnofgaaGreat.Kit Go.Proofs.YthaepkpmpnofgaaGreat.Num Go.Proofs.YthaepkpmpnofgaaGreat.Rdr Go.Proofs.YthaepkpmpnofgaaGreat.Reads Go.Proofs.YthaepkpmpnofgaaGreat.Stq
open Go.Proofs.YthaepkpmpnofgaaGreat.PckWalkB (text bit)
open Go.Proofs.YthaepkpmpnofgaaGreat.PckWalkH (str str_list str_back str_size str_append)
open Go.Proofs.YthaepkpmpnofgaaGreat.PckWalkC (gotB gotB_lt)
open Go.Proofs.YthaepkpmpnofgaaGreat.PckWalkE (upV textV)

/-! ### What a definition is -/
def okS (e : Sp) : Bool := decide (0 ≤ e.pt ∧ e.pt ≤ 3 ∧ 1 ≤ e.nm.size ∧ e.nm.size ≤ 16 ∧ 1 ≤ e.bg ∧ e.bg ≤ 9)
def isDef (l : List Sp) : Bool := decide (1 ≤ l.length ∧ l.length ≤ 64) && l.all okS
/-- What Check answers. -/
def chk (l : List Sp) : Int := if isDef l then 0 else 44
theorem okS_yes {e : Sp} (h : okS e = true) : 0 ≤ e.pt ∧ e.pt ≤ 3 ∧ 1 ≤ e.nm.size ∧ e.nm.size ≤ 16 ∧ 1 ≤ e.bg ∧ e.bg ≤ 9 := of_decide_eq_true h
theorem isDef_yes {l : List Sp} (h : isDef l = true) : 1 ≤ l.length ∧ l.length ≤ 64 ∧ ∀ e ∈ l, okS e = true := by
  unfold isDef at h
  simp only [Bool.and_eq_true, decide_eq_true_eq, List.all_eq_true] at h
  exact ⟨h.1.1, h.1.2, h.2⟩
theorem chk_many {l : List Sp} (h : l.length < 1 ∨ 64 < l.length) : chk l = 44 := by
  unfold chk isDef
  rw [if_neg]
  simp only [Bool.and_eq_true, decide_eq_true_eq]
  omega
theorem chk_one {l : List Sp} {e : Sp} {k : Nat} (h : l[k]? = some e) (he : okS e = false) : chk l = 44 := by
  unfold chk
  rw [if_neg]
  intro hd
  rw [(isDef_yes hd).2.2 e (List.mem_of_getElem? h)] at he
  cases he
theorem chk_all {l : List Sp} (h1 : 1 ≤ l.length) (h2 : l.length ≤ 64) (h : ∀ i, i < l.length → ∀ x, l[i]? = some x → okS x = true) : chk l = 0 := by
  unfold chk isDef
  rw [if_pos]
  simp only [Bool.and_eq_true, decide_eq_true_eq, List.all_eq_true]
  refine ⟨⟨h1, h2⟩, fun x hx => ?_⟩
  obtain ⟨i, hi, rfl⟩ := List.mem_iff_getElem.1 hx
  exact h i hi _ (List.getElem?_eq_getElem hi)
theorem chk_def {l : List Sp} (h : chk l = 0) : isDef l = true := by
  unfold chk at h
  split at h
  · assumption
  · cases h
theorem first_more {l : List Sp} {k : Nat} {e : Sp} (he : l[k]? = some e) (h : ∀ i, i < k → ∀ x, l[i]? = some x → okS x = true) (hm : okS e = true) : ∀ i, i < k + 1 → ∀ x, l[i]? = some x → okS x = true := by
  intro i hi x hx
  rcases Nat.lt_succ_iff_lt_or_eq.1 hi with h1 | rfl
  · exact h i h1 x hx
  · rw [he] at hx; cases hx; exact hm

/-! ### Its bytes -/
/-- An int as a uint64. -/
def u64 (z : Int) : Nat := (z % 18446744073709551616).toNat
theorem u64_lt (z : Int) : u64 z < 18446744073709551616 := by unfold u64; omega
theorem u64_wrap (z : Int) : IntKind.u64.wrap z = (u64 z : Int) := by rw [IntKind.wrap_u64]; unfold u64; omega
theorem u64_pos {z : Int} (h0 : 0 ≤ z) (h1 : z < 18446744073709551616) : u64 z = z.toNat := by unfold u64; rw [Int.emod_eq_of_lt h0 h1]
def spB (e : Sp) : List UInt8 := num (u64 e.pt) ++ (text e.nm ++ num (u64 e.bg))
def spsB (l : List Sp) : List UInt8 := l.flatMap spB
def planB (l : List Sp) : List UInt8 := num l.length ++ spsB l
theorem spsB_take {l : List Sp} {j : Nat} {e : Sp} (he : l[j]? = some e) : spsB (l.take (j + 1)) = spsB (l.take j) ++ spB e := by
  obtain ⟨hj, rfl⟩ := List.getElem?_eq_some_iff.1 he
  unfold spsB
  rw [List.take_succ_eq_append_getElem hj, List.flatMap_append, List.flatMap_cons, List.flatMap_nil, List.append_nil]
/-- The names' lengths, added up. -/
def nms (l : List Sp) : Nat := (l.map fun e => e.nm.size).sum
theorem nms_cons (e : Sp) (l : List Sp) : nms (e :: l) = e.nm.size + nms l := by simp [nms]
theorem nms_take (l : List Sp) (k : Nat) : nms (l.take k) ≤ nms l := by
  induction l generalizing k with
  | nil => simp
  | cons e l ih =>
    cases k with
    | zero => simp [nms]
    | succ k => rw [List.take_succ_cons, nms_cons, nms_cons]; have := ih k; omega
theorem nms_at {l : List Sp} {k : Nat} {e : Sp} (h : l[k]? = some e) : nms (l.take k) + e.nm.size ≤ nms l := by
  induction l generalizing k with
  | nil => simp at h
  | cons x l ih =>
    cases k with
    | zero => simp only [List.getElem?_cons_zero, Option.some.injEq] at h; subst h; rw [List.take_zero, nms_cons]; simp [nms]
    | succ k => rw [List.take_succ_cons, nms_cons, nms_cons]; have := ih (k := k) (by simpa using h); omega
theorem spB_le (e : Sp) (h : e.nm.size < 18446744073709551616) : (spB e).length ≤ e.nm.size + 27 := by
  have h1 := num9 (u64_lt e.pt)
  have h2 := num9 (u64_lt e.bg)
  have h3 := text_length e.nm h
  unfold spB
  simp only [List.length_append]
  omega
theorem spsB_le (l : List Sp) (h : nms l < 18446744073709551616) : (spsB l).length ≤ nms l + l.length * 27 := by
  induction l with
  | nil => simp [spsB]
  | cons e l ih =>
    rw [nms_cons] at h ⊢
    have h1 := ih (by omega)
    have h2 := spB_le e (by omega)
    have e0 : spsB (e :: l) = spB e ++ spsB l := by simp [spsB]
    rw [e0, List.length_append, List.length_cons]
    omega

/-! ### What any bytes say -/
def rSp (r : Rd) : Sp := ⟨(upV r.s 3 : Nat), textV (r.up 3).s 16, (upV ((r.up 3).text 16).s 9 : Nat)⟩
def rSpR (r : Rd) : Rd := ((r.up 3).text 16).up 9
def rAt : Nat → Rd → Rd
  | 0, r => r
  | k + 1, r => rSpR (rAt k r)
def rSps : Nat → Rd → List Sp
  | 0, _ => []
  | k + 1, r => rSps k r ++ [rSp (rAt k r)]
theorem rAt_front (k : Nat) (r : Rd) : rAt (k + 1) r = rAt k (rSpR r) := by
  induction k with
  | zero => rfl
  | succ k ih => show rSpR (rAt (k + 1) r) = rSpR (rAt k (rSpR r)); rw [ih]
theorem rSps_front (k : Nat) (r : Rd) : rSps (k + 1) r = rSp r :: rSps k (rSpR r) := by
  induction k with
  | zero => rfl
  | succ k ih =>
    show rSps (k + 1) r ++ [rSp (rAt (k + 1) r)] = _ :: (rSps k (rSpR r) ++ [rSp (rAt k (rSpR r))])
    rw [ih, rAt_front, List.cons_append]
theorem rSps_length (k : Nat) (r : Rd) : (rSps k r).length = k := by
  induction k with
  | zero => rfl
  | succ k ih => show (rSps k r ++ [_]).length = _; rw [List.length_append, ih]; rfl
theorem rSpR_le (r : Rd) : (rSpR r).s.size ≤ r.s.size := Nat.le_trans (Rd.up_le _ _) (Nat.le_trans (Rd.text_le _ _) (Rd.up_le _ _))
theorem rAt_le (k : Nat) (r : Rd) : (rAt k r).s.size ≤ r.s.size := by
  induction k with
  | zero => exact Nat.le_refl _
  | succ k ih => exact Nat.le_trans (rSpR_le _) ih
/-- How many steps stand in front, the reader behind them, the steps that are answered. -/
def rN (r : Rd) : Nat := upV r.s 64
def rEnd (r : Rd) : Rd := rAt (rN r) (r.up 64)
def rPlan (r : Rd) : List Sp := if (rEnd r).bad then [] else rSps (rN r) (r.up 64)
theorem rN_le (r : Rd) : rN r ≤ 64 := by have := upV_nat r.s (k := 64) (by decide); unfold rN; omega
theorem rEnd_le (r : Rd) : (rEnd r).s.size ≤ r.s.size := Nat.le_trans (rAt_le _ _) (Rd.up_le _ _)

theorem sp_go {e : Sp} (h : okS e = true) (r : List UInt8) (b : Bool) : rSp ⟨str (spB e ++ r), b⟩ = e ∧ rSpR ⟨str (spB e ++ r), b⟩ = ⟨str r, b⟩ := by
  obtain ⟨p0, p1, n0, n1, b0, b1⟩ := okS_yes h
  obtain ⟨pt, nm, bg⟩ := e
  simp only at p0 p1 n0 n1 b0 b1
  obtain ⟨p, rfl⟩ := Int.eq_ofNat_of_zero_le p0
  obtain ⟨g, rfl⟩ := Int.eq_ofNat_of_zero_le (show 0 ≤ bg by omega)
  have hp : p < 18446744073709551616 := by omega
  have hg : g < 18446744073709551616 := by omega
  have hs : nm.size < 18446744073709551616 := by omega
  have e0 : spB ⟨(p : Int), nm, (g : Int)⟩ ++ r = num p ++ (text nm ++ (num g ++ r)) := by
    unfold spB
    rw [u64_pos (by show (0 : Int) ≤ (p : Int); omega) (by show (p : Int) < _; omega), u64_pos (by show (0 : Int) ≤ (g : Int); omega) (by show (g : Int) < _; omega)]
    simp [List.append_assoc]
  rw [e0]
  have g1 := up_go hp (text nm ++ (num g ++ r)) b (k := 3) p1
  have g2 := text_go hs (num g ++ r) b (k := 16) (by omega)
  have g3 := up_go hg r b (k := 9) b1
  constructor
  · simp only [rSp]
    rw [g1, g2]
    simp only
    rw [upV_laid hp _ p1, textV_laid hs _ (by omega), upV_laid hg _ b1]
  · unfold rSpR
    rw [g1, g2, g3]
theorem sps_go (l : List Sp) (h : ∀ e ∈ l, okS e = true) (r : List UInt8) (b : Bool) : rSps l.length ⟨str (spsB l ++ r), b⟩ = l ∧ rAt l.length ⟨str (spsB l ++ r), b⟩ = ⟨str r, b⟩ := by
  induction l with
  | nil => exact ⟨rfl, rfl⟩
  | cons e l ih =>
    have he := h e (List.mem_cons_self)
    have e0 : spsB (e :: l) ++ r = spB e ++ (spsB l ++ r) := by simp [spsB, List.append_assoc]
    obtain ⟨g1, g2⟩ := sp_go he (spsB l ++ r) b
    obtain ⟨g3, g4⟩ := ih fun x hx => h x (List.mem_cons_of_mem _ hx)
    rw [List.length_cons, rSps_front, rAt_front, e0, g1, g2, g3, g4]
    exact ⟨rfl, rfl⟩
/-- What was laid of a definition is read. -/
theorem plan_go {l : List Sp} (h : isDef l = true) (r : List UInt8) : rPlan ⟨str (planB l ++ r), false⟩ = l ∧ rEnd ⟨str (planB l ++ r), false⟩ = ⟨str r, false⟩ := by
  obtain ⟨h1, h2, h3⟩ := isDef_yes h
  have hn : l.length < 18446744073709551616 := by omega
  have e0 : planB l ++ r = num l.length ++ (spsB l ++ r) := by unfold planB; rw [List.append_assoc]
  obtain ⟨g1, g2⟩ := sps_go l h3 r false
  have eN : rN ⟨str (planB l ++ r), false⟩ = l.length := by unfold rN; rw [e0]; exact upV_laid hn _ (by omega)
  have eU : Rd.up ⟨str (planB l ++ r), false⟩ 64 = ⟨str (spsB l ++ r), false⟩ := by rw [e0]; exact up_go hn _ _ (by omega)
  have eE : rEnd ⟨str (planB l ++ r), false⟩ = ⟨str r, false⟩ := by unfold rEnd; rw [eN, eU, g2]
  refine ⟨?_, eE⟩
  unfold rPlan
  rw [eE, eN, eU, g1]
  rfl
theorem planB_le {l : List Sp} (h : isDef l = true) : (planB l).length ≤ 10000 := by
  obtain ⟨h1, h2, h3⟩ := isDef_yes h
  have hn : nms l ≤ l.length * 16 := by
    clear h h1 h2
    induction l with
    | nil => simp [nms]
    | cons e l ih =>
      have := (okS_yes (h3 e List.mem_cons_self)).2.2.2.1
      have := ih fun x hx => h3 x (List.mem_cons_of_mem _ hx)
      rw [nms_cons, List.length_cons]; omega
  have := spsB_le l (by omega)
  have := num9 (x := l.length) (by omega)
  unfold planB
  rw [List.length_append]
  omega
end Go.Proofs.YthaepkpmpnofgaaGreat.Pln
set_option linter.unusedVariables false
set_option linter.unusedSimpArgs false
namespace Go.Proofs.YthaepkpmpnofgaaGreat.Sag
open Go.Proofs.YthaepkpmpnofgaaGreat.Stq Go.Proofs.YthaepkpmpnofgaaGreat.Pln

structure Sg where
  l : List Sp
  st : Int
  cu : Int
  fa : Int
/-- A step's budget. -/
def bud (l : List Sp) (k : Int) : Int := ((l[k.toNat]?).map fun e => e.bg).getD 0
theorem bud_at {l : List Sp} {k : Nat} {e : Sp} (h : l[k]? = some e) : bud l (k : Int) = e.bg := by simp [bud, h]
theorem bud_def {l : List Sp} {k : Int} (hl : chk l = 0) (h0 : 0 ≤ k) (h1 : k < l.length) : 1 ≤ bud l k ∧ bud l k ≤ 9 := by
  obtain ⟨k, rfl⟩ := Int.eq_ofNat_of_zero_le h0
  have hk : k < l.length := by omega
  rw [bud_at (List.getElem?_eq_getElem hk)]
  have := okS_yes ((isDef_yes (chk_def hl)).2.2 _ (List.getElem_mem hk))
  omega
theorem len_def {l : List Sp} (h : chk l = 0) : 1 ≤ l.length ∧ l.length ≤ 64 := ⟨(isDef_yes (chk_def h)).1, (isDef_yes (chk_def h)).2.1⟩
theorem chk_or (l : List Sp) : chk l = 0 ∨ chk l = 44 := by unfold chk; split <;> simp
/-- It can be. -/
def Snd (s : Sg) : Prop := chk s.l = 0 ∧
  ((s.st = 1 ∧ (0 ≤ s.cu ∧ s.cu < s.l.length) ∧ s.fa = 0) ∨ (s.st = 2 ∧ (0 ≤ s.cu ∧ s.cu < s.l.length) ∧ 0 ≤ s.fa ∧ s.fa < bud s.l s.cu) ∨ (s.st = 3 ∧ s.cu = s.l.length ∧ s.fa = 0) ∨ (s.st = 4 ∧ s.cu = 0 ∧ s.fa = 0) ∨ (s.st = 5 ∧ (0 ≤ s.cu ∧ s.cu < s.l.length) ∧ s.fa = bud s.l s.cu))
instance (s : Sg) : Decidable (Snd s) := by unfold Snd; infer_instance
def sound (s : Sg) : Bool := decide (Snd s)
theorem sound_yes {s : Sg} (h : sound s = true) : Snd s := of_decide_eq_true h
theorem sound_mk {s : Sg} (h : Snd s) : sound s = true := decide_eq_true h
theorem sound_not {s : Sg} (h : ¬ Snd s) : sound s = false := decide_eq_false h
def ended (s : Sg) : Bool := decide (3 ≤ s.st ∧ s.st ≤ 5)
/-- It waits for something. -/
def opn (s : Sg) : Bool := sound s && decide (s.st ≤ 2)
theorem opn_ended (s : Sg) : opn s = (sound s && !ended s) := by
  unfold opn
  by_cases h : Snd s
  · rw [sound_mk h]
    obtain ⟨_, h⟩ := h
    simp only [Bool.true_and]
    rw [Bool.eq_iff_iff]
    simp only [ended, decide_eq_true_eq, Bool.not_eq_true', decide_eq_false_iff_not]
    omega
  · rw [sound_not h]; rfl
def wantC (s : Sg) : Int := if opn s then s.cu else 0
def wantB (s : Sg) : Bool := opn s && decide (s.st = 2)
/-- Taken back from a step on. -/
def back (s : Sg) (k : Int) : Sg := if k < 0 then ⟨s.l, 4, 0, 0⟩ else ⟨s.l, 2, k, 0⟩
def aborts (s : Sg) : Bool := sound s && decide (s.st = 1)
def abort (s : Sg) : Sg := if aborts s then back s s.cu else s
def fwd (s : Sg) : Sg := ⟨s.l, if s.cu + 1 = s.l.length then 3 else s.st, s.cu + 1, s.fa⟩
def fail (s : Sg) : Sg := ⟨s.l, if s.fa + 1 = bud s.l s.cu then 5 else s.st, s.cu, s.fa + 1⟩
def takes (s : Sg) (step : Int) (taken : Bool) (tr : Int) (ok : Bool) : Bool := opn s && (decide (step = s.cu) && ((taken == decide (s.st = 2)) && (ok || decide (tr = s.fa))))
def next (s : Sg) (taken ok : Bool) : Sg := if taken = false ∧ ok = true then fwd s else if taken = false ∨ ok = true then back s (s.cu - 1) else fail s
def outc (s : Sg) (step : Int) (taken : Bool) (tr : Int) (ok : Bool) : Sg := if takes s step taken tr ok then next s taken ok else s

theorem back_l (s : Sg) (k : Int) : (back s k).l = s.l := by unfold back; split <;> rfl
theorem abort_l (s : Sg) : (abort s).l = s.l := by unfold abort; split; exact back_l _ _; rfl
theorem next_l (s : Sg) (taken ok : Bool) : (next s taken ok).l = s.l := by
  unfold next
  split
  · rfl
  · split
    · exact back_l _ _
    · rfl
theorem outc_l (s : Sg) (step : Int) (taken : Bool) (tr : Int) (ok : Bool) : (outc s step taken tr ok).l = s.l := by
  unfold outc; split; exact next_l _ _ _; rfl
theorem opn_yes {s : Sg} (h : opn s = true) : Snd s ∧ ((s.st = 1 ∧ (0 ≤ s.cu ∧ s.cu < s.l.length) ∧ s.fa = 0) ∨ (s.st = 2 ∧ (0 ≤ s.cu ∧ s.cu < s.l.length) ∧ 0 ≤ s.fa ∧ s.fa < bud s.l s.cu)) := by
  unfold opn at h
  rw [Bool.and_eq_true] at h
  have h1 := sound_yes h.1
  have h2 := of_decide_eq_true h.2
  refine ⟨h1, ?_⟩
  obtain ⟨_, h⟩ := h1
  omega
theorem aborts_yes {s : Sg} (h : aborts s = true) : Snd s ∧ s.st = 1 ∧ (0 ≤ s.cu ∧ s.cu < s.l.length) ∧ s.fa = 0 := by
  unfold aborts at h
  rw [Bool.and_eq_true] at h
  have h1 := sound_yes h.1
  have h2 := of_decide_eq_true h.2
  refine ⟨h1, h2, ?_⟩
  obtain ⟨_, h⟩ := h1
  omega
theorem takes_yes {s : Sg} {step : Int} {taken : Bool} {tr : Int} {ok : Bool} (h : takes s step taken tr ok = true) : opn s = true ∧ step = s.cu ∧ taken = decide (s.st = 2) ∧ (ok = true ∨ tr = s.fa) := by
  unfold takes at h
  simp only [Bool.and_eq_true, decide_eq_true_eq, Bool.or_eq_true, beq_iff_eq] at h
  exact h
theorem back_snd {s : Sg} (h : chk s.l = 0) {k : Int} (hk : k < s.l.length) : Snd (back s k) := by
  have hl := len_def h
  unfold back
  split
  · exact ⟨h, .inr (.inr (.inr (.inl ⟨rfl, rfl, rfl⟩)))⟩
  · have hb := bud_def h (k := k) (by omega) hk
    exact ⟨h, .inr (.inl ⟨rfl, ⟨by show 0 ≤ k; omega, hk⟩, by show (0 : Int) ≤ 0; omega, by show 0 < bud s.l k; omega⟩)⟩
theorem abort_snd {s : Sg} (h : Snd s) : Snd (abort s) := by
  unfold abort
  split
  · exact back_snd h.1 (aborts_yes (by assumption)).2.2.1.2
  · exact h
theorem next_snd {s : Sg} {taken ok : Bool} (h : opn s = true) (ht : taken = decide (s.st = 2)) : Snd (next s taken ok) := by
  obtain ⟨h1, h2⟩ := opn_yes h
  have hc := h1.1
  unfold next
  split
  · rename_i hc2
    have h3 : ¬ s.st = 2 := by rw [hc2.1] at ht; simpa using ht.symm
    obtain ⟨g1, g2, g3⟩ : s.st = 1 ∧ (0 ≤ s.cu ∧ s.cu < s.l.length) ∧ s.fa = 0 := by omega
    unfold fwd
    split
    · rename_i he
      exact ⟨hc, .inr (.inr (.inl ⟨rfl, he, g3⟩))⟩
    · exact ⟨hc, .inl ⟨g1, ⟨by show 0 ≤ s.cu + 1; omega, by show s.cu + 1 < s.l.length; omega⟩, g3⟩⟩
  · split
    · exact back_snd hc (by omega)
    · rename_i hn
      have ht1 : taken = true := by cases taken <;> simp_all
      have h3 : s.st = 2 := by rw [ht1] at ht; simpa using ht.symm
      obtain ⟨g2, g3, g4⟩ : (0 ≤ s.cu ∧ s.cu < s.l.length) ∧ 0 ≤ s.fa ∧ s.fa < bud s.l s.cu := by omega
      unfold fail
      split
      · rename_i he
        exact ⟨hc, .inr (.inr (.inr (.inr ⟨rfl, g2, he⟩)))⟩
      · exact ⟨hc, .inr (.inl ⟨h3, g2, by show 0 ≤ s.fa + 1; omega, by show s.fa + 1 < bud s.l s.cu; omega⟩)⟩
theorem outc_snd {s : Sg} (h : Snd s) (step : Int) (taken : Bool) (tr : Int) (ok : Bool) : Snd (outc s step taken tr ok) := by
  unfold outc
  split
  · have := takes_yes (by assumption)
    exact next_snd this.1 this.2.2.1
  · exact h
theorem opn_in {s : Sg} (h : opn s = true) : 0 ≤ s.cu ∧ s.cu < s.l.length := by have := (opn_yes h).2; omega
theorem opn_back {s : Sg} (h : opn s = true) (h2 : wantB s = true) : 0 ≤ s.fa ∧ s.fa < bud s.l s.cu ∧ bud s.l s.cu ≤ 9 := by
  unfold wantB at h2
  rw [h, Bool.true_and] at h2
  have h3 := of_decide_eq_true h2
  have h4 := opn_yes h
  have h5 := bud_def h4.1.1 (opn_in h).1 (opn_in h).2
  have := h4.2
  omega
/-- What an outcome comes to: nothing, by one of four ways; or a change. -/
theorem ways6 {s : Sg} {step : Int} {taken : Bool} {tr : Int} {ok : Bool} {s' : Sg} {b : Bool} {q : Int} {y x : Bool} (hs : outc s step taken tr ok = s') (hb : takes s step taken tr ok = b) (hq : wantC s = q) (hy : wantB s = y) (hx : opn s = x) :
    ((x = false ∨ (x = true ∧ (step != q) = true) ∨ (x = true ∧ (step != q) = false ∧ ((taken = true ∧ y = false) ∨ (taken = false ∧ y = true))) ∨ (x = true ∧ (step != q) = false ∧ taken = y ∧ ok = false ∧ (tr != s.fa) = true)) ∧ b = false ∧ s' = s) ∨
    (x = true ∧ b = true ∧ q = s.cu ∧ (step != q) = false ∧ taken = y ∧ (ok = true ∨ (ok = false ∧ (tr != s.fa) = false)) ∧ s' = next s taken ok) := by
  unfold outc at hs
  rw [hb] at hs
  unfold takes at hb
  unfold wantC at hq
  unfold wantB at hy
  rw [hx] at hb hq hy
  cases x
  · simp only [Bool.false_and] at hb
    subst hb
    exact .inl ⟨.inl rfl, rfl, by rw [← hs]; rfl⟩
  · simp only [Bool.true_and, if_true] at hb hq hy
    rw [hy] at hb
    subst hq
    by_cases h1 : step = s.cu
    · by_cases h2 : taken = y
      · by_cases h3 : ok = true
        · simp only [h1, h2, h3, decide_true, beq_self_eq_true, Bool.true_or, Bool.true_and] at hb
          subst hb
          exact .inr ⟨rfl, rfl, rfl, by simp [h1], h2, .inl h3, by rw [← hs]; rfl⟩
        · have h3' : ok = false := by simpa using h3
          by_cases h4 : tr = s.fa
          · simp only [h1, h2, h3', h4, decide_true, beq_self_eq_true, Bool.false_or, Bool.true_and] at hb
            subst hb
            exact .inr ⟨rfl, rfl, rfl, by simp [h1], h2, .inr ⟨h3', by simp [h4]⟩, by rw [← hs]; rfl⟩
          · simp only [h1, h2, h3', h4, decide_true, decide_false, beq_self_eq_true, Bool.false_or, Bool.true_and] at hb
            subst hb
            exact .inl ⟨.inr (.inr (.inr ⟨rfl, by simp [h1], h2, h3', by simp [h4]⟩)), rfl, by rw [← hs]; rfl⟩
      · have hb' : b = false := by rw [← hb]; simp [h2]
        subst hb'
        refine .inl ⟨.inr (.inr (.inl ⟨rfl, by simp [h1], ?_⟩)), rfl, by rw [← hs]; rfl⟩
        cases taken <;> cases y <;> simp_all
    · have hb' : b = false := by rw [← hb]; simp [h1]
      subst hb'
      exact .inl ⟨.inr (.inl ⟨rfl, by simp [h1]⟩), rfl, by rw [← hs]; rfl⟩
end Go.Proofs.YthaepkpmpnofgaaGreat.Sag
set_option linter.unusedVariables false
set_option linter.unusedSimpArgs false
namespace Go.Proofs.YthaepkpmpnofgaaGreat.Cmd
open Go.RowKit Go.Proofs.YthaepkpmpnofgaaGreat.Kit Go.Proofs.YthaepkpmpnofgaaGreat.Num Go.Proofs.YthaepkpmpnofgaaGreat.Rdr Go.Proofs.YthaepkpmpnofgaaGreat.Reads Go.Proofs.YthaepkpmpnofgaaGreat.Stq Go.Proofs.YthaepkpmpnofgaaGreat.Pln
open Go.Proofs.YthaepkpmpnofgaaGreat.PckWalkB (text bit)
open Go.Proofs.YthaepkpmpnofgaaGreat.PckWalkH (str str_list str_back str_size str_append)
open Go.Proofs.YthaepkpmpnofgaaGreat.PckWalkC (gotB gotB_lt)
open Go.Proofs.YthaepkpmpnofgaaGreat.PckWalkE (upV textV truth)

/-! ### What was read as steps had been laid -/
theorem sp_back (r : Rd) (h : (rSpR r).bad = false) : r.bad = false ∧ r.l = spB (rSp r) ++ (rSpR r).l := by
  obtain ⟨h3, _, e3⟩ := up_back ((r.up 3).text 16) 9 h
  obtain ⟨h2, _, e2⟩ := text_back (r.up 3) 16 h3
  obtain ⟨h1, _, e1⟩ := up_back r 3 h2
  refine ⟨h1, ?_⟩
  have u1 := u64_pos (z := ((upV r.s 3 : Nat) : Int)) (by omega) (by have := upV_u64 r.s 3; omega)
  have u2 := u64_pos (z := ((upV ((r.up 3).text 16).s 9 : Nat) : Int)) (by omega) (by have := upV_u64 ((r.up 3).text 16).s 9; omega)
  rw [e1, e2, e3]
  unfold spB rSp rSpR
  simp only
  rw [u1, u2]
  simp [List.append_assoc]
theorem sps_back (k : Nat) (r : Rd) (h : (rAt k r).bad = false) : r.bad = false ∧ r.l = spsB (rSps k r) ++ (rAt k r).l := by
  induction k generalizing r with
  | zero => exact ⟨h, rfl⟩
  | succ k ih =>
    rw [rAt_front] at h ⊢
    obtain ⟨h1, e1⟩ := ih _ h
    obtain ⟨h2, e2⟩ := sp_back r h1
    refine ⟨h2, ?_⟩
    rw [e2, e1, rSps_front]
    simp [spsB, List.append_assoc]
theorem plan_back (r : Rd) (h : (rEnd r).bad = false) : r.bad = false ∧ r.l = planB (rPlan r) ++ (rEnd r).l := by
  obtain ⟨h1, e1⟩ := sps_back (rN r) (r.up 64) h
  obtain ⟨h2, _, e2⟩ := up_back r 64 h1
  refine ⟨h2, ?_⟩
  have hl : rPlan r = rSps (rN r) (r.up 64) := by unfold rPlan; rw [h]; rfl
  rw [e2, e1, hl]
  unfold planB
  rw [rSps_length]
  show _ = num (rN r) ++ _ ++ _
  rw [List.append_assoc]
  rfl
theorem sps_nm : ∀ (k : Nat) (r : Rd), ∀ e ∈ rSps k r, e.nm.size ≤ 16
  | 0, _, e, h => by simp [rSps] at h
  | k + 1, r, e, h => by
    rcases List.mem_append.1 (show e ∈ rSps k r ++ [rSp (rAt k r)] from h) with h | h
    · exact sps_nm k r e h
    · simp at h
      subst h
      have := textV_le ((rAt k r).up 3).s (k := 16) (by decide)
      show (textV ((rAt k r).up 3).s 16).size ≤ 16
      omega
theorem plan_in (r : Rd) : (rPlan r).length ≤ 64 ∧ ∀ e ∈ rPlan r, e.nm.size ≤ 16 := by
  unfold rPlan
  split
  · exact ⟨by simp, by simp⟩
  · exact ⟨by rw [rSps_length]; exact rN_le r, sps_nm _ _⟩

/-! ### A command -/
structure Cm where
  k : Int
  ss : Nat
  sq : Nat
  sg : Nat
  l : List Sp
  st : Int
  bk : Bool
  tr : Int
  ok : Bool
  nw : Nat
/-- Its numbers lie in memory. -/
structure Fin (m : Cm) : Prop where
  ss : m.ss < 18446744073709551616
  sq : m.sq < 18446744073709551616
  sg : m.sg < 18446744073709551616
  nw : m.nw < 18446744073709551616
def bareB (m : Cm) : Bool := decide (m.st = 0) && !m.bk && decide (m.tr = 0) && !m.ok
def outB (m : Cm) : Bool := decide (0 ≤ m.st ∧ m.st ≤ 63 ∧ 0 ≤ m.tr ∧ m.tr ≤ 8 ∧ m.ss = 0 ∧ m.sq = 0)
def mayB (m : Cm) : Bool :=
  if m.k = 1 ∨ m.k = 3 ∨ m.k = 5 then decide (m.l.length = 0) && bareB m
  else if m.k = 2 then decide (chk m.l = 0) && bareB m
  else if m.k = 4 then decide (m.l.length = 0) && outB m
  else false
def encZ (m : Cm) : Int := if m.k = 2 ∧ chk m.l ≠ 0 then 44 else if mayB m = true then 0 else 1
def tailB (m : Cm) : List UInt8 := if m.k = 2 then planB m.l else if m.k = 4 then num (u64 m.st) ++ (num (bit m.bk) ++ (num (u64 m.tr) ++ num (bit m.ok))) else []
def cmB (m : Cm) : List UInt8 := num (u64 m.k) ++ (num m.ss ++ (num m.sq ++ (num m.sg ++ (num m.nw ++ tailB m))))
def encS (m : Cm) : ByteArray := if mayB m = true then str (cmB m) else ByteArray.empty
def zeroC : Cm := ⟨0, 0, 0, 0, [], 0, false, 0, false, 0⟩
theorem encZ_may {m : Cm} (h : mayB m = true) : encZ m = 0 := by
  unfold encZ
  rw [if_neg, if_pos h]
  rintro ⟨h2, hc⟩
  unfold mayB at h
  rw [if_neg (by omega), if_pos h2] at h
  simp only [Bool.and_eq_true, decide_eq_true_eq] at h
  exact hc h.1
theorem encZ_not {m : Cm} (h : mayB m = false) : (encZ m = 44 ∧ m.k = 2 ∧ chk m.l = 44) ∨ (encZ m = 1 ∧ (m.k = 2 → chk m.l = 0)) := by
  unfold encZ
  by_cases h2 : m.k = 2 ∧ chk m.l ≠ 0
  · rw [if_pos h2]
    refine .inl ⟨rfl, h2.1, ?_⟩
    have := h2.2
    unfold chk at this ⊢
    split
    · rename_i hd; rw [if_pos hd] at this; exact absurd rfl this
    · rfl
  · rw [if_neg h2, if_neg (by rw [h]; decide)]
    exact .inr ⟨rfl, fun hk => Classical.byContradiction fun hc => h2 ⟨hk, hc⟩⟩
theorem encS_may {m : Cm} (h : mayB m = true) : encS m = str (cmB m) := by unfold encS; rw [if_pos h]
theorem encS_not {m : Cm} (h : mayB m = false) : encS m = ByteArray.empty := by unfold encS; rw [if_neg (by rw [h]; decide)]
/-- What may be, by its kind. -/
theorem may_kind {m : Cm} (h : mayB m = true) : ((m.k = 1 ∨ m.k = 3 ∨ m.k = 5) ∧ m.l = [] ∧ m.st = 0 ∧ m.bk = false ∧ m.tr = 0 ∧ m.ok = false) ∨ (m.k = 2 ∧ chk m.l = 0 ∧ m.st = 0 ∧ m.bk = false ∧ m.tr = 0 ∧ m.ok = false) ∨
    (m.k = 4 ∧ m.l = [] ∧ 0 ≤ m.st ∧ m.st ≤ 63 ∧ 0 ≤ m.tr ∧ m.tr ≤ 8 ∧ m.ss = 0 ∧ m.sq = 0) := by
  unfold mayB at h
  split at h
  · rename_i hk
    unfold bareB at h
    simp only [Bool.and_eq_true, decide_eq_true_eq, Bool.not_eq_true'] at h
    obtain ⟨h1, ⟨⟨h2, h3⟩, h4⟩, h5⟩ := h
    exact .inl ⟨hk, List.eq_nil_of_length_eq_zero h1, h2, h3, h4, h5⟩
  · split at h
    · rename_i hk
      unfold bareB at h
      simp only [Bool.and_eq_true, decide_eq_true_eq, Bool.not_eq_true'] at h
      obtain ⟨h1, ⟨⟨h2, h3⟩, h4⟩, h5⟩ := h
      exact .inr (.inl ⟨hk, h1, h2, h3, h4, h5⟩)
    · split at h
      · rename_i hk
        unfold outB at h
        simp only [Bool.and_eq_true, decide_eq_true_eq] at h
        exact .inr (.inr ⟨hk, List.eq_nil_of_length_eq_zero h.1, h.2⟩)
      · cases h
theorem may_k {m : Cm} (h : mayB m = true) : 1 ≤ m.k ∧ m.k ≤ 5 := by
  rcases may_kind h with ⟨h, _⟩ | ⟨h, _⟩ | ⟨h, _⟩ <;> omega

/-! ### Its bytes are few -/
theorem tailB_le {m : Cm} (h : mayB m = true) : (tailB m).length ≤ 10000 := by
  unfold tailB
  split
  · rename_i hk
    rcases may_kind h with ⟨h1, _⟩ | ⟨_, h2, _⟩ | ⟨h1, _⟩
    · omega
    · exact planB_le (chk_def h2)
    · omega
  · split
    · have h1 := num9 (u64_lt m.st)
      have h2 := num9 (bit_lt m.bk)
      have h3 := num9 (u64_lt m.tr)
      have h4 := num9 (bit_lt m.ok)
      simp only [List.length_append]
      omega
    · simp
theorem cmB_le {m : Cm} (f : Fin m) (h : mayB m = true) : (cmB m).length ≤ 11000 := by
  have h1 := num9 (u64_lt m.k)
  have h2 := num9 f.ss
  have h3 := num9 f.sq
  have h4 := num9 f.sg
  have h5 := num9 f.nw
  have h6 := tailB_le h
  unfold cmB
  simp only [List.length_append]
  omega

/-! ### What any bytes say -/
def c1 (r : Rd) : Rd := r.up 5
def c2 (r : Rd) : Rd := (c1 r).num
def c3 (r : Rd) : Rd := (c2 r).num
def c4 (r : Rd) : Rd := (c3 r).num
def c5 (r : Rd) : Rd := (c4 r).num
def o1 (r : Rd) : Rd := r.up 63
def o2 (r : Rd) : Rd := (o1 r).up 1
def o3 (r : Rd) : Rd := (o2 r).up 8
def o4 (r : Rd) : Rd := (o3 r).up 1
def rCm (r : Rd) : Cm :=
  if upV r.s 5 = 2 then ⟨(upV r.s 5 : Nat), gotB (c1 r).s, gotB (c2 r).s, gotB (c3 r).s, rPlan (c5 r), 0, false, 0, false, gotB (c4 r).s⟩
  else if upV r.s 5 = 4 then ⟨(upV r.s 5 : Nat), gotB (c1 r).s, gotB (c2 r).s, gotB (c3 r).s, [], (upV (c5 r).s 63 : Nat), truth (o1 (c5 r)).s, (upV (o2 (c5 r)).s 8 : Nat), truth (o3 (c5 r)).s, gotB (c4 r).s⟩
  else ⟨(upV r.s 5 : Nat), gotB (c1 r).s, gotB (c2 r).s, gotB (c3 r).s, [], 0, false, 0, false, gotB (c4 r).s⟩
def rTo (r : Rd) : Rd := if upV r.s 5 = 2 then rEnd (c5 r) else if upV r.s 5 = 4 then o4 (c5 r) else c5 r
/-- Is it a command's? -/
def yes (s : ByteArray) : Bool := (rTo ⟨s, false⟩).done && mayB (rCm ⟨s, false⟩)
def dec (s : ByteArray) : Cm := if yes s = true then rCm ⟨s, false⟩ else zeroC
def decZ (s : ByteArray) : Int := if yes s = true then 0 else 2
theorem rCm_fin (r : Rd) : Fin (rCm r) := by
  unfold rCm
  split
  · exact ⟨gotB_lt _, gotB_lt _, gotB_lt _, gotB_lt _⟩
  · split
    · exact ⟨gotB_lt _, gotB_lt _, gotB_lt _, gotB_lt _⟩
    · exact ⟨gotB_lt _, gotB_lt _, gotB_lt _, gotB_lt _⟩
theorem truth_bit (s : ByteArray) : upV s 1 = bit (truth s) := by
  have h := upV_nat s (k := 1) (by decide)
  unfold truth bit
  by_cases h1 : upV s 1 = 1
  · simp [h1]
  · have : upV s 1 = 0 := by omega
    simp [this]
theorem u64_nat {n : Nat} (h : n < 18446744073709551616) : u64 (n : Int) = n := by rw [u64_pos (by omega) (by omega)]; simp
theorem eta (r : Rd) : r.l = r.s.data.toList := rfl
theorem cm_back (r : Rd) (h : (rTo r).bad = false) : r.bad = false ∧ r.l = cmB (rCm r) ++ (rTo r).l := by
  have key : ∀ t : List UInt8, (c5 r).bad = false → (c5 r).l = t → r.bad = false ∧ r.l = num (upV r.s 5) ++ (num (gotB (c1 r).s) ++ (num (gotB (c2 r).s) ++ (num (gotB (c3 r).s) ++ (num (gotB (c4 r).s) ++ t)))) := by
    intro t h5 e5
    obtain ⟨h4, e4⟩ := num_back (c4 r) h5
    obtain ⟨h3, e3⟩ := num_back (c3 r) h4
    obtain ⟨h2, e2⟩ := num_back (c2 r) h3
    obtain ⟨h1, e1⟩ := num_back (c1 r) h2
    obtain ⟨h0, _, e0⟩ := up_back r 5 h1
    refine ⟨h0, ?_⟩
    have a4 : (c4 r).l = num (gotB (c4 r).s) ++ t := by rw [e4, ← e5]; rfl
    have a3 : (c3 r).l = num (gotB (c3 r).s) ++ (c4 r).l := e3
    have a2 : (c2 r).l = num (gotB (c2 r).s) ++ (c3 r).l := e2
    have a1 : (c1 r).l = num (gotB (c1 r).s) ++ (c2 r).l := e1
    have a0 : r.l = num (upV r.s 5) ++ (c1 r).l := e0
    rw [a0, a1, a2, a3, a4]
  have hk := u64_nat (upV_u64 r.s 5)
  unfold rTo at h ⊢
  unfold rCm
  split at h
  · rename_i h2
    rw [if_pos h2, if_pos h2]
    obtain ⟨h5, e5⟩ := plan_back (c5 r) h
    obtain ⟨h0, e0⟩ := key _ h5 e5
    refine ⟨h0, ?_⟩
    rw [e0]
    unfold cmB tailB
    simp only
    rw [if_pos (by omega), hk]
    simp [List.append_assoc]
  · split at h
    · rename_i h2 h4
      rw [if_neg h2, if_pos h4, if_neg h2, if_pos h4]
      obtain ⟨b3, _, f3⟩ := up_back (o3 (c5 r)) 1 h
      obtain ⟨b2, _, f2⟩ := up_back (o2 (c5 r)) 8 b3
      obtain ⟨b1, _, f1⟩ := up_back (o1 (c5 r)) 1 b2
      obtain ⟨b0, _, f0⟩ := up_back (c5 r) 63 b1
      have g0 : (c5 r).l = num (upV (c5 r).s 63) ++ (o1 (c5 r)).l := f0
      have g1 : (o1 (c5 r)).l = num (upV (o1 (c5 r)).s 1) ++ (o2 (c5 r)).l := f1
      have g2 : (o2 (c5 r)).l = num (upV (o2 (c5 r)).s 8) ++ (o3 (c5 r)).l := f2
      have g3 : (o3 (c5 r)).l = num (upV (o3 (c5 r)).s 1) ++ (o4 (c5 r)).l := f3
      rw [g1, g2, g3] at g0
      obtain ⟨h0, e0⟩ := key _ b0 g0
      refine ⟨h0, ?_⟩
      rw [e0]
      unfold cmB tailB
      simp only
      rw [if_neg (by omega), if_pos (by omega), hk, u64_nat (upV_u64 _ 63), u64_nat (upV_u64 _ 8), ← truth_bit, ← truth_bit]
      simp [List.append_assoc]
    · rename_i h2 h4
      rw [if_neg h2, if_neg h4, if_neg h2, if_neg h4]
      obtain ⟨h0, e0⟩ := key _ h rfl
      refine ⟨h0, ?_⟩
      rw [e0]
      unfold cmB tailB
      simp only
      rw [if_neg (by omega), if_neg (by omega), hk]
      simp [List.append_assoc]
theorem size0 (s : ByteArray) (h : s.size = 0) : s.data.toList = [] := by
  rw [Lib.size_eq] at h
  exact List.eq_nil_of_length_eq_zero h
theorem done_to {r : Rd} (h : r.done = true) : r.bad = false ∧ r.l = [] := by
  unfold Rd.done at h
  simp only [Bool.and_eq_true, decide_eq_true_eq, Bool.not_eq_true'] at h
  exact ⟨h.2, size0 _ h.1⟩
/-- Bytes that say a command are its bytes. -/
theorem yes_back {s : ByteArray} (h : yes s = true) : mayB (dec s) = true ∧ s = str (cmB (dec s)) ∧ Fin (dec s) := by
  have hd : dec s = rCm ⟨s, false⟩ := by unfold dec; rw [if_pos h]
  unfold yes at h
  simp only [Bool.and_eq_true] at h
  obtain ⟨hd0, hm⟩ := h
  obtain ⟨hb, hl⟩ := done_to hd0
  obtain ⟨_, e⟩ := cm_back ⟨s, false⟩ hb
  rw [hl, List.append_nil] at e
  rw [hd]
  refine ⟨hm, ?_, rCm_fin _⟩
  rw [← e]
  unfold Rd.l
  exact (str_back s).symm

/-! ### Forward: what was laid is read -/
theorem truth_laid (b : Bool) (r : List UInt8) : truth (str (num (bit b) ++ r)) = b := by
  unfold truth
  rw [upV_laid (bit_lt b) r (bit_le b)]
  cases b <;> rfl
theorem cm_go {m : Cm} (f : Fin m) (h : mayB m = true) : rCm ⟨str (cmB m), false⟩ = m ∧ rTo ⟨str (cmB m), false⟩ = ⟨str [], false⟩ := by
  obtain ⟨k0, k5⟩ := may_k h
  have hkk := may_kind h
  obtain ⟨k, ss, sq, sg, l, st, bk, tr, ok, nw⟩ := m
  obtain ⟨f1, f2, f3, f4⟩ := f
  simp only at k0 k5 hkk f1 f2 f3 f4
  obtain ⟨k, rfl⟩ := Int.eq_ofNat_of_zero_le (show 0 ≤ k by omega)
  have hk : k < 18446744073709551616 := by omega
  obtain ⟨t, ht⟩ : ∃ t, tailB ⟨(k : Int), ss, sq, sg, l, st, bk, tr, ok, nw⟩ = t := ⟨_, rfl⟩
  have e0 : cmB ⟨(k : Int), ss, sq, sg, l, st, bk, tr, ok, nw⟩ = num k ++ (num ss ++ (num sq ++ (num sg ++ (num nw ++ t)))) := by
    unfold cmB
    simp only
    rw [ht, u64_nat hk]
  have e1 : c1 ⟨str (num k ++ (num ss ++ (num sq ++ (num sg ++ (num nw ++ t))))), false⟩ = ⟨str (num ss ++ (num sq ++ (num sg ++ (num nw ++ t)))), false⟩ := up_go hk _ _ (by omega)
  have e2 : c2 ⟨str (num k ++ (num ss ++ (num sq ++ (num sg ++ (num nw ++ t))))), false⟩ = ⟨str (num sq ++ (num sg ++ (num nw ++ t))), false⟩ := by unfold c2; rw [e1]; exact num_go f1 _ _
  have e3 : c3 ⟨str (num k ++ (num ss ++ (num sq ++ (num sg ++ (num nw ++ t))))), false⟩ = ⟨str (num sg ++ (num nw ++ t)), false⟩ := by unfold c3; rw [e2]; exact num_go f2 _ _
  have e4 : c4 ⟨str (num k ++ (num ss ++ (num sq ++ (num sg ++ (num nw ++ t))))), false⟩ = ⟨str (num nw ++ t), false⟩ := by unfold c4; rw [e3]; exact num_go f3 _ _
  have e5 : c5 ⟨str (num k ++ (num ss ++ (num sq ++ (num sg ++ (num nw ++ t))))), false⟩ = ⟨str t, false⟩ := by unfold c5; rw [e4]; exact num_go f4 _ _
  have eU : upV (str (num k ++ (num ss ++ (num sq ++ (num sg ++ (num nw ++ t)))))) 5 = k := upV_laid hk _ (by omega)
  rw [e0]
  unfold rCm rTo
  simp only
  rw [eU, e1, e2, e3, e4, e5]
  simp only
  rw [got_laid f1, got_laid f2, got_laid f3, got_laid f4]
  rcases hkk with ⟨hk', rfl, rfl, rfl, rfl, rfl⟩ | ⟨hk', hc, rfl, rfl, rfl, rfl⟩ | ⟨hk', rfl, s0, s1, t0, t1, rfl, rfl⟩
  · rw [if_neg (by omega), if_neg (by omega), if_neg (by omega), if_neg (by omega)]
    have : t = [] := by rw [← ht]; unfold tailB; simp only; rw [if_neg (by omega), if_neg (by omega)]
    exact ⟨rfl, by rw [this]⟩
  · rw [if_pos (by omega), if_pos (by omega)]
    have : t = planB l ++ [] := by rw [← ht]; unfold tailB; simp only; rw [if_pos (by omega), List.append_nil]
    rw [this]
    obtain ⟨g1, g2⟩ := plan_go (chk_def hc) []
    rw [g1, g2]
    exact ⟨rfl, rfl⟩
  · rw [if_neg (by omega), if_pos (by omega), if_neg (by omega), if_pos (by omega)]
    obtain ⟨x, rfl⟩ := Int.eq_ofNat_of_zero_le s0
    obtain ⟨y, rfl⟩ := Int.eq_ofNat_of_zero_le t0
    have hx : x < 18446744073709551616 := by omega
    have hy : y < 18446744073709551616 := by omega
    have : t = num x ++ (num (bit bk) ++ (num y ++ (num (bit ok) ++ []))) := by
      rw [← ht]
      unfold tailB
      simp only
      rw [if_neg (by omega), if_pos (by omega), u64_nat hx, u64_nat hy, List.append_nil]
    rw [this]
    have g1 : o1 ⟨str (num x ++ (num (bit bk) ++ (num y ++ (num (bit ok) ++ [])))), false⟩ = ⟨str (num (bit bk) ++ (num y ++ (num (bit ok) ++ []))), false⟩ := up_go hx _ _ s1
    have g2 : o2 ⟨str (num x ++ (num (bit bk) ++ (num y ++ (num (bit ok) ++ [])))), false⟩ = ⟨str (num y ++ (num (bit ok) ++ [])), false⟩ := by unfold o2; rw [g1]; exact up_go (bit_lt bk) _ _ (bit_le bk)
    have g3 : o3 ⟨str (num x ++ (num (bit bk) ++ (num y ++ (num (bit ok) ++ [])))), false⟩ = ⟨str (num (bit ok) ++ []), false⟩ := by unfold o3; rw [g2]; exact up_go hy _ _ t1
    have g4 : o4 ⟨str (num x ++ (num (bit bk) ++ (num y ++ (num (bit ok) ++ [])))), false⟩ = ⟨str [], false⟩ := by unfold o4; rw [g3]; exact up_go (bit_lt ok) _ _ (bit_le ok)
    rw [g1, g2, g3, g4]
    simp only
    rw [upV_laid hx _ s1, truth_laid, upV_laid hy _ t1, truth_laid]
    exact ⟨by simp, trivial⟩
/-- A command's bytes say it. -/
theorem yes_go {m : Cm} (f : Fin m) (h : mayB m = true) : yes (str (cmB m)) = true ∧ dec (str (cmB m)) = m := by
  obtain ⟨g1, g2⟩ := cm_go f h
  have hy : yes (str (cmB m)) = true := by
    unfold yes
    rw [g1, g2, h]
    unfold Rd.done
    rw [str_size]
    rfl
  refine ⟨hy, ?_⟩
  unfold dec
  rw [if_pos hy, g1]
theorem dec_fin (s : ByteArray) : Fin (dec s) := by
  unfold dec
  split
  · exact rCm_fin _
  · exact ⟨by decide, by decide, by decide, by decide⟩
/-- Steps that were read are few. -/
theorem rCm_in (r : Rd) : (rCm r).l.length ≤ 64 ∧ ∀ e ∈ (rCm r).l, e.nm.size ≤ 16 := by
  unfold rCm
  split
  · exact plan_in _
  · split
    · exact ⟨by simp, by simp⟩
    · exact ⟨by simp, by simp⟩

/-! ### Replies -/
structure Ry where
  err : Int
  num : Nat
  ext : Nat
structure Ry.Ok (y : Ry) : Prop where
  e0 : -9223372036854775808 ≤ y.err
  e1 : y.err ≤ 9223372036854775807
  num : y.num < 18446744073709551616
  ext : y.ext < 18446744073709551616
def ryB (y : Ry) : List UInt8 := num (u64 (max y.err 0)) ++ (num y.num ++ num y.ext)
def y1 (r : Rd) : Rd := r.up 52
def y2 (r : Rd) : Rd := (y1 r).num
def y3 (r : Rd) : Rd := (y2 r).num
def rRy (r : Rd) : Ry := ⟨(upV r.s 52 : Nat), gotB (y1 r).s, gotB (y2 r).s⟩
def said (s : ByteArray) : Bool := (y3 ⟨s, false⟩).done
def hear (s : ByteArray) : Ry := if said s = true then rRy ⟨s, false⟩ else ⟨0, 0, 0⟩
theorem ry_go {y : Ry} (h : y.Ok) (h0 : 0 ≤ y.err) (h1 : y.err ≤ 52) : said (str (ryB y)) = true ∧ hear (str (ryB y)) = y := by
  obtain ⟨err, n, x⟩ := y
  obtain ⟨_, _, g1, g2⟩ := h
  simp only at h0 h1 g1 g2
  obtain ⟨e, rfl⟩ := Int.eq_ofNat_of_zero_le h0
  have he : e < 18446744073709551616 := by omega
  have e0 : ryB ⟨(e : Int), n, x⟩ = num e ++ (num n ++ (num x ++ [])) := by
    unfold ryB
    simp only
    rw [Int.max_eq_left h0, u64_nat he, List.append_nil]
  have f1 : y1 ⟨str (num e ++ (num n ++ (num x ++ []))), false⟩ = ⟨str (num n ++ (num x ++ [])), false⟩ := up_go he _ _ h1
  have f2 : y2 ⟨str (num e ++ (num n ++ (num x ++ []))), false⟩ = ⟨str (num x ++ []), false⟩ := by unfold y2; rw [f1]; exact num_go g1 _ _
  have f3 : y3 ⟨str (num e ++ (num n ++ (num x ++ []))), false⟩ = ⟨str [], false⟩ := by unfold y3; rw [f2]; exact num_go g2 _ _
  have hs : said (str (ryB ⟨(e : Int), n, x⟩)) = true := by
    unfold said
    rw [e0, f3]
    unfold Rd.done
    rw [str_size]
    rfl
  refine ⟨hs, ?_⟩
  unfold hear
  rw [if_pos hs, e0]
  unfold rRy
  simp only
  rw [f1, f2, upV_laid he _ h1]
  simp only
  rw [got_laid g1, got_laid g2]
theorem ryB_le {y : Ry} (h : y.Ok) : (ryB y).length ≤ 27 := by
  have h1 := num9 (u64_lt (max y.err 0))
  have h2 := num9 h.num
  have h3 := num9 h.ext
  unfold ryB
  simp only [List.length_append]
  omega
end Go.Proofs.YthaepkpmpnofgaaGreat.Cmd
set_option linter.unusedVariables false
set_option linter.unusedSimpArgs false
namespace Go.Proofs.YthaepkpmpnofgaaGreat.Mch
open Go.RowKit Go.Proofs.YthaepkpmpnofgaaGreat.Kit Go.Proofs.YthaepkpmpnofgaaGreat.Ses
open Go.Proofs.YthaepkpmpnofgaaGreat.Pln (chk u64 u64_lt)
open Go.Proofs.YthaepkpmpnofgaaGreat.Sag (Sg Snd takes outc abort)
open Go.Proofs.YthaepkpmpnofgaaGreat.Cmd (Cm yes dec mayB may_kind yes_back)

structure Mc where
  t : Tb
  l : List (Nat × Sg)
def mc0 : Mc := ⟨tb0, []⟩
/-- A saga is told. -/
def told (s : Sg) : Ry := ⟨0, u64 s.st, u64 s.cu⟩
def seekS : List (Nat × Sg) → Nat → Option Nat
  | [], _ => none
  | x :: l, id => if x.1 = id then some 0 else (seekS l id).map (· + 1)
/-- A new one is put in its place. -/
def putS : List (Nat × Sg) → Nat → Sg → List (Nat × Sg)
  | [], id, s => [(id, s)]
  | x :: l, id, s => if x.1 < id then x :: putS l id s else (id, s) :: x :: l
def first (c : Cm) : Sg := ⟨c.l, 1, 0, 0⟩
/-- What a client's command that is new makes of the sagas, and its reply. -/
def does (l : List (Nat × Sg)) (c : Cm) : List (Nat × Sg) × Ry :=
  match seekS l c.sg with
  | none => if c.k = 2 then (if 16 ≤ l.length then (l, yE 11) else (putS l c.sg (first c), told (first c))) else (l, yE 43)
  | some i => match l[i]? with
    | none => (l, yE 43)
    | some x => if c.k = 2 then (l, yE 42) else if c.k = 3 then (l.set i (c.sg, abort x.2), told (abort x.2)) else (l, told x.2)
/-- What an outcome makes of the sagas, and its reply. -/
def hears (l : List (Nat × Sg)) (c : Cm) : List (Nat × Sg) × Ry :=
  match seekS l c.sg with
  | none => (l, yE 43)
  | some i => match l[i]? with
    | none => (l, yE 43)
    | some x => if takes x.2 c.st c.bk c.tr c.ok = true then (l.set i (c.sg, outc x.2 c.st c.bk c.tr c.ok), told (outc x.2 c.st c.bk c.tr c.ok)) else (l, yE 41)
/-- A command is applied. -/
def apC (m : Mc) (c : Cm) : Mc × Ry :=
  if c.k = 1 then (⟨regT (clock m.t c.nw), m.l⟩, ⟨regE (clock m.t c.nw), regId (clock m.t c.nw), 0⟩)
  else if c.k = 4 then (⟨clock m.t c.nw, (hears m.l c).1⟩, (hears m.l c).2)
  else if begF (clock m.t c.nw) c.ss c.sq = true then (⟨endT (begT (clock m.t c.nw) c.ss) c.ss c.sq (does m.l c).2, (does m.l c).1⟩, (does m.l c).2)
  else (⟨begT (clock m.t c.nw) c.ss, m.l⟩, begY (clock m.t c.nw) c.ss c.sq)
/-- Any bytes are applied. -/
def ap (m : Mc) (s : ByteArray) : Mc × Ry := if yes s = true then apC m (dec s) else (m, yE 2)
def apAll (m : Mc) : List ByteArray → Mc
  | [] => m
  | s :: l => apAll (ap m s).1 l

/-! ### Where a saga lies -/
theorem seekS_some {l : List (Nat × Sg)} {id i : Nat} (h : seekS l id = some i) : ∃ x, l[i]? = some x ∧ x.1 = id ∧ i < l.length ∧ ∀ j < i, ∀ y, l[j]? = some y → y.1 ≠ id := by
  induction l generalizing i with
  | nil => cases h
  | cons a l ih =>
    unfold seekS at h
    split at h
    · rename_i h0
      cases h
      exact ⟨a, rfl, h0, by simp, fun j hj => absurd hj (Nat.not_lt_zero _)⟩
    · rename_i h0
      cases hl : seekS l id with
      | none => rw [hl] at h; cases h
      | some k =>
        rw [hl] at h
        cases h
        obtain ⟨r, h1, h2, h3, h4⟩ := ih hl
        refine ⟨r, by simpa using h1, h2, by simp; omega, fun j hj x hx => ?_⟩
        cases j with
        | zero => simp at hx; subst hx; exact h0
        | succ j => exact h4 j (by have hj' : j + 1 < k + 1 := hj; omega) x (by simpa using hx)
theorem seekS_none {l : List (Nat × Sg)} {id : Nat} (h : seekS l id = none) : ∀ x ∈ l, x.1 ≠ id := by
  induction l with
  | nil => simp
  | cons a l ih =>
    unfold seekS at h
    split at h
    · cases h
    · rename_i h0
      have h1 : seekS l id = none := by simpa using h
      intro r hr
      rcases List.mem_cons.1 hr with rfl | hr
      · exact h0
      · exact ih h1 r hr
theorem putS_length (l : List (Nat × Sg)) (id : Nat) (s : Sg) : (putS l id s).length = l.length + 1 := by
  induction l with
  | nil => rfl
  | cons x l ih => unfold putS; split <;> simp [ih]
theorem putS_mem {l : List (Nat × Sg)} {id : Nat} {s : Sg} {y : Nat × Sg} (h : y ∈ putS l id s) : y = (id, s) ∨ y ∈ l := by
  induction l with
  | nil => simp [putS] at h; exact .inl h
  | cons x l ih =>
    unfold putS at h
    split at h
    · rcases List.mem_cons.1 h with rfl | h
      · exact .inr List.mem_cons_self
      · exact (ih h).imp (fun h => h) fun h => List.mem_cons_of_mem _ h
    · rcases List.mem_cons.1 h with rfl | h
      · exact .inl rfl
      · exact .inr h
/-- Numbers grow. -/
def Grow (l : List (Nat × Sg)) : Prop := l.Pairwise fun a b => a.1 < b.1
theorem Grow.put {l : List (Nat × Sg)} (h : Grow l) {id : Nat} (hn : ∀ x ∈ l, x.1 ≠ id) (s : Sg) : Grow (putS l id s) := by
  unfold Grow at h ⊢
  induction l with
  | nil => simp [putS]
  | cons x l ih =>
    obtain ⟨h1, h2⟩ := List.pairwise_cons.1 h
    unfold putS
    split
    · rename_i hlt
      refine List.pairwise_cons.2 ⟨fun y hy => ?_, ih h2 fun y hy => hn y (List.mem_cons_of_mem _ hy)⟩
      rcases putS_mem hy with rfl | hy
      · exact hlt
      · exact h1 y hy
    · rename_i hlt
      have := hn x List.mem_cons_self
      refine List.pairwise_cons.2 ⟨fun y hy => ?_, h⟩
      rcases List.mem_cons.1 hy with rfl | hy
      · show id < y.1; omega
      · have := h1 y hy; show id < y.1; omega
theorem Grow.set {l : List (Nat × Sg)} (h : Grow l) {i : Nat} {x : Nat × Sg} (hx : l[i]? = some x) {y : Nat × Sg} (hy : y.1 = x.1) : Grow (l.set i y) := by
  unfold Grow at h ⊢
  rw [List.pairwise_iff_getElem] at h ⊢
  obtain ⟨hi, rfl⟩ := List.getElem?_eq_some_iff.1 hx
  intro a b ha hb hab
  simp only [List.length_set] at ha hb
  have := h a b ha hb hab
  rw [List.getElem_set, List.getElem_set]
  split <;> split
  · omega
  · rename_i h1 h2; subst h1; rw [hy]; exact this
  · rename_i h1 h2; subst h2; rw [hy]; exact this
  · exact this

/-! ### What stays -/
structure Fit (m : Mc) : Prop where
  tb : Sane m.t
  few : m.l.length ≤ 16
  grow : Grow m.l
  u : ∀ x ∈ m.l, U x.1
  snd : ∀ x ∈ m.l, Snd x.2
theorem fit0 : Fit mc0 := ⟨good0, by decide, List.Pairwise.nil, by simp [mc0], by simp [mc0]⟩
theorem told_ok (s : Sg) : (told s).Ok := ⟨by show (-9223372036854775808 : Int) ≤ 0; decide, by show (0 : Int) ≤ 9223372036854775807; decide, u64_lt _, u64_lt _⟩
theorem yE_ok {e : Int} (h0 : 0 ≤ e) (h1 : e ≤ 100) : (yE e).Ok := ⟨by show (-9223372036854775808 : Int) ≤ e; omega, by show e ≤ 9223372036854775807; omega, by show U 0; decide, by show U 0; decide⟩
theorem mem_set' {l : List (Nat × Sg)} {i : Nat} {x r : Nat × Sg} (h : x ∈ l.set i r) : x = r ∨ x ∈ l := by
  rcases List.mem_or_eq_of_mem_set h with h | h
  · exact .inr h
  · exact .inl h
/-- The sagas' part of what stays. -/
structure FitL (l : List (Nat × Sg)) : Prop where
  few : l.length ≤ 16
  grow : Grow l
  u : ∀ x ∈ l, U x.1
  snd : ∀ x ∈ l, Snd x.2
theorem FitL.set {l : List (Nat × Sg)} (h : FitL l) {i : Nat} {x : Nat × Sg} (hx : l[i]? = some x) {id : Nat} (hid : x.1 = id) {s : Sg} (hs : Snd s) : FitL (l.set i (id, s)) := by
  refine ⟨by rw [List.length_set]; exact h.few, h.grow.set hx hid.symm, fun y hy => ?_, fun y hy => ?_⟩
  · rcases mem_set' hy with rfl | hy
    · rw [← hid]; exact h.u x (List.mem_of_getElem? hx)
    · exact h.u y hy
  · rcases mem_set' hy with rfl | hy
    · exact hs
    · exact h.snd y hy
theorem first_snd {c : Cm} (h : chk c.l = 0) : Snd (first c) := by
  have hl := Sag.len_def h
  exact ⟨h, .inl ⟨rfl, ⟨by show (0 : Int) ≤ 0; decide, by show (0 : Int) < c.l.length; omega⟩, rfl⟩⟩
theorem outc_snd {s : Sg} (h : Snd s) (step : Int) (taken : Bool) (tr : Int) (ok : Bool) : Snd (outc s step taken tr ok) := by
  unfold Sag.outc
  split
  · rename_i ht
    obtain ⟨h1, _, h3, _⟩ := Sag.takes_yes ht
    exact Sag.next_snd h1 h3
  · exact h
theorem does_fit {l : List (Nat × Sg)} (h : FitL l) {c : Cm} (hm : mayB c = true) (hu : U c.sg) : FitL (does l c).1 ∧ (does l c).2.Ok := by
  unfold does
  split
  · rename_i hn
    split
    · rename_i hk
      split
      · exact ⟨h, yE_ok (by decide) (by decide)⟩
      · rename_i hlen
        have hc : chk c.l = 0 := by
          rcases may_kind hm with ⟨h1, _⟩ | ⟨_, h2, _⟩ | ⟨h1, _⟩
          · omega
          · exact h2
          · omega
        refine ⟨⟨by rw [putS_length]; omega, h.grow.put (seekS_none hn) _, fun y hy => ?_, fun y hy => ?_⟩, told_ok _⟩
        · rcases putS_mem hy with rfl | hy
          · exact hu
          · exact h.u y hy
        · rcases putS_mem hy with rfl | hy
          · exact first_snd hc
          · exact h.snd y hy
    · exact ⟨h, yE_ok (by decide) (by decide)⟩
  · rename_i i hi
    split
    · exact ⟨h, yE_ok (by decide) (by decide)⟩
    · rename_i x hx
      obtain ⟨y, hy1, hy2, _, _⟩ := seekS_some hi
      rw [hx] at hy1
      cases hy1
      split
      · exact ⟨h, yE_ok (by decide) (by decide)⟩
      · split
        · exact ⟨h.set hx hy2 (Sag.abort_snd (h.snd x (List.mem_of_getElem? hx))), told_ok _⟩
        · exact ⟨h, told_ok _⟩
theorem hears_fit {l : List (Nat × Sg)} (h : FitL l) (c : Cm) : FitL (hears l c).1 ∧ (hears l c).2.Ok := by
  unfold hears
  split
  · exact ⟨h, yE_ok (by decide) (by decide)⟩
  · rename_i i hi
    split
    · exact ⟨h, yE_ok (by decide) (by decide)⟩
    · rename_i x hx
      obtain ⟨y, hy1, hy2, _, _⟩ := seekS_some hi
      rw [hx] at hy1
      cases hy1
      split
      · exact ⟨h.set hx hy2 (outc_snd (h.snd x (List.mem_of_getElem? hx)) _ _ _ _), told_ok _⟩
      · exact ⟨h, yE_ok (by decide) (by decide)⟩
theorem Fit.list {m : Mc} (h : Fit m) : FitL m.l := ⟨h.few, h.grow, h.u, h.snd⟩
theorem FitL.fit {t : Tb} {l : List (Nat × Sg)} (h : FitL l) (ht : Sane t) : Fit ⟨t, l⟩ := ⟨ht, h.few, h.grow, h.u, h.snd⟩
theorem begY_ok {m : Tb} (h : Sane m) (id s : Nat) : (begY m id s).Ok := by
  unfold begY
  split
  · exact yE_ok (by decide) (by decide)
  · split
    · exact yE_ok (by decide) (by decide)
    · rename_i r hr
      split
      · exact y0_ok
      · split
        · exact (h.fits r (List.mem_of_getElem? hr)).2.2.2
        · exact yE_ok (by decide) (by decide)
theorem regE_ok (m : Tb) (h : U m.next) : (⟨regE m, regId m, 0⟩ : Ry).Ok := by
  unfold regE regId
  split
  · exact ⟨by show (-9223372036854775808 : Int) ≤ 0; decide, by show (0 : Int) ≤ 9223372036854775807; decide, h, by show U 0; decide⟩
  · exact yE_ok (by decide) (by decide)
theorem apC_fit {m : Mc} (h : Fit m) {c : Cm} (hm : mayB c = true) (hf : Cmd.Fin c) : Fit (apC m c).1 ∧ (apC m c).2.Ok := by
  have hc : Sane (clock m.t c.nw) := h.tb.clock hf.nw
  unfold apC
  split
  · exact ⟨h.list.fit hc.reg, regE_ok _ hc.next⟩
  · split
    · obtain ⟨h1, h2⟩ := hears_fit h.list c
      exact ⟨h1.fit hc, h2⟩
    · split
      · obtain ⟨h1, h2⟩ := does_fit h.list hm hf.sg
        exact ⟨h1.fit ((hc.beg c.ss).fin c.ss hf.sq h2), h2⟩
      · exact ⟨h.list.fit (hc.beg c.ss), begY_ok hc _ _⟩
theorem ap_fit {m : Mc} (h : Fit m) (s : ByteArray) : Fit (ap m s).1 ∧ (ap m s).2.Ok := by
  unfold ap
  split
  · rename_i hy
    obtain ⟨h1, _, h3⟩ := yes_back hy
    exact apC_fit h h1 h3
  · exact ⟨h, yE_ok (by decide) (by decide)⟩
theorem apAll_fit {m : Mc} (h : Fit m) (l : List ByteArray) : Fit (apAll m l) := by
  induction l generalizing m with
  | nil => exact h
  | cons s l ih => exact ih (ap_fit h s).1
theorem apAll_snoc (m : Mc) (l : List ByteArray) (s : ByteArray) : apAll m (l ++ [s]) = (ap (apAll m l) s).1 := by
  induction l generalizing m with
  | nil => rfl
  | cons x l ih => exact ih _
end Go.Proofs.YthaepkpmpnofgaaGreat.Mch
