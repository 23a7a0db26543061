/- Writers and readers that came behind a world: what each call on one leaves. No statement is proved here. -/
import Derived.Test.YthaepkpmpnofgaaGreatGX
import Derived.Deep.RegionHeld3
set_option linter.unusedVariables false
set_option linter.unusedSimpArgs false
namespace Go.Proofs.YthaepkpmpnofgaaGreat.Wtr
open Go.RowKit Go.Proofs.YthaepkpmpnofgaaGreat.Kit Go.Proofs.YthaepkpmpnofgaaGreat.Rdr
open Go.Proofs.YthaepkpmpnofgaaGreat.Num (num)
open Go.Proofs.YthaepkpmpnofgaaGreat.State (WV RV cell_at free_at set_at lt_at)
open Go.Proofs.YthaepkpmpnofgaaGreat.PckWalkB (text bit)
open Go.Proofs.YthaepkpmpnofgaaGreat.PckWalkH (str)
open Go.Proofs.YthaepkpmpnofgaaGreat.PckWalkC (gotB)
open Go.Proofs.YthaepkpmpnofgaaGreat.PckWalkE (upV textV truth)

/-- A writer that came behind a world, with what it laid. -/
structure Wrt (w0 W : World) (p : Nat) (l : List UInt8) : Prop where
  ex : ∃ v, WV W p v l
  low : w0.heap.size ≤ p
  bel : Below w0.heap.size w0 W
section
variable {w0 W W' : World} {p : Nat} {l : List UInt8}
theorem Wrt.cell (h : Wrt w0 W p l) {a : Addr} {v : Value} (hc : w0.cell? a = some v) (ha : a.block < w0.heap.size) : W.cell? a = some v := (h.bel.cell (p := a) ha).trans hc
theorem Wrt.drew (h : Wrt w0 W p l) : Wrt w0 W.drew p l := by
  obtain ⟨v, hv⟩ := h.ex
  exact ⟨⟨v, hv.below ((Below.refl _ _).drew)⟩, h.low, h.bel.drew⟩
theorem Wrt.alloc (h : Wrt w0 W p l) (o : Obj) : Wrt w0 (W.alloc o) p l := by
  obtain ⟨v, hv⟩ := h.ex
  have hb : Below W.heap.size W (W.alloc o) := (Below.refl _ _).alloc (Nat.le_refl _) o
  exact ⟨⟨v, hv.below hb⟩, h.low, h.bel.trans (hb.mono h.bel.size)⟩
theorem Wrt.next (h : Wrt w0 W p l) {l' : List UInt8} {v : Value} (hv : WV W p v l) {e : Ending} (k : State.Wrote p v.ownBlock l' W e W') : e = .returned (.pointer (some ⟨p, 0, none⟩)) ∧ Wrt w0 W' p l' := by
  obtain ⟨rfl, v', h1, h2⟩ := k
  have hl := h.low
  have hlt := hv.lt
  refine ⟨rfl, ⟨v', h1⟩, hl, h.bel.trans (h2.below h.bel.size hl fun g hg => ?_)⟩
  have := (hv.row g hg).1
  omega
theorem wrt_num {l' : List UInt8} (x : Nat) (h : Wrt w0 W p l) (hx : x < 18446744073709551616) (hl : l.length ≤ 140737488355000) (he : Hid (l ++ num x = l')) :
    Calls Tryz.prog 49 #[.pointer (some ⟨p, 0, none⟩), .int .u64 (x : Int)] W fun e W' => e = .returned (.pointer (some ⟨p, 0, none⟩)) ∧ Wrt w0 W' p l' := by
  obtain ⟨v, hv⟩ := h.ex
  refine (PckWalkA.num_any p v l x W hv hx hl).mono ?_
  intro e W' k
  rw [he.out] at k
  exact h.next hv k
theorem wrt_text {l' : List UInt8} (s : ByteArray) (h : Wrt w0 W p l) (hl : l.length + s.size ≤ 140737488355000) (he : Hid (l ++ text s = l')) :
    Calls Tryz.prog 110 #[.pointer (some ⟨p, 0, none⟩), .string s] W fun e W' => e = .returned (.pointer (some ⟨p, 0, none⟩)) ∧ Wrt w0 W' p l' := by
  obtain ⟨v, hv⟩ := h.ex
  refine (PckWalkB.text_any p v l s W hv hl).mono ?_
  intro e W' k
  rw [he.out] at k
  exact h.next hv k
theorem wrt_bytes {s : ByteArray} (h : Wrt w0 W p l) (he : Hid (str l = s)) :
    Calls Tryz.prog 51 #[.pointer (some ⟨p, 0, none⟩)] W fun e W' => e = .returned (.string s) ∧ Wrt w0 W' p l := by
  obtain ⟨v, hv⟩ := h.ex
  refine (PckWalkB.bytes_any p v l W hv).mono ?_
  rintro e W' ⟨rfl, rfl⟩
  refine ⟨?_, h⟩
  rw [← he.out]
  rfl
theorem new_wrt (w : World) : Wrt w (w.alloc (.cells #[.slice none 0 0] 105)) w.heap.size [] :=
  ⟨⟨_, heap_alloc_new w _, World.ownsRow_nil _ _ _ _⟩, Nat.le_refl _, (Below.refl _ _).alloc (Nat.le_refl _) _⟩
end

/-- A reader of type T that came behind a world. -/
structure Rds (T : TypeId) (w0 W : World) (q : Nat) (r : Rd) : Prop where
  at_ : RV T W q r.s r.bad
  low : w0.heap.size ≤ q
  bel : Below w0.heap.size w0 W
section
variable {T : TypeId} {w0 W W' : World} {q : Nat} {r r' : Rd}
theorem Rds.lt (h : Rds T w0 W q r) : q < W.heap.size := lt_at h.at_
theorem Rds.cell (h : Rds T w0 W q r) {a : Addr} {v : Value} (hc : w0.cell? a = some v) (ha : a.block < w0.heap.size) : W.cell? a = some v := (h.bel.cell (p := a) ha).trans hc
theorem Rds.below (h : Rds T w0 W q r) (k : Below W.heap.size W W') : Rds T w0 W' q r := ⟨h.at_.below k, h.low, h.bel.trans (k.mono h.bel.size)⟩
theorem Rds.drew (h : Rds T w0 W q r) : Rds T w0 W.drew q r := ⟨h.at_.below ((Below.refl _ _).drew), h.low, h.bel.drew⟩
/-- A call on the reader writes its own block alone. -/
def Ran (T : TypeId) (w0 W : World) (q : Nat) (r : Rd) (x : Value) (e : Ending) (W' : World) : Prop := e = .returned x ∧ Rds T w0 W' q r ∧ State.Only (· = q) W W'
theorem Rds.next (h : Rds T w0 W q r) {s : ByteArray} {b : Bool} {x : Value} {e : Ending} (k : State.Took T q s b x W e W') (hs : r'.s = s) (hb : r'.bad = b) : Ran T w0 W q r' x e W' := by
  obtain ⟨he, h1, h2⟩ := k
  exact ⟨he, ⟨by rw [hs, hb]; exact h1, h.low, h.bel.trans (h2.below h.bel.size fun k hk => by rw [hk]; exact h.low)⟩, h2⟩
end
/-- The program's. -/
abbrev Rp (w0 W : World) (q : Nat) (r : Rd) : Prop := Rds 131 w0 W q r
/-- The document's. -/
abbrev Rm (w0 W : World) (q : Nat) (r : Rd) : Prop := Rds 95 w0 W q r
section
variable {w0 W W' : World} {q : Nat} {r r' : Rd}
theorem rp_num {g : Nat} (h : Rp w0 W q r) (hs : r.s.size ≤ 9223372036854775807) (hg : Hid (gotB r.s = g)) (hr : Hid (r.num = r')) :
    Calls Tryz.prog 62 #[.pointer (some ⟨q, 0, none⟩)] W (Ran 131 w0 W q r' (.int .u64 (g : Int))) := by
  refine (PckWalkD.num_any q r.s r.bad W h.at_ (by omega)).mono ?_
  intro e W' k
  rw [hg.out] at k
  exact h.next k (by rw [← hr.out]; rfl) (by rw [← hr.out]; rfl)
theorem rp_up {n : Nat} (k : Int) (h : Rp w0 W q r) (hs : r.s.size ≤ 9223372036854775807) (hk : k ≤ 9223372036854775807) (hn : Hid (upV r.s k = n)) (hr : Hid (r.up k = r')) :
    Calls Tryz.prog 61 #[.pointer (some ⟨q, 0, none⟩), .int .i64 k] W (Ran 131 w0 W q r' (.int .i64 (n : Int))) := by
  refine (PckWalkE.up_any q r.s r.bad k W h.at_ (by omega) hk).mono ?_
  intro e W' k
  rw [hn.out] at k
  exact h.next k (by rw [← hr.out]; rfl) (by rw [← hr.out]; rfl)
theorem rp_bool {b : Bool} (h : Rp w0 W q r) (hs : r.s.size ≤ 9223372036854775807) (hn : Hid (truth r.s = b)) (hr : Hid (r.up 1 = r')) :
    Calls Tryz.prog 64 #[.pointer (some ⟨q, 0, none⟩)] W (Ran 131 w0 W q r' (.bool b)) := by
  refine (PckWalkE.bool_any q r.s r.bad W h.at_ (by omega)).mono ?_
  intro e W' k
  rw [hn.out] at k
  exact h.next k (by rw [← hr.out]; rfl) (by rw [← hr.out]; rfl)
theorem rp_text {x : ByteArray} (k : Int) (h : Rp w0 W q r) (hs : r.s.size ≤ 9223372036854775807) (hk : k ≤ 281474976710656) (hx : Hid (textV r.s k = x)) (hr : Hid (r.text k = r')) :
    Calls Tryz.prog 94 #[.pointer (some ⟨q, 0, none⟩), .int .i64 k] W (Ran 131 w0 W q r' (.string x)) := by
  refine (PckWalkE.text_wide q r.s r.bad k W h.at_ hs hk).mono ?_
  intro e W' k
  rw [hx.out] at k
  exact h.next k (by rw [← hr.out]; rfl) (by rw [← hr.out]; rfl)
theorem rp_done {b : Bool} (h : Rp w0 W q r) (hb : Hid (r.done = b)) :
    Calls Tryz.prog 42 #[.pointer (some ⟨q, 0, none⟩)] W (Ran 131 w0 W q r (.bool b)) := by
  refine (PckWalkE.done_any q r.s r.bad W h.at_).mono ?_
  intro e W' k
  have e1 : (decide (r.s.size = 0) && !r.bad) = b := hb.out
  rw [e1] at k
  exact h.next k rfl rfl
theorem rp_left {n : Nat} {b : Bool} (h : Rp w0 W q r) (hn : Hid (r.s.size = n)) (hb : Hid ((!r.bad) = b)) :
    Calls Tryz.prog 81 #[.pointer (some ⟨q, 0, none⟩)] W (Ran 131 w0 W q r (.tuple #[.int .i64 (n : Int), .bool b])) := by
  refine (PckWalkE.left_any q r.s r.bad W h.at_).mono ?_
  intro e W' k
  rw [hn.out, hb.out] at k
  exact h.next k rfl rfl
def q0 (s : ByteArray) : Rd := ⟨s, false⟩
theorem from_rp (b : ByteArray) (w : World) : Calls Tryz.prog 39 #[.string b] w fun e w' => ∃ q, e = .returned (.pointer (some ⟨q, 0, none⟩)) ∧ Rp w w' q (q0 b) := by
  refine (PckWalkD.from_any b w).mono ?_
  rintro e w' ⟨rfl, h1, h2⟩
  exact ⟨_, rfl, h1, Nat.le_refl _, h2⟩
theorem rm_num {g : Nat} (h : Rm w0 W q r) (hs : r.s.size ≤ 9223372036854775807) (hg : Hid (gotB r.s = g)) (hr : Hid (r.num = r')) :
    Calls Tryz.prog 45 #[.pointer (some ⟨q, 0, none⟩)] W (Ran 95 w0 W q r' (.int .u64 (g : Int))) := by
  refine (PckWalkF.num_any q r.s r.bad W h.at_ (by omega)).mono ?_
  intro e W' k
  rw [hg.out] at k
  exact h.next k (by rw [← hr.out]; rfl) (by rw [← hr.out]; rfl)
theorem rm_up {n : Nat} (k : Int) (h : Rm w0 W q r) (hs : r.s.size ≤ 9223372036854775807) (hk : k ≤ 9223372036854775807) (hn : Hid (upV r.s k = n)) (hr : Hid (r.up k = r')) :
    Calls Tryz.prog 44 #[.pointer (some ⟨q, 0, none⟩), .int .i64 k] W (Ran 95 w0 W q r' (.int .i64 (n : Int))) := by
  refine (PckWalkG.up_any q r.s r.bad k W h.at_ (by omega) hk).mono ?_
  intro e W' k
  rw [hn.out] at k
  exact h.next k (by rw [← hr.out]; rfl) (by rw [← hr.out]; rfl)
theorem rm_text {x : ByteArray} (k : Int) (h : Rm w0 W q r) (hs : r.s.size ≤ 9223372036854775807) (hk : k ≤ 281474976710656) (hx : Hid (textV r.s k = x)) (hr : Hid (r.text k = r')) :
    Calls Tryz.prog 85 #[.pointer (some ⟨q, 0, none⟩), .int .i64 k] W (Ran 95 w0 W q r' (.string x)) := by
  refine (PckWalkG.text_wide q r.s r.bad k W h.at_ hs hk).mono ?_
  intro e W' k
  rw [hx.out] at k
  exact h.next k (by rw [← hr.out]; rfl) (by rw [← hr.out]; rfl)
end
/-- A writer that came behind a world, and a block g that it has not. -/
structure Wrk (w0 W : World) (p : Nat) (l : List UInt8) (g : Nat) (ob : Obj) : Prop where
  ex : ∃ v, WV W p v l ∧ v.ownBlock ≠ some g
  ne : g ≠ p
  at_ : W.heap[g]? = some ob
  low : w0.heap.size ≤ p
  bel : Below w0.heap.size w0 W
section
variable {w0 W W' : World} {p g : Nat} {ob : Obj} {l : List UInt8}
theorem Wrk.wrt (h : Wrk w0 W p l g ob) : Wrt w0 W p l := by
  obtain ⟨v, hv, _⟩ := h.ex
  exact ⟨⟨v, hv⟩, h.low, h.bel⟩
theorem wrk_new {w : World} (h : Wrt w0 w p l) (o : Obj) : Wrk w0 (w.alloc o) p l w.heap.size o := by
  have ha := h.alloc o
  obtain ⟨v, hv⟩ := h.ex
  have hb : Below w.heap.size w (w.alloc o) := (Below.refl _ _).alloc (Nat.le_refl _) o
  refine ⟨⟨v, hv.below hb, fun e => ?_⟩, fun e => ?_, heap_alloc_new w o, ha.low, ha.bel⟩
  · have := (hv.row _ e).2
    omega
  · have := hv.lt
    omega
theorem Wrk.drew (h : Wrk w0 W p l g ob) : Wrk w0 W.drew p l g ob := by
  obtain ⟨v, hv, hn⟩ := h.ex
  exact ⟨⟨v, hv.below ((Below.refl _ _).drew), hn⟩, h.ne, h.at_, h.low, h.bel.drew⟩
theorem Wrk.cell {cs : Array Value} {t : TypeId} (h : Wrk w0 W p l g (.cells cs t (0, 0))) (i : Nat) : W.cell? ⟨g, i, none⟩ = cs[i]? := cell_at h.at_ i
theorem Wrk.next (h : Wrk w0 W p l g ob) {l' : List UInt8} {v : Value} (hv : WV W p v l) (hn : v.ownBlock ≠ some g) {e : Ending} (k : State.Wrote p v.ownBlock l' W e W') : e = .returned (.pointer (some ⟨p, 0, none⟩)) ∧ Wrk w0 W' p l' g ob := by
  have hw := h.wrt.next hv k
  obtain ⟨rfl, v', h1, h2⟩ := k
  have hg := lt_at h.at_
  refine ⟨rfl, ⟨v', h1, fun e => ?_⟩, h.ne, ?_, h.low, hw.2.bel⟩
  · rcases h2.next with e1 | ⟨q, e1, hq⟩
    · exact hn (e1 ▸ e)
    · rw [e1] at e
      cases e
      omega
  · have hk : ¬ (g = p ∨ v.ownBlock = some g) := fun e => by
      rcases e with e | e
      · exact h.ne e
      · exact hn e
    exact (h2.only.block g hg hk).trans h.at_
theorem wrk_num {l' : List UInt8} (x : Nat) (h : Wrk w0 W p l g ob) (hx : x < 18446744073709551616) (hl : l.length ≤ 140737488355000) (he : Hid (l ++ num x = l')) :
    Calls Tryz.prog 49 #[.pointer (some ⟨p, 0, none⟩), .int .u64 (x : Int)] W fun e W' => e = .returned (.pointer (some ⟨p, 0, none⟩)) ∧ Wrk w0 W' p l' g ob := by
  obtain ⟨v, hv, hn⟩ := h.ex
  refine (PckWalkA.num_any p v l x W hv hx hl).mono ?_
  intro e W' k
  rw [he.out] at k
  exact h.next hv hn k
theorem wrk_text {l' : List UInt8} (s : ByteArray) (h : Wrk w0 W p l g ob) (hl : l.length + s.size ≤ 140737488355000) (he : Hid (l ++ text s = l')) :
    Calls Tryz.prog 110 #[.pointer (some ⟨p, 0, none⟩), .string s] W fun e W' => e = .returned (.pointer (some ⟨p, 0, none⟩)) ∧ Wrk w0 W' p l' g ob := by
  obtain ⟨v, hv, hn⟩ := h.ex
  refine (PckWalkB.text_any p v l s W hv hl).mono ?_
  intro e W' k
  rw [he.out] at k
  exact h.next hv hn k
end
end Go.Proofs.YthaepkpmpnofgaaGreat.Wtr
