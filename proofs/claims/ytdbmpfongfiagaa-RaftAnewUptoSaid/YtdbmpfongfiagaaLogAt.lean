/- A log in memory, the program's or the document's; what a call on one leaves. No statement is proved here. -/
import Derived.Test.YtdbmpfongfiagaaEnts
namespace Go.Proofs.Ytdbmpfongfiagaa.LogAt
open Go.RowKit Go.Proofs.Ytdbmpfongfiagaa.Kit Go.Proofs.Ytdbmpfongfiagaa.Blocks Go.Proofs.Ytdbmpfongfiagaa.Rlog Go.Proofs.Ytdbmpfongfiagaa.Ents

/-- Block p, of type T, is a log: g; its entries' slice is v; both lie from block B on. -/
structure LogAt (T : TypeId) (B : Nat) (w : World) (p : Nat) (v : Value) (g : G) : Prop where
  low : B ≤ p
  cell : w.heap[p]? = some (.cells #[.int .u64 (g.snap.idx : Int), .int .u64 (g.snap.term : Int), .int .u64 (g.snap.cfg : Int), .string g.snap.data, v] T (0, 0))
  own : w.ownsRow B 57 4 v g.es.length (ecells g.es)
  ne : v.ownBlock ≠ some p
/-- The blocks of a log. -/
def Foot (p : Nat) (v : Value) (k : Nat) : Prop := k = p ∨ v.ownBlock = some k
/-- What a call that changes a log leaves. -/
def LeftL (T : TypeId) (B : Nat) (w : World) (p : Nat) (v : Value) (g' : G) (w' : World) : Prop :=
  ∃ v', LogAt T B w' p v' g' ∧ Only (Foot p v) w w' ∧ ∀ k, v'.ownBlock = some k → v.ownBlock = some k ∨ w.heap.size ≤ k

section
variable {T : TypeId} {B : Nat} {w w' w1 : World} {p : Nat} {v v1 : Value} {g g' g'' : G}
theorem LogAt.lt (h : LogAt T B w p v g) : p < w.heap.size := lt_at h.cell
theorem LogAt.base (h : LogAt T B w p v g) : B ≤ w.heap.size := by have := h.lt; have := h.low; omega
theorem LogAt.c0 (h : LogAt T B w p v g) : w.cell? ⟨p, 0, none⟩ = some (.int .u64 (g.snap.idx : Int)) := by rw [cell_at h.cell]; rfl
theorem LogAt.c1 (h : LogAt T B w p v g) : w.cell? ⟨p, 1, none⟩ = some (.int .u64 (g.snap.term : Int)) := by rw [cell_at h.cell]; rfl
theorem LogAt.c2 (h : LogAt T B w p v g) : w.cell? ⟨p, 2, none⟩ = some (.int .u64 (g.snap.cfg : Int)) := by rw [cell_at h.cell]; rfl
theorem LogAt.c3 (h : LogAt T B w p v g) : w.cell? ⟨p, 3, none⟩ = some (.string g.snap.data) := by rw [cell_at h.cell]; rfl
theorem LogAt.c4 (h : LogAt T B w p v g) : w.cell? ⟨p, 4, none⟩ = some v := by rw [cell_at h.cell]; rfl
theorem LogAt.row_lt (h : LogAt T B w p v g) {k : Nat} (hk : v.ownBlock = some k) : B ≤ k ∧ k < w.heap.size := h.own.lt k hk
theorem LogAt.foot_lt (h : LogAt T B w p v g) {k : Nat} (hk : Foot p v k) : B ≤ k ∧ k < w.heap.size := by
  rcases hk with rfl | hk
  · exact ⟨h.low, h.lt⟩
  · exact h.row_lt hk
/-- Its slice. -/
theorem LogAt.form (h : LogAt T B w p v g) : ∃ A c, v = .slice A g.es.length c ∧ g.es.length ≤ c ∧ c ≤ 9223372036854775807 ∧ RE w w.heap.size A g.es.length g.es := by
  obtain ⟨A, c, hv, h1, h2, h3⟩ := own_form h.own
  unfold maxLen at h2
  exact ⟨A, c, hv, h1, by omega, h3⟩
/-- A log stays where its blocks do. -/
theorem LogAt.keep (h : LogAt T B w p v g) {S : Nat → Prop} (k : Only S w w') (hs : ∀ q, Foot p v q → ¬ S q) : LogAt T B w' p v g :=
  ⟨h.low, k.heap h.cell (hs p (.inl rfl)), k.own h.own fun q hq => hs q (.inr hq), h.ne⟩
theorem LogAt.below (h : LogAt T B w p v g) (k : Below w.heap.size w w') : LogAt T B w' p v g := h.keep (S := fun _ => False) (Only.of_below k) (by simp)
theorem LogAt.drew (h : LogAt T B w p v g) : LogAt T B w.drew p v g := h.below ((Below.refl _ _).drew)
theorem LogAt.lower (h : LogAt T B w p v g) {B' : Nat} (hb : B' ≤ B) : LogAt T B' w p v g := ⟨Nat.le_trans hb h.low, h.cell, own_base h.own hb, h.ne⟩
/-- Other entries are laid behind a log's snapshot. -/
theorem LogAt.rowed (h : LogAt T B w p v g) {n : Nat} {xs : List Value} {es : List Ent} (k : Only (fun q => v.ownBlock = some q) w w1) (hown : w1.ownsRow B 57 4 v1 n xs) (hn : n = es.length) (hx : xs = ecells es)
    (hat : ∀ q, v1.ownBlock = some q → v.ownBlock = some q ∨ w.heap.size ≤ q) :
    w1.cell? ⟨p, 4, none⟩ = some v ∧ w1.frozen? ⟨p, 4, none⟩ = false ∧ LeftL T B w p v { g with es := es } (w1.setCell ⟨p, 4, none⟩ v1) := by
  subst hn hx
  have hc := k.heap h.cell h.ne
  have hne : v1.ownBlock ≠ some p := fun e => by
    rcases hat p e with e1 | e1
    · exact h.ne e1
    · have := h.lt; omega
  have hset : Only (fun q => q = p) w1 (w1.setCell ⟨p, 4, none⟩ v1) := (Only.refl (fun q => q = p) w1).setCell (a := ⟨p, 4, none⟩) (.inr rfl) v1
  refine ⟨by rw [cell_at hc]; rfl, free_at hc 4, v1, ⟨h.low, by rw [set_at hc]; rfl, hset.own hown fun q hq e => hne (e ▸ hq), hne⟩, ?_, hat⟩
  exact (k.mono fun q _ hq => .inr hq).trans (hset.mono fun q _ hq => .inl hq)
/-- Another snapshot is laid upto of a log's entries. -/
theorem LogAt.snapped (h : LogAt T B w p v g) (s : Snap) :
    LeftL T B w p v { g with snap := s } ((((w.setCell ⟨p, 0, none⟩ (.int .u64 (s.idx : Int))).setCell ⟨p, 1, none⟩ (.int .u64 (s.term : Int))).setCell ⟨p, 2, none⟩ (.int .u64 (s.cfg : Int))).setCell ⟨p, 3, none⟩ (.string s.data)) := by
  have hk : Only (fun q => q = p) w ((((w.setCell ⟨p, 0, none⟩ (.int .u64 (s.idx : Int))).setCell ⟨p, 1, none⟩ (.int .u64 (s.term : Int))).setCell ⟨p, 2, none⟩ (.int .u64 (s.cfg : Int))).setCell ⟨p, 3, none⟩ (.string s.data)) :=
    ((((Only.refl (fun q => q = p) w).setCell (a := ⟨p, 0, none⟩) (.inr rfl) _).setCell (a := ⟨p, 1, none⟩) (.inr rfl) _).setCell (a := ⟨p, 2, none⟩) (.inr rfl) _).setCell (a := ⟨p, 3, none⟩) (.inr rfl) _
  refine ⟨v, ⟨h.low, ?_, hk.own h.own fun q hq e => h.ne (e ▸ hq), h.ne⟩, hk.mono fun q _ hq => .inl hq, fun q hq => .inl hq⟩
  rw [set_at (set_at (set_at (set_at h.cell _) _) _) _]
  rfl
theorem LeftL.refl (h : LogAt T B w p v g) : LeftL T B w p v g w := ⟨v, h, Only.refl _ w, fun _ hk => .inl hk⟩
theorem LeftL.of_below (h : LogAt T B w p v g) (k : Below w.heap.size w w') : LeftL T B w p v g w' := ⟨v, h.below k, Only.of_below k, fun _ hk => .inl hk⟩
/-- A call behind a call. -/
theorem LeftL.then {v' : Value} (k1 : Only (Foot p v) w w1) (hf : ∀ k, v'.ownBlock = some k → v.ownBlock = some k ∨ w.heap.size ≤ k) (k2 : LeftL T B w1 p v' g'' w') : LeftL T B w p v g'' w' := by
  obtain ⟨v2, h2, o2, f2⟩ := k2
  refine ⟨v2, h2, k1.trans' o2 fun q hq => ?_, fun q hq => ?_⟩
  · rcases hq with rfl | hq
    · exact .inl (.inl rfl)
    · exact (hf q hq).imp .inr id
  · rcases f2 q hq with h | h
    · exact hf q h
    · exact .inr (Nat.le_trans k1.size h)
theorem LeftL.afterBelow (k1 : Below w.heap.size w w1) (k2 : LeftL T B w1 p v g'' w') : LeftL T B w p v g'' w' :=
  LeftL.then (Only.of_below k1) (fun _ h => .inl h) k2
theorem LeftL.thenBelow (k1 : LeftL T B w p v g w1) (k2 : Below w1.heap.size w1 w') : LeftL T B w p v g w' := by
  obtain ⟨v1, h1, o1, f1⟩ := k1
  exact ⟨v1, h1.below k2, o1.thenBelow k2, f1⟩
/-- A block of the call's own is written behind that. -/
theorem LeftL.boxed {w2 w3 w4 : World} (h : LogAt T B w p v g) (hb : Below w.heap.size w w2) (k : LeftL T B w2 p v g' w3) {r : Nat} (hr0 : w.heap.size ≤ r) (hr1 : r < w2.heap.size) (o : Only (fun q => q = r) w3 w4) : LeftL T B w p v g' w4 := by
  obtain ⟨v', h', o', f'⟩ := k
  have hv : ∀ q, v'.ownBlock = some q → q ≠ r := fun q hq e => by
    rcases f' q hq with h1 | h1
    · have := (h.row_lt h1).2; omega
    · omega
  refine ⟨v', h'.keep o fun q hq e => ?_, ?_, fun q hq => ?_⟩
  · rcases hq with rfl | hq
    · have := h.lt; omega
    · exact hv q hq e
  · exact ((Only.of_below hb).trans o').trans' o fun q hq => .inr (by omega)
  · exact (f' q hq).imp id fun h1 => Nat.le_trans hb.size h1
end
/-- A slice's block is none of these. -/
def Off (S : Nat → Prop) (A : Option Addr) (n : Nat) : Prop := 0 < n → ∀ ad, A = some ad → ¬ S ad.block
theorem Off.cut {S : Nat → Prop} {A : Option Addr} {n : Nat} (h : Off S A n) (c k : Nat) : Off S (cut4 A c k) (n - k) := by
  intro hn ad e
  unfold cut4 at e
  split at e
  · exact h (by omega) ad e
  · cases A with
    | none => cases e
    | some a =>
      simp only [Option.map_some, Option.some.injEq] at e
      rw [← e, block_of_add]
      exact h (by omega) a rfl
theorem Off.reads {S : Nat → Prop} {w w' : World} {A : Option Addr} {D size n : Nat} {xs : List Value} (h : Off S A n) (k : Only S w w') (hr : Reads w D size A n xs) (hB : D ≤ w.heap.size) : Reads w' D size A n xs :=
  ⟨hr.1, fun hn => by
    obtain ⟨ad, e, hb, hc⟩ := hr.2 hn
    exact ⟨ad, e, hb, fun j u hu => (k.cell (by rw [block_of_add]; omega) (by rw [block_of_add]; exact h hn ad e)).trans (hc j u hu)⟩⟩
theorem Off.zero (S : Nat → Prop) (A : Option Addr) : Off S A 0 := fun h => absurd h (by omega)
theorem Off.more {A : Option Addr} {n a b : Nat} (h : Off (fun k => k < a) A n) (hb : b ≤ a) : Off (fun k => k < b) A n := fun hn ad e hl => h hn ad e (by omega)
/-- A row of the call's own is none that was there. -/
theorem off_own {w : World} {base n c : Nat} {e : TypeId} {A : Option Addr} {xs : List Value} (h : w.ownsRow base e 4 (.slice A n c) n xs) : Off (fun k => k < base) A n := by
  intro hn ad ha hl
  rcases h.2 with ⟨_, h0⟩ | ⟨g, cap, cur, hv, hb, _⟩
  · omega
  · injection hv with hA _ _
    rw [hA] at ha
    cases ha
    simp only at hl
    omega
theorem off_low {T : TypeId} {B p n : Nat} {v : Value} {g : G} {w : World} {A : Option Addr} {xs : List Value} (h : LogAt T B w p v g) (hr : Reads w B 4 A n xs) : Off (Foot p v) A n := by
  intro hn ad e hf
  obtain ⟨ad', e', hb, _⟩ := hr.2 hn
  rw [e] at e'
  cases e'
  have := (h.foot_lt hf).1
  omega
end Go.Proofs.Ytdbmpfongfiagaa.LogAt
