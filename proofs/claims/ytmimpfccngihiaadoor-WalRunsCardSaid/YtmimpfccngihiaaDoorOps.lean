/- The calls on a disk, told of a disk whose blocks lie from B on and are none of a list; what else there is stays. -/
import Derived.Test.YtmimpfccngihiaaDoorDskWalkJ
namespace Go.Proofs.YtmimpfccngihiaaDoor.Ops
open Go.RowKit Go.Proofs.YtmimpfccngihiaaDoor.Kit Go.Proofs.YtmimpfccngihiaaDoor.Blocks Go.Proofs.YtmimpfccngihiaaDoor.Keys Go.Proofs.YtmimpfccngihiaaDoor.Model Go.Proofs.YtmimpfccngihiaaDoor.Disk Go.Proofs.YtmimpfccngihiaaDoor.DskWalkA Go.Proofs.YtmimpfccngihiaaDoor.DskWalkB Go.Proofs.YtmimpfccngihiaaDoor.DskWalkC Go.Proofs.YtmimpfccngihiaaDoor.DskWalkD Go.Proofs.YtmimpfccngihiaaDoor.DskWalkE Go.Proofs.YtmimpfccngihiaaDoor.DskWalkF Go.Proofs.YtmimpfccngihiaaDoor.DskWalkG Go.Proofs.YtmimpfccngihiaaDoor.DskWalkH Go.Proofs.YtmimpfccngihiaaDoor.DskWalkI Go.Proofs.YtmimpfccngihiaaDoor.DskWalkJ

/-- Block p is the disk m; its blocks lie from B on and are none of L. -/
structure Has (B : Nat) (L : List Nat) (w : World) (p N : Nat) (m : M) : Prop where
  fine : Fine m
  low : B ≤ w.heap.size
  old : ∀ b ∈ L, b < w.heap.size
  disk : ∃ A c mb x, DV w p N m A c mb x none ∧ ∀ q, Foot p mb A q → B ≤ q ∧ q ∉ L
/-- What lies below B, and what is of L, is as it was. -/
def Keeps (B : Nat) (L : List Nat) (w w' : World) : Prop := Only (fun q => B ≤ q ∧ q ∉ L) w w'

section
variable {B : Nat} {L L' : List Nat} {w w' w'' : World} {p N : Nat} {m m' : M}
theorem Keeps.refl (B : Nat) (L : List Nat) (w : World) : Keeps B L w w := Only.refl _ w
theorem Keeps.trans (h : Keeps B L w w') (k : Keeps B L w' w'') : Keeps B L w w'' := Only.trans h k
theorem Keeps.of_below (h : Below w.heap.size w w') : Keeps B L w w' := Only.of_below h
theorem Keeps.below (h : Keeps B L w w') (hB : B ≤ w.heap.size) : Below B w w' := Only.below h hB fun _ hq => hq.1
theorem Keeps.fewer (h : Keeps B L w w') (hs : ∀ q, q ∈ L' → q ∈ L) : Keeps B L' w w' := Only.mono h fun q _ hq => ⟨hq.1, fun e => hq.2 (hs q e)⟩
theorem Keeps.heap (h : Keeps B L w w') {b : Nat} {o : Obj} (hb : w.heap[b]? = some o) (hm : b < B ∨ b ∈ L) : w'.heap[b]? = some o := Only.heap h hb fun e => hm.elim (fun h1 => by omega) e.2
theorem Keeps.size (h : Keeps B L w w') : w.heap.size ≤ w'.heap.size := Only.size h
theorem Has.below (h : Has B L w p N m) (k : Below w.heap.size w w') : Has B L w' p N m := by
  obtain ⟨A, c, mb, x, hD, hF⟩ := h.disk
  exact ⟨h.fine, Nat.le_trans h.low k.size, fun b hb => Nat.lt_of_lt_of_le (h.old b hb) k.size, A, c, mb, x, hD.below k, hF⟩
theorem Has.more (h : Has B L w p N m) {N' : Nat} (hn : N ≤ N') : Has B L w p N' m := by
  obtain ⟨A, c, mb, x, hD, hF⟩ := h.disk
  exact ⟨h.fine, h.low, h.old, A, c, mb, x, hD.more hn, hF⟩
theorem Has.fewer (h : Has B L w p N m) (hs : ∀ q, q ∈ L' → q ∈ L) : Has B L' w p N m := by
  obtain ⟨A, c, mb, x, hD, hF⟩ := h.disk
  exact ⟨h.fine, h.low, fun b hb => h.old b (hs b hb), A, c, mb, x, hD, fun q hq => ⟨(hF q hq).1, fun e => (hF q hq).2 (hs q e)⟩⟩
/-- A block that came behind the disk's is none of its. -/
theorem Has.beside (h : Has B L w p N m) (k : Below w.heap.size w w') {b : Nat} (h0 : w.heap.size ≤ b) (h1 : b < w'.heap.size) : Has B (b :: L) w' p N m := by
  obtain ⟨A, c, mb, x, hD, hF⟩ := h.disk
  refine ⟨h.fine, Nat.le_trans h.low k.size, fun b' hb => ?_, A, c, mb, x, hD.below k, fun q hq => ⟨(hF q hq).1, fun e => ?_⟩⟩
  · rcases List.mem_cons.1 hb with rfl | hb
    · exact h1
    · exact Nat.lt_of_lt_of_le (h.old b' hb) k.size
  · rcases List.mem_cons.1 e with rfl | e
    · have := hD.foot_lt hq; omega
    · exact (hF q hq).2 e
/-- A disk stays where the blocks beside another's are kept. -/
theorem Has.lt (h : Has B L w p N m) : p < w.heap.size ∧ B ≤ p ∧ p ∉ L := by
  obtain ⟨A, c, mb, x, hD, hF⟩ := h.disk
  exact ⟨hD.lt, (hF p (.inl rfl)).1, (hF p (.inl rfl)).2⟩
theorem Has.after {A : Nat → Option Addr} {mb : Option Nat} (h : Has B L w p N m) (hF : ∀ q, Foot p mb A q → B ≤ q ∧ q ∉ L) (g : Fine m') (k : After w p N m' A mb w') : Has B L w' p N m' ∧ Keeps B L w w' := by
  obtain ⟨A', c', mb', x', hD, ho, hf⟩ := k
  refine ⟨⟨g, Nat.le_trans h.low ho.size, fun b hb => Nat.lt_of_lt_of_le (h.old b hb) ho.size, A', c', mb', x', hD, fun q hq => ?_⟩, ho.mono fun q _ hq => hF q hq⟩
  rcases hf q hq with h1 | h1
  · exact hF q h1
  · exact ⟨Nat.le_trans h.low h1, fun e => by have := h.old q e; omega⟩
theorem Has.turned {A : Nat → Option Addr} {c : Nat → Nat} {mb : Option Nat} (h : Has B L w p N m) (hF : ∀ q, Foot p mb A q → B ≤ q ∧ q ∉ L) (g : Fine m') {x' : Int} (hD : DV w' p N m' A c mb x' none) (ho : Only (fun q => q = p) w w') : Has B L w' p N m' ∧ Keeps B L w w' :=
  ⟨⟨g, Nat.le_trans h.low ho.size, fun b hb => Nat.lt_of_lt_of_le (h.old b hb) ho.size, A, c, mb, x', hD, hF⟩, ho.mono fun q _ hq => hF q (.inl hq)⟩

/-- What a call leaves that changes a disk. -/
def Done (B : Nat) (L : List Nat) (w : World) (p N : Nat) (r : Int × M) (e : Ending) (w' : World) : Prop := e = .returned (.int .i64 r.1) ∧ Has B L w' p N r.2 ∧ Keeps B L w w'
theorem append_has (n : Int) (s : ByteArray) (h : Has B L w p N m) (hN : N < 1000000) :
    Calls Tryd.prog 33 #[.pointer (some ⟨p, 0, none⟩), .int .i64 n, .string s] w (Done B L w p (N + 1) (m.append n s.data.toList)) := by
  obtain ⟨A, c, mb, x, hD, hF⟩ := h.disk
  refine (append_any n s hD h.fine hN).mono ?_
  rintro e w' ⟨rfl, ha⟩
  obtain ⟨h1, h2⟩ := (h.more (Nat.le_succ N)).after hF (h.fine.append n s.data.toList) ha
  exact ⟨rfl, h1, h2⟩
theorem sync_has (n : Int) (h : Has B L w p N m) (hN : N < 1000000) (h0 : -9223372036854775808 ≤ n) (h1 : n ≤ 9223372036854775807) :
    Calls Tryd.prog 48 #[.pointer (some ⟨p, 0, none⟩), .int .i64 n] w (Done B L w p (N + 1) (m.sync n)) := by
  obtain ⟨A, c, mb, x, hD, hF⟩ := h.disk
  refine (sync_any n hD hN h0 h1).mono ?_
  rintro e w' ⟨rfl, ha⟩
  obtain ⟨h1, h2⟩ := (h.more (Nat.le_succ N)).after hF (h.fine.sync n) ha
  exact ⟨rfl, h1, h2⟩
theorem replace_has (n : Int) (s : ByteArray) (h : Has B L w p N m) (hN : N < 1000000) :
    Calls Tryd.prog 19 #[.pointer (some ⟨p, 0, none⟩), .int .i64 n, .string s] w (Done B L w p (N + 1) (m.replace n s.data.toList)) := by
  obtain ⟨A, c, mb, x, hD, hF⟩ := h.disk
  refine (replace_any n s hD h.fine hN).mono ?_
  rintro e w' ⟨rfl, ha⟩
  obtain ⟨h1, h2⟩ := (h.more (Nat.le_succ N)).after hF (h.fine.replace n s.data.toList) ha
  exact ⟨rfl, h1, h2⟩
theorem fuel_has (n : Int) (h : Has B L w p N m) (h0 : -9223372036854775808 ≤ n) (h1 : n ≤ 9223372036854775807) :
    Calls Tryd.prog 21 #[.pointer (some ⟨p, 0, none⟩), .int .i64 n] w fun e w' => e = .returned (.tuple #[]) ∧ Has B L w' p N (m.fuelled n) ∧ Keeps B L w w' := by
  obtain ⟨A, c, mb, x, hD, hF⟩ := h.disk
  refine (fuel_any n hD h0 h1).mono ?_
  rintro e w' ⟨rfl, hD', ho⟩
  obtain ⟨h1, h2⟩ := h.turned hF (h.fine.fuelled h1) hD' ho
  exact ⟨rfl, h1, h2⟩
theorem off_has (h : Has B L w p N m) : Calls Tryd.prog 41 #[.pointer (some ⟨p, 0, none⟩)] w fun e w' => e = .returned (.bool m.off) ∧ w = w' := by
  obtain ⟨A, c, mb, x, hD, hF⟩ := h.disk
  exact off_any hD
theorem files_has (h : Has B L w p N m) : Calls Tryd.prog 53 #[.pointer (some ⟨p, 0, none⟩)] w (MadeN w m.files) := by
  obtain ⟨A, c, mb, x, hD, hF⟩ := h.disk
  exact files_any hD
theorem used_has (h : Has B L w p N m) : Calls Tryd.prog 32 #[.pointer (some ⟨p, 0, none⟩)] w (TellsD w (m.used : Int)) := by
  obtain ⟨A, c, mb, x, hD, hF⟩ := h.disk
  exact used_any hD h.fine
theorem free_has (h : Has B L w p N m) : Calls Tryd.prog 42 #[.pointer (some ⟨p, 0, none⟩)] w (TellsD w ((m.room : Int) - (m.used : Int))) := by
  obtain ⟨A, c, mb, x, hD, hF⟩ := h.disk
  exact free_any hD h.fine
theorem read_has (n : Int) (h : Has B L w p N m) (h0 : -9223372036854775808 ≤ n) (h1 : n ≤ 9223372036854775807) :
    Calls Tryd.prog 29 #[.pointer (some ⟨p, 0, none⟩), .int .i64 n] w (Got w (m.read n).1 (m.read n).2) := by
  obtain ⟨A, c, mb, x, hD, hF⟩ := h.disk
  exact read_any n hD h0 h1
/-- A new disk, in a world where the other one stays. -/
theorem fresh_has {p' N' : Nat} (h : Has B L w p N m) (g : Fine m') (k : Fresh w N' m' p' w') : Has B L w' p' N' m' ∧ Has B L w' p N m ∧ Below w.heap.size w w' := by
  obtain ⟨hp, hb, A, c, mb, x, hD, hF⟩ := k
  refine ⟨⟨g, Nat.le_trans h.low hb.size, fun b hb' => Nat.lt_of_lt_of_le (h.old b hb') hb.size, A, c, mb, x, hD, fun q hq => ?_⟩, h.below hb, hb⟩
  have := hF q hq
  exact ⟨Nat.le_trans h.low this, fun e => by have := h.old q e; omega⟩
theorem first_has {p' N' : Nat} (hB : B ≤ w.heap.size) (g : Fine m') (k : Fresh w N' m' p' w') : Has B [] w' p' N' m' ∧ Below w.heap.size w w' := by
  obtain ⟨hp, hb, A, c, mb, x, hD, hF⟩ := k
  exact ⟨⟨g, Nat.le_trans hB hb.size, by simp, A, c, mb, x, hD, fun q hq => ⟨Nat.le_trans hB (hF q hq), by simp⟩⟩, hb⟩
theorem crash_has (KA : Option Addr) (kn kc : Nat) (keep : List Int) (h : Has B L w p N m) (hk : Reads w w.heap.size 1 KA kn (inums keep)) :
    Calls Tryd.prog 28 #[.pointer (some ⟨p, 0, none⟩), .slice KA kn kc] w fun e w' => ∃ p', e = .returned (.pointer (some ⟨p', 0, none⟩)) ∧ Has B L w' p' 16 (m.crash keep) ∧ Has B L w' p N m ∧ w.heap.size ≤ p' ∧ Below w.heap.size w w' := by
  obtain ⟨A, c, mb, x, hD, hF⟩ := h.disk
  refine (crash_any KA kn kc keep hD h.fine hk).mono ?_
  rintro e w' ⟨rfl, hf⟩
  obtain ⟨h1, h2, h3⟩ := fresh_has h (h.fine.crash keep) hf
  exact ⟨_, rfl, h1, h2, Nat.le_refl _, h3⟩
theorem new_has (r : Nat) (hr : r ≤ 1048576) (hB : B ≤ w.heap.size) :
    Calls Tryd.prog 17 #[.int .i64 (r : Int)] w fun e w' => ∃ p, e = .returned (.tuple #[.pointer (some ⟨p, 0, none⟩), .int .i64 0]) ∧ Has B [] w' p 0 (M.new r) ∧ w.heap.size ≤ p ∧ Below w.heap.size w w' := by
  refine (new_yes r w hr).mono ?_
  rintro e w' ⟨p, rfl, hf⟩
  obtain ⟨h1, h2⟩ := first_has hB (Fine.new hr) hf
  exact ⟨p, rfl, h1, hf.1, h2⟩
end
end Go.Proofs.YtmimpfccngihiaaDoor.Ops
