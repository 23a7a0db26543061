/- What a call of the disk and of the document's leaves, walked: both answer the same, and are the same behind it. -/
import Derived.Test.YtgfignagaemfeaaBegun
import Derived.Test.YtgfignagaemfeaaRefG
namespace Go.Proofs.Ytgfignagaemfeaa.Both
open Go.RowKit Go.Proofs.Ytgfignagaemfeaa.Kit Go.Proofs.Ytgfignagaemfeaa.Blocks Go.Proofs.Ytgfignagaemfeaa.Model Go.Proofs.Ytgfignagaemfeaa.Disk Go.Proofs.Ytgfignagaemfeaa.WalkA Go.Proofs.Ytgfignagaemfeaa.WalkC Go.Proofs.Ytgfignagaemfeaa.WalkD Go.Proofs.Ytgfignagaemfeaa.WalkJ Go.Proofs.Ytgfignagaemfeaa.Ref Go.Proofs.Ytgfignagaemfeaa.RefB Go.Proofs.Ytgfignagaemfeaa.RefC Go.Proofs.Ytgfignagaemfeaa.RefD Go.Proofs.Ytgfignagaemfeaa.RefE Go.Proofs.Ytgfignagaemfeaa.RefF Go.Proofs.Ytgfignagaemfeaa.RefG Go.Proofs.Ytgfignagaemfeaa.Ops Go.Proofs.Ytgfignagaemfeaa.Begun

/-- A call: its kind, a file's number, bytes, fuel, what is kept of each file (and where that lies). -/
structure Cl where
  kind : Int
  n : Int
  s : ByteArray
  fuel : Int
  A : Option Addr
  kn : Nat
  kc : Nat
  keep : List Int
def Cl.cells (c : Cl) : Array Value := #[.int .i64 c.kind, .int .i64 c.n, .string c.s, .int .i64 c.fuel, .slice c.A c.kn c.kc]
/-- What a call answers, and makes of a disk. -/
def M.call (m : M) (c : Cl) : Int × M :=
  if c.kind = 0 then m.append c.n c.s.data.toList else if c.kind = 1 then m.sync c.n else if c.kind = 2 then m.replace c.n c.s.data.toList else if c.kind = 3 then m.remove c.n
  else if c.kind = 4 then (0, m.fuelled c.fuel) else if c.kind = 5 then (0, m.crash c.keep) else (0, m)
/-- A call whose list lies below B. -/
structure Lies (B : Nat) (w : World) (c : Cl) : Prop where
  keep : Reads w B 1 c.A c.kn (inums c.keep)
  n0 : -9223372036854775808 ≤ c.n
  n1 : c.n ≤ 9223372036854775807
  f0 : -9223372036854775808 ≤ c.fuel
  f1 : c.fuel ≤ 9223372036854775807
  s1 : c.s.size ≤ 140737488351232
theorem Lies.below {B : Nat} {w w' : World} {c : Cl} (h : Lies B w c) (k : Below B w w') : Lies B w' c := { h with keep := h.keep.below k }

/-- A disk and the document's, both at one state, beside one another; a block of a call's copy. -/
structure PS (B : Nat) (L : List Nat) (w : World) (p q N cb : Nat) (c : Cl) (m1 m2 : M) (W : World) : Prop where
  d : Has B (cb :: q :: L) W p N m1
  r : RefAt W q m2
  cell : W.heap[cb]? = some (.cells c.cells 33 (0, 0))
  kept : Keeps B L w W
  lies : Lies B W c
  low : B ≤ q ∧ B ≤ cb
  apart : q ∉ L ∧ cb ∉ L ∧ q ≠ cb
section
variable {B : Nat} {L : List Nat} {w W W' : World} {p q N cb : Nat} {c : Cl} {m m1 m2 m' : M}
theorem PS.c0 (h : PS B L w p q N cb c m1 m2 W) : W.cell? ⟨cb, 0, none⟩ = some (.int .i64 c.kind) := by rw [cell_at h.cell]; rfl
theorem PS.c1 (h : PS B L w p q N cb c m1 m2 W) : W.cell? ⟨cb, 1, none⟩ = some (.int .i64 c.n) := by rw [cell_at h.cell]; rfl
theorem PS.c2 (h : PS B L w p q N cb c m1 m2 W) : W.cell? ⟨cb, 2, none⟩ = some (.string c.s) := by rw [cell_at h.cell]; rfl
theorem PS.c3 (h : PS B L w p q N cb c m1 m2 W) : W.cell? ⟨cb, 3, none⟩ = some (.int .i64 c.fuel) := by rw [cell_at h.cell]; rfl
theorem PS.c4 (h : PS B L w p q N cb c m1 m2 W) : W.cell? ⟨cb, 4, none⟩ = some (.slice c.A c.kn c.kc) := by rw [cell_at h.cell]; rfl
theorem has_only (h : Has B L W p N m) (k : Only (fun b => b = q) W W') (hq : q ∈ L) : Has B L W' p N m := by
  obtain ⟨A, c, mb, x, hD, hF⟩ := h.disk
  exact ⟨h.fine, Nat.le_trans h.low k.size, fun b hb => Nat.lt_of_lt_of_le (h.old b hb) k.size, A, c, mb, x, hD.keep k fun b hb e => (hF b hb).2 (e ▸ hq), hF⟩
theorem Has.drew (h : Has B L W p N m) : Has B L W.drew p N m := h.below ((Below.refl _ _).drew)
theorem PS.drew (h : PS B L w p q N cb c m1 m2 W) : PS B L w p q N cb c m1 m2 W.drew :=
  ⟨Has.drew h.d, h.r, h.cell, Only.drew h.kept, h.lies.below ((Below.refl _ _).drew), h.low, h.apart⟩
/-- Behind a call of the disk. -/
theorem PS.disk (h : PS B L w p q N cb c m1 m2 W) {N' : Nat} (hd : Has B (cb :: q :: L) W' p N' m') (k : Keeps B (cb :: q :: L) W W') : PS B L w p q N' cb c m' m2 W' :=
  ⟨hd, k.heap h.r (.inr (by simp)), k.heap h.cell (.inr (by simp)), h.kept.trans (k.fewer fun b hb => by simp [hb]), h.lies.below (k.below h.d.low), h.low, h.apart⟩
/-- Behind a call of the document's. -/
theorem PS.doc (h : PS B L w p q N cb c m1 m2 W) (hr : RefAt W' q m') (k : Only (fun b => b = q) W W') : PS B L w p q N cb c m1 m' W' :=
  ⟨has_only h.d k (by simp), hr, k.heap h.cell (fun e => h.apart.2.2 e.symm), h.kept.trans (k.mono fun b _ hb => ⟨by rw [hb]; exact h.low.1, by rw [hb]; exact h.apart.1⟩), h.lies.below (k.below h.d.low fun b hb => by rw [hb]; exact h.low.1), h.low, h.apart⟩

theorem ps_append (h : PS B L w p q N cb c m m2 W) (hN : N < 1000000) {r : Int} (hr : Hid ((m.append c.n c.s.data.toList).1 = r)) (hm : Hid ((m.append c.n c.s.data.toList).2 = m')) :
    Calls Try.prog 25 #[.pointer (some ⟨p, 0, none⟩), .int .i64 c.n, .string c.s] W fun e W' => e = .returned (.int .i64 r) ∧ PS B L w p q (N + 1) cb c m' m2 W' := by
  refine (append_has c.n c.s h.d hN).mono ?_
  rintro e W' hd
  obtain ⟨rfl, h1, h2⟩ := Done.lit hd hr hm
  exact ⟨rfl, h.disk h1 h2⟩
theorem ps_sync (h : PS B L w p q N cb c m m2 W) (hN : N < 1000000) {r : Int} (hr : Hid ((m.sync c.n).1 = r)) (hm : Hid ((m.sync c.n).2 = m')) :
    Calls Try.prog 29 #[.pointer (some ⟨p, 0, none⟩), .int .i64 c.n] W fun e W' => e = .returned (.int .i64 r) ∧ PS B L w p q (N + 1) cb c m' m2 W' := by
  refine (sync_has c.n h.d hN h.lies.n0 h.lies.n1).mono ?_
  rintro e W' hd
  obtain ⟨rfl, h1, h2⟩ := Done.lit hd hr hm
  exact ⟨rfl, h.disk h1 h2⟩
theorem ps_replace (h : PS B L w p q N cb c m m2 W) (hN : N < 1000000) {r : Int} (hr : Hid ((m.replace c.n c.s.data.toList).1 = r)) (hm : Hid ((m.replace c.n c.s.data.toList).2 = m')) :
    Calls Try.prog 27 #[.pointer (some ⟨p, 0, none⟩), .int .i64 c.n, .string c.s] W fun e W' => e = .returned (.int .i64 r) ∧ PS B L w p q (N + 1) cb c m' m2 W' := by
  refine (replace_has c.n c.s h.d hN).mono ?_
  rintro e W' hd
  obtain ⟨rfl, h1, h2⟩ := Done.lit hd hr hm
  exact ⟨rfl, h.disk h1 h2⟩
theorem ps_remove (h : PS B L w p q N cb c m m2 W) {r : Int} (hr : Hid ((m.remove c.n).1 = r)) (hm : Hid ((m.remove c.n).2 = m')) :
    Calls Try.prog 28 #[.pointer (some ⟨p, 0, none⟩), .int .i64 c.n] W fun e W' => e = .returned (.int .i64 r) ∧ PS B L w p q (N + 1) cb c m' m2 W' := by
  refine (remove_has c.n h.d h.lies.n0 h.lies.n1).mono ?_
  rintro e W' hd
  obtain ⟨rfl, h1, h2⟩ := Done.lit hd hr hm
  exact ⟨rfl, h.disk h1 h2⟩
theorem DoneR.lit {r : Int × M} {e : Ending} (h : DoneR W q r e W') {f : Int} (hf : Hid (r.1 = f)) (hm : Hid (r.2 = m')) : e = .returned (.int .i64 f) ∧ RefAt W' q m' ∧ Only (fun k => k = q) W W' := by
  obtain ⟨h1, h2, h3⟩ := h
  rw [hf.out] at h1
  rw [hm.out] at h2
  exact ⟨h1, h2, h3⟩
theorem pr_append (h : PS B L w p q N cb c m1 m W) (g : Fine m) {r : Int} (hr : Hid ((m.append c.n c.s.data.toList).1 = r)) (hm : Hid ((m.append c.n c.s.data.toList).2 = m')) :
    Calls Try.prog 30 #[.pointer (some ⟨q, 0, none⟩), .int .i64 c.n, .string c.s] W fun e W' => e = .returned (.int .i64 r) ∧ PS B L w p q N cb c m1 m' W' := by
  refine (rappend_any c.n c.s h.r g (by have := h.lies.s1; omega)).mono ?_
  rintro e W' hd
  obtain ⟨rfl, h1, h2⟩ := DoneR.lit hd hr hm
  exact ⟨rfl, h.doc h1 h2⟩
theorem pr_sync (h : PS B L w p q N cb c m1 m W) (g : Fine m) {r : Int} (hr : Hid ((m.sync c.n).1 = r)) (hm : Hid ((m.sync c.n).2 = m')) :
    Calls Try.prog 31 #[.pointer (some ⟨q, 0, none⟩), .int .i64 c.n] W fun e W' => e = .returned (.int .i64 r) ∧ PS B L w p q N cb c m1 m' W' := by
  refine (rsync_any c.n h.r g).mono ?_
  rintro e W' hd
  obtain ⟨rfl, h1, h2⟩ := DoneR.lit hd hr hm
  exact ⟨rfl, h.doc h1 h2⟩
theorem pr_replace (h : PS B L w p q N cb c m1 m W) (g : Fine m) {r : Int} (hr : Hid ((m.replace c.n c.s.data.toList).1 = r)) (hm : Hid ((m.replace c.n c.s.data.toList).2 = m')) :
    Calls Try.prog 32 #[.pointer (some ⟨q, 0, none⟩), .int .i64 c.n, .string c.s] W fun e W' => e = .returned (.int .i64 r) ∧ PS B L w p q N cb c m1 m' W' := by
  refine (rreplace_any c.n c.s h.r g (by have := h.lies.s1; omega)).mono ?_
  rintro e W' hd
  obtain ⟨rfl, h1, h2⟩ := DoneR.lit hd hr hm
  exact ⟨rfl, h.doc h1 h2⟩
theorem pr_remove (h : PS B L w p q N cb c m1 m W) (g : Fine m) {r : Int} (hr : Hid ((m.remove c.n).1 = r)) (hm : Hid ((m.remove c.n).2 = m')) :
    Calls Try.prog 33 #[.pointer (some ⟨q, 0, none⟩), .int .i64 c.n] W fun e W' => e = .returned (.int .i64 r) ∧ PS B L w p q N cb c m1 m' W' := by
  refine (rremove_any c.n h.r g).mono ?_
  rintro e W' hd
  obtain ⟨rfl, h1, h2⟩ := DoneR.lit hd hr hm
  exact ⟨rfl, h.doc h1 h2⟩
end
/-- The disk at p and the document's at q are one. -/
structure Pair (B : Nat) (L : List Nat) (W : World) (p q N : Nat) (m : M) : Prop where
  d : Has B (q :: L) W p N m
  r : RefAt W q m
  low : B ≤ q
  apart : q ∉ L
/-- What a call of both leaves. -/
def After2 (B : Nat) (L : List Nat) (w : World) (N : Nat) (m' : M) (e : Ending) (W : World) : Prop :=
  ∃ p q, e = .returned (.tuple #[.pointer (some ⟨p, 0, none⟩), .pointer (some ⟨q, 0, none⟩), .bool true]) ∧ Pair B L W p q N m' ∧ Keeps B L w W
section
variable {B : Nat} {L : List Nat} {w W W' : World} {p q N cb : Nat} {c : Cl} {m m1 m2 m' : M}
theorem PS.pair (h : PS B L w p q N cb c m m W) : Pair B L W p q N m := ⟨h.d.fewer fun b hb => by rcases List.mem_cons.1 hb with rfl | hb <;> simp [*], h.r, h.low.1, h.apart.1⟩
theorem Pair.first (h : Pair B L w p q N m) (hl : Lies B w c) : PS B L w p q N w.heap.size c m m (w.alloc (.cells c.cells 33)) := by
  have hb : Below w.heap.size w (w.alloc (.cells c.cells 33)) := (Below.refl _ _).alloc (Nat.le_refl _) _
  have hq := h.r.lt
  refine ⟨h.d.beside hb (Nat.le_refl _) (by simp), h.r.below hb, heap_alloc_new w _, Keeps.of_below hb, hl.below (hb.mono h.d.low), ⟨h.low, h.d.low⟩, h.apart, fun e => ?_, by omega⟩
  have := h.d.old _ (List.mem_cons_of_mem q e)
  omega

set_option maxHeartbeats 2000000 in
theorem both_append (h : Pair B L w p q N m) (hl : Lies B w c) (hN : N < 1000000) (hk : c.kind = 0) :
    Calls Try.prog 12 #[.pointer (some ⟨p, 0, none⟩), .pointer (some ⟨q, 0, none⟩), .agg c.cells] w (After2 B L w (N + 1) (m.append c.n c.s.data.toList).2) := by
  have g := h.d.fine
  have hS := h.first hl
  have hc0 := hS.c0
  have hc1 := hS.c1
  have hc2 := hS.c2
  rw [hk] at hc0
  obtain ⟨r, hr⟩ : ∃ r, (m.append c.n c.s.data.toList).1 = r := ⟨_, rfl⟩
  obtain ⟨m', hm'⟩ : ∃ m', (m.append c.n c.s.data.toList).2 = m' := ⟨_, rfl⟩
  rw [hm']
  have HR := Lib.hid hr
  have HM := Lib.hid hm'
  clear hr hm'
  obtain ⟨kd, n, s, fu, A, kn, kc, keep⟩ := c
  obtain rfl : kd = 0 := hk
  go_enter Try.func12, Try.ntmps12
  go_wp2_with fail
  go_region_held3 (fun w' => w'.cell? ⟨w.heap.size, 1, none⟩ = some (.int .i64 n) ∧ w'.cell? ⟨w.heap.size, 2, none⟩ = some (.string s))
    (first
      | exact ⟨hc1, hc2⟩
      | exact ⟨PS.c1 hA, PS.c2 hA⟩
      | exact ⟨PS.c1 hD, PS.c2 hD⟩)
    (first
      | (go_at_call 25
         refine (ps_append (c := ⟨0, n, s, fu, A, kn, kc, keep⟩) (by first | exact hD | exact hS.drew) hN HR HM).mono ?_
         rintro e wA ⟨rfl, hA⟩)
      | (go_at_call 30
         refine (pr_append (c := ⟨0, n, s, fu, A, kn, kc, keep⟩) (by first | exact hA | exact hS.drew) g HR HM).mono ?_
         rintro e wD ⟨rfl, hD⟩))
  all_goals go_wp2
  all_goals go_ret3
  all_goals first
    | exact ⟨_, _, rfl, PS.pair hD, hD.kept⟩
    | exact ⟨_, _, rfl, PS.pair hA, hA.kept⟩
set_option maxHeartbeats 2000000 in
theorem both_sync (h : Pair B L w p q N m) (hl : Lies B w c) (hN : N < 1000000) (hk : c.kind = 1) :
    Calls Try.prog 12 #[.pointer (some ⟨p, 0, none⟩), .pointer (some ⟨q, 0, none⟩), .agg c.cells] w (After2 B L w (N + 1) (m.sync c.n).2) := by
  have g := h.d.fine
  have hS := h.first hl
  have hc0 := hS.c0
  have hc1 := hS.c1
  have hc2 := hS.c2
  rw [hk] at hc0
  obtain ⟨r, hr⟩ : ∃ r, (m.sync c.n).1 = r := ⟨_, rfl⟩
  obtain ⟨m', hm'⟩ : ∃ m', (m.sync c.n).2 = m' := ⟨_, rfl⟩
  rw [hm']
  have HR := Lib.hid hr
  have HM := Lib.hid hm'
  clear hr hm'
  obtain ⟨kd, n, s, fu, A, kn, kc, keep⟩ := c
  obtain rfl : kd = 1 := hk
  go_enter Try.func12, Try.ntmps12
  go_wp2_with fail
  go_region_held3 (fun w' => w'.cell? ⟨w.heap.size, 1, none⟩ = some (.int .i64 n))
    (first
      | exact hc1
      | exact PS.c1 hA
      | exact PS.c1 hD)
    (first
      | (go_at_call 29
         refine (ps_sync (c := ⟨1, n, s, fu, A, kn, kc, keep⟩) (by first | exact hD | exact hS.drew) hN HR HM).mono ?_
         rintro e wA ⟨rfl, hA⟩)
      | (go_at_call 31
         refine (pr_sync (c := ⟨1, n, s, fu, A, kn, kc, keep⟩) (by first | exact hA | exact hS.drew) g HR HM).mono ?_
         rintro e wD ⟨rfl, hD⟩))
  all_goals go_wp2
  all_goals go_ret3
  all_goals first
    | exact ⟨_, _, rfl, PS.pair hD, hD.kept⟩
    | exact ⟨_, _, rfl, PS.pair hA, hA.kept⟩
set_option maxHeartbeats 2000000 in
theorem both_replace (h : Pair B L w p q N m) (hl : Lies B w c) (hN : N < 1000000) (hk : c.kind = 2) :
    Calls Try.prog 12 #[.pointer (some ⟨p, 0, none⟩), .pointer (some ⟨q, 0, none⟩), .agg c.cells] w (After2 B L w (N + 1) (m.replace c.n c.s.data.toList).2) := by
  have g := h.d.fine
  have hS := h.first hl
  have hc0 := hS.c0
  have hc1 := hS.c1
  have hc2 := hS.c2
  rw [hk] at hc0
  obtain ⟨r, hr⟩ : ∃ r, (m.replace c.n c.s.data.toList).1 = r := ⟨_, rfl⟩
  obtain ⟨m', hm'⟩ : ∃ m', (m.replace c.n c.s.data.toList).2 = m' := ⟨_, rfl⟩
  rw [hm']
  have HR := Lib.hid hr
  have HM := Lib.hid hm'
  clear hr hm'
  obtain ⟨kd, n, s, fu, A, kn, kc, keep⟩ := c
  obtain rfl : kd = 2 := hk
  go_enter Try.func12, Try.ntmps12
  go_wp2_with fail
  go_region_held3 (fun w' => w'.cell? ⟨w.heap.size, 1, none⟩ = some (.int .i64 n) ∧ w'.cell? ⟨w.heap.size, 2, none⟩ = some (.string s))
    (first
      | exact ⟨hc1, hc2⟩
      | exact ⟨PS.c1 hA, PS.c2 hA⟩
      | exact ⟨PS.c1 hD, PS.c2 hD⟩)
    (first
      | (go_at_call 27
         refine (ps_replace (c := ⟨2, n, s, fu, A, kn, kc, keep⟩) (by first | exact hD | exact hS.drew) hN HR HM).mono ?_
         rintro e wA ⟨rfl, hA⟩)
      | (go_at_call 32
         refine (pr_replace (c := ⟨2, n, s, fu, A, kn, kc, keep⟩) (by first | exact hA | exact hS.drew) g HR HM).mono ?_
         rintro e wD ⟨rfl, hD⟩))
  all_goals go_wp2
  all_goals go_ret3
  all_goals first
    | exact ⟨_, _, rfl, PS.pair hD, hD.kept⟩
    | exact ⟨_, _, rfl, PS.pair hA, hA.kept⟩
set_option maxHeartbeats 2000000 in
theorem both_remove (h : Pair B L w p q N m) (hl : Lies B w c) (hk : c.kind = 3) :
    Calls Try.prog 12 #[.pointer (some ⟨p, 0, none⟩), .pointer (some ⟨q, 0, none⟩), .agg c.cells] w (After2 B L w (N + 1) (m.remove c.n).2) := by
  have g := h.d.fine
  have hS := h.first hl
  have hc0 := hS.c0
  have hc1 := hS.c1
  have hc2 := hS.c2
  rw [hk] at hc0
  obtain ⟨r, hr⟩ : ∃ r, (m.remove c.n).1 = r := ⟨_, rfl⟩
  obtain ⟨m', hm'⟩ : ∃ m', (m.remove c.n).2 = m' := ⟨_, rfl⟩
  rw [hm']
  have HR := Lib.hid hr
  have HM := Lib.hid hm'
  clear hr hm'
  obtain ⟨kd, n, s, fu, A, kn, kc, keep⟩ := c
  obtain rfl : kd = 3 := hk
  go_enter Try.func12, Try.ntmps12
  go_wp2_with fail
  go_region_held3 (fun w' => w'.cell? ⟨w.heap.size, 1, none⟩ = some (.int .i64 n))
    (first
      | exact hc1
      | exact PS.c1 hA
      | exact PS.c1 hD)
    (first
      | (go_at_call 28
         refine (ps_remove (c := ⟨3, n, s, fu, A, kn, kc, keep⟩) (by first | exact hD | exact hS.drew) HR HM).mono ?_
         rintro e wA ⟨rfl, hA⟩)
      | (go_at_call 33
         refine (pr_remove (c := ⟨3, n, s, fu, A, kn, kc, keep⟩) (by first | exact hA | exact hS.drew) g HR HM).mono ?_
         rintro e wD ⟨rfl, hD⟩))
  all_goals go_wp2
  all_goals go_ret3
  all_goals first
    | exact ⟨_, _, rfl, PS.pair hD, hD.kept⟩
    | exact ⟨_, _, rfl, PS.pair hA, hA.kept⟩
end
end Go.Proofs.Ytgfignagaemfeaa.Both
