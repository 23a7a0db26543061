/- A log on a disk: opened, written, laid anew, walked (the program's own). -/
import Derived.Test.YtmimpfccngihiaaDoorFrm
import Derived.Test.YtmimpfccngihiaaDoorOps
set_option linter.unusedVariables false
set_option linter.unusedSimpArgs false
namespace Go.Proofs.YtmimpfccngihiaaDoor.Log
open Go.RowKit Go.Proofs.YtmimpfccngihiaaDoor.Kit Go.Proofs.YtmimpfccngihiaaDoor.Blocks Go.Proofs.YtmimpfccngihiaaDoor.SumB Go.Proofs.YtmimpfccngihiaaDoor.Wal Go.Proofs.YtmimpfccngihiaaDoor.FrA Go.Proofs.YtmimpfccngihiaaDoor.FrC Go.Proofs.YtmimpfccngihiaaDoor.ScA Go.Proofs.YtmimpfccngihiaaDoor.ScB Go.Proofs.YtmimpfccngihiaaDoor.Frm Go.Proofs.YtmimpfccngihiaaDoor.Model Go.Proofs.YtmimpfccngihiaaDoor.Disk Go.Proofs.YtmimpfccngihiaaDoor.Ops
open Go.Proofs.YtmimpfccngihiaaDoor.DskWalkC (str Got)
open Go.Proofs.YtmimpfccngihiaaDoor.Model.M

/-- What Open answers (an error's number, records), and makes of a disk; what Append and Anew do. -/
noncomputable def behind (m : M) (n : Int) (s : List UInt8) : (Int × List (List UInt8)) × M :=
  if (scan s).2 < s.length then (if (m.replace n (s.take (scan s).2)).1 = 0 then ((0, (scan s).1), (m.replace n (s.take (scan s).2)).2) else (((m.replace n (s.take (scan s).2)).1, []), (m.replace n (s.take (scan s).2)).2))
  else (if (m.sync n).1 = 0 then ((0, (scan s).1), (m.sync n).2) else (((m.sync n).1, []), (m.sync n).2))
noncomputable def wopen (m : M) (n : Int) : (Int × List (List UInt8)) × M :=
  if ¬ (0 ≤ n ∧ n < 16) then ((1, []), m) else if m.off = true then ((10, []), m)
  else if m.has n = false then (if (m.replace n []).1 = 0 then behind (m.replace n []).2 n [] else (((m.replace n []).1, []), (m.replace n []).2))
  else behind m n (m.all n.toNat)
noncomputable def wappend (m : M) (n : Int) (l : List (List UInt8)) : Int × M :=
  if Recs l then (if (m.append n (frames l)).1 = 0 then (m.append n (frames l)).2.sync n else m.append n (frames l)) else (3, m)
noncomputable def wanew (m : M) (n : Int) (l : List (List UInt8)) : Int × M := if Recs l then m.replace n (frames l) else (3, m)

/-- Block b is a log: a disk, a file's number. -/
def LogAt (w : World) (b p : Nat) (n : Int) : Prop := w.heap[b]? = some (.cells #[.pointer (some ⟨p, 0, none⟩), .int .i64 n] 86 (0, 0))
section
variable {B : Nat} {L : List Nat} {w w' : World} {b p : Nat} {n : Int}
theorem LogAt.disk (h : LogAt w b p n) : w.cell? ⟨b, 0, none⟩ = some (.pointer (some ⟨p, 0, none⟩)) := by rw [cell_at h]; rfl
theorem LogAt.file (h : LogAt w b p n) : w.cell? ⟨b, 1, none⟩ = some (.int .i64 n) := by rw [cell_at h]; rfl
theorem LogAt.below (h : LogAt w b p n) (k : Below w.heap.size w w') : LogAt w' b p n := (k.block b (lt_at h)).trans h
theorem LogAt.keeps (h : LogAt w b p n) (k : Keeps B L w w') (hb : b ∈ L) : LogAt w' b p n := k.heap h (.inr hb)
end
theorem wopen_arg {m : M} {n : Int} (h : ¬ (0 ≤ n ∧ n < 16)) : wopen m n = ((1, []), m) := if_pos h
theorem wopen_off {m : M} {n : Int} (h : 0 ≤ n ∧ n < 16) (ho : m.off = true) : wopen m n = ((10, []), m) := by
  unfold wopen
  rw [if_neg fun k => k h, if_pos ho]
theorem wopen_new {m : M} {n : Int} (h : 0 ≤ n ∧ n < 16) (ho : m.off = false) (hh : m.has n = false) :
    wopen m n = if (m.replace n []).1 = 0 then behind (m.replace n []).2 n [] else (((m.replace n []).1, []), (m.replace n []).2) := by
  unfold wopen
  rw [if_neg fun k => k h, if_neg (by simp [ho]), if_pos hh]
theorem wopen_old {m : M} {n : Int} (h : 0 ≤ n ∧ n < 16) (ho : m.off = false) (hh : m.has n = true) : wopen m n = behind m n (m.all n.toNat) := by
  unfold wopen
  rw [if_neg fun k => k h, if_neg (by simp [ho]), if_neg (by simp [hh])]
/-- What Open leaves. -/
def Opened (B : Nat) (L : List Nat) (w : World) (p N : Nat) (n : Int) (r : (Int × List (List UInt8)) × M) (e : Ending) (w' : World) : Prop :=
  (r.1.1 ≠ 0 ∧ e = .returned (.tuple #[.pointer none, .slice none 0 0, .int .i64 r.1.1]) ∧ Has B L w' p N r.2 ∧ Keeps B L w w') ∨
  (r.1.1 = 0 ∧ ∃ b A c, e = .returned (.tuple #[.pointer (some ⟨b, 0, none⟩), .slice A r.1.2.length c, .int .i64 0]) ∧ LogAt w' b p n ∧ RS w' A r.1.2.length r.1.2 ∧ Has B (b :: L) w' p N r.2 ∧ Keeps B L w w' ∧ w.heap.size ≤ b)

theorem Done.lit {B : Nat} {L : List Nat} {w w' : World} {p N : Nat} {r : Int × M} {e : Ending} (h : Done B L w p N r e w') {f : Int} {m' : M} (hf : Hid (r.1 = f)) (hm : Hid (r.2 = m')) : e = .returned (.int .i64 f) ∧ Has B L w' p N m' ∧ Keeps B L w w' := by
  obtain ⟨h1, h2, h3⟩ := h
  rw [hf.out] at h1
  rw [hm.out] at h2
  exact ⟨h1, h2, h3⟩
theorem Got.lit {w w' : World} {l : List UInt8} {f : Int} {e : Ending} (h : Got w l f e w') {s : ByteArray} {f' : Int} (hs : Hid (str l = s)) (hf : Hid (f = f')) : e = .returned (.tuple #[.string s, .int .i64 f']) ∧ Below w.heap.size w w' := by
  obtain ⟨h1, h2⟩ := h
  rw [hs.out, hf.out] at h1
  exact ⟨h1, h2⟩

section
variable {B : Nat} {L : List Nat} {w : World} {p N : Nat} {m : M}

set_option maxRecDepth 100000 in
theorem open_arg (a : Option Addr) (n : Int) (w : World) (hn : ¬ (0 ≤ n ∧ n < 16)) :
    Calls Tryd.prog 22 #[.pointer a, .int .i64 n] w fun e w' => e = .returned (.tuple #[.pointer none, .slice none 0 0, .int .i64 1]) ∧ w = w' := by
  rcases (show n < 0 ∨ 16 ≤ n by omega) with h | h
  · go_enter Tryd.func22, Tryd.ntmps22
    go_wp2
    go_ret3
    exact ⟨rfl, rfl⟩
  · have h2 : ¬ n < 0 := by omega
    go_enter Tryd.func22, Tryd.ntmps22
    go_wp2
    go_ret3
    exact ⟨rfl, rfl⟩
set_option maxRecDepth 100000 in
theorem open_none (n : Int) (w : World) (hn : 0 ≤ n ∧ n < 16) :
    Calls Tryd.prog 22 #[.pointer none, .int .i64 n] w fun e w' => e = .returned (.tuple #[.pointer none, .slice none 0 0, .int .i64 10]) ∧ Below w.heap.size w w' := by
  have h1 := hn.1
  have h2 := hn.2
  go_enter Tryd.func22, Tryd.ntmps22
  go_wp2_with fail
  refine (DskWalkC.read_nil n w).mono ?_
  rintro e w' ⟨rfl, hb⟩
  go_wp2
  go_ret3
  exact ⟨rfl, hb⟩

set_option maxRecDepth 100000 in
set_option maxHeartbeats 2000000 in
theorem open_off (n : Int) (h : Has B L w p N m) (hn : 0 ≤ n ∧ n < 16) (hoff : m.off = true) :
    Calls Tryd.prog 22 #[.pointer (some ⟨p, 0, none⟩), .int .i64 n] w fun e w' => e = .returned (.tuple #[.pointer none, .slice none 0 0, .int .i64 10]) ∧ Below w.heap.size w w' := by
  have hr := read_has n h (by omega) (by omega)
  have e1 : m.read n = ([], 10) := by simp [M.read, hoff]
  rw [e1] at hr
  have HR := Lib.hid hr
  have h1 := hn.1
  have h2 := hn.2
  clear hr e1
  go_enter Tryd.func22, Tryd.ntmps22
  go_wp2_with fail
  refine HR.out.mono ?_
  rintro e w' ⟨rfl, hb⟩
  go_wp2
  go_ret3
  exact ⟨rfl, hb⟩

/-- Records that were scanned, beside a disk. -/
theorem beside_scan {w' : World} {v : Value} {r : List (List UInt8)} (h : Has B L w p N m) (hown : w'.ownsRow w.heap.size 9 1 v r.length (strs r)) (hb : Below w.heap.size w w') :
    ∃ A c L', v = .slice A r.length c ∧ Has B L' w' p N m ∧ (∀ y, y ∈ L → y ∈ L') ∧ ∀ w'', Keeps B L' w' w'' → RS w'' A r.length r := by
  obtain ⟨A, c, rfl, h1, h2, h3⟩ := own_form hown
  cases A with
  | none =>
    refine ⟨none, c, L, rfl, h.below hb, fun y hy => hy, fun w'' k => ?_⟩
    have h0 : r.length = 0 := by
      rcases Nat.eq_zero_or_pos r.length with h0 | h0
      · exact h0
      · obtain ⟨ad, e, _⟩ := h3.2 h0
        cases e
    have hr : r = [] := List.eq_nil_of_length_eq_zero h0
    subst hr
    exact Reads.none_
  | some ad =>
    rcases hown.2 with ⟨e, h0⟩ | ⟨g, cap, cur, e, hg1, hg2, hrest⟩
    · cases e
    · injection e with e1 e2 e3
      injection e1 with e1
      subst e1 e3
      have hlt := lt_at hg2
      refine ⟨_, c, g :: L, rfl, h.beside hb hg1 hlt, fun y hy => List.mem_cons_of_mem _ hy, fun w'' k => ?_⟩
      have hown2 : w''.ownsRow w.heap.size 9 1 (.slice (some ⟨g, 0, none⟩) r.length c) r.length (strs r) := Only.own k hown fun g' hg' => by
        simp only [Value.ownBlock, Option.some.injEq] at hg'
        subst hg'
        simp
      exact Reads.of_own hown2
end
end Go.Proofs.YtmimpfccngihiaaDoor.Log
