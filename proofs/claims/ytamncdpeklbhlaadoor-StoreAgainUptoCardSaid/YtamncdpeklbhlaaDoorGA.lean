/- Small calls of the program's store, walked: a vote, a state's test, a copy of a state. -/
import Derived.Test.YtamncdpeklbhlaaDoorFrm
import Derived.Test.YtamncdpeklbhlaaDoorG0
import Derived.Test.YtamncdpeklbhlaaDoorReads
import Derived.Test.YtamncdpeklbhlaaDoorRlog
import Derived.Test.YtamncdpeklbhlaaDoorRows
import Derived.Test.YtamncdpeklbhlaaDoorOnly
import Derived.WalkKit
import Derived.Deep.RegionLaw
import Derived.Test.YtamncdpeklbhlaaDoorKit
import Derived.Test.YtamncdpeklbhlaaDoorQuorum
import Derived.Laws.BitsAll
import Derived.Deep.QuietTactic
import Derived.BigQuiet
import Derived.BigRegion
import Derived.WalkSpells
import Derived.IntWalk
import Derived.LoopTactic
import Derived.Outline
import Derived.Test.YtamncdpeklbhlaaDoorPckWalkH
import Derived.Deep.RegionHeld3
import Derived.Lib.SliceRun
set_option linter.unusedVariables false
set_option linter.unusedSimpArgs false
namespace Go.Proofs.YtamncdpeklbhlaaDoor.Log
open Go.RowKit Go.Proofs.YtamncdpeklbhlaaDoor.Kit Go.Proofs.YtamncdpeklbhlaaDoor.Blocks Go.Proofs.YtamncdpeklbhlaaDoor.SumB Go.Proofs.YtamncdpeklbhlaaDoor.Wal Go.Proofs.YtamncdpeklbhlaaDoor.FrA Go.Proofs.YtamncdpeklbhlaaDoor.FrC Go.Proofs.YtamncdpeklbhlaaDoor.ScA Go.Proofs.YtamncdpeklbhlaaDoor.ScB Go.Proofs.YtamncdpeklbhlaaDoor.Frm Go.Proofs.YtamncdpeklbhlaaDoor.Model Go.Proofs.YtamncdpeklbhlaaDoor.Disk Go.Proofs.YtamncdpeklbhlaaDoor.Ops
open Go.Proofs.YtamncdpeklbhlaaDoor.DskWalkC (str Got)
open Go.Proofs.YtamncdpeklbhlaaDoor.Model.M

/-- What Open answers (an error's number, records), and makes of a disk; what Append and Anew do. -/
noncomputable def behind (m : M) (n : Int) (s : List UInt8) : (Int × List (List UInt8)) × M :=
  if (scan s).2 < s.length then (if (m.replace n (s.take (scan s).2)).1 = 0 then ((0, (scan s).1), (m.replace n (s.take (scan s).2)).2) else (((m.replace n (s.take (scan s).2)).1, []), (m.replace n (s.take (scan s).2)).2))
  else (if (m.sync n).1 = 0 then ((0, (scan s).1), (m.sync n).2) else (((m.sync n).1, []), (m.sync n).2))
noncomputable def wopen (m : M) (n : Int) : (Int × List (List UInt8)) × M :=
  if ¬ (0 ≤ n ∧ n < 16) then ((1, []), m) else if m.off = true then ((10, []), m)
  else if m.has n = false then (if (m.replace n []).1 = 0 then behind (m.replace n []).2 n [] else (((m.replace n []).1, []), (m.replace n []).2))
  else behind m n (m.all n.toNat)
noncomputable def wappend (m : M) (n : Int) (l : List (List UInt8)) : Int × M :=
  if Recs l then (if (m.append n (frames l)).1 = 0 then (m.append n (frames l)).2.sync n else m.append n (frames l)) else (3, m)
noncomputable def wanew (m : M) (n : Int) (l : List (List UInt8)) : Int × M := if Recs l then m.replace n (frames l) else (3, m)

/-- Block b is a log: a disk, a file's number. -/
def LogAt (w : World) (b p : Nat) (n : Int) : Prop := w.heap[b]? = some (.cells #[.pointer (some ⟨p, 0, none⟩), .int .i64 n] 97 (0, 0))
section
variable {B : Nat} {L : List Nat} {w w' : World} {b p : Nat} {n : Int}
theorem LogAt.disk (h : LogAt w b p n) : w.cell? ⟨b, 0, none⟩ = some (.pointer (some ⟨p, 0, none⟩)) := by rw [cell_at h]; rfl
theorem LogAt.file (h : LogAt w b p n) : w.cell? ⟨b, 1, none⟩ = some (.int .i64 n) := by rw [cell_at h]; rfl
theorem LogAt.below (h : LogAt w b p n) (k : Below w.heap.size w w') : LogAt w' b p n := (k.block b (lt_at h)).trans h
theorem LogAt.keeps (h : LogAt w b p n) (k : Keeps B L w w') (hb : b ∈ L) : LogAt w' b p n := k.heap h (.inr hb)
end
theorem wopen_arg {m : M} {n : Int} (h : ¬ (0 ≤ n ∧ n < 16)) : wopen m n = ((1, []), m) := if_pos h
theorem wopen_off {m : M} {n : Int} (h : 0 ≤ n ∧ n < 16) (ho : m.off = true) : wopen m n = ((10, []), m) := by
  unfold wopen
  rw [if_neg fun k => k h, if_pos ho]
theorem wopen_new {m : M} {n : Int} (h : 0 ≤ n ∧ n < 16) (ho : m.off = false) (hh : m.has n = false) :
    wopen m n = if (m.replace n []).1 = 0 then behind (m.replace n []).2 n [] else (((m.replace n []).1, []), (m.replace n []).2) := by
  unfold wopen
  rw [if_neg fun k => k h, if_neg (by simp [ho]), if_pos hh]
theorem wopen_old {m : M} {n : Int} (h : 0 ≤ n ∧ n < 16) (ho : m.off = false) (hh : m.has n = true) : wopen m n = behind m n (m.all n.toNat) := by
  unfold wopen
  rw [if_neg fun k => k h, if_neg (by simp [ho]), if_neg (by simp [hh])]
/-- What Open leaves. -/
def Opened (B : Nat) (L : List Nat) (w : World) (p N : Nat) (n : Int) (r : (Int × List (List UInt8)) × M) (e : Ending) (w' : World) : Prop :=
  (r.1.1 ≠ 0 ∧ e = .returned (.tuple #[.pointer none, .slice none 0 0, .int .i64 r.1.1]) ∧ Has B L w' p N r.2 ∧ Keeps B L w w') ∨
  (r.1.1 = 0 ∧ ∃ b A c, e = .returned (.tuple #[.pointer (some ⟨b, 0, none⟩), .slice A r.1.2.length c, .int .i64 0]) ∧ LogAt w' b p n ∧ RS w' A r.1.2.length r.1.2 ∧ Has B (b :: L) w' p N r.2 ∧ Keeps B L w w' ∧ w.heap.size ≤ b)

theorem Done.lit {B : Nat} {L : List Nat} {w w' : World} {p N : Nat} {r : Int × M} {e : Ending} (h : Done B L w p N r e w') {f : Int} {m' : M} (hf : Hid (r.1 = f)) (hm : Hid (r.2 = m')) : e = .returned (.int .i64 f) ∧ Has B L w' p N m' ∧ Keeps B L w w' := by
  obtain ⟨h1, h2, h3⟩ := h
  rw [hf.out] at h1
  rw [hm.out] at h2
  exact ⟨h1, h2, h3⟩
theorem Got.lit {w w' : World} {l : List UInt8} {f : Int} {e : Ending} (h : Got w l f e w') {s : ByteArray} {f' : Int} (hs : Hid (str l = s)) (hf : Hid (f = f')) : e = .returned (.tuple #[.string s, .int .i64 f']) ∧ Below w.heap.size w w' := by
  obtain ⟨h1, h2⟩ := h
  rw [hs.out, hf.out] at h1
  exact ⟨h1, h2⟩

section
variable {B : Nat} {L : List Nat} {w : World} {p N : Nat} {m : M}

set_option maxRecDepth 100000 in
theorem open_arg (a : Option Addr) (n : Int) (w : World) (hn : ¬ (0 ≤ n ∧ n < 16)) :
    Calls Tryd.prog 19 #[.pointer a, .int .i64 n] w fun e w' => e = .returned (.tuple #[.pointer none, .slice none 0 0, .int .i64 1]) ∧ w = w' := by
  rcases (show n < 0 ∨ 16 ≤ n by omega) with h | h
  · go_enter Tryd.func19, Tryd.ntmps19
    go_wp2
    go_ret3
    exact ⟨rfl, rfl⟩
  · have h2 : ¬ n < 0 := by omega
    go_enter Tryd.func19, Tryd.ntmps19
    go_wp2
    go_ret3
    exact ⟨rfl, rfl⟩
set_option maxRecDepth 100000 in
theorem open_none (n : Int) (w : World) (hn : 0 ≤ n ∧ n < 16) :
    Calls Tryd.prog 19 #[.pointer none, .int .i64 n] w fun e w' => e = .returned (.tuple #[.pointer none, .slice none 0 0, .int .i64 10]) ∧ Below w.heap.size w w' := by
  have h1 := hn.1
  have h2 := hn.2
  go_enter Tryd.func19, Tryd.ntmps19
  go_wp2_with fail
  refine (DskWalkC.read_nil n w).mono ?_
  rintro e w' ⟨rfl, hb⟩
  go_wp2
  go_ret3
  exact ⟨rfl, hb⟩

set_option maxRecDepth 100000 in
set_option maxHeartbeats 2000000 in
theorem open_off (n : Int) (h : Has B L w p N m) (hn : 0 ≤ n ∧ n < 16) (hoff : m.off = true) :
    Calls Tryd.prog 19 #[.pointer (some ⟨p, 0, none⟩), .int .i64 n] w fun e w' => e = .returned (.tuple #[.pointer none, .slice none 0 0, .int .i64 10]) ∧ Below w.heap.size w w' := by
  have hr := read_has n h (by omega) (by omega)
  have e1 : m.read n = ([], 10) := by simp [M.read, hoff]
  rw [e1] at hr
  have HR := Lib.hid hr
  have h1 := hn.1
  have h2 := hn.2
  clear hr e1
  go_enter Tryd.func19, Tryd.ntmps19
  go_wp2_with fail
  refine HR.out.mono ?_
  rintro e w' ⟨rfl, hb⟩
  go_wp2
  go_ret3
  exact ⟨rfl, hb⟩

/-- Records that were scanned, beside a disk. -/
theorem beside_scan {w' : World} {v : Value} {r : List (List UInt8)} (h : Has B L w p N m) (hown : w'.ownsRow w.heap.size 9 1 v r.length (strs r)) (hb : Below w.heap.size w w') :
    ∃ A c L', v = .slice A r.length c ∧ Has B L' w' p N m ∧ (∀ y, y ∈ L → y ∈ L') ∧ ∀ w'', Keeps B L' w' w'' → RS w'' A r.length r := by
  obtain ⟨A, c, rfl, h1, h2, h3⟩ := own_form hown
  cases A with
  | none =>
    refine ⟨none, c, L, rfl, h.below hb, fun y hy => hy, fun w'' k => ?_⟩
    have h0 : r.length = 0 := by
      rcases Nat.eq_zero_or_pos r.length with h0 | h0
      · exact h0
      · obtain ⟨ad, e, _⟩ := h3.2 h0
        cases e
    have hr : r = [] := List.eq_nil_of_length_eq_zero h0
    subst hr
    exact Reads.none_
  | some ad =>
    rcases hown.2 with ⟨e, h0⟩ | ⟨g, cap, cur, e, hg1, hg2, hrest⟩
    · cases e
    · injection e with e1 e2 e3
      injection e1 with e1
      subst e1 e3
      have hlt := lt_at hg2
      refine ⟨_, c, g :: L, rfl, h.beside hb hg1 hlt, fun y hy => List.mem_cons_of_mem _ hy, fun w'' k => ?_⟩
      have hown2 : w''.ownsRow w.heap.size 9 1 (.slice (some ⟨g, 0, none⟩) r.length c) r.length (strs r) := Only.own k hown fun g' hg' => by
        simp only [Value.ownBlock, Option.some.injEq] at hg'
        subst hg'
        simp
      exact Reads.of_own hown2
end
end Go.Proofs.YtamncdpeklbhlaaDoor.Log
set_option linter.unusedVariables false
set_option linter.unusedSimpArgs false
namespace Go.Proofs.YtamncdpeklbhlaaDoor.Sto
open Go.Proofs.YtamncdpeklbhlaaDoor.Num (num)
open Go.Proofs.YtamncdpeklbhlaaDoor.Rlog
open Go.Proofs.YtamncdpeklbhlaaDoor.Quorum (sound)
open Go.Proofs.YtamncdpeklbhlaaDoor.PckWalkB (text)
open Go.Proofs.YtamncdpeklbhlaaDoor.PckWalkC (gotB restB frontB gotB_lt)
open Go.Proofs.YtamncdpeklbhlaaDoor.PckWalkD (badB)
open Go.Proofs.YtamncdpeklbhlaaDoor.PckWalkE (upOk upV upR upB textOk textV textR textB)
open Go.Proofs.YtamncdpeklbhlaaDoor.PckWalkH (str str_list str_size str_back)
open Go.Proofs.YtamncdpeklbhlaaDoor.Reads (got_laid rest_laid bad_laid upV_laid upR_laid upB_laid upV_over upR_over upB_over textV_laid textR_laid textB_laid textB_over str_nil bad_empty)

/-- All that lasts of a node. -/
structure Sta where
  term : Nat
  vote : Int
  snap : Snap
  es : List Ent
structure StaB (s : Sta) : Prop where
  term : s.term < 18446744073709551616
  v0 : -9223372036854775808 ≤ s.vote
  v1 : s.vote ≤ 9223372036854775807
  snap : SnapB s.snap
  ents : ∀ e ∈ s.es, EntB e

/-- Do a snapshot and entries make a log? A vote; a state. -/
def okB (s : Snap) (l : List Ent) : Bool := sound s.cfg && chained l s.idx s.term
def voteB (v : Int) : Bool := decide (-1 ≤ v ∧ v < 7)
def right (s : Sta) : Bool := okB s.snap s.es && voteB s.vote
def first (c : Nat) : Sta := ⟨0, -1, ⟨0, 0, c, ByteArray.empty⟩, []⟩
def below (i : Nat) (e : Ent) : Bool := decide (e.idx < i)

/-! ### What a record makes -/
def done (s : ByteArray) (bad : Bool) : Bool := decide (s.size = 0) && !bad
structure Rd where
  s : ByteArray
  bad : Bool
def Rd.num (r : Rd) : Rd := ⟨restB r.s, badB r.s r.bad⟩
def Rd.up (r : Rd) (k : Int) : Rd := ⟨upR r.s k, upB r.s r.bad k⟩
def Rd.text (r : Rd) (k : Int) : Rd := ⟨textR r.s k, textB r.s r.bad k⟩
def Rd.done (r : Rd) : Bool := Sto.done r.s r.bad
def rd0 (b : ByteArray) : Rd := ⟨b, false⟩
def kind (b : ByteArray) : Nat := gotB b
def rd1 (b : ByteArray) : Rd := (rd0 b).num
def rd2 (b : ByteArray) : Rd := (rd1 b).num
def rd3 (b : ByteArray) : Rd := (rd2 b).num
def rd4 (b : ByteArray) : Rd := (rd3 b).num
def sayHard (s : Sta) (b : ByteArray) : Sta := { s with term := gotB (rd1 b).s, vote := (upV (rd2 b).s 7 : Int) - 1 }
def entOf (b : ByteArray) : Ent := ⟨gotB (rd1 b).s, gotB (rd2 b).s, (upV (rd3 b).s 2 : Int), textV ((rd3 b).up 2).s 65536⟩
def sayEnt (s : Sta) (b : ByteArray) : Sta := { s with es := s.es ++ [entOf b] }
def sayCut (s : Sta) (i : Nat) : Sta := { s with es := s.es.takeWhile (below i) }
def snapOf (b : ByteArray) : Snap := ⟨gotB (rd1 b).s, gotB (rd2 b).s, gotB (rd3 b).s, textV (rd4 b).s 65536⟩
def saySnap (s : Sta) (p : Snap) : Sta := { s with snap := p, es := [] }
/-- What a record makes of a state, and whether it is one. -/
def say (s : Sta) (b : ByteArray) : Sta × Bool :=
  if kind b = 1 then (sayHard s b, ((rd2 b).up 7).done)
  else if kind b = 2 then (sayEnt s b, (((rd3 b).up 2).text 65536).done)
  else if kind b = 3 then (sayCut s (gotB (rd1 b).s), (rd2 b).done)
  else if kind b = 4 then (saySnap s (snapOf b), ((rd4 b).text 65536).done)
  else (s, false)
def makes : Sta → List (List UInt8) → Option Sta
  | s, [] => some s
  | s, x :: r => if (say s (str x)).2 = true then makes (say s (str x)).1 r else none
/-- What records say of a beginning. -/
def said (c : Nat) (l : List (List UInt8)) : Option Sta := match makes (first c) l with
  | none => none
  | some s => if right s = true then some s else none

theorem first_b {c : Nat} (h : c < 18446744073709551616) : StaB (first c) := ⟨by show 0 < _; decide, by show _ ≤ (-1 : Int); decide, by show (-1 : Int) ≤ _; decide, ⟨by show 0 < _; decide, by show 0 < _; decide, h⟩, by simp [first]⟩
theorem first_right {c : Nat} (h : sound c = true) : right (first c) = true := by simp [right, first, okB, chained, h, voteB]
theorem upV_le {s : ByteArray} {k : Int} (h0 : 0 ≤ k) : (upV s k : Int) ≤ k := by
  unfold upV
  split
  · rename_i h
    unfold upOk at h
    have := of_decide_eq_true h
    omega
  · simpa using h0
theorem upR_size (s : ByteArray) (k : Int) : (upR s k).size ≤ s.size := PckWalkE.upR_le s k
theorem textV_size (s : ByteArray) (k : Int) : (textV s k).size ≤ s.size := by
  have h1 := upR_size s k
  unfold textV
  split
  · rw [ByteArray.size_extract]; omega
  · simp
theorem rest_size (s : ByteArray) : (restB s).size ≤ s.size := PckWalkD.restB_le s
theorem rd1_size (b : ByteArray) : (rd1 b).s.size ≤ b.size := rest_size b
theorem rd2_size (b : ByteArray) : (rd2 b).s.size ≤ b.size := Nat.le_trans (rest_size _) (rd1_size b)
theorem rd3_size (b : ByteArray) : (rd3 b).s.size ≤ b.size := Nat.le_trans (rest_size _) (rd2_size b)
theorem rd4_size (b : ByteArray) : (rd4 b).s.size ≤ b.size := Nat.le_trans (rest_size _) (rd3_size b)
theorem ent_b {b : ByteArray} (hb : b.size ≤ 9223372036854775807) : EntB (entOf b) := by
  have h1 := upV_le (s := (rd3 b).s) (k := 2) (by decide)
  refine ⟨gotB_lt _, gotB_lt _, by simp only [entOf]; omega, by simp only [entOf]; omega, ?_⟩
  have h2 := textV_size ((rd3 b).up 2).s 65536
  have h3 := upR_size (rd3 b).s 2
  have h4 := rd3_size b
  simp only [entOf]
  unfold Rd.up at h2 ⊢
  simp only at h2 ⊢
  omega
theorem say_b {s : Sta} {b : ByteArray} (h : StaB s) (hb : b.size ≤ 9223372036854775807) : StaB (say s b).1 := by
  unfold say
  split
  · have h1 := upV_le (s := (rd2 b).s) (k := 7) (by decide)
    exact ⟨gotB_lt _, by simp only [sayHard]; omega, by simp only [sayHard]; omega, h.snap, h.ents⟩
  split
  · refine ⟨h.term, h.v0, h.v1, h.snap, fun e he => ?_⟩
    simp only [sayEnt, List.mem_append, List.mem_singleton] at he
    rcases he with he | rfl
    · exact h.ents e he
    · exact ent_b hb
  split
  · exact ⟨h.term, h.v0, h.v1, h.snap, fun e he => h.ents e ((List.takeWhile_sublist _).subset he)⟩
  split
  · exact ⟨h.term, h.v0, h.v1, ⟨gotB_lt _, gotB_lt _, gotB_lt _⟩, by simp [saySnap]⟩
  · exact h
theorem say_len (s : Sta) (b : ByteArray) : (say s b).1.es.length ≤ s.es.length + 1 := by
  unfold say
  split
  · simp [sayHard]
  split
  · simp [sayEnt]
  split
  · have := (List.takeWhile_sublist (l := s.es) (below (gotB (rd1 b).s))).length_le
    simp only [sayCut]
    omega
  split
  · simp [saySnap]
  · simp
theorem makes_append : ∀ (a b : List (List UInt8)) (s : Sta), makes s (a ++ b) = (makes s a).bind fun t => makes t b
  | [], b, s => rfl
  | x :: a, b, s => by
    simp only [List.cons_append, makes]
    split
    · exact makes_append a b _
    · rfl
theorem makes_b : ∀ (l : List (List UInt8)) {s t : Sta}, StaB s → (∀ x ∈ l, x.length ≤ 9223372036854775807) → makes s l = some t → StaB t
  | [], s, t, h, _, he => by simp only [makes, Option.some.injEq] at he; exact he ▸ h
  | x :: l, s, t, h, hl, he => by
    simp only [makes] at he
    split at he
    · exact makes_b l (say_b h (by rw [str_size]; exact hl x (by simp))) (fun y hy => hl y (by simp [hy])) he
    · cases he
theorem makes_len : ∀ (l : List (List UInt8)) {s t : Sta}, makes s l = some t → t.es.length ≤ s.es.length + l.length
  | [], s, t, he => by simp only [makes, Option.some.injEq] at he; subst he; simp
  | x :: l, s, t, he => by
    simp only [makes] at he
    split at he
    · have h1 := makes_len l he
      have h2 := say_len s (str x)
      simp only [List.length_cons]
      omega
    · cases he

/-! ### Records -/
/-- A number of 64 bits as one without a sign. -/
def uns (z : Int) : Nat := (z % 18446744073709551616).toNat
theorem uns_lt (z : Int) : uns z < 18446744073709551616 := by unfold uns; omega
theorem uns_pos {z : Int} (h0 : 0 ≤ z) (h1 : z < 18446744073709551616) : (uns z : Int) = z := by unfold uns; omega
def recHard (t : Nat) (v : Int) : List UInt8 := num 1 ++ (num t ++ num (uns (v + 1)))
def recEnt (e : Ent) : List UInt8 := num 2 ++ (num e.term ++ (num e.idx ++ (num (uns e.kind) ++ text e.data)))
def recCut (i : Nat) : List UInt8 := num 3 ++ num i
def recSnap (p : Snap) : List UInt8 := num 4 ++ (num p.idx ++ (num p.term ++ (num p.cfg ++ text p.data)))
theorem num9 {x : Nat} (h : x < 18446744073709551616) : (num x).length ≤ 9 := by rw [Num.num_length]; have := Num.wide_le8 h; omega
theorem num_small {x : Nat} (h : x < 256) : (num x).length ≤ 2 := by rw [Num.num_length]; have := Num.wide_le (x := x) (n := 1) (by simpa using h); omega
theorem text_length (d : ByteArray) (h : d.size < 18446744073709551616) : (text d).length ≤ d.size + 9 := by unfold text; rw [List.length_append, ← Lib.size_eq]; have := num9 h; omega
theorem hard_length {t : Nat} {v : Int} (h : t < 18446744073709551616) : (recHard t v).length ≤ 20 := by
  have h1 := num9 h
  have h2 := num9 (uns_lt (v + 1))
  have h3 := num_small (x := 1) (by decide)
  simp only [recHard, List.length_append]
  omega
theorem ent_length {e : Ent} (h : EntB e) : (recEnt e).length ≤ e.data.size + 38 := by
  have h1 := num9 h.term
  have h2 := num9 h.idx
  have h3 := num9 (uns_lt e.kind)
  have h4 := text_length e.data (by have := h.size; omega)
  have h5 := num_small (x := 2) (by decide)
  simp only [recEnt, List.length_append]
  omega
theorem cut_length {i : Nat} (h : i < 18446744073709551616) : (recCut i).length ≤ 11 := by
  have h1 := num9 h
  have h5 := num_small (x := 3) (by decide)
  simp only [recCut, List.length_append]
  omega
theorem snap_length {p : Snap} (h : SnapB p) (hd : p.data.size < 18446744073709551616) : (recSnap p).length ≤ p.data.size + 38 := by
  have h1 := num9 h.idx
  have h2 := num9 h.term
  have h3 := num9 h.cfg
  have h4 := text_length p.data hd
  have h5 := num_small (x := 4) (by decide)
  simp only [recSnap, List.length_append]
  omega

section
theorem kind_laid {k : Nat} (hk : k < 18446744073709551616) (r : List UInt8) : kind (str (num k ++ r)) = k := got_laid hk r
theorem rd1_laid {k : Nat} (hk : k < 18446744073709551616) (r : List UInt8) : rd1 (str (num k ++ r)) = ⟨str r, false⟩ := by
  unfold rd1 rd0 Rd.num
  simp only
  rw [rest_laid hk, bad_laid hk]
theorem num_laid {x : Nat} (hx : x < 18446744073709551616) (r : List UInt8) (b : Bool) : Rd.num ⟨str (num x ++ r), b⟩ = ⟨str r, b⟩ := by
  unfold Rd.num
  simp only
  rw [rest_laid hx, bad_laid hx]
theorem up_laid {x : Nat} (hx : x < 18446744073709551616) (r : List UInt8) (b : Bool) {k : Int} (hk : (x : Int) ≤ k) : Rd.up ⟨str (num x ++ r), b⟩ k = ⟨str r, b⟩ := by
  unfold Rd.up
  simp only
  rw [upR_laid hx _ hk, upB_laid hx _ hk]
theorem up_over {x : Nat} (hx : x < 18446744073709551616) (r : List UInt8) (b : Bool) {k : Int} (hk : k < (x : Int)) : Rd.up ⟨str (num x ++ r), b⟩ k = ⟨ByteArray.empty, true⟩ := by
  unfold Rd.up
  simp only
  rw [upR_over hx _ hk, upB_over hx _ hk]
theorem done_bad (s : ByteArray) : Rd.done ⟨s, true⟩ = false := by simp [Rd.done, done]
theorem done_nil : Rd.done ⟨str [], false⟩ = true := by decide +kernel
theorem text_bad (s : ByteArray) (k : Int) (h : s.size = 0) : textB s true k = true := by
  have e : s = ByteArray.empty := by
    apply ByteArray.ext
    exact Array.size_eq_zero_iff.1 h
  subst e
  unfold textB
  split
  · unfold upB
    split
    · exact bad_empty _
    · rfl
  · rfl

theorem say_hard {s : Sta} {t : Nat} {v : Int} (ht : t < 18446744073709551616) (hv0 : -9223372036854775808 ≤ v) (hv1 : v ≤ 9223372036854775807) :
    (say s (str (recHard t v))).2 = voteB v ∧ (voteB v = true → (say s (str (recHard t v))).1 = { s with term := t, vote := v }) := by
  have hk : kind (str (recHard t v)) = 1 := kind_laid (by decide) _
  have h1 : rd1 (str (recHard t v)) = ⟨str (num t ++ num (uns (v + 1))), false⟩ := rd1_laid (by decide) _
  have h2 : rd2 (str (recHard t v)) = ⟨str (num (uns (v + 1)) ++ []), false⟩ := by
    unfold rd2
    rw [h1, num_laid ht, List.append_nil]
  unfold say
  rw [if_pos hk, h2]
  simp only
  by_cases h : voteB v = true
  · have hb := of_decide_eq_true h
    have hu := uns_pos (z := v + 1) (by omega) (by omega)
    refine ⟨?_, fun _ => ?_⟩
    · rw [up_laid (uns_lt _) _ _ (by omega), done_nil, h]
    · unfold sayHard
      rw [h1, h2]
      simp only
      rw [got_laid ht, upV_laid (uns_lt _) _ (by omega), hu]
      congr 1
      omega
  · have hb : ¬ (-1 ≤ v ∧ v < 7) := fun e => h (decide_eq_true e)
    have hu : (7 : Int) < (uns (v + 1) : Int) := by unfold uns; omega
    rw [up_over (uns_lt _) _ _ hu, done_bad]
    refine ⟨by simpa using h, fun e => absurd e h⟩
def entOk (e : Ent) : Bool := decide ((0 ≤ e.kind ∧ e.kind ≤ 2) ∧ e.data.size ≤ 65536)
theorem say_ent {s : Sta} {e : Ent} (h : EntB e) : (say s (str (recEnt e))).2 = entOk e ∧ (entOk e = true → (say s (str (recEnt e))).1 = { s with es := s.es ++ [e] }) := by
  have hk : kind (str (recEnt e)) = 2 := kind_laid (by decide) _
  have hz := h.size
  have h1 : rd1 (str (recEnt e)) = ⟨str (num e.term ++ (num e.idx ++ (num (uns e.kind) ++ text e.data))), false⟩ := rd1_laid (by decide) _
  have h2 : rd2 (str (recEnt e)) = ⟨str (num e.idx ++ (num (uns e.kind) ++ text e.data)), false⟩ := by
    unfold rd2
    rw [h1, num_laid h.term]
  have h3 : rd3 (str (recEnt e)) = ⟨str (num (uns e.kind) ++ text e.data), false⟩ := by
    unfold rd3
    rw [h2, num_laid h.idx]
  have k0 := h.k0
  have k1 := h.k1
  unfold say
  rw [if_neg (by rw [hk]; decide), if_pos hk]
  simp only
  by_cases hr : 0 ≤ e.kind ∧ e.kind ≤ 2
  · have hu := uns_pos (z := e.kind) hr.1 (by omega)
    have h4 : (rd3 (str (recEnt e))).up 2 = ⟨str (text e.data ++ []), false⟩ := by
      rw [h3, up_laid (uns_lt _) _ _ (by omega), List.append_nil]
    by_cases hd : e.data.size ≤ 65536
    · have ho : entOk e = true := decide_eq_true ⟨hr, hd⟩
      rw [ho, h4]
      refine ⟨?_, fun _ => ?_⟩
      · unfold Rd.text
        simp only
        rw [textR_laid (by omega) _ (by omega), textB_laid (by omega) _ (by omega), done_nil]
      · unfold sayEnt entOf
        rw [h4, h1, h2, h3]
        simp only
        rw [got_laid h.term, got_laid h.idx, upV_laid (uns_lt _) _ (by omega), hu, textV_laid (by omega) _ (by omega)]
    · have ho : entOk e = false := decide_eq_false fun k => hd k.2
      rw [ho, h4]
      refine ⟨?_, fun e => by cases e⟩
      unfold Rd.text
      simp only
      rw [textB_over (by omega) _ (by omega), done_bad]
  · have hu : (2 : Int) < (uns e.kind : Int) := by unfold uns; omega
    have ho : entOk e = false := decide_eq_false fun k => hr k.1
    rw [ho, h3, up_over (uns_lt _) _ _ hu]
    refine ⟨?_, fun e => by cases e⟩
    unfold Rd.text
    simp only
    rw [text_bad _ _ rfl, done_bad]
theorem say_cut {s : Sta} {i : Nat} (h : i < 18446744073709551616) : say s (str (recCut i)) = (sayCut s i, true) := by
  have hk : kind (str (recCut i)) = 3 := kind_laid (by decide) _
  have h1 : rd1 (str (recCut i)) = ⟨str (num i ++ []), false⟩ := by rw [List.append_nil]; exact rd1_laid (by decide) _
  have h2 : rd2 (str (recCut i)) = ⟨str [], false⟩ := by
    unfold rd2
    rw [h1, num_laid h]
  unfold say
  rw [if_neg (by rw [hk]; decide), if_neg (by rw [hk]; decide), if_pos hk, h2, done_nil, h1]
  simp only
  rw [got_laid h]
theorem say_snap {s : Sta} {p : Snap} (h : SnapB p) (hd : p.data.size ≤ 65536) : say s (str (recSnap p)) = (saySnap s p, true) := by
  have hk : kind (str (recSnap p)) = 4 := kind_laid (by decide) _
  have h1 : rd1 (str (recSnap p)) = ⟨str (num p.idx ++ (num p.term ++ (num p.cfg ++ text p.data))), false⟩ := rd1_laid (by decide) _
  have h2 : rd2 (str (recSnap p)) = ⟨str (num p.term ++ (num p.cfg ++ text p.data)), false⟩ := by
    unfold rd2
    rw [h1, num_laid h.idx]
  have h3 : rd3 (str (recSnap p)) = ⟨str (num p.cfg ++ text p.data), false⟩ := by
    unfold rd3
    rw [h2, num_laid h.term]
  have h4 : rd4 (str (recSnap p)) = ⟨str (text p.data ++ []), false⟩ := by
    unfold rd4
    rw [h3, num_laid h.cfg, List.append_nil]
  unfold say
  rw [if_neg (by rw [hk]; decide), if_neg (by rw [hk]; decide), if_neg (by rw [hk]; decide), if_pos hk]
  unfold Rd.text snapOf
  rw [h4, h1, h2, h3]
  simp only
  rw [textR_laid (by omega) _ (by omega), textB_laid (by omega) _ (by omega), done_nil, got_laid h.idx, got_laid h.term, got_laid h.cfg, textV_laid (by omega) _ (by omega)]
end
end Go.Proofs.YtamncdpeklbhlaaDoor.Sto
set_option linter.unusedVariables false
set_option linter.unusedSimpArgs false
namespace Go.Proofs.YtamncdpeklbhlaaDoor.Sav
open Go.Proofs.YtamncdpeklbhlaaDoor.Rlog Go.Proofs.YtamncdpeklbhlaaDoor.Sto
open Go.Proofs.YtamncdpeklbhlaaDoor.Num (num)
open Go.Proofs.YtamncdpeklbhlaaDoor.Quorum (sound)
open Go.Proofs.YtamncdpeklbhlaaDoor.PckWalkH (str str_list str_size str_back)
open Go.Proofs.YtamncdpeklbhlaaDoor.Model (M)
open Go.Proofs.YtamncdpeklbhlaaDoor.Log (wopen wappend wanew)

/-- The entries that stay ahead of others. -/
def stayE (s : Sta) (l : List Ent) : List Ent := match l with
  | [] => s.es
  | e :: _ => s.es.takeWhile (below e.idx)
def savedS (s : Sta) (t : Nat) (v : Int) (l : List Ent) : Sta := ⟨t, v, s.snap, stayE s l ++ l⟩
def hards (s : Sta) (t : Nat) (v : Int) : List (List UInt8) := if t = s.term ∧ v = s.vote then [] else [recHard t v]
def cuts (s : Sta) (l : List Ent) : List (List UInt8) := match l with
  | [] => []
  | e :: _ => if e.idx ≤ (lasts s.es s.snap.idx s.snap.term).1 then [recCut e.idx] else []
def pcuts (s : Sta) (l : List Ent) : List (List UInt8) := match l with
  | [] => []
  | e :: _ => if (stayE s l).length < s.es.length then [recCut e.idx] else []
def out (s : Sta) (t : Nat) (v : Int) (l : List Ent) : List (List UInt8) := hards s t v ++ (cuts s l ++ l.map recEnt)
/-- What a log would stand behind. -/
def behindS (s : Sta) (l : List Ent) : Snap := ⟨(lasts (stayE s l) s.snap.idx s.snap.term).1, (lasts (stayE s l) s.snap.idx s.snap.term).2, s.snap.cfg, s.snap.data⟩
def okSave (s : Sta) (v : Int) (l : List Ent) : Bool := voteB v && okB (behindS s l) l
def allOf (s : Sta) : List (List UInt8) := recHard s.term s.vote :: recSnap s.snap :: s.es.map recEnt

theorem right_iff {s : Sta} : right s = true ↔ (sound s.snap.cfg = true ∧ chained s.es s.snap.idx s.snap.term = true) ∧ voteB s.vote = true := by
  unfold right okB
  rw [Bool.and_eq_true, Bool.and_eq_true]
theorem while_take : ∀ (es : List Ent) {i t : Nat} (j : Nat), chained es i t = true → es.takeWhile (below j) = es.take (j - (i + 1))
  | [], i, t, j, _ => by simp
  | e :: r, i, t, j, h => by
    simp only [chained, Bool.and_eq_true] at h
    have h1 := (may_iff.1 h.1).1.1
    have ih := while_take r j h.2
    rw [h1] at ih
    by_cases hj : i + 1 < j
    · have hb : below j e = true := decide_eq_true (by omega)
      rw [List.takeWhile_cons_of_pos hb, ih, show j - (i + 1) = (j - (i + 1 + 1)) + 1 by omega, List.take_succ_cons]
    · have hb : ¬ below j e = true := fun e => hj (by have := of_decide_eq_true e; omega)
      rw [List.takeWhile_cons_of_neg hb, show j - (i + 1) = 0 by omega, List.take_zero]
theorem ahead_take {s : Sta} (h : chained s.es s.snap.idx s.snap.term = true) (l : List Ent) : ∃ k, k ≤ s.es.length ∧ stayE s l = s.es.take k ∧ (l = [] → k = s.es.length) ∧ ∀ e r, l = e :: r → k = min (e.idx - (s.snap.idx + 1)) s.es.length := by
  cases l with
  | nil => exact ⟨s.es.length, Nat.le_refl _, by simp [stayE], fun _ => rfl, fun _ _ h => by cases h⟩
  | cons e r =>
    refine ⟨min (e.idx - (s.snap.idx + 1)) s.es.length, Nat.min_le_right _ _, ?_, fun h => (by cases h), fun e' r' h => by cases h; rfl⟩
    show s.es.takeWhile (below e.idx) = _
    rw [while_take s.es e.idx h]
    by_cases hk : e.idx - (s.snap.idx + 1) ≤ s.es.length
    · rw [Nat.min_eq_left hk]
    · rw [Nat.min_eq_right (by omega), List.take_of_length_le (by omega), List.take_of_length_le (Nat.le_refl _)]
theorem right_after {s : Sta} (h : right s = true) (t : Nat) (v : Int) (l : List Ent) : right (savedS s t v l) = okSave s v l := by
  obtain ⟨⟨h1, h2⟩, h3⟩ := right_iff.1 h
  obtain ⟨k, _, hk, _⟩ := ahead_take h2 l
  have h4 : chained (stayE s l) s.snap.idx s.snap.term = true := by rw [hk]; exact follow_take h2 k
  unfold right okSave okB savedS behindS
  simp only
  rw [follow_append, h4, h1, Bool.true_and, Bool.true_and, Bool.and_comm]
theorem pcuts_eq {s : Sta} (h : right s = true) {t : Nat} {v : Int} {l : List Ent} (ha : right (savedS s t v l) = true) : pcuts s l = cuts s l := by
  obtain ⟨⟨h1, h2⟩, h3⟩ := right_iff.1 h
  cases l with
  | nil => rfl
  | cons e r =>
    obtain ⟨k, hk0, hk, _, hk2⟩ := ahead_take h2 (e :: r)
    have hkk := hk2 e r rfl
    have hl := (follow_lasts h2).1
    unfold pcuts cuts
    simp only
    rw [hk, List.length_take, Nat.min_eq_left hk0, hl]
    by_cases h0 : s.es.length = 0
    · have hes : s.es = [] := List.eq_nil_of_length_eq_zero h0
      rw [right_after h t v (e :: r)] at ha
      unfold okSave okB behindS at ha
      rw [hk, hes] at ha
      simp only [List.take_nil, lasts_nil, chained, Bool.and_eq_true] at ha
      have := (may_iff.1 ha.2.2.1).1.1
      rw [if_neg (by omega), if_neg (by omega)]
    · by_cases hlt : k < s.es.length
      · rw [if_pos hlt, if_pos (by omega)]
      · rw [if_neg hlt, if_neg (by omega)]
theorem entOk_of {s : Sta} (h : right s = true) : s.es.all entOk = true := by
  obtain ⟨⟨_, h2⟩, _⟩ := right_iff.1 h
  rw [List.all_eq_true]
  intro e he
  obtain ⟨a, _, _, _, b⟩ := follow_mem h2 he
  refine decide_eq_true ⟨?_, by omega⟩
  rcases b with b | b | b <;> omega
theorem makes_ents : ∀ (l : List Ent) (s : Sta), (∀ e ∈ l, EntB e) → makes s (l.map recEnt) = if l.all entOk = true then some { s with es := s.es ++ l } else none
  | [], s, _ => by simp [makes]
  | e :: l, s, h => by
    obtain ⟨h1, h2⟩ := say_ent (s := s) (h e (by simp))
    simp only [List.map_cons, makes]
    rw [h1, List.all_cons]
    by_cases ho : entOk e = true
    · rw [if_pos ho, h2 ho, makes_ents l _ fun x hx => h x (by simp [hx]), ho, Bool.true_and]
      simp
    · rw [if_neg ho]
      simp [ho]
theorem cut_all {s : Sta} (h : chained s.es s.snap.idx s.snap.term = true) {i : Nat} (hi : (lasts s.es s.snap.idx s.snap.term).1 < i) : s.es.takeWhile (below i) = s.es := by
  have := (follow_lasts h).1
  rw [while_take s.es i h, List.take_of_length_le (by omega)]
/-- A record of a hard state, if it is another one. -/
theorem makes_hards {s : Sta} (h : right s = true) {t : Nat} {v : Int} (ht : t < 18446744073709551616) (hv0 : -9223372036854775808 ≤ v) (hv1 : v ≤ 9223372036854775807) :
    makes s (hards s t v) = if voteB v = true then some { s with term := t, vote := v } else none := by
  unfold hards
  by_cases hh : t = s.term ∧ v = s.vote
  · obtain ⟨rfl, rfl⟩ := hh
    rw [if_pos ⟨rfl, rfl⟩, if_pos (right_iff.1 h).2]
    rfl
  · rw [if_neg hh]
    obtain ⟨h1, h2⟩ := say_hard (s := s) ht hv0 hv1
    simp only [makes]
    rw [h1]
    by_cases hv : voteB v = true
    · rw [if_pos hv, if_pos hv, h2 hv]
    · rw [if_neg hv, if_neg hv]
theorem makes_cuts {s : Sta} (h : chained s.es s.snap.idx s.snap.term = true) {t : Nat} {v : Int} {l : List Ent} (hl : ∀ e ∈ l, EntB e) :
    makes { s with term := t, vote := v } (cuts s l) = some { s with term := t, vote := v, es := stayE s l } := by
  cases l with
  | nil => rfl
  | cons e r =>
    unfold cuts
    simp only
    by_cases hi : e.idx ≤ (lasts s.es s.snap.idx s.snap.term).1
    · rw [if_pos hi]
      simp only [makes, say_cut (hl e (by simp)).idx, if_true]
      rfl
    · rw [if_neg hi]
      have : stayE s (e :: r) = s.es := cut_all h (by omega)
      rw [this]
      rfl
/-- What a Save's records make of a state. -/
theorem makes_out {s : Sta} (h : right s = true) {t : Nat} {v : Int} {l : List Ent} (ht : t < 18446744073709551616) (hv0 : -9223372036854775808 ≤ v) (hv1 : v ≤ 9223372036854775807) (hl : ∀ e ∈ l, EntB e) :
    makes s (out s t v l) = if (voteB v && l.all entOk) = true then some (savedS s t v l) else none := by
  obtain ⟨⟨_, h2⟩, _⟩ := right_iff.1 h
  unfold out
  rw [makes_append, makes_hards h ht hv0 hv1]
  by_cases hv : voteB v = true
  · rw [if_pos hv]
    simp only [Option.bind_some]
    rw [makes_append, makes_cuts h2 hl]
    simp only [Option.bind_some]
    rw [makes_ents l _ hl, hv, Bool.true_and]
    rfl
  · rw [if_neg hv]
    simp [hv]
/-- A Save's records are ones just if what comes of them is a state. -/
theorem records_ok {s : Sta} (h : right s = true) {t : Nat} {v : Int} {l : List Ent} (ht : t < 18446744073709551616) (hv0 : -9223372036854775808 ≤ v) (hv1 : v ≤ 9223372036854775807) (hl : ∀ e ∈ l, EntB e) (ha : right (savedS s t v l) = true) :
    makes s (out s t v l) = some (savedS s t v l) := by
  rw [makes_out h ht hv0 hv1 hl]
  have h1 : voteB v = true := (right_iff.1 ha).2
  have h2 := entOk_of ha
  have h3 : l.all entOk = true := by
    rw [List.all_eq_true] at h2 ⊢
    exact fun e he => h2 e (List.mem_append_right _ he)
  rw [h1, h3]
  rfl
theorem records_no {s : Sta} (h : right s = true) {t : Nat} {v : Int} {l : List Ent} (ht : t < 18446744073709551616) (hv0 : -9223372036854775808 ≤ v) (hv1 : v ≤ 9223372036854775807) (hl : ∀ e ∈ l, EntB e) (ha : right (savedS s t v l) = false) :
    makes s (out s t v l) = none ∨ makes s (out s t v l) = some (savedS s t v l) := by
  rw [makes_out h ht hv0 hv1 hl]
  split
  · exact .inr rfl
  · exact .inl rfl

/-! ### Each first part of a Save's records makes a state -/
def Runs (s : Sta) (l : List (List UInt8)) : Prop := ∀ k, ∃ x, makes s (l.take k) = some x ∧ right x = true
theorem Runs.nil {s : Sta} (h : right s = true) : Runs s [] := fun k => ⟨s, by simp [makes], h⟩
theorem Runs.cons {s s1 : Sta} {b : List UInt8} {l : List (List UInt8)} (h : right s = true) (hb : say s (str b) = (s1, true)) (hr : Runs s1 l) : Runs s (b :: l) := fun k => by
  cases k with
  | zero => exact ⟨s, by simp [makes], h⟩
  | succ k =>
    obtain ⟨x, h1, h2⟩ := hr k
    exact ⟨x, by simp only [List.take_succ_cons, makes, hb, if_true]; exact h1, h2⟩
theorem Runs.ents : ∀ (l : List Ent) {s : Sta}, (∀ e ∈ l, EntB e) → right { s with es := s.es ++ l } = true → Runs s (l.map recEnt)
  | [], s, _, hr => Runs.nil (by simpa using hr)
  | e :: l, s, h, hr => by
    obtain ⟨⟨h1, h2⟩, h3⟩ := right_iff.1 hr
    simp only at h1 h2 h3
    have hs : right s = true := right_iff.2 ⟨⟨h1, by rw [follow_append, Bool.and_eq_true] at h2; exact h2.1⟩, h3⟩
    have ho : entOk e = true := List.all_eq_true.1 (entOk_of hr) e (by simp)
    obtain ⟨a, b⟩ := say_ent (s := s) (h e (by simp))
    refine Runs.cons (s1 := { s with es := s.es ++ [e] }) hs ?_ (Runs.ents l (fun x hx => h x (by simp [hx])) (by simpa using hr))
    rw [← b ho, ← ho, ← a]
theorem runs_out {s : Sta} (h : right s = true) {t : Nat} {v : Int} {l : List Ent} (ht : t < 18446744073709551616) (hv0 : -9223372036854775808 ≤ v) (hv1 : v ≤ 9223372036854775807) (hl : ∀ e ∈ l, EntB e) (ha : right (savedS s t v l) = true) : Runs s (out s t v l) := by
  obtain ⟨⟨h1, h2⟩, h3⟩ := right_iff.1 h
  have hv : voteB v = true := (right_iff.1 ha).2
  obtain ⟨k, _, hk, _⟩ := ahead_take h2 l
  have hch : chained (stayE s l) s.snap.idx s.snap.term = true := by rw [hk]; exact follow_take h2 k
  have hE : Runs { s with term := t, vote := v, es := stayE s l } (l.map recEnt) := Runs.ents l hl ha
  have hr1 : right { s with term := t, vote := v } = true := right_iff.2 ⟨⟨h1, h2⟩, hv⟩
  have hC : Runs { s with term := t, vote := v } (cuts s l ++ l.map recEnt) := by
    cases l with
    | nil => exact hE
    | cons e r =>
      unfold cuts
      simp only
      by_cases hi : e.idx ≤ (lasts s.es s.snap.idx s.snap.term).1
      · rw [if_pos hi]
        exact Runs.cons hr1 (say_cut (hl e (by simp)).idx) hE
      · rw [if_neg hi]
        have : stayE s (e :: r) = s.es := cut_all h2 (by omega)
        rw [this] at hE
        exact hE
  unfold out hards
  by_cases hh : t = s.term ∧ v = s.vote
  · obtain ⟨rfl, rfl⟩ := hh
    rw [if_pos ⟨rfl, rfl⟩]
    exact hC
  · rw [if_neg hh]
    obtain ⟨a, b⟩ := say_hard (s := s) ht hv0 hv1
    exact Runs.cons h (by rw [← b hv, ← hv, ← a]) hC

/-! ### All of a state -/
theorem makes_all {c : Nat} {s : Sta} (hb : StaB s) (h : right s = true) (hd : s.snap.data.size ≤ 65536) : makes (first c) (allOf s) = some s := by
  obtain ⟨⟨h1, h2⟩, h3⟩ := right_iff.1 h
  obtain ⟨a, b⟩ := say_hard (s := first c) hb.term hb.v0 hb.v1
  unfold allOf
  simp only [makes]
  rw [a, if_pos h3, b h3, say_snap hb.snap hd]
  simp only [if_true]
  rw [makes_ents _ _ hb.ents, entOk_of h, if_pos rfl]
  rfl
theorem said_all {c : Nat} {s : Sta} (hb : StaB s) (h : right s = true) (hd : s.snap.data.size ≤ 65536) : said c (allOf s) = some s := by
  unfold said
  rw [makes_all hb h hd]
  simp only
  rw [if_pos h]
theorem after_b {s : Sta} (h : StaB s) {t : Nat} {v : Int} {l : List Ent} (ht : t < 18446744073709551616) (hv0 : -9223372036854775808 ≤ v) (hv1 : v ≤ 9223372036854775807) (hl : ∀ e ∈ l, EntB e) : StaB (savedS s t v l) := by
  refine ⟨ht, hv0, hv1, h.snap, fun e he => ?_⟩
  simp only [savedS, List.mem_append] at he
  rcases he with he | he
  · cases l with
    | nil => exact h.ents e he
    | cons x r => exact h.ents e ((List.takeWhile_sublist _).subset he)
  · exact hl e he
theorem ahead_len (s : Sta) (l : List Ent) : (stayE s l).length ≤ s.es.length := by
  cases l with
  | nil => exact Nat.le_refl _
  | cons x r => exact (List.takeWhile_sublist (l := s.es) _).length_le
theorem after_len (s : Sta) (t : Nat) (v : Int) (l : List Ent) : (savedS s t v l).es.length ≤ s.es.length + l.length := by
  have := ahead_len s l
  simp only [savedS, List.length_append]
  omega
theorem hards_len (s : Sta) (t : Nat) (v : Int) : (hards s t v).length ≤ 1 := by unfold hards; split <;> simp
theorem cuts_len (s : Sta) (l : List Ent) : (cuts s l).length ≤ 1 := by
  cases l with
  | nil => simp [cuts]
  | cons e r => unfold cuts; simp only; split <;> simp
theorem out_len (s : Sta) (t : Nat) (v : Int) (l : List Ent) : (out s t v l).length ≤ l.length + 2 := by
  have h1 := hards_len s t v
  have h2 := cuts_len s l
  unfold out
  simp only [List.length_append, List.length_map]
  omega

/-! ### Calls of a store -/
noncomputable def ssave (m : M) (n : Int) (s : Sta) (t : Nat) (v : Int) (l : List Ent) : Int × (M × Sta) :=
  if right (savedS s t v l) = true then
    (if out s t v l = [] then (0, (m, savedS s t v l)) else
      (if (wappend m n (out s t v l)).1 = 0 then (0, ((wappend m n (out s t v l)).2, savedS s t v l)) else ((wappend m n (out s t v l)).1, ((wappend m n (out s t v l)).2, s))))
  else (1, (m, s))
def okAnew (x : Sta) : Bool := right x && decide (x.snap.data.size ≤ 32768)
noncomputable def sanew (m : M) (n : Int) (s x : Sta) : Int × (M × Sta) :=
  if okAnew x = true then (if (wanew m n (allOf x)).1 = 0 then (0, ((wanew m n (allOf x)).2, x)) else ((wanew m n (allOf x)).1, ((wanew m n (allOf x)).2, s)))
  else (1, (m, s))
noncomputable def sopen (m : M) (n : Int) (c : Nat) : (Int × Sta) × M :=
  if sound c = false then ((1, first c), m)
  else if (wopen m n).1.1 = 0 then (match said c (wopen m n).1.2 with
    | none => ((2, first c), (wopen m n).2)
    | some s => ((0, s), (wopen m n).2))
  else (((wopen m n).1.1, first c), (wopen m n).2)
theorem after_same {s : Sta} {t : Nat} {v : Int} {l : List Ent} (h : out s t v l = []) : savedS s t v l = s := by
  unfold out at h
  simp only [List.append_eq_nil_iff, List.map_eq_nil_iff] at h
  obtain ⟨h1, _, rfl⟩ := h
  unfold hards at h1
  split at h1
  · rename_i e
    obtain ⟨rfl, rfl⟩ := e
    unfold savedS stayE
    simp
  · cases h1
end Go.Proofs.YtamncdpeklbhlaaDoor.Sav
namespace Go.Proofs.YtamncdpeklbhlaaDoor.Ents
open Go.RowKit Go.Proofs.YtamncdpeklbhlaaDoor.Kit Go.Proofs.YtamncdpeklbhlaaDoor.Blocks Go.Proofs.YtamncdpeklbhlaaDoor.Rlog

def entCs (e : Ent) : List Value := [.int .u64 (e.term : Int), .int .u64 (e.idx : Int), .int .i64 e.kind, .string e.data]
def ecells (l : List Ent) : List Value := l.flatMap entCs
theorem ecells_nil : ecells [] = [] := rfl
theorem ecells_cons (e : Ent) (l : List Ent) : ecells (e :: l) = entCs e ++ ecells l := rfl
theorem ecells_append (l r : List Ent) : ecells (l ++ r) = ecells l ++ ecells r := by simp [ecells]
theorem ecells_one_ent (e : Ent) : ecells [e] = entCs e := by simp [ecells]
theorem ecells_length (l : List Ent) : (ecells l).length = l.length * 4 := by
  induction l with
  | nil => rfl
  | cons e l ih => rw [ecells_cons, List.length_append, ih]; simp [entCs]; omega
theorem ecells_take (l : List Ent) (k : Nat) : ecells (l.take k) = (ecells l).take (k * 4) := by
  induction l generalizing k with
  | nil => simp [ecells]
  | cons e l ih =>
    cases k with
    | zero => simp [ecells]
    | succ k =>
      rw [List.take_succ_cons, ecells_cons, ecells_cons, ih, List.take_append, List.take_of_length_le (l := entCs e) (by show 4 ≤ _; omega)]
      show _ = _ ++ List.take ((k + 1) * 4 - 4) _
      rw [show (k + 1) * 4 - 4 = k * 4 by omega]
theorem ecells_drop (l : List Ent) (k : Nat) : ecells (l.drop k) = (ecells l).drop (k * 4) := by
  induction l generalizing k with
  | nil => simp [ecells]
  | cons e l ih =>
    cases k with
    | zero => simp
    | succ k =>
      rw [List.drop_succ_cons, ecells_cons, ih, List.drop_append, List.drop_of_length_le (l := entCs e) (by show 4 ≤ _; omega), List.nil_append]
      show _ = List.drop ((k + 1) * 4 - 4) _
      rw [show (k + 1) * 4 - 4 = k * 4 by omega]
theorem ecells_get (l : List Ent) (k j : Nat) (e : Ent) (h : l[k]? = some e) (hj : j < 4) : (ecells l)[k * 4 + j]? = (entCs e)[j]? := by
  obtain ⟨hk, rfl⟩ := List.getElem?_eq_some_iff.1 h
  have h1 : (ecells (l.drop k))[j]? = (ecells l)[k * 4 + j]? := by rw [ecells_drop, List.getElem?_drop]
  rw [← h1, List.drop_eq_getElem_cons hk, ecells_cons, List.getElem?_append_left (by show j < 4; exact hj)]
theorem entCs_one (e : Ent) : ∀ u ∈ entCs e, u.oneCell' = true := by
  intro u hu
  simp only [entCs, List.mem_cons, List.not_mem_nil, or_false] at hu
  rcases hu with rfl | rfl | rfl | rfl <;> rfl
theorem ecells_one (l : List Ent) : ∀ u ∈ ecells l, u.oneCell' = true := by
  intro u hu
  obtain ⟨e, _, he⟩ := List.mem_flatMap.1 hu
  exact entCs_one e u he

/-- The slice with address A and n elements holds these entries. -/
abbrev RE (w : World) (B : Nat) (A : Option Addr) (n : Nat) (l : List Ent) : Prop := Reads w B 4 A n (ecells l)
/-- An entry lies at these four cells. -/
structure Four (w : World) (b o : Nat) (e : Ent) : Prop where
  c0 : w.cell? ⟨b, o, none⟩ = some (.int .u64 (e.term : Int))
  c1 : w.cell? ⟨b, o + 1, none⟩ = some (.int .u64 (e.idx : Int))
  c2 : w.cell? ⟨b, o + 2, none⟩ = some (.int .i64 e.kind)
  c3 : w.cell? ⟨b, o + 3, none⟩ = some (.string e.data)
/-- s[k:..]: where it points. -/
def cut4 (A : Option Addr) (c k : Nat) : Option Addr := if c = k then A else A.map (·.add (k * 4))

section
variable {w w' : World} {B n : Nat} {A : Option Addr} {l : List Ent}
theorem RE.len (h : RE w B A n l) : l.length = n := by have := h.1; rw [ecells_length] at this; omega
theorem RE.spot {ad : Addr} (h : RE w B (some ad) n l) (hn : 0 < n) : ad = ⟨ad.block, ad.off, none⟩ := by
  obtain ⟨ad', e, _, hc⟩ := h.2 hn
  cases e
  have hl := RE.len h
  have h0 := hc 0 _ (by rw [ecells_get l 0 0 l[0] (List.getElem?_eq_getElem (by omega)) (by omega)]; rfl)
  rw [add_zero] at h0
  have hs := World.cell?_spot h0
  obtain ⟨b, o, s⟩ := ad
  have : s = none := hs
  subst this
  rfl
theorem RE.at_ (h : RE w B A n l) {k : Nat} (hk : k < n) : ∃ b o e, A = some ⟨b, o, none⟩ ∧ b < B ∧ l[k]? = some e ∧ Four w b (o + k * 4) e := by
  obtain ⟨ad, rfl, hb, hc⟩ := h.2 (by omega)
  have hsp := RE.spot h (by omega)
  have hl := RE.len h
  have he : l[k]? = some l[k] := List.getElem?_eq_getElem (by omega)
  have hj : ∀ j u, j < 4 → (entCs l[k])[j]? = some u → w.cell? ⟨ad.block, ad.off + (k * 4 + j), none⟩ = some u := fun j u hj hu => by
    have := hc (k * 4 + j) u (by rw [ecells_get l k j _ he hj, hu])
    rw [hsp, Addr.add_lit] at this
    exact this
  refine ⟨ad.block, ad.off, l[k], by rw [← hsp], hb, he, ?_, ?_, ?_, ?_⟩
  · exact hj 0 _ (by omega) rfl
  · exact hj 1 _ (by omega) rfl
  · exact hj 2 _ (by omega) rfl
  · exact hj 3 _ (by omega) rfl
theorem cut4_zero (A : Option Addr) (c : Nat) : cut4 A c 0 = A := by
  unfold cut4
  split
  · rfl
  · cases A <;> simp [add_zero]
theorem RE.part (h : RE w B A n l) {k m cap : Nat} (hk : k ≤ m) (hm : m ≤ n) (hc : n ≤ cap) : RE w B (cut4 A cap k) (m - k) ((l.take m).drop k) := by
  have hl := RE.len h
  refine ⟨by rw [ecells_length]; simp only [List.length_drop, List.length_take]; omega, fun hn => ?_⟩
  obtain ⟨ad, rfl, hb, hcell⟩ := h.2 (by omega)
  unfold cut4
  rw [if_neg (by omega)]
  refine ⟨ad.add (k * 4), rfl, by rw [block_of_add]; exact hb, fun j u hu => ?_⟩
  rw [add_of_add]
  refine hcell _ u ?_
  rw [ecells_drop, ecells_take, List.getElem?_drop, List.getElem?_take] at hu
  split at hu
  · exact hu
  · cases hu
theorem RE.from_ (h : RE w B A n l) {k cap : Nat} (hk : k ≤ n) (hc : n ≤ cap) : RE w B (cut4 A cap k) (n - k) (l.drop k) := by
  have := RE.part h (k := k) (m := n) hk (Nat.le_refl _) hc
  rwa [List.take_of_length_le (by have := RE.len h; omega)] at this
theorem RE.first (h : RE w B A n l) {m : Nat} (hm : m ≤ n) : RE w B A m (l.take m) := by
  have := RE.part h (k := 0) (m := m) (cap := n) (Nat.zero_le _) hm (Nat.le_refl _)
  simpa [cut4_zero] using this
theorem RE.nil (w : World) (B : Nat) (A : Option Addr) : RE w B A 0 [] := ⟨rfl, fun h => absurd h (by omega)⟩
/-- A shorter slice of what is owned. -/
theorem own_take {base c k : Nat} {e : TypeId} (h : w.ownsRow base e 4 (.slice A n c) n (ecells l)) (hk : k ≤ n) : w.ownsRow base e 4 (.slice A k c) k (ecells (l.take k)) := by
  refine ⟨by rw [ecells_take, List.length_take, h.1]; omega, ?_⟩
  rcases h.2 with ⟨hv, hn⟩ | ⟨g, cap, cur, hv, hb, hg, h1, h2, h3, h4⟩
  · cases hv
    exact .inl ⟨by rw [show k = 0 by omega], by omega⟩
  · injection hv with hA _ hc
    subst hA hc
    refine .inr ⟨g, c, cur, rfl, hb, hg, by omega, h2, h3, ?_⟩
    rw [ecells_take, ← h4, List.take_take]
    congr 1
    omega
end

section
variable {P : Program}
theorem run_from4 (t e : TypeId) (ht : P.underlying t = some (.slice e)) (hz : ∀ w, (Go.sizeOf e).run P w = .ok 4 w) (A : Option Addr) (n c k : Nat) (hk : k ≤ n) (w : World) :
    (Instr.slice t (.slice A n c) (some (.int .i64 (k : Int))) none none).run P w = .ok (.slice (cut4 A c k) (n - k) (c - k)) w := by
  have ht' : P.underlying t = some (.slice (P.elem t)) := by simp [Program.elem, ht]
  have he : P.elem t = e := by simp [Program.elem, ht]
  rw [run_slice_l w t _ _ _ ht' .i64 _ (by omega) (by omega), he, hz]
  simp [Result.andThen, sliced, cut4]
theorem run_part4 (t e : TypeId) (ht : P.underlying t = some (.slice e)) (hz : ∀ w, (Go.sizeOf e).run P w = .ok 4 w) (A : Option Addr) (n c j k : Nat) (hj : j ≤ k) (hk : k ≤ c) (w : World) :
    (Instr.slice t (.slice A n c) (some (.int .i64 (j : Int))) (some (.int .i64 (k : Int))) none).run P w = .ok (.slice (cut4 A c j) (k - j) (c - j)) w := by
  have ht' : P.underlying t = some (.slice (P.elem t)) := by simp [Program.elem, ht]
  have he : P.elem t = e := by simp [Program.elem, ht]
  rw [run_slice_lh w t _ _ _ ht' .i64 .i64 _ _ (by omega) (by omega) (by omega), he, hz]
  simp [Result.andThen, sliced, cut4]
end
theorem sz4 (w : World) : (Go.sizeOf 55).run Tryd.prog w = .ok 4 w := by kernel_rfl
theorem infoE : (Tryd.prog.info? 55).map (fun i => (i.zero, i.size, i.bytes)) = some (some (.agg #[.int .u64 0, .int .u64 0, .int .i64 0, .string .empty]), 4, 40) := by kernel_rfl
end Go.Proofs.YtamncdpeklbhlaaDoor.Ents
namespace Go.Proofs.YtamncdpeklbhlaaDoor.LogAt
open Go.RowKit Go.Proofs.YtamncdpeklbhlaaDoor.Kit Go.Proofs.YtamncdpeklbhlaaDoor.Blocks Go.Proofs.YtamncdpeklbhlaaDoor.Rlog Go.Proofs.YtamncdpeklbhlaaDoor.Ents

/-- Block p, of type T, is a log: g; its entries' slice is v; both lie from block B on. -/
structure LogAt (T : TypeId) (B : Nat) (w : World) (p : Nat) (v : Value) (g : G) : Prop where
  low : B ≤ p
  cell : w.heap[p]? = some (.cells #[.int .u64 (g.snap.idx : Int), .int .u64 (g.snap.term : Int), .int .u64 (g.snap.cfg : Int), .string g.snap.data, v] T (0, 0))
  own : w.ownsRow B 55 4 v g.es.length (ecells g.es)
  ne : v.ownBlock ≠ some p
/-- The blocks of a log. -/
def Foot (p : Nat) (v : Value) (k : Nat) : Prop := k = p ∨ v.ownBlock = some k
/-- What a call that changes a log leaves. -/
def LeftL (T : TypeId) (B : Nat) (w : World) (p : Nat) (v : Value) (g' : G) (w' : World) : Prop :=
  ∃ v', LogAt T B w' p v' g' ∧ Only (Foot p v) w w' ∧ ∀ k, v'.ownBlock = some k → v.ownBlock = some k ∨ w.heap.size ≤ k

section
variable {T : TypeId} {B : Nat} {w w' w1 : World} {p : Nat} {v v1 : Value} {g g' g'' : G}
theorem LogAt.lt (h : LogAt T B w p v g) : p < w.heap.size := lt_at h.cell
theorem LogAt.base (h : LogAt T B w p v g) : B ≤ w.heap.size := by have := h.lt; have := h.low; omega
theorem LogAt.c0 (h : LogAt T B w p v g) : w.cell? ⟨p, 0, none⟩ = some (.int .u64 (g.snap.idx : Int)) := by rw [cell_at h.cell]; rfl
theorem LogAt.c1 (h : LogAt T B w p v g) : w.cell? ⟨p, 1, none⟩ = some (.int .u64 (g.snap.term : Int)) := by rw [cell_at h.cell]; rfl
theorem LogAt.c2 (h : LogAt T B w p v g) : w.cell? ⟨p, 2, none⟩ = some (.int .u64 (g.snap.cfg : Int)) := by rw [cell_at h.cell]; rfl
theorem LogAt.c3 (h : LogAt T B w p v g) : w.cell? ⟨p, 3, none⟩ = some (.string g.snap.data) := by rw [cell_at h.cell]; rfl
theorem LogAt.c4 (h : LogAt T B w p v g) : w.cell? ⟨p, 4, none⟩ = some v := by rw [cell_at h.cell]; rfl
theorem LogAt.row_lt (h : LogAt T B w p v g) {k : Nat} (hk : v.ownBlock = some k) : B ≤ k ∧ k < w.heap.size := h.own.lt k hk
theorem LogAt.foot_lt (h : LogAt T B w p v g) {k : Nat} (hk : Foot p v k) : B ≤ k ∧ k < w.heap.size := by
  rcases hk with rfl | hk
  · exact ⟨h.low, h.lt⟩
  · exact h.row_lt hk
/-- Its slice. -/
theorem LogAt.form (h : LogAt T B w p v g) : ∃ A c, v = .slice A g.es.length c ∧ g.es.length ≤ c ∧ c ≤ 9223372036854775807 ∧ RE w w.heap.size A g.es.length g.es := by
  obtain ⟨A, c, hv, h1, h2, h3⟩ := own_form h.own
  unfold maxLen at h2
  exact ⟨A, c, hv, h1, by omega, h3⟩
/-- A log stays where its blocks do. -/
theorem LogAt.keep (h : LogAt T B w p v g) {S : Nat → Prop} (k : Only S w w') (hs : ∀ q, Foot p v q → ¬ S q) : LogAt T B w' p v g :=
  ⟨h.low, k.heap h.cell (hs p (.inl rfl)), k.own h.own fun q hq => hs q (.inr hq), h.ne⟩
theorem LogAt.below (h : LogAt T B w p v g) (k : Below w.heap.size w w') : LogAt T B w' p v g := h.keep (S := fun _ => False) (Only.of_below k) (by simp)
theorem LogAt.drew (h : LogAt T B w p v g) : LogAt T B w.drew p v g := h.below ((Below.refl _ _).drew)
theorem LogAt.lower (h : LogAt T B w p v g) {B' : Nat} (hb : B' ≤ B) : LogAt T B' w p v g := ⟨Nat.le_trans hb h.low, h.cell, own_base h.own hb, h.ne⟩
/-- Other entries are laid behind a log's snapshot. -/
theorem LogAt.rowed (h : LogAt T B w p v g) {n : Nat} {xs : List Value} {es : List Ent} (k : Only (fun q => v.ownBlock = some q) w w1) (hown : w1.ownsRow B 55 4 v1 n xs) (hn : n = es.length) (hx : xs = ecells es)
    (hat : ∀ q, v1.ownBlock = some q → v.ownBlock = some q ∨ w.heap.size ≤ q) :
    w1.cell? ⟨p, 4, none⟩ = some v ∧ w1.frozen? ⟨p, 4, none⟩ = false ∧ LeftL T B w p v { g with es := es } (w1.setCell ⟨p, 4, none⟩ v1) := by
  subst hn hx
  have hc := k.heap h.cell h.ne
  have hne : v1.ownBlock ≠ some p := fun e => by
    rcases hat p e with e1 | e1
    · exact h.ne e1
    · have := h.lt; omega
  have hset : Only (fun q => q = p) w1 (w1.setCell ⟨p, 4, none⟩ v1) := (Only.refl (fun q => q = p) w1).setCell (a := ⟨p, 4, none⟩) (.inr rfl) v1
  refine ⟨by rw [cell_at hc]; rfl, free_at hc 4, v1, ⟨h.low, by rw [set_at hc]; rfl, hset.own hown fun q hq e => hne (e ▸ hq), hne⟩, ?_, hat⟩
  exact (k.mono fun q _ hq => .inr hq).trans (hset.mono fun q _ hq => .inl hq)
/-- Another snapshot is laid upto of a log's entries. -/
theorem LogAt.snapped (h : LogAt T B w p v g) (s : Snap) :
    LeftL T B w p v { g with snap := s } ((((w.setCell ⟨p, 0, none⟩ (.int .u64 (s.idx : Int))).setCell ⟨p, 1, none⟩ (.int .u64 (s.term : Int))).setCell ⟨p, 2, none⟩ (.int .u64 (s.cfg : Int))).setCell ⟨p, 3, none⟩ (.string s.data)) := by
  have hk : Only (fun q => q = p) w ((((w.setCell ⟨p, 0, none⟩ (.int .u64 (s.idx : Int))).setCell ⟨p, 1, none⟩ (.int .u64 (s.term : Int))).setCell ⟨p, 2, none⟩ (.int .u64 (s.cfg : Int))).setCell ⟨p, 3, none⟩ (.string s.data)) :=
    ((((Only.refl (fun q => q = p) w).setCell (a := ⟨p, 0, none⟩) (.inr rfl) _).setCell (a := ⟨p, 1, none⟩) (.inr rfl) _).setCell (a := ⟨p, 2, none⟩) (.inr rfl) _).setCell (a := ⟨p, 3, none⟩) (.inr rfl) _
  refine ⟨v, ⟨h.low, ?_, hk.own h.own fun q hq e => h.ne (e ▸ hq), h.ne⟩, hk.mono fun q _ hq => .inl hq, fun q hq => .inl hq⟩
  rw [set_at (set_at (set_at (set_at h.cell _) _) _) _]
  rfl
theorem LeftL.refl (h : LogAt T B w p v g) : LeftL T B w p v g w := ⟨v, h, Only.refl _ w, fun _ hk => .inl hk⟩
theorem LeftL.of_below (h : LogAt T B w p v g) (k : Below w.heap.size w w') : LeftL T B w p v g w' := ⟨v, h.below k, Only.of_below k, fun _ hk => .inl hk⟩
/-- A call behind a call. -/
theorem LeftL.then {v' : Value} (k1 : Only (Foot p v) w w1) (hf : ∀ k, v'.ownBlock = some k → v.ownBlock = some k ∨ w.heap.size ≤ k) (k2 : LeftL T B w1 p v' g'' w') : LeftL T B w p v g'' w' := by
  obtain ⟨v2, h2, o2, f2⟩ := k2
  refine ⟨v2, h2, k1.trans' o2 fun q hq => ?_, fun q hq => ?_⟩
  · rcases hq with rfl | hq
    · exact .inl (.inl rfl)
    · exact (hf q hq).imp .inr id
  · rcases f2 q hq with h | h
    · exact hf q h
    · exact .inr (Nat.le_trans k1.size h)
theorem LeftL.afterBelow (k1 : Below w.heap.size w w1) (k2 : LeftL T B w1 p v g'' w') : LeftL T B w p v g'' w' :=
  LeftL.then (Only.of_below k1) (fun _ h => .inl h) k2
theorem LeftL.thenBelow (k1 : LeftL T B w p v g w1) (k2 : Below w1.heap.size w1 w') : LeftL T B w p v g w' := by
  obtain ⟨v1, h1, o1, f1⟩ := k1
  exact ⟨v1, h1.below k2, o1.thenBelow k2, f1⟩
/-- A block of the call's own is written behind that. -/
theorem LeftL.boxed {w2 w3 w4 : World} (h : LogAt T B w p v g) (hb : Below w.heap.size w w2) (k : LeftL T B w2 p v g' w3) {r : Nat} (hr0 : w.heap.size ≤ r) (hr1 : r < w2.heap.size) (o : Only (fun q => q = r) w3 w4) : LeftL T B w p v g' w4 := by
  obtain ⟨v', h', o', f'⟩ := k
  have hv : ∀ q, v'.ownBlock = some q → q ≠ r := fun q hq e => by
    rcases f' q hq with h1 | h1
    · have := (h.row_lt h1).2; omega
    · omega
  refine ⟨v', h'.keep o fun q hq e => ?_, ?_, fun q hq => ?_⟩
  · rcases hq with rfl | hq
    · have := h.lt; omega
    · exact hv q hq e
  · exact ((Only.of_below hb).trans o').trans' o fun q hq => .inr (by omega)
  · exact (f' q hq).imp id fun h1 => Nat.le_trans hb.size h1
end
/-- A slice's block is none of these. -/
def Off (S : Nat → Prop) (A : Option Addr) (n : Nat) : Prop := 0 < n → ∀ ad, A = some ad → ¬ S ad.block
theorem Off.cut {S : Nat → Prop} {A : Option Addr} {n : Nat} (h : Off S A n) (c k : Nat) : Off S (cut4 A c k) (n - k) := by
  intro hn ad e
  unfold cut4 at e
  split at e
  · exact h (by omega) ad e
  · cases A with
    | none => cases e
    | some a =>
      simp only [Option.map_some, Option.some.injEq] at e
      rw [← e, block_of_add]
      exact h (by omega) a rfl
theorem Off.reads {S : Nat → Prop} {w w' : World} {A : Option Addr} {D size n : Nat} {xs : List Value} (h : Off S A n) (k : Only S w w') (hr : Reads w D size A n xs) (hB : D ≤ w.heap.size) : Reads w' D size A n xs :=
  ⟨hr.1, fun hn => by
    obtain ⟨ad, e, hb, hc⟩ := hr.2 hn
    exact ⟨ad, e, hb, fun j u hu => (k.cell (by rw [block_of_add]; omega) (by rw [block_of_add]; exact h hn ad e)).trans (hc j u hu)⟩⟩
theorem Off.zero (S : Nat → Prop) (A : Option Addr) : Off S A 0 := fun h => absurd h (by omega)
theorem Off.more {A : Option Addr} {n a b : Nat} (h : Off (fun k => k < a) A n) (hb : b ≤ a) : Off (fun k => k < b) A n := fun hn ad e hl => h hn ad e (by omega)
/-- A row of the call's own is none that was there. -/
theorem off_own {w : World} {base n c : Nat} {e : TypeId} {A : Option Addr} {xs : List Value} (h : w.ownsRow base e 4 (.slice A n c) n xs) : Off (fun k => k < base) A n := by
  intro hn ad ha hl
  rcases h.2 with ⟨_, h0⟩ | ⟨g, cap, cur, hv, hb, _⟩
  · omega
  · injection hv with hA _ _
    rw [hA] at ha
    cases ha
    simp only at hl
    omega
theorem off_low {T : TypeId} {B p n : Nat} {v : Value} {g : G} {w : World} {A : Option Addr} {xs : List Value} (h : LogAt T B w p v g) (hr : Reads w B 4 A n xs) : Off (Foot p v) A n := by
  intro hn ad e hf
  obtain ⟨ad', e', hb, _⟩ := hr.2 hn
  rw [e] at e'
  cases e'
  have := (h.foot_lt hf).1
  omega
end Go.Proofs.YtamncdpeklbhlaaDoor.LogAt
set_option linter.unusedVariables false
namespace Go.Proofs.YtamncdpeklbhlaaDoor.App
open Go.RowKit Go.Proofs.YtamncdpeklbhlaaDoor.Kit Go.Proofs.YtamncdpeklbhlaaDoor.Blocks Go.Proofs.YtamncdpeklbhlaaDoor.Rlog Go.Proofs.YtamncdpeklbhlaaDoor.Ents Go.Proofs.YtamncdpeklbhlaaDoor.LogAt

section
variable {B n m c : Nat} {A : Option Addr} {v : Value} {xs news : List Value}
theorem run_app (w : World) (base : Nat) (hown : w.ownsRow base 55 4 v n xs) (hr : Reads w B 4 A m news) (h1 : ∀ u ∈ news, u.oneCell' = true) (hb : (n + m) * 40 ≤ 140737488355328) (hbase : base ≤ w.heap.size) (ty : TypeId) :
    ∃ A' c' w', (Builtin.append_ #[35, 35] ty #[v, .slice A m c]).run Tryd.prog w = .ok (.slice A' (n + m) c') w' ∧ w'.ownsRow base 55 4 (.slice A' (n + m) c') (n + m) (xs ++ news) ∧ w.grownBy w' v.ownBlock ∧
      ((Value.slice A' (n + m) c').ownBlock = v.ownBlock ∨ (Value.slice A' (n + m) c').ownBlock = some w.heap.size) := by
  obtain ⟨i0, hi0, hz0, hz1, hz2⟩ := info_parts infoE
  obtain ⟨v', w', hrun, h2, h3, h4⟩ := run_append_any (P := Tryd.prog) w base 35 ty 55 i0 _ 4 40 Tryd.underlying35 hi0 hz0 hz1 hz2 rfl (by decide) v n xs hown B A m c news hr h1 (by unfold maxLen; omega) hb hbase
  obtain ⟨A', c', rfl, _, _, _⟩ := own_form h2
  exact ⟨A', c', w', hrun, h2, h3, h4⟩
theorem wp_app {o : Oper} {a : Act} {K : Act → World → Prop} {Q : Exit → Act → World → Prop} (w : World) (s x : Operand) 
    (ho : o.op = .call { callee := .builtin .append, args := #[s, x], argTypes := #[35, 35] })
    (base : Nat) (hs : a.eval s = v) (hown : w.ownsRow base 55 4 v n xs) (hx : a.eval x = .slice A m c) (hr : Reads w B 4 A m news) (h1 : ∀ u ∈ news, u.oneCell' = true) (hb : (n + m) * 40 ≤ 140737488355328) (hbase : base ≤ w.heap.size)
    (h : ∀ A' c' w', w'.ownsRow base 55 4 (.slice A' (n + m) c') (n + m) (xs ++ news) → w.grownBy w' v.ownBlock →
      ((Value.slice A' (n + m) c').ownBlock = v.ownBlock ∨ (Value.slice A' (n + m) c').ownBlock = some w.heap.size) → K (a.put o.dst (.slice A' (n + m) c')) w') : o.wp Tryd.prog a w K Q := by
  obtain ⟨A', c', w', hrun, h2, h3, h4⟩ := run_app (c := c) w base hown hr h1 hb hbase o.type
  unfold Oper.wp execOp
  simp only [ho, resolve, invoke, builtin, Sem.run_bind, Sem.run_pure, Result.andThen_ok, List.map_toArray, List.map_cons, List.map_nil, hs, hx, hrun]
  exact h A' c' w' h2 h3 h4
theorem wpList_app {ops : Array Oper} {rest : List Oper} {o : Oper} {a : Act} {Q : Exit → Act → World → Prop} (w : World) (hgd : o.guard = none) (s x : Operand) 
    (ho : o.op = .call { callee := .builtin .append, args := #[s, x], argTypes := #[35, 35] })
    (base : Nat) (hs : a.eval s = v) (hown : w.ownsRow base 55 4 v n xs) (hx : a.eval x = .slice A m c) (hr : Reads w B 4 A m news) (h1 : ∀ u ∈ news, u.oneCell' = true) (hb : (n + m) * 40 ≤ 140737488355328) (hbase : base ≤ w.heap.size)
    (h : ∀ A' c' w', w'.ownsRow base 55 4 (.slice A' (n + m) c') (n + m) (xs ++ news) → w.grownBy w' v.ownBlock →
      ((Value.slice A' (n + m) c').ownBlock = v.ownBlock ∨ (Value.slice A' (n + m) c').ownBlock = some w.heap.size) → wpList Tryd.prog ops Q rest (a.put o.dst (.slice A' (n + m) c')) w') : wpList Tryd.prog ops Q (o :: rest) a w :=
  wpList_plain hgd fun _ hK => wp_app w s x ho base hs hown hx hr h1 hb hbase fun A' c' w' h2 h3 h4 => hK _ _ (h A' c' w' h2 h3 h4)
theorem step_app {ops : Array Oper} {o : Oper} {a : Act} {K : Act → World → Prop} {Q : Exit → Act → World → Prop} {E : Prop} (w : World) (hgd : o.guard = none) (s x : Operand) 
    (ho : o.op = .call { callee := .builtin .append, args := #[s, x], argTypes := #[35, 35] })
    (base : Nat) (hs : a.eval s = v) (hown : w.ownsRow base 55 4 v n xs) (hx : a.eval x = .slice A m c) (hr : Reads w B 4 A m news) (h1 : ∀ u ∈ news, u.oneCell' = true) (hb : (n + m) * 40 ≤ 140737488355328) (hbase : base ≤ w.heap.size)
    (h : ∀ A' c' w', w'.ownsRow base 55 4 (.slice A' (n + m) c') (n + m) (xs ++ news) → w.grownBy w' v.ownBlock →
      ((Value.slice A' (n + m) c').ownBlock = v.ownBlock ∨ (Value.slice A' (n + m) c').ownBlock = some w.heap.size) → K (a.put o.dst (.slice A' (n + m) c')) w') :
    if Region.wanted o (yielded ops a.tmps) = true then Oper.wp Tryd.prog o a w K Q else E := by
  have hw : Region.wanted o (yielded ops a.tmps) = true := by simp [Region.wanted, hgd]
  rw [if_pos hw]
  exact wp_app w s x ho base hs hown hx hr h1 hb hbase h
/-- Appended onto nothing: a new row. -/
theorem wp_new {o : Oper} {a : Act} {K : Act → World → Prop} {Q : Exit → Act → World → Prop} (w : World) (s x : Operand)
    (ho : o.op = .call { callee := .builtin .append, args := #[s, x], argTypes := #[35, 35] })
    (base : Nat) (hs : a.eval s = .slice none 0 0) (hx : a.eval x = .slice A m c) (hr : Reads w B 4 A m news) (h1 : ∀ u ∈ news, u.oneCell' = true) (hb : m * 40 ≤ 140737488355328) (hbase : base ≤ w.heap.size)
    (h : ∀ A' c' w', w'.ownsRow base 55 4 (.slice A' m c') m news → Below w.heap.size w w' → (∀ q, (Value.slice A' m c').ownBlock = some q → w.heap.size ≤ q) → K (a.put o.dst (.slice A' m c')) w') : o.wp Tryd.prog a w K Q := by
  refine wp_app (v := .slice none 0 0) (n := 0) (xs := []) w s x ho base hs (World.ownsRow_nil _ _ _ _) hx hr h1 (by omega) hbase fun A' c' w' h2 h3 h4 => ?_
  have h := h A' c' w'
  rw [Nat.zero_add] at h2 h4 ⊢
  refine h h2 ((Below.refl _ w).grown h3 (Nat.le_refl _) (by simp [Value.ownBlock])) fun q hq => ?_
  rcases h4 with e | e
  · rw [hq] at e; cases e
  · rw [hq] at e; cases e; exact Nat.le_refl _
theorem wpList_new {ops : Array Oper} {rest : List Oper} {o : Oper} {a : Act} {Q : Exit → Act → World → Prop} (w : World) (hgd : o.guard = none) (s x : Operand)
    (ho : o.op = .call { callee := .builtin .append, args := #[s, x], argTypes := #[35, 35] })
    (base : Nat) (hs : a.eval s = .slice none 0 0) (hx : a.eval x = .slice A m c) (hr : Reads w B 4 A m news) (h1 : ∀ u ∈ news, u.oneCell' = true) (hb : m * 40 ≤ 140737488355328) (hbase : base ≤ w.heap.size)
    (h : ∀ A' c' w', w'.ownsRow base 55 4 (.slice A' m c') m news → Below w.heap.size w w' → (∀ q, (Value.slice A' m c').ownBlock = some q → w.heap.size ≤ q) → wpList Tryd.prog ops Q rest (a.put o.dst (.slice A' m c')) w') : wpList Tryd.prog ops Q (o :: rest) a w :=
  wpList_plain hgd fun _ hK => wp_new w s x ho base hs hx hr h1 hb hbase fun A' c' w' h2 h3 h4 => hK _ _ (h A' c' w' h2 h3 h4)
theorem step_new {ops : Array Oper} {o : Oper} {a : Act} {K : Act → World → Prop} {Q : Exit → Act → World → Prop} {E : Prop} (w : World) (hgd : o.guard = none) (s x : Operand)
    (ho : o.op = .call { callee := .builtin .append, args := #[s, x], argTypes := #[35, 35] })
    (base : Nat) (hs : a.eval s = .slice none 0 0) (hx : a.eval x = .slice A m c) (hr : Reads w B 4 A m news) (h1 : ∀ u ∈ news, u.oneCell' = true) (hb : m * 40 ≤ 140737488355328) (hbase : base ≤ w.heap.size)
    (h : ∀ A' c' w', w'.ownsRow base 55 4 (.slice A' m c') m news → Below w.heap.size w w' → (∀ q, (Value.slice A' m c').ownBlock = some q → w.heap.size ≤ q) → K (a.put o.dst (.slice A' m c')) w') :
    if Region.wanted o (yielded ops a.tmps) = true then Oper.wp Tryd.prog o a w K Q else E := by
  have hw : Region.wanted o (yielded ops a.tmps) = true := by simp [Region.wanted, hgd]
  rw [if_pos hw]
  exact wp_new w s x ho base hs hx hr h1 hb hbase h
end
end Go.Proofs.YtamncdpeklbhlaaDoor.App
set_option linter.unusedVariables false
set_option linter.unusedSimpArgs false
namespace Go.Proofs.YtamncdpeklbhlaaDoor.Hold
open Go.RowKit Go.Proofs.YtamncdpeklbhlaaDoor.Kit Go.Proofs.YtamncdpeklbhlaaDoor.Blocks Go.Proofs.YtamncdpeklbhlaaDoor.Rlog Go.Proofs.YtamncdpeklbhlaaDoor.Sto Go.Proofs.YtamncdpeklbhlaaDoor.Ents
open Go.Proofs.YtamncdpeklbhlaaDoor.State (RV)
open Go.Proofs.YtamncdpeklbhlaaDoor.PckWalkC (gotB restB frontB gotB_lt)
open Go.Proofs.YtamncdpeklbhlaaDoor.PckWalkD (badB)
open Go.Proofs.YtamncdpeklbhlaaDoor.PckWalkE (upV upR upB textV textR textB)

def hardV (t : Nat) (v : Int) : Value := .agg #[.int .u64 (t : Int), .int .i64 v]
def snapV (s : Snap) : Value := .agg #[.int .u64 (s.idx : Int), .int .u64 (s.term : Int), .int .u64 (s.cfg : Int), .string s.data]
/-- A state by value. -/
def staV (s : Sta) (A : Option Addr) (n c : Nat) : Value := .agg #[.int .u64 (s.term : Int), .int .i64 s.vote, .int .u64 (s.snap.idx : Int), .int .u64 (s.snap.term : Int), .int .u64 (s.snap.cfg : Int), .string s.snap.data, .slice A n c]
/-- A state's cells ahead of its slice. -/
def pre (s : Sta) : List Value := [.int .u64 (s.term : Int), .int .i64 s.vote, .int .u64 (s.snap.idx : Int), .int .u64 (s.snap.term : Int), .int .u64 (s.snap.cfg : Int), .string s.snap.data]

/-- Block p, of type T, has these cells, and then a slice v of entries, which are its own; both lie from block B on. -/
structure Hold (T : TypeId) (B : Nat) (w : World) (p : Nat) (ps : List Value) (v : Value) (es : List Ent) : Prop where
  low : B ≤ p
  cell : w.heap[p]? = some (.cells (ps ++ [v]).toArray T (0, 0))
  own : w.ownsRow B 55 4 v es.length (ecells es)
  ne : v.ownBlock ≠ some p
def Foot (p : Nat) (v : Value) (k : Nat) : Prop := k = p ∨ v.ownBlock = some k
section
variable {T : TypeId} {B : Nat} {w w' w1 : World} {p : Nat} {ps : List Value} {v v1 : Value} {es es' : List Ent}
theorem Hold.lt (h : Hold T B w p ps v es) : p < w.heap.size := lt_at h.cell
theorem Hold.base (h : Hold T B w p ps v es) : B ≤ w.heap.size := by have := h.lt; have := h.low; omega
theorem Hold.at_ (h : Hold T B w p ps v es) (i : Nat) {u : Value} (hi : (ps ++ [v])[i]? = some u) : w.cell? ⟨p, i, none⟩ = some u := by rw [cell_at h.cell]; simpa using hi
theorem Hold.free (h : Hold T B w p ps v es) (i : Nat) : w.frozen? ⟨p, i, none⟩ = false := free_at h.cell i
theorem Hold.row_lt (h : Hold T B w p ps v es) {k : Nat} (hk : v.ownBlock = some k) : B ≤ k ∧ k < w.heap.size := h.own.lt k hk
theorem Hold.foot_lt (h : Hold T B w p ps v es) {k : Nat} (hk : Foot p v k) : B ≤ k ∧ k < w.heap.size := by
  rcases hk with rfl | hk
  · exact ⟨h.low, h.lt⟩
  · exact h.row_lt hk
theorem Hold.form (h : Hold T B w p ps v es) : ∃ A c, v = .slice A es.length c ∧ es.length ≤ c ∧ c ≤ 9223372036854775807 ∧ RE w w.heap.size A es.length es := by
  obtain ⟨A, c, hv, h1, h2, h3⟩ := own_form h.own
  unfold maxLen at h2
  exact ⟨A, c, hv, h1, by omega, h3⟩
theorem Hold.keep (h : Hold T B w p ps v es) {S : Nat → Prop} (k : Only S w w') (hs : ∀ q, Foot p v q → ¬ S q) : Hold T B w' p ps v es :=
  ⟨h.low, k.heap h.cell (hs p (.inl rfl)), k.own h.own fun q hq => hs q (.inr hq), h.ne⟩
theorem Hold.below (h : Hold T B w p ps v es) (k : Below w.heap.size w w') : Hold T B w' p ps v es := h.keep (S := fun _ => False) (Only.of_below k) (by simp)
theorem Hold.drew (h : Hold T B w p ps v es) : Hold T B w.drew p ps v es := h.below ((Below.refl _ _).drew)
/-- Another slice of entries is laid. -/
theorem Hold.rowed (h : Hold T B w p ps v es) {n : Nat} {xs : List Value} (k : Only (fun q => v.ownBlock = some q) w w1) (hown : w1.ownsRow B 55 4 v1 n xs) (hn : n = es'.length) (hx : xs = ecells es')
    (hat : ∀ q, v1.ownBlock = some q → v.ownBlock = some q ∨ w.heap.size ≤ q) {i : Nat} (hi : i = ps.length) :
    w1.cell? ⟨p, i, none⟩ = some v ∧ w1.frozen? ⟨p, i, none⟩ = false ∧ Hold T B (w1.setCell ⟨p, i, none⟩ v1) p ps v1 es' ∧ Only (Foot p v) w (w1.setCell ⟨p, i, none⟩ v1) := by
  subst hn hx hi
  have hc := k.heap h.cell h.ne
  have hne : v1.ownBlock ≠ some p := fun e => by
    rcases hat p e with e1 | e1
    · exact h.ne e1
    · have := h.lt; omega
  have hset : Only (fun q => q = p) w1 (w1.setCell ⟨p, ps.length, none⟩ v1) := (Only.refl (fun q => q = p) w1).setCell (a := ⟨p, ps.length, none⟩) (.inr rfl) v1
  refine ⟨by rw [cell_at hc]; simp, free_at hc _, ⟨h.low, by rw [set_at hc]; simp, hset.own hown fun q hq e => hne (e ▸ hq), hne⟩, ?_⟩
  exact (k.mono fun q _ hq => .inr hq).trans (hset.mono fun q _ hq => .inl hq)
/-- Another slice of entries, that lies already, is laid. -/
theorem Hold.laid (h : Hold T B w p ps v es) {n : Nat} {xs : List Value} (hown : w.ownsRow B 55 4 v1 n xs) (hn : n = es'.length) (hx : xs = ecells es') (hne : v1.ownBlock ≠ some p) {i : Nat} (hi : i = ps.length) :
    Hold T B (w.setCell ⟨p, i, none⟩ v1) p ps v1 es' ∧ Only (fun q => q = p) w (w.setCell ⟨p, i, none⟩ v1) := by
  subst hn hx hi
  have hset : Only (fun q => q = p) w (w.setCell ⟨p, ps.length, none⟩ v1) := (Only.refl (fun q => q = p) w).setCell (a := ⟨p, ps.length, none⟩) (.inr rfl) v1
  exact ⟨⟨h.low, by rw [set_at h.cell]; simp, hset.own hown fun q hq e => hne (e ▸ hq), hne⟩, hset⟩
/-- A cell ahead of the slice is set. -/
theorem Hold.set (h : Hold T B w p ps v es) {i : Nat} (u : Value) (hi : i < ps.length) : Hold T B (w.setCell ⟨p, i, none⟩ u) p (ps.set i u) v es ∧ Only (fun q => q = p) w (w.setCell ⟨p, i, none⟩ u) := by
  have hset : Only (fun q => q = p) w (w.setCell ⟨p, i, none⟩ u) := (Only.refl (fun q => q = p) w).setCell (a := ⟨p, i, none⟩) (.inr rfl) u
  refine ⟨⟨h.low, ?_, hset.own h.own fun q hq e => h.ne (e ▸ hq), h.ne⟩, hset⟩
  rw [set_at h.cell]
  congr 2
  rw [List.setIfInBounds_toArray, List.set_append_left _ _ hi]
end

/-- A reader that came behind a world. -/
structure Rds (w0 W : World) (q : Nat) (r : Rd) : Prop where
  at_ : RV 122 W q r.s r.bad
  low : w0.heap.size ≤ q
  bel : Below w0.heap.size w0 W
section
variable {w0 W W' : World} {q : Nat} {r r' : Rd}
theorem Rds.cell (h : Rds w0 W q r) {a : Addr} {v : Value} (hc : w0.cell? a = some v) (ha : a.block < w0.heap.size) : W.cell? a = some v := (h.bel.cell (p := a) ha).trans hc
theorem Rds.drew (h : Rds w0 W q r) : Rds w0 W.drew q r := ⟨h.at_.below ((Below.refl _ _).drew), h.low, h.bel.drew⟩
theorem Rds.next (h : Rds w0 W q r) {s : ByteArray} {b : Bool} {x : Value} {e : Ending} (k : State.Took 122 q s b x W e W') (hs : r'.s = s) (hb : r'.bad = b) : e = .returned x ∧ Rds w0 W' q r' := by
  obtain ⟨he, h1, h2⟩ := k
  refine ⟨he, by rw [hs, hb]; exact h1, h.low, h.bel.trans (h2.below h.bel.size fun k hk => by rw [hk]; exact h.low)⟩
theorem rds_num {g : Nat} (h : Rds w0 W q r) (hs : r.s.size ≤ 281474976710656) (hg : Hid (gotB r.s = g)) (hr : Hid (r.num = r')) :
    Calls Tryd.prog 45 #[.pointer (some ⟨q, 0, none⟩)] W fun e W' => e = .returned (.int .u64 (g : Int)) ∧ Rds w0 W' q r' := by
  refine (PckWalkD.num_any q r.s r.bad W h.at_ (by omega)).mono ?_
  intro e W' k
  rw [hg.out] at k
  exact h.next k (by rw [← hr.out]; rfl) (by rw [← hr.out]; rfl)
theorem rds_up {n : Nat} (k : Int) (h : Rds w0 W q r) (hs : r.s.size ≤ 281474976710656) (hk : k ≤ 9223372036854775807) (hn : Hid (upV r.s k = n)) (hr : Hid (r.up k = r')) :
    Calls Tryd.prog 46 #[.pointer (some ⟨q, 0, none⟩), .int .i64 k] W fun e W' => e = .returned (.int .i64 (n : Int)) ∧ Rds w0 W' q r' := by
  refine (PckWalkE.up_any q r.s r.bad k W h.at_ (by omega) hk).mono ?_
  intro e W' k
  rw [hn.out] at k
  exact h.next k (by rw [← hr.out]; rfl) (by rw [← hr.out]; rfl)
theorem rds_text {x : ByteArray} (k : Int) (h : Rds w0 W q r) (hs : r.s.size ≤ 281474976710656) (hk : k ≤ 9223372036854775807) (hx : Hid (textV r.s k = x)) (hr : Hid (r.text k = r')) :
    Calls Tryd.prog 47 #[.pointer (some ⟨q, 0, none⟩), .int .i64 k] W fun e W' => e = .returned (.string x) ∧ Rds w0 W' q r' := by
  refine (PckWalkE.text_any q r.s r.bad k W h.at_ hs hk).mono ?_
  intro e W' k
  rw [hx.out] at k
  exact h.next k (by rw [← hr.out]; rfl) (by rw [← hr.out]; rfl)
theorem rds_done {b : Bool} (h : Rds w0 W q r) (hb : Hid (r.done = b)) :
    Calls Tryd.prog 49 #[.pointer (some ⟨q, 0, none⟩)] W fun e W' => e = .returned (.bool b) ∧ Rds w0 W' q r := by
  refine (PckWalkE.done_any q r.s r.bad W h.at_).mono ?_
  intro e W' k
  have e1 : (decide (r.s.size = 0) && !r.bad) = b := hb.out
  rw [e1] at k
  exact h.next k rfl rfl
theorem from_rds (b : ByteArray) (w : World) : Calls Tryd.prog 44 #[.string b] w fun e w' => ∃ q, e = .returned (.pointer (some ⟨q, 0, none⟩)) ∧ Rds w w' q (rd0 b) := by
  refine (PckWalkD.from_any b w).mono ?_
  rintro e w' ⟨rfl, h1, h2⟩
  exact ⟨_, rfl, h1, Nat.le_refl _, h2⟩
end
end Go.Proofs.YtamncdpeklbhlaaDoor.Hold
namespace Go.Proofs.YtamncdpeklbhlaaDoor.QuoWalkA
open Go.RowKit Go.Proofs.YtamncdpeklbhlaaDoor.Kit Go.Proofs.YtamncdpeklbhlaaDoor.Quorum

theorem ret_b {a b : Bool} (h : a = b) : Ending.returned (.bool a) = .returned (.bool b) := by rw [h]
theorem ret_i {a b : Int} (h : a = b) : Ending.returned (.int .i64 a) = .returned (.int .i64 b) := by rw [h]
theorem ret_u {a b : Int} (h : a = b) : Ending.returned (.int .u64 a) = .returned (.int .u64 b) := by rw [h]


theorem wrap_u64 (x : Nat) (h : x < 2 ^ 64) : IntKind.u64.wrap (x : Int) = (x : Int) := IntWalk.u64_in _ (by omega)
theorem pow_lt (i : Nat) (hi : i < 7) : 2 ^ i < 128 := Nat.pow_lt_pow_right (by decide) hi

theorem over (c d : Nat) (hc : c < 2 ^ 64) (hd : c &&& (18446744073709551615 - 127) = d) : d = 0 ↔ c < 128 := by
  have h1 : d / 2 ^ 7 = c / 2 ^ 7 := by
    rw [← hd, Nat.and_div_two_pow]
    have := Nat.and_two_pow_sub_one_eq_mod (c / 2 ^ 7) 57
    rw [Nat.mod_eq_of_lt (by omega)] at this
    exact this
  have h2 : d % 2 ^ 7 = 0 := by
    rw [← hd, Nat.and_mod_two_pow]
    exact Nat.and_zero _
  omega
set_option maxRecDepth 100000 in
theorem sound_any (c : Nat) (hc : c < 2 ^ 64) (w : World) : Calls Tryd.prog 18 #[.int .u64 (c : Int)] w fun e w' => e = .returned (.bool (sound c)) ∧ w = w' := by
  by_cases h0 : c = 0
  · subst h0
    go_enter Tryd.func18, Tryd.ntmps18
    go_wp2
    go_ret
    exact ⟨rfl, rfl⟩
  · obtain ⟨d, hd⟩ : ∃ d, c &&& (18446744073709551615 - 127) = d := ⟨_, rfl⟩
    have hb : bits .andNot .u64 (c : Int) 127 = (d : Int) := by
      have := u64_andNot_nat c 127 hc (by decide)
      rw [hd] at this
      exact this
    have ho := over c d hc hd
    have hn : ((c : Int) != 0) = true := by simp; omega
    clear hd
    by_cases h1 : d = 0
    · have HS : Hid (sound c = true) := Lib.hid (by simp [sound, ho.1 h1]; omega)
      have hb0 : bits .andNot .u64 (c : Int) 127 = 0 := by rw [hb, h1]; rfl
      clear ho hb
      go_enter Tryd.func18, Tryd.ntmps18
      go_wp2
      go_ret
      exact ⟨ret_b HS.out.symm, rfl⟩
    · have HS : Hid (sound c = false) := Lib.hid (by simp only [sound, decide_eq_false_iff_not]; intro e; exact h1 (ho.2 e.2))
      have hd0 : ((d : Int) == 0) = false := by simp; omega
      clear ho
      go_enter Tryd.func18, Tryd.ntmps18
      go_wp2
      go_ret
      exact ⟨ret_b HS.out.symm, rfl⟩

/-- The library's own count, step by step. -/
def s1 (x : Nat) : Nat := x / 2 &&& 6148914691236517205
def s2 (x : Nat) : Nat := x &&& 6148914691236517205
def s3 (y : Nat) : Nat := y / 4 &&& 3689348814741910323
def s4 (y : Nat) : Nat := y &&& 3689348814741910323
theorem steps : ∀ x, x < 128 → s1 x + s2 x < 256 ∧ s3 (s1 x + s2 x) + s4 (s1 x + s2 x) < 256 ∧
    (let z := s3 (s1 x + s2 x) + s4 (s1 x + s2 x); (z / 16 + z) &&& 1085102592571150095 = size x) := by decide +kernel
end Go.Proofs.YtamncdpeklbhlaaDoor.QuoWalkA
namespace Go.Proofs.YtamncdpeklbhlaaDoor.RlgWalkA
open Go.RowKit Go.Proofs.YtamncdpeklbhlaaDoor.Kit Go.Proofs.YtamncdpeklbhlaaDoor.Rlog Go.Proofs.YtamncdpeklbhlaaDoor.Ents Go.Proofs.YtamncdpeklbhlaaDoor.LogAt
open Go.Proofs.YtamncdpeklbhlaaDoor.Num (num got front rest)
open Go.Proofs.YtamncdpeklbhlaaDoor.State (WV RV)
open Go.Proofs.YtamncdpeklbhlaaDoor.PckWalkC (gotB restB frontB)
open Go.Proofs.YtamncdpeklbhlaaDoor.PckWalkD (badB)
open Go.Proofs.YtamncdpeklbhlaaDoor.PckWalkH (str str_back)
open Go.Proofs.YtamncdpeklbhlaaDoor.Quorum (sound)

theorem sound_hid {c : Nat} {b : Bool} (hc : c < 18446744073709551616) (h : Hid (sound c = b)) (w : World) : Calls Tryd.prog 18 #[.int .u64 (c : Int)] w fun e w' => e = .returned (.bool b) ∧ w = w' := by
  have := QuoWalkA.sound_any c hc w
  rwa [h.out] at this
theorem setOf_lt (d : ByteArray) : setOf d < 18446744073709551616 := Num.got_lt _

set_option maxRecDepth 100000 in
/-- The set that data says. -/
theorem set_any (d : ByteArray) (w : World) (hd : d.size ≤ 9223372036854775807) : Calls Tryd.prog 88 #[.string d] w fun e w' => e = .returned (.int .u64 (setOf d : Int)) ∧ Below w.heap.size w w' := by
  go_enter Tryd.func88, Tryd.ntmps88
  go_wp2_with fail
  refine (PckWalkD.from_any d _).mono ?_
  rintro e w1 ⟨rfl, hR, hb⟩
  go_wp2_with fail
  refine (PckWalkD.num_any _ _ _ _ hR hd).mono ?_
  rintro e w2 ⟨rfl, _, ho⟩
  go_wp2
  go_ret
  exact ⟨rfl, hb.trans (ho.below hb.size fun k hk => by rw [hk]; exact Nat.le_refl _)⟩
set_option maxRecDepth 100000 in
/-- The bytes of a number. -/
theorem config_any (c : Nat) (w : World) (hc : c < 18446744073709551616) : Calls Tryd.prog 89 #[.int .u64 (c : Int)] w fun e w' => e = .returned (.string (str (num c))) ∧ Below w.heap.size w w' := by
  have hwv : WV (w.alloc (.cells #[.slice none 0 0] 132)) w.heap.size (.slice none 0 0) [] := ⟨heap_alloc_new w _, World.ownsRow_nil _ _ _ _⟩
  have hba : Below w.heap.size w (w.alloc (.cells #[.slice none 0 0] 132)) := (Below.refl _ _).alloc (Nat.le_refl _) _
  go_enter Tryd.func89, Tryd.ntmps89
  go_wp2_with fail
  refine (PckWalkA.num_any _ _ _ c _ hwv hc (by simp)).mono ?_
  rintro e w1 ⟨rfl, v1, hwv1, hst⟩
  have hb1 := hba.trans (hst.below hba.size (Nat.le_refl _) (by rintro k hk; cases hk))
  go_wp2_with fail
  refine (PckWalkB.bytes_any _ _ _ _ hwv1).mono ?_
  rintro e w2 ⟨rfl, rfl⟩
  go_wp2
  go_ret
  exact ⟨rfl, hb1⟩

end Go.Proofs.YtamncdpeklbhlaaDoor.RlgWalkA
set_option linter.unusedVariables false
namespace Go.Proofs.YtamncdpeklbhlaaDoor.RlgWalkB
open Go.RowKit Go.Proofs.YtamncdpeklbhlaaDoor.Kit Go.Proofs.YtamncdpeklbhlaaDoor.Rlog Go.Proofs.YtamncdpeklbhlaaDoor.Ents Go.Proofs.YtamncdpeklbhlaaDoor.LogAt Go.Proofs.YtamncdpeklbhlaaDoor.RlgWalkA
open Go.Proofs.YtamncdpeklbhlaaDoor.Num (num got front rest)
open Go.Proofs.YtamncdpeklbhlaaDoor.PckWalkH (str str_back)
open Go.Proofs.YtamncdpeklbhlaaDoor.Quorum (sound)

theorem u64_sub {a b : Nat} (h : b ≤ a) (ha : a < 18446744073709551616) : IntKind.u64.wrap ((a : Int) - (b : Int)) = ((a - b : Nat) : Int) := by
  rw [show (a : Int) - (b : Int) = ((a - b : Nat) : Int) by omega]
  exact IntWalk.u64_in _ (by omega)
theorem u64_pred {a : Nat} (h : a ≠ 0) (ha : a < 18446744073709551616) : IntKind.u64.wrap ((a : Int) - 1) = ((a - 1 : Nat) : Int) := u64_sub (b := 1) (by omega) ha
theorem says_no {d : ByteArray} (h : sound (setOf d) = false) : says d = false := by simp [says, h]
theorem says_str {d : ByteArray} (h : sound (setOf d) = true) : says d = decide (d.data.toList = num (setOf d)) := by simp [says, h]
/-- What an entry by value is. -/
def entV (e : Ent) : Value := .agg #[.int .u64 (e.term : Int), .int .u64 (e.idx : Int), .int .i64 e.kind, .string e.data]
/-- What a test answers. -/
def TellsB (w : World) (b : Bool) (e : Ending) (w' : World) : Prop := e = .returned (.bool b) ∧ Below w.heap.size w w'

/-- Sound, in whatever order a region carries it out. -/
abbrev QuietS (c : Nat) (b : Bool) (w : World) (k : Nat) : Prop :=
  Calls Tryd.prog 18 #[.int .u64 (c : Int)] (w.drewN k) fun e w'' => e = .returned (.bool b) ∧ ∃ m, w'' = w.drewN m
theorem quietS {c : Nat} {b : Bool} (hc : c < 18446744073709551616) (h : Hid (sound c = b)) (w : World) (k : Nat) : QuietS c b w k :=
  Calls.quiet_of_same ((sound_hid hc h (w.drewN k)).mono fun e w' ⟨he, hw⟩ => ⟨he, hw.symm⟩)
theorem below_drewN {B : Nat} {w w' : World} (h : Below B w w') (k : Nat) : Below B w (w'.drewN k) := ⟨h.os, h.tape, h.output, h.size, h.block⟩

section
variable {e : Ent} (he : EntB e) {i t : Nat} (hi : i < 18446744073709551616) (w : World)
include he
set_option maxRecDepth 100000 in
theorem lie_zero (h : e.idx = 0) : Calls Tryd.prog 83 #[entV e, .int .u64 (i : Int), .int .u64 (t : Int)] w (TellsB w false) := by
  obtain ⟨tm, ix, kd, d⟩ := e
  obtain rfl : ix = 0 := h
  unfold entV
  go_enter Tryd.func83, Tryd.ntmps83
  go_wp2
  go_ret
  exact ⟨rfl, (Below.refl _ _).alloc (Nat.le_refl _) _⟩
set_option maxRecDepth 100000 in
theorem lie_far (h : e.idx ≠ 0) (h1 : e.idx ≠ i + 1) : Calls Tryd.prog 83 #[entV e, .int .u64 (i : Int), .int .u64 (t : Int)] w (TellsB w false) := by
  have hb := he.idx
  have hw := u64_pred h hb
  have hne : (((e.idx - 1 : Nat) : Int) != (i : Int)) = true := by simp; omega
  have h0 : ((e.idx : Int) == 0) = false := by simp; omega
  obtain ⟨tm, ix, kd, d⟩ := e
  simp only at *
  obtain ⟨N, hN⟩ : ∃ N, ix - 1 = N := ⟨_, rfl⟩
  rw [hN] at hw hne
  clear h h1 hN he
  unfold entV
  go_enter Tryd.func83, Tryd.ntmps83
  go_wp2
  go_ret
  exact ⟨rfl, (Below.refl _ _).alloc (Nat.le_refl _) _⟩
set_option maxRecDepth 100000 in
theorem lie_low (h1 : e.idx = i + 1) (h2 : e.term < t) : Calls Tryd.prog 83 #[entV e, .int .u64 (i : Int), .int .u64 (t : Int)] w (TellsB w false) := by
  have hb := he.idx
  have hw := u64_pred (show e.idx ≠ 0 by omega) hb
  rw [show e.idx - 1 = i by omega] at hw
  have h0 : ((e.idx : Int) == 0) = false := by simp; omega
  obtain ⟨tm, ix, kd, d⟩ := e
  simp only at *
  clear h1 he
  unfold entV
  go_enter Tryd.func83, Tryd.ntmps83
  go_wp2
  go_ret
  exact ⟨rfl, (Below.refl _ _).alloc (Nat.le_refl _) _⟩
set_option maxRecDepth 100000 in
theorem lie_long (h1 : e.idx = i + 1) (h2 : ¬ e.term < t) (h3 : 32768 < e.data.size) : Calls Tryd.prog 83 #[entV e, .int .u64 (i : Int), .int .u64 (t : Int)] w (TellsB w false) := by
  have hb := he.idx
  have hw := u64_pred (show e.idx ≠ 0 by omega) hb
  rw [show e.idx - 1 = i by omega] at hw
  have h0 : ((e.idx : Int) == 0) = false := by simp; omega
  have h3' : (32768 : Int) < (e.data.size : Int) := by omega
  obtain ⟨tm, ix, kd, d⟩ := e
  simp only at *
  clear h1 he
  unfold entV
  go_enter Tryd.func83, Tryd.ntmps83
  go_wp2
  go_ret
  exact ⟨rfl, (Below.refl _ _).alloc (Nat.le_refl _) _⟩
set_option maxRecDepth 100000 in
theorem lie_plain (h1 : e.idx = i + 1) (h2 : ¬ e.term < t) (h3 : e.data.size ≤ 32768) (h4 : e.kind = 0 ∨ e.kind = 1) : Calls Tryd.prog 83 #[entV e, .int .u64 (i : Int), .int .u64 (t : Int)] w (TellsB w true) := by
  have hb := he.idx
  have hw := u64_pred (show e.idx ≠ 0 by omega) hb
  rw [show e.idx - 1 = i by omega] at hw
  have h0 : ((e.idx : Int) == 0) = false := by simp; omega
  have h3' : ¬ (32768 : Int) < (e.data.size : Int) := by omega
  obtain ⟨tm, ix, kd, d⟩ := e
  simp only at *
  clear h1 he
  rcases h4 with rfl | rfl
  · unfold entV
    go_enter Tryd.func83, Tryd.ntmps83
    go_wp2
    go_ret
    exact ⟨rfl, (Below.refl _ _).alloc (Nat.le_refl _) _⟩
  · unfold entV
    go_enter Tryd.func83, Tryd.ntmps83
    go_wp2
    go_ret
    exact ⟨rfl, (Below.refl _ _).alloc (Nat.le_refl _) _⟩
set_option maxRecDepth 100000 in
theorem lie_none (h1 : e.idx = i + 1) (h2 : ¬ e.term < t) (h3 : e.data.size ≤ 32768) (h4 : ¬ e.kind = 0) (h5 : ¬ e.kind = 1) (h6 : ¬ e.kind = 2) : Calls Tryd.prog 83 #[entV e, .int .u64 (i : Int), .int .u64 (t : Int)] w (TellsB w false) := by
  have hb := he.idx
  have hw := u64_pred (show e.idx ≠ 0 by omega) hb
  rw [show e.idx - 1 = i by omega] at hw
  have h0 : ((e.idx : Int) == 0) = false := by simp; omega
  have h3' : ¬ (32768 : Int) < (e.data.size : Int) := by omega
  have k0 : (e.kind == 0) = false := by simpa using h4
  have k1 : (e.kind == 1) = false := by simpa using h5
  have k2 : (e.kind == 2) = false := by simpa using h6
  obtain ⟨tm, ix, kd, d⟩ := e
  simp only at *
  clear h1 he h4 h5 h6
  unfold entV
  go_enter Tryd.func83, Tryd.ntmps83
  go_wp2
  go_ret
  exact ⟨rfl, (Below.refl _ _).alloc (Nat.le_refl _) _⟩
set_option maxRecDepth 100000 in
theorem lie_mad (h1 : e.idx = i + 1) (h2 : ¬ e.term < t) (h3 : e.data.size ≤ 32768) (h4 : e.kind = 2) (h5 : sound (setOf e.data) = false) : Calls Tryd.prog 83 #[entV e, .int .u64 (i : Int), .int .u64 (t : Int)] w (TellsB w false) := by
  have hb := he.idx
  have hw := u64_pred (show e.idx ≠ 0 by omega) hb
  rw [show e.idx - 1 = i by omega] at hw
  have h0 : ((e.idx : Int) == 0) = false := by simp; omega
  have h3' : ¬ (32768 : Int) < (e.data.size : Int) := by omega
  have hsz : e.data.size ≤ 9223372036854775807 := by omega
  obtain ⟨tm, ix, kd, d⟩ := e
  simp only at *
  subst h4
  have hlt := setOf_lt d
  have HS := Lib.hid h5
  have hset := set_any d
  obtain ⟨c, hc⟩ : ∃ c, setOf d = c := ⟨_, rfl⟩
  rw [hc] at hlt HS hset
  have HSet := Lib.hid hset
  clear h1 he h5 hc hset
  have hba : Below w.heap.size w (w.alloc (.cells #[.int .u64 (tm : Int), .int .u64 (ix : Int), .int .i64 2, .string d] 55)) := (Below.refl _ _).alloc (Nat.le_refl _) _
  have hd3 : (w.alloc (.cells #[.int .u64 (tm : Int), .int .u64 (ix : Int), .int .i64 2, .string d] 55)).cell? ⟨w.heap.size, 3, none⟩ = some (.string d) := by rw [Blocks.cell_at (heap_alloc_new w _)]; rfl
  unfold entV
  go_enter Tryd.func83, Tryd.ntmps83
  go_wp2_with fail
  refine (HSet.out _ hsz).mono ?_
  rintro e w1 ⟨rfl, hb1⟩
  have hd3' := (hb1.cell (p := ⟨w.heap.size, 3, none⟩) (by simp)).trans hd3
  go_wp2_with fail
  have C0 : Hid (∀ k, QuietS c false w1 k) := fun k => quietS hlt HS w1 k
  go_quiet ((go_at_call 18; (with_reducible exact C0.out _)))
  all_goals go_wp2
  all_goals go_ret
  all_goals exact ⟨rfl, below_drewN (hba.trans (hb1.mono hba.size)) _⟩
set_option maxRecDepth 100000 in
theorem lie_set (h1 : e.idx = i + 1) (h2 : ¬ e.term < t) (h3 : e.data.size ≤ 32768) (h4 : e.kind = 2) (h5 : sound (setOf e.data) = true) : Calls Tryd.prog 83 #[entV e, .int .u64 (i : Int), .int .u64 (t : Int)] w (TellsB w (says e.data)) := by
  have hb := he.idx
  have hw := u64_pred (show e.idx ≠ 0 by omega) hb
  rw [show e.idx - 1 = i by omega] at hw
  have h0 : ((e.idx : Int) == 0) = false := by simp; omega
  have h3' : ¬ (32768 : Int) < (e.data.size : Int) := by omega
  have hsz : e.data.size ≤ 9223372036854775807 := by omega
  obtain ⟨tm, ix, kd, d⟩ := e
  simp only at *
  subst h4
  have hlt := setOf_lt d
  have hsay := says_str h5
  have HS := Lib.hid h5
  have hset := set_any d
  obtain ⟨c, hc⟩ : ∃ c, setOf d = c := ⟨_, rfl⟩
  rw [hc] at hlt HS hset hsay
  obtain ⟨b, hbb⟩ : ∃ b, says d = b := ⟨_, rfl⟩
  obtain ⟨s, hs⟩ : ∃ s, str (num c) = s := ⟨_, rfl⟩
  have hcmp : (d.toList == s.toList) = b := by
    rw [← hbb, hsay, ← hs, Lib.toList_data, Lib.toList_data, PckWalkH.str_list, Bool.eq_iff_iff]
    simp
  have hcf := config_any c
  rw [hs] at hcf
  rw [hbb]
  have HSet := Lib.hid hset
  have HCf := Lib.hid hcf
  clear h1 he h5 hc hset hcf hsay hs hbb
  have hba : Below w.heap.size w (w.alloc (.cells #[.int .u64 (tm : Int), .int .u64 (ix : Int), .int .i64 2, .string d] 55)) := (Below.refl _ _).alloc (Nat.le_refl _) _
  have hd3 : (w.alloc (.cells #[.int .u64 (tm : Int), .int .u64 (ix : Int), .int .i64 2, .string d] 55)).cell? ⟨w.heap.size, 3, none⟩ = some (.string d) := by rw [Blocks.cell_at (heap_alloc_new w _)]; rfl
  unfold entV
  go_enter Tryd.func83, Tryd.ntmps83
  go_wp2_with fail
  refine (HSet.out _ hsz).mono ?_
  rintro e w1 ⟨rfl, hb1⟩
  have hd3' := (hb1.cell (p := ⟨w.heap.size, 3, none⟩) (by simp)).trans hd3
  have hs1 := hb1.size
  simp at hs1
  go_wp2_with fail
  go_region_held3 (fun w' => w'.cell? ⟨w.heap.size, 3, none⟩ = some (.string d))
    (first
      | exact hd3'
      | exact (hbC.cell (p := ⟨w.heap.size, 3, none⟩) (by simp; omega)).trans hd3')
    (first
      | (go_at_call 18
         refine (sound_hid hlt HS _).mono ?_
         rintro e wA ⟨rfl, rfl⟩)
      | (go_at_call 89
         refine (HCf.out _ hlt).mono ?_
         rintro e wC ⟨rfl, hbC⟩))
  all_goals go_wp2
  all_goals go_ret
  all_goals exact ⟨rfl, ((hba.trans (hb1.mono hba.size)).drew).trans (hbC.mono (by simp; omega))⟩

/-- Whether an entry may lie behind an index of a term. -/
theorem lie_any : Calls Tryd.prog 83 #[entV e, .int .u64 (i : Int), .int .u64 (t : Int)] w (TellsB w (may e i t)) := by
  have ht : ∀ b : Bool, may e i t = b → Calls Tryd.prog 83 #[entV e, .int .u64 (i : Int), .int .u64 (t : Int)] w (TellsB w b) → Calls Tryd.prog 83 #[entV e, .int .u64 (i : Int), .int .u64 (t : Int)] w (TellsB w (may e i t)) := fun b hb h => by rw [hb]; exact h
  by_cases h1 : e.idx = i + 1
  · by_cases h2 : e.term < t
    · exact ht false (by unfold may; rw [decide_eq_false (by omega)]; rfl) (lie_low he w h1 h2)
    · by_cases h3 : e.data.size ≤ 32768
      · have hm : may e i t = sortOk e := by unfold may; rw [decide_eq_true ⟨h1, by omega, h3⟩]; rfl
        by_cases k0 : e.kind = 0
        · exact ht true (by rw [hm]; simp [sortOk, k0]) (lie_plain he w h1 h2 h3 (.inl k0))
        · by_cases k1 : e.kind = 1
          · exact ht true (by rw [hm]; simp [sortOk, k1]) (lie_plain he w h1 h2 h3 (.inr k1))
          · by_cases k2 : e.kind = 2
            · have hk : sortOk e = says e.data := by simp [sortOk, k2]
              cases hs : sound (setOf e.data) with
              | false => exact ht false (by rw [hm, hk, says_no hs]) (lie_mad he w h1 h2 h3 k2 hs)
              | true => exact ht (says e.data) (by rw [hm, hk]) (lie_set he w h1 h2 h3 k2 hs)
            · exact ht false (by rw [hm]; simp [sortOk, k0, k1, k2]) (lie_none he w h1 h2 h3 k0 k1 k2)
      · exact ht false (by unfold may; rw [decide_eq_false (by omega)]; rfl) (lie_long he w h1 h2 (by omega))
  · have hm : may e i t = false := by unfold may; rw [decide_eq_false (by omega)]; rfl
    by_cases h0 : e.idx = 0
    · exact ht false hm (lie_zero he w h0)
    · exact ht false hm (lie_far he w h0 h1)

/-! ### The document's -/
omit he in
theorem wrap_succ (hi : i < 18446744073709551616) : IntKind.u64.wrap ((i : Int) + 1) = (((i + 1) % 18446744073709551616 : Nat) : Int) := by
  simp [IntKind.wrap, IntKind.bits, IntKind.signed]
end
end Go.Proofs.YtamncdpeklbhlaaDoor.RlgWalkB
set_option linter.unusedVariables false
namespace Go.Proofs.YtamncdpeklbhlaaDoor.RlgWalkC
open Go.RowKit Go.Proofs.YtamncdpeklbhlaaDoor.Kit Go.Proofs.YtamncdpeklbhlaaDoor.Blocks Go.Proofs.YtamncdpeklbhlaaDoor.Rlog Go.Proofs.YtamncdpeklbhlaaDoor.Ents Go.Proofs.YtamncdpeklbhlaaDoor.LogAt Go.Proofs.YtamncdpeklbhlaaDoor.RlgWalkA Go.Proofs.YtamncdpeklbhlaaDoor.RlgWalkB

theorem Four.below {w w' : World} {b o : Nat} {e : Ent} {B : Nat} (h : Four w b o e) (k : Below B w w') (hb : b < B) : Four w' b o e :=
  ⟨(k.cell (p := ⟨b, o, none⟩) hb).trans h.c0, (k.cell (p := ⟨b, o + 1, none⟩) hb).trans h.c1, (k.cell (p := ⟨b, o + 2, none⟩) hb).trans h.c2, (k.cell (p := ⟨b, o + 3, none⟩) hb).trans h.c3⟩
theorem chained_next {l : List Ent} {i t k : Nat} {e : Ent} (he : l[k]? = some e) (hf : chained (l.take k) i t = true) {I T : Nat} (hl : lasts (l.take k) i t = (I, T)) :
    chained (l.take (k + 1)) i t = may e I T ∧ lasts (l.take (k + 1)) i t = (e.idx, e.term) := by
  rw [take_snoc l k e he, follow_snoc, hf, hl, lasts_snoc]
  exact ⟨by simp, rfl⟩
theorem chained_not {l : List Ent} {i t k : Nat} (h : chained (l.take k) i t = false) : chained l i t = false := by
  rw [Bool.eq_false_iff] at h ⊢
  exact fun e => h (follow_take e k)

set_option maxRecDepth 100000 in
set_option maxHeartbeats 1000000 in
theorem chained_any (A : Option Addr) (n c : Nat) (l : List Ent) (i t : Nat) (w : World) (hr : RE w w.heap.size A n l) (hb : ∀ e ∈ l, EntB e) (h63 : n ≤ 9223372036854775807) :
    Calls Tryd.prog 74 #[.slice A n c, .int .u64 (i : Int), .int .u64 (t : Int)] w (TellsB w (chained l i t)) := by
  have hn := RE.len hr
  have HN := Lib.hid hn
  clear hn
  go_enter Tryd.func74, Tryd.ntmps74
  go_wp2
  go_loopw [1, 2, 11] (fun a b x wr => ∃ k I T : Nat, k ≤ n ∧ a = .int .u64 (I : Int) ∧ b = .int .u64 (T : Int) ∧ x = .int .i64 (k : Int) ∧ Hid (lasts (l.take k) i t = (I, T)) ∧ Hid (chained (l.take k) i t = true) ∧ Below w.heap.size w wr) (fun _ _ x _ => n - (intOf x).toNat)
  case atStart => exact ⟨0, i, t, by omega, rfl, rfl, rfl, Lib.hid rfl, Lib.hid rfl, Below.refl _ _⟩
  case round =>
    obtain ⟨k, I, T, hk, rfl, rfl, rfl, HL, HF, hbel⟩ := hrel
    by_cases hkn : k < n
    · obtain ⟨b, o, e, rfl, hbl, hek, hfour⟩ := RE.at_ hr hkn
      have hfr := Four.below hfour hbel hbl
      have c0 := hfr.c0
      have c1 := hfr.c1
      have c2 := hfr.c2
      have c3 := hfr.c3
      have hsz := hbel.size
      have he := hb e (List.mem_of_getElem? hek)
      obtain ⟨f1, f2⟩ := chained_next hek HF.out HL.out
      have hlie := fun w => lie_any (i := I) (t := T) he w
      obtain ⟨tm, ix, kd, d⟩ := e
      unfold entV at hlie
      simp only at c0 c1 c2 c3 hlie f2
      obtain ⟨r, hr1⟩ : ∃ r, may ⟨tm, ix, kd, d⟩ I T = r := ⟨_, rfl⟩
      rw [hr1] at hlie f1
      have HLie := Lib.hid hlie
      have H1 := Lib.hid f1
      have H2 := Lib.hid f2
      clear hlie f1 f2 hr1 hek hfr hfour
      have hcb : (wr.alloc (.cells #[.int .u64 (tm : Int), .int .u64 (ix : Int), .int .i64 kd, .string d] 55)).heap[wr.heap.size]? = some (.cells #[.int .u64 (tm : Int), .int .u64 (ix : Int), .int .i64 kd, .string d] 55 (0, 0)) := heap_alloc_new wr _
      have HCB := Lib.hid hcb
      clear hcb
      cases r with
      | false =>
        go_wp2_with fail
        refine (HLie.out _).mono ?_
        rintro e' w1 ⟨rfl, hb1⟩
        have hfl : chained l i t = false := chained_not H1.out
        have HFL := Lib.hid hfl
        clear hfl
        go_wp2
        go_ret
        exact ⟨by rw [HFL.out]; rfl, (hbel.alloc hsz _).trans (hb1.mono (by simp; omega))⟩
      | true =>
        go_wp2_with fail
        refine (HLie.out _).mono ?_
        rintro e' w1 ⟨rfl, hb1⟩
        have hc1 := (hb1.block wr.heap.size (by simp)).trans HCB.out
        have d0 : w1.cell? ⟨wr.heap.size, 0, none⟩ = some (.int .u64 (tm : Int)) := by rw [cell_at hc1]; rfl
        have d1 : w1.cell? ⟨wr.heap.size, 1, none⟩ = some (.int .u64 (ix : Int)) := by rw [cell_at hc1]; rfl
        have hB1 : Below w.heap.size w w1 := (hbel.alloc hsz _).trans (hb1.mono (by simp; omega))
        clear hb1 hc1 c0 c1 c2 c3
        go_wp2_with fail
        go_quiet (fail)
        all_goals go_wp2
        all_goals
          go_roundw
          case rel => exact ⟨k + 1, ix, tm, by omega, rfl, rfl, by go_num, H2, H1, below_drewN hB1 _⟩
          case measure => simp [intOf]; omega
    · obtain rfl : k = n := by omega
      have hfl : chained l i t = true := by
        have := HF.out
        rwa [List.take_of_length_le (by rw [HN.out]; exact Nat.le_refl _)] at this
      have HFL := Lib.hid hfl
      clear hfl
      go_wp2
      go_ret
      exact ⟨by rw [HFL.out]; rfl, hbel⟩
end Go.Proofs.YtamncdpeklbhlaaDoor.RlgWalkC
set_option linter.unusedVariables false
namespace Go.Proofs.YtamncdpeklbhlaaDoor.RlgWalkD
open Go.RowKit Go.Proofs.YtamncdpeklbhlaaDoor.Kit Go.Proofs.YtamncdpeklbhlaaDoor.Blocks Go.Proofs.YtamncdpeklbhlaaDoor.Rlog Go.Proofs.YtamncdpeklbhlaaDoor.Ents Go.Proofs.YtamncdpeklbhlaaDoor.LogAt Go.Proofs.YtamncdpeklbhlaaDoor.App Go.Proofs.YtamncdpeklbhlaaDoor.RlgWalkA Go.Proofs.YtamncdpeklbhlaaDoor.RlgWalkB Go.Proofs.YtamncdpeklbhlaaDoor.RlgWalkC
open Go.Proofs.YtamncdpeklbhlaaDoor.Quorum (sound)

/-- What a snapshot by value is. -/
def snapV (s : Snap) : Value := .agg #[.int .u64 (s.idx : Int), .int .u64 (s.term : Int), .int .u64 (s.cfg : Int), .string s.data]
/-- A refusal of New. -/
def NoLog (w : World) (e : Ending) (w' : World) : Prop := e = .returned (.tuple #[.pointer none, .int .i64 1]) ∧ Below w.heap.size w w'
/-- A new log. -/
def NewLog (T : TypeId) (w : World) (g : G) (e : Ending) (w' : World) : Prop :=
  ∃ p v, e = .returned (.tuple #[.pointer (some ⟨p, 0, none⟩), .int .i64 0]) ∧ LogAt T w.heap.size w' p v g ∧ Below w.heap.size w w'

/-- A block is laid for a new log, its entries' row lying already. -/
theorem new_log {T : TypeId} {w w2 w3 : World} {n c' : Nat} {A' : Option Addr} {l : List Ent} {ix tm cf : Nat} {d : ByteArray} (hB : Below w.heap.size w w2) (hb : Below w2.drew.heap.size w2.drew w3)
    (hown : w3.ownsRow w.heap.size 55 4 (.slice A' n c') n (ecells l)) (HN : Hid (l.length = n)) :
    LogAt T w.heap.size (w3.alloc (.cells #[.int .u64 (ix : Int), .int .u64 (tm : Int), .int .u64 (cf : Int), .string d, .slice A' n c'] T)) w3.heap.size (.slice A' n c') ⟨⟨ix, tm, cf, d⟩, l⟩ ∧
      Below w.heap.size w (w3.alloc (.cells #[.int .u64 (ix : Int), .int .u64 (tm : Int), .int .u64 (cf : Int), .string d, .slice A' n c'] T)) := by
  have hB3 : Below w.heap.size w w3 := hB.drew.trans (hb.mono hB.size)
  have hn := HN.out
  subst hn
  refine ⟨⟨hB3.size, heap_alloc_new w3 _, (Only.refl (fun _ => False) w3 |>.alloc _).own hown (by simp), fun e => ?_⟩, hB3.alloc hB3.size _⟩
  have := (hown.lt _ e).2
  omega

section
variable {s : Snap} (hs : SnapB s) (A : Option Addr) (n c : Nat) (l : List Ent) (w : World) (hr : RE w w.heap.size A n l) (hb : ∀ e ∈ l, EntB e)
include hs hr hb

omit hr hb in
set_option maxRecDepth 100000 in
theorem new_mad (h : sound s.cfg = false) : Calls Tryd.prog 50 #[snapV s, .slice A n c] w (NoLog w) := by
  have hcf := hs.cfg
  obtain ⟨ix, tm, cf, d⟩ := s
  simp only at *
  have HS := Lib.hid h
  clear h hs
  have hba : Below w.heap.size w (w.alloc (.cells #[.int .u64 (ix : Int), .int .u64 (tm : Int), .int .u64 (cf : Int), .string d] 34)) := (Below.refl _ _).alloc (Nat.le_refl _) _
  unfold snapV
  go_enter Tryd.func50, Tryd.ntmps50
  go_wp2_with fail
  refine (sound_hid hcf HS _).mono ?_
  rintro e w1 ⟨rfl, rfl⟩
  go_wp2
  go_ret2
  exact ⟨rfl, hba⟩
set_option maxRecDepth 100000 in
theorem new_loose (h63 : n ≤ 9223372036854775807) (h : sound s.cfg = true) (h2 : chained l s.idx s.term = false) : Calls Tryd.prog 50 #[snapV s, .slice A n c] w (NoLog w) := by
  have hcf := hs.cfg
  obtain ⟨ix, tm, cf, d⟩ := s
  simp only at *
  have HS := Lib.hid h
  clear h hs
  have hba : Below w.heap.size w (w.alloc (.cells #[.int .u64 (ix : Int), .int .u64 (tm : Int), .int .u64 (cf : Int), .string d] 34)) := (Below.refl _ _).alloc (Nat.le_refl _) _
  have hch := chained_any A n c l ix tm _ ((Kit.Reads.below hr hba).more hba.size) hb h63
  rw [h2] at hch
  have HCh := Lib.hid hch
  clear hch h2
  unfold snapV
  go_enter Tryd.func50, Tryd.ntmps50
  go_wp2_with fail
  refine (sound_hid hcf HS _).mono ?_
  rintro e w1 ⟨rfl, rfl⟩
  go_wp2_with fail
  refine HCh.out.mono ?_
  rintro e w2 ⟨rfl, hb2⟩
  go_wp2
  go_ret2
  exact ⟨rfl, hba.trans (hb2.mono hba.size)⟩
set_option maxRecDepth 100000 in
set_option maxHeartbeats 1000000 in

theorem new_made (h63 : n * 40 ≤ 140737488355328) (h : sound s.cfg = true) (h2 : chained l s.idx s.term = true) : Calls Tryd.prog 50 #[snapV s, .slice A n c] w (NewLog 130 w ⟨s, l⟩) := by
  have hn := RE.len hr
  have HN := Lib.hid hn
  have hcf := hs.cfg
  obtain ⟨ix, tm, cf, d⟩ := s
  simp only at *
  have HS := Lib.hid h
  clear h hs hn
  have hba : Below w.heap.size w (w.alloc (.cells #[.int .u64 (ix : Int), .int .u64 (tm : Int), .int .u64 (cf : Int), .string d] 34)) := (Below.refl _ _).alloc (Nat.le_refl _) _
  have hcb := heap_alloc_new w (.cells #[.int .u64 (ix : Int), .int .u64 (tm : Int), .int .u64 (cf : Int), .string d] 34)
  have hpl : w.heap.size < (w.alloc (.cells #[.int .u64 (ix : Int), .int .u64 (tm : Int), .int .u64 (cf : Int), .string d] 34)).heap.size := by simp
  have hra := (Kit.Reads.below hr hba).more hba.size
  have hch := chained_any A n c l ix tm _ hra hb (by omega)
  rw [h2] at hch
  have HCh := Lib.hid hch
  have HCB := Lib.hid hcb
  clear hch h2 hcb
  unfold snapV
  go_enter Tryd.func50, Tryd.ntmps50
  go_wp2_with fail
  refine (sound_hid hcf HS _).mono ?_
  rintro e w1 ⟨rfl, rfl⟩
  go_wp2_with fail
  refine HCh.out.mono ?_
  rintro e w2 ⟨rfl, hb2⟩
  have hB2 := hba.trans (hb2.mono hba.size)
  have hc2 := (hb2.block _ hpl).trans HCB.out
  have c0 : w2.cell? ⟨w.heap.size, 0, none⟩ = some (.int .u64 (ix : Int)) := by rw [cell_at hc2]; rfl
  have c1 : w2.cell? ⟨w.heap.size, 1, none⟩ = some (.int .u64 (tm : Int)) := by rw [cell_at hc2]; rfl
  have c2 : w2.cell? ⟨w.heap.size, 2, none⟩ = some (.int .u64 (cf : Int)) := by rw [cell_at hc2]; rfl
  have c3 : w2.cell? ⟨w.heap.size, 3, none⟩ = some (.string d) := by rw [cell_at hc2]; rfl
  have hlt2 := lt_at hc2
  have hr2 : RE w2 w.heap.size A n l := Kit.Reads.below hr hB2
  go_wp2_with fail
  go_region_law (first
    | (refine step_new _ rfl _ _ rfl w.heap.size rfl rfl (Reads.drew hr2) (ecells_one l) h63 hB2.size ?_
       intro A' c' w3 hown3 hb3 hat3
       have d0 : w3.cell? ⟨w.heap.size, 0, none⟩ = some (.int .u64 (ix : Int)) := (hb3.cell (p := ⟨w.heap.size, 0, none⟩) hlt2).trans c0
       have d1 : w3.cell? ⟨w.heap.size, 1, none⟩ = some (.int .u64 (tm : Int)) := (hb3.cell (p := ⟨w.heap.size, 1, none⟩) hlt2).trans c1
       have d2 : w3.cell? ⟨w.heap.size, 2, none⟩ = some (.int .u64 (cf : Int)) := (hb3.cell (p := ⟨w.heap.size, 2, none⟩) hlt2).trans c2
       have d3 : w3.cell? ⟨w.heap.size, 3, none⟩ = some (.string d) := (hb3.cell (p := ⟨w.heap.size, 3, none⟩) hlt2).trans c3))
  all_goals
    have HL := Lib.hid (new_log (T := 130) (ix := ix) (tm := tm) (cf := cf) (d := d) hB2 hb3 hown3 HN)
    clear hown3 hat3 hb3 hB2
    go_wp2
    go_ret2
    exact ⟨_, _, rfl, HL.out.1, HL.out.2⟩
end
end Go.Proofs.YtamncdpeklbhlaaDoor.RlgWalkD
set_option linter.unusedVariables false
namespace Go.Proofs.YtamncdpeklbhlaaDoor.RlgWalkE
open Go.RowKit Go.Proofs.YtamncdpeklbhlaaDoor.Kit Go.Proofs.YtamncdpeklbhlaaDoor.Blocks Go.Proofs.YtamncdpeklbhlaaDoor.Rlog Go.Proofs.YtamncdpeklbhlaaDoor.Ents Go.Proofs.YtamncdpeklbhlaaDoor.LogAt Go.Proofs.YtamncdpeklbhlaaDoor.RlgWalkA Go.Proofs.YtamncdpeklbhlaaDoor.RlgWalkB Go.Proofs.YtamncdpeklbhlaaDoor.RlgWalkC Go.Proofs.YtamncdpeklbhlaaDoor.RlgWalkD

abbrev LP (B : Nat) (w : World) (p : Nat) (v : Value) (g : G) : Prop := LogAt 130 B w p v g
section
variable {B p : Nat} {v : Value} {g : G} {w : World} (h : LP B w p v g) 
include h
end
end Go.Proofs.YtamncdpeklbhlaaDoor.RlgWalkE
set_option linter.unusedVariables false
namespace Go.Proofs.YtamncdpeklbhlaaDoor.RlgWalkF
open Go.RowKit Go.Proofs.YtamncdpeklbhlaaDoor.Kit Go.Proofs.YtamncdpeklbhlaaDoor.Blocks Go.Proofs.YtamncdpeklbhlaaDoor.Rlog Go.Proofs.YtamncdpeklbhlaaDoor.Ents Go.Proofs.YtamncdpeklbhlaaDoor.LogAt Go.Proofs.YtamncdpeklbhlaaDoor.App Go.Proofs.YtamncdpeklbhlaaDoor.RlgWalkA Go.Proofs.YtamncdpeklbhlaaDoor.RlgWalkB Go.Proofs.YtamncdpeklbhlaaDoor.RlgWalkC Go.Proofs.YtamncdpeklbhlaaDoor.RlgWalkD Go.Proofs.YtamncdpeklbhlaaDoor.RlgWalkE

/-- A list of entries is handed back. -/
def Gives (w : World) (l : List Ent) (e : Ending) (w' : World) : Prop := ∃ A c, e = .returned (.slice A l.length c) ∧ RE w' w'.heap.size A l.length l ∧ l.length ≤ c ∧ c ≤ 9223372036854775807 ∧ Below w.heap.size w w' ∧ Off (fun k => k < w.heap.size) A l.length

theorem qE : ∀ (w : World) (a : Option Addr) (n c n' c' : Nat), (binOp .eql 35 (.slice a n c) (.slice none n' c')).run Tryd.prog w = .ok (.bool a.isNone) w := fun w a n c n' c' => Lib.run_eql_slice_nil w _ _ a n c n' c' Tryd.underlying35
set_option maxRecDepth 100000 in
theorem clone_nil (c : Nat) (w : World) : Calls Tryd.prog 56 #[.slice none 0 c] w (Gives w []) := by
  have q := qE
  go_enter Tryd.func56, Tryd.ntmps56
  go_wp2
  go_ret
  exact ⟨none, 0, rfl, RE.nil _ _ _, by simp, by omega, Below.refl _ _, Off.zero _ _⟩
set_option maxRecDepth 100000 in
theorem clone_some (ad : Addr) (n c : Nat) (l : List Ent) (w : World) (hr : RE w w.heap.size (some ad) n l) (hb : n * 40 ≤ 140737488355328) : Calls Tryd.prog 56 #[.slice (some ad) n c] w (Gives w l) := by
  have q := qE
  have hn := RE.len hr
  have HN := Lib.hid hn
  have hra : ∀ o, Reads (w.alloc o) w.heap.size 4 (some ad) n (ecells l) := fun o => Reads.alloc hr (Nat.le_refl _) o
  have hown := World.ownsRow_made (e := 55) (size := 4) w #[] 0 (base := w.heap.size) (Nat.le_refl _) (Nat.zero_le _) (by simp)
  have HO := Lib.hid hown
  clear hn hown
  go_enter Tryd.func56, Tryd.ntmps56
  go_wp2_with (first
    | (at_builtin
       refine wpList_app (v := .slice (some ⟨w.heap.size, 0, none⟩) 0 0) _ rfl _ _ rfl w.heap.size rfl HO.out rfl (hra _) (ecells_one l) (by omega) (by simp) ?_
       intro A' c' w1 hown1 hg1 hat1))
  have hb1 : Below w.heap.size w w1 := ((Below.refl _ w).alloc (Nat.le_refl _) _).grown hg1 (by simp) (by intro k hk; simp [Value.ownBlock] at hk; omega)
  rw [Nat.zero_add] at hown1
  obtain ⟨A2, c2, he2, hc1, hc2, hr2⟩ := own_form hown1
  cases he2
  have HR := Lib.hid hr2
  have HFr := Lib.hid (off_own hown1)
  clear hown1 hat1 hr2
  go_wp2
  go_ret
  unfold maxLen at hc2
  have hN := HN.out
  subst hN
  exact ⟨A', c', rfl, by simpa using HR.out, hc1, by omega, hb1, HFr.out⟩
theorem clone_any (A : Option Addr) (n c : Nat) (l : List Ent) (w : World) (hr : RE w w.heap.size A n l) (hb : n * 40 ≤ 140737488355328) : Calls Tryd.prog 56 #[.slice A n c] w (Gives w l) := by
  cases A with
  | some ad => exact clone_some ad n c l w hr hb
  | none =>
    have hn : n = 0 := by
      rcases Nat.eq_zero_or_pos n with h | h
      · exact h
      · obtain ⟨ad, e, _⟩ := hr.2 h; cases e
    have hl := RE.len hr
    subst hn
    rw [List.eq_nil_of_length_eq_zero hl]
    exact clone_nil c w

section
variable {B p : Nat} {v : Value} {g : G} {w : World} (h : LP B w p v g)
include h
end

/-! ### slices.Delete, to the end -/
theorem run_app_none (w : World) (ad : Addr) (k c : Nat) (A : Option Addr) (c2 : Nat) (hk : k ≤ c) (ty : TypeId) :
    (Builtin.append_ #[35, 35] ty #[.slice (some ad) k c, .slice A 0 c2]).run Tryd.prog w = .ok (.slice (some ad) k c) w := by
  obtain ⟨i0, hi0, hz0, hz1, hz2⟩ := info_parts infoE
  cases A with
  | none => simp [Builtin.append_, run_underlying Tryd.underlying35, sizeOf, typeInfo, hi0, Builtin.lenOf, Builtin.firstCells, hk, storeCells]
  | some a => simp [Builtin.append_, run_underlying Tryd.underlying35, sizeOf, typeInfo, hi0, Builtin.lenOf, Builtin.firstCells, hk, storeCells, loadCells, loadCellsFrom]
theorem step_none {ops : Array Oper} {o : Oper} {a : Act} {K : Act → World → Prop} {Q : Exit → Act → World → Prop} {E : Prop} (w : World) (hgd : o.guard = none) (s x : Operand)
    (ho : o.op = .call { callee := .builtin .append, args := #[s, x], argTypes := #[35, 35] })
    (ad : Addr) (k c : Nat) (A : Option Addr) (c2 : Nat) (hs : a.eval s = .slice (some ad) k c) (hx : a.eval x = .slice A 0 c2) (hk : k ≤ c) (h : K (a.put o.dst (.slice (some ad) k c)) w) :
    if Region.wanted o (yielded ops a.tmps) = true then Oper.wp Tryd.prog o a w K Q else E := by
  have hw : Region.wanted o (yielded ops a.tmps) = true := by simp [Region.wanted, hgd]
  rw [if_pos hw]
  have hrun := run_app_none w ad k c A c2 hk o.type
  unfold Oper.wp execOp
  simp only [ho, resolve, invoke, builtin, Sem.run_bind, Sem.run_pure, Result.andThen_ok, List.map_toArray, List.map_cons, List.map_nil, hs, hx, hrun]
  exact h
theorem zeroE (w : World) : (zeroValue 55).run Tryd.prog w = .ok (.agg #[.int .u64 0, .int .u64 0, .int .i64 0, .string .empty]) w := by kernel_rfl
/-- clear(s[k:n]) in a row of the call's own. -/
theorem run_clear4 (w : World) {base g n c k cc : Nat} {l : List Ent} (hown : w.ownsRow base 55 4 (.slice (some ⟨g, 0, none⟩) n c) n (ecells l)) (hk : k < n) :
    ∃ w', (∀ ty, (Builtin.clear_ #[35] ty #[.slice (some ⟨g, k * 4, none⟩) (n - k) cc]).run Tryd.prog w = .ok (.tuple #[]) w') ∧ w'.ownsRow base 55 4 (.slice (some ⟨g, 0, none⟩) k c) k (ecells (l.take k)) ∧ Only (fun q => q = g) w w' := by
  rcases hown.2 with ⟨hv, _⟩ | ⟨g', cap, cur, hv, hb, hg, h1, h2, h3, h4⟩
  · cases hv
  · injection hv with hA _ hc
    cases hA
    subst hc
    have hzv := zeroE
    have hzc : (Value.agg #[.int .u64 0, .int .u64 0, .int .i64 0, .string .empty]).cells = #[.int .u64 0, .int .u64 0, .int .i64 0, .string .empty] := rfl
    obtain ⟨z, hz⟩ : ∃ z, (Value.agg #[.int .u64 0, .int .u64 0, .int .i64 0, .string .empty]) = z := ⟨_, rfl⟩
    rw [hz] at hzc
    simp only [hz] at hzv
    obtain ⟨zs, hzs⟩ : ∃ zs, (Builtin.zeroCells z.cells (n - k)).toList = zs := ⟨_, rfl⟩
    have hzl : zs.length = (n - k) * 4 := by rw [← hzs, hzc]; simp [Builtin.zeroCells]
    have hz1 : ∀ u ∈ zs, u.oneCell' = true := by
      intro u hu
      rw [← hzs, hzc] at hu
      simp only [Builtin.zeroCells, Array.toList_map, List.mem_map] at hu
      obtain ⟨i, _, rfl⟩ := hu
      have : ∀ j, j < 4 → ((#[.int .u64 0, .int .u64 0, .int .i64 0, .string .empty] : Array Value)[j]!).oneCell' = true := by decide
      exact this _ (Nat.mod_lt _ (by decide))
    have hst := run_storeCells_free Tryd.prog g (k * 4) 55 (0, 0) zs 0 cur w hg (by simp) (by rw [hzl, h3]; omega) hz1
    simp only [Nat.add_zero] at hst
    obtain ⟨X, hX⟩ : ∃ X, (cur.toList.take (k * 4) ++ zs ++ cur.toList.drop (k * 4 + zs.length)).toArray = X := ⟨_, rfl⟩
    rw [hX] at hst
    have hXs : X.size = c * 4 := by
      rw [← hX]
      simp only [List.size_toArray, List.length_append, List.length_take, List.length_drop, Array.length_toList]
      omega
    have hXt : X.toList.take (k * 4) = ecells (l.take k) := by
      rw [← hX]
      show (cur.toList.take (k * 4) ++ zs ++ cur.toList.drop (k * 4 + zs.length)).take (k * 4) = _
      rw [List.append_assoc, List.take_append_of_le_length (by rw [List.length_take, Array.length_toList]; omega), List.take_of_length_le (by rw [List.length_take]; omega), ecells_take, ← h4, List.take_take]
      congr 1
      omega
    refine ⟨w.setRow g X, fun ty => ?_, ⟨?_, .inr ⟨g, c, X, rfl, hb, setRow_heap w g cur _ _ _ hg, by omega, h2, hXs, hXt⟩⟩, ⟨rfl, rfl, rfl, by simp, fun q _ hq => setRow_other w g q _ hq⟩⟩
    · obtain ⟨m, hm⟩ : ∃ m, n - k = m + 1 := ⟨n - k - 1, by omega⟩
      rw [hm] at hzs ⊢
      simp [Builtin.clear_, run_underlying Tryd.underlying35, hzv, hzs, hst]
    · rw [← hXt, List.length_take, Array.length_toList, hXs]
      omega
set_option maxRecDepth 100000 in
set_option maxHeartbeats 1000000 in
/-- slices.Delete(s, k, len(s)). -/
theorem delete_any (base g n c k : Nat) (l : List Ent) (w : World) (hown : w.ownsRow base 55 4 (.slice (some ⟨g, 0, none⟩) n c) n (ecells l)) (hk : k < n) :
    Calls Tryd.prog 32 #[.slice (some ⟨g, 0, none⟩) n c, .int .i64 (k : Int), .int .i64 (n : Int)] w fun e w' =>
      e = .returned (.slice (some ⟨g, 0, none⟩) k c) ∧ w'.ownsRow base 55 4 (.slice (some ⟨g, 0, none⟩) k c) k (ecells (l.take k)) ∧ Only (fun q => q = g) w w' := by
  obtain ⟨A', c', he, hnc, hcm, _⟩ := own_form hown
  cases he
  unfold maxLen at hcm
  have hownd : w.drew.ownsRow base 55 4 (.slice (some ⟨g, 0, none⟩) n c) n (ecells l) := hown
  obtain ⟨W1, hcl, hown1, ho1⟩ := run_clear4 w.drew (cc := c - k) hownd hk
  have ht := Tryd.underlying35
  have ht' : Tryd.prog.underlying 35 = some (.slice (Tryd.prog.elem 35)) := by simp [Program.elem, ht]
  have he' : Tryd.prog.elem 35 = 55 := by simp [Program.elem, ht]
  obtain ⟨v0, hs0⟩ : ∃ v0, ∀ w, (Instr.slice 35 (.slice (some ⟨g, 0, none⟩) n c) (some (.int .i64 (k : Int))) (some (.int .i64 (n : Int))) (some (.int .i64 (n : Int)))).run Tryd.prog w = .ok v0 w :=
    ⟨_, fun w => by rw [run_slice_lhm w _ _ _ _ ht' .i64 .i64 .i64 _ _ _ (by omega) (by omega) (by omega) (by omega), he', sz4]; rfl⟩
  have hs1 : ∀ w, (Instr.slice 35 (.slice (some ⟨g, 0, none⟩) n c) none (some (.int .i64 (k : Int))) none).run Tryd.prog w = .ok (.slice (some ⟨g, 0, none⟩) k c) w := fun w => by
    rw [run_slice_h w _ _ _ _ ht' .i64 _ (by omega) (by omega), he', sz4]
    simp [Result.andThen, sliced]
    intro _
    rfl
  have hs2 := run_from4 (P := Tryd.prog) 35 55 ht sz4 (some ⟨g, 0, none⟩) n c n (Nat.le_refl _)
  rw [Nat.sub_self] at hs2
  obtain ⟨A2, hA2⟩ : ∃ A2, cut4 (some ⟨g, 0, none⟩) c n = A2 := ⟨_, rfl⟩
  obtain ⟨c2, hc2⟩ : ∃ c2, c - n = c2 := ⟨_, rfl⟩
  rw [hA2, hc2] at hs2
  have hs3 := run_part4 (P := Tryd.prog) 35 55 ht sz4 (some ⟨g, 0, none⟩) k c k n (by omega) hnc
  have hcut : cut4 (some ⟨g, 0, none⟩) c k = some ⟨g, k * 4, none⟩ := by
    unfold cut4
    rw [if_neg (by omega)]
    simp only [Option.map_some, Addr.add_lit, Nat.zero_add]
  rw [hcut] at hs3
  obtain ⟨d, hd⟩ : ∃ d, n - k = d := ⟨_, rfl⟩
  obtain ⟨c3, hc3⟩ : ∃ c3, c - k = c3 := ⟨_, rfl⟩
  rw [hd, hc3] at hs3 hcl
  have hne : ((k : Int) == (n : Int)) = false := by simp; omega
  have hkc : k ≤ c := by omega
  have HO := Lib.hid hown1
  have HN := Lib.hid ho1
  clear hA2 hc2 hcut hd hc3 hown1 ho1 hownd hown ht he' ht'
  go_enter Tryd.func32, Tryd.ntmps32
  go_wp2_with fail
  go_region_law (first
    | (refine step_none _ rfl _ _ rfl ⟨g, 0, none⟩ k c A2 c2 rfl rfl hkc ?_))
  all_goals go_wp2
  all_goals go_ret
  all_goals exact ⟨rfl, HO.out, (((Only.refl (fun q => q = g) w).drew).trans HN.out)⟩
end Go.Proofs.YtamncdpeklbhlaaDoor.RlgWalkF
set_option linter.unusedVariables false
set_option linter.unusedSimpArgs false
namespace Go.Proofs.YtamncdpeklbhlaaDoor.Few
open Go.RowKit Go.Proofs.YtamncdpeklbhlaaDoor.Kit Go.Proofs.YtamncdpeklbhlaaDoor.Blocks Go.Proofs.YtamncdpeklbhlaaDoor.Rlog Go.Proofs.YtamncdpeklbhlaaDoor.Sto Go.Proofs.YtamncdpeklbhlaaDoor.Ents Go.Proofs.YtamncdpeklbhlaaDoor.Hold
open Go.Proofs.YtamncdpeklbhlaaDoor.App (wpList_app)

def TellsB (w : World) (b : Bool) (e : Ending) (w' : World) : Prop := e = .returned (.bool b) ∧ Below w.heap.size w w'
set_option maxRecDepth 100000 in
theorem hard_any (t : Nat) (v : Int) (w : World) : Calls Tryd.prog 28 #[.agg #[.int .u64 (t : Int), .int .i64 v]] w (TellsB w (voteB v)) := by
  have hba : Below w.heap.size w (w.alloc (.cells #[.int .u64 (t : Int), .int .i64 v] 32)) := (Below.refl _ _).alloc (Nat.le_refl _) _
  unfold TellsB
  by_cases h1 : -1 ≤ v
  · by_cases h2 : v < 7
    · have hv : voteB v = true := decide_eq_true ⟨h1, h2⟩
      rw [hv]
      clear hv
      go_enter Tryd.func28, Tryd.ntmps28
      go_wp2
      go_ret
      exact ⟨rfl, hba⟩
    · have hv : voteB v = false := decide_eq_false fun k => h2 k.2
      rw [hv]
      clear hv
      go_enter Tryd.func28, Tryd.ntmps28
      go_wp2
      go_ret
      exact ⟨rfl, hba⟩
  · have hv : voteB v = false := decide_eq_false fun k => h1 k.1
    rw [hv]
    clear hv
    go_enter Tryd.func28, Tryd.ntmps28
    go_wp2
    go_ret
    exact ⟨rfl, hba⟩
/-- Whether a snapshot and entries are a log, by what New answers. -/
def Checks (w : World) (b : Bool) (e : Ending) (w' : World) : Prop := ∃ a, e = .returned (.tuple #[.pointer a, .int .i64 (if b = true then 0 else 1)]) ∧ Below w.heap.size w w'
theorem check_any (s : Snap) (hs : SnapB s) (A : Option Addr) (n c : Nat) (l : List Ent) (w : World) (hr : RE w w.heap.size A n l) (hb : ∀ e ∈ l, EntB e) (h63 : n * 40 ≤ 140737488355328) :
    Calls Tryd.prog 50 #[.agg #[.int .u64 (s.idx : Int), .int .u64 (s.term : Int), .int .u64 (s.cfg : Int), .string s.data], .slice A n c] w (Checks w (okB s l)) := by
  cases h1 : Quorum.sound s.cfg with
  | false =>
    refine (RlgWalkD.new_mad hs A n c w h1).mono ?_
    rintro e w' ⟨rfl, h⟩
    have : okB s l = false := by unfold okB; rw [h1]; rfl
    rw [this]
    exact ⟨none, rfl, h⟩
  | true =>
    cases h2 : chained l s.idx s.term with
    | false =>
      refine (RlgWalkD.new_loose hs A n c l w hr hb (by omega) h1 h2).mono ?_
      rintro e w' ⟨rfl, h⟩
      have : okB s l = false := by unfold okB; rw [h1, h2]; rfl
      rw [this]
      exact ⟨none, rfl, h⟩
    | true =>
      refine (RlgWalkD.new_made hs A n c l w hr hb h63 h1 h2).mono ?_
      rintro e w' ⟨p, v, rfl, _, h⟩
      have : okB s l = true := by unfold okB; rw [h1, h2]; rfl
      rw [this]
      exact ⟨_, rfl, h⟩
theorem check_hid {s : Snap} {b : Bool} {l : List Ent} (hs : SnapB s) (A : Option Addr) (n c : Nat) (w : World) (hr : RE w w.heap.size A n l) (hb : ∀ e ∈ l, EntB e) (h63 : n * 40 ≤ 140737488355328) (ho : Hid (okB s l = b)) :
    Calls Tryd.prog 50 #[.agg #[.int .u64 (s.idx : Int), .int .u64 (s.term : Int), .int .u64 (s.cfg : Int), .string s.data], .slice A n c] w (Checks w b) := by
  have := check_any s hs A n c l w hr hb h63
  rwa [ho.out] at this

/-- A new row of entries. -/
def Owns (w : World) (l : List Ent) (e : Ending) (w' : World) : Prop := ∃ A c, e = .returned (.slice A l.length c) ∧ w'.ownsRow w.heap.size 55 4 (.slice A l.length c) l.length (ecells l) ∧ Below w.heap.size w w'
set_option maxRecDepth 100000 in
theorem clone_some (ad : Addr) (n c : Nat) (l : List Ent) (w : World) (hr : RE w w.heap.size (some ad) n l) (hb : n * 40 ≤ 140737488355328) : Calls Tryd.prog 56 #[.slice (some ad) n c] w (Owns w l) := by
  have q := RlgWalkF.qE
  have hn := RE.len hr
  have HN := Lib.hid hn
  have hra : ∀ o, Reads (w.alloc o) w.heap.size 4 (some ad) n (ecells l) := fun o => Reads.alloc hr (Nat.le_refl _) o
  have hown := World.ownsRow_made (e := 55) (size := 4) w #[] 0 (base := w.heap.size) (Nat.le_refl _) (Nat.zero_le _) (by simp)
  have HO := Lib.hid hown
  clear hn hown
  go_enter Tryd.func56, Tryd.ntmps56
  go_wp2_with (first
    | (at_builtin
       refine wpList_app (v := .slice (some ⟨w.heap.size, 0, none⟩) 0 0) _ rfl _ _ rfl w.heap.size rfl HO.out rfl (hra _) (ecells_one l) (by omega) (by simp) ?_
       intro A' c' w1 hown1 hg1 hat1))
  have hb1 : Below w.heap.size w w1 := ((Below.refl _ w).alloc (Nat.le_refl _) _).grown hg1 (by simp) (by intro k hk; simp [Value.ownBlock] at hk; omega)
  rw [Nat.zero_add] at hown1
  have HR := Lib.hid hown1
  clear hown1 hat1
  go_wp2
  go_ret
  have hN := HN.out
  subst hN
  exact ⟨A', c', rfl, by simpa using HR.out, hb1⟩
set_option maxRecDepth 100000 in
theorem clone_own (A : Option Addr) (n c : Nat) (l : List Ent) (w : World) (hr : RE w w.heap.size A n l) (hb : n * 40 ≤ 140737488355328) : Calls Tryd.prog 56 #[.slice A n c] w (Owns w l) := by
  cases A with
  | some ad => exact clone_some ad n c l w hr hb
  | none =>
    have hn : n = 0 := by
      rcases Nat.eq_zero_or_pos n with h | h
      · exact h
      · obtain ⟨ad, e, _⟩ := hr.2 h; cases e
    have hl := RE.len hr
    subst hn
    rw [List.eq_nil_of_length_eq_zero hl]
    have q := RlgWalkF.qE
    go_enter Tryd.func56, Tryd.ntmps56
    go_wp2
    go_ret
    exact ⟨none, 0, rfl, World.ownsRow_nil _ _ _ _, Below.refl _ _⟩

/-- What a state's box holds. -/
def boxO (s : Sta) (A : Option Addr) (n c : Nat) : Obj := .cells #[.int .u64 (s.term : Int), .int .i64 s.vote, .int .u64 (s.snap.idx : Int), .int .u64 (s.snap.term : Int), .int .u64 (s.snap.cfg : Int), .string s.snap.data, .slice A n c] 37
set_option maxRecDepth 100000 in
set_option maxHeartbeats 1000000 in
theorem isState_any (s : Sta) (hs : StaB s) (A : Option Addr) (n c : Nat) (w : World) (hr : RE w w.heap.size A n s.es) (h63 : n * 40 ≤ 140737488355328) :
    Calls Tryd.prog 21 #[staV s A n c] w (TellsB w (right s)) := by
  have hba : Below w.heap.size w (w.alloc (boxO s A n c)) := (Below.refl _ _).alloc (Nat.le_refl _) _
  have hcb := heap_alloc_new w (boxO s A n c)
  unfold boxO at hcb
  have hck := check_any s.snap hs.snap A n c s.es (w.alloc (boxO s A n c)) ((Kit.Reads.below hr hba).more hba.size) hs.ents h63
  obtain ⟨r, hr1⟩ : ∃ r, right s = r := ⟨_, rfl⟩
  obtain ⟨o, ho⟩ : ∃ o, okB s.snap s.es = o := ⟨_, rfl⟩
  have hro : r = (o && voteB s.vote) := by rw [← hr1, ← ho]; rfl
  rw [ho] at hck
  have HCB := Lib.hid hcb
  rw [hr1]
  obtain ⟨tm, vt, ⟨ix, st, cf, d⟩, es⟩ := s
  unfold staV
  unfold boxO at hba hck
  simp only at hck hba hro hcb ⊢
  have HCK := Lib.hid hck
  have hvh := fun W => hard_any tm vt W
  have hsz : (w.alloc (.cells #[.int .u64 (tm : Int), .int .i64 vt, .int .u64 (ix : Int), .int .u64 (st : Int), .int .u64 (cf : Int), .string d, .slice A n c] 37)).heap.size = w.heap.size + 1 := by simp
  obtain ⟨q, hq⟩ : ∃ q, voteB vt = q := ⟨_, rfl⟩
  have HVH : Hid (∀ W, Calls Tryd.prog 28 #[.agg #[.int .u64 (tm : Int), .int .i64 vt]] W (TellsB W q)) := by rw [← hq]; exact hvh
  rw [hq] at hro
  clear hck hr1 ho hr hs hvh hq hcb
  go_enter Tryd.func21, Tryd.ntmps21
  go_wp2_with fail
  refine HCK.out.mono ?_
  rintro e w1 ⟨a, rfl, hb1⟩
  have hcb1 := (hb1.block w.heap.size (lt_at HCB.out)).trans HCB.out
  have d0 : w1.cell? ⟨w.heap.size, 0, none⟩ = some (.int .u64 (tm : Int)) := by rw [cell_at hcb1]; rfl
  have d1 : w1.cell? ⟨w.heap.size, 1, none⟩ = some (.int .i64 vt) := by rw [cell_at hcb1]; rfl
  have hB1 := hba.trans (hb1.mono hba.size)
  have hlt1 := lt_at hcb1
  clear hcb1
  cases o with
  | false =>
    obtain rfl : r = false := hro
    go_wp2_with fail
    go_wp2
    go_ret
    exact ⟨rfl, hB1⟩
  | true =>
    obtain rfl : r = q := by rw [hro]; rfl
    clear hro
    go_wp2_with fail
    refine (HVH.out _).mono ?_
    rintro e w2 ⟨rfl, hb2⟩
    go_wp2
    go_ret
    exact ⟨rfl, hB1.trans (hb2.mono hB1.size)⟩

/-- Seven stores into a block of seven cells. -/
theorem set7 {w : World} {b : Nat} {cs : Array Value} {T : TypeId} (h : w.heap[b]? = some (.cells cs T (0, 0))) (hs : cs.size = 7) (a0 a1 a2 a3 a4 a5 a6 : Value) :
    (((((((w.setCell ⟨b, 0, none⟩ a0).setCell ⟨b, 1, none⟩ a1).setCell ⟨b, 2, none⟩ a2).setCell ⟨b, 3, none⟩ a3).setCell ⟨b, 4, none⟩ a4).setCell ⟨b, 5, none⟩ a5).setCell ⟨b, 6, none⟩ a6).heap[b]? = some (.cells #[a0, a1, a2, a3, a4, a5, a6] T (0, 0)) ∧
    Only (fun q => q = b) w (((((((w.setCell ⟨b, 0, none⟩ a0).setCell ⟨b, 1, none⟩ a1).setCell ⟨b, 2, none⟩ a2).setCell ⟨b, 3, none⟩ a3).setCell ⟨b, 4, none⟩ a4).setCell ⟨b, 5, none⟩ a5).setCell ⟨b, 6, none⟩ a6) := by
  refine ⟨?_, ?_⟩
  · rw [set_at (set_at (set_at (set_at (set_at (set_at (set_at h _) _) _) _) _) _) _]
    obtain ⟨l⟩ := cs
    match l, hs with
    | [c0, c1, c2, c3, c4, c5, c6], _ => rfl
  · exact (((((((Only.refl (fun q => q = b) w).setCell (a := ⟨b, 0, none⟩) (.inr rfl) _).setCell (a := ⟨b, 1, none⟩) (.inr rfl) _).setCell (a := ⟨b, 2, none⟩) (.inr rfl) _).setCell (a := ⟨b, 3, none⟩) (.inr rfl) _).setCell (a := ⟨b, 4, none⟩) (.inr rfl) _).setCell (a := ⟨b, 5, none⟩) (.inr rfl) _).setCell (a := ⟨b, 6, none⟩) (.inr rfl) _
/-- A state is handed back, its entries new. -/
def Gives (w : World) (s : Sta) (e : Ending) (w' : World) : Prop := ∃ A c, e = .returned (staV s A s.es.length c) ∧ w'.ownsRow w.heap.size 55 4 (.slice A s.es.length c) s.es.length (ecells s.es) ∧ Below w.heap.size w w'
theorem Gives.reads {w w' : World} {s : Sta} {A : Option Addr} {c : Nat} (h : w'.ownsRow w.heap.size 55 4 (.slice A s.es.length c) s.es.length (ecells s.es)) : RE w' w'.heap.size A s.es.length s.es := by
  obtain ⟨A', c', he, _, _, hr⟩ := own_form h
  cases he
  exact hr
set_option maxRecDepth 100000 in
set_option maxHeartbeats 1000000 in
theorem copied_any (s : Sta) (A : Option Addr) (n c : Nat) (w : World) (hr : RE w w.heap.size A n s.es) (h63 : n * 40 ≤ 140737488355328) :
    Calls Tryd.prog 26 #[staV s A n c] w (Gives w s) := by
  have hn := RE.len hr
  obtain ⟨Z, hZ⟩ : ∃ Z, (#[.int .u64 0, .int .i64 0, .int .u64 0, .int .u64 0, .int .u64 0, .string ⟨#[]⟩, .slice none 0 0] : Array Value) = Z := ⟨_, rfl⟩
  have hba : Below w.heap.size w ((w.alloc (boxO s A n c)).alloc (.cells Z 37)) := ((Below.refl _ _).alloc (Nat.le_refl _) _).alloc (by simp) _
  have hcb := heap_alloc_new w (boxO s A n c)
  have hcz := heap_alloc_new (w.alloc (boxO s A n c)) (.cells Z 37)
  have hcl := clone_own A n c s.es _ ((Kit.Reads.below hr hba).more hba.size) h63
  subst hZ
  unfold boxO at hcb hcl hba hcz
  obtain ⟨tm, vt, ⟨ix, st, cf, d⟩, es⟩ := s
  unfold staV Gives staV
  simp only at *
  obtain ⟨w0, hw0⟩ : ∃ w0, (w.alloc (.cells #[.int .u64 (tm : Int), .int .i64 vt, .int .u64 (ix : Int), .int .u64 (st : Int), .int .u64 (cf : Int), .string d, .slice A n c] 37)).alloc (.cells #[.int .u64 0, .int .i64 0, .int .u64 0, .int .u64 0, .int .u64 0, .string ⟨#[]⟩, .slice none 0 0] 37) = w0 := ⟨_, rfl⟩
  have hs1 : (w.alloc (.cells #[.int .u64 (tm : Int), .int .i64 vt, .int .u64 (ix : Int), .int .u64 (st : Int), .int .u64 (cf : Int), .string d, .slice A n c] 37)).heap.size = w.heap.size + 1 := by simp
  rw [hs1, hw0] at hcz
  have hcb0 : w0.heap[w.heap.size]? = some (.cells #[.int .u64 (tm : Int), .int .i64 vt, .int .u64 (ix : Int), .int .u64 (st : Int), .int .u64 (cf : Int), .string d, .slice A n c] 37 (0, 0)) := by
    rw [← hw0, Below.heap_alloc _ _ _ (lt_at hcb)]
    exact hcb
  rw [hw0] at hcl hba
  have h63b : n ≤ 9223372036854775807 := by omega
  have e6 : w0.cell? ⟨w.heap.size, 6, none⟩ = some (.slice A n c) := by rw [cell_at hcb0]; rfl
  have hltb : w.heap.size < w0.heap.size := lt_at hcb0
  have HCL := Lib.hid hcl
  have HCB := Lib.hid hcb0
  have HCZ := Lib.hid hcz
  have HW0 := Lib.hid hw0
  clear hcl hcb0 hcz hw0 hcb hs1 hr
  go_enter Tryd.func26, Tryd.ntmps26
  go_wp2_with fail
  rw [HW0.out]
  refine HCL.out.mono ?_
  rintro e w1 ⟨A', c', rfl, hown, hb1⟩
  have hcb1 := (hb1.block w.heap.size (lt_at HCB.out)).trans HCB.out
  have hcz1 := (hb1.block (w.heap.size + 1) (lt_at HCZ.out)).trans HCZ.out
  have d0 : w1.cell? ⟨w.heap.size, 0, none⟩ = some (.int .u64 (tm : Int)) := by rw [cell_at hcb1]; rfl
  have d1 : w1.cell? ⟨w.heap.size, 1, none⟩ = some (.int .i64 vt) := by rw [cell_at hcb1]; rfl
  have d2 : w1.cell? ⟨w.heap.size, 2, none⟩ = some (.int .u64 (ix : Int)) := by rw [cell_at hcb1]; rfl
  have d3 : w1.cell? ⟨w.heap.size, 3, none⟩ = some (.int .u64 (st : Int)) := by rw [cell_at hcb1]; rfl
  have d4 : w1.cell? ⟨w.heap.size, 4, none⟩ = some (.int .u64 (cf : Int)) := by rw [cell_at hcb1]; rfl
  have d5 : w1.cell? ⟨w.heap.size, 5, none⟩ = some (.string d) := by rw [cell_at hcb1]; rfl
  have d6 : w1.cell? ⟨w.heap.size, 6, none⟩ = some (.slice A n c) := by rw [cell_at hcb1]; rfl
  have z0 : w1.cell? ⟨w.heap.size + 1, 0, none⟩ = some (.int .u64 0) := by rw [cell_at hcz1]; rfl
  have g0 := free_at hcz1 0
  have z1 : w1.cell? ⟨w.heap.size + 1, 1, none⟩ = some (.int .i64 0) := by rw [cell_at hcz1]; rfl
  have g1 := free_at hcz1 1
  have z2 : w1.cell? ⟨w.heap.size + 1, 2, none⟩ = some (.int .u64 0) := by rw [cell_at hcz1]; rfl
  have g2 := free_at hcz1 2
  have z3 : w1.cell? ⟨w.heap.size + 1, 3, none⟩ = some (.int .u64 0) := by rw [cell_at hcz1]; rfl
  have g3 := free_at hcz1 3
  have z4 : w1.cell? ⟨w.heap.size + 1, 4, none⟩ = some (.int .u64 0) := by rw [cell_at hcz1]; rfl
  have g4 := free_at hcz1 4
  have z5 : w1.cell? ⟨w.heap.size + 1, 5, none⟩ = some (.string ⟨#[]⟩) := by rw [cell_at hcz1]; rfl
  have g5 := free_at hcz1 5
  have z6 : w1.cell? ⟨w.heap.size + 1, 6, none⟩ = some (.slice none 0 0) := by rw [cell_at hcz1]; rfl
  have g6 := free_at hcz1 6
  have f6 := free_at hcb1 6
  have hlt1 := lt_at hcb1
  have hlt2 := lt_at hcz1
  have H1 := Lib.hid hcb1
  have HZ1 := Lib.hid hcz1
  have HOwn := Lib.hid hown
  have HB1 := Lib.hid (hba.trans (hb1.mono hba.size))
  have HSZ := Lib.hid hba.size
  clear hcb1 hcz1 hown hb1
  go_wp2_with fail
  subst hn
  have o1 : Only (fun q => q = w.heap.size) w1 (w1.setCell ⟨w.heap.size, 6, none⟩ (.slice A' es.length c')) := (Only.refl (fun q => q = w.heap.size) w1).setCell (a := ⟨w.heap.size, 6, none⟩) (.inr rfl) _
  obtain ⟨hblk, o2⟩ := set7 (o1.heap HZ1.out (by omega)) rfl (.int .u64 (tm : Int)) (.int .i64 vt) (.int .u64 (ix : Int)) (.int .u64 (st : Int)) (.int .u64 (cf : Int)) (.string d) (.slice A' es.length c')
  refine bodyPost_ret (results_cell_row (p := 2) (ty := 37) rfl _ _ (w.heap.size + 1) 37 _ (0, 0) _ rfl hblk Tryd.underlying37 rfl (by kernel_rfl)) rfl ?_
  have hne1 : ∀ q, (Value.slice A' es.length c').ownBlock = some q → q ≠ w.heap.size := fun q hq e => by have := (HOwn.out.lt q hq).1; have := lt_at HCB.out; omega
  have hne2 : ∀ q, (Value.slice A' es.length c').ownBlock = some q → q ≠ w.heap.size + 1 := fun q hq e => by have := (HOwn.out.lt q hq).1; have := lt_at HCZ.out; omega
  exact ⟨A', c', rfl, own_base (o2.own (o1.own HOwn.out hne1) hne2) HSZ.out, HB1.out.trans ((o1.below HB1.out.size fun k hk => by omega).trans (o2.below (Nat.le_trans HB1.out.size o1.size) fun k hk => by omega))⟩
end Go.Proofs.YtamncdpeklbhlaaDoor.Few
