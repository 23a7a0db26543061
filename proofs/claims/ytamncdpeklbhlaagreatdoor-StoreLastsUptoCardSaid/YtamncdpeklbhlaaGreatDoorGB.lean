/- What the document's records are, walked. -/
import Derived.Test.YtamncdpeklbhlaaGreatDoorFrm
import Derived.Test.YtamncdpeklbhlaaGreatDoorG0
import Derived.Test.YtamncdpeklbhlaaGreatDoorReads
import Derived.Test.YtamncdpeklbhlaaGreatDoorRlog
import Derived.Test.YtamncdpeklbhlaaGreatDoorGA
import Derived.Deep.RegionHeld3
import Derived.BigRegion
set_option linter.unusedVariables false
set_option linter.unusedSimpArgs false
namespace Go.Proofs.YtamncdpeklbhlaaGreatDoor.Log
open Go.RowKit Go.Proofs.YtamncdpeklbhlaaGreatDoor.Kit Go.Proofs.YtamncdpeklbhlaaGreatDoor.Blocks Go.Proofs.YtamncdpeklbhlaaGreatDoor.SumB Go.Proofs.YtamncdpeklbhlaaGreatDoor.Wal Go.Proofs.YtamncdpeklbhlaaGreatDoor.FrA Go.Proofs.YtamncdpeklbhlaaGreatDoor.FrC Go.Proofs.YtamncdpeklbhlaaGreatDoor.ScA Go.Proofs.YtamncdpeklbhlaaGreatDoor.ScB Go.Proofs.YtamncdpeklbhlaaGreatDoor.Frm Go.Proofs.YtamncdpeklbhlaaGreatDoor.Model Go.Proofs.YtamncdpeklbhlaaGreatDoor.Disk Go.Proofs.YtamncdpeklbhlaaGreatDoor.Ops
open Go.Proofs.YtamncdpeklbhlaaGreatDoor.DskWalkC (str Got)
open Go.Proofs.YtamncdpeklbhlaaGreatDoor.Model.M

/-- What Open answers (an error's number, records), and makes of a disk; what Append and Anew do. -/
noncomputable def behind (m : M) (n : Int) (s : List UInt8) : (Int × List (List UInt8)) × M :=
  if (scan s).2 < s.length then (if (m.replace n (s.take (scan s).2)).1 = 0 then ((0, (scan s).1), (m.replace n (s.take (scan s).2)).2) else (((m.replace n (s.take (scan s).2)).1, []), (m.replace n (s.take (scan s).2)).2))
  else (if (m.sync n).1 = 0 then ((0, (scan s).1), (m.sync n).2) else (((m.sync n).1, []), (m.sync n).2))
noncomputable def wopen (m : M) (n : Int) : (Int × List (List UInt8)) × M :=
  if ¬ (0 ≤ n ∧ n < 16) then ((1, []), m) else if m.off = true then ((10, []), m)
  else if m.has n = false then (if (m.replace n []).1 = 0 then behind (m.replace n []).2 n [] else (((m.replace n []).1, []), (m.replace n []).2))
  else behind m n (m.all n.toNat)
noncomputable def wappend (m : M) (n : Int) (l : List (List UInt8)) : Int × M :=
  if Recs l then (if (m.append n (frames l)).1 = 0 then (m.append n (frames l)).2.sync n else m.append n (frames l)) else (3, m)
noncomputable def wanew (m : M) (n : Int) (l : List (List UInt8)) : Int × M := if Recs l then m.replace n (frames l) else (3, m)

/-- Block b is a log: a disk, a file's number. -/
def LogAt (w : World) (b p : Nat) (n : Int) : Prop := w.heap[b]? = some (.cells #[.pointer (some ⟨p, 0, none⟩), .int .i64 n] 130 (0, 0))
section
variable {B : Nat} {L : List Nat} {w w' : World} {b p : Nat} {n : Int}
theorem LogAt.disk (h : LogAt w b p n) : w.cell? ⟨b, 0, none⟩ = some (.pointer (some ⟨p, 0, none⟩)) := by rw [cell_at h]; rfl
theorem LogAt.file (h : LogAt w b p n) : w.cell? ⟨b, 1, none⟩ = some (.int .i64 n) := by rw [cell_at h]; rfl
theorem LogAt.below (h : LogAt w b p n) (k : Below w.heap.size w w') : LogAt w' b p n := (k.block b (lt_at h)).trans h
theorem LogAt.keeps (h : LogAt w b p n) (k : Keeps B L w w') (hb : b ∈ L) : LogAt w' b p n := k.heap h (.inr hb)
end
theorem wopen_arg {m : M} {n : Int} (h : ¬ (0 ≤ n ∧ n < 16)) : wopen m n = ((1, []), m) := if_pos h
theorem wopen_off {m : M} {n : Int} (h : 0 ≤ n ∧ n < 16) (ho : m.off = true) : wopen m n = ((10, []), m) := by
  unfold wopen
  rw [if_neg fun k => k h, if_pos ho]
theorem wopen_new {m : M} {n : Int} (h : 0 ≤ n ∧ n < 16) (ho : m.off = false) (hh : m.has n = false) :
    wopen m n = if (m.replace n []).1 = 0 then behind (m.replace n []).2 n [] else (((m.replace n []).1, []), (m.replace n []).2) := by
  unfold wopen
  rw [if_neg fun k => k h, if_neg (by simp [ho]), if_pos hh]
theorem wopen_old {m : M} {n : Int} (h : 0 ≤ n ∧ n < 16) (ho : m.off = false) (hh : m.has n = true) : wopen m n = behind m n (m.all n.toNat) := by
  unfold wopen
  rw [if_neg fun k => k h, if_neg (by simp [ho]), if_neg (by simp [hh])]
/-- What Open leaves. -/
def Opened (B : Nat) (L : List Nat) (w : World) (p N : Nat) (n : Int) (r : (Int × List (List UInt8)) × M) (e : Ending) (w' : World) : Prop :=
  (r.1.1 ≠ 0 ∧ e = .returned (.tuple #[.pointer none, .slice none 0 0, .int .i64 r.1.1]) ∧ Has B L w' p N r.2 ∧ Keeps B L w w') ∨
  (r.1.1 = 0 ∧ ∃ b A c, e = .returned (.tuple #[.pointer (some ⟨b, 0, none⟩), .slice A r.1.2.length c, .int .i64 0]) ∧ LogAt w' b p n ∧ RS w' A r.1.2.length r.1.2 ∧ Has B (b :: L) w' p N r.2 ∧ Keeps B L w w' ∧ w.heap.size ≤ b)

theorem Done.lit {B : Nat} {L : List Nat} {w w' : World} {p N : Nat} {r : Int × M} {e : Ending} (h : Done B L w p N r e w') {f : Int} {m' : M} (hf : Hid (r.1 = f)) (hm : Hid (r.2 = m')) : e = .returned (.int .i64 f) ∧ Has B L w' p N m' ∧ Keeps B L w w' := by
  obtain ⟨h1, h2, h3⟩ := h
  rw [hf.out] at h1
  rw [hm.out] at h2
  exact ⟨h1, h2, h3⟩
theorem Got.lit {w w' : World} {l : List UInt8} {f : Int} {e : Ending} (h : Got w l f e w') {s : ByteArray} {f' : Int} (hs : Hid (str l = s)) (hf : Hid (f = f')) : e = .returned (.tuple #[.string s, .int .i64 f']) ∧ Below w.heap.size w w' := by
  obtain ⟨h1, h2⟩ := h
  rw [hs.out, hf.out] at h1
  exact ⟨h1, h2⟩

section
variable {B : Nat} {L : List Nat} {w : World} {p N : Nat} {m : M}

set_option maxRecDepth 100000 in
theorem open_arg (a : Option Addr) (n : Int) (w : World) (hn : ¬ (0 ≤ n ∧ n < 16)) :
    Calls Tryz.prog 29 #[.pointer a, .int .i64 n] w fun e w' => e = .returned (.tuple #[.pointer none, .slice none 0 0, .int .i64 1]) ∧ w = w' := by
  rcases (show n < 0 ∨ 16 ≤ n by omega) with h | h
  · go_enter Tryz.func29, Tryz.ntmps29
    go_wp2
    go_ret3
    exact ⟨rfl, rfl⟩
  · have h2 : ¬ n < 0 := by omega
    go_enter Tryz.func29, Tryz.ntmps29
    go_wp2
    go_ret3
    exact ⟨rfl, rfl⟩
set_option maxRecDepth 100000 in
theorem open_none (n : Int) (w : World) (hn : 0 ≤ n ∧ n < 16) :
    Calls Tryz.prog 29 #[.pointer none, .int .i64 n] w fun e w' => e = .returned (.tuple #[.pointer none, .slice none 0 0, .int .i64 10]) ∧ Below w.heap.size w w' := by
  have h1 := hn.1
  have h2 := hn.2
  go_enter Tryz.func29, Tryz.ntmps29
  go_wp2_with fail
  refine (DskWalkC.read_nil n w).mono ?_
  rintro e w' ⟨rfl, hb⟩
  go_wp2
  go_ret3
  exact ⟨rfl, hb⟩

set_option maxRecDepth 100000 in
set_option maxHeartbeats 2000000 in
theorem open_off (n : Int) (h : Has B L w p N m) (hn : 0 ≤ n ∧ n < 16) (hoff : m.off = true) :
    Calls Tryz.prog 29 #[.pointer (some ⟨p, 0, none⟩), .int .i64 n] w fun e w' => e = .returned (.tuple #[.pointer none, .slice none 0 0, .int .i64 10]) ∧ Below w.heap.size w w' := by
  have hr := read_has n h (by omega) (by omega)
  have e1 : m.read n = ([], 10) := by simp [M.read, hoff]
  rw [e1] at hr
  have HR := Lib.hid hr
  have h1 := hn.1
  have h2 := hn.2
  clear hr e1
  go_enter Tryz.func29, Tryz.ntmps29
  go_wp2_with fail
  refine HR.out.mono ?_
  rintro e w' ⟨rfl, hb⟩
  go_wp2
  go_ret3
  exact ⟨rfl, hb⟩

/-- Records that were scanned, beside a disk. -/
theorem beside_scan {w' : World} {v : Value} {r : List (List UInt8)} (h : Has B L w p N m) (hown : w'.ownsRow w.heap.size 9 1 v r.length (strs r)) (hb : Below w.heap.size w w') :
    ∃ A c L', v = .slice A r.length c ∧ Has B L' w' p N m ∧ (∀ y, y ∈ L → y ∈ L') ∧ ∀ w'', Keeps B L' w' w'' → RS w'' A r.length r := by
  obtain ⟨A, c, rfl, h1, h2, h3⟩ := own_form hown
  cases A with
  | none =>
    refine ⟨none, c, L, rfl, h.below hb, fun y hy => hy, fun w'' k => ?_⟩
    have h0 : r.length = 0 := by
      rcases Nat.eq_zero_or_pos r.length with h0 | h0
      · exact h0
      · obtain ⟨ad, e, _⟩ := h3.2 h0
        cases e
    have hr : r = [] := List.eq_nil_of_length_eq_zero h0
    subst hr
    exact Reads.none_
  | some ad =>
    rcases hown.2 with ⟨e, h0⟩ | ⟨g, cap, cur, e, hg1, hg2, hrest⟩
    · cases e
    · injection e with e1 e2 e3
      injection e1 with e1
      subst e1 e3
      have hlt := lt_at hg2
      refine ⟨_, c, g :: L, rfl, h.beside hb hg1 hlt, fun y hy => List.mem_cons_of_mem _ hy, fun w'' k => ?_⟩
      have hown2 : w''.ownsRow w.heap.size 9 1 (.slice (some ⟨g, 0, none⟩) r.length c) r.length (strs r) := Only.own k hown fun g' hg' => by
        simp only [Value.ownBlock, Option.some.injEq] at hg'
        subst hg'
        simp
      exact Reads.of_own hown2
end
end Go.Proofs.YtamncdpeklbhlaaGreatDoor.Log
set_option linter.unusedVariables false
set_option linter.unusedSimpArgs false
namespace Go.Proofs.YtamncdpeklbhlaaGreatDoor.Sto
open Go.Proofs.YtamncdpeklbhlaaGreatDoor.Num (num)
open Go.Proofs.YtamncdpeklbhlaaGreatDoor.Rlog
open Go.Proofs.YtamncdpeklbhlaaGreatDoor.Quorum (sound)
open Go.Proofs.YtamncdpeklbhlaaGreatDoor.PckWalkB (text)
open Go.Proofs.YtamncdpeklbhlaaGreatDoor.PckWalkC (gotB restB frontB gotB_lt)
open Go.Proofs.YtamncdpeklbhlaaGreatDoor.PckWalkD (badB)
open Go.Proofs.YtamncdpeklbhlaaGreatDoor.PckWalkE (upOk upV upR upB textOk textV textR textB)
open Go.Proofs.YtamncdpeklbhlaaGreatDoor.PckWalkH (str str_list str_size str_back)
open Go.Proofs.YtamncdpeklbhlaaGreatDoor.Reads (got_laid rest_laid bad_laid upV_laid upR_laid upB_laid upV_over upR_over upB_over textV_laid textR_laid textB_laid textB_over str_nil bad_empty)

/-- All that lasts of a node. -/
structure Sta where
  term : Nat
  vote : Int
  snap : Snap
  es : List Ent
structure StaB (s : Sta) : Prop where
  term : s.term < 18446744073709551616
  v0 : -9223372036854775808 ≤ s.vote
  v1 : s.vote ≤ 9223372036854775807
  snap : SnapB s.snap
  ents : ∀ e ∈ s.es, EntB e

/-- Do a snapshot and entries make a log? A vote; a state. -/
def okB (s : Snap) (l : List Ent) : Bool := sound s.cfg && chained l s.idx s.term
def voteB (v : Int) : Bool := decide (-1 ≤ v ∧ v < 7)
def right (s : Sta) : Bool := okB s.snap s.es && voteB s.vote
def first (c : Nat) : Sta := ⟨0, -1, ⟨0, 0, c, ByteArray.empty⟩, []⟩
def below (i : Nat) (e : Ent) : Bool := decide (e.idx < i)

/-! ### What a record makes -/
def done (s : ByteArray) (bad : Bool) : Bool := decide (s.size = 0) && !bad
structure Rd where
  s : ByteArray
  bad : Bool
def Rd.num (r : Rd) : Rd := ⟨restB r.s, badB r.s r.bad⟩
def Rd.up (r : Rd) (k : Int) : Rd := ⟨upR r.s k, upB r.s r.bad k⟩
def Rd.text (r : Rd) (k : Int) : Rd := ⟨textR r.s k, textB r.s r.bad k⟩
def Rd.done (r : Rd) : Bool := Sto.done r.s r.bad
def rd0 (b : ByteArray) : Rd := ⟨b, false⟩
def kind (b : ByteArray) : Nat := gotB b
def rd1 (b : ByteArray) : Rd := (rd0 b).num
def rd2 (b : ByteArray) : Rd := (rd1 b).num
def rd3 (b : ByteArray) : Rd := (rd2 b).num
def rd4 (b : ByteArray) : Rd := (rd3 b).num
def sayHard (s : Sta) (b : ByteArray) : Sta := { s with term := gotB (rd1 b).s, vote := (upV (rd2 b).s 7 : Int) - 1 }
def entOf (b : ByteArray) : Ent := ⟨gotB (rd1 b).s, gotB (rd2 b).s, (upV (rd3 b).s 2 : Int), textV ((rd3 b).up 2).s 65536⟩
def sayEnt (s : Sta) (b : ByteArray) : Sta := { s with es := s.es ++ [entOf b] }
def sayCut (s : Sta) (i : Nat) : Sta := { s with es := s.es.takeWhile (below i) }
def snapOf (b : ByteArray) : Snap := ⟨gotB (rd1 b).s, gotB (rd2 b).s, gotB (rd3 b).s, textV (rd4 b).s 65536⟩
def saySnap (s : Sta) (p : Snap) : Sta := { s with snap := p, es := [] }
/-- What a record makes of a state, and whether it is one. -/
def say (s : Sta) (b : ByteArray) : Sta × Bool :=
  if kind b = 1 then (sayHard s b, ((rd2 b).up 7).done)
  else if kind b = 2 then (sayEnt s b, (((rd3 b).up 2).text 65536).done)
  else if kind b = 3 then (sayCut s (gotB (rd1 b).s), (rd2 b).done)
  else if kind b = 4 then (saySnap s (snapOf b), ((rd4 b).text 65536).done)
  else (s, false)
def makes : Sta → List (List UInt8) → Option Sta
  | s, [] => some s
  | s, x :: r => if (say s (str x)).2 = true then makes (say s (str x)).1 r else none
/-- What records say of a beginning. -/
def said (c : Nat) (l : List (List UInt8)) : Option Sta := match makes (first c) l with
  | none => none
  | some s => if right s = true then some s else none

theorem first_b {c : Nat} (h : c < 18446744073709551616) : StaB (first c) := ⟨by show 0 < _; decide, by show _ ≤ (-1 : Int); decide, by show (-1 : Int) ≤ _; decide, ⟨by show 0 < _; decide, by show 0 < _; decide, h⟩, by simp [first]⟩
theorem first_right {c : Nat} (h : sound c = true) : right (first c) = true := by simp [right, first, okB, chained, h, voteB]
theorem upV_le {s : ByteArray} {k : Int} (h0 : 0 ≤ k) : (upV s k : Int) ≤ k := by
  unfold upV
  split
  · rename_i h
    unfold upOk at h
    have := of_decide_eq_true h
    omega
  · simpa using h0
theorem upR_size (s : ByteArray) (k : Int) : (upR s k).size ≤ s.size := PckWalkE.upR_le s k
theorem textV_size (s : ByteArray) (k : Int) : (textV s k).size ≤ s.size := by
  have h1 := upR_size s k
  unfold textV
  split
  · rw [ByteArray.size_extract]; omega
  · simp
theorem rest_size (s : ByteArray) : (restB s).size ≤ s.size := PckWalkD.restB_le s
theorem rd1_size (b : ByteArray) : (rd1 b).s.size ≤ b.size := rest_size b
theorem rd2_size (b : ByteArray) : (rd2 b).s.size ≤ b.size := Nat.le_trans (rest_size _) (rd1_size b)
theorem rd3_size (b : ByteArray) : (rd3 b).s.size ≤ b.size := Nat.le_trans (rest_size _) (rd2_size b)
theorem rd4_size (b : ByteArray) : (rd4 b).s.size ≤ b.size := Nat.le_trans (rest_size _) (rd3_size b)
theorem ent_b {b : ByteArray} (hb : b.size ≤ 9223372036854775807) : EntB (entOf b) := by
  have h1 := upV_le (s := (rd3 b).s) (k := 2) (by decide)
  refine ⟨gotB_lt _, gotB_lt _, by simp only [entOf]; omega, by simp only [entOf]; omega, ?_⟩
  have h2 := textV_size ((rd3 b).up 2).s 65536
  have h3 := upR_size (rd3 b).s 2
  have h4 := rd3_size b
  simp only [entOf]
  unfold Rd.up at h2 ⊢
  simp only at h2 ⊢
  omega
theorem say_b {s : Sta} {b : ByteArray} (h : StaB s) (hb : b.size ≤ 9223372036854775807) : StaB (say s b).1 := by
  unfold say
  split
  · have h1 := upV_le (s := (rd2 b).s) (k := 7) (by decide)
    exact ⟨gotB_lt _, by simp only [sayHard]; omega, by simp only [sayHard]; omega, h.snap, h.ents⟩
  split
  · refine ⟨h.term, h.v0, h.v1, h.snap, fun e he => ?_⟩
    simp only [sayEnt, List.mem_append, List.mem_singleton] at he
    rcases he with he | rfl
    · exact h.ents e he
    · exact ent_b hb
  split
  · exact ⟨h.term, h.v0, h.v1, h.snap, fun e he => h.ents e ((List.takeWhile_sublist _).subset he)⟩
  split
  · exact ⟨h.term, h.v0, h.v1, ⟨gotB_lt _, gotB_lt _, gotB_lt _⟩, by simp [saySnap]⟩
  · exact h
theorem say_len (s : Sta) (b : ByteArray) : (say s b).1.es.length ≤ s.es.length + 1 := by
  unfold say
  split
  · simp [sayHard]
  split
  · simp [sayEnt]
  split
  · have := (List.takeWhile_sublist (l := s.es) (below (gotB (rd1 b).s))).length_le
    simp only [sayCut]
    omega
  split
  · simp [saySnap]
  · simp
theorem makes_append : ∀ (a b : List (List UInt8)) (s : Sta), makes s (a ++ b) = (makes s a).bind fun t => makes t b
  | [], b, s => rfl
  | x :: a, b, s => by
    simp only [List.cons_append, makes]
    split
    · exact makes_append a b _
    · rfl
theorem makes_b : ∀ (l : List (List UInt8)) {s t : Sta}, StaB s → (∀ x ∈ l, x.length ≤ 9223372036854775807) → makes s l = some t → StaB t
  | [], s, t, h, _, he => by simp only [makes, Option.some.injEq] at he; exact he ▸ h
  | x :: l, s, t, h, hl, he => by
    simp only [makes] at he
    split at he
    · exact makes_b l (say_b h (by rw [str_size]; exact hl x (by simp))) (fun y hy => hl y (by simp [hy])) he
    · cases he
theorem makes_len : ∀ (l : List (List UInt8)) {s t : Sta}, makes s l = some t → t.es.length ≤ s.es.length + l.length
  | [], s, t, he => by simp only [makes, Option.some.injEq] at he; subst he; simp
  | x :: l, s, t, he => by
    simp only [makes] at he
    split at he
    · have h1 := makes_len l he
      have h2 := say_len s (str x)
      simp only [List.length_cons]
      omega
    · cases he

/-! ### Records -/
/-- A number of 64 bits as one without a sign. -/
def uns (z : Int) : Nat := (z % 18446744073709551616).toNat
theorem uns_lt (z : Int) : uns z < 18446744073709551616 := by unfold uns; omega
theorem uns_pos {z : Int} (h0 : 0 ≤ z) (h1 : z < 18446744073709551616) : (uns z : Int) = z := by unfold uns; omega
def recHard (t : Nat) (v : Int) : List UInt8 := num 1 ++ (num t ++ num (uns (v + 1)))
def recEnt (e : Ent) : List UInt8 := num 2 ++ (num e.term ++ (num e.idx ++ (num (uns e.kind) ++ text e.data)))
def recCut (i : Nat) : List UInt8 := num 3 ++ num i
def recSnap (p : Snap) : List UInt8 := num 4 ++ (num p.idx ++ (num p.term ++ (num p.cfg ++ text p.data)))
theorem num9 {x : Nat} (h : x < 18446744073709551616) : (num x).length ≤ 9 := by rw [Num.num_length]; have := Num.wide_le8 h; omega
theorem num_small {x : Nat} (h : x < 256) : (num x).length ≤ 2 := by rw [Num.num_length]; have := Num.wide_le (x := x) (n := 1) (by simpa using h); omega
theorem text_length (d : ByteArray) (h : d.size < 18446744073709551616) : (text d).length ≤ d.size + 9 := by unfold text; rw [List.length_append, ← Lib.size_eq]; have := num9 h; omega
theorem hard_length {t : Nat} {v : Int} (h : t < 18446744073709551616) : (recHard t v).length ≤ 20 := by
  have h1 := num9 h
  have h2 := num9 (uns_lt (v + 1))
  have h3 := num_small (x := 1) (by decide)
  simp only [recHard, List.length_append]
  omega
theorem ent_length {e : Ent} (h : EntB e) : (recEnt e).length ≤ e.data.size + 38 := by
  have h1 := num9 h.term
  have h2 := num9 h.idx
  have h3 := num9 (uns_lt e.kind)
  have h4 := text_length e.data (by have := h.size; omega)
  have h5 := num_small (x := 2) (by decide)
  simp only [recEnt, List.length_append]
  omega
theorem cut_length {i : Nat} (h : i < 18446744073709551616) : (recCut i).length ≤ 11 := by
  have h1 := num9 h
  have h5 := num_small (x := 3) (by decide)
  simp only [recCut, List.length_append]
  omega
theorem snap_length {p : Snap} (h : SnapB p) (hd : p.data.size < 18446744073709551616) : (recSnap p).length ≤ p.data.size + 38 := by
  have h1 := num9 h.idx
  have h2 := num9 h.term
  have h3 := num9 h.cfg
  have h4 := text_length p.data hd
  have h5 := num_small (x := 4) (by decide)
  simp only [recSnap, List.length_append]
  omega

section
theorem kind_laid {k : Nat} (hk : k < 18446744073709551616) (r : List UInt8) : kind (str (num k ++ r)) = k := got_laid hk r
theorem rd1_laid {k : Nat} (hk : k < 18446744073709551616) (r : List UInt8) : rd1 (str (num k ++ r)) = ⟨str r, false⟩ := by
  unfold rd1 rd0 Rd.num
  simp only
  rw [rest_laid hk, bad_laid hk]
theorem num_laid {x : Nat} (hx : x < 18446744073709551616) (r : List UInt8) (b : Bool) : Rd.num ⟨str (num x ++ r), b⟩ = ⟨str r, b⟩ := by
  unfold Rd.num
  simp only
  rw [rest_laid hx, bad_laid hx]
theorem up_laid {x : Nat} (hx : x < 18446744073709551616) (r : List UInt8) (b : Bool) {k : Int} (hk : (x : Int) ≤ k) : Rd.up ⟨str (num x ++ r), b⟩ k = ⟨str r, b⟩ := by
  unfold Rd.up
  simp only
  rw [upR_laid hx _ hk, upB_laid hx _ hk]
theorem up_over {x : Nat} (hx : x < 18446744073709551616) (r : List UInt8) (b : Bool) {k : Int} (hk : k < (x : Int)) : Rd.up ⟨str (num x ++ r), b⟩ k = ⟨ByteArray.empty, true⟩ := by
  unfold Rd.up
  simp only
  rw [upR_over hx _ hk, upB_over hx _ hk]
theorem done_bad (s : ByteArray) : Rd.done ⟨s, true⟩ = false := by simp [Rd.done, done]
theorem done_nil : Rd.done ⟨str [], false⟩ = true := by decide +kernel
theorem text_bad (s : ByteArray) (k : Int) (h : s.size = 0) : textB s true k = true := by
  have e : s = ByteArray.empty := by
    apply ByteArray.ext
    exact Array.size_eq_zero_iff.1 h
  subst e
  unfold textB
  split
  · unfold upB
    split
    · exact bad_empty _
    · rfl
  · rfl

theorem say_hard {s : Sta} {t : Nat} {v : Int} (ht : t < 18446744073709551616) (hv0 : -9223372036854775808 ≤ v) (hv1 : v ≤ 9223372036854775807) :
    (say s (str (recHard t v))).2 = voteB v ∧ (voteB v = true → (say s (str (recHard t v))).1 = { s with term := t, vote := v }) := by
  have hk : kind (str (recHard t v)) = 1 := kind_laid (by decide) _
  have h1 : rd1 (str (recHard t v)) = ⟨str (num t ++ num (uns (v + 1))), false⟩ := rd1_laid (by decide) _
  have h2 : rd2 (str (recHard t v)) = ⟨str (num (uns (v + 1)) ++ []), false⟩ := by
    unfold rd2
    rw [h1, num_laid ht, List.append_nil]
  unfold say
  rw [if_pos hk, h2]
  simp only
  by_cases h : voteB v = true
  · have hb := of_decide_eq_true h
    have hu := uns_pos (z := v + 1) (by omega) (by omega)
    refine ⟨?_, fun _ => ?_⟩
    · rw [up_laid (uns_lt _) _ _ (by omega), done_nil, h]
    · unfold sayHard
      rw [h1, h2]
      simp only
      rw [got_laid ht, upV_laid (uns_lt _) _ (by omega), hu]
      congr 1
      omega
  · have hb : ¬ (-1 ≤ v ∧ v < 7) := fun e => h (decide_eq_true e)
    have hu : (7 : Int) < (uns (v + 1) : Int) := by unfold uns; omega
    rw [up_over (uns_lt _) _ _ hu, done_bad]
    refine ⟨by simpa using h, fun e => absurd e h⟩
def entOk (e : Ent) : Bool := decide ((0 ≤ e.kind ∧ e.kind ≤ 2) ∧ e.data.size ≤ 65536)
theorem say_ent {s : Sta} {e : Ent} (h : EntB e) : (say s (str (recEnt e))).2 = entOk e ∧ (entOk e = true → (say s (str (recEnt e))).1 = { s with es := s.es ++ [e] }) := by
  have hk : kind (str (recEnt e)) = 2 := kind_laid (by decide) _
  have hz := h.size
  have h1 : rd1 (str (recEnt e)) = ⟨str (num e.term ++ (num e.idx ++ (num (uns e.kind) ++ text e.data))), false⟩ := rd1_laid (by decide) _
  have h2 : rd2 (str (recEnt e)) = ⟨str (num e.idx ++ (num (uns e.kind) ++ text e.data)), false⟩ := by
    unfold rd2
    rw [h1, num_laid h.term]
  have h3 : rd3 (str (recEnt e)) = ⟨str (num (uns e.kind) ++ text e.data), false⟩ := by
    unfold rd3
    rw [h2, num_laid h.idx]
  have k0 := h.k0
  have k1 := h.k1
  unfold say
  rw [if_neg (by rw [hk]; decide), if_pos hk]
  simp only
  by_cases hr : 0 ≤ e.kind ∧ e.kind ≤ 2
  · have hu := uns_pos (z := e.kind) hr.1 (by omega)
    have h4 : (rd3 (str (recEnt e))).up 2 = ⟨str (text e.data ++ []), false⟩ := by
      rw [h3, up_laid (uns_lt _) _ _ (by omega), List.append_nil]
    by_cases hd : e.data.size ≤ 65536
    · have ho : entOk e = true := decide_eq_true ⟨hr, hd⟩
      rw [ho, h4]
      refine ⟨?_, fun _ => ?_⟩
      · unfold Rd.text
        simp only
        rw [textR_laid (by omega) _ (by omega), textB_laid (by omega) _ (by omega), done_nil]
      · unfold sayEnt entOf
        rw [h4, h1, h2, h3]
        simp only
        rw [got_laid h.term, got_laid h.idx, upV_laid (uns_lt _) _ (by omega), hu, textV_laid (by omega) _ (by omega)]
    · have ho : entOk e = false := decide_eq_false fun k => hd k.2
      rw [ho, h4]
      refine ⟨?_, fun e => by cases e⟩
      unfold Rd.text
      simp only
      rw [textB_over (by omega) _ (by omega), done_bad]
  · have hu : (2 : Int) < (uns e.kind : Int) := by unfold uns; omega
    have ho : entOk e = false := decide_eq_false fun k => hr k.1
    rw [ho, h3, up_over (uns_lt _) _ _ hu]
    refine ⟨?_, fun e => by cases e⟩
    unfold Rd.text
    simp only
    rw [text_bad _ _ rfl, done_bad]
theorem say_cut {s : Sta} {i : Nat} (h : i < 18446744073709551616) : say s (str (recCut i)) = (sayCut s i, true) := by
  have hk : kind (str (recCut i)) = 3 := kind_laid (by decide) _
  have h1 : rd1 (str (recCut i)) = ⟨str (num i ++ []), false⟩ := by rw [List.append_nil]; exact rd1_laid (by decide) _
  have h2 : rd2 (str (recCut i)) = ⟨str [], false⟩ := by
    unfold rd2
    rw [h1, num_laid h]
  unfold say
  rw [if_neg (by rw [hk]; decide), if_neg (by rw [hk]; decide), if_pos hk, h2, done_nil, h1]
  simp only
  rw [got_laid h]
theorem say_snap {s : Sta} {p : Snap} (h : SnapB p) (hd : p.data.size ≤ 65536) : say s (str (recSnap p)) = (saySnap s p, true) := by
  have hk : kind (str (recSnap p)) = 4 := kind_laid (by decide) _
  have h1 : rd1 (str (recSnap p)) = ⟨str (num p.idx ++ (num p.term ++ (num p.cfg ++ text p.data))), false⟩ := rd1_laid (by decide) _
  have h2 : rd2 (str (recSnap p)) = ⟨str (num p.term ++ (num p.cfg ++ text p.data)), false⟩ := by
    unfold rd2
    rw [h1, num_laid h.idx]
  have h3 : rd3 (str (recSnap p)) = ⟨str (num p.cfg ++ text p.data), false⟩ := by
    unfold rd3
    rw [h2, num_laid h.term]
  have h4 : rd4 (str (recSnap p)) = ⟨str (text p.data ++ []), false⟩ := by
    unfold rd4
    rw [h3, num_laid h.cfg, List.append_nil]
  unfold say
  rw [if_neg (by rw [hk]; decide), if_neg (by rw [hk]; decide), if_neg (by rw [hk]; decide), if_pos hk]
  unfold Rd.text snapOf
  rw [h4, h1, h2, h3]
  simp only
  rw [textR_laid (by omega) _ (by omega), textB_laid (by omega) _ (by omega), done_nil, got_laid h.idx, got_laid h.term, got_laid h.cfg, textV_laid (by omega) _ (by omega)]
end
end Go.Proofs.YtamncdpeklbhlaaGreatDoor.Sto
set_option linter.unusedVariables false
set_option linter.unusedSimpArgs false
namespace Go.Proofs.YtamncdpeklbhlaaGreatDoor.Sav
open Go.Proofs.YtamncdpeklbhlaaGreatDoor.Rlog Go.Proofs.YtamncdpeklbhlaaGreatDoor.Sto
open Go.Proofs.YtamncdpeklbhlaaGreatDoor.Num (num)
open Go.Proofs.YtamncdpeklbhlaaGreatDoor.Quorum (sound)
open Go.Proofs.YtamncdpeklbhlaaGreatDoor.PckWalkH (str str_list str_size str_back)
open Go.Proofs.YtamncdpeklbhlaaGreatDoor.Model (M)
open Go.Proofs.YtamncdpeklbhlaaGreatDoor.Log (wopen wappend wanew)

/-- The entries that stay ahead of others. -/
def stayE (s : Sta) (l : List Ent) : List Ent := match l with
  | [] => s.es
  | e :: _ => s.es.takeWhile (below e.idx)
def savedS (s : Sta) (t : Nat) (v : Int) (l : List Ent) : Sta := ⟨t, v, s.snap, stayE s l ++ l⟩
def hards (s : Sta) (t : Nat) (v : Int) : List (List UInt8) := if t = s.term ∧ v = s.vote then [] else [recHard t v]
def cuts (s : Sta) (l : List Ent) : List (List UInt8) := match l with
  | [] => []
  | e :: _ => if e.idx ≤ (lasts s.es s.snap.idx s.snap.term).1 then [recCut e.idx] else []
def pcuts (s : Sta) (l : List Ent) : List (List UInt8) := match l with
  | [] => []
  | e :: _ => if (stayE s l).length < s.es.length then [recCut e.idx] else []
def out (s : Sta) (t : Nat) (v : Int) (l : List Ent) : List (List UInt8) := hards s t v ++ (cuts s l ++ l.map recEnt)
/-- What a log would stand behind. -/
def behindS (s : Sta) (l : List Ent) : Snap := ⟨(lasts (stayE s l) s.snap.idx s.snap.term).1, (lasts (stayE s l) s.snap.idx s.snap.term).2, s.snap.cfg, s.snap.data⟩
def okSave (s : Sta) (v : Int) (l : List Ent) : Bool := voteB v && okB (behindS s l) l
def allOf (s : Sta) : List (List UInt8) := recHard s.term s.vote :: recSnap s.snap :: s.es.map recEnt

theorem right_iff {s : Sta} : right s = true ↔ (sound s.snap.cfg = true ∧ chained s.es s.snap.idx s.snap.term = true) ∧ voteB s.vote = true := by
  unfold right okB
  rw [Bool.and_eq_true, Bool.and_eq_true]
theorem while_take : ∀ (es : List Ent) {i t : Nat} (j : Nat), chained es i t = true → es.takeWhile (below j) = es.take (j - (i + 1))
  | [], i, t, j, _ => by simp
  | e :: r, i, t, j, h => by
    simp only [chained, Bool.and_eq_true] at h
    have h1 := (may_iff.1 h.1).1.1
    have ih := while_take r j h.2
    rw [h1] at ih
    by_cases hj : i + 1 < j
    · have hb : below j e = true := decide_eq_true (by omega)
      rw [List.takeWhile_cons_of_pos hb, ih, show j - (i + 1) = (j - (i + 1 + 1)) + 1 by omega, List.take_succ_cons]
    · have hb : ¬ below j e = true := fun e => hj (by have := of_decide_eq_true e; omega)
      rw [List.takeWhile_cons_of_neg hb, show j - (i + 1) = 0 by omega, List.take_zero]
theorem ahead_take {s : Sta} (h : chained s.es s.snap.idx s.snap.term = true) (l : List Ent) : ∃ k, k ≤ s.es.length ∧ stayE s l = s.es.take k ∧ (l = [] → k = s.es.length) ∧ ∀ e r, l = e :: r → k = min (e.idx - (s.snap.idx + 1)) s.es.length := by
  cases l with
  | nil => exact ⟨s.es.length, Nat.le_refl _, by simp [stayE], fun _ => rfl, fun _ _ h => by cases h⟩
  | cons e r =>
    refine ⟨min (e.idx - (s.snap.idx + 1)) s.es.length, Nat.min_le_right _ _, ?_, fun h => (by cases h), fun e' r' h => by cases h; rfl⟩
    show s.es.takeWhile (below e.idx) = _
    rw [while_take s.es e.idx h]
    by_cases hk : e.idx - (s.snap.idx + 1) ≤ s.es.length
    · rw [Nat.min_eq_left hk]
    · rw [Nat.min_eq_right (by omega), List.take_of_length_le (by omega), List.take_of_length_le (Nat.le_refl _)]
theorem right_after {s : Sta} (h : right s = true) (t : Nat) (v : Int) (l : List Ent) : right (savedS s t v l) = okSave s v l := by
  obtain ⟨⟨h1, h2⟩, h3⟩ := right_iff.1 h
  obtain ⟨k, _, hk, _⟩ := ahead_take h2 l
  have h4 : chained (stayE s l) s.snap.idx s.snap.term = true := by rw [hk]; exact follow_take h2 k
  unfold right okSave okB savedS behindS
  simp only
  rw [follow_append, h4, h1, Bool.true_and, Bool.true_and, Bool.and_comm]
theorem pcuts_eq {s : Sta} (h : right s = true) {t : Nat} {v : Int} {l : List Ent} (ha : right (savedS s t v l) = true) : pcuts s l = cuts s l := by
  obtain ⟨⟨h1, h2⟩, h3⟩ := right_iff.1 h
  cases l with
  | nil => rfl
  | cons e r =>
    obtain ⟨k, hk0, hk, _, hk2⟩ := ahead_take h2 (e :: r)
    have hkk := hk2 e r rfl
    have hl := (follow_lasts h2).1
    unfold pcuts cuts
    simp only
    rw [hk, List.length_take, Nat.min_eq_left hk0, hl]
    by_cases h0 : s.es.length = 0
    · have hes : s.es = [] := List.eq_nil_of_length_eq_zero h0
      rw [right_after h t v (e :: r)] at ha
      unfold okSave okB behindS at ha
      rw [hk, hes] at ha
      simp only [List.take_nil, lasts_nil, chained, Bool.and_eq_true] at ha
      have := (may_iff.1 ha.2.2.1).1.1
      rw [if_neg (by omega), if_neg (by omega)]
    · by_cases hlt : k < s.es.length
      · rw [if_pos hlt, if_pos (by omega)]
      · rw [if_neg hlt, if_neg (by omega)]
theorem entOk_of {s : Sta} (h : right s = true) : s.es.all entOk = true := by
  obtain ⟨⟨_, h2⟩, _⟩ := right_iff.1 h
  rw [List.all_eq_true]
  intro e he
  obtain ⟨a, _, _, _, b⟩ := follow_mem h2 he
  refine decide_eq_true ⟨?_, by omega⟩
  rcases b with b | b | b <;> omega
theorem makes_ents : ∀ (l : List Ent) (s : Sta), (∀ e ∈ l, EntB e) → makes s (l.map recEnt) = if l.all entOk = true then some { s with es := s.es ++ l } else none
  | [], s, _ => by simp [makes]
  | e :: l, s, h => by
    obtain ⟨h1, h2⟩ := say_ent (s := s) (h e (by simp))
    simp only [List.map_cons, makes]
    rw [h1, List.all_cons]
    by_cases ho : entOk e = true
    · rw [if_pos ho, h2 ho, makes_ents l _ fun x hx => h x (by simp [hx]), ho, Bool.true_and]
      simp
    · rw [if_neg ho]
      simp [ho]
theorem cut_all {s : Sta} (h : chained s.es s.snap.idx s.snap.term = true) {i : Nat} (hi : (lasts s.es s.snap.idx s.snap.term).1 < i) : s.es.takeWhile (below i) = s.es := by
  have := (follow_lasts h).1
  rw [while_take s.es i h, List.take_of_length_le (by omega)]
/-- A record of a hard state, if it is another one. -/
theorem makes_hards {s : Sta} (h : right s = true) {t : Nat} {v : Int} (ht : t < 18446744073709551616) (hv0 : -9223372036854775808 ≤ v) (hv1 : v ≤ 9223372036854775807) :
    makes s (hards s t v) = if voteB v = true then some { s with term := t, vote := v } else none := by
  unfold hards
  by_cases hh : t = s.term ∧ v = s.vote
  · obtain ⟨rfl, rfl⟩ := hh
    rw [if_pos ⟨rfl, rfl⟩, if_pos (right_iff.1 h).2]
    rfl
  · rw [if_neg hh]
    obtain ⟨h1, h2⟩ := say_hard (s := s) ht hv0 hv1
    simp only [makes]
    rw [h1]
    by_cases hv : voteB v = true
    · rw [if_pos hv, if_pos hv, h2 hv]
    · rw [if_neg hv, if_neg hv]
theorem makes_cuts {s : Sta} (h : chained s.es s.snap.idx s.snap.term = true) {t : Nat} {v : Int} {l : List Ent} (hl : ∀ e ∈ l, EntB e) :
    makes { s with term := t, vote := v } (cuts s l) = some { s with term := t, vote := v, es := stayE s l } := by
  cases l with
  | nil => rfl
  | cons e r =>
    unfold cuts
    simp only
    by_cases hi : e.idx ≤ (lasts s.es s.snap.idx s.snap.term).1
    · rw [if_pos hi]
      simp only [makes, say_cut (hl e (by simp)).idx, if_true]
      rfl
    · rw [if_neg hi]
      have : stayE s (e :: r) = s.es := cut_all h (by omega)
      rw [this]
      rfl
/-- What a Save's records make of a state. -/
theorem makes_out {s : Sta} (h : right s = true) {t : Nat} {v : Int} {l : List Ent} (ht : t < 18446744073709551616) (hv0 : -9223372036854775808 ≤ v) (hv1 : v ≤ 9223372036854775807) (hl : ∀ e ∈ l, EntB e) :
    makes s (out s t v l) = if (voteB v && l.all entOk) = true then some (savedS s t v l) else none := by
  obtain ⟨⟨_, h2⟩, _⟩ := right_iff.1 h
  unfold out
  rw [makes_append, makes_hards h ht hv0 hv1]
  by_cases hv : voteB v = true
  · rw [if_pos hv]
    simp only [Option.bind_some]
    rw [makes_append, makes_cuts h2 hl]
    simp only [Option.bind_some]
    rw [makes_ents l _ hl, hv, Bool.true_and]
    rfl
  · rw [if_neg hv]
    simp [hv]
/-- A Save's records are ones just if what comes of them is a state. -/
theorem records_ok {s : Sta} (h : right s = true) {t : Nat} {v : Int} {l : List Ent} (ht : t < 18446744073709551616) (hv0 : -9223372036854775808 ≤ v) (hv1 : v ≤ 9223372036854775807) (hl : ∀ e ∈ l, EntB e) (ha : right (savedS s t v l) = true) :
    makes s (out s t v l) = some (savedS s t v l) := by
  rw [makes_out h ht hv0 hv1 hl]
  have h1 : voteB v = true := (right_iff.1 ha).2
  have h2 := entOk_of ha
  have h3 : l.all entOk = true := by
    rw [List.all_eq_true] at h2 ⊢
    exact fun e he => h2 e (List.mem_append_right _ he)
  rw [h1, h3]
  rfl
theorem records_no {s : Sta} (h : right s = true) {t : Nat} {v : Int} {l : List Ent} (ht : t < 18446744073709551616) (hv0 : -9223372036854775808 ≤ v) (hv1 : v ≤ 9223372036854775807) (hl : ∀ e ∈ l, EntB e) (ha : right (savedS s t v l) = false) :
    makes s (out s t v l) = none ∨ makes s (out s t v l) = some (savedS s t v l) := by
  rw [makes_out h ht hv0 hv1 hl]
  split
  · exact .inr rfl
  · exact .inl rfl

/-! ### Each first part of a Save's records makes a state -/
def Runs (s : Sta) (l : List (List UInt8)) : Prop := ∀ k, ∃ x, makes s (l.take k) = some x ∧ right x = true
theorem Runs.nil {s : Sta} (h : right s = true) : Runs s [] := fun k => ⟨s, by simp [makes], h⟩
theorem Runs.cons {s s1 : Sta} {b : List UInt8} {l : List (List UInt8)} (h : right s = true) (hb : say s (str b) = (s1, true)) (hr : Runs s1 l) : Runs s (b :: l) := fun k => by
  cases k with
  | zero => exact ⟨s, by simp [makes], h⟩
  | succ k =>
    obtain ⟨x, h1, h2⟩ := hr k
    exact ⟨x, by simp only [List.take_succ_cons, makes, hb, if_true]; exact h1, h2⟩
theorem Runs.ents : ∀ (l : List Ent) {s : Sta}, (∀ e ∈ l, EntB e) → right { s with es := s.es ++ l } = true → Runs s (l.map recEnt)
  | [], s, _, hr => Runs.nil (by simpa using hr)
  | e :: l, s, h, hr => by
    obtain ⟨⟨h1, h2⟩, h3⟩ := right_iff.1 hr
    simp only at h1 h2 h3
    have hs : right s = true := right_iff.2 ⟨⟨h1, by rw [follow_append, Bool.and_eq_true] at h2; exact h2.1⟩, h3⟩
    have ho : entOk e = true := List.all_eq_true.1 (entOk_of hr) e (by simp)
    obtain ⟨a, b⟩ := say_ent (s := s) (h e (by simp))
    refine Runs.cons (s1 := { s with es := s.es ++ [e] }) hs ?_ (Runs.ents l (fun x hx => h x (by simp [hx])) (by simpa using hr))
    rw [← b ho, ← ho, ← a]
theorem runs_out {s : Sta} (h : right s = true) {t : Nat} {v : Int} {l : List Ent} (ht : t < 18446744073709551616) (hv0 : -9223372036854775808 ≤ v) (hv1 : v ≤ 9223372036854775807) (hl : ∀ e ∈ l, EntB e) (ha : right (savedS s t v l) = true) : Runs s (out s t v l) := by
  obtain ⟨⟨h1, h2⟩, h3⟩ := right_iff.1 h
  have hv : voteB v = true := (right_iff.1 ha).2
  obtain ⟨k, _, hk, _⟩ := ahead_take h2 l
  have hch : chained (stayE s l) s.snap.idx s.snap.term = true := by rw [hk]; exact follow_take h2 k
  have hE : Runs { s with term := t, vote := v, es := stayE s l } (l.map recEnt) := Runs.ents l hl ha
  have hr1 : right { s with term := t, vote := v } = true := right_iff.2 ⟨⟨h1, h2⟩, hv⟩
  have hC : Runs { s with term := t, vote := v } (cuts s l ++ l.map recEnt) := by
    cases l with
    | nil => exact hE
    | cons e r =>
      unfold cuts
      simp only
      by_cases hi : e.idx ≤ (lasts s.es s.snap.idx s.snap.term).1
      · rw [if_pos hi]
        exact Runs.cons hr1 (say_cut (hl e (by simp)).idx) hE
      · rw [if_neg hi]
        have : stayE s (e :: r) = s.es := cut_all h2 (by omega)
        rw [this] at hE
        exact hE
  unfold out hards
  by_cases hh : t = s.term ∧ v = s.vote
  · obtain ⟨rfl, rfl⟩ := hh
    rw [if_pos ⟨rfl, rfl⟩]
    exact hC
  · rw [if_neg hh]
    obtain ⟨a, b⟩ := say_hard (s := s) ht hv0 hv1
    exact Runs.cons h (by rw [← b hv, ← hv, ← a]) hC

/-! ### All of a state -/
theorem makes_all {c : Nat} {s : Sta} (hb : StaB s) (h : right s = true) (hd : s.snap.data.size ≤ 65536) : makes (first c) (allOf s) = some s := by
  obtain ⟨⟨h1, h2⟩, h3⟩ := right_iff.1 h
  obtain ⟨a, b⟩ := say_hard (s := first c) hb.term hb.v0 hb.v1
  unfold allOf
  simp only [makes]
  rw [a, if_pos h3, b h3, say_snap hb.snap hd]
  simp only [if_true]
  rw [makes_ents _ _ hb.ents, entOk_of h, if_pos rfl]
  rfl
theorem said_all {c : Nat} {s : Sta} (hb : StaB s) (h : right s = true) (hd : s.snap.data.size ≤ 65536) : said c (allOf s) = some s := by
  unfold said
  rw [makes_all hb h hd]
  simp only
  rw [if_pos h]
theorem after_b {s : Sta} (h : StaB s) {t : Nat} {v : Int} {l : List Ent} (ht : t < 18446744073709551616) (hv0 : -9223372036854775808 ≤ v) (hv1 : v ≤ 9223372036854775807) (hl : ∀ e ∈ l, EntB e) : StaB (savedS s t v l) := by
  refine ⟨ht, hv0, hv1, h.snap, fun e he => ?_⟩
  simp only [savedS, List.mem_append] at he
  rcases he with he | he
  · cases l with
    | nil => exact h.ents e he
    | cons x r => exact h.ents e ((List.takeWhile_sublist _).subset he)
  · exact hl e he
theorem ahead_len (s : Sta) (l : List Ent) : (stayE s l).length ≤ s.es.length := by
  cases l with
  | nil => exact Nat.le_refl _
  | cons x r => exact (List.takeWhile_sublist (l := s.es) _).length_le
theorem after_len (s : Sta) (t : Nat) (v : Int) (l : List Ent) : (savedS s t v l).es.length ≤ s.es.length + l.length := by
  have := ahead_len s l
  simp only [savedS, List.length_append]
  omega
theorem hards_len (s : Sta) (t : Nat) (v : Int) : (hards s t v).length ≤ 1 := by unfold hards; split <;> simp
theorem cuts_len (s : Sta) (l : List Ent) : (cuts s l).length ≤ 1 := by
  cases l with
  | nil => simp [cuts]
  | cons e r => unfold cuts; simp only; split <;> simp
theorem out_len (s : Sta) (t : Nat) (v : Int) (l : List Ent) : (out s t v l).length ≤ l.length + 2 := by
  have h1 := hards_len s t v
  have h2 := cuts_len s l
  unfold out
  simp only [List.length_append, List.length_map]
  omega

/-! ### Calls of a store -/
noncomputable def ssave (m : M) (n : Int) (s : Sta) (t : Nat) (v : Int) (l : List Ent) : Int × (M × Sta) :=
  if right (savedS s t v l) = true then
    (if out s t v l = [] then (0, (m, savedS s t v l)) else
      (if (wappend m n (out s t v l)).1 = 0 then (0, ((wappend m n (out s t v l)).2, savedS s t v l)) else ((wappend m n (out s t v l)).1, ((wappend m n (out s t v l)).2, s))))
  else (1, (m, s))
def okAnew (x : Sta) : Bool := right x && decide (x.snap.data.size ≤ 32768)
noncomputable def sanew (m : M) (n : Int) (s x : Sta) : Int × (M × Sta) :=
  if okAnew x = true then (if (wanew m n (allOf x)).1 = 0 then (0, ((wanew m n (allOf x)).2, x)) else ((wanew m n (allOf x)).1, ((wanew m n (allOf x)).2, s)))
  else (1, (m, s))
noncomputable def sopen (m : M) (n : Int) (c : Nat) : (Int × Sta) × M :=
  if sound c = false then ((1, first c), m)
  else if (wopen m n).1.1 = 0 then (match said c (wopen m n).1.2 with
    | none => ((2, first c), (wopen m n).2)
    | some s => ((0, s), (wopen m n).2))
  else (((wopen m n).1.1, first c), (wopen m n).2)
theorem after_same {s : Sta} {t : Nat} {v : Int} {l : List Ent} (h : out s t v l = []) : savedS s t v l = s := by
  unfold out at h
  simp only [List.append_eq_nil_iff, List.map_eq_nil_iff] at h
  obtain ⟨h1, _, rfl⟩ := h
  unfold hards at h1
  split at h1
  · rename_i e
    obtain ⟨rfl, rfl⟩ := e
    unfold savedS stayE
    simp
  · cases h1
end Go.Proofs.YtamncdpeklbhlaaGreatDoor.Sav
set_option linter.unusedVariables false
set_option linter.unusedSimpArgs false
namespace Go.Proofs.YtamncdpeklbhlaaGreatDoor.Hold
open Go.RowKit Go.Proofs.YtamncdpeklbhlaaGreatDoor.Kit Go.Proofs.YtamncdpeklbhlaaGreatDoor.Blocks Go.Proofs.YtamncdpeklbhlaaGreatDoor.Rlog Go.Proofs.YtamncdpeklbhlaaGreatDoor.Sto Go.Proofs.YtamncdpeklbhlaaGreatDoor.Ents
open Go.Proofs.YtamncdpeklbhlaaGreatDoor.State (RV)
open Go.Proofs.YtamncdpeklbhlaaGreatDoor.PckWalkC (gotB restB frontB gotB_lt)
open Go.Proofs.YtamncdpeklbhlaaGreatDoor.PckWalkD (badB)
open Go.Proofs.YtamncdpeklbhlaaGreatDoor.PckWalkE (upV upR upB textV textR textB)

def hardV (t : Nat) (v : Int) : Value := .agg #[.int .u64 (t : Int), .int .i64 v]
def snapV (s : Snap) : Value := .agg #[.int .u64 (s.idx : Int), .int .u64 (s.term : Int), .int .u64 (s.cfg : Int), .string s.data]
/-- A state by value. -/
def staV (s : Sta) (A : Option Addr) (n c : Nat) : Value := .agg #[.int .u64 (s.term : Int), .int .i64 s.vote, .int .u64 (s.snap.idx : Int), .int .u64 (s.snap.term : Int), .int .u64 (s.snap.cfg : Int), .string s.snap.data, .slice A n c]
/-- A state's cells ahead of its slice. -/
def pre (s : Sta) : List Value := [.int .u64 (s.term : Int), .int .i64 s.vote, .int .u64 (s.snap.idx : Int), .int .u64 (s.snap.term : Int), .int .u64 (s.snap.cfg : Int), .string s.snap.data]

/-- Block p, of type T, has these cells, and then a slice v of entries, which are its own; both lie from block B on. -/
structure Hold (T : TypeId) (B : Nat) (w : World) (p : Nat) (ps : List Value) (v : Value) (es : List Ent) : Prop where
  low : B ≤ p
  cell : w.heap[p]? = some (.cells (ps ++ [v]).toArray T (0, 0))
  own : w.ownsRow B 83 4 v es.length (ecells es)
  ne : v.ownBlock ≠ some p
def Foot (p : Nat) (v : Value) (k : Nat) : Prop := k = p ∨ v.ownBlock = some k
section
variable {T : TypeId} {B : Nat} {w w' w1 : World} {p : Nat} {ps : List Value} {v v1 : Value} {es es' : List Ent}
theorem Hold.lt (h : Hold T B w p ps v es) : p < w.heap.size := lt_at h.cell
theorem Hold.base (h : Hold T B w p ps v es) : B ≤ w.heap.size := by have := h.lt; have := h.low; omega
theorem Hold.at_ (h : Hold T B w p ps v es) (i : Nat) {u : Value} (hi : (ps ++ [v])[i]? = some u) : w.cell? ⟨p, i, none⟩ = some u := by rw [cell_at h.cell]; simpa using hi
theorem Hold.free (h : Hold T B w p ps v es) (i : Nat) : w.frozen? ⟨p, i, none⟩ = false := free_at h.cell i
theorem Hold.row_lt (h : Hold T B w p ps v es) {k : Nat} (hk : v.ownBlock = some k) : B ≤ k ∧ k < w.heap.size := h.own.lt k hk
theorem Hold.foot_lt (h : Hold T B w p ps v es) {k : Nat} (hk : Foot p v k) : B ≤ k ∧ k < w.heap.size := by
  rcases hk with rfl | hk
  · exact ⟨h.low, h.lt⟩
  · exact h.row_lt hk
theorem Hold.form (h : Hold T B w p ps v es) : ∃ A c, v = .slice A es.length c ∧ es.length ≤ c ∧ c ≤ 9223372036854775807 ∧ RE w w.heap.size A es.length es := by
  obtain ⟨A, c, hv, h1, h2, h3⟩ := own_form h.own
  unfold maxLen at h2
  exact ⟨A, c, hv, h1, by omega, h3⟩
theorem Hold.keep (h : Hold T B w p ps v es) {S : Nat → Prop} (k : Only S w w') (hs : ∀ q, Foot p v q → ¬ S q) : Hold T B w' p ps v es :=
  ⟨h.low, k.heap h.cell (hs p (.inl rfl)), k.own h.own fun q hq => hs q (.inr hq), h.ne⟩
theorem Hold.below (h : Hold T B w p ps v es) (k : Below w.heap.size w w') : Hold T B w' p ps v es := h.keep (S := fun _ => False) (Only.of_below k) (by simp)
theorem Hold.drew (h : Hold T B w p ps v es) : Hold T B w.drew p ps v es := h.below ((Below.refl _ _).drew)
/-- Another slice of entries is laid. -/
theorem Hold.rowed (h : Hold T B w p ps v es) {n : Nat} {xs : List Value} (k : Only (fun q => v.ownBlock = some q) w w1) (hown : w1.ownsRow B 83 4 v1 n xs) (hn : n = es'.length) (hx : xs = ecells es')
    (hat : ∀ q, v1.ownBlock = some q → v.ownBlock = some q ∨ w.heap.size ≤ q) {i : Nat} (hi : i = ps.length) :
    w1.cell? ⟨p, i, none⟩ = some v ∧ w1.frozen? ⟨p, i, none⟩ = false ∧ Hold T B (w1.setCell ⟨p, i, none⟩ v1) p ps v1 es' ∧ Only (Foot p v) w (w1.setCell ⟨p, i, none⟩ v1) := by
  subst hn hx hi
  have hc := k.heap h.cell h.ne
  have hne : v1.ownBlock ≠ some p := fun e => by
    rcases hat p e with e1 | e1
    · exact h.ne e1
    · have := h.lt; omega
  have hset : Only (fun q => q = p) w1 (w1.setCell ⟨p, ps.length, none⟩ v1) := (Only.refl (fun q => q = p) w1).setCell (a := ⟨p, ps.length, none⟩) (.inr rfl) v1
  refine ⟨by rw [cell_at hc]; simp, free_at hc _, ⟨h.low, by rw [set_at hc]; simp, hset.own hown fun q hq e => hne (e ▸ hq), hne⟩, ?_⟩
  exact (k.mono fun q _ hq => .inr hq).trans (hset.mono fun q _ hq => .inl hq)
/-- Another slice of entries, that lies already, is laid. -/
theorem Hold.laid (h : Hold T B w p ps v es) {n : Nat} {xs : List Value} (hown : w.ownsRow B 83 4 v1 n xs) (hn : n = es'.length) (hx : xs = ecells es') (hne : v1.ownBlock ≠ some p) {i : Nat} (hi : i = ps.length) :
    Hold T B (w.setCell ⟨p, i, none⟩ v1) p ps v1 es' ∧ Only (fun q => q = p) w (w.setCell ⟨p, i, none⟩ v1) := by
  subst hn hx hi
  have hset : Only (fun q => q = p) w (w.setCell ⟨p, ps.length, none⟩ v1) := (Only.refl (fun q => q = p) w).setCell (a := ⟨p, ps.length, none⟩) (.inr rfl) v1
  exact ⟨⟨h.low, by rw [set_at h.cell]; simp, hset.own hown fun q hq e => hne (e ▸ hq), hne⟩, hset⟩
/-- A cell ahead of the slice is set. -/
theorem Hold.set (h : Hold T B w p ps v es) {i : Nat} (u : Value) (hi : i < ps.length) : Hold T B (w.setCell ⟨p, i, none⟩ u) p (ps.set i u) v es ∧ Only (fun q => q = p) w (w.setCell ⟨p, i, none⟩ u) := by
  have hset : Only (fun q => q = p) w (w.setCell ⟨p, i, none⟩ u) := (Only.refl (fun q => q = p) w).setCell (a := ⟨p, i, none⟩) (.inr rfl) u
  refine ⟨⟨h.low, ?_, hset.own h.own fun q hq e => h.ne (e ▸ hq), h.ne⟩, hset⟩
  rw [set_at h.cell]
  congr 2
  rw [List.setIfInBounds_toArray, List.set_append_left _ _ hi]
end

/-- A reader that came behind a world. -/
structure Rds (w0 W : World) (q : Nat) (r : Rd) : Prop where
  at_ : RV 163 W q r.s r.bad
  low : w0.heap.size ≤ q
  bel : Below w0.heap.size w0 W
section
variable {w0 W W' : World} {q : Nat} {r r' : Rd}
theorem Rds.cell (h : Rds w0 W q r) {a : Addr} {v : Value} (hc : w0.cell? a = some v) (ha : a.block < w0.heap.size) : W.cell? a = some v := (h.bel.cell (p := a) ha).trans hc
theorem Rds.drew (h : Rds w0 W q r) : Rds w0 W.drew q r := ⟨h.at_.below ((Below.refl _ _).drew), h.low, h.bel.drew⟩
theorem Rds.next (h : Rds w0 W q r) {s : ByteArray} {b : Bool} {x : Value} {e : Ending} (k : State.Took 163 q s b x W e W') (hs : r'.s = s) (hb : r'.bad = b) : e = .returned x ∧ Rds w0 W' q r' := by
  obtain ⟨he, h1, h2⟩ := k
  refine ⟨he, by rw [hs, hb]; exact h1, h.low, h.bel.trans (h2.below h.bel.size fun k hk => by rw [hk]; exact h.low)⟩
theorem rds_num {g : Nat} (h : Rds w0 W q r) (hs : r.s.size ≤ 281474976710656) (hg : Hid (gotB r.s = g)) (hr : Hid (r.num = r')) :
    Calls Tryz.prog 72 #[.pointer (some ⟨q, 0, none⟩)] W fun e W' => e = .returned (.int .u64 (g : Int)) ∧ Rds w0 W' q r' := by
  refine (PckWalkD.num_any q r.s r.bad W h.at_ (by omega)).mono ?_
  intro e W' k
  rw [hg.out] at k
  exact h.next k (by rw [← hr.out]; rfl) (by rw [← hr.out]; rfl)
theorem rds_up {n : Nat} (k : Int) (h : Rds w0 W q r) (hs : r.s.size ≤ 281474976710656) (hk : k ≤ 9223372036854775807) (hn : Hid (upV r.s k = n)) (hr : Hid (r.up k = r')) :
    Calls Tryz.prog 73 #[.pointer (some ⟨q, 0, none⟩), .int .i64 k] W fun e W' => e = .returned (.int .i64 (n : Int)) ∧ Rds w0 W' q r' := by
  refine (PckWalkE.up_any q r.s r.bad k W h.at_ (by omega) hk).mono ?_
  intro e W' k
  rw [hn.out] at k
  exact h.next k (by rw [← hr.out]; rfl) (by rw [← hr.out]; rfl)
theorem rds_text {x : ByteArray} (k : Int) (h : Rds w0 W q r) (hs : r.s.size ≤ 281474976710656) (hk : k ≤ 9223372036854775807) (hx : Hid (textV r.s k = x)) (hr : Hid (r.text k = r')) :
    Calls Tryz.prog 74 #[.pointer (some ⟨q, 0, none⟩), .int .i64 k] W fun e W' => e = .returned (.string x) ∧ Rds w0 W' q r' := by
  refine (PckWalkE.text_any q r.s r.bad k W h.at_ hs hk).mono ?_
  intro e W' k
  rw [hx.out] at k
  exact h.next k (by rw [← hr.out]; rfl) (by rw [← hr.out]; rfl)
theorem rds_done {b : Bool} (h : Rds w0 W q r) (hb : Hid (r.done = b)) :
    Calls Tryz.prog 76 #[.pointer (some ⟨q, 0, none⟩)] W fun e W' => e = .returned (.bool b) ∧ Rds w0 W' q r := by
  refine (PckWalkE.done_any q r.s r.bad W h.at_).mono ?_
  intro e W' k
  have e1 : (decide (r.s.size = 0) && !r.bad) = b := hb.out
  rw [e1] at k
  exact h.next k rfl rfl
theorem from_rds (b : ByteArray) (w : World) : Calls Tryz.prog 71 #[.string b] w fun e w' => ∃ q, e = .returned (.pointer (some ⟨q, 0, none⟩)) ∧ Rds w w' q (rd0 b) := by
  refine (PckWalkD.from_any b w).mono ?_
  rintro e w' ⟨rfl, h1, h2⟩
  exact ⟨_, rfl, h1, Nat.le_refl _, h2⟩
end
end Go.Proofs.YtamncdpeklbhlaaGreatDoor.Hold
set_option linter.unusedVariables false
set_option linter.unusedSimpArgs false
namespace Go.Proofs.YtamncdpeklbhlaaGreatDoor.LogB
open Go.RowKit Go.Proofs.YtamncdpeklbhlaaGreatDoor.Kit Go.Proofs.YtamncdpeklbhlaaGreatDoor.Blocks Go.Proofs.YtamncdpeklbhlaaGreatDoor.SumB Go.Proofs.YtamncdpeklbhlaaGreatDoor.Wal Go.Proofs.YtamncdpeklbhlaaGreatDoor.FrA Go.Proofs.YtamncdpeklbhlaaGreatDoor.FrC Go.Proofs.YtamncdpeklbhlaaGreatDoor.ScA Go.Proofs.YtamncdpeklbhlaaGreatDoor.ScB Go.Proofs.YtamncdpeklbhlaaGreatDoor.Frm Go.Proofs.YtamncdpeklbhlaaGreatDoor.Model Go.Proofs.YtamncdpeklbhlaaGreatDoor.Disk Go.Proofs.YtamncdpeklbhlaaGreatDoor.Ops Go.Proofs.YtamncdpeklbhlaaGreatDoor.Log
open Go.Proofs.YtamncdpeklbhlaaGreatDoor.DskWalkC (str Got)
open Go.Proofs.YtamncdpeklbhlaaGreatDoor.Model.M
section
variable {B : Nat} {L : List Nat} {w : World} {p N : Nat} {m : M}

set_option maxRecDepth 100000 in
set_option maxHeartbeats 4000000 in
theorem open_old (n : Int) (h : Has B L w p N m) (ht : Tab w) (hgB : 0 < B) (hN : N < 900000) (hn : 0 ≤ n ∧ n < 16) (hoff : m.off = false) (hhas : m.has n = true) :
    Calls Tryz.prog 29 #[.pointer (some ⟨p, 0, none⟩), .int .i64 n] w (Opened B L w p (N + 2) n (wopen m n)) := by
  have hBw := h.low
  have hr := read_has n h (by omega) (by omega)
  have e1 : m.read n = (m.all n.toNat, 0) := by simp [M.read, hoff, hhas]
  rw [e1] at hr
  obtain ⟨W, hW⟩ : ∃ W, wopen m n = W := ⟨_, rfl⟩
  rw [hW]
  obtain ⟨S, hS⟩ : ∃ S, str (m.all n.toNat) = S := ⟨_, rfl⟩
  have hSl : S.data.toList = m.all n.toNat := by rw [← hS]; rfl
  have hSs : S.size ≤ 1000000000 := by
    have := all_le h.fine n.toNat
    rw [← size_list, hSl]
    omega
  have HW : Hid (behind m n S.data.toList = W) := by
    rw [← hW, hSl, wopen_old hn hoff hhas]
    rfl
  obtain ⟨⟨rl, k⟩, hsc⟩ : ∃ q, scan S.data.toList = q := ⟨_, rfl⟩
  have HSc := Lib.hid hsc
  have HR := Lib.hid hr
  have HS := Lib.hid hS
  have h1 := hn.1
  have h2 := hn.2
  have h0 : Keeps B L w w := Keeps.refl B L w
  clear hr e1 hS hSl hW hsc
  go_enter Tryz.func29, Tryz.ntmps29
  go_wp2_with fail
  refine HR.out.mono ?_
  intro e w1 hg
  obtain ⟨rfl, hb1⟩ := Got.lit hg HS rfl
  have hH := h.below hb1
  have hK : Keeps B L w w1 := h0.trans (Keeps.of_below hb1)
  clear hg HR
  go_wp2_with fail
  refine (scan_any S _ (Tab.below ht hgB (hK.below hBw)) hSs).mono ?_
  rintro e w2 ⟨v, rfl, hown, hb2⟩
  rw [HSc.out] at hown
  obtain ⟨A, c, L', rfl, hH2, hsub, hread⟩ := beside_scan hH hown hb2
  have hK2 : Keeps B L w w2 := hK.trans (Keeps.of_below hb2)
  have HRD := Lib.hid hread
  have HSUB := Lib.hid hsub
  clear hread hsub hown
  rw [HSc.out]
  simp only []
  by_cases hks : k < S.size
  · have hki : (k : Int) < (S.size : Int) := by omega
    have hd := replace_has n (S.extract 0 k) hH2 (show N < 1000000 by omega)
    obtain ⟨r2, hr2⟩ : ∃ r2, (m.replace n (S.extract 0 k).data.toList).1 = r2 := ⟨_, rfl⟩
    obtain ⟨m2, hm2⟩ : ∃ m2, (m.replace n (S.extract 0 k).data.toList).2 = m2 := ⟨_, rfl⟩
    have hx : (S.extract 0 k).data.toList = S.data.toList.take k := by rw [extract_list]; simp
    have HW2 : Hid ((if r2 = 0 then ((0, rl), m2) else ((r2, []), m2)) = W) := by
      have := HW.out
      unfold behind at this
      rw [HSc.out, if_pos (show k < S.data.toList.length from hks), ← hx, hr2, hm2] at this
      exact this
    have HR2 := Lib.hid hr2
    have HM2 := Lib.hid hm2
    have HD := Lib.hid hd
    clear hd hr2 hm2 hx HW
    go_wp2_with fail
    refine HD.out.mono ?_
    intro e w3 hd
    obtain ⟨rfl, h3, k3⟩ := Done.lit hd HR2 HM2
    have hR3 := HRD.out w3 k3
    have hK3 : Keeps B L w w3 := hK2.trans (k3.fewer HSUB.out)
    clear hd k3 HD
    by_cases hr : r2 = 0
    · subst hr
      have hW := HW2.out
      rw [if_pos rfl] at hW
      clear HW2
      subst hW
      go_wp2
      go_ret3
      have hbn : Below w3.heap.size w3 (w3.alloc (.cells #[.pointer (some ⟨p, 0, none⟩), .int .i64 n] 130)) := (Below.refl _ _).alloc (Nat.le_refl _) _
      exact .inr ⟨rfl, _, A, c, rfl, heap_alloc_new w3 _, (hR3.below hbn).more hbn.size, (((h3.fewer HSUB.out).beside hbn (Nat.le_refl _) (by simp)).more (by omega)), hK3.trans (Keeps.of_below hbn), hK3.size⟩
    · have hri : (r2 != 0) = true := bne_iff_ne.2 hr
      have hW := HW2.out
      rw [if_neg hr] at hW
      clear HW2
      subst hW
      go_wp2
      go_ret3
      exact .inl ⟨hr, rfl, ((h3.fewer HSUB.out).more (by omega)), hK3⟩
  · have hki : ¬ (k : Int) < (S.size : Int) := by omega
    have hd := sync_has n hH2 (show N < 1000000 by omega) (by omega) (by omega)
    obtain ⟨r2, hr2⟩ : ∃ r2, (m.sync n).1 = r2 := ⟨_, rfl⟩
    obtain ⟨m2, hm2⟩ : ∃ m2, (m.sync n).2 = m2 := ⟨_, rfl⟩
    have HW2 : Hid ((if r2 = 0 then ((0, rl), m2) else ((r2, []), m2)) = W) := by
      have := HW.out
      unfold behind at this
      rw [HSc.out, if_neg (show ¬ k < S.data.toList.length from hks), hr2, hm2] at this
      exact this
    have HR2 := Lib.hid hr2
    have HM2 := Lib.hid hm2
    have HD := Lib.hid hd
    clear hd hr2 hm2 HW
    go_wp2_with fail
    refine HD.out.mono ?_
    intro e w3 hd
    obtain ⟨rfl, h3, k3⟩ := Done.lit hd HR2 HM2
    have hR3 := HRD.out w3 k3
    have hK3 : Keeps B L w w3 := hK2.trans (k3.fewer HSUB.out)
    clear hd k3 HD
    by_cases hr : r2 = 0
    · subst hr
      have hW := HW2.out
      rw [if_pos rfl] at hW
      clear HW2
      subst hW
      go_wp2
      go_ret3
      have hbn : Below w3.heap.size w3 (w3.alloc (.cells #[.pointer (some ⟨p, 0, none⟩), .int .i64 n] 130)) := (Below.refl _ _).alloc (Nat.le_refl _) _
      exact .inr ⟨rfl, _, A, c, rfl, heap_alloc_new w3 _, (hR3.below hbn).more hbn.size, (((h3.fewer HSUB.out).beside hbn (Nat.le_refl _) (by simp)).more (by omega)), hK3.trans (Keeps.of_below hbn), hK3.size⟩
    · have hri : (r2 != 0) = true := bne_iff_ne.2 hr
      have hW := HW2.out
      rw [if_neg hr] at hW
      clear HW2
      subst hW
      go_wp2
      go_ret3
      exact .inl ⟨hr, rfl, ((h3.fewer HSUB.out).more (by omega)), hK3⟩

set_option maxRecDepth 100000 in
set_option maxHeartbeats 4000000 in
theorem open_new (n : Int) (h : Has B L w p N m) (ht : Tab w) (hgB : 0 < B) (hN : N < 900000) (hn : 0 ≤ n ∧ n < 16) (hoff : m.off = false) (hhas : m.has n = false) :
    Calls Tryz.prog 29 #[.pointer (some ⟨p, 0, none⟩), .int .i64 n] w (Opened B L w p (N + 2) n (wopen m n)) := by
  have hBw := h.low
  have hr := read_has n h (by omega) (by omega)
  have e1 : m.read n = ([], 12) := by simp [M.read, hoff, hhas]
  rw [e1] at hr
  obtain ⟨W, hW⟩ : ∃ W, wopen m n = W := ⟨_, rfl⟩
  rw [hW]
  obtain ⟨S, hS⟩ : ∃ S, str [] = S := ⟨_, rfl⟩
  obtain ⟨r1, hr1⟩ : ∃ r1, (m.replace n []).1 = r1 := ⟨_, rfl⟩
  obtain ⟨m1, hm1⟩ : ∃ m1, (m.replace n []).2 = m1 := ⟨_, rfl⟩
  have hSl : S.data.toList = [] := by rw [← hS]; rfl
  have hSs : S.size ≤ 1000000000 := by rw [← size_list, hSl]; simp
  have HW0 : Hid ((if r1 = 0 then behind m1 n S.data.toList else ((r1, []), m1)) = W) := by
    rw [← hW, hSl, wopen_new hn hoff hhas, hr1, hm1]
    rfl
  obtain ⟨⟨rl, k⟩, hsc⟩ : ∃ q, scan S.data.toList = q := ⟨_, rfl⟩
  have HSc := Lib.hid hsc
  have HR := Lib.hid hr
  have HS := Lib.hid hS
  have HR1 := Lib.hid hr1
  have HM1 := Lib.hid hm1
  have h1 := hn.1
  have h2 := hn.2
  have h0 : Keeps B L w w := Keeps.refl B L w
  have hrep := fun W' (hb : Below w.heap.size w W') => replace_has n ⟨#[]⟩ (h.below hb) (show N < 1000000 by omega)
  have HREP := Lib.hid hrep
  clear hr e1 hS hSl hW hsc hr1 hm1 hrep
  go_enter Tryz.func29, Tryz.ntmps29
  go_wp2_with fail
  refine HR.out.mono ?_
  intro e w0 hg
  obtain ⟨rfl, hb1⟩ := Got.lit hg HS rfl
  clear hg HR
  go_wp2_with fail
  refine (HREP.out w0 hb1).mono ?_
  intro e w1 hd
  obtain ⟨rfl, hH, k1⟩ := Done.lit hd HR1 HM1
  have hK : Keeps B L w w1 := (Keeps.of_below hb1).trans k1
  clear hd k1 HREP
  by_cases hr : r1 = 0
  · subst hr
    have HW : Hid (behind m1 n S.data.toList = W) := by
      have := HW0.out
      rwa [if_pos rfl] at this
    clear HW0
    go_wp2_with fail
    refine (scan_any S _ (Tab.below ht hgB (hK.below hBw)) hSs).mono ?_
    rintro e w2 ⟨v, rfl, hown, hb2⟩
    rw [HSc.out] at hown
    obtain ⟨A, c, L', rfl, hH2, hsub, hread⟩ := beside_scan hH hown hb2
    have hK2 : Keeps B L w w2 := hK.trans (Keeps.of_below hb2)
    have HRD := Lib.hid hread
    have HSUB := Lib.hid hsub
    clear hread hsub hown
    rw [HSc.out]
    simp only []
    by_cases hks : k < S.size
    · have hki : (k : Int) < (S.size : Int) := by omega
      have hd := replace_has n (S.extract 0 k) hH2 (show N + 1 < 1000000 by omega)
      obtain ⟨r2, hr2⟩ : ∃ r2, (m1.replace n (S.extract 0 k).data.toList).1 = r2 := ⟨_, rfl⟩
      obtain ⟨m2, hm2⟩ : ∃ m2, (m1.replace n (S.extract 0 k).data.toList).2 = m2 := ⟨_, rfl⟩
      have hx : (S.extract 0 k).data.toList = S.data.toList.take k := by rw [extract_list]; simp
      have HW2 : Hid ((if r2 = 0 then ((0, rl), m2) else ((r2, []), m2)) = W) := by
        have := HW.out
        unfold behind at this
        rw [HSc.out, if_pos (show k < S.data.toList.length from hks), ← hx, hr2, hm2] at this
        exact this
      have HR2 := Lib.hid hr2
      have HM2 := Lib.hid hm2
      have HD := Lib.hid hd
      clear hd hr2 hm2 hx HW
      go_wp2_with fail
      refine HD.out.mono ?_
      intro e w3 hd
      obtain ⟨rfl, h3, k3⟩ := Done.lit hd HR2 HM2
      have hR3 := HRD.out w3 k3
      have hK3 : Keeps B L w w3 := hK2.trans (k3.fewer HSUB.out)
      clear hd k3 HD
      by_cases hr : r2 = 0
      · subst hr
        have hW := HW2.out
        rw [if_pos rfl] at hW
        clear HW2
        subst hW
        go_wp2
        go_ret3
        have hbn : Below w3.heap.size w3 (w3.alloc (.cells #[.pointer (some ⟨p, 0, none⟩), .int .i64 n] 130)) := (Below.refl _ _).alloc (Nat.le_refl _) _
        exact .inr ⟨rfl, _, A, c, rfl, heap_alloc_new w3 _, (hR3.below hbn).more hbn.size, (((h3.fewer HSUB.out).beside hbn (Nat.le_refl _) (by simp)).more (by omega)), hK3.trans (Keeps.of_below hbn), hK3.size⟩
      · have hri : (r2 != 0) = true := bne_iff_ne.2 hr
        have hW := HW2.out
        rw [if_neg hr] at hW
        clear HW2
        subst hW
        go_wp2
        go_ret3
        exact .inl ⟨hr, rfl, ((h3.fewer HSUB.out).more (by omega)), hK3⟩
    · have hki : ¬ (k : Int) < (S.size : Int) := by omega
      have hd := sync_has n hH2 (show N + 1 < 1000000 by omega) (by omega) (by omega)
      obtain ⟨r2, hr2⟩ : ∃ r2, (m1.sync n).1 = r2 := ⟨_, rfl⟩
      obtain ⟨m2, hm2⟩ : ∃ m2, (m1.sync n).2 = m2 := ⟨_, rfl⟩
      have HW2 : Hid ((if r2 = 0 then ((0, rl), m2) else ((r2, []), m2)) = W) := by
        have := HW.out
        unfold behind at this
        rw [HSc.out, if_neg (show ¬ k < S.data.toList.length from hks), hr2, hm2] at this
        exact this
      have HR2 := Lib.hid hr2
      have HM2 := Lib.hid hm2
      have HD := Lib.hid hd
      clear hd hr2 hm2 HW
      go_wp2_with fail
      refine HD.out.mono ?_
      intro e w3 hd
      obtain ⟨rfl, h3, k3⟩ := Done.lit hd HR2 HM2
      have hR3 := HRD.out w3 k3
      have hK3 : Keeps B L w w3 := hK2.trans (k3.fewer HSUB.out)
      clear hd k3 HD
      by_cases hr : r2 = 0
      · subst hr
        have hW := HW2.out
        rw [if_pos rfl] at hW
        clear HW2
        subst hW
        go_wp2
        go_ret3
        have hbn : Below w3.heap.size w3 (w3.alloc (.cells #[.pointer (some ⟨p, 0, none⟩), .int .i64 n] 130)) := (Below.refl _ _).alloc (Nat.le_refl _) _
        exact .inr ⟨rfl, _, A, c, rfl, heap_alloc_new w3 _, (hR3.below hbn).more hbn.size, (((h3.fewer HSUB.out).beside hbn (Nat.le_refl _) (by simp)).more (by omega)), hK3.trans (Keeps.of_below hbn), hK3.size⟩
      · have hri : (r2 != 0) = true := bne_iff_ne.2 hr
        have hW := HW2.out
        rw [if_neg hr] at hW
        clear HW2
        subst hW
        go_wp2
        go_ret3
        exact .inl ⟨hr, rfl, ((h3.fewer HSUB.out).more (by omega)), hK3⟩
  · have hri : (r1 != 0) = true := bne_iff_ne.2 hr
    have hW := HW0.out
    rw [if_neg hr] at hW
    clear HW0
    subst hW
    go_wp2
    go_ret3
    exact .inl ⟨hr, rfl, hH.more (by omega), hK⟩

theorem open_any (n : Int) (h : Has B L w p N m) (ht : Tab w) (hgB : 0 < B) (hN : N < 900000) :
    Calls Tryz.prog 29 #[.pointer (some ⟨p, 0, none⟩), .int .i64 n] w (Opened B L w p (N + 2) n (wopen m n)) := by
  by_cases hn : 0 ≤ n ∧ n < 16
  · cases hoff : m.off with
    | true =>
      refine (open_off n h hn hoff).mono ?_
      rintro e w' ⟨rfl, hb⟩
      rw [wopen_off hn hoff]
      exact .inl ⟨show (10 : Int) ≠ 0 by decide, rfl, (h.below hb).more (by omega), Keeps.of_below hb⟩
    | false =>
      cases hhas : m.has n with
      | true => exact open_old n h ht hgB hN hn hoff hhas
      | false => exact open_new n h ht hgB hN hn hoff hhas
  · refine (open_arg _ n w hn).mono ?_
    rintro e w' ⟨rfl, rfl⟩
    rw [wopen_arg hn]
    exact .inl ⟨show (1 : Int) ≠ 0 by decide, rfl, h.more (by omega), Keeps.refl _ _ _⟩
end
end Go.Proofs.YtamncdpeklbhlaaGreatDoor.LogB
set_option linter.unusedVariables false
set_option linter.unusedSimpArgs false
namespace Go.Proofs.YtamncdpeklbhlaaGreatDoor.LogC
open Go.RowKit Go.Proofs.YtamncdpeklbhlaaGreatDoor.Kit Go.Proofs.YtamncdpeklbhlaaGreatDoor.Blocks Go.Proofs.YtamncdpeklbhlaaGreatDoor.SumB Go.Proofs.YtamncdpeklbhlaaGreatDoor.Wal Go.Proofs.YtamncdpeklbhlaaGreatDoor.FrA Go.Proofs.YtamncdpeklbhlaaGreatDoor.FrC Go.Proofs.YtamncdpeklbhlaaGreatDoor.ScA Go.Proofs.YtamncdpeklbhlaaGreatDoor.ScB Go.Proofs.YtamncdpeklbhlaaGreatDoor.Frm Go.Proofs.YtamncdpeklbhlaaGreatDoor.Model Go.Proofs.YtamncdpeklbhlaaGreatDoor.Disk Go.Proofs.YtamncdpeklbhlaaGreatDoor.Ops Go.Proofs.YtamncdpeklbhlaaGreatDoor.Log
open Go.Proofs.YtamncdpeklbhlaaGreatDoor.DskWalkC (str Got)
open Go.Proofs.YtamncdpeklbhlaaGreatDoor.Model.M
section
variable {B : Nat} {L : List Nat} {w w' : World} {b p N : Nat} {m : M} {n : Int}
/-- A log and its disk. -/
structure LS (B : Nat) (L : List Nat) (w : World) (b p N : Nat) (n : Int) (m : M) (W : World) : Prop where
  log : LogAt W b p n
  disk : Has B L W p N m
  kept : Keeps B L w W
theorem LS.drew {W : World} (h : LS B L w b p N n m W) : LS B L w b p N n m W.drew := ⟨h.log, h.disk.below ((Below.refl _ _).drew), Only.drew h.kept⟩
theorem LS.next {W W' : World} (h : LS B L w b p N n m W) (k : Below W.heap.size W W') : LS B L w b p N n m W' := ⟨h.log.below k, h.disk.below k, h.kept.trans (Keeps.of_below k)⟩

theorem ls_append {W : World} {m' : M} {r : Int} (s : ByteArray) (h : LS B L w b p N n m W) (hN : N < 1000000) (hb : b ∈ L) (hr : Hid ((m.append n s.data.toList).1 = r)) (hm : Hid ((m.append n s.data.toList).2 = m')) :
    Calls Tryz.prog 92 #[.pointer (some ⟨p, 0, none⟩), .int .i64 n, .string s] W fun e W' => e = .returned (.int .i64 r) ∧ LS B L w b p (N + 1) n m' W' := by
  refine (append_has n s h.disk hN).mono ?_
  intro e W' hd
  obtain ⟨rfl, h1, k1⟩ := Done.lit hd hr hm
  exact ⟨rfl, h.log.keeps k1 hb, h1, h.kept.trans k1⟩
theorem ls_replace {W : World} {m' : M} {r : Int} (s : ByteArray) (h : LS B L w b p N n m W) (hN : N < 1000000) (hb : b ∈ L) (hr : Hid ((m.replace n s.data.toList).1 = r)) (hm : Hid ((m.replace n s.data.toList).2 = m')) :
    Calls Tryz.prog 22 #[.pointer (some ⟨p, 0, none⟩), .int .i64 n, .string s] W fun e W' => e = .returned (.int .i64 r) ∧ LS B L w b p (N + 1) n m' W' := by
  refine (replace_has n s h.disk hN).mono ?_
  intro e W' hd
  obtain ⟨rfl, h1, k1⟩ := Done.lit hd hr hm
  exact ⟨rfl, h.log.keeps k1 hb, h1, h.kept.trans k1⟩
theorem ls_sync {W : World} {m' : M} {r : Int} (h : LS B L w b p N n m W) (hN : N < 1000000) (hb : b ∈ L) (h0 : -9223372036854775808 ≤ n) (h1 : n ≤ 9223372036854775807) (hr : Hid ((m.sync n).1 = r)) (hm : Hid ((m.sync n).2 = m')) :
    Calls Tryz.prog 70 #[.pointer (some ⟨p, 0, none⟩), .int .i64 n] W fun e W' => e = .returned (.int .i64 r) ∧ LS B L w b p (N + 1) n m' W' := by
  refine (sync_has n h.disk hN h0 h1).mono ?_
  intro e W' hd
  obtain ⟨rfl, h1, k1⟩ := Done.lit hd hr hm
  exact ⟨rfl, h.log.keeps k1 hb, h1, h.kept.trans k1⟩

/-- What Append and Anew leave. -/
def Wrote (B : Nat) (L : List Nat) (w : World) (b p N : Nat) (n : Int) (r : Int × M) (e : Ending) (w' : World) : Prop := e = .returned (.int .i64 r.1) ∧ LS B L w b p N n r.2 w'

set_option maxRecDepth 100000 in
theorem append_none (a : Option Addr) (k c : Nat) (w : World) :
    Calls Tryz.prog 50 #[.pointer none, .slice a k c] w fun e w' => e = .returned (.int .i64 10) ∧ w = w' := by
  go_enter Tryz.func50, Tryz.ntmps50
  go_wp2
  go_ret
  exact ⟨rfl, rfl⟩
set_option maxRecDepth 100000 in
theorem anew_none (a : Option Addr) (k c : Nat) (w : World) :
    Calls Tryz.prog 39 #[.pointer none, .slice a k c] w fun e w' => e = .returned (.int .i64 10) ∧ w = w' := by
  go_enter Tryz.func39, Tryz.ntmps39
  go_wp2
  go_ret
  exact ⟨rfl, rfl⟩

set_option maxRecDepth 100000 in
set_option maxHeartbeats 4000000 in
theorem append_any (A : Option Addr) (k c : Nat) (l : List (List UInt8)) (hlog : LogAt w b p n) (h : Has B L w p N m) (hb : b ∈ L) (hl : RS w A k l) (ht : Tab w) (hk : k ≤ 1000000) (hN : N < 900000) (h0 : -9223372036854775808 ≤ n) (h1 : n ≤ 9223372036854775807) :
    Calls Tryz.prog 50 #[.pointer (some ⟨b, 0, none⟩), .slice A k c] w (Wrote B L w b p (N + 2) n (wappend m n l)) := by
  have hf := frames_any A k c l w hl ht hk
  have hS0 : LS B L w b p N n m w := ⟨hlog, h, Keeps.refl _ _ _⟩
  by_cases hr : Recs l
  · rw [framed_ok hr] at hf
    obtain ⟨S, hS⟩ : ∃ S, str (frames l) = S := ⟨_, rfl⟩
    have hSl : S.data.toList = frames l := by rw [← hS]; rfl
    obtain ⟨r1, hr1⟩ : ∃ r1, (m.append n S.data.toList).1 = r1 := ⟨_, rfl⟩
    obtain ⟨m1, hm1⟩ : ∃ m1, (m.append n S.data.toList).2 = m1 := ⟨_, rfl⟩
    have hw : wappend m n l = if r1 = 0 then m1.sync n else (r1, m1) := by
      unfold wappend
      rw [if_pos hr, ← hSl, ← hr1, ← hm1]
    rw [hw]
    rw [show str (frames l, (0 : Int)).1 = S from hS] at hf
    have HF := Lib.hid hf
    have HR1 := Lib.hid hr1
    have HM1 := Lib.hid hm1
    clear hf hS hSl hr1 hm1 hw hr
    by_cases hz : r1 = 0
    · subst hz
      rw [if_pos rfl]
      obtain ⟨r2, hr2⟩ : ∃ r2, (m1.sync n).1 = r2 := ⟨_, rfl⟩
      obtain ⟨m2, hm2⟩ : ∃ m2, (m1.sync n).2 = m2 := ⟨_, rfl⟩
      have e : m1.sync n = (r2, m2) := by rw [← hr2, ← hm2]
      rw [e]
      have HR2 := Lib.hid hr2
      have HM2 := Lib.hid hm2
      clear hr2 hm2 e
      go_enter Tryz.func50, Tryz.ntmps50
      go_wp2_with fail
      refine HF.out.mono ?_
      rintro e w1 ⟨rfl, hb1⟩
      have hS1 := (hS0.next hb1).drew
      go_wp2_with fail
      go_region_held3 (fun w' => w'.cell? ⟨b, 0, none⟩ = some (.pointer (some ⟨p, 0, none⟩)) ∧ w'.cell? ⟨b, 1, none⟩ = some (.int .i64 n))
        (first | exact ⟨hS2.log.disk, hS2.log.file⟩ | exact ⟨hS1.log.disk, hS1.log.file⟩)
        ((go_at_call 92
          refine (ls_append S hS1 (by omega) hb HR1 HM1).mono ?_
          rintro e w2 ⟨rfl, hS2⟩))
      all_goals
        have hS3 := hS2.drew
        go_wp2_with fail
        go_region_held3 (fun w' => w'.cell? ⟨b, 0, none⟩ = some (.pointer (some ⟨p, 0, none⟩)) ∧ w'.cell? ⟨b, 1, none⟩ = some (.int .i64 n))
          (first | exact ⟨hS4.log.disk, hS4.log.file⟩ | exact ⟨hS3.log.disk, hS3.log.file⟩)
          ((go_at_call 70
            refine (ls_sync hS3 (by omega) hb h0 h1 HR2 HM2).mono ?_
            rintro e w4 ⟨rfl, hS4⟩))
      all_goals go_wp2
      all_goals go_ret
      all_goals exact ⟨rfl, hS4⟩
    · rw [if_neg hz]
      have hzi : (r1 != 0) = true := bne_iff_ne.2 hz
      go_enter Tryz.func50, Tryz.ntmps50
      go_wp2_with fail
      refine HF.out.mono ?_
      rintro e w1 ⟨rfl, hb1⟩
      have hS1 := (hS0.next hb1).drew
      go_wp2_with fail
      go_region_held3 (fun w' => w'.cell? ⟨b, 0, none⟩ = some (.pointer (some ⟨p, 0, none⟩)) ∧ w'.cell? ⟨b, 1, none⟩ = some (.int .i64 n))
        (first | exact ⟨hS2.log.disk, hS2.log.file⟩ | exact ⟨hS1.log.disk, hS1.log.file⟩)
        ((go_at_call 92
          refine (ls_append S hS1 (by omega) hb HR1 HM1).mono ?_
          rintro e w2 ⟨rfl, hS2⟩))
      all_goals go_wp2
      all_goals go_ret
      all_goals exact ⟨rfl, hS2.log, hS2.disk.more (by omega), hS2.kept⟩
  · rw [framed_long hr] at hf
    have hw : wappend m n l = (3, m) := if_neg hr
    rw [hw]
    have HF := Lib.hid hf
    clear hf hw hr
    go_enter Tryz.func50, Tryz.ntmps50
    go_wp2_with fail
    refine HF.out.mono ?_
    rintro e w1 ⟨rfl, hb1⟩
    have hS1 := hS0.next hb1
    go_wp2
    go_ret
    exact ⟨rfl, hS1.log, hS1.disk.more (by omega), hS1.kept⟩

set_option maxRecDepth 100000 in
set_option maxHeartbeats 4000000 in
theorem anew_any (A : Option Addr) (k c : Nat) (l : List (List UInt8)) (hlog : LogAt w b p n) (h : Has B L w p N m) (hb : b ∈ L) (hl : RS w A k l) (ht : Tab w) (hk : k ≤ 1000000) (hN : N < 900000) :
    Calls Tryz.prog 39 #[.pointer (some ⟨b, 0, none⟩), .slice A k c] w (Wrote B L w b p (N + 2) n (wanew m n l)) := by
  have hf := frames_any A k c l w hl ht hk
  have hS0 : LS B L w b p N n m w := ⟨hlog, h, Keeps.refl _ _ _⟩
  by_cases hr : Recs l
  · rw [framed_ok hr] at hf
    obtain ⟨S, hS⟩ : ∃ S, str (frames l) = S := ⟨_, rfl⟩
    have hSl : S.data.toList = frames l := by rw [← hS]; rfl
    obtain ⟨r1, hr1⟩ : ∃ r1, (m.replace n S.data.toList).1 = r1 := ⟨_, rfl⟩
    obtain ⟨m1, hm1⟩ : ∃ m1, (m.replace n S.data.toList).2 = m1 := ⟨_, rfl⟩
    have hw : wanew m n l = (r1, m1) := by
      unfold wanew
      rw [if_pos hr, ← hSl, ← hr1, ← hm1]
    rw [hw]
    rw [show str (frames l, (0 : Int)).1 = S from hS] at hf
    have HF := Lib.hid hf
    have HR1 := Lib.hid hr1
    have HM1 := Lib.hid hm1
    clear hf hS hSl hr1 hm1 hw hr
    go_enter Tryz.func39, Tryz.ntmps39
    go_wp2_with fail
    refine HF.out.mono ?_
    rintro e w1 ⟨rfl, hb1⟩
    have hS1 := (hS0.next hb1).drew
    go_wp2_with fail
    go_region_held3 (fun w' => w'.cell? ⟨b, 0, none⟩ = some (.pointer (some ⟨p, 0, none⟩)) ∧ w'.cell? ⟨b, 1, none⟩ = some (.int .i64 n))
      (first | exact ⟨hS2.log.disk, hS2.log.file⟩ | exact ⟨hS1.log.disk, hS1.log.file⟩)
      ((go_at_call 22
        refine (ls_replace S hS1 (by omega) hb HR1 HM1).mono ?_
        rintro e w2 ⟨rfl, hS2⟩))
    all_goals go_wp2
    all_goals go_ret
    all_goals exact ⟨rfl, hS2.log, hS2.disk.more (by omega), hS2.kept⟩
  · rw [framed_long hr] at hf
    have hw : wanew m n l = (3, m) := if_neg hr
    rw [hw]
    have HF := Lib.hid hf
    clear hf hw hr
    go_enter Tryz.func39, Tryz.ntmps39
    go_wp2_with fail
    refine HF.out.mono ?_
    rintro e w1 ⟨rfl, hb1⟩
    have hS1 := hS0.next hb1
    go_wp2
    go_ret
    exact ⟨rfl, hS1.log, hS1.disk.more (by omega), hS1.kept⟩
end
end Go.Proofs.YtamncdpeklbhlaaGreatDoor.LogC
set_option linter.unusedVariables false
set_option linter.unusedSimpArgs false
namespace Go.Proofs.YtamncdpeklbhlaaGreatDoor.Solo
open Go.Proofs.YtamncdpeklbhlaaGreatDoor.Stuff Go.Proofs.YtamncdpeklbhlaaGreatDoor.Wal Go.Proofs.YtamncdpeklbhlaaGreatDoor.Model Go.Proofs.YtamncdpeklbhlaaGreatDoor.Log Go.Proofs.YtamncdpeklbhlaaGreatDoor.Frm
open Go.Proofs.YtamncdpeklbhlaaGreatDoor.Model.M

/-- A disk of which file i alone has bytes; T: which others are there. -/
def solo (R : Nat) (f : Int) (o : Bool) (i : Nat) (F S : List UInt8) (t : Bool) (T : Nat → Bool) : M :=
  { room := R, fuel := f, off := o, firm := fun j => if j = i then F else [], soft := fun j => if j = i then S else [], there := fun j => if j = i then t else T j }
def burn (f : Int) : Int := if 0 < f then f - 1 else f

section
variable {R : Nat} {f : Int} {o : Bool} {i : Nat} {F S : List UInt8} {t : Bool} {T : Nat → Bool}
theorem new_solo (R i : Nat) : M.new R = solo R (-1) false i [] [] false (fun _ => false) := by simp [M.new, solo]
theorem solo_move (j : Nat) : solo R f o i [] [] t T = solo R f o j [] [] (if j = i then t else T j) (fun k => if k = i then t else T k) := by
  unfold solo
  simp only [ite_self, M.mk.injEq, true_and]
  funext k
  by_cases h : k = j
  · subst h; simp
  · simp [h]
theorem solo_usedTo : ∀ k, (solo R f o i F S t T).usedTo k = if i < k then F.length + S.length else 0
  | 0 => by simp [M.usedTo]
  | k + 1 => by
    have e : (solo R f o i F S t T).len k = if k = i then F.length + S.length else 0 := by
      simp only [M.len, solo]
      by_cases h : k = i <;> simp [h]
    simp only [M.usedTo]
    rw [solo_usedTo k, e]
    by_cases h : k = i
    · subst h; simp
    · by_cases h2 : i < k
      · rw [if_pos h2, if_neg h, if_pos (by omega)]; rfl
      · rw [if_neg h2, if_neg h, if_neg (by omega)]
theorem solo_used (hi : i < 16) : (solo R f o i F S t T).used = F.length + S.length := by
  unfold M.used
  rw [solo_usedTo, if_pos hi]
theorem solo_len : (solo R f o i F S t T).len i = F.length + S.length := by simp [M.len, solo]
theorem solo_all : (solo R f o i F S t T).all i = F ++ S := by simp [M.all, solo]
theorem solo_has (hi : i < 16) : (solo R f o i F S t T).has (i : Int) = t := by
  unfold M.has
  rw [decide_eq_true (show 0 ≤ (i : Int) ∧ (i : Int) < 16 by omega)]
  simp [solo]
theorem solo_burnt : (solo R f o i F S t T).burnt = solo R (burn f) o i F S t T := rfl
theorem solo_dead : (solo R f o i F S t T).dead = solo R f true i F S t T := rfl
theorem solo_fuelled (n : Int) : (solo R f o i F S t T).fuelled n = solo R (max n (-1)) o i F S t T := rfl
theorem solo_set (F' S' : List UInt8) (t' : Bool) : (solo R f o i F S t T).set i F' S' t' = solo R f o i F' S' t' T := by
  unfold solo M.set
  simp only [M.mk.injEq, true_and]
  refine ⟨?_, ?_, ?_⟩ <;> (funext k; by_cases h : k = i <;> simp [h])
theorem solo_append (hi : i < 16) (s : List UInt8) : (solo R f false i F S t T).append i s =
    if R < F.length + S.length + s.length then (11, solo R f false i F S t T) else if f = 0 then (10, solo R f true i F S t T) else (0, solo R (burn f) false i F (S ++ s) true T) := by
  unfold M.append
  rw [if_neg (by omega), if_neg (by simp [solo]), solo_used hi]
  show (if R < _ then _ else if f = 0 then _ else _) = _
  rw [solo_burnt, show ((i : Int)).toNat = i by omega, solo_set, solo_dead]
  congr 1
  congr 1
  simp [solo]
theorem solo_sync (hi : i < 16) : (solo R f false i F S true T).sync i = if f = 0 then (10, solo R f true i F S true T) else (0, solo R (burn f) false i (F ++ S) [] true T) := by
  unfold M.sync
  rw [if_neg (by simp [solo]), if_neg (by rw [solo_has hi]; simp)]
  show (if f = 0 then _ else _) = _
  rw [solo_burnt, show ((i : Int)).toNat = i by omega, solo_set, solo_dead, solo_all]
theorem solo_replace (hi : i < 16) (s : List UInt8) : (solo R f false i F S t T).replace i s =
    if R < s.length then (11, solo R f false i F S t T) else if f = 0 then (10, solo R f true i F S t T) else (0, solo R (burn f) false i s [] true T) := by
  unfold M.replace
  rw [if_neg (by omega), if_neg (by simp [solo]), solo_used hi, show ((i : Int)).toNat = i by omega, solo_len, solo_burnt, solo_set, solo_dead]
  show (if R + (F.length + S.length) < F.length + S.length + s.length then _ else if f = 0 then _ else _) = _
  by_cases h : R < s.length
  · rw [if_pos h, if_pos (by omega)]
  · rw [if_neg h, if_neg (by omega)]
theorem solo_crash (keep : List Int) : (solo R f o i F S t T).crash keep =
    solo R (-1) false i (F ++ S.take (kept keep i S.length)) [] (t && (!(F ++ S.take (kept keep i S.length)).isEmpty || S.isEmpty)) T := by
  have e : ∀ k, (solo R f o i F S t T).left keep k = if k = i then F ++ S.take (kept keep i S.length) else [] := fun k => by
    simp only [M.left, solo]
    by_cases h : k = i
    · subst h; simp
    · simp [h]
  have e2 : (solo R f o i F S t T).left keep = fun k => if k = i then F ++ S.take (kept keep i S.length) else [] := funext e
  unfold M.crash
  rw [e2]
  unfold solo
  simp only [M.mk.injEq, true_and, ite_self]
  funext k
  by_cases h : k = i
  · subst h; simp
  · simp [h]
/-- What a log is behind an opening with enough fuel. -/
theorem solo_behind (hi : i < 16) (hf : f ≠ 0) (hR : F.length + S.length ≤ R) : behind (solo R f false i F S true T) i (F ++ S) = ((0, (scan (F ++ S)).1), solo R (burn f) false i ((F ++ S).take (scan (F ++ S)).2) [] true T) := by
  unfold behind
  have hle := scan_le (F ++ S)
  have e1 : (solo R f false i F S true T).replace i ((F ++ S).take (scan (F ++ S)).2) = (0, solo R (burn f) false i ((F ++ S).take (scan (F ++ S)).2) [] true T) := by
    rw [solo_replace hi, if_neg (by rw [List.length_take, List.length_append]; omega), if_neg hf]
  have e2 : (solo R f false i F S true T).sync i = (0, solo R (burn f) false i (F ++ S) [] true T) := by rw [solo_sync hi, if_neg hf]
  rw [e1, e2]
  by_cases h : (scan (F ++ S)).2 < (F ++ S).length
  · rw [if_pos h]; rfl
  · rw [if_neg h, List.take_of_length_le (by omega)]; rfl
theorem solo_open_old (hi : i < 16) (hf : f ≠ 0) (hR : F.length + S.length ≤ R) : wopen (solo R f false i F S true T) i = ((0, (scan (F ++ S)).1), solo R (burn f) false i ((F ++ S).take (scan (F ++ S)).2) [] true T) := by
  rw [wopen_old (by omega) rfl (solo_has hi), show ((i : Int)).toNat = i by omega, solo_all, solo_behind hi hf hR]
theorem scan_nil : scan [] = ([], 0) := scan_end [] rfl
theorem solo_open_new (hi : i < 16) (hf : f = -1) : wopen (solo R f false i F S false T) i = ((0, []), solo R (-1) false i [] [] true T) := by
  subst hf
  have e1 : (solo R (-1) false i F S false T).replace i [] = (0, solo R (-1) false i [] [] true T) := by
    rw [solo_replace hi]
    rfl
  rw [wopen_new (by omega) rfl (solo_has hi), e1]
  have := solo_behind (R := R) (f := -1) (i := i) (F := []) (S := []) (T := T) hi (by decide) (by simp)
  simp only [List.append_nil, scan_nil, List.take_nil] at this
  exact this
/-- A log that is opened behind a crash. -/
theorem solo_again (hi : i < 16) (hR : F.length + S.length ≤ R) (keep : List Int) :
    ∃ t', wopen ((solo R f o i F S true T).crash keep) i = ((0, (scan (F ++ S.take (kept keep i S.length))).1), solo R (-1) false i ((F ++ S.take (kept keep i S.length)).take (scan (F ++ S.take (kept keep i S.length))).2) [] t' T) := by
  rw [solo_crash]
  have hk := kept_le keep i S.length
  obtain ⟨C, hC⟩ : ∃ C, F ++ S.take (kept keep i S.length) = C := ⟨_, rfl⟩
  have hCl : C.length ≤ R := by rw [← hC, List.length_append, List.length_take]; omega
  rw [hC]
  refine ⟨true, ?_⟩
  cases ht : (true && (!C.isEmpty || S.isEmpty)) with
  | true =>
    have := solo_open_old (R := R) (f := -1) (i := i) (F := C) (S := []) (T := T) hi (by decide) (by simpa using hCl)
    rw [List.append_nil] at this
    rw [this]
    rfl
  | false =>
    have hCe : C = [] := by
      simp only [Bool.true_and, Bool.or_eq_false_iff, Bool.not_eq_false', List.isEmpty_iff] at ht
      exact ht.1
    subst hCe
    rw [solo_open_new hi rfl, scan_nil]
    rfl
/-- Records that are written with enough fuel. -/
theorem solo_wappend (hi : i < 16) (l : List (List UInt8)) (hl : Recs l) (hR : F.length + (frames l).length ≤ R) : wappend (solo R f false i F [] true T) i l =
    if f = 0 then (10, solo R f true i F [] true T) else if f = 1 then (10, solo R 0 true i F (frames l) true T) else (0, solo R (burn (burn f)) false i (F ++ frames l) [] true T) := by
  have e1 : (solo R f false i F [] true T).append i (frames l) = if f = 0 then (10, solo R f true i F [] true T) else (0, solo R (burn f) false i F (frames l) true T) := by
    rw [solo_append hi, if_neg (by simp only [List.length_nil]; omega), List.nil_append]
  unfold wappend
  rw [if_pos hl, e1]
  by_cases h0 : f = 0
  · subst h0
    rfl
  · rw [if_neg h0, if_neg h0]
    have e2 := solo_sync (R := R) (f := burn f) (i := i) (F := F) (S := frames l) (T := T) hi
    show (solo R (burn f) false i F (frames l) true T).sync i = _
    rw [e2]
    by_cases h1 : f = 1
    · subst h1
      rfl
    · rw [if_neg h1, if_neg (by unfold burn; split <;> omega)]
theorem solo_wappend_free (hi : i < 16) (l : List (List UInt8)) (hl : Recs l) (hR : F.length + (frames l).length ≤ R) : wappend (solo R (-1) false i F [] true T) i l = (0, solo R (-1) false i (F ++ frames l) [] true T) := solo_wappend hi l hl hR
theorem solo_wanew (hi : i < 16) (l : List (List UInt8)) (hl : Recs l) (hR : (frames l).length ≤ R) : wanew (solo R f false i F S t T) i l =
    if f = 0 then (10, solo R f true i F S t T) else (0, solo R (burn f) false i (frames l) [] true T) := by
  unfold wanew
  rw [if_pos hl, solo_replace hi, if_neg (by omega)]
end

/-- What stands in a log's file behind a crash: some first records. -/
theorem crash_scan (a c : List (List UInt8)) (k : Nat) (ha : Recs a) (hc : Recs c) (hk : k ≤ (frames c).length) : (scan (frames a ++ (frames c).take k)).1 = a ++ c.take (cut c k) := by
  rw [scan_frames a _ ha, scan_take c k hc]
theorem half_scan (a : List (List UInt8)) (r : List UInt8) (ha : Recs a) (hr : ∀ c ∈ r, c ≠ 0) : scan (frames a ++ r) = (a, (frames a).length) := by
  rw [scan_frames a r ha, scan_end r ((free_iff r).2 hr)]
  simp
theorem all_scan (a : List (List UInt8)) (ha : Recs a) : scan (frames a) = (a, (frames a).length) := scan_all a ha
end Go.Proofs.YtamncdpeklbhlaaGreatDoor.Solo
set_option linter.unusedVariables false
set_option linter.unusedSimpArgs false
namespace Go.Proofs.YtamncdpeklbhlaaGreatDoor.Sol
open Go.Proofs.YtamncdpeklbhlaaGreatDoor.Rlog Go.Proofs.YtamncdpeklbhlaaGreatDoor.Sto Go.Proofs.YtamncdpeklbhlaaGreatDoor.Sav Go.Proofs.YtamncdpeklbhlaaGreatDoor.Wal Go.Proofs.YtamncdpeklbhlaaGreatDoor.Solo
open Go.Proofs.YtamncdpeklbhlaaGreatDoor.Quorum (sound)
open Go.Proofs.YtamncdpeklbhlaaGreatDoor.Model (M)
open Go.Proofs.YtamncdpeklbhlaaGreatDoor.Log (wopen wappend wanew)
open Go.Proofs.YtamncdpeklbhlaaGreatDoor.Model.M (kept)

theorem said_nil {c : Nat} (h : sound c = true) : said c [] = some (first c) := by
  unfold said
  simp only [makes]
  rw [if_pos (first_right h)]
theorem said_iff {c : Nat} {l : List (List UInt8)} {s : Sta} : said c l = some s ↔ makes (first c) l = some s ∧ right s = true := by
  unfold said
  cases h : makes (first c) l with
  | none => simp
  | some x =>
    simp only
    by_cases hr : right x = true
    · rw [if_pos hr]
      constructor
      · intro e; cases e; exact ⟨rfl, hr⟩
      · rintro ⟨e, _⟩; exact e
    · rw [if_neg hr]
      constructor
      · intro e; cases e
      · rintro ⟨e, h2⟩; cases e; exact absurd h2 hr
theorem sopen_said {m m' : M} {n : Int} {c : Nat} {rl : List (List UInt8)} {s : Sta} (hc : sound c = true) (hw : wopen m n = ((0, rl), m')) (h : said c rl = some s) : sopen m n c = ((0, s), m') := by
  unfold sopen
  rw [if_neg (by rw [hc]; decide), hw]
  simp only [if_true]
  rw [h]
theorem sopen_new (R i : Nat) (hi : i < 16) {c : Nat} (hc : sound c = true) : sopen (M.new R) i c = ((0, first c), solo R (-1) false i [] [] true (fun _ => false)) := by
  refine sopen_said hc ?_ (said_nil hc)
  rw [new_solo R i]
  exact solo_open_new hi rfl
theorem ssave_ok {m m' : M} {n : Int} {s : Sta} {t : Nat} {v : Int} {l : List Ent} (hr : right (savedS s t v l) = true) (hw : out s t v l ≠ [] → wappend m n (out s t v l) = (0, m')) (h0 : out s t v l = [] → m' = m) : ssave m n s t v l = (0, (m', savedS s t v l)) := by
  unfold ssave
  rw [if_pos hr]
  by_cases ho : out s t v l = []
  · rw [if_pos ho, h0 ho]
  · rw [if_neg ho, hw ho]
    rfl

/-! ### How long records are -/
def bulk (l : List Ent) : Nat := (l.map fun e => e.data.size + 38).sum
theorem weigh_ents : ∀ (l : List Ent), (∀ e ∈ l, EntB e) → weigh (l.map recEnt) ≤ bulk l
  | [], _ => by simp [weigh, bulk]
  | e :: l, h => by
    have h1 := ent_length (h e (by simp))
    have h2 := weigh_ents l fun x hx => h x (by simp [hx])
    unfold bulk at h2 ⊢
    simp only [List.map_cons, weigh, List.sum_cons]
    omega
theorem weigh_hards {s : Sta} {t : Nat} {v : Int} (ht : t < 18446744073709551616) : weigh (hards s t v) ≤ 20 := by
  have := hard_length (v := v) ht
  unfold hards
  split
  · simp [weigh]
  · simp [weigh]; exact this
theorem weigh_cuts {s : Sta} {l : List Ent} (hl : ∀ e ∈ l, EntB e) : weigh (cuts s l) ≤ 11 := by
  cases l with
  | nil => simp [cuts, weigh]
  | cons e r =>
    have := cut_length (hl e (by simp)).idx
    unfold cuts
    simp only
    split
    · simp [weigh]; exact this
    · simp [weigh]
theorem weigh_out {s : Sta} {t : Nat} {v : Int} {l : List Ent} (ht : t < 18446744073709551616) (hl : ∀ e ∈ l, EntB e) : weigh (out s t v l) ≤ 31 + bulk l := by
  unfold out
  rw [weigh_append, weigh_append]
  have h1 := weigh_hards (s := s) (v := v) ht
  have h2 := weigh_cuts (s := s) hl
  have h3 := weigh_ents l hl
  omega
theorem recs_ents {l : List Ent} (hl : ∀ e ∈ l, EntB e) (hd : ∀ e ∈ l, e.data.size ≤ 32768) : Recs (l.map recEnt) := fun x hx => by
  obtain ⟨e, he, rfl⟩ := List.mem_map.1 hx
  have := ent_length (hl e he)
  have := hd e he
  omega
theorem recs_out {s : Sta} {t : Nat} {v : Int} {l : List Ent} (ht : t < 18446744073709551616) (hl : ∀ e ∈ l, EntB e) (hd : ∀ e ∈ l, e.data.size ≤ 32768) : Recs (out s t v l) := by
  intro x hx
  unfold out at hx
  rcases List.mem_append.1 hx with hx | hx
  · unfold hards at hx
    split at hx
    · cases hx
    · simp only [List.mem_singleton] at hx
      have := hard_length (v := v) ht
      rw [hx]
      omega
  · rcases List.mem_append.1 hx with hx | hx
    · cases l with
      | nil => simp [cuts] at hx
      | cons e r =>
        unfold cuts at hx
        simp only at hx
        split at hx
        · simp only [List.mem_singleton] at hx
          have := cut_length (hl e (by simp)).idx
          rw [hx]
          omega
        · cases hx
    · exact recs_ents hl hd x hx
theorem data_right {s : Sta} (h : right s = true) : ∀ e ∈ s.es, e.data.size ≤ 32768 := fun e he => (follow_mem (right_iff.1 h).1.2 he).1
theorem data_saved {s : Sta} {t : Nat} {v : Int} {l : List Ent} (h : right (savedS s t v l) = true) : ∀ e ∈ l, e.data.size ≤ 32768 := fun e he => data_right h e (List.mem_append_right _ he)
theorem recs_all {s : Sta} (hb : StaB s) (h : right s = true) (hd : s.snap.data.size ≤ 32768) : Recs (allOf s) := by
  intro x hx
  unfold allOf at hx
  rcases List.mem_cons.1 hx with rfl | hx
  · have := hard_length (v := s.vote) hb.term; omega
  rcases List.mem_cons.1 hx with rfl | hx
  · have := snap_length hb.snap (by omega); omega
  · exact recs_ents hb.ents (data_right h) x hx
theorem weigh_all {s : Sta} (hb : StaB s) (hd : s.snap.data.size < 18446744073709551616) : weigh (allOf s) ≤ 58 + s.snap.data.size + bulk s.es := by
  unfold allOf
  simp only [weigh]
  have h1 := hard_length (v := s.vote) hb.term
  have h2 := snap_length hb.snap hd
  have h3 := weigh_ents s.es hb.ents
  omega
end Go.Proofs.YtamncdpeklbhlaaGreatDoor.Sol
set_option linter.unusedVariables false
set_option linter.unusedSimpArgs false
namespace Go.Proofs.YtamncdpeklbhlaaGreatDoor.Rec
open Go.RowKit Go.Proofs.YtamncdpeklbhlaaGreatDoor.Kit Go.Proofs.YtamncdpeklbhlaaGreatDoor.Blocks Go.Proofs.YtamncdpeklbhlaaGreatDoor.Rlog Go.Proofs.YtamncdpeklbhlaaGreatDoor.Sto Go.Proofs.YtamncdpeklbhlaaGreatDoor.Sav Go.Proofs.YtamncdpeklbhlaaGreatDoor.Ents
open Go.Proofs.YtamncdpeklbhlaaGreatDoor.Num (num)
open Go.Proofs.YtamncdpeklbhlaaGreatDoor.State (WV)
open Go.Proofs.YtamncdpeklbhlaaGreatDoor.PckWalkB (text)
open Go.Proofs.YtamncdpeklbhlaaGreatDoor.PckWalkH (str)

/-- A writer that came behind a world, with what it laid. -/
structure Wrt (w0 W : World) (p : Nat) (l : List UInt8) : Prop where
  ex : ∃ v, WV W p v l
  low : w0.heap.size ≤ p
  bel : Below w0.heap.size w0 W
section
variable {w0 W W' : World} {p : Nat} {l : List UInt8}
theorem Wrt.cell (h : Wrt w0 W p l) {a : Addr} {v : Value} (hc : w0.cell? a = some v) (ha : a.block < w0.heap.size) : W.cell? a = some v := (h.bel.cell (p := a) ha).trans hc
theorem Wrt.drew (h : Wrt w0 W p l) : Wrt w0 W.drew p l := by
  obtain ⟨v, hv⟩ := h.ex
  exact ⟨⟨v, hv.below ((Below.refl _ _).drew)⟩, h.low, h.bel.drew⟩
theorem Wrt.next (h : Wrt w0 W p l) {l' : List UInt8} {v : Value} (hv : WV W p v l) {e : Ending} (k : State.Wrote p v.ownBlock l' W e W') : e = .returned (.pointer (some ⟨p, 0, none⟩)) ∧ Wrt w0 W' p l' := by
  obtain ⟨rfl, v', h1, h2⟩ := k
  have hl := h.low
  have hlt := hv.lt
  refine ⟨rfl, ⟨v', h1⟩, hl, h.bel.trans (h2.below h.bel.size hl fun g hg => ?_)⟩
  have := (hv.row g hg).1
  omega
theorem wrt_num {l' : List UInt8} (x : Nat) (h : Wrt w0 W p l) (hx : x < 18446744073709551616) (hl : l.length ≤ 140737488355000) (he : Hid (l ++ num x = l')) :
    Calls Tryz.prog 82 #[.pointer (some ⟨p, 0, none⟩), .int .u64 (x : Int)] W fun e W' => e = .returned (.pointer (some ⟨p, 0, none⟩)) ∧ Wrt w0 W' p l' := by
  obtain ⟨v, hv⟩ := h.ex
  refine (PckWalkA.num_any p v l x W hv hx hl).mono ?_
  intro e W' k
  rw [he.out] at k
  exact h.next hv k
theorem wrt_text {l' : List UInt8} (s : ByteArray) (h : Wrt w0 W p l) (hl : l.length + s.size ≤ 140737488355000) (he : Hid (l ++ text s = l')) :
    Calls Tryz.prog 84 #[.pointer (some ⟨p, 0, none⟩), .string s] W fun e W' => e = .returned (.pointer (some ⟨p, 0, none⟩)) ∧ Wrt w0 W' p l' := by
  obtain ⟨v, hv⟩ := h.ex
  refine (PckWalkB.text_any p v l s W hv hl).mono ?_
  intro e W' k
  rw [he.out] at k
  exact h.next hv k
theorem wrt_bytes {s : ByteArray} (h : Wrt w0 W p l) (he : Hid (str l = s)) :
    Calls Tryz.prog 83 #[.pointer (some ⟨p, 0, none⟩)] W fun e W' => e = .returned (.string s) ∧ Wrt w0 W' p l := by
  obtain ⟨v, hv⟩ := h.ex
  refine (PckWalkB.bytes_any p v l W hv).mono ?_
  rintro e W' ⟨rfl, rfl⟩
  refine ⟨?_, h⟩
  rw [← he.out]
  rfl
end
theorem saying_any (k : Nat) (z : Int) (hz : z = (k : Int)) (w0 w : World) (hb : Below w0.heap.size w0 w) (hk : k < 18446744073709551616) {l : List UInt8} (he : Hid (num k = l)) :
    Calls Tryz.prog 81 #[.int .u64 z] w fun e w' => ∃ p, e = .returned (.pointer (some ⟨p, 0, none⟩)) ∧ Wrt w0 w' p l := by
  have hwv : WV (w.alloc (.cells #[.slice none 0 0] 174)) w.heap.size (.slice none 0 0) [] := ⟨heap_alloc_new w _, World.ownsRow_nil _ _ _ _⟩
  have hba : Below w.heap.size w (w.alloc (.cells #[.slice none 0 0] 174)) := (Below.refl _ _).alloc (Nat.le_refl _) _
  have hW : Wrt w0 (w.alloc (.cells #[.slice none 0 0] 174)) w.heap.size [] := ⟨⟨_, hwv⟩, hb.size, hb.trans (hba.mono hb.size)⟩
  have HE : Hid ([] ++ num k = l) := he
  subst hz
  go_enter Tryz.func81, Tryz.ntmps81
  go_wp2_with fail
  refine (wrt_num k hW hk (by simp) HE).mono ?_
  rintro e w1 ⟨rfl, h1⟩
  go_wp2
  go_ret
  exact ⟨_, rfl, h1⟩

/-- What a record's function answers. -/
def Said (w : World) (l : List UInt8) (e : Ending) (w' : World) : Prop := e = .returned (.string (str l)) ∧ Below w.heap.size w w'
theorem cut_rec (i : Nat) (w : World) (hi : i < 18446744073709551616) : Calls Tryz.prog 91 #[.int .u64 (i : Int)] w (Said w (recCut i)) := by
  obtain ⟨l1, h1⟩ : ∃ l1, num 3 = l1 := ⟨_, rfl⟩
  obtain ⟨l2, h2⟩ : ∃ l2, l1 ++ num i = l2 := ⟨_, rfl⟩
  obtain ⟨s, hs⟩ : ∃ s, str l2 = s := ⟨_, rfl⟩
  have hl1 : l1.length ≤ 2 := by rw [← h1]; exact num_small (by decide)
  have hR : recCut i = l2 := by rw [← h2, ← h1]; rfl
  unfold Said
  rw [hR, hs]
  have H1 := Lib.hid h1
  have H2 := Lib.hid h2
  have HS := Lib.hid hs
  clear hR h1 h2 hs
  have hsay := saying_any 3 3 rfl w w (Below.refl _ _) (by decide) H1
  go_enter Tryz.func91, Tryz.ntmps91
  go_wp2_with fail
  refine hsay.mono ?_
  rintro e w1 ⟨p, rfl, hW1⟩
  go_wp2_with fail
  refine (wrt_num i hW1 hi (by omega) H2).mono ?_
  rintro e w2 ⟨rfl, hW2⟩
  go_wp2_with fail
  refine (wrt_bytes hW2 HS).mono ?_
  rintro e w3 ⟨rfl, hW3⟩
  go_wp2
  go_ret
  exact ⟨rfl, hW3.bel⟩

theorem wrap_uns (z : Int) : IntKind.u64.wrap z = (uns z : Int) := by
  unfold uns
  rw [IntKind.wrap_u64]
  omega
theorem wrap_vote {v : Int} (h0 : -9223372036854775808 ≤ v) (h1 : v ≤ 9223372036854775807) : IntKind.u64.wrap (IntKind.i64.wrap (v + 1)) = (uns (v + 1) : Int) := by
  rw [wrap_uns]
  unfold uns
  rw [IntKind.wrap_i64]
  omega

set_option maxRecDepth 100000 in
set_option maxHeartbeats 2000000 in
theorem hard_rec (t : Nat) (v : Int) (w : World) (ht : t < 18446744073709551616) (hv0 : -9223372036854775808 ≤ v) (hv1 : v ≤ 9223372036854775807) :
    Calls Tryz.prog 36 #[.agg #[.int .u64 (t : Int), .int .i64 v]] w (Said w (recHard t v)) := by
  obtain ⟨l1, h1⟩ : ∃ l1, num 1 = l1 := ⟨_, rfl⟩
  obtain ⟨l2, h2⟩ : ∃ l2, l1 ++ num t = l2 := ⟨_, rfl⟩
  obtain ⟨u, hu⟩ : ∃ u, uns (v + 1) = u := ⟨_, rfl⟩
  have hul : u < 18446744073709551616 := by rw [← hu]; exact uns_lt _
  obtain ⟨l3, h3⟩ : ∃ l3, l2 ++ num u = l3 := ⟨_, rfl⟩
  obtain ⟨s, hs⟩ : ∃ s, str l3 = s := ⟨_, rfl⟩
  have hl1 : l1.length ≤ 2 := by rw [← h1]; exact num_small (by decide)
  have hl2 : l2.length ≤ 11 := by rw [← h2, List.length_append]; have := num9 ht; omega
  have hR : recHard t v = l3 := by rw [← h3, ← h2, ← h1, ← hu, List.append_assoc]; rfl
  unfold Said
  rw [hR, hs]
  have hz := wrap_vote hv0 hv1
  rw [hu] at hz
  obtain ⟨z, hz1⟩ : ∃ z, IntKind.i64.wrap (v + 1) = z := ⟨_, rfl⟩
  have hz2 : wrap64 (v + 1) = z := by rw [← hz1, IntKind.wrap_i64]; unfold wrap64; omega
  rw [hz1] at hz
  have H1 := Lib.hid h1
  have H2 := Lib.hid h2
  have H3 := Lib.hid h3
  have HS := Lib.hid hs
  clear hR h1 h2 h3 hs hu
  have hba : Below w.heap.size w (w.alloc (.cells #[.int .u64 (t : Int), .int .i64 v] 40)) := (Below.refl _ _).alloc (Nat.le_refl _) _
  have hcb := heap_alloc_new w (.cells #[.int .u64 (t : Int), .int .i64 v] 40)
  have hlt : w.heap.size < (w.alloc (.cells #[.int .u64 (t : Int), .int .i64 v] 40)).heap.size := lt_at hcb
  have c0 : (w.alloc (.cells #[.int .u64 (t : Int), .int .i64 v] 40)).cell? ⟨w.heap.size, 0, none⟩ = some (.int .u64 (t : Int)) := by rw [cell_at hcb]; rfl
  have c1 : (w.alloc (.cells #[.int .u64 (t : Int), .int .i64 v] 40)).cell? ⟨w.heap.size, 1, none⟩ = some (.int .i64 v) := by rw [cell_at hcb]; rfl
  go_enter Tryz.func36, Tryz.ntmps36
  go_wp2_with fail
  go_region_held3 (fun w' => w'.cell? ⟨w.heap.size, 0, none⟩ = some (.int .u64 (t : Int)) ∧ w'.cell? ⟨w.heap.size, 1, none⟩ = some (.int .i64 v))
    (first
      | exact ⟨c0, c1⟩
      | exact ⟨hWD.cell c0 hlt, hWD.cell c1 hlt⟩
      | exact ⟨hWC.cell c0 hlt, hWC.cell c1 hlt⟩
      | exact ⟨hWB.cell c0 hlt, hWB.cell c1 hlt⟩
      | exact ⟨hWA.cell c0 hlt, hWA.cell c1 hlt⟩)
    (first
      | (go_at_call 81
         (with_reducible refine (saying_any 1 1 rfl (w.alloc (.cells #[.int .u64 (t : Int), .int .i64 v] 40)) _ ((Below.refl _ _).drew) (by decide) H1).mono ?_)
         rintro e wA ⟨p, rfl, hWA⟩)
      | (go_at_call 82
         (with_reducible refine (wrt_num t hWA ht (by omega) H2).mono ?_)
         rintro e wB ⟨rfl, hWB⟩)
      | (go_at_call 82
         (with_reducible refine (wrt_num u hWB hul (by omega) H3).mono ?_)
         rintro e wC ⟨rfl, hWC⟩)
      | (go_at_call 83
         (with_reducible refine (wrt_bytes hWC HS).mono ?_)
         rintro e wD ⟨rfl, hWD⟩))
  all_goals go_wp2
  all_goals go_ret
  all_goals exact ⟨rfl, hba.trans (hWD.bel.mono hba.size)⟩

set_option maxRecDepth 100000 in
set_option maxHeartbeats 4000000 in
theorem ent_rec (e : Ent) (w : World) (he : EntB e) (hd : e.data.size ≤ 140737488350000) :
    Calls Tryz.prog 38 #[.agg #[.int .u64 (e.term : Int), .int .u64 (e.idx : Int), .int .i64 e.kind, .string e.data]] w (Said w (recEnt e)) := by
  have ht := he.term
  have hi := he.idx
  obtain ⟨l1, h1⟩ : ∃ l1, num 2 = l1 := ⟨_, rfl⟩
  obtain ⟨l2, h2⟩ : ∃ l2, l1 ++ num e.term = l2 := ⟨_, rfl⟩
  obtain ⟨l3, h3⟩ : ∃ l3, l2 ++ num e.idx = l3 := ⟨_, rfl⟩
  obtain ⟨u, hu⟩ : ∃ u, uns e.kind = u := ⟨_, rfl⟩
  have hul : u < 18446744073709551616 := by rw [← hu]; exact uns_lt _
  have hz := wrap_uns e.kind
  rw [hu] at hz
  obtain ⟨l4, h4⟩ : ∃ l4, l3 ++ num u = l4 := ⟨_, rfl⟩
  obtain ⟨l5, h5⟩ : ∃ l5, l4 ++ text e.data = l5 := ⟨_, rfl⟩
  obtain ⟨s, hs⟩ : ∃ s, str l5 = s := ⟨_, rfl⟩
  have hl1 : l1.length ≤ 2 := by rw [← h1]; exact num_small (by decide)
  have hl2 : l2.length ≤ 11 := by rw [← h2, List.length_append]; have := num9 ht; omega
  have hl3 : l3.length ≤ 20 := by rw [← h3, List.length_append]; have := num9 hi; omega
  have hl4 : l4.length ≤ 29 := by rw [← h4, List.length_append]; have := num9 hul; omega
  have hR : recEnt e = l5 := by rw [← h5, ← h4, ← h3, ← h2, ← h1, ← hu]; simp only [recEnt, List.append_assoc]
  unfold Said
  rw [hR, hs]
  obtain ⟨tm, ix, kd, d⟩ := e
  simp only at *
  have H1 := Lib.hid h1
  have H2 := Lib.hid h2
  have H3 := Lib.hid h3
  have H4 := Lib.hid h4
  have H5 := Lib.hid h5
  have HS := Lib.hid hs
  clear hR h1 h2 h3 h4 h5 hs hu he
  have hba : Below w.heap.size w (w.alloc (.cells #[.int .u64 (tm : Int), .int .u64 (ix : Int), .int .i64 kd, .string d] 83)) := (Below.refl _ _).alloc (Nat.le_refl _) _
  have hcb := heap_alloc_new w (.cells #[.int .u64 (tm : Int), .int .u64 (ix : Int), .int .i64 kd, .string d] 83)
  have hlt : w.heap.size < (w.alloc (.cells #[.int .u64 (tm : Int), .int .u64 (ix : Int), .int .i64 kd, .string d] 83)).heap.size := lt_at hcb
  obtain ⟨w0, hw0⟩ : ∃ w0, w.alloc (.cells #[.int .u64 (tm : Int), .int .u64 (ix : Int), .int .i64 kd, .string d] 83) = w0 := ⟨_, rfl⟩
  have c0 : w0.cell? ⟨w.heap.size, 0, none⟩ = some (.int .u64 (tm : Int)) := by rw [← hw0, cell_at hcb]; rfl
  have c1 : w0.cell? ⟨w.heap.size, 1, none⟩ = some (.int .u64 (ix : Int)) := by rw [← hw0, cell_at hcb]; rfl
  have c2 : w0.cell? ⟨w.heap.size, 2, none⟩ = some (.int .i64 kd) := by rw [← hw0, cell_at hcb]; rfl
  have c3 : w0.cell? ⟨w.heap.size, 3, none⟩ = some (.string d) := by rw [← hw0, cell_at hcb]; rfl
  rw [hw0] at hba hlt
  have HW0 := Lib.hid hw0
  clear hcb hw0
  go_enter Tryz.func38, Tryz.ntmps38
  go_wp2_with fail
  rw [HW0.out]
  go_region_held3 (fun w' => w'.cell? ⟨w.heap.size, 0, none⟩ = some (.int .u64 (tm : Int)) ∧ w'.cell? ⟨w.heap.size, 1, none⟩ = some (.int .u64 (ix : Int)) ∧ w'.cell? ⟨w.heap.size, 2, none⟩ = some (.int .i64 kd) ∧ w'.cell? ⟨w.heap.size, 3, none⟩ = some (.string d))
    (first
      | exact ⟨c0, c1, c2, c3⟩
      | exact ⟨hWF.cell c0 hlt, hWF.cell c1 hlt, hWF.cell c2 hlt, hWF.cell c3 hlt⟩
      | exact ⟨hWE.cell c0 hlt, hWE.cell c1 hlt, hWE.cell c2 hlt, hWE.cell c3 hlt⟩
      | exact ⟨hWD.cell c0 hlt, hWD.cell c1 hlt, hWD.cell c2 hlt, hWD.cell c3 hlt⟩
      | exact ⟨hWC.cell c0 hlt, hWC.cell c1 hlt, hWC.cell c2 hlt, hWC.cell c3 hlt⟩
      | exact ⟨hWB.cell c0 hlt, hWB.cell c1 hlt, hWB.cell c2 hlt, hWB.cell c3 hlt⟩
      | exact ⟨hWA.cell c0 hlt, hWA.cell c1 hlt, hWA.cell c2 hlt, hWA.cell c3 hlt⟩)
    (first
      | (go_at_call 81
         (with_reducible refine (saying_any 2 2 rfl w0 _ ((Below.refl _ _).drew) (by decide) H1).mono ?_)
         rintro e wA ⟨p, rfl, hWA⟩)
      | (go_at_call 82
         (with_reducible refine (wrt_num tm hWA ht (by omega) H2).mono ?_)
         rintro e wB ⟨rfl, hWB⟩)
      | (go_at_call 82
         (with_reducible refine (wrt_num ix hWB hi (by omega) H3).mono ?_)
         rintro e wC ⟨rfl, hWC⟩)
      | (go_at_call 82
         (with_reducible refine (wrt_num u hWC hul (by omega) H4).mono ?_)
         rintro e wD ⟨rfl, hWD⟩)
      | (go_at_call 84
         (with_reducible refine (wrt_text d hWD (by omega) H5).mono ?_)
         rintro e wE ⟨rfl, hWE⟩)
      | (go_at_call 83
         (with_reducible refine (wrt_bytes hWE HS).mono ?_)
         rintro e wF ⟨rfl, hWF⟩))
  all_goals go_wp2
  all_goals go_ret
  all_goals exact ⟨rfl, hba.trans (hWF.bel.mono hba.size)⟩

set_option maxRecDepth 100000 in
set_option maxHeartbeats 4000000 in
theorem snap_rec (e : Snap) (w : World) (he : SnapB e) (hd : e.data.size ≤ 140737488350000) :
    Calls Tryz.prog 37 #[.agg #[.int .u64 (e.idx : Int), .int .u64 (e.term : Int), .int .u64 (e.cfg : Int), .string e.data]] w (Said w (recSnap e)) := by
  have ht := he.idx
  have hi := he.term
  have hul := he.cfg
  obtain ⟨l1, h1⟩ : ∃ l1, num 4 = l1 := ⟨_, rfl⟩
  obtain ⟨l2, h2⟩ : ∃ l2, l1 ++ num e.idx = l2 := ⟨_, rfl⟩
  obtain ⟨l3, h3⟩ : ∃ l3, l2 ++ num e.term = l3 := ⟨_, rfl⟩
  obtain ⟨l4, h4⟩ : ∃ l4, l3 ++ num e.cfg = l4 := ⟨_, rfl⟩
  obtain ⟨l5, h5⟩ : ∃ l5, l4 ++ text e.data = l5 := ⟨_, rfl⟩
  obtain ⟨s, hs⟩ : ∃ s, str l5 = s := ⟨_, rfl⟩
  have hl1 : l1.length ≤ 2 := by rw [← h1]; exact num_small (by decide)
  have hl2 : l2.length ≤ 11 := by rw [← h2, List.length_append]; have := num9 ht; omega
  have hl3 : l3.length ≤ 20 := by rw [← h3, List.length_append]; have := num9 hi; omega
  have hl4 : l4.length ≤ 29 := by rw [← h4, List.length_append]; have := num9 hul; omega
  have hR : recSnap e = l5 := by rw [← h5, ← h4, ← h3, ← h2, ← h1]; simp only [recSnap, List.append_assoc]
  unfold Said
  rw [hR, hs]
  obtain ⟨tm, ix, kd, d⟩ := e
  simp only at *
  have H1 := Lib.hid h1
  have H2 := Lib.hid h2
  have H3 := Lib.hid h3
  have H4 := Lib.hid h4
  have H5 := Lib.hid h5
  have HS := Lib.hid hs
  clear hR h1 h2 h3 h4 h5 hs he
  have hba : Below w.heap.size w (w.alloc (.cells #[.int .u64 (tm : Int), .int .u64 (ix : Int), .int .u64 (kd : Int), .string d] 42)) := (Below.refl _ _).alloc (Nat.le_refl _) _
  have hcb := heap_alloc_new w (.cells #[.int .u64 (tm : Int), .int .u64 (ix : Int), .int .u64 (kd : Int), .string d] 42)
  have hlt : w.heap.size < (w.alloc (.cells #[.int .u64 (tm : Int), .int .u64 (ix : Int), .int .u64 (kd : Int), .string d] 42)).heap.size := lt_at hcb
  obtain ⟨w0, hw0⟩ : ∃ w0, w.alloc (.cells #[.int .u64 (tm : Int), .int .u64 (ix : Int), .int .u64 (kd : Int), .string d] 42) = w0 := ⟨_, rfl⟩
  have c0 : w0.cell? ⟨w.heap.size, 0, none⟩ = some (.int .u64 (tm : Int)) := by rw [← hw0, cell_at hcb]; rfl
  have c1 : w0.cell? ⟨w.heap.size, 1, none⟩ = some (.int .u64 (ix : Int)) := by rw [← hw0, cell_at hcb]; rfl
  have c2 : w0.cell? ⟨w.heap.size, 2, none⟩ = some (.int .u64 (kd : Int)) := by rw [← hw0, cell_at hcb]; rfl
  have c3 : w0.cell? ⟨w.heap.size, 3, none⟩ = some (.string d) := by rw [← hw0, cell_at hcb]; rfl
  rw [hw0] at hba hlt
  have HW0 := Lib.hid hw0
  clear hcb hw0
  go_enter Tryz.func37, Tryz.ntmps37
  go_wp2_with fail
  rw [HW0.out]
  go_region_held3 (fun w' => w'.cell? ⟨w.heap.size, 0, none⟩ = some (.int .u64 (tm : Int)) ∧ w'.cell? ⟨w.heap.size, 1, none⟩ = some (.int .u64 (ix : Int)) ∧ w'.cell? ⟨w.heap.size, 2, none⟩ = some (.int .u64 (kd : Int)) ∧ w'.cell? ⟨w.heap.size, 3, none⟩ = some (.string d))
    (first
      | exact ⟨c0, c1, c2, c3⟩
      | exact ⟨hWF.cell c0 hlt, hWF.cell c1 hlt, hWF.cell c2 hlt, hWF.cell c3 hlt⟩
      | exact ⟨hWE.cell c0 hlt, hWE.cell c1 hlt, hWE.cell c2 hlt, hWE.cell c3 hlt⟩
      | exact ⟨hWD.cell c0 hlt, hWD.cell c1 hlt, hWD.cell c2 hlt, hWD.cell c3 hlt⟩
      | exact ⟨hWC.cell c0 hlt, hWC.cell c1 hlt, hWC.cell c2 hlt, hWC.cell c3 hlt⟩
      | exact ⟨hWB.cell c0 hlt, hWB.cell c1 hlt, hWB.cell c2 hlt, hWB.cell c3 hlt⟩
      | exact ⟨hWA.cell c0 hlt, hWA.cell c1 hlt, hWA.cell c2 hlt, hWA.cell c3 hlt⟩)
    (first
      | (go_at_call 81
         (with_reducible refine (saying_any 4 4 rfl w0 _ ((Below.refl _ _).drew) (by decide) H1).mono ?_)
         rintro e wA ⟨p, rfl, hWA⟩)
      | (go_at_call 82
         (with_reducible refine (wrt_num tm hWA ht (by omega) H2).mono ?_)
         rintro e wB ⟨rfl, hWB⟩)
      | (go_at_call 82
         (with_reducible refine (wrt_num ix hWB hi (by omega) H3).mono ?_)
         rintro e wC ⟨rfl, hWC⟩)
      | (go_at_call 82
         (with_reducible refine (wrt_num kd hWC hul (by omega) H4).mono ?_)
         rintro e wD ⟨rfl, hWD⟩)
      | (go_at_call 84
         (with_reducible refine (wrt_text d hWD (by omega) H5).mono ?_)
         rintro e wE ⟨rfl, hWE⟩)
      | (go_at_call 83
         (with_reducible refine (wrt_bytes hWE HS).mono ?_)
         rintro e wF ⟨rfl, hWF⟩))
  all_goals go_wp2
  all_goals go_ret
  all_goals exact ⟨rfl, hba.trans (hWF.bel.mono hba.size)⟩
end Go.Proofs.YtamncdpeklbhlaaGreatDoor.Rec
set_option linter.unusedVariables false
set_option linter.unusedSimpArgs false
namespace Go.Proofs.YtamncdpeklbhlaaGreatDoor.Few
open Go.RowKit Go.Proofs.YtamncdpeklbhlaaGreatDoor.Kit Go.Proofs.YtamncdpeklbhlaaGreatDoor.Blocks Go.Proofs.YtamncdpeklbhlaaGreatDoor.Rlog Go.Proofs.YtamncdpeklbhlaaGreatDoor.Sto Go.Proofs.YtamncdpeklbhlaaGreatDoor.Ents Go.Proofs.YtamncdpeklbhlaaGreatDoor.Hold
open Go.Proofs.YtamncdpeklbhlaaGreatDoor.App (wpList_app)

def TellsB (w : World) (b : Bool) (e : Ending) (w' : World) : Prop := e = .returned (.bool b) ∧ Below w.heap.size w w'
set_option maxRecDepth 100000 in
theorem hard_any (t : Nat) (v : Int) (w : World) : Calls Tryz.prog 47 #[.agg #[.int .u64 (t : Int), .int .i64 v]] w (TellsB w (voteB v)) := by
  have hba : Below w.heap.size w (w.alloc (.cells #[.int .u64 (t : Int), .int .i64 v] 40)) := (Below.refl _ _).alloc (Nat.le_refl _) _
  unfold TellsB
  by_cases h1 : -1 ≤ v
  · by_cases h2 : v < 7
    · have hv : voteB v = true := decide_eq_true ⟨h1, h2⟩
      rw [hv]
      clear hv
      go_enter Tryz.func47, Tryz.ntmps47
      go_wp2
      go_ret
      exact ⟨rfl, hba⟩
    · have hv : voteB v = false := decide_eq_false fun k => h2 k.2
      rw [hv]
      clear hv
      go_enter Tryz.func47, Tryz.ntmps47
      go_wp2
      go_ret
      exact ⟨rfl, hba⟩
  · have hv : voteB v = false := decide_eq_false fun k => h1 k.1
    rw [hv]
    clear hv
    go_enter Tryz.func47, Tryz.ntmps47
    go_wp2
    go_ret
    exact ⟨rfl, hba⟩
/-- Whether a snapshot and entries are a log, by what New answers. -/
def Checks (w : World) (b : Bool) (e : Ending) (w' : World) : Prop := ∃ a, e = .returned (.tuple #[.pointer a, .int .i64 (if b = true then 0 else 1)]) ∧ Below w.heap.size w w'
theorem check_any (s : Snap) (hs : SnapB s) (A : Option Addr) (n c : Nat) (l : List Ent) (w : World) (hr : RE w w.heap.size A n l) (hb : ∀ e ∈ l, EntB e) (h63 : n * 40 ≤ 140737488355328) :
    Calls Tryz.prog 77 #[.agg #[.int .u64 (s.idx : Int), .int .u64 (s.term : Int), .int .u64 (s.cfg : Int), .string s.data], .slice A n c] w (Checks w (okB s l)) := by
  cases h1 : Quorum.sound s.cfg with
  | false =>
    refine (RlgWalkD.new_mad hs A n c w h1).mono ?_
    rintro e w' ⟨rfl, h⟩
    have : okB s l = false := by unfold okB; rw [h1]; rfl
    rw [this]
    exact ⟨none, rfl, h⟩
  | true =>
    cases h2 : chained l s.idx s.term with
    | false =>
      refine (RlgWalkD.new_loose hs A n c l w hr hb (by omega) h1 h2).mono ?_
      rintro e w' ⟨rfl, h⟩
      have : okB s l = false := by unfold okB; rw [h1, h2]; rfl
      rw [this]
      exact ⟨none, rfl, h⟩
    | true =>
      refine (RlgWalkD.new_made hs A n c l w hr hb h63 h1 h2).mono ?_
      rintro e w' ⟨p, v, rfl, _, h⟩
      have : okB s l = true := by unfold okB; rw [h1, h2]; rfl
      rw [this]
      exact ⟨_, rfl, h⟩
theorem check_hid {s : Snap} {b : Bool} {l : List Ent} (hs : SnapB s) (A : Option Addr) (n c : Nat) (w : World) (hr : RE w w.heap.size A n l) (hb : ∀ e ∈ l, EntB e) (h63 : n * 40 ≤ 140737488355328) (ho : Hid (okB s l = b)) :
    Calls Tryz.prog 77 #[.agg #[.int .u64 (s.idx : Int), .int .u64 (s.term : Int), .int .u64 (s.cfg : Int), .string s.data], .slice A n c] w (Checks w b) := by
  have := check_any s hs A n c l w hr hb h63
  rwa [ho.out] at this

/-- A new row of entries. -/
def Owns (w : World) (l : List Ent) (e : Ending) (w' : World) : Prop := ∃ A c, e = .returned (.slice A l.length c) ∧ w'.ownsRow w.heap.size 83 4 (.slice A l.length c) l.length (ecells l) ∧ Below w.heap.size w w'
set_option maxRecDepth 100000 in
theorem clone_some (ad : Addr) (n c : Nat) (l : List Ent) (w : World) (hr : RE w w.heap.size (some ad) n l) (hb : n * 40 ≤ 140737488355328) : Calls Tryz.prog 86 #[.slice (some ad) n c] w (Owns w l) := by
  have q := RlgWalkF.qE
  have hn := RE.len hr
  have HN := Lib.hid hn
  have hra : ∀ o, Reads (w.alloc o) w.heap.size 4 (some ad) n (ecells l) := fun o => Reads.alloc hr (Nat.le_refl _) o
  have hown := World.ownsRow_made (e := 83) (size := 4) w #[] 0 (base := w.heap.size) (Nat.le_refl _) (Nat.zero_le _) (by simp)
  have HO := Lib.hid hown
  clear hn hown
  go_enter Tryz.func86, Tryz.ntmps86
  go_wp2_with (first
    | (at_builtin
       refine wpList_app (v := .slice (some ⟨w.heap.size, 0, none⟩) 0 0) _ rfl _ _ rfl w.heap.size rfl HO.out rfl (hra _) (ecells_one l) (by omega) (by simp) ?_
       intro A' c' w1 hown1 hg1 hat1))
  have hb1 : Below w.heap.size w w1 := ((Below.refl _ w).alloc (Nat.le_refl _) _).grown hg1 (by simp) (by intro k hk; simp [Value.ownBlock] at hk; omega)
  rw [Nat.zero_add] at hown1
  have HR := Lib.hid hown1
  clear hown1 hat1
  go_wp2
  go_ret
  have hN := HN.out
  subst hN
  exact ⟨A', c', rfl, by simpa using HR.out, hb1⟩
set_option maxRecDepth 100000 in
theorem clone_own (A : Option Addr) (n c : Nat) (l : List Ent) (w : World) (hr : RE w w.heap.size A n l) (hb : n * 40 ≤ 140737488355328) : Calls Tryz.prog 86 #[.slice A n c] w (Owns w l) := by
  cases A with
  | some ad => exact clone_some ad n c l w hr hb
  | none =>
    have hn : n = 0 := by
      rcases Nat.eq_zero_or_pos n with h | h
      · exact h
      · obtain ⟨ad, e, _⟩ := hr.2 h; cases e
    have hl := RE.len hr
    subst hn
    rw [List.eq_nil_of_length_eq_zero hl]
    have q := RlgWalkF.qE
    go_enter Tryz.func86, Tryz.ntmps86
    go_wp2
    go_ret
    exact ⟨none, 0, rfl, World.ownsRow_nil _ _ _ _, Below.refl _ _⟩

/-- What a state's box holds. -/
def boxO (s : Sta) (A : Option Addr) (n c : Nat) : Obj := .cells #[.int .u64 (s.term : Int), .int .i64 s.vote, .int .u64 (s.snap.idx : Int), .int .u64 (s.snap.term : Int), .int .u64 (s.snap.cfg : Int), .string s.snap.data, .slice A n c] 45
set_option maxRecDepth 100000 in
set_option maxHeartbeats 1000000 in
theorem isState_any (s : Sta) (hs : StaB s) (A : Option Addr) (n c : Nat) (w : World) (hr : RE w w.heap.size A n s.es) (h63 : n * 40 ≤ 140737488355328) :
    Calls Tryz.prog 31 #[staV s A n c] w (TellsB w (right s)) := by
  have hba : Below w.heap.size w (w.alloc (boxO s A n c)) := (Below.refl _ _).alloc (Nat.le_refl _) _
  have hcb := heap_alloc_new w (boxO s A n c)
  unfold boxO at hcb
  have hck := check_any s.snap hs.snap A n c s.es (w.alloc (boxO s A n c)) ((Kit.Reads.below hr hba).more hba.size) hs.ents h63
  obtain ⟨r, hr1⟩ : ∃ r, right s = r := ⟨_, rfl⟩
  obtain ⟨o, ho⟩ : ∃ o, okB s.snap s.es = o := ⟨_, rfl⟩
  have hro : r = (o && voteB s.vote) := by rw [← hr1, ← ho]; rfl
  rw [ho] at hck
  have HCB := Lib.hid hcb
  rw [hr1]
  obtain ⟨tm, vt, ⟨ix, st, cf, d⟩, es⟩ := s
  unfold staV
  unfold boxO at hba hck
  simp only at hck hba hro hcb ⊢
  have HCK := Lib.hid hck
  have hvh := fun W => hard_any tm vt W
  have hsz : (w.alloc (.cells #[.int .u64 (tm : Int), .int .i64 vt, .int .u64 (ix : Int), .int .u64 (st : Int), .int .u64 (cf : Int), .string d, .slice A n c] 45)).heap.size = w.heap.size + 1 := by simp
  obtain ⟨q, hq⟩ : ∃ q, voteB vt = q := ⟨_, rfl⟩
  have HVH : Hid (∀ W, Calls Tryz.prog 47 #[.agg #[.int .u64 (tm : Int), .int .i64 vt]] W (TellsB W q)) := by rw [← hq]; exact hvh
  rw [hq] at hro
  clear hck hr1 ho hr hs hvh hq hcb
  go_enter Tryz.func31, Tryz.ntmps31
  go_wp2_with fail
  refine HCK.out.mono ?_
  rintro e w1 ⟨a, rfl, hb1⟩
  have hcb1 := (hb1.block w.heap.size (lt_at HCB.out)).trans HCB.out
  have d0 : w1.cell? ⟨w.heap.size, 0, none⟩ = some (.int .u64 (tm : Int)) := by rw [cell_at hcb1]; rfl
  have d1 : w1.cell? ⟨w.heap.size, 1, none⟩ = some (.int .i64 vt) := by rw [cell_at hcb1]; rfl
  have hB1 := hba.trans (hb1.mono hba.size)
  have hlt1 := lt_at hcb1
  clear hcb1
  cases o with
  | false =>
    obtain rfl : r = false := hro
    go_wp2_with fail
    go_wp2
    go_ret
    exact ⟨rfl, hB1⟩
  | true =>
    obtain rfl : r = q := by rw [hro]; rfl
    clear hro
    go_wp2_with fail
    refine (HVH.out _).mono ?_
    rintro e w2 ⟨rfl, hb2⟩
    go_wp2
    go_ret
    exact ⟨rfl, hB1.trans (hb2.mono hB1.size)⟩

/-- Seven stores into a block of seven cells. -/
theorem set7 {w : World} {b : Nat} {cs : Array Value} {T : TypeId} (h : w.heap[b]? = some (.cells cs T (0, 0))) (hs : cs.size = 7) (a0 a1 a2 a3 a4 a5 a6 : Value) :
    (((((((w.setCell ⟨b, 0, none⟩ a0).setCell ⟨b, 1, none⟩ a1).setCell ⟨b, 2, none⟩ a2).setCell ⟨b, 3, none⟩ a3).setCell ⟨b, 4, none⟩ a4).setCell ⟨b, 5, none⟩ a5).setCell ⟨b, 6, none⟩ a6).heap[b]? = some (.cells #[a0, a1, a2, a3, a4, a5, a6] T (0, 0)) ∧
    Only (fun q => q = b) w (((((((w.setCell ⟨b, 0, none⟩ a0).setCell ⟨b, 1, none⟩ a1).setCell ⟨b, 2, none⟩ a2).setCell ⟨b, 3, none⟩ a3).setCell ⟨b, 4, none⟩ a4).setCell ⟨b, 5, none⟩ a5).setCell ⟨b, 6, none⟩ a6) := by
  refine ⟨?_, ?_⟩
  · rw [set_at (set_at (set_at (set_at (set_at (set_at (set_at h _) _) _) _) _) _) _]
    obtain ⟨l⟩ := cs
    match l, hs with
    | [c0, c1, c2, c3, c4, c5, c6], _ => rfl
  · exact (((((((Only.refl (fun q => q = b) w).setCell (a := ⟨b, 0, none⟩) (.inr rfl) _).setCell (a := ⟨b, 1, none⟩) (.inr rfl) _).setCell (a := ⟨b, 2, none⟩) (.inr rfl) _).setCell (a := ⟨b, 3, none⟩) (.inr rfl) _).setCell (a := ⟨b, 4, none⟩) (.inr rfl) _).setCell (a := ⟨b, 5, none⟩) (.inr rfl) _).setCell (a := ⟨b, 6, none⟩) (.inr rfl) _
/-- A state is handed back, its entries new. -/
def Gives (w : World) (s : Sta) (e : Ending) (w' : World) : Prop := ∃ A c, e = .returned (staV s A s.es.length c) ∧ w'.ownsRow w.heap.size 83 4 (.slice A s.es.length c) s.es.length (ecells s.es) ∧ Below w.heap.size w w'
theorem Gives.reads {w w' : World} {s : Sta} {A : Option Addr} {c : Nat} (h : w'.ownsRow w.heap.size 83 4 (.slice A s.es.length c) s.es.length (ecells s.es)) : RE w' w'.heap.size A s.es.length s.es := by
  obtain ⟨A', c', he, _, _, hr⟩ := own_form h
  cases he
  exact hr
set_option maxRecDepth 100000 in
set_option maxHeartbeats 1000000 in
theorem copied_any (s : Sta) (A : Option Addr) (n c : Nat) (w : World) (hr : RE w w.heap.size A n s.es) (h63 : n * 40 ≤ 140737488355328) :
    Calls Tryz.prog 40 #[staV s A n c] w (Gives w s) := by
  have hn := RE.len hr
  obtain ⟨Z, hZ⟩ : ∃ Z, (#[.int .u64 0, .int .i64 0, .int .u64 0, .int .u64 0, .int .u64 0, .string ⟨#[]⟩, .slice none 0 0] : Array Value) = Z := ⟨_, rfl⟩
  have hba : Below w.heap.size w ((w.alloc (boxO s A n c)).alloc (.cells Z 45)) := ((Below.refl _ _).alloc (Nat.le_refl _) _).alloc (by simp) _
  have hcb := heap_alloc_new w (boxO s A n c)
  have hcz := heap_alloc_new (w.alloc (boxO s A n c)) (.cells Z 45)
  have hcl := clone_own A n c s.es _ ((Kit.Reads.below hr hba).more hba.size) h63
  subst hZ
  unfold boxO at hcb hcl hba hcz
  obtain ⟨tm, vt, ⟨ix, st, cf, d⟩, es⟩ := s
  unfold staV Gives staV
  simp only at *
  obtain ⟨w0, hw0⟩ : ∃ w0, (w.alloc (.cells #[.int .u64 (tm : Int), .int .i64 vt, .int .u64 (ix : Int), .int .u64 (st : Int), .int .u64 (cf : Int), .string d, .slice A n c] 45)).alloc (.cells #[.int .u64 0, .int .i64 0, .int .u64 0, .int .u64 0, .int .u64 0, .string ⟨#[]⟩, .slice none 0 0] 45) = w0 := ⟨_, rfl⟩
  have hs1 : (w.alloc (.cells #[.int .u64 (tm : Int), .int .i64 vt, .int .u64 (ix : Int), .int .u64 (st : Int), .int .u64 (cf : Int), .string d, .slice A n c] 45)).heap.size = w.heap.size + 1 := by simp
  rw [hs1, hw0] at hcz
  have hcb0 : w0.heap[w.heap.size]? = some (.cells #[.int .u64 (tm : Int), .int .i64 vt, .int .u64 (ix : Int), .int .u64 (st : Int), .int .u64 (cf : Int), .string d, .slice A n c] 45 (0, 0)) := by
    rw [← hw0, Below.heap_alloc _ _ _ (lt_at hcb)]
    exact hcb
  rw [hw0] at hcl hba
  have h63b : n ≤ 9223372036854775807 := by omega
  have e6 : w0.cell? ⟨w.heap.size, 6, none⟩ = some (.slice A n c) := by rw [cell_at hcb0]; rfl
  have hltb : w.heap.size < w0.heap.size := lt_at hcb0
  have HCL := Lib.hid hcl
  have HCB := Lib.hid hcb0
  have HCZ := Lib.hid hcz
  have HW0 := Lib.hid hw0
  clear hcl hcb0 hcz hw0 hcb hs1 hr
  go_enter Tryz.func40, Tryz.ntmps40
  go_wp2_with fail
  rw [HW0.out]
  refine HCL.out.mono ?_
  rintro e w1 ⟨A', c', rfl, hown, hb1⟩
  have hcb1 := (hb1.block w.heap.size (lt_at HCB.out)).trans HCB.out
  have hcz1 := (hb1.block (w.heap.size + 1) (lt_at HCZ.out)).trans HCZ.out
  have d0 : w1.cell? ⟨w.heap.size, 0, none⟩ = some (.int .u64 (tm : Int)) := by rw [cell_at hcb1]; rfl
  have d1 : w1.cell? ⟨w.heap.size, 1, none⟩ = some (.int .i64 vt) := by rw [cell_at hcb1]; rfl
  have d2 : w1.cell? ⟨w.heap.size, 2, none⟩ = some (.int .u64 (ix : Int)) := by rw [cell_at hcb1]; rfl
  have d3 : w1.cell? ⟨w.heap.size, 3, none⟩ = some (.int .u64 (st : Int)) := by rw [cell_at hcb1]; rfl
  have d4 : w1.cell? ⟨w.heap.size, 4, none⟩ = some (.int .u64 (cf : Int)) := by rw [cell_at hcb1]; rfl
  have d5 : w1.cell? ⟨w.heap.size, 5, none⟩ = some (.string d) := by rw [cell_at hcb1]; rfl
  have d6 : w1.cell? ⟨w.heap.size, 6, none⟩ = some (.slice A n c) := by rw [cell_at hcb1]; rfl
  have z0 : w1.cell? ⟨w.heap.size + 1, 0, none⟩ = some (.int .u64 0) := by rw [cell_at hcz1]; rfl
  have g0 := free_at hcz1 0
  have z1 : w1.cell? ⟨w.heap.size + 1, 1, none⟩ = some (.int .i64 0) := by rw [cell_at hcz1]; rfl
  have g1 := free_at hcz1 1
  have z2 : w1.cell? ⟨w.heap.size + 1, 2, none⟩ = some (.int .u64 0) := by rw [cell_at hcz1]; rfl
  have g2 := free_at hcz1 2
  have z3 : w1.cell? ⟨w.heap.size + 1, 3, none⟩ = some (.int .u64 0) := by rw [cell_at hcz1]; rfl
  have g3 := free_at hcz1 3
  have z4 : w1.cell? ⟨w.heap.size + 1, 4, none⟩ = some (.int .u64 0) := by rw [cell_at hcz1]; rfl
  have g4 := free_at hcz1 4
  have z5 : w1.cell? ⟨w.heap.size + 1, 5, none⟩ = some (.string ⟨#[]⟩) := by rw [cell_at hcz1]; rfl
  have g5 := free_at hcz1 5
  have z6 : w1.cell? ⟨w.heap.size + 1, 6, none⟩ = some (.slice none 0 0) := by rw [cell_at hcz1]; rfl
  have g6 := free_at hcz1 6
  have f6 := free_at hcb1 6
  have hlt1 := lt_at hcb1
  have hlt2 := lt_at hcz1
  have H1 := Lib.hid hcb1
  have HZ1 := Lib.hid hcz1
  have HOwn := Lib.hid hown
  have HB1 := Lib.hid (hba.trans (hb1.mono hba.size))
  have HSZ := Lib.hid hba.size
  clear hcb1 hcz1 hown hb1
  go_wp2_with fail
  subst hn
  have o1 : Only (fun q => q = w.heap.size) w1 (w1.setCell ⟨w.heap.size, 6, none⟩ (.slice A' es.length c')) := (Only.refl (fun q => q = w.heap.size) w1).setCell (a := ⟨w.heap.size, 6, none⟩) (.inr rfl) _
  obtain ⟨hblk, o2⟩ := set7 (o1.heap HZ1.out (by omega)) rfl (.int .u64 (tm : Int)) (.int .i64 vt) (.int .u64 (ix : Int)) (.int .u64 (st : Int)) (.int .u64 (cf : Int)) (.string d) (.slice A' es.length c')
  refine bodyPost_ret (results_cell_row (p := 2) (ty := 45) rfl _ _ (w.heap.size + 1) 45 _ (0, 0) _ rfl hblk Tryz.underlying45 rfl (by kernel_rfl)) rfl ?_
  have hne1 : ∀ q, (Value.slice A' es.length c').ownBlock = some q → q ≠ w.heap.size := fun q hq e => by have := (HOwn.out.lt q hq).1; have := lt_at HCB.out; omega
  have hne2 : ∀ q, (Value.slice A' es.length c').ownBlock = some q → q ≠ w.heap.size + 1 := fun q hq e => by have := (HOwn.out.lt q hq).1; have := lt_at HCZ.out; omega
  exact ⟨A', c', rfl, own_base (o2.own (o1.own HOwn.out hne1) hne2) HSZ.out, HB1.out.trans ((o1.below HB1.out.size fun k hk => by omega).trans (o2.below (Nat.le_trans HB1.out.size o1.size) fun k hk => by omega))⟩
end Go.Proofs.YtamncdpeklbhlaaGreatDoor.Few
set_option linter.unusedVariables false
set_option linter.unusedSimpArgs false
namespace Go.Proofs.YtamncdpeklbhlaaGreatDoor.Cut
open Go.RowKit Go.Proofs.YtamncdpeklbhlaaGreatDoor.Kit Go.Proofs.YtamncdpeklbhlaaGreatDoor.Blocks Go.Proofs.YtamncdpeklbhlaaGreatDoor.Rlog Go.Proofs.YtamncdpeklbhlaaGreatDoor.Sto Go.Proofs.YtamncdpeklbhlaaGreatDoor.Ents Go.Proofs.YtamncdpeklbhlaaGreatDoor.Hold Go.Proofs.YtamncdpeklbhlaaGreatDoor.RlgWalkC

theorem while_split (p : Ent → Bool) : ∀ (l : List Ent) (k : Nat), k ≤ l.length → (∀ j e, j < k → l[j]? = some e → p e = true) → (∀ e, l[k]? = some e → p e = false) → l.takeWhile p = l.take k
  | [], k, h, _, _ => by simp
  | e :: l, 0, _, _, h => by
    have := h e rfl
    simp [this]
  | e :: l, k + 1, hk, h1, h2 => by
    have h0 := h1 0 e (by omega) rfl
    rw [List.takeWhile_cons_of_pos h0, List.take_succ_cons, while_split p l k (by simp at hk; omega) (fun j e' hj he => h1 (j + 1) e' (by omega) (by simpa using he)) (fun e' he => h2 e' (by simpa using he))]

/-- The closure's answer. -/
theorem cut1_any (e : Ent) (b : Nat) (i : Nat) (w : World) (hc : w.cell? ⟨b, 0, none⟩ = some (.int .u64 (i : Int))) (hb : b < w.heap.size) :
    Calls Tryz.prog 105 #[.agg #[.int .u64 (e.term : Int), .int .u64 (e.idx : Int), .int .i64 e.kind, .string e.data], .pointer (some ⟨b, 0, none⟩)] w fun x w' => x = .returned (.bool (!below i e)) ∧ Below w.heap.size w w' := by
  have hba : Below w.heap.size w (w.alloc (.cells #[.int .u64 (e.term : Int), .int .u64 (e.idx : Int), .int .i64 e.kind, .string e.data] 83)) := (Below.refl _ _).alloc (Nat.le_refl _) _
  have hx : decide (i ≤ e.idx) = !below i e := by
    unfold below
    by_cases h : e.idx < i <;> simp [h] <;> omega
  obtain ⟨r, hr⟩ : ∃ r, (!below i e) = r := ⟨_, rfl⟩
  rw [hr] at hx ⊢
  obtain ⟨tm, ix, kd, d⟩ := e
  simp only at *
  clear hr
  go_enter Tryz.func105, Tryz.ntmps105
  go_wp2
  go_ret
  exact ⟨rfl, hba⟩

set_option maxRecDepth 100000 in
set_option maxHeartbeats 1000000 in
theorem index_any (A : Option Addr) (n c : Nat) (l : List Ent) (b i : Nat) (w : World) (hr : RE w w.heap.size A n l) (h63 : n ≤ 9223372036854775807) (hc : w.cell? ⟨b, 0, none⟩ = some (.int .u64 (i : Int))) (hb : b < w.heap.size) :
    Calls Tryz.prog 104 #[.slice A n c, .func (.func 105) #[] #[.pointer (some ⟨b, 0, none⟩)]] w fun x w' =>
      ∃ k, k ≤ n ∧ l.takeWhile (below i) = l.take k ∧ x = .returned (.int .i64 (if k < n then (k : Int) else -1)) ∧ Below w.heap.size w w' := by
  have hn := RE.len hr
  have HN := Lib.hid hn
  clear hn
  go_enter Tryz.func104, Tryz.ntmps104
  go_wp2_with fail
  go_loopw [8] (fun s wr => ∃ k : Nat, k ≤ n ∧ s = .int .i64 (k : Int) ∧ Hid (∀ j e, j < k → l[j]? = some e → below i e = true) ∧ Below w.heap.size w wr) (fun s _ => n - (intOf s).toNat)
  case atStart => exact ⟨0, by omega, rfl, fun j e hj => absurd hj (by omega), Below.refl _ _⟩
  case round =>
    obtain ⟨k, hk, rfl, HA, hbel⟩ := hrel
    have hsz := hbel.size
    by_cases hkn : k < n
    · obtain ⟨bb, o, e, rfl, hbl, hek, hfour⟩ := RE.at_ hr hkn
      have hfr := Four.below hfour hbel hbl
      have c0 := hfr.c0
      have c1 := hfr.c1
      have c2 := hfr.c2
      have c3 := hfr.c3
      have hcl := fun w' (hb' : Below w.heap.size w w') => cut1_any e b i w' ((hb'.cell (p := ⟨b, 0, none⟩) hb).trans hc) (Nat.lt_of_lt_of_le hb hb'.size)
      cases hbe : below i e with
      | true =>
        rw [hbe] at hcl
        have HCL := Lib.hid hcl
        have HNX : Hid (∀ j e, j < k + 1 → l[j]? = some e → below i e = true) := fun j e' hj he' => by
          by_cases h : j < k
          · exact HA.out j e' h he'
          · obtain rfl : j = k := by omega
            rw [hek] at he'
            cases he'
            exact hbe
        obtain ⟨tm, ix, kd, d⟩ := e
        simp only at *
        clear hcl hbe hek hfour hfr HA
        go_wp2_with fail
        refine (HCL.out _ hbel).mono ?_
        rintro x w1 ⟨rfl, hb1⟩
        go_wp2
        go_roundw
        case rel => exact ⟨k + 1, by omega, by go_num, HNX, hbel.trans (hb1.mono hsz)⟩
        case measure => simp [intOf]; omega
      | false =>
        rw [hbe] at hcl
        have HCL := Lib.hid hcl
        have HW : Hid (l.takeWhile (below i) = l.take k) := while_split _ l k (by rw [HN.out]; omega) HA.out (fun e' he' => by rw [hek] at he'; cases he'; exact hbe)
        obtain ⟨tm, ix, kd, d⟩ := e
        simp only at *
        clear hcl hbe hek hfour hfr HA
        go_wp2_with fail
        refine (HCL.out _ hbel).mono ?_
        rintro x w1 ⟨rfl, hb1⟩
        go_wp2
        go_ret
        exact ⟨k, by omega, HW.out, by rw [if_pos hkn]; rfl, hbel.trans (hb1.mono hsz)⟩
    · obtain rfl : k = n := by omega
      have HW : Hid (l.takeWhile (below i) = l.take k) := while_split _ l k (by rw [HN.out]; omega) HA.out (fun e' he' => by have := (List.getElem?_eq_some_iff.1 he').1; have := HN.out; omega)
      clear HA
      go_wp2
      go_ret
      exact ⟨k, Nat.le_refl _, HW.out, by rw [if_neg hkn]; rfl, hbel⟩

/-- A cut. -/
theorem cut_any {B : Nat} {w : World} {p : Nat} {s : Sta} {v : Value} (h : Hold 45 B w p (pre s) v s.es) (i : Nat) :
    Calls Tryz.prog 75 #[.pointer (some ⟨p, 0, none⟩), .int .u64 (i : Int)] w fun e w' => e = .returned (.tuple #[]) ∧ ∃ v', Hold 45 B w' p (pre s) v' (sayCut s i).es ∧ Only (Foot p v) w w' := by
  have hB := h.base
  have hlt := h.lt
  obtain ⟨A, c, rfl, hnc, hcm, hr⟩ := h.form
  have hba : Below w.heap.size w (w.alloc (.cells #[.int .u64 (i : Int)] 38)) := (Below.refl _ _).alloc (Nat.le_refl _) _
  have hcb := heap_alloc_new w (.cells #[.int .u64 (i : Int)] 38)
  have hlb : w.heap.size < (w.alloc (.cells #[.int .u64 (i : Int)] 38)).heap.size := lt_at hcb
  have c0 : (w.alloc (.cells #[.int .u64 (i : Int)] 38)).cell? ⟨w.heap.size, 0, none⟩ = some (.int .u64 (i : Int)) := by rw [cell_at hcb]; rfl
  have hh := h.below hba
  have d6 : (w.alloc (.cells #[.int .u64 (i : Int)] 38)).cell? ⟨p, 6, none⟩ = some (.slice A s.es.length c) := hh.at_ 6 rfl
  have hix := index_any A s.es.length c s.es w.heap.size i _ ((Kit.Reads.below hr hba).more hba.size) (by omega) c0 hlb
  obtain ⟨n, hn⟩ : ∃ n, s.es.length = n := ⟨_, rfl⟩
  have HH := Lib.hid h
  have HN := Lib.hid hn
  rw [hn] at hix d6 hnc
  have HIX := Lib.hid hix
  clear hix hn hr hcb h
  go_enter Tryz.func75, Tryz.ntmps75
  go_wp2_with fail
  refine HIX.out.mono ?_
  rintro e w1 ⟨k, hk, hw, rfl, hb1⟩
  have hB1 : Below w.heap.size w w1 := hba.trans (hb1.mono hba.size)
  have h1 := HH.out.below hB1
  by_cases hkn : k < n
  · rw [if_pos hkn]
    have e6 : w1.cell? ⟨p, 6, none⟩ = some (.slice A n c) := by rw [← HN.out]; exact h1.at_ 6 rfl
    have f6 := h1.free 6
    have hlt1 := h1.lt
    have hown : w1.ownsRow B 83 4 (.slice A k c) k (ecells (s.es.take k)) := own_take (by have := h1.own; rwa [HN.out] at this) (by omega)
    have hl : (s.es.take k).length = k := by rw [List.length_take, HN.out]; omega
    obtain ⟨_, _, hh2, ho2⟩ := h1.rowed (w1 := w1) (es' := s.es.take k) (Only.refl _ _) hown hl.symm rfl (fun q hq => .inl (by cases A <;> exact hq)) (i := 6) rfl
    have HH2 := Lib.hid hh2
    have HO2 := Lib.hid ho2
    have hkc : k ≤ c := by omega
    have hki : (0 : Int) ≤ (k : Int) := by omega
    have HW := Lib.hid hw
    have H1 := Lib.hid h1
    clear hh2 ho2 hown hl hw h1
    go_wp2_with fail
    go_end0
    refine ⟨rfl, .slice A k c, ?_, (Only.of_below hB1).trans (by have := HO2.out; rwa [HN.out] at this)⟩
    have : (sayCut s i).es = s.es.take k := HW.out
    rw [this]
    exact HH2.out
  · rw [if_neg hkn]
    go_wp2
    go_end0
    refine ⟨rfl, .slice A n c, ?_, Only.of_below hB1⟩
    have : (sayCut s i).es = s.es := by
      have h3 : (sayCut s i).es = s.es.take k := hw
      rw [h3, List.take_of_length_le (by rw [HN.out]; omega)]
    rw [this]
    rw [HN.out] at h1
    exact h1
end Go.Proofs.YtamncdpeklbhlaaGreatDoor.Cut
set_option linter.unusedVariables false
set_option linter.unusedSimpArgs false
namespace Go.Proofs.YtamncdpeklbhlaaGreatDoor.Take
open Go.RowKit Go.Proofs.YtamncdpeklbhlaaGreatDoor.Kit Go.Proofs.YtamncdpeklbhlaaGreatDoor.Blocks Go.Proofs.YtamncdpeklbhlaaGreatDoor.Rlog Go.Proofs.YtamncdpeklbhlaaGreatDoor.Sto Go.Proofs.YtamncdpeklbhlaaGreatDoor.Ents Go.Proofs.YtamncdpeklbhlaaGreatDoor.Hold Go.Proofs.YtamncdpeklbhlaaGreatDoor.Cut
open Go.Proofs.YtamncdpeklbhlaaGreatDoor.PckWalkC (gotB restB frontB gotB_lt)
open Go.Proofs.YtamncdpeklbhlaaGreatDoor.PckWalkE (upV upR upB textV textR textB)
open Go.Proofs.YtamncdpeklbhlaaGreatDoor.App (step_app)

/-- What a take leaves. -/
def Took (B p : Nat) (w : World) (r : Sta × Bool) (e : Ending) (w' : World) : Prop := e = .returned (.bool r.2) ∧ ∃ v', Hold 45 B w' p (pre r.1) v' r.1.es ∧ Below B w w'
theorem ent_new (w : World) (e : Ent) (t : TypeId) : RE (w.alloc (.cells (entCs e).toArray t)) (w.heap.size + 1) (some ⟨w.heap.size, 0, none⟩) 1 [e] := by
  refine ⟨by rw [ecells_length]; rfl, fun _ => ⟨_, rfl, Nat.lt_succ_self _, fun j x hj => ?_⟩⟩
  rw [ecells_one_ent] at hj
  rw [Addr.add_lit, Nat.zero_add, cell_of_row _ _ j _ t (0, 0) (heap_alloc_new w _)]
  simpa using hj
/-- A row of entries lies in no block of another type. -/
theorem own_ne {w : World} {B n b : Nat} {v : Value} {xs : List Value} {cs : Array Value} {fr : Nat × Nat} {T E : TypeId} (hown : w.ownsRow B E 4 v n xs) (hb : w.heap[b]? = some (.cells cs T fr)) (hT : T ≠ E) : v.ownBlock ≠ some b := by
  intro e
  rcases hown.2 with ⟨rfl, _⟩ | ⟨g, cap, cur, rfl, _, hg, _⟩
  · cases e
  · simp only [Value.ownBlock, Option.some.injEq] at e
    subst e
    rw [hg] at hb
    cases hb
    exact hT rfl
/-- The reader is asked in the end. -/
theorem done_keep {T : TypeId} {B : Nat} {W : World} {p q : Nat} {ps : List Value} {v : Value} {es : List Ent} {r : Rd} {d : Bool} (hH : Hold T B W p ps v es) (hR : State.RV 163 W q r.s r.bad) (hpq : p ≠ q) (hB : B ≤ q) (hd : Hid (r.done = d)) :
    Calls Tryz.prog 76 #[.pointer (some ⟨q, 0, none⟩)] W fun e W' => e = .returned (.bool d) ∧ Hold T B W' p ps v es ∧ Below B W W' := by
  refine (PckWalkE.done_any q r.s r.bad W hR).mono ?_
  rintro e W' ⟨he, _, ho⟩
  have ho' : Only (fun k => k = q) W W' := ⟨ho.os, ho.tape, ho.output, ho.size, ho.block⟩
  have hne := own_ne hH.own hR (by decide)
  refine ⟨he.trans ?_, hH.keep ho' fun k hk e => ?_, ho'.below hH.base fun k hk => by rw [hk]; exact hB⟩
  · rw [← hd.out]; rfl
  · rcases hk with rfl | hk
    · exact hpq e
    · rw [e] at hk; exact hne hk
section
variable {B : Nat} {w : World} {p : Nat} {s : Sta} {v : Value} (h : Hold 45 B w p (pre s) v s.es) (b : ByteArray) (hb : b.size ≤ 281474976710656)
include h hb
theorem take_none (h1 : kind b ≠ 1) (h2 : kind b ≠ 2) (h3 : kind b ≠ 3) (h4 : kind b ≠ 4) : Calls Tryz.prog 30 #[.pointer (some ⟨p, 0, none⟩), .string b] w (Took B p w (say s b)) := by
  obtain ⟨k, hk⟩ : ∃ k, kind b = k := ⟨_, rfl⟩
  have hs : say s b = (s, false) := by unfold say; rw [if_neg h1, if_neg h2, if_neg h3, if_neg h4]
  rw [hk] at h1 h2 h3 h4
  have n1 : ((k : Int) == 1) = false := by simp; omega
  have n2 : ((k : Int) == 2) = false := by simp; omega
  have n3 : ((k : Int) == 3) = false := by simp; omega
  have n4 : ((k : Int) == 4) = false := by simp; omega
  have HK : Hid (gotB (rd0 b).s = k) := hk
  obtain ⟨r1, hr1⟩ : ∃ r1, (rd0 b).num = r1 := ⟨_, rfl⟩
  have HR1 := Lib.hid hr1
  have hB := h.base
  have HH := Lib.hid h
  rw [hs]
  clear hk h1 h2 h3 h4 hs hr1 h
  go_enter Tryz.func30, Tryz.ntmps30
  go_wp2_with fail
  refine (from_rds b w).mono ?_
  rintro e w1 ⟨q, rfl, hR⟩
  go_wp2_with fail
  refine (rds_num hR hb HK HR1).mono ?_
  rintro e w2 ⟨rfl, hR2⟩
  go_wp2
  go_ret
  exact ⟨rfl, v, HH.out.below hR2.bel, hR2.bel.mono hB⟩
theorem take_cut (h3 : kind b = 3) : Calls Tryz.prog 30 #[.pointer (some ⟨p, 0, none⟩), .string b] w (Took B p w (say s b)) := by
  obtain ⟨k, hk⟩ : ∃ k, kind b = k := ⟨_, rfl⟩
  have hs : say s b = (sayCut s (gotB (rd1 b).s), (rd2 b).done) := by unfold say; rw [if_neg (by rw [h3]; decide), if_neg (by rw [h3]; decide), if_pos h3]
  rw [hk] at h3
  have n1 : ((k : Int) == 1) = false := by simp; omega
  have n2 : ((k : Int) == 2) = false := by simp; omega
  have n3 : ((k : Int) == 3) = true := by simp; omega
  have HK : Hid (gotB (rd0 b).s = k) := hk
  obtain ⟨r1, hr1⟩ : ∃ r1, rd1 b = r1 := ⟨_, rfl⟩
  obtain ⟨i, hi⟩ : ∃ i, gotB (rd1 b).s = i := ⟨_, rfl⟩
  obtain ⟨r2, hr2⟩ : ∃ r2, rd2 b = r2 := ⟨_, rfl⟩
  obtain ⟨d, hd⟩ : ∃ d, (rd2 b).done = d := ⟨_, rfl⟩
  have hz1 : r1.s.size ≤ 281474976710656 := by rw [← hr1]; exact Nat.le_trans (rd1_size b) hb
  rw [hi, hd] at hs
  have HR1 : Hid ((rd0 b).num = r1) := hr1
  have HR2 : Hid (r1.num = r2) := by rw [← hr1]; exact hr2
  have HI : Hid (gotB r1.s = i) := by rw [← hr1]; exact hi
  have HD : Hid (r2.done = d) := by rw [← hr2]; exact hd
  have hB := h.base
  have hlt := h.lt
  have HH := Lib.hid h
  rw [hs]
  clear hk h3 hs hr1 hr2 hi hd h
  go_enter Tryz.func30, Tryz.ntmps30
  go_wp2_with fail
  refine (from_rds b w).mono ?_
  rintro e w1 ⟨q, rfl, hR⟩
  go_wp2_with fail
  refine (rds_num hR hb HK HR1).mono ?_
  rintro e w2 ⟨rfl, hR2⟩
  go_wp2_with fail
  refine (rds_num hR2 hz1 HI HR2).mono ?_
  rintro e w3 ⟨rfl, hR3⟩
  have h3 := HH.out.below hR3.bel
  have hq := hR3.low
  have hc : w.heap.size ≤ w3.heap.size := hR3.bel.size
  have hcut := cut_any h3 i
  have HC := Lib.hid hcut
  clear hcut h3
  go_wp2_with fail
  refine HC.out.mono ?_
  rintro e w4 ⟨rfl, v', h4, ho4⟩
  have hp : p ≠ q := by have := hR3.low; omega
  have hqf : ¬ Foot p v q := fun e => by have := (HH.out.foot_lt e).2; have := hR3.low; omega
  have hB4 : Below B w w4 := (hR3.bel.mono hB).trans (ho4.below (Nat.le_trans hB hR3.bel.size) fun k hk => (HH.out.foot_lt hk).1)
  go_wp2_with fail
  refine (done_keep h4 (ho4.heap hR3.at_ hqf) hp (Nat.le_trans hB hR3.low) HD).mono ?_
  rintro e w5 ⟨rfl, h5, hb5⟩
  go_wp2
  go_ret
  exact ⟨rfl, v', h5, hB4.trans hb5⟩
theorem take_hard (h1 : kind b = 1) : Calls Tryz.prog 30 #[.pointer (some ⟨p, 0, none⟩), .string b] w (Took B p w (say s b)) := by
  obtain ⟨k, hk⟩ : ∃ k, kind b = k := ⟨_, rfl⟩
  have hs : say s b = (sayHard s b, ((rd2 b).up 7).done) := by unfold say; rw [if_pos h1]
  rw [hk] at h1
  have n1 : ((k : Int) == 1) = true := by simp; omega
  have HK : Hid (gotB (rd0 b).s = k) := hk
  obtain ⟨r1, hr1⟩ : ∃ r1, rd1 b = r1 := ⟨_, rfl⟩
  obtain ⟨t, ht⟩ : ∃ t, gotB (rd1 b).s = t := ⟨_, rfl⟩
  obtain ⟨r2, hr2⟩ : ∃ r2, rd2 b = r2 := ⟨_, rfl⟩
  obtain ⟨u, hu⟩ : ∃ u, upV (rd2 b).s 7 = u := ⟨_, rfl⟩
  have hul : (u : Int) ≤ 7 := by rw [← hu]; exact upV_le (by decide)
  obtain ⟨r3, hr3⟩ : ∃ r3, (rd2 b).up 7 = r3 := ⟨_, rfl⟩
  obtain ⟨d, hd⟩ : ∃ d, ((rd2 b).up 7).done = d := ⟨_, rfl⟩
  have hz1 : r1.s.size ≤ 281474976710656 := by rw [← hr1]; exact Nat.le_trans (rd1_size b) hb
  have hz2 : r2.s.size ≤ 281474976710656 := by rw [← hr2]; exact Nat.le_trans (rd2_size b) hb
  have hsy : sayHard s b = { s with term := t, vote := (u : Int) - 1 } := by unfold sayHard; rw [ht, hu]
  rw [hd, hsy] at hs
  have HR1 : Hid ((rd0 b).num = r1) := hr1
  have HR2 : Hid (r1.num = r2) := by rw [← hr1]; exact hr2
  have HR3 : Hid (r2.up 7 = r3) := by rw [← hr2]; exact hr3
  have HT : Hid (gotB r1.s = t) := by rw [← hr1]; exact ht
  have HU : Hid (upV r2.s 7 = u) := by rw [← hr2]; exact hu
  have HD : Hid (r3.done = d) := by rw [← hr3]; exact hd
  have hB := h.base
  have hlt := h.lt
  have HH := Lib.hid h
  rw [hs]
  clear hk h1 hs hr1 hr2 hr3 ht hu hd hsy h
  go_enter Tryz.func30, Tryz.ntmps30
  go_wp2_with fail
  refine (from_rds b w).mono ?_
  rintro e w1 ⟨q, rfl, hR⟩
  go_wp2_with fail
  refine (rds_num hR hb HK HR1).mono ?_
  rintro e w2 ⟨rfl, hR2⟩
  go_wp2_with fail
  refine (rds_num hR2 hz1 HT HR2).mono ?_
  rintro e w3 ⟨rfl, hR3⟩
  go_wp2_with fail
  refine (rds_up 7 hR3 hz2 (by decide) HU HR3).mono ?_
  rintro e w4 ⟨rfl, hR4⟩
  have h4 := HH.out.below hR4.bel
  have c0 := h4.at_ 0 rfl
  have c1 := h4.at_ 1 rfl
  have f0 := h4.free 0
  have f1 := h4.free 1
  have hlt4 := h4.lt
  obtain ⟨h5, o5⟩ := h4.set (i := 0) (.int .u64 (t : Int)) (by simp [pre])
  obtain ⟨h6, o6⟩ := h5.set (i := 1) (.int .i64 ((u : Int) - 1)) (by simp [pre])
  have H6 := Lib.hid h6
  have O6 := Lib.hid (o5.trans o6)
  clear h5 h6 o5 o6 h4
  go_wp2_with fail
  have hp : p ≠ q := by have := hR4.low; omega
  have hB6 := (hR4.bel.mono hB).trans (O6.out.below (Nat.le_trans hB hR4.bel.size) fun k hk => by rw [hk]; exact HH.out.low)
  refine (done_keep H6.out (O6.out.heap hR4.at_ (fun e => hp e.symm)) hp (Nat.le_trans hB hR4.low) HD).mono ?_
  rintro e w5 ⟨rfl, h5, hb5⟩
  go_wp2
  go_ret
  exact ⟨rfl, v, h5, hB6.trans hb5⟩
set_option maxHeartbeats 1000000 in
theorem take_snap (h4 : kind b = 4) : Calls Tryz.prog 30 #[.pointer (some ⟨p, 0, none⟩), .string b] w (Took B p w (say s b)) := by
  obtain ⟨k, hk⟩ : ∃ k, kind b = k := ⟨_, rfl⟩
  have hs : say s b = (saySnap s (snapOf b), ((rd4 b).text 65536).done) := by unfold say; rw [if_neg (by rw [h4]; decide), if_neg (by rw [h4]; decide), if_neg (by rw [h4]; decide), if_pos h4]
  rw [hk] at h4
  have n1 : ((k : Int) == 1) = false := by simp; omega
  have n2 : ((k : Int) == 2) = false := by simp; omega
  have n3 : ((k : Int) == 3) = false := by simp; omega
  have n4 : ((k : Int) == 4) = true := by simp; omega
  have HK : Hid (gotB (rd0 b).s = k) := hk
  obtain ⟨r1, hr1⟩ : ∃ r1, rd1 b = r1 := ⟨_, rfl⟩
  obtain ⟨r2, hr2⟩ : ∃ r2, rd2 b = r2 := ⟨_, rfl⟩
  obtain ⟨r3, hr3⟩ : ∃ r3, rd3 b = r3 := ⟨_, rfl⟩
  obtain ⟨r4, hr4⟩ : ∃ r4, rd4 b = r4 := ⟨_, rfl⟩
  obtain ⟨r5, hr5⟩ : ∃ r5, (rd4 b).text 65536 = r5 := ⟨_, rfl⟩
  obtain ⟨ix, hix⟩ : ∃ ix, gotB (rd1 b).s = ix := ⟨_, rfl⟩
  obtain ⟨tm, htm⟩ : ∃ tm, gotB (rd2 b).s = tm := ⟨_, rfl⟩
  obtain ⟨cf, hcf⟩ : ∃ cf, gotB (rd3 b).s = cf := ⟨_, rfl⟩
  obtain ⟨x, hx⟩ : ∃ x, textV (rd4 b).s 65536 = x := ⟨_, rfl⟩
  obtain ⟨d, hd⟩ : ∃ d, ((rd4 b).text 65536).done = d := ⟨_, rfl⟩
  have hz1 : r1.s.size ≤ 281474976710656 := by rw [← hr1]; exact Nat.le_trans (rd1_size b) hb
  have hz2 : r2.s.size ≤ 281474976710656 := by rw [← hr2]; exact Nat.le_trans (rd2_size b) hb
  have hz3 : r3.s.size ≤ 281474976710656 := by rw [← hr3]; exact Nat.le_trans (rd3_size b) hb
  have hz4 : r4.s.size ≤ 281474976710656 := by rw [← hr4]; exact Nat.le_trans (rd4_size b) hb
  have hsy : saySnap s (snapOf b) = { s with snap := ⟨ix, tm, cf, x⟩, es := [] } := by unfold saySnap snapOf; rw [hix, htm, hcf, hx]
  rw [hd, hsy] at hs
  have HR1 : Hid ((rd0 b).num = r1) := hr1
  have HR2 : Hid (r1.num = r2) := by rw [← hr1]; exact hr2
  have HR3 : Hid (r2.num = r3) := by rw [← hr2]; exact hr3
  have HR4 : Hid (r3.num = r4) := by rw [← hr3]; exact hr4
  have HR5 : Hid (r4.text 65536 = r5) := by rw [← hr4]; exact hr5
  have HI : Hid (gotB r1.s = ix) := by rw [← hr1]; exact hix
  have HT : Hid (gotB r2.s = tm) := by rw [← hr2]; exact htm
  have HC : Hid (gotB r3.s = cf) := by rw [← hr3]; exact hcf
  have HX : Hid (textV r4.s 65536 = x) := by rw [← hr4]; exact hx
  have HD : Hid (r5.done = d) := by rw [← hr5]; exact hd
  have hB := h.base
  have hlt := h.lt
  have HH := Lib.hid h
  rw [hs]
  clear hk h4 hs hr1 hr2 hr3 hr4 hr5 hix htm hcf hx hd hsy h
  go_enter Tryz.func30, Tryz.ntmps30
  go_wp2_with fail
  refine (from_rds b w).mono ?_
  rintro e w1 ⟨q, rfl, hR⟩
  go_wp2_with fail
  refine (rds_num hR hb HK HR1).mono ?_
  rintro e w2 ⟨rfl, hR2⟩
  go_wp2_with fail
  refine (rds_num hR2 hz1 HI HR2).mono ?_
  rintro e w3 ⟨rfl, hR3⟩
  go_wp2_with fail
  refine (rds_num hR3 hz2 HT HR3).mono ?_
  rintro e w4 ⟨rfl, hR4⟩
  go_wp2_with fail
  refine (rds_num hR4 hz3 HC HR4).mono ?_
  rintro e w5 ⟨rfl, hR5⟩
  go_wp2_with fail
  refine (rds_text 65536 hR5 hz4 (by decide) HX HR5).mono ?_
  rintro e w6 ⟨rfl, hR6⟩
  have h6 := HH.out.below hR6.bel
  have c2 := h6.at_ 2 rfl
  have c3 := h6.at_ 3 rfl
  have c4 := h6.at_ 4 rfl
  have c5 := h6.at_ 5 rfl
  have c6 := h6.at_ 6 rfl
  have f2 := h6.free 2
  have f3 := h6.free 3
  have f4 := h6.free 4
  have f5 := h6.free 5
  have f6 := h6.free 6
  have hlt6 := h6.lt
  obtain ⟨ha, oa⟩ := h6.set (i := 2) (.int .u64 (ix : Int)) (by simp [pre])
  obtain ⟨hb2, ob⟩ := ha.set (i := 3) (.int .u64 (tm : Int)) (by simp [pre])
  obtain ⟨hc, oc⟩ := hb2.set (i := 4) (.int .u64 (cf : Int)) (by simp [pre])
  obtain ⟨hd, od⟩ := hc.set (i := 5) (.string x) (by simp [pre])
  obtain ⟨_, _, he, oe⟩ := hd.rowed (w1 := _) (v1 := .slice none 0 0) (es' := []) (Only.refl _ _) (World.ownsRow_nil _ _ _ _) rfl rfl (fun q hq => by cases hq) (i := 6) (by simp [pre])
  have HE := Lib.hid he
  have O1 := Lib.hid (((((oa.trans ob).trans oc).trans od).mono (S' := Foot p v) fun k _ hk => .inl hk).trans oe)
  clear ha hb2 hc hd he oa ob oc od oe h6
  have hp : p ≠ q := by have := hR6.low; omega
  have hqf : ¬ Foot p v q := fun e => by have := (HH.out.foot_lt e).2; have := hR6.low; omega
  go_wp2_with fail
  have hB6 := (hR6.bel.mono hB).trans (O1.out.below (Nat.le_trans hB hR6.bel.size) fun k hk => (HH.out.foot_lt hk).1)
  refine (done_keep HE.out (O1.out.heap hR6.at_ hqf) hp (Nat.le_trans hB hR6.low) HD).mono ?_
  rintro e w7 ⟨rfl, h7, hb7⟩
  go_wp2
  go_ret
  exact ⟨rfl, _, h7, hB6.trans hb7⟩

set_option maxRecDepth 100000 in
set_option maxHeartbeats 4000000 in
theorem take_ent (h2 : kind b = 2) (hroom : (s.es.length + 1) * 40 ≤ 140737488355328) : Calls Tryz.prog 30 #[.pointer (some ⟨p, 0, none⟩), .string b] w (Took B p w (say s b)) := by
  obtain ⟨k, hk⟩ : ∃ k, kind b = k := ⟨_, rfl⟩
  have hs : say s b = (sayEnt s b, (((rd3 b).up 2).text 65536).done) := by unfold say; rw [if_neg (by rw [h2]; decide), if_pos h2]
  rw [hk] at h2
  have n1 : ((k : Int) == 1) = false := by simp; omega
  have n2 : ((k : Int) == 2) = true := by simp; omega
  have HK : Hid (gotB (rd0 b).s = k) := hk
  obtain ⟨r1, hr1⟩ : ∃ r1, rd1 b = r1 := ⟨_, rfl⟩
  obtain ⟨r2, hr2⟩ : ∃ r2, rd2 b = r2 := ⟨_, rfl⟩
  obtain ⟨r3, hr3⟩ : ∃ r3, rd3 b = r3 := ⟨_, rfl⟩
  obtain ⟨r4, hr4⟩ : ∃ r4, (rd3 b).up 2 = r4 := ⟨_, rfl⟩
  obtain ⟨r5, hr5⟩ : ∃ r5, ((rd3 b).up 2).text 65536 = r5 := ⟨_, rfl⟩
  obtain ⟨tm, htm⟩ : ∃ tm, gotB (rd1 b).s = tm := ⟨_, rfl⟩
  obtain ⟨ix, hix⟩ : ∃ ix, gotB (rd2 b).s = ix := ⟨_, rfl⟩
  obtain ⟨u, hu⟩ : ∃ u, upV (rd3 b).s 2 = u := ⟨_, rfl⟩
  obtain ⟨x, hx⟩ : ∃ x, textV ((rd3 b).up 2).s 65536 = x := ⟨_, rfl⟩
  obtain ⟨d, hd⟩ : ∃ d, (((rd3 b).up 2).text 65536).done = d := ⟨_, rfl⟩
  have hz1 : r1.s.size ≤ 281474976710656 := by rw [← hr1]; exact Nat.le_trans (rd1_size b) hb
  have hz2 : r2.s.size ≤ 281474976710656 := by rw [← hr2]; exact Nat.le_trans (rd2_size b) hb
  have hz3 : r3.s.size ≤ 281474976710656 := by rw [← hr3]; exact Nat.le_trans (rd3_size b) hb
  have hz4 : r4.s.size ≤ 281474976710656 := by rw [← hr4]; exact Nat.le_trans (Nat.le_trans (upR_size _ _) (rd3_size b)) hb
  have hsy : sayEnt s b = { s with es := s.es ++ [⟨tm, ix, (u : Int), x⟩] } := by unfold sayEnt entOf; rw [hix, htm, hu, hx]
  rw [hd, hsy] at hs
  have HR1 : Hid ((rd0 b).num = r1) := hr1
  have HR2 : Hid (r1.num = r2) := by rw [← hr1]; exact hr2
  have HR3 : Hid (r2.num = r3) := by rw [← hr2]; exact hr3
  have HR4 : Hid (r3.up 2 = r4) := by rw [← hr3]; exact hr4
  have HR5 : Hid (r4.text 65536 = r5) := by rw [← hr4]; exact hr5
  have HT : Hid (gotB r1.s = tm) := by rw [← hr1]; exact htm
  have HI : Hid (gotB r2.s = ix) := by rw [← hr2]; exact hix
  have HU : Hid (upV r3.s 2 = u) := by rw [← hr3]; exact hu
  have HX : Hid (textV r4.s 65536 = x) := by rw [← hr4]; exact hx
  have HD : Hid (r5.done = d) := by rw [← hr5]; exact hd
  have hB := h.base
  have hlt := h.lt
  obtain ⟨A, c, rfl, _, _, _⟩ := h.form
  have c60 := h.at_ 6 rfl
  have hl1 : s.es.length + 1 = (s.es ++ [(⟨tm, ix, (u : Int), x⟩ : Ent)]).length := by simp
  have HL1 := Lib.hid hl1
  have HH := Lib.hid h
  obtain ⟨n, hn⟩ : ∃ n, s.es.length = n := ⟨_, rfl⟩
  rw [hn] at c60 hroom
  have HN := Lib.hid hn
  rw [hs]
  clear hk h2 hs hr1 hr2 hr3 hr4 hr5 hix htm hu hx hd hsy h hl1 hn
  go_enter Tryz.func30, Tryz.ntmps30
  go_wp2_with fail
  refine (from_rds b w).mono ?_
  rintro e w1 ⟨q, rfl, hR⟩
  go_wp2_with fail
  refine (rds_num hR hb HK HR1).mono ?_
  rintro e w2 ⟨rfl, hR2⟩
  have c62 : w2.cell? ⟨p, 6, none⟩ = some (.slice A n c) := hR2.cell c60 hlt
  go_wp2_with fail
  go_region_law (first
    | (refine step_app (v := .slice A n c) _ rfl _ _ rfl B rfl (HOW.out _) rfl HNW.out (ecells_one _) hroom (HBS.out _) ?_
       intro A' c' w7 hown7 hg7 hat7
       have ho7 := ((Only.refl (fun q => (Value.slice A n c).ownBlock = some q) w6).alloc _).grown hg7 (fun q hq => .inr hq)
       have hat' : ∀ q, (Value.slice A' (n + 1) c').ownBlock = some q → (Value.slice A n c).ownBlock = some q ∨ w6.heap.size ≤ q := fun q hq => by
         rcases hat7 with e | e
         · exact .inl (e ▸ hq)
         · rw [hq] at e; cases e; exact .inr ((Below.refl _ w6).alloc (Nat.le_refl _) _).size
       obtain ⟨hcell7, hfr7, hh7, hoo7⟩ := H6.out.rowed (es' := s.es ++ [⟨tm, ix, (u : Int), x⟩]) ho7 hown7 (by rw [← HL1.out, HN.out]) (by rw [ecells_append]) hat' (i := 6) rfl
       have hlt7 : p < w7.heap.size := Nat.lt_of_lt_of_le hlt6 ho7.size
       have HH7 := Lib.hid hh7
       have HO7 := Lib.hid hoo7
       clear hh7 hoo7 hat' hat7 hg7 hown7 ho7)
    | (go_simp
       go_at_call 72
       (with_reducible refine (rds_num hR3 hz2 HI HR3).mono ?_)
       rintro e w4 ⟨rfl, hR4⟩
       have c64 : w4.cell? ⟨p, 6, none⟩ = some (.slice A n c) := hR4.cell c60 hlt)
    | (go_simp
       go_at_call 72
       (with_reducible refine (rds_num (hR2.drew) hz1 HT HR2).mono ?_)
       rintro e w3 ⟨rfl, hR3⟩
       have c63 : w3.cell? ⟨p, 6, none⟩ = some (.slice A n c) := hR3.cell c60 hlt)
    | (go_simp
       go_at_call 73
       (with_reducible refine (rds_up 2 hR4 hz3 (by decide) HU HR4).mono ?_)
       rintro e w5 ⟨rfl, hR5⟩
       have c65 : w5.cell? ⟨p, 6, none⟩ = some (.slice A n c) := hR5.cell c60 hlt)
    | (go_simp
       go_at_call 74
       (with_reducible refine (rds_text 65536 hR5 hz4 (by decide) HX HR5).mono ?_)
       rintro e w6 ⟨rfl, hR6⟩
       have c66 : w6.cell? ⟨p, 6, none⟩ = some (.slice A n c) := hR6.cell c60 hlt
       have h6 := HH.out.below hR6.bel
       rw [HN.out] at h6
       have hlt6 := h6.lt
       have HOW : Hid (∀ o, (w6.alloc o).ownsRow B 83 4 (.slice A n c) n (ecells s.es)) := fun o => by
         have := (h6.below ((Below.refl _ _).alloc (Nat.le_refl _) o)).own
         rwa [HN.out] at this
       have HNW : Hid (RE (w6.alloc (.cells #[.int .u64 (tm : Int), .int .u64 (ix : Int), .int .i64 (u : Int), .string x] 83)) (w6.heap.size + 1) (some ⟨w6.heap.size, 0, none⟩) 1 [⟨tm, ix, (u : Int), x⟩]) := ent_new w6 ⟨tm, ix, (u : Int), x⟩ 83
       have HBS : Hid (∀ o, B ≤ (w6.alloc o).heap.size) := fun o => Nat.le_trans h6.base ((Below.refl _ w6).alloc (Nat.le_refl _) o).size
       have H6 := Lib.hid h6
       clear h6))
  all_goals
    have hp : p ≠ q := by have := hR6.low; omega
    have hqf : ¬ Foot p (.slice A n c) q := fun e => by have := (H6.out.foot_lt e).2; have := (HH.out.foot_lt (by rw [HN.out]; exact e)).2; have := hR6.low; omega
    have hB6 := (hR6.bel.mono hB).trans (HO7.out.below (Nat.le_trans hB hR6.bel.size) fun k hk => (H6.out.foot_lt hk).1)
    have hRV := HO7.out.heap hR6.at_ hqf
    go_wp2_with fail
    refine (done_keep HH7.out hRV hp (Nat.le_trans hB hR6.low) HD).mono ?_
    rintro e w8 ⟨rfl, h8, hb8⟩
    go_wp2
    go_ret
    exact ⟨rfl, _, h8, hB6.trans hb8⟩
/-- Any record. -/
theorem take_any (hroom : (s.es.length + 1) * 40 ≤ 140737488355328) : Calls Tryz.prog 30 #[.pointer (some ⟨p, 0, none⟩), .string b] w (Took B p w (say s b)) := by
  by_cases h1 : kind b = 1
  · exact take_hard h b hb h1
  by_cases h2 : kind b = 2
  · exact take_ent h b hb h2 hroom
  by_cases h3 : kind b = 3
  · exact take_cut h b hb h3
  by_cases h4 : kind b = 4
  · exact take_snap h b hb h4
  · exact take_none h b hb h1 h2 h3 h4
end
end Go.Proofs.YtamncdpeklbhlaaGreatDoor.Take
set_option linter.unusedVariables false
set_option linter.unusedSimpArgs false
namespace Go.Proofs.YtamncdpeklbhlaaGreatDoor.RRec
open Go.RowKit Go.Proofs.YtamncdpeklbhlaaGreatDoor.Kit Go.Proofs.YtamncdpeklbhlaaGreatDoor.Blocks Go.Proofs.YtamncdpeklbhlaaGreatDoor.Rlog Go.Proofs.YtamncdpeklbhlaaGreatDoor.Sto Go.Proofs.YtamncdpeklbhlaaGreatDoor.Sav Go.Proofs.YtamncdpeklbhlaaGreatDoor.Ents Go.Proofs.YtamncdpeklbhlaaGreatDoor.Rec
open Go.Proofs.YtamncdpeklbhlaaGreatDoor.Num (num)
open Go.Proofs.YtamncdpeklbhlaaGreatDoor.PckWalkB (text)
open Go.Proofs.YtamncdpeklbhlaaGreatDoor.PckWalkH (str str_size str_append str_back)

def us (l : List Nat) : List Value := l.map fun (x : Nat) => .int .u64 (x : Int)
def nums (l : List Nat) : List UInt8 := l.flatMap num
theorem us_length (l : List Nat) : (us l).length = l.length := by simp [us]
theorem nums_snoc (l : List Nat) (k x : Nat) (h : l[k]? = some x) : nums (l.take (k + 1)) = nums (l.take k) ++ num x := by
  rw [take_snoc l k x h]
  simp [nums]
theorem nums_len {l : List Nat} (hb : ∀ x ∈ l, x < 18446744073709551616) : (nums l).length ≤ 9 * l.length := by
  induction l with
  | nil => simp [nums]
  | cons x l ih =>
    have h1 := num9 (hb x (by simp))
    have h2 := ih fun y hy => hb y (by simp [hy])
    have e : nums (x :: l) = num x ++ nums l := rfl
    rw [e, List.length_append, List.length_cons]
    omega
theorem us_get {w : World} {B n : Nat} {A : Option Addr} {l : List Nat} (h : Reads w B 1 A n (us l)) {k : Nat} (hk : k < n) : ∃ b o x, A = some ⟨b, o, none⟩ ∧ b < B ∧ l[k]? = some x ∧ w.cell? ⟨b, o + k, none⟩ = some (.int .u64 (x : Int)) := by
  have hl : l.length = n := by have := h.len; rw [us_length] at this; omega
  obtain ⟨ad, rfl, hb, hc⟩ := h.2 (by omega)
  have h0 := hc 0 (.int .u64 ((l[0]'(by omega) : Nat) : Int)) (by unfold us; rw [List.getElem?_map, List.getElem?_eq_getElem (by omega)]; rfl)
  rw [Kit.add_zero] at h0
  have hs := World.cell?_spot h0
  obtain ⟨b, o, s⟩ := ad
  have : s = none := hs
  subst this
  refine ⟨b, o, l[k]'(by omega), rfl, hb, List.getElem?_eq_getElem (by omega), ?_⟩
  have := hc k (.int .u64 ((l[k]'(by omega) : Nat) : Int)) (by unfold us; rw [List.getElem?_map, List.getElem?_eq_getElem (by omega)]; rfl)
  rw [Addr.add_lit] at this
  exact this

set_option maxRecDepth 100000 in
set_option maxHeartbeats 1000000 in
theorem nums_any (A : Option Addr) (n c : Nat) (l : List Nat) (w : World) (h : Reads w w.heap.size 1 A n (us l)) (hb : ∀ x ∈ l, x < 18446744073709551616) (hn : n ≤ 1000) :
    Calls Tryz.prog 88 #[.slice A n c] w (Said w (nums l)) := by
  have hl : l.length = n := by have := h.len; rw [us_length] at this; omega
  have HL := Lib.hid hl
  have HB := Lib.hid hb
  clear hl hb
  go_enter Tryz.func88, Tryz.ntmps88
  go_wp2_with fail
  go_loopw [3, 4] (fun s i wr => ∃ (k : Nat) (S : ByteArray), k ≤ n ∧ i = .int .i64 (k : Int) ∧ s = .string S ∧ Hid (str (nums (l.take k)) = S) ∧ S.size ≤ 9 * k ∧ Below w.heap.size w wr) (fun _ i _ => n - (intOf i).toNat)
  case atStart => exact ⟨0, _, by omega, rfl, rfl, Lib.hid rfl, by decide, Below.refl _ _⟩
  case round =>
    obtain ⟨k, S, hk, rfl, rfl, HS, hSs, hbel⟩ := hrel
    by_cases hkn : k < n
    · obtain ⟨b, o, x, rfl, hbl, hx, hc0⟩ := us_get h hkn
      have hc : wr.cell? ⟨b, o + k, none⟩ = some (.int .u64 (x : Int)) := (hbel.cell (p := ⟨b, o + k, none⟩) hbl).trans hc0
      have hxb : x < 18446744073709551616 := HB.out x (List.mem_of_getElem? hx)
      have hsn := nums_snoc l k x hx
      obtain ⟨X, hX⟩ : ∃ X, str (num x) = X := ⟨_, rfl⟩
      have hXs : X.size ≤ 9 := by rw [← hX, str_size]; exact num9 hxb
      have hnx := PckWalkH.num_any x
      have HNx : Hid (∀ w : World, Calls Tryz.prog 114 #[.int .u64 (x : Int)] w fun e w' => e = .returned (.string X) ∧ Below w.heap.size w w') := fun w => by
        have := hnx w hxb
        rw [← hX]
        exact this
      obtain ⟨Y, hY⟩ : ∃ Y, S ++ X = Y := ⟨_, rfl⟩
      have hYs : Y.size ≤ 9 * (k + 1) := by rw [← hY, ByteArray.size_append]; omega
      have HY : Hid (str (nums (l.take (k + 1))) = Y) := by
        have : str (nums (l.take (k + 1))) = Y := by rw [hsn, ← str_append, HS.out, hX, hY]
        exact this
      have hjoin : S.size + X.size ≤ 9223372036854775807 := by omega
      have HYY := Lib.hid hY
      clear hsn hX hnx hx hY
      go_wp2_with fail
      refine (HNx.out wr).mono ?_
      rintro e w1 ⟨rfl, hb1⟩
      go_wp2
      rw [HYY.out]
      go_roundw
      case rel => exact ⟨k + 1, Y, by omega, by go_num, rfl, HY, hYs, hbel.trans (hb1.mono hbel.size)⟩
      case measure => simp [intOf]; omega
    · obtain rfl : k = n := by omega
      have HF := HS.out
      rw [List.take_of_length_le (by rw [HL.out]; exact Nat.le_refl _)] at HF
      have HFF := Lib.hid HF
      clear HF HS
      go_wp2
      go_ret
      exact ⟨by rw [HFF.out]; rfl, hbel⟩
theorem nums_lit (A : Option Addr) (c : Nat) (n : Nat) {l : List Nat} {L : List UInt8} (w : World) (h : Reads w w.heap.size 1 A n (us l)) (hb : ∀ x ∈ l, x < 18446744073709551616) (hn : n ≤ 1000) (he : Hid (nums l = L)) :
    Calls Tryz.prog 88 #[.slice A n c] w (Said w L) := by
  have := nums_any A n c l w h hb hn
  rwa [he.out] at this
set_option maxRecDepth 100000 in
set_option maxHeartbeats 2000000 in
theorem rhard_rec (t : Nat) (v : Int) (w : World) (ht : t < 18446744073709551616) (hv0 : -9223372036854775808 ≤ v) (hv1 : v ≤ 9223372036854775807) :
    Calls Tryz.prog 42 #[.agg #[.int .u64 (t : Int), .int .i64 v]] w (Said w (recHard t v)) := by
  obtain ⟨u, hu⟩ : ∃ u, uns (v + 1) = u := ⟨_, rfl⟩
  have hul : u < 18446744073709551616 := by rw [← hu]; exact uns_lt _
  have HE : Hid (nums [1, t, u] = recHard t v) := by
    have : nums [1, t, u] = recHard t v := by simp [nums, recHard, hu]
    exact this
  have hz := wrap_vote hv0 hv1
  rw [hu] at hz
  obtain ⟨z, hz1⟩ : ∃ z, IntKind.i64.wrap (v + 1) = z := ⟨_, rfl⟩
  have hz2 : wrap64 (v + 1) = z := by rw [← hz1, IntKind.wrap_i64]; unfold wrap64; omega
  rw [hz1] at hz
  have hz3 : z % 18446744073709551616 = (u : Int) := by rw [← hz, IntKind.wrap_u64]
  have hall : Hid (∀ x ∈ [1, t, u], x < 18446744073709551616) := fun x hx => by
    simp only [List.mem_cons, List.not_mem_nil, or_false] at hx
    rcases hx with rfl | rfl | rfl
    · decide
    · exact ht
    · exact hul
  clear hu
  have hba : Below w.heap.size w (w.alloc (.cells #[.int .u64 (t : Int), .int .i64 v] 40)) := (Below.refl _ _).alloc (Nat.le_refl _) _
  have hcb := heap_alloc_new w (.cells #[.int .u64 (t : Int), .int .i64 v] 40)
  have hlt : w.heap.size < (w.alloc (.cells #[.int .u64 (t : Int), .int .i64 v] 40)).heap.size := lt_at hcb
  have c0 : (w.alloc (.cells #[.int .u64 (t : Int), .int .i64 v] 40)).cell? ⟨w.heap.size, 0, none⟩ = some (.int .u64 (t : Int)) := by rw [cell_at hcb]; rfl
  have c1 : (w.alloc (.cells #[.int .u64 (t : Int), .int .i64 v] 40)).cell? ⟨w.heap.size, 1, none⟩ = some (.int .i64 v) := by rw [cell_at hcb]; rfl
  have hl1 : Below (w.alloc (.cells #[.int .u64 (t : Int), .int .i64 v] 40)).heap.size (w.alloc (.cells #[.int .u64 (t : Int), .int .i64 v] 40)) ((w.alloc (.cells #[.int .u64 (t : Int), .int .i64 v] 40)).alloc (.cells #[.int .u64 1, .int .u64 (t : Int), .int .u64 (u : Int)] 38)) := (Below.refl _ _).alloc (Nat.le_refl _) _
  have hrd : Reads ((w.alloc (.cells #[.int .u64 (t : Int), .int .i64 v] 40)).alloc (.cells #[.int .u64 1, .int .u64 (t : Int), .int .u64 (u : Int)] 38)) ((w.alloc (.cells #[.int .u64 (t : Int), .int .i64 v] 40)).alloc (.cells #[.int .u64 1, .int .u64 (t : Int), .int .u64 (u : Int)] 38)).heap.size 1 (some ⟨(w.alloc (.cells #[.int .u64 (t : Int), .int .i64 v] 40)).heap.size, 0, none⟩) 3 (us [1, t, u]) := (reads_new (w.alloc (.cells #[.int .u64 (t : Int), .int .i64 v] 40)) (us [1, t, u]) 38).more (by simp)
  have hsz : (w.alloc (.cells #[.int .u64 (t : Int), .int .i64 v] 40)).heap.size = w.heap.size + 1 := by simp
  rw [hsz] at hrd
  clear hcb hsz
  go_enter Tryz.func42, Tryz.ntmps42
  go_wp2_with fail
  refine (nums_lit _ 3 3 _ hrd hall.out (by decide) HE).mono ?_
  rintro e w1 ⟨rfl, hb1⟩
  go_wp2
  go_ret
  exact ⟨rfl, hba.trans ((hl1.trans (hb1.mono hl1.size)).mono hba.size)⟩
theorem rcut_rec (i : Nat) (w : World) (hi : i < 18446744073709551616) : Calls Tryz.prog 65 #[.int .u64 (i : Int)] w (Said w (recCut i)) := by
  have HE : Hid (nums [3, i] = recCut i) := by
    have : nums [3, i] = recCut i := by simp [nums, recCut]
    exact this
  have hall : Hid (∀ x ∈ [3, i], x < 18446744073709551616) := fun x hx => by
    simp only [List.mem_cons, List.not_mem_nil, or_false] at hx
    rcases hx with rfl | rfl
    · decide
    · exact hi
  have hl1 : Below w.heap.size w (w.alloc (.cells #[.int .u64 3, .int .u64 (i : Int)] 38)) := (Below.refl _ _).alloc (Nat.le_refl _) _
  have hrd : Reads (w.alloc (.cells #[.int .u64 3, .int .u64 (i : Int)] 38)) (w.alloc (.cells #[.int .u64 3, .int .u64 (i : Int)] 38)).heap.size 1 (some ⟨w.heap.size, 0, none⟩) 2 (us [3, i]) := (reads_new w (us [3, i]) 38).more (by simp)
  go_enter Tryz.func65, Tryz.ntmps65
  go_wp2_with fail
  refine (nums_lit _ 2 2 _ hrd hall.out (by decide) HE).mono ?_
  rintro e w1 ⟨rfl, hb1⟩
  go_wp2
  go_ret
  exact ⟨rfl, hl1.trans (hb1.mono hl1.size)⟩
theorem text_hid {s : ByteArray} {S : ByteArray} (w : World) (hs : s.size ≤ 140737488355000) (he : Hid (str (text s) = S)) :
    Calls Tryz.prog 89 #[.string s] w fun e w' => e = .returned (.string S) ∧ Below w.heap.size w w' := by
  have := PckWalkH.text_any s w hs
  rw [← he.out]
  exact this
theorem nums_hid (A : Option Addr) (c : Nat) (n : Nat) {l : List Nat} {L : ByteArray} (w : World) (h : Reads w w.heap.size 1 A n (us l)) (hb : ∀ x ∈ l, x < 18446744073709551616) (hn : n ≤ 1000) (he : Hid (str (nums l) = L)) :
    Calls Tryz.prog 88 #[.slice A n c] w fun e w' => e = .returned (.string L) ∧ Below w.heap.size w w' := by
  have := nums_any A n c l w h hb hn
  rw [← he.out]
  exact this
end Go.Proofs.YtamncdpeklbhlaaGreatDoor.RRec
set_option linter.unusedVariables false
set_option linter.unusedSimpArgs false
namespace Go.Proofs.YtamncdpeklbhlaaGreatDoor.RRecB
open Go.RowKit Go.Proofs.YtamncdpeklbhlaaGreatDoor.Kit Go.Proofs.YtamncdpeklbhlaaGreatDoor.Blocks Go.Proofs.YtamncdpeklbhlaaGreatDoor.Rlog Go.Proofs.YtamncdpeklbhlaaGreatDoor.Sto Go.Proofs.YtamncdpeklbhlaaGreatDoor.Sav Go.Proofs.YtamncdpeklbhlaaGreatDoor.Ents Go.Proofs.YtamncdpeklbhlaaGreatDoor.Rec
open Go.Proofs.YtamncdpeklbhlaaGreatDoor.RRec
open Go.Proofs.YtamncdpeklbhlaaGreatDoor.Num (num)
open Go.Proofs.YtamncdpeklbhlaaGreatDoor.PckWalkB (text)
open Go.Proofs.YtamncdpeklbhlaaGreatDoor.PckWalkH (str str_size str_append str_back)

set_option maxRecDepth 100000 in
set_option maxHeartbeats 4000000 in
theorem rent_rec (e : Ent) (w : World) (he : EntB e) (hd : e.data.size ≤ 140737488350000) :
    Calls Tryz.prog 44 #[.agg #[.int .u64 (e.term : Int), .int .u64 (e.idx : Int), .int .i64 e.kind, .string e.data]] w (Said w (recEnt e)) := by
  have ht := he.term
  have hi := he.idx
  obtain ⟨u, hu⟩ : ∃ u, uns e.kind = u := ⟨_, rfl⟩
  have hul : u < 18446744073709551616 := by rw [← hu]; exact uns_lt _
  have hz := wrap_uns e.kind
  rw [hu] at hz
  obtain ⟨F, hF⟩ : ∃ F, str (nums [2, e.term, e.idx, u]) = F := ⟨_, rfl⟩
  obtain ⟨G, hG⟩ : ∃ G, str (text e.data) = G := ⟨_, rfl⟩
  have hFs : F.size ≤ 36 := by
    rw [← hF, str_size]
    exact nums_len fun x hx => by
      simp only [List.mem_cons, List.not_mem_nil, or_false] at hx
      rcases hx with rfl | rfl | rfl | rfl
      · decide
      · exact ht
      · exact hi
      · exact hul
  have hGs : G.size ≤ 140737488350009 := by rw [← hG, str_size]; have := text_length e.data (by omega); omega
  have HE : Hid (F ++ G = str (recEnt e)) := by
    have : F ++ G = str (recEnt e) := by
      rw [← hF, ← hG, str_append]
      congr 1
      simp [nums, recEnt, hu]
    exact this
  have hall : Hid (∀ x ∈ [2, e.term, e.idx, u], x < 18446744073709551616) := fun x hx => by
    simp only [List.mem_cons, List.not_mem_nil, or_false] at hx
    rcases hx with rfl | rfl | rfl | rfl
    · decide
    · exact ht
    · exact hi
    · exact hul
  obtain ⟨R, hR⟩ : ∃ R, str (recEnt e) = R := ⟨_, rfl⟩
  unfold Said
  rw [hR]
  rw [hR] at HE
  have HF := Lib.hid hF
  have HG := Lib.hid hG
  have hjoin : F.size + G.size ≤ 9223372036854775807 := by omega
  have hjoin2 : ¬ 9223372036854775807 < F.size + G.size := by omega
  obtain ⟨tm, ix, kd, d⟩ := e
  simp only at *
  clear hR hF hG hu he
  have hba : Below w.heap.size w (w.alloc (.cells #[.int .u64 (tm : Int), .int .u64 (ix : Int), .int .i64 kd, .string d] 83)) := (Below.refl _ _).alloc (Nat.le_refl _) _
  have hcb := heap_alloc_new w (.cells #[.int .u64 (tm : Int), .int .u64 (ix : Int), .int .i64 kd, .string d] 83)
  obtain ⟨w0, hw0⟩ : ∃ w0, w.alloc (.cells #[.int .u64 (tm : Int), .int .u64 (ix : Int), .int .i64 kd, .string d] 83) = w0 := ⟨_, rfl⟩
  have hlt : w.heap.size < w0.heap.size := by rw [← hw0]; exact lt_at hcb
  have c0 : w0.cell? ⟨w.heap.size, 0, none⟩ = some (.int .u64 (tm : Int)) := by rw [← hw0, cell_at hcb]; rfl
  have c1 : w0.cell? ⟨w.heap.size, 1, none⟩ = some (.int .u64 (ix : Int)) := by rw [← hw0, cell_at hcb]; rfl
  have c2 : w0.cell? ⟨w.heap.size, 2, none⟩ = some (.int .i64 kd) := by rw [← hw0, cell_at hcb]; rfl
  have c3 : w0.cell? ⟨w.heap.size, 3, none⟩ = some (.string d) := by rw [← hw0, cell_at hcb]; rfl
  rw [hw0] at hba
  have HW0 := Lib.hid hw0
  have hl1 : Below w0.heap.size w0 (w0.alloc (.cells #[.int .u64 2, .int .u64 (tm : Int), .int .u64 (ix : Int), .int .u64 (u : Int)] 38)).drew := ((Below.refl _ _).alloc (Nat.le_refl _) _).drew
  have hrd : Reads (w0.alloc (.cells #[.int .u64 2, .int .u64 (tm : Int), .int .u64 (ix : Int), .int .u64 (u : Int)] 38)).drew (w0.alloc (.cells #[.int .u64 2, .int .u64 (tm : Int), .int .u64 (ix : Int), .int .u64 (u : Int)] 38)).drew.heap.size 1 (some ⟨w0.heap.size, 0, none⟩) 4 (us [2, tm, ix, u]) := Reads.drew ((reads_new w0 (us [2, tm, ix, u]) 38).more (by simp))
  clear hcb hw0
  go_enter Tryz.func44, Tryz.ntmps44
  go_wp2_with fail
  rw [HW0.out]
  go_region_held3 (fun w' => w'.cell? ⟨w.heap.size, 3, none⟩ = some (.string d) ∧ w'.cell? ⟨w.heap.size, 0, none⟩ = some (.int .u64 (tm : Int)) ∧ w'.cell? ⟨w.heap.size, 1, none⟩ = some (.int .u64 (ix : Int)) ∧ w'.cell? ⟨w.heap.size, 2, none⟩ = some (.int .i64 kd))
    (first
      | exact ⟨c3, c0, c1, c2⟩
      | exact ⟨(hB2.cell (p := ⟨w.heap.size, 3, none⟩) hlt).trans c3, (hB2.cell (p := ⟨w.heap.size, 0, none⟩) hlt).trans c0, (hB2.cell (p := ⟨w.heap.size, 1, none⟩) hlt).trans c1, (hB2.cell (p := ⟨w.heap.size, 2, none⟩) hlt).trans c2⟩
      | exact ⟨(hl1.cell (p := ⟨w.heap.size, 3, none⟩) hlt).trans c3, (hl1.cell (p := ⟨w.heap.size, 0, none⟩) hlt).trans c0, (hl1.cell (p := ⟨w.heap.size, 1, none⟩) hlt).trans c1, (hl1.cell (p := ⟨w.heap.size, 2, none⟩) hlt).trans c2⟩
      | exact ⟨(hB1.cell (p := ⟨w.heap.size, 3, none⟩) hlt).trans c3, (hB1.cell (p := ⟨w.heap.size, 0, none⟩) hlt).trans c0, (hB1.cell (p := ⟨w.heap.size, 1, none⟩) hlt).trans c1, (hB1.cell (p := ⟨w.heap.size, 2, none⟩) hlt).trans c2⟩)
    (first
      | (go_at_call 88
         (with_reducible refine (nums_hid _ 4 4 _ hrd hall.out (by decide) HF).mono ?_)
         rintro e w1 ⟨rfl, hb1⟩
         have hB1 : Below w0.heap.size w0 w1 := hl1.trans (hb1.mono hl1.size)
         have d3 : w1.cell? ⟨w.heap.size, 3, none⟩ = some (.string d) := (hB1.cell (p := ⟨w.heap.size, 3, none⟩) hlt).trans c3)
      | (go_at_call 89
         (with_reducible refine (text_hid _ (by omega) HG).mono ?_)
         rintro e w2 ⟨rfl, hb2⟩
         have hB2 : Below w0.heap.size w0 w2 := hB1.trans (hb2.mono hB1.size)))
  all_goals go_wp2
  all_goals go_ret
  all_goals exact ⟨by rw [HE.out]; rfl, hba.trans (hB2.mono hba.size)⟩
set_option maxRecDepth 100000 in
set_option maxHeartbeats 4000000 in
theorem rsnap_rec (e : Snap) (w : World) (he : SnapB e) (hd : e.data.size ≤ 140737488350000) :
    Calls Tryz.prog 43 #[.agg #[.int .u64 (e.idx : Int), .int .u64 (e.term : Int), .int .u64 (e.cfg : Int), .string e.data]] w (Said w (recSnap e)) := by
  have ht := he.idx
  have hi := he.term
  have hul := he.cfg
  obtain ⟨F, hF⟩ : ∃ F, str (nums [4, e.idx, e.term, e.cfg]) = F := ⟨_, rfl⟩
  obtain ⟨G, hG⟩ : ∃ G, str (text e.data) = G := ⟨_, rfl⟩
  have hFs : F.size ≤ 36 := by
    rw [← hF, str_size]
    exact nums_len fun x hx => by
      simp only [List.mem_cons, List.not_mem_nil, or_false] at hx
      rcases hx with rfl | rfl | rfl | rfl
      · decide
      · exact ht
      · exact hi
      · exact hul
  have hGs : G.size ≤ 140737488350009 := by rw [← hG, str_size]; have := text_length e.data (by omega); omega
  have HE : Hid (F ++ G = str (recSnap e)) := by
    have : F ++ G = str (recSnap e) := by
      rw [← hF, ← hG, str_append]
      congr 1
      simp [nums, recSnap]
    exact this
  have hall : Hid (∀ x ∈ [4, e.idx, e.term, e.cfg], x < 18446744073709551616) := fun x hx => by
    simp only [List.mem_cons, List.not_mem_nil, or_false] at hx
    rcases hx with rfl | rfl | rfl | rfl
    · decide
    · exact ht
    · exact hi
    · exact hul
  obtain ⟨R, hR⟩ : ∃ R, str (recSnap e) = R := ⟨_, rfl⟩
  unfold Said
  rw [hR]
  rw [hR] at HE
  have HF := Lib.hid hF
  have HG := Lib.hid hG
  have hjoin : F.size + G.size ≤ 9223372036854775807 := by omega
  have hjoin2 : ¬ 9223372036854775807 < F.size + G.size := by omega
  obtain ⟨tm, ix, kd, d⟩ := e
  simp only at *
  clear hR hF hG he
  have hba : Below w.heap.size w (w.alloc (.cells #[.int .u64 (tm : Int), .int .u64 (ix : Int), .int .u64 (kd : Int), .string d] 42)) := (Below.refl _ _).alloc (Nat.le_refl _) _
  have hcb := heap_alloc_new w (.cells #[.int .u64 (tm : Int), .int .u64 (ix : Int), .int .u64 (kd : Int), .string d] 42)
  obtain ⟨w0, hw0⟩ : ∃ w0, w.alloc (.cells #[.int .u64 (tm : Int), .int .u64 (ix : Int), .int .u64 (kd : Int), .string d] 42) = w0 := ⟨_, rfl⟩
  have hlt : w.heap.size < w0.heap.size := by rw [← hw0]; exact lt_at hcb
  have c0 : w0.cell? ⟨w.heap.size, 0, none⟩ = some (.int .u64 (tm : Int)) := by rw [← hw0, cell_at hcb]; rfl
  have c1 : w0.cell? ⟨w.heap.size, 1, none⟩ = some (.int .u64 (ix : Int)) := by rw [← hw0, cell_at hcb]; rfl
  have c2 : w0.cell? ⟨w.heap.size, 2, none⟩ = some (.int .u64 (kd : Int)) := by rw [← hw0, cell_at hcb]; rfl
  have c3 : w0.cell? ⟨w.heap.size, 3, none⟩ = some (.string d) := by rw [← hw0, cell_at hcb]; rfl
  rw [hw0] at hba
  have HW0 := Lib.hid hw0
  have hl1 : Below w0.heap.size w0 (w0.alloc (.cells #[.int .u64 4, .int .u64 (tm : Int), .int .u64 (ix : Int), .int .u64 (kd : Int)] 38)).drew := ((Below.refl _ _).alloc (Nat.le_refl _) _).drew
  have hrd : Reads (w0.alloc (.cells #[.int .u64 4, .int .u64 (tm : Int), .int .u64 (ix : Int), .int .u64 (kd : Int)] 38)).drew (w0.alloc (.cells #[.int .u64 4, .int .u64 (tm : Int), .int .u64 (ix : Int), .int .u64 (kd : Int)] 38)).drew.heap.size 1 (some ⟨w0.heap.size, 0, none⟩) 4 (us [4, tm, ix, kd]) := Reads.drew ((reads_new w0 (us [4, tm, ix, kd]) 38).more (by simp))
  clear hcb hw0
  go_enter Tryz.func43, Tryz.ntmps43
  go_wp2_with fail
  rw [HW0.out]
  go_region_held3 (fun w' => w'.cell? ⟨w.heap.size, 3, none⟩ = some (.string d) ∧ w'.cell? ⟨w.heap.size, 0, none⟩ = some (.int .u64 (tm : Int)) ∧ w'.cell? ⟨w.heap.size, 1, none⟩ = some (.int .u64 (ix : Int)) ∧ w'.cell? ⟨w.heap.size, 2, none⟩ = some (.int .u64 (kd : Int)))
    (first
      | exact ⟨c3, c0, c1, c2⟩
      | exact ⟨(hB2.cell (p := ⟨w.heap.size, 3, none⟩) hlt).trans c3, (hB2.cell (p := ⟨w.heap.size, 0, none⟩) hlt).trans c0, (hB2.cell (p := ⟨w.heap.size, 1, none⟩) hlt).trans c1, (hB2.cell (p := ⟨w.heap.size, 2, none⟩) hlt).trans c2⟩
      | exact ⟨(hl1.cell (p := ⟨w.heap.size, 3, none⟩) hlt).trans c3, (hl1.cell (p := ⟨w.heap.size, 0, none⟩) hlt).trans c0, (hl1.cell (p := ⟨w.heap.size, 1, none⟩) hlt).trans c1, (hl1.cell (p := ⟨w.heap.size, 2, none⟩) hlt).trans c2⟩
      | exact ⟨(hB1.cell (p := ⟨w.heap.size, 3, none⟩) hlt).trans c3, (hB1.cell (p := ⟨w.heap.size, 0, none⟩) hlt).trans c0, (hB1.cell (p := ⟨w.heap.size, 1, none⟩) hlt).trans c1, (hB1.cell (p := ⟨w.heap.size, 2, none⟩) hlt).trans c2⟩)
    (first
      | (go_at_call 88
         (with_reducible refine (nums_hid _ 4 4 _ hrd hall.out (by decide) HF).mono ?_)
         rintro e w1 ⟨rfl, hb1⟩
         have hB1 : Below w0.heap.size w0 w1 := hl1.trans (hb1.mono hl1.size)
         have d3 : w1.cell? ⟨w.heap.size, 3, none⟩ = some (.string d) := (hB1.cell (p := ⟨w.heap.size, 3, none⟩) hlt).trans c3)
      | (go_at_call 89
         (with_reducible refine (text_hid _ (by omega) HG).mono ?_)
         rintro e w2 ⟨rfl, hb2⟩
         have hB2 : Below w0.heap.size w0 w2 := hB1.trans (hb2.mono hB1.size)))
  all_goals go_wp2
  all_goals go_ret
  all_goals exact ⟨by rw [HE.out]; rfl, hba.trans (hB2.mono hba.size)⟩
end Go.Proofs.YtamncdpeklbhlaaGreatDoor.RRecB
