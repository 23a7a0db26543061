/- Plain mathematics of layer 12: a node, and what each call makes of it. No program's text; no statement is proved here. -/
import Derived.Test.YtdbmpfongfiagaaRlog
import Derived.Test.YtdbmpfongfiagaaQuorum
set_option linter.unusedVariables false
namespace Go.Proofs.Ytdbmpfongfiagaa.Nod
open Go.Proofs.Ytdbmpfongfiagaa.Rlog
open Go.Proofs.Ytdbmpfongfiagaa.Quorum (mem size need sound maj node has turn change)
open Go.Proofs.Ytdbmpfongfiagaa.Num (num)

/-- What number i has; who isn't told has 0. -/
def told (l : List Nat) (i : Nat) : Nat := l.getD i 0
def cnt (c : Nat) (l : List Nat) (v : Nat) : Nat := Quorum.num fun i => c.testBit i && decide (v ≤ told l i)
def IsR (c : Nat) (l : List Nat) (r : Nat) : Prop := (size c = 0 ∧ r = 0) ∨ (0 < size c ∧ need c ≤ cnt c l r ∧ cnt c l (r + 1) < need c)
theorem cnt_anti (c : Nat) (l : List Nat) {v u : Nat} (h : v ≤ u) : cnt c l u ≤ cnt c l v := Quorum.num_le fun i _ hi => by
  simp only [Bool.and_eq_true, decide_eq_true_eq] at hi ⊢
  exact ⟨hi.1, by omega⟩
theorem IsR.unique {c : Nat} {l : List Nat} {r s : Nat} (h : IsR c l r) (k : IsR c l s) : r = s := by
  rcases h with ⟨h0, h1⟩ | ⟨h0, h1, h2⟩ <;> rcases k with ⟨k0, k1⟩ | ⟨k0, k1, k2⟩
  · omega
  · omega
  · omega
  · rcases Nat.lt_trichotomy r s with e | e | e
    · have := cnt_anti c l (show r + 1 ≤ s by omega)
      omega
    · exact e
    · have := cnt_anti c l (show s + 1 ≤ r by omega)
      omega
def str (l : List UInt8) : ByteArray := ⟨l.toArray⟩

/-- What a letter says. -/
structure Msg where
  k : Int
  f : Int
  t : Int
  tm : Nat
  ix : Nat
  pv : Nat
  cm : Nat
  ok : Bool
  es : List Ent
  d : ByteArray
/-- One node. -/
structure Nd where
  id : Nat
  term : Nat
  vote : Int
  g : G
  role : Nat
  leader : Int
  commit : Nat
  votes : Nat
  next : List Nat
  mat : List Nat
  kept : List Ent
  inst : Bool
  out : List Msg
  reset : Bool

def topN : Nat := 18446744073709551615
def zeros : List Nat := [0, 0, 0, 0, 0, 0, 0]
def evens (n : Nat) : List Nat := [n, n, n, n, n, n, n]
/-- What a majority of the members has. -/
noncomputable def reach (c : Nat) (l : List Nat) : Nat := open Classical in if h : ∃ r, IsR c l r then Classical.choose h else 0
theorem reach_of {c r : Nat} {l : List Nat} (h : IsR c l r) : reach c l = r := by
  unfold reach
  have hx : ∃ r, IsR c l r := ⟨r, h⟩
  rw [dif_pos hx]
  exact (Classical.choose_spec hx).unique h
def cfg (m : Nd) : Nat := (members m.g topN).1
def since (m : Nd) : Nat := (members m.g topN).2
def rest (m : Nd) : List Nat := (mem (cfg m)).filter fun i => decide (i ≠ m.id)
def blankM : Msg := ⟨0, 0, 0, 0, 0, 0, 0, false, [], ByteArray.empty⟩
def sign (m : Nd) (x : Msg) : Msg := { x with f := (m.id : Int), tm := m.term }
def post (m : Nd) (x : Msg) : Nd := { m with out := m.out ++ [sign m x] }
/-- What is written to a node. -/
def snapTo (m : Nd) (to : Nat) : Msg := { blankM with k := 5, t := (to : Int), ix := m.g.snap.idx, pv := m.g.snap.term, cm := m.g.snap.cfg, d := m.g.snap.data }
def entsTo (m : Nd) (to : Nat) : Msg := { blankM with k := 3, t := (to : Int), ix := told m.next to - 1, pv := (term m.g (told m.next to - 1)).getD 0, cm := m.commit, es := get m.g (told m.next to) 8 }
def letterTo (m : Nd) (to : Nat) : Msg := if told m.next to ≤ m.g.snap.idx then snapTo m to else entsTo m to
def write (m : Nd) (to : Nat) : Nd := post m (letterTo m to)
def beat (m : Nd) : Nd := if m.role = 2 then (rest m).foldl write m else m
def ofTerm (m : Nd) (i : Nat) : Bool := decide (term m.g i = some m.term)
def retire (m : Nd) : Nd := { m with role := 0, votes := 0, next := zeros, mat := zeros }
noncomputable def best (m : Nd) : Nat := reach (cfg m) m.mat
noncomputable def mayAdvance (m : Nd) : Bool := ofTerm m (best m) && decide (m.commit < best m)
noncomputable def reached (m : Nd) : Nd := { m with commit := best m }
noncomputable def goes (m : Nd) : Bool := decide (since m ≤ best m) && !has (cfg m) (m.id : Int)
noncomputable def gone (m : Nd) : Nd := { retire (beat (reached m)) with leader := -1 }
noncomputable def advance (m : Nd) : Nd := if mayAdvance m = true then (if goes m = true then gone m else reached m) else m
def keepL (o l : List Ent) : List Ent := match l with
  | [] => o
  | e :: r => (o.filter fun x => decide (x.idx < e.idx)) ++ (e :: r)
def keep (m : Nd) (l : List Ent) : Nd := { m with kept := keepL m.kept l }
def ent (m : Nd) (kind : Int) (d : ByteArray) : Ent := new m.g m.term kind d
def canAdd (m : Nd) (kind : Int) (d : ByteArray) : Bool := addOk m.g m.term kind d
/-- With the entry, ahead of the letters. -/
def added (m : Nd) (kind : Int) (d : ByteArray) : Nd :=
  { m with g := { m.g with es := m.g.es ++ [ent m kind d] }, kept := keepL m.kept [ent m kind d], mat := m.mat.set m.id (ent m kind d).idx }
noncomputable def add (m : Nd) (kind : Int) (d : ByteArray) : (Nat × Int) × Nd :=
  if canAdd m kind d = true then (((ent m kind d).idx, 0), advance (beat (added m kind d))) else ((0, 1), m)
def leads (m : Nd) : Nd := { m with role := 2, leader := (m.id : Int), next := evens ((last m.g).1 + 1), mat := zeros }
noncomputable def lead (m : Nd) : Nd := if m.role = 1 ∧ maj (cfg m) m.votes = true then (add (leads m) 0 ByteArray.empty).2 else m
def mayStand (m : Nd) : Bool := has (cfg m ||| (members m.g m.commit).1) (m.id : Int)
def stands (m : Nd) : Nd := { m with role := 1, leader := -1, term := m.term + 1, vote := (m.id : Int), votes := 2 ^ m.id, reset := true }
def askOf (m : Nd) (to : Nat) : Msg := { blankM with k := 1, t := (to : Int), ix := (last m.g).1, pv := (last m.g).2 }
def askN (m : Nd) (to : Nat) : Nd := post m (askOf m to)
def asks (m : Nd) : Nd := (rest m).foldl askN m
noncomputable def timeout (m : Nd) : Nd := if m.role = 2 ∨ m.term = topN ∨ mayStand m = false then m else lead (asks (stands m))
noncomputable def propose (m : Nd) (d : ByteArray) : (Nat × Int) × Nd := if m.role = 2 then add m 1 d else ((0, 30), m)
def fresh (m : Nd) (ad : Bool) (i : Nat) : Nd := if ad = true then { m with next := m.next.set i ((last m.g).1 + 1), mat := m.mat.set i 0 } else m
def earlyN (m : Nd) : Bool := decide (m.commit < since m) || !ofTerm m m.commit
noncomputable def changes (m : Nd) (ad : Bool) (i : Int) : (Nat × Int) × Nd :=
  if m.role = 2 then
    if earlyN m = true then ((0, 31), m)
    else if (change (cfg m) ad i).2 = 0 then add (fresh m ad i.toNat) 2 (str (num (change (cfg m) ad i).1)) else ((0, (change (cfg m) ad i).2), m)
  else ((0, 30), m)
def compacts (m : Nd) (i : Nat) (d : ByteArray) : Int × Nd := if m.commit < i then (1, m) else ((compact m.g i d).1, { m with g := (compact m.g i d).2 })
def taken (m : Nd) : Nd := { m with kept := [], inst := false, out := [], reset := false }

/-! ### Letters that come -/
def hears (m : Nd) (x : Msg) : Bool := decide (1 ≤ x.k ∧ x.k ≤ 5 ∧ x.ix ≤ 4611686018427387904 ∧ x.t = (m.id : Int) ∧ x.f ≠ (m.id : Int)) && node x.f
def followN (m : Nd) (t : Nat) : Nd := if m.term < t then { retire m with term := t, vote := -1, leader := -1 } else retire m
def heard (m : Nd) (x : Msg) : Nd := if m.term < x.tm then followN m x.tm else m
def newer (m : Nd) (x : Msg) : Bool := decide ((last m.g).2 < x.pv) || (decide (x.pv = (last m.g).2) && decide ((last m.g).1 ≤ x.ix))
def grants (m : Nd) (x : Msg) : Bool := decide (x.tm = m.term) && (decide (m.role = 0) && ((decide (m.vote = -1) || decide (m.vote = x.f)) && newer m x))
def votesFor (m : Nd) (f : Int) : Nd := { m with vote := f, reset := true }
def asked (m : Nd) (x : Msg) : Nd := post (if grants m x = true then votesFor m x.f else m) { blankM with k := 2, t := x.f, ok := grants m x }
noncomputable def voted (m : Nd) (x : Msg) : Nd := if m.role = 1 ∧ x.tm = m.term ∧ x.ok = true then lead { m with votes := m.votes ||| 2 ^ x.f.toNat } else m
def reply (m : Nd) (to : Int) (ix : Nat) (ok : Bool) : Nd := post m { blankM with k := 4, t := to, ix := ix, ok := ok }
def before (m : Nd) (i : Nat) : Nat := if i = 0 ∨ i - 1 ≤ m.commit then m.commit else min (i - 1) (last m.g).1
def wild (x : Msg) : Bool := x.es.any fun e => decide (x.tm < e.term)
def aheadN (x : Msg) : Nat := x.ix + x.es.length
def laid (m : Nd) (x : Msg) : Nd := { m with g := (merge m.g x.ix x.pv x.es).2, kept := keepL m.kept (merge m.g x.ix x.pv x.es).1.1, commit := max m.commit (min x.cm (aheadN x)) }
def merged (m : Nd) (x : Msg) : Nd :=
  if wild x = true then m
  else if (merge m.g x.ix x.pv x.es).1.2 = true then reply (laid m x) x.f (aheadN x) true else reply m x.f (before m x.ix) false
def snapOf (x : Msg) : Snap := ⟨x.ix, x.pv, x.cm, x.d⟩
def installs (m : Nd) (x : Msg) : Nd := { m with g := (install m.g (snapOf x)).2, commit := x.ix, inst := true, kept := [] }
def laysDown (m : Nd) (x : Msg) : Nd :=
  if m.commit < x.ix then (if x.tm < x.pv ∨ (install m.g (snapOf x)).1 ≠ 0 then m else reply (installs m x) x.f x.ix true)
  else reply m x.f x.ix true
def hearsOf (m : Nd) (x : Msg) : Nd := { followN m x.tm with leader := x.f, reset := true }
def writtenN (m : Nd) (x : Msg) : Nd :=
  if x.tm < m.term then reply m x.f 0 false
  else if m.role = 2 then m
  else if x.k = 3 then merged (hearsOf m x) x else laysDown (hearsOf m x) x
def retry (m : Nd) (x : Msg) : Nd := { m with next := m.next.set x.f.toNat (max (told m.mat x.f.toNat) (min x.ix (last m.g).1) + 1) }
def has2 (m : Nd) (x : Msg) : Nat := max (told m.mat x.f.toNat) x.ix
def hasIt (m : Nd) (x : Msg) : Nd := { m with mat := m.mat.set x.f.toNat (has2 m x), next := m.next.set x.f.toNat (max (told m.next x.f.toNat) (has2 m x + 1)) }
/-- Is there more for it? la: the last index ahead of the advance. -/
def more (m : Nd) (f : Nat) (la : Nat) : Bool := decide (m.role = 2) && (decide (told m.next f ≤ la) && has (cfg m) (f : Int))
def onward (m : Nd) (f : Nat) : Nd := { m with next := m.next.set f (told m.mat f + 1) }
noncomputable def answered (m : Nd) (x : Msg) : Nd :=
  if m.role = 2 ∧ x.tm = m.term then
    if x.ok = true then
      if (last m.g).1 < x.ix then m
      else if more (advance (hasIt m x)) x.f.toNat (last m.g).1 = true then write (onward (advance (hasIt m x)) x.f.toNat) x.f.toNat else advance (hasIt m x)
    else write (retry m x) x.f.toNat
  else m
noncomputable def handles (m : Nd) (x : Msg) : Nd :=
  if x.k = 1 then asked m x else if x.k = 2 then voted m x else if x.k = 4 then answered m x else writtenN m x
noncomputable def receive (m : Nd) (x : Msg) : Nd := if hears m x = true then handles (heard m x) x else m
end Go.Proofs.Ytdbmpfongfiagaa.Nod
