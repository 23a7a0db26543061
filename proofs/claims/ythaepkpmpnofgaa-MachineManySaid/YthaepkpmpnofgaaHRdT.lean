/- A table read from bytes: plain mathematics; a table and a reader beside each other. No statement is proved here. -/
import Derived.Test.YthaepkpmpnofgaaHSesB
import Derived.Test.YthaepkpmpnofgaaHSsnWalkA
set_option linter.unusedVariables false
set_option linter.unusedSimpArgs false
namespace Go.Proofs.Ythaepkpmpnofgaa.RdT
open Go.RowKit Go.Proofs.Ythaepkpmpnofgaa.Kit Go.Proofs.Ythaepkpmpnofgaa.Rdr Go.Proofs.Ythaepkpmpnofgaa.Ses Go.Proofs.Ythaepkpmpnofgaa.Rws Go.Proofs.Ythaepkpmpnofgaa.SesB Go.Proofs.Ythaepkpmpnofgaa.Wtr Go.Proofs.Ythaepkpmpnofgaa.SsnWalkA
open Go.Proofs.Ythaepkpmpnofgaa.Num (num)
open Go.Proofs.Ythaepkpmpnofgaa.PckWalkC (gotB gotB_lt)
open Go.Proofs.Ythaepkpmpnofgaa.PckWalkE (upV)
open Go.Proofs.Ythaepkpmpnofgaa.PckWalkH (str)

/-! ### Reading -/
def rRow (r : Rd) : Rw := ⟨gotB r.s, gotB r.num.s, gotB r.num.num.s, ⟨(upV r.num.num.num.s 52 : Nat), gotB (r.num.num.num.up 52).s, gotB (r.num.num.num.up 52).num.s⟩⟩
def rRowR (r : Rd) : Rd := (r.num.num.num.up 52).num.num
def rAt : Nat → Rd → Rd
  | 0, r => r
  | k + 1, r => rRowR (rAt k r)
def rRows : Nat → Rd → List Rw
  | 0, _ => []
  | k + 1, r => rRows k r ++ [rRow (rAt k r)]
theorem rRows_length : ∀ (k : Nat) (r : Rd), (rRows k r).length = k
  | 0, _ => rfl
  | k + 1, r => by simp [rRows, rRows_length k r]
def rN (r : Rd) : Nat := upV r.num.num.s 16
def r3 (r : Rd) : Rd := r.num.num.up 16
def rTb (r : Rd) : Tb := ⟨gotB r.s, gotB r.num.s, rRows (rN r) (r3 r)⟩
def rEnd (r : Rd) : Rd := rAt (rN r) (r3 r)
theorem rRowR_le (r : Rd) : (rRowR r).s.size ≤ r.s.size := by
  unfold rRowR
  have h1 := Rd.num_le r
  have h2 := Rd.num_le r.num
  have h3 := Rd.num_le r.num.num
  have h4 := Rd.up_le r.num.num.num 52
  have h5 := Rd.num_le (r.num.num.num.up 52)
  have h6 := Rd.num_le (r.num.num.num.up 52).num
  omega
theorem rAt_le : ∀ (k : Nat) (r : Rd), (rAt k r).s.size ≤ r.s.size
  | 0, _ => Nat.le_refl _
  | k + 1, r => Nat.le_trans (rRowR_le _) (rAt_le k r)
theorem rN_le (r : Rd) : rN r ≤ 16 := by
  have := upV_nat r.num.num.s (k := 16) (by decide)
  unfold rN
  omega
theorem rRow_fine (r : Rd) : Fine (rRow r) := ⟨gotB_lt _, gotB_lt _, gotB_lt _, gotB_lt _, gotB_lt _⟩
theorem rRows_fine : ∀ (k : Nat) (r : Rd), ∀ x ∈ rRows k r, Fine x
  | 0, _, x, h => by simp [rRows] at h
  | k + 1, r, x, h => by
    rcases List.mem_append.1 h with h | h
    · exact rRows_fine k r x h
    · simp at h; subst h; exact rRow_fine _
theorem rRow_err (r : Rd) : 0 ≤ (rRow r).y.err ∧ (rRow r).y.err ≤ 52 := by
  have := upV_nat r.num.num.num.s (k := 52) (by decide)
  exact ⟨by show (0 : Int) ≤ (upV r.num.num.num.s 52 : Nat); omega, this⟩
theorem rRows_err : ∀ (k : Nat) (r : Rd), ∀ x ∈ rRows k r, 0 ≤ x.y.err ∧ x.y.err ≤ 52
  | 0, _, x, h => by simp [rRows] at h
  | k + 1, r, x, h => by
    rcases List.mem_append.1 h with h | h
    · exact rRows_err k r x h
    · simp at h; subst h; exact rRow_err _

/-! ### Soundness -/
def okRow (now next a : Nat) (r : Rw) : Bool := decide (a < r.id) && decide (r.id < next) && decide (r.used ≤ now) && decide (now - r.used ≤ 1000)
def sndL (now next : Nat) : Nat → List Rw → Bool
  | _, [] => true
  | a, r :: l => okRow now next a r && sndL now next r.id l
def snd (m : Tb) : Bool := decide (m.next ≠ 0) && sndL m.now m.next 0 m.rows
theorem okRow_iff {now next a : Nat} {r : Rw} : okRow now next a r = true ↔ a < r.id ∧ r.id < next ∧ r.used ≤ now ∧ now - r.used ≤ 1000 := by
  unfold okRow
  simp only [Bool.and_eq_true, decide_eq_true_eq, and_assoc]
theorem snd_iff {now next : Nat} : ∀ {a : Nat} {l : List Rw}, sndL now next a l = true ↔ Grows next a l ∧ ∀ r ∈ l, r.used ≤ now ∧ now - r.used ≤ 1000
  | a, [] => by simp [sndL, Grows]
  | a, r :: l => by
    unfold sndL Grows
    rw [Bool.and_eq_true, okRow_iff, snd_iff]
    simp only [List.mem_cons, forall_eq_or_imp]
    constructor
    · rintro ⟨⟨h1, h2, h3, h4⟩, h5, h6⟩; exact ⟨⟨h1, h2, h5⟩, ⟨h3, h4⟩, h6⟩
    · rintro ⟨⟨h1, h2, h5⟩, ⟨h3, h4⟩, h6⟩; exact ⟨⟨h1, h2, h3, h4⟩, h5, h6⟩
/-- What was read and found sound is a table. -/
theorem read_sane (r : Rd) (h : snd (rTb r) = true) : Sane (rTb r) := by
  unfold snd at h
  rw [Bool.and_eq_true, decide_eq_true_eq] at h
  obtain ⟨h0, h1⟩ := h
  obtain ⟨h2, h3⟩ := snd_iff.1 h1
  refine ⟨gotB_lt _, gotB_lt _, Nat.pos_of_ne_zero h0, ?_, h2, fun x hx => ?_⟩
  · show (rRows _ _).length ≤ 16
    rw [rRows_length]
    exact rN_le r
  · have hf := rRows_fine _ _ x hx
    have he := rRows_err _ _ x hx
    exact ⟨(h3 x hx).1, (h3 x hx).2, hf.seq, by omega, by omega, hf.num, hf.ext⟩
theorem sane_snd {m : Tb} (h : Sane m) : snd m = true := by
  unfold snd
  rw [Bool.and_eq_true, decide_eq_true_eq]
  exact ⟨by have := h.pos; omega, snd_iff.2 ⟨h.grows, fun r hr => ⟨(h.fits r hr).1, (h.fits r hr).2.1⟩⟩⟩

/-! ### A table beside a reader -/
structure Tk (TR : TypeId) (TT : Shape) (E : TypeId) (w0 W0 W : World) (q p : Nat) (v : Value) (m : Tb) (r : Rd) : Prop where
  rd : Rds TR w0 W q r
  tb : TAt W0.heap.size TT E W p v m
  only : State.Only (· = q) W0 W
  lq : q < W0.heap.size
section
variable {TR : TypeId} {TT : Shape} {E : TypeId} {w0 W0 W W' : World} {q p : Nat} {v : Value} {m m' : Tb} {r r' : Rd}
theorem only_b {S : Nat → Prop} (h : State.Only S W W') : Blocks.Only S W W' := ⟨h.os, h.tape, h.output, h.size, h.block⟩
theorem only_s {S : Nat → Prop} (h : Blocks.Only S W W') : State.Only S W W' := ⟨h.os, h.tape, h.output, h.size, h.block⟩
/-- A call on the reader. -/
theorem Tk.ran (d : Tk TR TT E w0 W0 W q p v m r) (hr : Rds TR w0 W' q r') (ho : State.Only (· = q) W W') : Tk TR TT E w0 W0 W' q p v m r' := by
  have lq := d.lq
  exact ⟨hr, d.tb.keep (only_b ho) fun g hg e => by have := (d.tb.mine_lt hg).1; omega, d.only.trans ho, lq⟩
/-- The table is changed. -/
theorem Tk.left (d : Tk TR TT E w0 W0 W q p v m r) (k : LeftT W0.heap.size TT E W p v m' W') : ∃ v', Tk TR TT E w0 W0 W' q p v' m' r := by
  have lq := d.lq
  have hmine := fun g => d.tb.mine_lt (g := g)
  obtain ⟨v', ht, o, f⟩ := k
  have hsz := d.only.size
  refine ⟨v', ⟨⟨d.rd.at_.keep (only_s o) fun e => by have := (hmine q e).1; omega, d.rd.low, d.rd.bel.trans (o.below d.rd.bel.size fun g hg => ?_)⟩, ht, ?_, lq⟩⟩
  · have := (hmine g hg).1
    have := d.rd.low
    omega
  · exact ⟨o.os.trans d.only.os, o.tape.trans d.only.tape, o.output.trans d.only.output, Nat.le_trans hsz o.size, fun k hk hn => (o.block k (by omega) fun e => by have := (hmine k e).1; omega).trans (d.only.block k hk hn)⟩
theorem Tk.below (d : Tk TR TT E w0 W0 W q p v m r) (k : Below W.heap.size W W') : Tk TR TT E w0 W0 W' q p v m r :=
  ⟨d.rd.below k, d.tb.below k, d.only.trans (State.Only.of_below k), d.lq⟩
end
abbrev Tp (w0 W0 W : World) (q p : Nat) (v : Value) (m : Tb) (r : Rd) : Prop := Tk 96 ⟨79, []⟩ 85 w0 W0 W q p v m r
end Go.Proofs.Ythaepkpmpnofgaa.RdT
