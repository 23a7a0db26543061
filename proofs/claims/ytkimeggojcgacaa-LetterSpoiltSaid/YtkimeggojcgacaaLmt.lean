/- A letter's bytes, and what any bytes say as one: plain mathematics. No statement is proved here. -/
import Derived.Test.YtkimeggojcgacaaReads
import Derived.Test.YtkimeggojcgacaaLtr
set_option linter.unusedVariables false
set_option linter.unusedSimpArgs false
namespace Go.Proofs.Ytkimeggojcgacaa.Lmt
open Go.RowKit Go.Proofs.Ytkimeggojcgacaa.Kit Go.Proofs.Ytkimeggojcgacaa.Num Go.Proofs.Ytkimeggojcgacaa.Ltr Go.Proofs.Ytkimeggojcgacaa.Reads
open Go.Proofs.Ytkimeggojcgacaa.PckWalkB (text bit)
open Go.Proofs.Ytkimeggojcgacaa.PckWalkH (str str_list str_back str_size str_append)
open Go.Proofs.Ytkimeggojcgacaa.PckWalkC (frontB gotB restB gotB_lt)
open Go.Proofs.Ytkimeggojcgacaa.PckWalkD (badB restB_le)
open Go.Proofs.Ytkimeggojcgacaa.PckWalkE (upOk upV upR upB textOk textV textR textB truth upR_le)

/-! ### A reader -/
structure Rd where
  s : ByteArray
  bad : Bool
def Rd.num (r : Rd) : Rd := ⟨restB r.s, badB r.s r.bad⟩
def Rd.up (r : Rd) (k : Int) : Rd := ⟨upR r.s k, upB r.s r.bad k⟩
def Rd.text (r : Rd) (k : Int) : Rd := ⟨textR r.s k, textB r.s r.bad k⟩
def Rd.done (r : Rd) : Bool := decide (r.s.size = 0) && !r.bad
theorem textR_le (s : ByteArray) (k : Int) : (textR s k).size ≤ s.size := by
  unfold textR
  split
  · have := upR_le s k
    rw [ByteArray.size_extract]; omega
  · simp
theorem Rd.num_le (r : Rd) : r.num.s.size ≤ r.s.size := restB_le _
theorem Rd.up_le (r : Rd) (k : Int) : (r.up k).s.size ≤ r.s.size := upR_le _ _
theorem Rd.text_le (r : Rd) (k : Int) : (r.text k).s.size ≤ r.s.size := textR_le _ _

/-! ### Forward: what was laid is read -/
theorem num_go {x : Nat} (h : x < 18446744073709551616) (r : List UInt8) (b : Bool) : Rd.num ⟨str (num x ++ r), b⟩ = ⟨str r, b⟩ := by
  unfold Rd.num
  rw [rest_laid h, bad_laid h]
theorem up_go {x : Nat} (h : x < 18446744073709551616) (r : List UInt8) (b : Bool) {k : Int} (hk : (x : Int) ≤ k) : Rd.up ⟨str (num x ++ r), b⟩ k = ⟨str r, b⟩ := by
  unfold Rd.up
  rw [upR_laid h r hk, upB_laid h r hk]
theorem text_go {s : ByteArray} (h : s.size < 18446744073709551616) (r : List UInt8) (b : Bool) {k : Int} (hk : (s.size : Int) ≤ k) : Rd.text ⟨str (text s ++ r), b⟩ k = ⟨str r, b⟩ := by
  unfold Rd.text
  rw [textR_laid h r hk, textB_laid h r hk]

/-! ### Backward: what was read had been laid -/
def Rd.l (r : Rd) : List UInt8 := r.s.data.toList
theorem Rd.eta (r : Rd) : r = ⟨str r.l, r.bad⟩ := by
  obtain ⟨s, b⟩ := r
  unfold Rd.l
  rw [str_back]
theorem num_back (r : Rd) (h : r.num.bad = false) : r.bad = false ∧ r.l = num (gotB r.s) ++ r.num.l := by
  obtain ⟨s, b⟩ := r
  obtain ⟨l, rfl⟩ : ∃ l, s = str l := ⟨_, (str_back s).symm⟩
  simp only [Rd.num, badB, Bool.or_eq_false_iff, decide_eq_false_iff_not] at h
  obtain ⟨hb, hf⟩ := h
  refine ⟨hb, ?_⟩
  have hf' : front l ≠ 0 := by unfold frontB at hf; rwa [str_list] at hf
  have h1 := num_got hf'
  unfold Rd.l Rd.num gotB
  simp only
  rw [restB_str, str_list, str_list, h1]
  unfold rest
  rw [if_neg hf', List.take_append_drop]
theorem up_back (r : Rd) (k : Int) (h : (r.up k).bad = false) : r.bad = false ∧ (upV r.s k : Int) ≤ k ∧ r.l = num (upV r.s k) ++ (r.up k).l := by
  simp only [Rd.up, upB] at h
  split at h
  · rename_i hk
    obtain ⟨h1, h2⟩ := num_back r h
    have hle : (gotB r.s : Int) ≤ k := by unfold upOk at hk; simpa using (of_decide_eq_true hk).2
    refine ⟨h1, ?_, ?_⟩
    · unfold upV; rw [if_pos hk]; exact hle
    · unfold upV
      rw [if_pos hk, h2]
      congr 1
      unfold Rd.l Rd.num Rd.up upR
      simp only
      rw [if_pos hk]
  · cases h
theorem text_back (r : Rd) (k : Int) (h : (r.text k).bad = false) : r.bad = false ∧ ((textV r.s k).size : Int) ≤ k ∧ r.l = text (textV r.s k) ++ (r.text k).l := by
  simp only [Rd.text, textB] at h
  split at h
  · rename_i hk
    obtain ⟨h1, h2, h3⟩ := up_back r k h
    have hle : upV r.s k ≤ (upR r.s k).size := by unfold textOk at hk; simpa using hk
    obtain ⟨l, hl⟩ : ∃ l, upR r.s k = str l := ⟨_, (str_back _).symm⟩
    rw [hl, str_size] at hle
    have hv : textV r.s k = str (l.take (upV r.s k)) := by unfold textV; rw [if_pos hk, hl, extract_str, List.drop_zero, Nat.sub_zero]
    have hr : textR r.s k = str (l.drop (upV r.s k)) := by unfold textR; rw [if_pos hk, hl, extract_str, str_size, List.take_of_length_le (by rw [List.length_drop]; omega)]
    have hsz : (textV r.s k).size = upV r.s k := by rw [hv, str_size, List.length_take]; omega
    refine ⟨h1, by rw [hsz]; exact h2, ?_⟩
    rw [h3]
    unfold text
    rw [hsz, List.append_assoc]
    congr 1
    unfold Rd.l Rd.up Rd.text
    simp only
    rw [hl, hv, hr, str_list, str_list, str_list, List.take_append_drop]
  · cases h
theorem upV_nat (s : ByteArray) {k : Int} (hk : 0 ≤ k) : (upV s k : Int) ≤ k := by
  unfold upV
  split
  · rename_i h
    unfold upOk at h
    simpa using (of_decide_eq_true h).2
  · simpa using hk
theorem textV_le (s : ByteArray) {k : Int} (hk : 0 ≤ k) : ((textV s k).size : Int) ≤ k := by
  have h := upV_nat s hk
  unfold textV
  split
  · rw [ByteArray.size_extract]; omega
  · simpa using hk
theorem upV_u64 (s : ByteArray) (k : Int) : upV s k < 18446744073709551616 := by
  unfold upV
  split
  · exact gotB_lt s
  · decide

/-! ### An entry -/
def rEnt (r : Rd) : Ent := ⟨(gotB r.s : Nat), (gotB r.num.s : Nat), (upV r.num.num.s 2 : Nat), textV (r.num.num.up 2).s 65536⟩
def rEntR (r : Rd) : Rd := (r.num.num.up 2).text 65536
def rAt : Nat → Rd → Rd
  | 0, r => r
  | k + 1, r => rEntR (rAt k r)
def rEs : Nat → Rd → List Ent
  | 0, _ => []
  | k + 1, r => rEs k r ++ [rEnt (rAt k r)]
theorem rAt_front (k : Nat) (r : Rd) : rAt (k + 1) r = rAt k (rEntR r) := by
  induction k with
  | zero => rfl
  | succ k ih => show rEntR (rAt (k + 1) r) = rEntR (rAt k (rEntR r)); rw [ih]
theorem rEs_front (k : Nat) (r : Rd) : rEs (k + 1) r = rEnt r :: rEs k (rEntR r) := by
  induction k with
  | zero => rfl
  | succ k ih =>
    show rEs (k + 1) r ++ [rEnt (rAt (k + 1) r)] = _ :: (rEs k (rEntR r) ++ [rEnt (rAt k (rEntR r))])
    rw [ih, rAt_front, List.cons_append]
theorem rEs_length (k : Nat) (r : Rd) : (rEs k r).length = k := by
  induction k with
  | zero => rfl
  | succ k ih => show (rEs k r ++ [_]).length = _; rw [List.length_append, ih]; rfl
theorem rEntR_le (r : Rd) : (rEntR r).s.size ≤ r.s.size := Nat.le_trans (Rd.text_le _ _) (Nat.le_trans (Rd.up_le _ _) (Nat.le_trans (Rd.num_le _) (Rd.num_le _)))
theorem rAt_le (k : Nat) (r : Rd) : (rAt k r).s.size ≤ r.s.size := by
  induction k with
  | zero => exact Nat.le_refl _
  | succ k ih => exact Nat.le_trans (rEntR_le _) ih

/-- An entry's bytes. -/
def entB (e : Ent) : List UInt8 := num e.term.toNat ++ (num e.idx.toNat ++ (num e.kind.toNat ++ text e.data))
def entsB (l : List Ent) : List UInt8 := l.flatMap entB
/-- An entry lies in memory. -/
structure EIn (e : Ent) : Prop where
  t0 : 0 ≤ e.term
  t1 : e.term < 18446744073709551616
  i0 : 0 ≤ e.idx
  i1 : e.idx < 18446744073709551616
/-- An entry that may be. -/
def EMay (e : Ent) : Prop := 0 ≤ e.kind ∧ e.kind ≤ 2 ∧ e.data.size ≤ 65536
theorem rEnt_in (r : Rd) : EIn (rEnt r) := by
  have h1 := gotB_lt r.s
  have h2 := gotB_lt r.num.s
  refine ⟨?_, ?_, ?_, ?_⟩ <;> simp only [rEnt] <;> omega
theorem rEnt_may (r : Rd) : EMay (rEnt r) := by
  have h1 := upV_nat r.num.num.s (k := 2) (by decide)
  have h2 := textV_le (r.num.num.up 2).s (k := 65536) (by decide)
  refine ⟨?_, ?_, ?_⟩ <;> simp only [rEnt] <;> omega
theorem rEs_in (k : Nat) (r : Rd) : ∀ e ∈ rEs k r, EIn e ∧ EMay e := by
  induction k with
  | zero => intro e he; cases he
  | succ k ih =>
    intro e he
    rcases List.mem_append.1 he with he | he
    · exact ih e he
    · rw [List.mem_singleton.1 he]; exact ⟨rEnt_in _, rEnt_may _⟩
theorem ent_go {e : Ent} (h : EIn e) (hm : EMay e) (r : List UInt8) (b : Bool) : rEnt ⟨str (entB e ++ r), b⟩ = e ∧ rEntR ⟨str (entB e ++ r), b⟩ = ⟨str r, b⟩ := by
  obtain ⟨tm, ix, kd, d⟩ := e
  obtain ⟨t0, t1, i0, i1⟩ := h
  obtain ⟨k0, k1, hd⟩ := hm
  simp only at t0 t1 i0 i1 k0 k1 hd
  obtain ⟨t, rfl⟩ := Int.eq_ofNat_of_zero_le t0
  obtain ⟨i, rfl⟩ := Int.eq_ofNat_of_zero_le i0
  obtain ⟨k, rfl⟩ := Int.eq_ofNat_of_zero_le k0
  have ht : t < 18446744073709551616 := by omega
  have hi : i < 18446744073709551616 := by omega
  have hk : k < 18446744073709551616 := by omega
  have hs : d.size < 18446744073709551616 := by omega
  have e0 : entB ⟨(t : Int), (i : Int), (k : Int), d⟩ ++ r = num t ++ (num i ++ (num k ++ (text d ++ r))) := by simp [entB, List.append_assoc]
  rw [e0]
  have g1 := num_go ht (num i ++ (num k ++ (text d ++ r))) b
  have g2 := num_go hi (num k ++ (text d ++ r)) b
  have g3 := up_go hk (text d ++ r) b (k := 2) k1
  have g4 := text_go hs r b (k := 65536) (by omega)
  constructor
  · simp only [rEnt]
    rw [g1, g2, g3]
    simp only
    rw [got_laid ht, got_laid hi, upV_laid hk _ k1, textV_laid hs _ (by omega)]
  · unfold rEntR
    rw [g1, g2, g3, g4]
theorem ents_go (l : List Ent) (h : ∀ e ∈ l, EIn e ∧ EMay e) (r : List UInt8) (b : Bool) : rEs l.length ⟨str (entsB l ++ r), b⟩ = l ∧ rAt l.length ⟨str (entsB l ++ r), b⟩ = ⟨str r, b⟩ := by
  induction l with
  | nil => exact ⟨rfl, rfl⟩
  | cons e l ih =>
    have he := h e (List.mem_cons_self)
    have e0 : entsB (e :: l) ++ r = entB e ++ (entsB l ++ r) := by simp [entsB, List.append_assoc]
    obtain ⟨g1, g2⟩ := ent_go he.1 he.2 (entsB l ++ r) b
    obtain ⟨g3, g4⟩ := ih fun x hx => h x (List.mem_cons_of_mem _ hx)
    rw [List.length_cons, rEs_front, rAt_front, e0, g1, g2, g3, g4]
    exact ⟨rfl, rfl⟩
theorem ent_back (r : Rd) (h : (rEntR r).bad = false) : r.bad = false ∧ r.l = entB (rEnt r) ++ (rEntR r).l := by
  obtain ⟨h1, _, l1⟩ := text_back _ _ h
  obtain ⟨h2, _, l2⟩ := up_back _ _ h1
  obtain ⟨h3, l3⟩ := num_back _ h2
  obtain ⟨h4, l4⟩ := num_back _ h3
  refine ⟨h4, ?_⟩
  rw [l4, l3, l2, l1]
  simp only [entB, rEnt, Int.toNat_natCast, List.append_assoc]
  rfl
theorem ents_back (k : Nat) (r : Rd) (h : (rAt k r).bad = false) : r.bad = false ∧ r.l = entsB (rEs k r) ++ (rAt k r).l := by
  induction k with
  | zero => exact ⟨h, rfl⟩
  | succ k ih =>
    obtain ⟨h1, l1⟩ := ent_back _ h
    obtain ⟨h2, l2⟩ := ih h1
    refine ⟨h2, ?_⟩
    rw [l2, l1]
    show _ = entsB (rEs k r ++ [rEnt (rAt k r)]) ++ (rEntR (rAt k r)).l
    simp [entsB, List.append_assoc]

/-! ### A letter -/
def q0 (s : ByteArray) : Rd := ⟨s, false⟩
def q1 (s : ByteArray) : Rd := (q0 s).up 9
def q2 (s : ByteArray) : Rd := (q1 s).up 255
def q3 (s : ByteArray) : Rd := (q2 s).up 255
def q4 (s : ByteArray) : Rd := (q3 s).num
def q5 (s : ByteArray) : Rd := (q4 s).num
def q6 (s : ByteArray) : Rd := (q5 s).num
def q7 (s : ByteArray) : Rd := (q6 s).num
def q8 (s : ByteArray) : Rd := (q7 s).up 1
def q9 (s : ByteArray) : Rd := (q8 s).up 8
def cnt (s : ByteArray) : Nat := upV (q8 s).s 8
def qA (s : ByteArray) : Rd := rAt (cnt s) (q9 s)
def qB (s : ByteArray) : Rd := (qA s).text 65536
def hd (s : ByteArray) : Hd := ⟨(upV (q0 s).s 9 : Nat), (upV (q1 s).s 255 : Nat), (upV (q2 s).s 255 : Nat), (gotB (q3 s).s : Nat), (gotB (q4 s).s : Nat), (gotB (q5 s).s : Nat), (gotB (q6 s).s : Nat), truth (q7 s).s, textV (qA s).s 65536⟩
def es (s : ByteArray) : List Ent := rEs (cnt s) (q9 s)
theorem es_length (s : ByteArray) : (es s).length = cnt s := rEs_length _ _
theorem q_le (s : ByteArray) : (q1 s).s.size ≤ s.size ∧ (q2 s).s.size ≤ s.size ∧ (q3 s).s.size ≤ s.size ∧ (q4 s).s.size ≤ s.size ∧ (q5 s).s.size ≤ s.size ∧ (q6 s).s.size ≤ s.size ∧ (q7 s).s.size ≤ s.size ∧ (q8 s).s.size ≤ s.size ∧ (q9 s).s.size ≤ s.size ∧ (qA s).s.size ≤ s.size := by
  have h1 : (q1 s).s.size ≤ s.size := Rd.up_le (q0 s) 9
  have h2 := Rd.up_le (q1 s) 255
  have h3 := Rd.up_le (q2 s) 255
  have h4 := Rd.num_le (q3 s)
  have h5 := Rd.num_le (q4 s)
  have h6 := Rd.num_le (q5 s)
  have h7 := Rd.num_le (q6 s)
  have h8 := Rd.up_le (q7 s) 1
  have h9 := Rd.up_le (q8 s) 8
  have hA := rAt_le (cnt s) (q9 s)
  change (q2 s).s.size ≤ _ at h2
  change (q3 s).s.size ≤ _ at h3
  change (q4 s).s.size ≤ _ at h4
  change (q5 s).s.size ≤ _ at h5
  change (q6 s).s.size ≤ _ at h6
  change (q7 s).s.size ≤ _ at h7
  change (q8 s).s.size ≤ _ at h8
  change (q9 s).s.size ≤ _ at h9
  change (qA s).s.size ≤ _ at hA
  omega

/-- What a letter says lies in memory. -/
structure HIn (h : Hd) : Prop where
  tm0 : 0 ≤ h.tm
  tm1 : h.tm < 18446744073709551616
  ix0 : 0 ≤ h.ix
  ix1 : h.ix < 18446744073709551616
  pv0 : 0 ≤ h.pv
  pv1 : h.pv < 18446744073709551616
  cm0 : 0 ≤ h.cm
  cm1 : h.cm < 18446744073709551616
/-- The limits that reading holds. -/
structure Lim (h : Hd) (es : List Ent) : Prop where
  k0 : 0 ≤ h.k
  k1 : h.k ≤ 9
  f0 : 0 ≤ h.f
  f1 : h.f ≤ 255
  t0 : 0 ≤ h.t
  t1 : h.t ≤ 255
  n : es.length ≤ 8
  d : h.d.size ≤ 65536
  e : ∀ e ∈ es, EMay e
/-- A letter that may be. -/
def May (h : Hd) (es : List Ent) : Prop := Lim h es ∧ 1 ≤ h.k ∧ (h.k ≠ 3 → es.length = 0)
def headB (h : Hd) (n : Nat) : List UInt8 := num h.k.toNat ++ (num h.f.toNat ++ (num h.t.toNat ++ (num h.tm.toNat ++ (num h.ix.toNat ++ (num h.pv.toNat ++ (num h.cm.toNat ++ (num (bit h.ok) ++ num n)))))))
/-- A letter's bytes. -/
def lmtB (h : Hd) (es : List Ent) : List UInt8 := headB h es.length ++ (entsB es ++ text h.d)
theorem lmtB_tail (h : Hd) (es : List Ent) (r : List UInt8) : lmtB h es ++ r = num h.k.toNat ++ (num h.f.toNat ++ (num h.t.toNat ++ (num h.tm.toNat ++ (num h.ix.toNat ++ (num h.pv.toNat ++ (num h.cm.toNat ++ (num (bit h.ok) ++ (num es.length ++ (entsB es ++ (text h.d ++ r)))))))))) := by
  simp [lmtB, headB, List.append_assoc]
theorem bit_lt (b : Bool) : bit b < 18446744073709551616 := by cases b <;> decide
theorem bit_le (b : Bool) : ((bit b : Nat) : Int) ≤ 1 := by cases b <;> decide
/-- What was laid is read. -/
theorem laid {h : Hd} {l : List Ent} (hin : HIn h) (ein : ∀ e ∈ l, EIn e) (lim : Lim h l) (r : List UInt8) : hd (str (lmtB h l ++ r)) = h ∧ es (str (lmtB h l ++ r)) = l ∧ qB (str (lmtB h l ++ r)) = ⟨str r, false⟩ := by
  obtain ⟨k, f, t, tm, ix, pv, cm, ok, d⟩ := h
  obtain ⟨tm0, tm1, ix0, ix1, pv0, pv1, cm0, cm1⟩ := hin
  obtain ⟨k0, k1, f0, f1, t0, t1, hn, hd', he⟩ := lim
  simp only at *
  obtain ⟨k, rfl⟩ := Int.eq_ofNat_of_zero_le k0
  obtain ⟨f, rfl⟩ := Int.eq_ofNat_of_zero_le f0
  obtain ⟨t, rfl⟩ := Int.eq_ofNat_of_zero_le t0
  obtain ⟨tm, rfl⟩ := Int.eq_ofNat_of_zero_le tm0
  obtain ⟨ix, rfl⟩ := Int.eq_ofNat_of_zero_le ix0
  obtain ⟨pv, rfl⟩ := Int.eq_ofNat_of_zero_le pv0
  obtain ⟨cm, rfl⟩ := Int.eq_ofNat_of_zero_le cm0
  rw [lmtB_tail]
  simp only [Int.toNat_natCast]
  have b1 : k < 18446744073709551616 := by omega
  have b2 : f < 18446744073709551616 := by omega
  have b3 : t < 18446744073709551616 := by omega
  have b4 : tm < 18446744073709551616 := by omega
  have b5 : ix < 18446744073709551616 := by omega
  have b6 : pv < 18446744073709551616 := by omega
  have b7 : cm < 18446744073709551616 := by omega
  have b9 : l.length < 18446744073709551616 := by omega
  have bD : d.size < 18446744073709551616 := by omega
  obtain ⟨sB, hB⟩ : ∃ x, text d ++ r = x := ⟨_, rfl⟩
  obtain ⟨sA, hA⟩ : ∃ x, entsB l ++ sB = x := ⟨_, rfl⟩
  obtain ⟨s9, h9⟩ : ∃ x, num l.length ++ sA = x := ⟨_, rfl⟩
  obtain ⟨s8, h8⟩ : ∃ x, num (bit ok) ++ s9 = x := ⟨_, rfl⟩
  obtain ⟨s7, h7⟩ : ∃ x, num cm ++ s8 = x := ⟨_, rfl⟩
  obtain ⟨s6, h6⟩ : ∃ x, num pv ++ s7 = x := ⟨_, rfl⟩
  obtain ⟨s5, h5⟩ : ∃ x, num ix ++ s6 = x := ⟨_, rfl⟩
  obtain ⟨s4, h4⟩ : ∃ x, num tm ++ s5 = x := ⟨_, rfl⟩
  obtain ⟨s3, h3⟩ : ∃ x, num t ++ s4 = x := ⟨_, rfl⟩
  obtain ⟨s2, h2⟩ : ∃ x, num f ++ s3 = x := ⟨_, rfl⟩
  obtain ⟨s1, h1⟩ : ∃ x, num k ++ s2 = x := ⟨_, rfl⟩
  rw [hB, hA, h9, h8, h7, h6, h5, h4, h3, h2, h1]
  have g0 : q0 (str s1) = ⟨str (num k ++ s2), false⟩ := by rw [h1]; rfl
  have g1 : q1 (str s1) = ⟨str (num f ++ s3), false⟩ := by unfold q1; rw [g0, up_go b1 _ _ k1, h2]
  have g2 : q2 (str s1) = ⟨str (num t ++ s4), false⟩ := by unfold q2; rw [g1, up_go b2 _ _ f1, h3]
  have g3 : q3 (str s1) = ⟨str (num tm ++ s5), false⟩ := by unfold q3; rw [g2, up_go b3 _ _ t1, h4]
  have g4 : q4 (str s1) = ⟨str (num ix ++ s6), false⟩ := by unfold q4; rw [g3, num_go b4, h5]
  have g5 : q5 (str s1) = ⟨str (num pv ++ s7), false⟩ := by unfold q5; rw [g4, num_go b5, h6]
  have g6 : q6 (str s1) = ⟨str (num cm ++ s8), false⟩ := by unfold q6; rw [g5, num_go b6, h7]
  have g7 : q7 (str s1) = ⟨str (num (bit ok) ++ s9), false⟩ := by unfold q7; rw [g6, num_go b7, h8]
  have g8 : q8 (str s1) = ⟨str (num l.length ++ sA), false⟩ := by unfold q8; rw [g7, up_go (bit_lt ok) _ _ (bit_le ok), h9]
  have g9 : q9 (str s1) = ⟨str (entsB l ++ sB), false⟩ := by unfold q9; rw [g8, up_go b9 _ _ (by omega), hA]
  have gc : cnt (str s1) = l.length := by unfold cnt; rw [g8]; exact upV_laid b9 _ (by omega)
  obtain ⟨e1, e2⟩ := ents_go l (fun e h => ⟨ein e h, he e h⟩) sB false
  have gA : qA (str s1) = ⟨str (text d ++ r), false⟩ := by unfold qA; rw [gc, g9, e2, hB]
  have gB : qB (str s1) = ⟨str r, false⟩ := by unfold qB; rw [gA, text_go bD _ _ (by omega)]
  refine ⟨?_, by unfold es; rw [gc, g9, e1], gB⟩
  have hok : truth (str (num (bit ok) ++ s9)) = ok := by
    unfold truth
    rw [upV_laid (bit_lt ok) _ (bit_le ok)]
    cases ok <;> rfl
  unfold hd
  rw [g0, g1, g2, g3, g4, g5, g6, g7, gA]
  simp only
  rw [upV_laid b1 _ k1, upV_laid b2 _ f1, upV_laid b3 _ t1, got_laid b4, got_laid b5, got_laid b6, got_laid b7, textV_laid bD _ (by omega), hok]
theorem hd_in (s : ByteArray) : HIn (hd s) := by
  have h1 := gotB_lt (q3 s).s
  have h2 := gotB_lt (q4 s).s
  have h3 := gotB_lt (q5 s).s
  have h4 := gotB_lt (q6 s).s
  refine ⟨?_, ?_, ?_, ?_, ?_, ?_, ?_, ?_⟩ <;> simp only [hd] <;> omega
theorem es_in (s : ByteArray) : ∀ e ∈ es s, EIn e ∧ EMay e := rEs_in _ _
theorem lim_any (s : ByteArray) : Lim (hd s) (es s) := by
  have h1 := upV_nat (q0 s).s (k := 9) (by decide)
  have h2 := upV_nat (q1 s).s (k := 255) (by decide)
  have h3 := upV_nat (q2 s).s (k := 255) (by decide)
  have h4 := upV_nat (q8 s).s (k := 8) (by decide)
  have h5 := textV_le (qA s).s (k := 65536) (by decide)
  have h6 := es_length s
  have h7 : (cnt s : Int) ≤ 8 := h4
  refine ⟨?_, ?_, ?_, ?_, ?_, ?_, by omega, ?_, fun e h => (es_in s e h).2⟩ <;> simp only [hd] <;> omega
/-- What was read had been laid. -/
theorem back (s : ByteArray) (h : (qB s).done = true) : s = str (lmtB (hd s) (es s)) := by
  have hb : (qB s).bad = false ∧ (qB s).s.size = 0 := by
    unfold Rd.done at h
    simp only [Bool.and_eq_true, Bool.not_eq_true', decide_eq_true_eq] at h
    exact ⟨h.2, h.1⟩
  obtain ⟨hbad, hz⟩ := hb
  have hl : (qB s).l = [] := by
    unfold Rd.l
    have := Lib.size_eq (qB s).s
    exact List.eq_nil_of_length_eq_zero (by omega)
  obtain ⟨a1, _, l1⟩ := text_back (qA s) 65536 hbad
  obtain ⟨a2, l2⟩ := ents_back (cnt s) (q9 s) a1
  obtain ⟨a3, _, l3⟩ := up_back (q8 s) 8 a2
  obtain ⟨a4, _, l4⟩ := up_back (q7 s) 1 a3
  obtain ⟨a5, l5⟩ := num_back (q6 s) a4
  obtain ⟨a6, l6⟩ := num_back (q5 s) a5
  obtain ⟨a7, l7⟩ := num_back (q4 s) a6
  obtain ⟨a8, l8⟩ := num_back (q3 s) a7
  obtain ⟨a9, _, l9⟩ := up_back (q2 s) 255 a8
  obtain ⟨a10, _, l10⟩ := up_back (q1 s) 255 a9
  obtain ⟨a11, _, l11⟩ := up_back (q0 s) 9 a10
  have hbit : bit (truth (q7 s).s) = upV (q7 s).s 1 := by
    have h1 := upV_nat (q7 s).s (k := 1) (by decide)
    unfold truth
    rcases Nat.lt_or_ge (upV (q7 s).s 1) 1 with h0 | h0
    · rw [show upV (q7 s).s 1 = 0 by omega]; rfl
    · rw [show upV (q7 s).s 1 = 1 by omega]; rfl
  have ea : (qA s).l = text (textV (qA s).s 65536) ++ [] := by rw [l1]; exact congrArg _ hl
  have e9 : (q9 s).l = entsB (es s) ++ (qA s).l := l2
  have e8 : (q8 s).l = num (cnt s) ++ (q9 s).l := l3
  have e7 : (q7 s).l = num (bit (truth (q7 s).s)) ++ (q8 s).l := by rw [hbit]; exact l4
  have e6 : (q6 s).l = num (gotB (q6 s).s) ++ (q7 s).l := l5
  have e5 : (q5 s).l = num (gotB (q5 s).s) ++ (q6 s).l := l6
  have e4 : (q4 s).l = num (gotB (q4 s).s) ++ (q5 s).l := l7
  have e3 : (q3 s).l = num (gotB (q3 s).s) ++ (q4 s).l := l8
  have e2 : (q2 s).l = num (upV (q2 s).s 255) ++ (q3 s).l := l9
  have e1 : (q1 s).l = num (upV (q1 s).s 255) ++ (q2 s).l := l10
  have e0 : (q0 s).l = num (upV (q0 s).s 9) ++ (q1 s).l := l11
  have hs : s = str (q0 s).l := (str_back s).symm
  have hall : (q0 s).l = lmtB (hd s) (es s) ++ [] := by
    rw [lmtB_tail, e0, e1, e2, e3, e4, e5, e6, e7, e8, e9, ea, es_length]
    simp only [hd, Int.toNat_natCast]
  rw [List.append_nil] at hall
  exact hs.trans (congrArg str hall)
/-- Bytes that say a letter that may be. -/
def GoodL (s : ByteArray) : Prop := (qB s).done = true ∧ May (hd s) (es s)
theorem lmtB_pos (h : Hd) (l : List Ent) : 0 < (lmtB h l).length := by
  have e := lmtB_tail h l []
  rw [List.append_nil] at e
  rw [e, List.length_append, num_length]
  omega
section
variable {h : Hd} {l : List Ent} (hin : HIn h) (ein : ∀ e ∈ l, EIn e) (m : May h l)
include hin ein m
theorem good_laid : GoodL (str (lmtB h l)) ∧ hd (str (lmtB h l)) = h ∧ es (str (lmtB h l)) = l := by
  obtain ⟨h1, h2, h3⟩ := laid hin ein m.1 []
  rw [List.append_nil] at h1 h2 h3
  refine ⟨⟨?_, by rw [h1, h2]; exact m⟩, h1, h2⟩
  rw [h3]
  rfl
theorem bad_more (c : UInt8) : ¬ GoodL (str (lmtB h l ++ [c])) := fun g => by
  obtain ⟨h1, h2, h3⟩ := laid hin ein m.1 [c]
  have := g.1
  rw [h3] at this
  simp only [Rd.done, str_size, List.length_singleton] at this
  exact absurd this (by decide)
theorem bad_less {s : ByteArray} (k : Nat) (hk : k < (lmtB h l).length) (hs : s = str ((lmtB h l).take k)) : ¬ GoodL s := fun g => by
  have hb := back s g.1
  have hl : (lmtB h l).take k = lmtB (hd s) (es s) := by
    have e := hs.symm.trans hb
    have := congrArg (fun x : ByteArray => x.data.toList) e
    simpa [str_list] using this
  have hsplit : lmtB h l = lmtB (hd s) (es s) ++ (lmtB h l).drop k := by rw [← hl, List.take_append_drop]
  obtain ⟨_, _, h3⟩ := laid (hd_in s) (fun e he => (es_in s e he).1) g.2.1 ((lmtB h l).drop k)
  rw [← hsplit] at h3
  obtain ⟨_, _, h4⟩ := laid hin ein m.1 []
  rw [List.append_nil] at h4
  rw [h4] at h3
  have : str ([] : List UInt8) = str ((lmtB h l).drop k) := congrArg Rd.s h3
  have h5 := congrArg ByteArray.size this
  rw [str_size, str_size, List.length_drop, List.length_nil] at h5
  omega
end
/-- Bytes that say the same letter are the same. -/
theorem same_bytes {h : Hd} {l : List Ent} {s : ByteArray} (g : GoodL s) (e1 : hd s = h) (e2 : es s = l) : s = str (lmtB h l) := by
  rw [← e1, ← e2]
  exact back s g.1
end Go.Proofs.Ytkimeggojcgacaa.Lmt
