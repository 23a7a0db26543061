/- Commands and replies: what may be, their bytes, what any bytes say: plain mathematics. No statement is proved here. -/
import Derived.Test.YthaepkpmpnofgaaHPln
set_option linter.unusedVariables false
set_option linter.unusedSimpArgs false
namespace Go.Proofs.Ythaepkpmpnofgaa.Cmd
open Go.RowKit Go.Proofs.Ythaepkpmpnofgaa.Kit Go.Proofs.Ythaepkpmpnofgaa.Num Go.Proofs.Ythaepkpmpnofgaa.Rdr Go.Proofs.Ythaepkpmpnofgaa.Reads Go.Proofs.Ythaepkpmpnofgaa.Stq Go.Proofs.Ythaepkpmpnofgaa.Pln
open Go.Proofs.Ythaepkpmpnofgaa.PckWalkB (text bit)
open Go.Proofs.Ythaepkpmpnofgaa.PckWalkH (str str_list str_back str_size str_append)
open Go.Proofs.Ythaepkpmpnofgaa.PckWalkC (gotB gotB_lt)
open Go.Proofs.Ythaepkpmpnofgaa.PckWalkE (upV textV truth)

/-! ### What was read as steps had been laid -/
theorem sp_back (r : Rd) (h : (rSpR r).bad = false) : r.bad = false ∧ r.l = spB (rSp r) ++ (rSpR r).l := by
  obtain ⟨h3, _, e3⟩ := up_back ((r.up 3).text 16) 9 h
  obtain ⟨h2, _, e2⟩ := text_back (r.up 3) 16 h3
  obtain ⟨h1, _, e1⟩ := up_back r 3 h2
  refine ⟨h1, ?_⟩
  have u1 := u64_pos (z := ((upV r.s 3 : Nat) : Int)) (by omega) (by have := upV_u64 r.s 3; omega)
  have u2 := u64_pos (z := ((upV ((r.up 3).text 16).s 9 : Nat) : Int)) (by omega) (by have := upV_u64 ((r.up 3).text 16).s 9; omega)
  rw [e1, e2, e3]
  unfold spB rSp rSpR
  simp only
  rw [u1, u2]
  simp [List.append_assoc]
theorem sps_back (k : Nat) (r : Rd) (h : (rAt k r).bad = false) : r.bad = false ∧ r.l = spsB (rSps k r) ++ (rAt k r).l := by
  induction k generalizing r with
  | zero => exact ⟨h, rfl⟩
  | succ k ih =>
    rw [rAt_front] at h ⊢
    obtain ⟨h1, e1⟩ := ih _ h
    obtain ⟨h2, e2⟩ := sp_back r h1
    refine ⟨h2, ?_⟩
    rw [e2, e1, rSps_front]
    simp [spsB, List.append_assoc]
theorem plan_back (r : Rd) (h : (rEnd r).bad = false) : r.bad = false ∧ r.l = planB (rPlan r) ++ (rEnd r).l := by
  obtain ⟨h1, e1⟩ := sps_back (rN r) (r.up 64) h
  obtain ⟨h2, _, e2⟩ := up_back r 64 h1
  refine ⟨h2, ?_⟩
  have hl : rPlan r = rSps (rN r) (r.up 64) := by unfold rPlan; rw [h]; rfl
  rw [e2, e1, hl]
  unfold planB
  rw [rSps_length]
  show _ = num (rN r) ++ _ ++ _
  rw [List.append_assoc]
  rfl
theorem sps_nm : ∀ (k : Nat) (r : Rd), ∀ e ∈ rSps k r, e.nm.size ≤ 16
  | 0, _, e, h => by simp [rSps] at h
  | k + 1, r, e, h => by
    rcases List.mem_append.1 (show e ∈ rSps k r ++ [rSp (rAt k r)] from h) with h | h
    · exact sps_nm k r e h
    · simp at h
      subst h
      have := textV_le ((rAt k r).up 3).s (k := 16) (by decide)
      show (textV ((rAt k r).up 3).s 16).size ≤ 16
      omega
theorem plan_in (r : Rd) : (rPlan r).length ≤ 64 ∧ ∀ e ∈ rPlan r, e.nm.size ≤ 16 := by
  unfold rPlan
  split
  · exact ⟨by simp, by simp⟩
  · exact ⟨by rw [rSps_length]; exact rN_le r, sps_nm _ _⟩

/-! ### A command -/
structure Cm where
  k : Int
  ss : Nat
  sq : Nat
  sg : Nat
  l : List Sp
  st : Int
  bk : Bool
  tr : Int
  ok : Bool
  nw : Nat
/-- Its numbers lie in memory. -/
structure Fin (m : Cm) : Prop where
  ss : m.ss < 18446744073709551616
  sq : m.sq < 18446744073709551616
  sg : m.sg < 18446744073709551616
  nw : m.nw < 18446744073709551616
def bareB (m : Cm) : Bool := decide (m.st = 0) && !m.bk && decide (m.tr = 0) && !m.ok
def outB (m : Cm) : Bool := decide (0 ≤ m.st ∧ m.st ≤ 63 ∧ 0 ≤ m.tr ∧ m.tr ≤ 8 ∧ m.ss = 0 ∧ m.sq = 0)
def mayB (m : Cm) : Bool :=
  if m.k = 1 ∨ m.k = 3 ∨ m.k = 5 then decide (m.l.length = 0) && bareB m
  else if m.k = 2 then decide (chk m.l = 0) && bareB m
  else if m.k = 4 then decide (m.l.length = 0) && outB m
  else false
def encZ (m : Cm) : Int := if m.k = 2 ∧ chk m.l ≠ 0 then 44 else if mayB m = true then 0 else 1
def tailB (m : Cm) : List UInt8 := if m.k = 2 then planB m.l else if m.k = 4 then num (u64 m.st) ++ (num (bit m.bk) ++ (num (u64 m.tr) ++ num (bit m.ok))) else []
def cmB (m : Cm) : List UInt8 := num (u64 m.k) ++ (num m.ss ++ (num m.sq ++ (num m.sg ++ (num m.nw ++ tailB m))))
def encS (m : Cm) : ByteArray := if mayB m = true then str (cmB m) else ByteArray.empty
def zeroC : Cm := ⟨0, 0, 0, 0, [], 0, false, 0, false, 0⟩
theorem encZ_may {m : Cm} (h : mayB m = true) : encZ m = 0 := by
  unfold encZ
  rw [if_neg, if_pos h]
  rintro ⟨h2, hc⟩
  unfold mayB at h
  rw [if_neg (by omega), if_pos h2] at h
  simp only [Bool.and_eq_true, decide_eq_true_eq] at h
  exact hc h.1
theorem encZ_not {m : Cm} (h : mayB m = false) : (encZ m = 44 ∧ m.k = 2 ∧ chk m.l = 44) ∨ (encZ m = 1 ∧ (m.k = 2 → chk m.l = 0)) := by
  unfold encZ
  by_cases h2 : m.k = 2 ∧ chk m.l ≠ 0
  · rw [if_pos h2]
    refine .inl ⟨rfl, h2.1, ?_⟩
    have := h2.2
    unfold chk at this ⊢
    split
    · rename_i hd; rw [if_pos hd] at this; exact absurd rfl this
    · rfl
  · rw [if_neg h2, if_neg (by rw [h]; decide)]
    exact .inr ⟨rfl, fun hk => Classical.byContradiction fun hc => h2 ⟨hk, hc⟩⟩
theorem encS_may {m : Cm} (h : mayB m = true) : encS m = str (cmB m) := by unfold encS; rw [if_pos h]
theorem encS_not {m : Cm} (h : mayB m = false) : encS m = ByteArray.empty := by unfold encS; rw [if_neg (by rw [h]; decide)]
/-- What may be, by its kind. -/
theorem may_kind {m : Cm} (h : mayB m = true) : ((m.k = 1 ∨ m.k = 3 ∨ m.k = 5) ∧ m.l = [] ∧ m.st = 0 ∧ m.bk = false ∧ m.tr = 0 ∧ m.ok = false) ∨ (m.k = 2 ∧ chk m.l = 0 ∧ m.st = 0 ∧ m.bk = false ∧ m.tr = 0 ∧ m.ok = false) ∨
    (m.k = 4 ∧ m.l = [] ∧ 0 ≤ m.st ∧ m.st ≤ 63 ∧ 0 ≤ m.tr ∧ m.tr ≤ 8 ∧ m.ss = 0 ∧ m.sq = 0) := by
  unfold mayB at h
  split at h
  · rename_i hk
    unfold bareB at h
    simp only [Bool.and_eq_true, decide_eq_true_eq, Bool.not_eq_true'] at h
    obtain ⟨h1, ⟨⟨h2, h3⟩, h4⟩, h5⟩ := h
    exact .inl ⟨hk, List.eq_nil_of_length_eq_zero h1, h2, h3, h4, h5⟩
  · split at h
    · rename_i hk
      unfold bareB at h
      simp only [Bool.and_eq_true, decide_eq_true_eq, Bool.not_eq_true'] at h
      obtain ⟨h1, ⟨⟨h2, h3⟩, h4⟩, h5⟩ := h
      exact .inr (.inl ⟨hk, h1, h2, h3, h4, h5⟩)
    · split at h
      · rename_i hk
        unfold outB at h
        simp only [Bool.and_eq_true, decide_eq_true_eq] at h
        exact .inr (.inr ⟨hk, List.eq_nil_of_length_eq_zero h.1, h.2⟩)
      · cases h
theorem may_k {m : Cm} (h : mayB m = true) : 1 ≤ m.k ∧ m.k ≤ 5 := by
  rcases may_kind h with ⟨h, _⟩ | ⟨h, _⟩ | ⟨h, _⟩ <;> omega

/-! ### Its bytes are few -/
theorem tailB_le {m : Cm} (h : mayB m = true) : (tailB m).length ≤ 10000 := by
  unfold tailB
  split
  · rename_i hk
    rcases may_kind h with ⟨h1, _⟩ | ⟨_, h2, _⟩ | ⟨h1, _⟩
    · omega
    · exact planB_le (chk_def h2)
    · omega
  · split
    · have h1 := num9 (u64_lt m.st)
      have h2 := num9 (bit_lt m.bk)
      have h3 := num9 (u64_lt m.tr)
      have h4 := num9 (bit_lt m.ok)
      simp only [List.length_append]
      omega
    · simp
theorem cmB_le {m : Cm} (f : Fin m) (h : mayB m = true) : (cmB m).length ≤ 11000 := by
  have h1 := num9 (u64_lt m.k)
  have h2 := num9 f.ss
  have h3 := num9 f.sq
  have h4 := num9 f.sg
  have h5 := num9 f.nw
  have h6 := tailB_le h
  unfold cmB
  simp only [List.length_append]
  omega

/-! ### What any bytes say -/
def c1 (r : Rd) : Rd := r.up 5
def c2 (r : Rd) : Rd := (c1 r).num
def c3 (r : Rd) : Rd := (c2 r).num
def c4 (r : Rd) : Rd := (c3 r).num
def c5 (r : Rd) : Rd := (c4 r).num
def o1 (r : Rd) : Rd := r.up 63
def o2 (r : Rd) : Rd := (o1 r).up 1
def o3 (r : Rd) : Rd := (o2 r).up 8
def o4 (r : Rd) : Rd := (o3 r).up 1
def rCm (r : Rd) : Cm :=
  if upV r.s 5 = 2 then ⟨(upV r.s 5 : Nat), gotB (c1 r).s, gotB (c2 r).s, gotB (c3 r).s, rPlan (c5 r), 0, false, 0, false, gotB (c4 r).s⟩
  else if upV r.s 5 = 4 then ⟨(upV r.s 5 : Nat), gotB (c1 r).s, gotB (c2 r).s, gotB (c3 r).s, [], (upV (c5 r).s 63 : Nat), truth (o1 (c5 r)).s, (upV (o2 (c5 r)).s 8 : Nat), truth (o3 (c5 r)).s, gotB (c4 r).s⟩
  else ⟨(upV r.s 5 : Nat), gotB (c1 r).s, gotB (c2 r).s, gotB (c3 r).s, [], 0, false, 0, false, gotB (c4 r).s⟩
def rTo (r : Rd) : Rd := if upV r.s 5 = 2 then rEnd (c5 r) else if upV r.s 5 = 4 then o4 (c5 r) else c5 r
/-- Is it a command's? -/
def yes (s : ByteArray) : Bool := (rTo ⟨s, false⟩).done && mayB (rCm ⟨s, false⟩)
def dec (s : ByteArray) : Cm := if yes s = true then rCm ⟨s, false⟩ else zeroC
def decZ (s : ByteArray) : Int := if yes s = true then 0 else 2
theorem rCm_fin (r : Rd) : Fin (rCm r) := by
  unfold rCm
  split
  · exact ⟨gotB_lt _, gotB_lt _, gotB_lt _, gotB_lt _⟩
  · split
    · exact ⟨gotB_lt _, gotB_lt _, gotB_lt _, gotB_lt _⟩
    · exact ⟨gotB_lt _, gotB_lt _, gotB_lt _, gotB_lt _⟩
theorem truth_bit (s : ByteArray) : upV s 1 = bit (truth s) := by
  have h := upV_nat s (k := 1) (by decide)
  unfold truth bit
  by_cases h1 : upV s 1 = 1
  · simp [h1]
  · have : upV s 1 = 0 := by omega
    simp [this]
theorem u64_nat {n : Nat} (h : n < 18446744073709551616) : u64 (n : Int) = n := by rw [u64_pos (by omega) (by omega)]; simp
theorem eta (r : Rd) : r.l = r.s.data.toList := rfl
theorem cm_back (r : Rd) (h : (rTo r).bad = false) : r.bad = false ∧ r.l = cmB (rCm r) ++ (rTo r).l := by
  have key : ∀ t : List UInt8, (c5 r).bad = false → (c5 r).l = t → r.bad = false ∧ r.l = num (upV r.s 5) ++ (num (gotB (c1 r).s) ++ (num (gotB (c2 r).s) ++ (num (gotB (c3 r).s) ++ (num (gotB (c4 r).s) ++ t)))) := by
    intro t h5 e5
    obtain ⟨h4, e4⟩ := num_back (c4 r) h5
    obtain ⟨h3, e3⟩ := num_back (c3 r) h4
    obtain ⟨h2, e2⟩ := num_back (c2 r) h3
    obtain ⟨h1, e1⟩ := num_back (c1 r) h2
    obtain ⟨h0, _, e0⟩ := up_back r 5 h1
    refine ⟨h0, ?_⟩
    have a4 : (c4 r).l = num (gotB (c4 r).s) ++ t := by rw [e4, ← e5]; rfl
    have a3 : (c3 r).l = num (gotB (c3 r).s) ++ (c4 r).l := e3
    have a2 : (c2 r).l = num (gotB (c2 r).s) ++ (c3 r).l := e2
    have a1 : (c1 r).l = num (gotB (c1 r).s) ++ (c2 r).l := e1
    have a0 : r.l = num (upV r.s 5) ++ (c1 r).l := e0
    rw [a0, a1, a2, a3, a4]
  have hk := u64_nat (upV_u64 r.s 5)
  unfold rTo at h ⊢
  unfold rCm
  split at h
  · rename_i h2
    rw [if_pos h2, if_pos h2]
    obtain ⟨h5, e5⟩ := plan_back (c5 r) h
    obtain ⟨h0, e0⟩ := key _ h5 e5
    refine ⟨h0, ?_⟩
    rw [e0]
    unfold cmB tailB
    simp only
    rw [if_pos (by omega), hk]
    simp [List.append_assoc]
  · split at h
    · rename_i h2 h4
      rw [if_neg h2, if_pos h4, if_neg h2, if_pos h4]
      obtain ⟨b3, _, f3⟩ := up_back (o3 (c5 r)) 1 h
      obtain ⟨b2, _, f2⟩ := up_back (o2 (c5 r)) 8 b3
      obtain ⟨b1, _, f1⟩ := up_back (o1 (c5 r)) 1 b2
      obtain ⟨b0, _, f0⟩ := up_back (c5 r) 63 b1
      have g0 : (c5 r).l = num (upV (c5 r).s 63) ++ (o1 (c5 r)).l := f0
      have g1 : (o1 (c5 r)).l = num (upV (o1 (c5 r)).s 1) ++ (o2 (c5 r)).l := f1
      have g2 : (o2 (c5 r)).l = num (upV (o2 (c5 r)).s 8) ++ (o3 (c5 r)).l := f2
      have g3 : (o3 (c5 r)).l = num (upV (o3 (c5 r)).s 1) ++ (o4 (c5 r)).l := f3
      rw [g1, g2, g3] at g0
      obtain ⟨h0, e0⟩ := key _ b0 g0
      refine ⟨h0, ?_⟩
      rw [e0]
      unfold cmB tailB
      simp only
      rw [if_neg (by omega), if_pos (by omega), hk, u64_nat (upV_u64 _ 63), u64_nat (upV_u64 _ 8), ← truth_bit, ← truth_bit]
      simp [List.append_assoc]
    · rename_i h2 h4
      rw [if_neg h2, if_neg h4, if_neg h2, if_neg h4]
      obtain ⟨h0, e0⟩ := key _ h rfl
      refine ⟨h0, ?_⟩
      rw [e0]
      unfold cmB tailB
      simp only
      rw [if_neg (by omega), if_neg (by omega), hk]
      simp [List.append_assoc]
theorem size0 (s : ByteArray) (h : s.size = 0) : s.data.toList = [] := by
  rw [Lib.size_eq] at h
  exact List.eq_nil_of_length_eq_zero h
theorem done_to {r : Rd} (h : r.done = true) : r.bad = false ∧ r.l = [] := by
  unfold Rd.done at h
  simp only [Bool.and_eq_true, decide_eq_true_eq, Bool.not_eq_true'] at h
  exact ⟨h.2, size0 _ h.1⟩
/-- Bytes that say a command are its bytes. -/
theorem yes_back {s : ByteArray} (h : yes s = true) : mayB (dec s) = true ∧ s = str (cmB (dec s)) ∧ Fin (dec s) := by
  have hd : dec s = rCm ⟨s, false⟩ := by unfold dec; rw [if_pos h]
  unfold yes at h
  simp only [Bool.and_eq_true] at h
  obtain ⟨hd0, hm⟩ := h
  obtain ⟨hb, hl⟩ := done_to hd0
  obtain ⟨_, e⟩ := cm_back ⟨s, false⟩ hb
  rw [hl, List.append_nil] at e
  rw [hd]
  refine ⟨hm, ?_, rCm_fin _⟩
  rw [← e]
  unfold Rd.l
  exact (str_back s).symm

/-! ### Forward: what was laid is read -/
theorem truth_laid (b : Bool) (r : List UInt8) : truth (str (num (bit b) ++ r)) = b := by
  unfold truth
  rw [upV_laid (bit_lt b) r (bit_le b)]
  cases b <;> rfl
theorem cm_go {m : Cm} (f : Fin m) (h : mayB m = true) : rCm ⟨str (cmB m), false⟩ = m ∧ rTo ⟨str (cmB m), false⟩ = ⟨str [], false⟩ := by
  obtain ⟨k0, k5⟩ := may_k h
  have hkk := may_kind h
  obtain ⟨k, ss, sq, sg, l, st, bk, tr, ok, nw⟩ := m
  obtain ⟨f1, f2, f3, f4⟩ := f
  simp only at k0 k5 hkk f1 f2 f3 f4
  obtain ⟨k, rfl⟩ := Int.eq_ofNat_of_zero_le (show 0 ≤ k by omega)
  have hk : k < 18446744073709551616 := by omega
  obtain ⟨t, ht⟩ : ∃ t, tailB ⟨(k : Int), ss, sq, sg, l, st, bk, tr, ok, nw⟩ = t := ⟨_, rfl⟩
  have e0 : cmB ⟨(k : Int), ss, sq, sg, l, st, bk, tr, ok, nw⟩ = num k ++ (num ss ++ (num sq ++ (num sg ++ (num nw ++ t)))) := by
    unfold cmB
    simp only
    rw [ht, u64_nat hk]
  have e1 : c1 ⟨str (num k ++ (num ss ++ (num sq ++ (num sg ++ (num nw ++ t))))), false⟩ = ⟨str (num ss ++ (num sq ++ (num sg ++ (num nw ++ t)))), false⟩ := up_go hk _ _ (by omega)
  have e2 : c2 ⟨str (num k ++ (num ss ++ (num sq ++ (num sg ++ (num nw ++ t))))), false⟩ = ⟨str (num sq ++ (num sg ++ (num nw ++ t))), false⟩ := by unfold c2; rw [e1]; exact num_go f1 _ _
  have e3 : c3 ⟨str (num k ++ (num ss ++ (num sq ++ (num sg ++ (num nw ++ t))))), false⟩ = ⟨str (num sg ++ (num nw ++ t)), false⟩ := by unfold c3; rw [e2]; exact num_go f2 _ _
  have e4 : c4 ⟨str (num k ++ (num ss ++ (num sq ++ (num sg ++ (num nw ++ t))))), false⟩ = ⟨str (num nw ++ t), false⟩ := by unfold c4; rw [e3]; exact num_go f3 _ _
  have e5 : c5 ⟨str (num k ++ (num ss ++ (num sq ++ (num sg ++ (num nw ++ t))))), false⟩ = ⟨str t, false⟩ := by unfold c5; rw [e4]; exact num_go f4 _ _
  have eU : upV (str (num k ++ (num ss ++ (num sq ++ (num sg ++ (num nw ++ t)))))) 5 = k := upV_laid hk _ (by omega)
  rw [e0]
  unfold rCm rTo
  simp only
  rw [eU, e1, e2, e3, e4, e5]
  simp only
  rw [got_laid f1, got_laid f2, got_laid f3, got_laid f4]
  rcases hkk with ⟨hk', rfl, rfl, rfl, rfl, rfl⟩ | ⟨hk', hc, rfl, rfl, rfl, rfl⟩ | ⟨hk', rfl, s0, s1, t0, t1, rfl, rfl⟩
  · rw [if_neg (by omega), if_neg (by omega), if_neg (by omega), if_neg (by omega)]
    have : t = [] := by rw [← ht]; unfold tailB; simp only; rw [if_neg (by omega), if_neg (by omega)]
    exact ⟨rfl, by rw [this]⟩
  · rw [if_pos (by omega), if_pos (by omega)]
    have : t = planB l ++ [] := by rw [← ht]; unfold tailB; simp only; rw [if_pos (by omega), List.append_nil]
    rw [this]
    obtain ⟨g1, g2⟩ := plan_go (chk_def hc) []
    rw [g1, g2]
    exact ⟨rfl, rfl⟩
  · rw [if_neg (by omega), if_pos (by omega), if_neg (by omega), if_pos (by omega)]
    obtain ⟨x, rfl⟩ := Int.eq_ofNat_of_zero_le s0
    obtain ⟨y, rfl⟩ := Int.eq_ofNat_of_zero_le t0
    have hx : x < 18446744073709551616 := by omega
    have hy : y < 18446744073709551616 := by omega
    have : t = num x ++ (num (bit bk) ++ (num y ++ (num (bit ok) ++ []))) := by
      rw [← ht]
      unfold tailB
      simp only
      rw [if_neg (by omega), if_pos (by omega), u64_nat hx, u64_nat hy, List.append_nil]
    rw [this]
    have g1 : o1 ⟨str (num x ++ (num (bit bk) ++ (num y ++ (num (bit ok) ++ [])))), false⟩ = ⟨str (num (bit bk) ++ (num y ++ (num (bit ok) ++ []))), false⟩ := up_go hx _ _ s1
    have g2 : o2 ⟨str (num x ++ (num (bit bk) ++ (num y ++ (num (bit ok) ++ [])))), false⟩ = ⟨str (num y ++ (num (bit ok) ++ [])), false⟩ := by unfold o2; rw [g1]; exact up_go (bit_lt bk) _ _ (bit_le bk)
    have g3 : o3 ⟨str (num x ++ (num (bit bk) ++ (num y ++ (num (bit ok) ++ [])))), false⟩ = ⟨str (num (bit ok) ++ []), false⟩ := by unfold o3; rw [g2]; exact up_go hy _ _ t1
    have g4 : o4 ⟨str (num x ++ (num (bit bk) ++ (num y ++ (num (bit ok) ++ [])))), false⟩ = ⟨str [], false⟩ := by unfold o4; rw [g3]; exact up_go (bit_lt ok) _ _ (bit_le ok)
    rw [g1, g2, g3, g4]
    simp only
    rw [upV_laid hx _ s1, truth_laid, upV_laid hy _ t1, truth_laid]
    exact ⟨by simp, trivial⟩
/-- A command's bytes say it. -/
theorem yes_go {m : Cm} (f : Fin m) (h : mayB m = true) : yes (str (cmB m)) = true ∧ dec (str (cmB m)) = m := by
  obtain ⟨g1, g2⟩ := cm_go f h
  have hy : yes (str (cmB m)) = true := by
    unfold yes
    rw [g1, g2, h]
    unfold Rd.done
    rw [str_size]
    rfl
  refine ⟨hy, ?_⟩
  unfold dec
  rw [if_pos hy, g1]
theorem dec_fin (s : ByteArray) : Fin (dec s) := by
  unfold dec
  split
  · exact rCm_fin _
  · exact ⟨by decide, by decide, by decide, by decide⟩
/-- Steps that were read are few. -/
theorem rCm_in (r : Rd) : (rCm r).l.length ≤ 64 ∧ ∀ e ∈ (rCm r).l, e.nm.size ≤ 16 := by
  unfold rCm
  split
  · exact plan_in _
  · split
    · exact ⟨by simp, by simp⟩
    · exact ⟨by simp, by simp⟩

/-! ### Replies -/
structure Ry where
  err : Int
  num : Nat
  ext : Nat
structure Ry.Ok (y : Ry) : Prop where
  e0 : -9223372036854775808 ≤ y.err
  e1 : y.err ≤ 9223372036854775807
  num : y.num < 18446744073709551616
  ext : y.ext < 18446744073709551616
def ryB (y : Ry) : List UInt8 := num (u64 (max y.err 0)) ++ (num y.num ++ num y.ext)
def y1 (r : Rd) : Rd := r.up 52
def y2 (r : Rd) : Rd := (y1 r).num
def y3 (r : Rd) : Rd := (y2 r).num
def rRy (r : Rd) : Ry := ⟨(upV r.s 52 : Nat), gotB (y1 r).s, gotB (y2 r).s⟩
def said (s : ByteArray) : Bool := (y3 ⟨s, false⟩).done
def hear (s : ByteArray) : Ry := if said s = true then rRy ⟨s, false⟩ else ⟨0, 0, 0⟩
theorem ry_go {y : Ry} (h : y.Ok) (h0 : 0 ≤ y.err) (h1 : y.err ≤ 52) : said (str (ryB y)) = true ∧ hear (str (ryB y)) = y := by
  obtain ⟨err, n, x⟩ := y
  obtain ⟨_, _, g1, g2⟩ := h
  simp only at h0 h1 g1 g2
  obtain ⟨e, rfl⟩ := Int.eq_ofNat_of_zero_le h0
  have he : e < 18446744073709551616 := by omega
  have e0 : ryB ⟨(e : Int), n, x⟩ = num e ++ (num n ++ (num x ++ [])) := by
    unfold ryB
    simp only
    rw [Int.max_eq_left h0, u64_nat he, List.append_nil]
  have f1 : y1 ⟨str (num e ++ (num n ++ (num x ++ []))), false⟩ = ⟨str (num n ++ (num x ++ [])), false⟩ := up_go he _ _ h1
  have f2 : y2 ⟨str (num e ++ (num n ++ (num x ++ []))), false⟩ = ⟨str (num x ++ []), false⟩ := by unfold y2; rw [f1]; exact num_go g1 _ _
  have f3 : y3 ⟨str (num e ++ (num n ++ (num x ++ []))), false⟩ = ⟨str [], false⟩ := by unfold y3; rw [f2]; exact num_go g2 _ _
  have hs : said (str (ryB ⟨(e : Int), n, x⟩)) = true := by
    unfold said
    rw [e0, f3]
    unfold Rd.done
    rw [str_size]
    rfl
  refine ⟨hs, ?_⟩
  unfold hear
  rw [if_pos hs, e0]
  unfold rRy
  simp only
  rw [f1, f2, upV_laid he _ h1]
  simp only
  rw [got_laid g1, got_laid g2]
theorem ryB_le {y : Ry} (h : y.Ok) : (ryB y).length ≤ 27 := by
  have h1 := num9 (u64_lt (max y.err 0))
  have h2 := num9 h.num
  have h3 := num9 h.ext
  unfold ryB
  simp only [List.length_append]
  omega
end Go.Proofs.Ythaepkpmpnofgaa.Cmd
