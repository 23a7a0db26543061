/- Plain mathematics: a disk of which one file alone has bytes, and what a log on it becomes. No program's text; no statement is proved here. -/
import Derived.Test.YtmimpfccngihiaaDoorLog
set_option linter.unusedVariables false
set_option linter.unusedSimpArgs false
namespace Go.Proofs.YtmimpfccngihiaaDoor.Solo
open Go.Proofs.YtmimpfccngihiaaDoor.Stuff Go.Proofs.YtmimpfccngihiaaDoor.Wal Go.Proofs.YtmimpfccngihiaaDoor.Model Go.Proofs.YtmimpfccngihiaaDoor.Log Go.Proofs.YtmimpfccngihiaaDoor.Frm
open Go.Proofs.YtmimpfccngihiaaDoor.Model.M

/-- A disk of which file i alone has bytes; T: which others are there. -/
def solo (R : Nat) (f : Int) (o : Bool) (i : Nat) (F S : List UInt8) (t : Bool) (T : Nat → Bool) : M :=
  { room := R, fuel := f, off := o, firm := fun j => if j = i then F else [], soft := fun j => if j = i then S else [], there := fun j => if j = i then t else T j }
def burn (f : Int) : Int := if 0 < f then f - 1 else f

section
variable {R : Nat} {f : Int} {o : Bool} {i : Nat} {F S : List UInt8} {t : Bool} {T : Nat → Bool}
theorem new_solo (R i : Nat) : M.new R = solo R (-1) false i [] [] false (fun _ => false) := by simp [M.new, solo]
theorem solo_move (j : Nat) : solo R f o i [] [] t T = solo R f o j [] [] (if j = i then t else T j) (fun k => if k = i then t else T k) := by
  unfold solo
  simp only [ite_self, M.mk.injEq, true_and]
  funext k
  by_cases h : k = j
  · subst h; simp
  · simp [h]
theorem solo_usedTo : ∀ k, (solo R f o i F S t T).usedTo k = if i < k then F.length + S.length else 0
  | 0 => by simp [M.usedTo]
  | k + 1 => by
    have e : (solo R f o i F S t T).len k = if k = i then F.length + S.length else 0 := by
      simp only [M.len, solo]
      by_cases h : k = i <;> simp [h]
    simp only [M.usedTo]
    rw [solo_usedTo k, e]
    by_cases h : k = i
    · subst h; simp
    · by_cases h2 : i < k
      · rw [if_pos h2, if_neg h, if_pos (by omega)]; rfl
      · rw [if_neg h2, if_neg h, if_neg (by omega)]
theorem solo_used (hi : i < 16) : (solo R f o i F S t T).used = F.length + S.length := by
  unfold M.used
  rw [solo_usedTo, if_pos hi]
theorem solo_len : (solo R f o i F S t T).len i = F.length + S.length := by simp [M.len, solo]
theorem solo_all : (solo R f o i F S t T).all i = F ++ S := by simp [M.all, solo]
theorem solo_has (hi : i < 16) : (solo R f o i F S t T).has (i : Int) = t := by
  unfold M.has
  rw [decide_eq_true (show 0 ≤ (i : Int) ∧ (i : Int) < 16 by omega)]
  simp [solo]
theorem solo_burnt : (solo R f o i F S t T).burnt = solo R (burn f) o i F S t T := rfl
theorem solo_dead : (solo R f o i F S t T).dead = solo R f true i F S t T := rfl
theorem solo_fuelled (n : Int) : (solo R f o i F S t T).fuelled n = solo R (max n (-1)) o i F S t T := rfl
theorem solo_set (F' S' : List UInt8) (t' : Bool) : (solo R f o i F S t T).set i F' S' t' = solo R f o i F' S' t' T := by
  unfold solo M.set
  simp only [M.mk.injEq, true_and]
  refine ⟨?_, ?_, ?_⟩ <;> (funext k; by_cases h : k = i <;> simp [h])
theorem solo_append (hi : i < 16) (s : List UInt8) : (solo R f false i F S t T).append i s =
    if R < F.length + S.length + s.length then (11, solo R f false i F S t T) else if f = 0 then (10, solo R f true i F S t T) else (0, solo R (burn f) false i F (S ++ s) true T) := by
  unfold M.append
  rw [if_neg (by omega), if_neg (by simp [solo]), solo_used hi]
  show (if R < _ then _ else if f = 0 then _ else _) = _
  rw [solo_burnt, show ((i : Int)).toNat = i by omega, solo_set, solo_dead]
  congr 1
  congr 1
  simp [solo]
theorem solo_sync (hi : i < 16) : (solo R f false i F S true T).sync i = if f = 0 then (10, solo R f true i F S true T) else (0, solo R (burn f) false i (F ++ S) [] true T) := by
  unfold M.sync
  rw [if_neg (by simp [solo]), if_neg (by rw [solo_has hi]; simp)]
  show (if f = 0 then _ else _) = _
  rw [solo_burnt, show ((i : Int)).toNat = i by omega, solo_set, solo_dead, solo_all]
theorem solo_replace (hi : i < 16) (s : List UInt8) : (solo R f false i F S t T).replace i s =
    if R < s.length then (11, solo R f false i F S t T) else if f = 0 then (10, solo R f true i F S t T) else (0, solo R (burn f) false i s [] true T) := by
  unfold M.replace
  rw [if_neg (by omega), if_neg (by simp [solo]), solo_used hi, show ((i : Int)).toNat = i by omega, solo_len, solo_burnt, solo_set, solo_dead]
  show (if R + (F.length + S.length) < F.length + S.length + s.length then _ else if f = 0 then _ else _) = _
  by_cases h : R < s.length
  · rw [if_pos h, if_pos (by omega)]
  · rw [if_neg h, if_neg (by omega)]
theorem solo_crash (keep : List Int) : (solo R f o i F S t T).crash keep =
    solo R (-1) false i (F ++ S.take (kept keep i S.length)) [] (t && (!(F ++ S.take (kept keep i S.length)).isEmpty || S.isEmpty)) T := by
  have e : ∀ k, (solo R f o i F S t T).left keep k = if k = i then F ++ S.take (kept keep i S.length) else [] := fun k => by
    simp only [M.left, solo]
    by_cases h : k = i
    · subst h; simp
    · simp [h]
  have e2 : (solo R f o i F S t T).left keep = fun k => if k = i then F ++ S.take (kept keep i S.length) else [] := funext e
  unfold M.crash
  rw [e2]
  unfold solo
  simp only [M.mk.injEq, true_and, ite_self]
  funext k
  by_cases h : k = i
  · subst h; simp
  · simp [h]
/-- What a log is behind an opening with enough fuel. -/
theorem solo_behind (hi : i < 16) (hf : f ≠ 0) (hR : F.length + S.length ≤ R) : behind (solo R f false i F S true T) i (F ++ S) = ((0, (scan (F ++ S)).1), solo R (burn f) false i ((F ++ S).take (scan (F ++ S)).2) [] true T) := by
  unfold behind
  have hle := scan_le (F ++ S)
  have e1 : (solo R f false i F S true T).replace i ((F ++ S).take (scan (F ++ S)).2) = (0, solo R (burn f) false i ((F ++ S).take (scan (F ++ S)).2) [] true T) := by
    rw [solo_replace hi, if_neg (by rw [List.length_take, List.length_append]; omega), if_neg hf]
  have e2 : (solo R f false i F S true T).sync i = (0, solo R (burn f) false i (F ++ S) [] true T) := by rw [solo_sync hi, if_neg hf]
  rw [e1, e2]
  by_cases h : (scan (F ++ S)).2 < (F ++ S).length
  · rw [if_pos h]; rfl
  · rw [if_neg h, List.take_of_length_le (by omega)]; rfl
theorem solo_open_old (hi : i < 16) (hf : f ≠ 0) (hR : F.length + S.length ≤ R) : wopen (solo R f false i F S true T) i = ((0, (scan (F ++ S)).1), solo R (burn f) false i ((F ++ S).take (scan (F ++ S)).2) [] true T) := by
  rw [wopen_old (by omega) rfl (solo_has hi), show ((i : Int)).toNat = i by omega, solo_all, solo_behind hi hf hR]
theorem scan_nil : scan [] = ([], 0) := scan_end [] rfl
theorem solo_open_new (hi : i < 16) (hf : f = -1) : wopen (solo R f false i F S false T) i = ((0, []), solo R (-1) false i [] [] true T) := by
  subst hf
  have e1 : (solo R (-1) false i F S false T).replace i [] = (0, solo R (-1) false i [] [] true T) := by
    rw [solo_replace hi]
    rfl
  rw [wopen_new (by omega) rfl (solo_has hi), e1]
  have := solo_behind (R := R) (f := -1) (i := i) (F := []) (S := []) (T := T) hi (by decide) (by simp)
  simp only [List.append_nil, scan_nil, List.take_nil] at this
  exact this
/-- A log that is opened behind a crash. -/
theorem solo_again (hi : i < 16) (hR : F.length + S.length ≤ R) (keep : List Int) :
    ∃ t', wopen ((solo R f o i F S true T).crash keep) i = ((0, (scan (F ++ S.take (kept keep i S.length))).1), solo R (-1) false i ((F ++ S.take (kept keep i S.length)).take (scan (F ++ S.take (kept keep i S.length))).2) [] t' T) := by
  rw [solo_crash]
  have hk := kept_le keep i S.length
  obtain ⟨C, hC⟩ : ∃ C, F ++ S.take (kept keep i S.length) = C := ⟨_, rfl⟩
  have hCl : C.length ≤ R := by rw [← hC, List.length_append, List.length_take]; omega
  rw [hC]
  refine ⟨true, ?_⟩
  cases ht : (true && (!C.isEmpty || S.isEmpty)) with
  | true =>
    have := solo_open_old (R := R) (f := -1) (i := i) (F := C) (S := []) (T := T) hi (by decide) (by simpa using hCl)
    rw [List.append_nil] at this
    rw [this]
    rfl
  | false =>
    have hCe : C = [] := by
      simp only [Bool.true_and, Bool.or_eq_false_iff, Bool.not_eq_false', List.isEmpty_iff] at ht
      exact ht.1
    subst hCe
    rw [solo_open_new hi rfl, scan_nil]
    rfl
/-- Records that are written with enough fuel. -/
theorem solo_wappend (hi : i < 16) (l : List (List UInt8)) (hl : Recs l) (hR : F.length + (frames l).length ≤ R) : wappend (solo R f false i F [] true T) i l =
    if f = 0 then (10, solo R f true i F [] true T) else if f = 1 then (10, solo R 0 true i F (frames l) true T) else (0, solo R (burn (burn f)) false i (F ++ frames l) [] true T) := by
  have e1 : (solo R f false i F [] true T).append i (frames l) = if f = 0 then (10, solo R f true i F [] true T) else (0, solo R (burn f) false i F (frames l) true T) := by
    rw [solo_append hi, if_neg (by simp only [List.length_nil]; omega), List.nil_append]
  unfold wappend
  rw [if_pos hl, e1]
  by_cases h0 : f = 0
  · subst h0
    rfl
  · rw [if_neg h0, if_neg h0]
    have e2 := solo_sync (R := R) (f := burn f) (i := i) (F := F) (S := frames l) (T := T) hi
    show (solo R (burn f) false i F (frames l) true T).sync i = _
    rw [e2]
    by_cases h1 : f = 1
    · subst h1
      rfl
    · rw [if_neg h1, if_neg (by unfold burn; split <;> omega)]
theorem solo_wappend_free (hi : i < 16) (l : List (List UInt8)) (hl : Recs l) (hR : F.length + (frames l).length ≤ R) : wappend (solo R (-1) false i F [] true T) i l = (0, solo R (-1) false i (F ++ frames l) [] true T) := solo_wappend hi l hl hR
theorem solo_wanew (hi : i < 16) (l : List (List UInt8)) (hl : Recs l) (hR : (frames l).length ≤ R) : wanew (solo R f false i F S t T) i l =
    if f = 0 then (10, solo R f true i F S t T) else (0, solo R (burn f) false i (frames l) [] true T) := by
  unfold wanew
  rw [if_pos hl, solo_replace hi, if_neg (by omega)]
end

/-- What stands in a log's file behind a crash: some first records. -/
theorem crash_scan (a c : List (List UInt8)) (k : Nat) (ha : Recs a) (hc : Recs c) (hk : k ≤ (frames c).length) : (scan (frames a ++ (frames c).take k)).1 = a ++ c.take (cut c k) := by
  rw [scan_frames a _ ha, scan_take c k hc]
theorem half_scan (a : List (List UInt8)) (r : List UInt8) (ha : Recs a) (hr : ∀ c ∈ r, c ≠ 0) : scan (frames a ++ r) = (a, (frames a).length) := by
  rw [scan_frames a r ha, scan_end r ((free_iff r).2 hr)]
  simp
theorem all_scan (a : List (List UInt8)) (ha : Recs a) : scan (frames a) = (a, (frames a).length) := scan_all a ha
end Go.Proofs.YtmimpfccngihiaaDoor.Solo
