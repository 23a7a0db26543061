/- What Same answers of any two letters, walked. No statement is proved here. -/
import Derived.Test.YtkimeggojcgacaaWr
import Derived.BigQuiet
import Derived.Deep.QuietTactic
set_option linter.unusedVariables false
set_option linter.unusedSimpArgs false
namespace Go.Proofs.Ytkimeggojcgacaa.Same
open Go.RowKit Go.Proofs.Ytkimeggojcgacaa.Kit Go.Proofs.Ytkimeggojcgacaa.Ltr Go.Proofs.Ytkimeggojcgacaa.Lmt Go.Proofs.Ytkimeggojcgacaa.Wr
open Go.Proofs.Ytkimeggojcgacaa.State (cell_at free_at lt_at)

theorem text_eq (d d' : ByteArray) : d.toList = d'.toList ↔ d = d' := by
  constructor
  · intro h
    rw [Lib.toList_data, Lib.toList_data] at h
    rw [← Lib.mk_data d, h, Lib.mk_data]
  · intro h
    rw [h]
theorem run_neq (a b c : Int) (d : ByteArray) (a' b' c' : Int) (d' : ByteArray) (u : Bool) (hu : u = false ↔ (⟨a, b, c, d⟩ : Ent) = ⟨a', b', c', d'⟩) (w : World) :
    (binOp .neq 47 (.agg #[.int .u64 a, .int .u64 b, .int .i64 c, .string d]) (.agg #[.int .u64 a', .int .u64 b', .int .i64 c', .string d'])).run Try.prog w = .ok (.bool u) w := by
  simp only [Ent.mk.injEq] at hu
  simp [binOp, Op.equal, Op.maxDepth, go_sem]
  have ht := text_eq d d'
  by_cases h1 : a = a'
  · by_cases h2 : b = b'
    · by_cases h3 : c = c'
      · by_cases h4 : d = d'
        · have : u = false := hu.2 ⟨h1, h2, h3, h4⟩
          simp [h1, h2, h3, ht.2 h4, this]
        · have : u = true := by cases u; exact absurd (hu.1 rfl).2.2.2 h4; rfl
          simp [h1, h2, h3, mt ht.1 h4, this]
      · have : u = true := by cases u; exact absurd (hu.1 rfl).2.2.1 h3; rfl
        simp [h1, h2, h3, this]
    · have : u = true := by cases u; exact absurd (hu.1 rfl).2.1 h2; rfl
      simp [h1, h2, this]
  · have : u = true := by cases u; exact absurd (hu.1 rfl).1 h1; rfl
    simp [h1, this]
set_option maxRecDepth 100000 in
set_option maxHeartbeats 1000000 in
/-- Slices of entries. -/
theorem ents_any {w : World} {A C : Option Addr} {n m ca cc : Nat} {l l' : List Ent} (ha : RE w w.heap.size A n l) (hc : RE w w.heap.size C m l') (h63 : n ≤ 9223372036854775807) (b : Bool) (hb : b = true ↔ l = l') :
    Calls Try.prog 34 #[.slice A n ca, .slice C m cc] w fun e w' => e = .returned (.bool b) ∧ Below w.heap.size w w' := by
  have hl := RE.len ha
  have hl' := RE.len hc
  by_cases hnm : n = m
  · subst hnm
    have HB : Hid (b = true ↔ l = l') := hb
    have HL := Lib.hid hl
    have HL' := Lib.hid hl'
    clear hb hl hl'
    go_enter Try.func34, Try.ntmps34
    go_wp2
    go_loopw [5] (fun x wr => ∃ k : Nat, k ≤ n ∧ x = .int .i64 (k : Int) ∧ Below w.heap.size w wr ∧ Hid (∀ i, i < k → l[i]? = l'[i]?)) (fun x _ => n - (intOf x).toNat)
    case atStart => exact ⟨0, by omega, rfl, Below.refl _ _, fun i hi => absurd hi (by omega)⟩
    case round =>
      obtain ⟨k, hk, rfl, hbel, hall⟩ := hrel
      by_cases hkn : k < n
      · obtain ⟨bk, o, e, rfl, hbl, he, hfour⟩ := RE.at_ ha hkn
        obtain ⟨bk', o', e', rfl, hbl', he', hfour'⟩ := RE.at_ hc hkn
        have hfr := Four.below hfour hbel hbl
        have hfr' := Four.below hfour' hbel hbl'
        have c0 := hfr.c0
        have c1 := hfr.c1
        have c2 := hfr.c2
        have c3 := hfr.c3
        have d0 := hfr'.c0
        have d1 := hfr'.c1
        have d2 := hfr'.c2
        have d3 := hfr'.c3
        have HJ := Lib.hid hkn
        by_cases heq : e = e'
        · subst heq
          have hx : ∀ i, i < k + 1 → l[i]? = l'[i]? := by
            intro i hi
            rcases Nat.lt_succ_iff_lt_or_eq.1 hi with h1 | rfl
            · exact hall.out i h1
            · rw [he, he']
          obtain ⟨tm, ix, kd, d⟩ := e
          simp only at c0 c1 c2 c3 d0 d1 d2 d3
          have hneq := run_neq tm ix kd d tm ix kd d false (by simp)
          have HX := Lib.hid hx
          clear hfr hfr' hfour hfour' he he' ha hc hall hx
          go_wp2_with fail
          go_quiet (fail)
          all_goals go_wp2
          all_goals
            go_roundw
            case rel => exact ⟨k + 1, HJ.out, by go_num, below_drewN hbel _, HX.out⟩
            case measure => have := HJ.out; simp [intOf]; omega
        · obtain rfl : b = false := by
            cases b
            · rfl
            · have := HB.out.1 rfl
              rw [this, he'] at he
              exact absurd (Option.some.inj he).symm heq
          obtain ⟨tm, ix, kd, d⟩ := e
          obtain ⟨tm', ix', kd', d'⟩ := e'
          simp only at c0 c1 c2 c3 d0 d1 d2 d3
          have hneq := run_neq tm ix kd d tm' ix' kd' d' true (by simp [heq])
          clear hfr hfr' hfour hfour' he he' ha hc hall heq
          go_wp2_with fail
          go_quiet (fail)
          all_goals go_wp2
          all_goals go_ret
          all_goals exact ⟨rfl, below_drewN hbel _⟩
      · obtain rfl : k = n := by omega
        have hbt : b = true := HB.out.2 (List.ext_getElem? fun i => by
          rcases Nat.lt_or_ge i k with h | h
          · exact hall.out i h
          · rw [List.getElem?_eq_none (by rw [HL.out]; exact h), List.getElem?_eq_none (by rw [HL'.out]; exact h)])
        subst hbt
        go_wp2
        go_ret
        exact ⟨rfl, hbel⟩
  · obtain rfl : b = false := by
      cases b
      · rfl
      · have := hb.1 rfl
        rw [this] at hl
        omega
    have hne : ((n : Int) != (m : Int)) = true := by simp; omega
    clear hb hl hl' hnm
    go_enter Try.func34, Try.ntmps34
    go_wp2
    go_ret
    exact ⟨rfl, Below.refl _ _⟩
set_option maxRecDepth 100000 in
set_option maxHeartbeats 4000000 in
/-- Any two letters. -/
theorem same_any {w : World} {x y : Lt} (hx : LAt w x) (hy : LAt w y) (b : Bool) (hb : b = true ↔ x.said = y.said) :
    Calls Try.prog 14 #[ltV x, ltV y] w fun e w' => e = .returned (.bool b) ∧ Below w.heap.size w w' := by
  have r1 := hx.re
  have r2 := hy.re
  have h63 := hx.few
  obtain ⟨⟨k, f, t, tm, ix, pv, cm, ok, d⟩, A, n, c, es⟩ := x
  obtain ⟨⟨k', f', t', tm', ix', pv', cm', ok', d'⟩, A', n', c', es'⟩ := y
  simp only [Lt.said, Prod.mk.injEq, Hd.mk.injEq] at hb r1 r2 h63
  have hbo : ∀ o1 o2, Below w.heap.size w ((w.alloc o1).alloc o2) := fun o1 o2 => ((Below.refl _ _).alloc (Nat.le_refl _) _).alloc (by simp) _
  have hsm : ∀ (b : Bool), (b = true ↔ es = es') → ∀ o1 o2, Calls Try.prog 34 #[.slice A n c, .slice A' n' c'] ((w.alloc o1).alloc o2) fun e w' => e = .returned (.bool b) ∧ Below w.heap.size w w' := fun b hb o1 o2 =>
    (ents_any ((Kit.Reads.below r1 (hbo o1 o2)).more (hbo o1 o2).size) ((Kit.Reads.below r2 (hbo o1 o2)).more (hbo o1 o2).size) h63 b hb).mono fun e w' h => ⟨h.1, (hbo o1 o2).trans (h.2.mono (hbo o1 o2).size)⟩
  unfold ltV
  simp only
  have HB := Lib.hid hb
  have HBO := Lib.hid hbo
  clear hx hy hb hbo r1 r2 h63
  by_cases hk : k = k'
  case neg =>
    obtain rfl : b = false := by
      cases b
      · rfl
      · obtain ⟨⟨ek, ef, et, etm, eix, epv, ecm, eok, ed⟩, _⟩ := HB.out.1 rfl
        exact absurd ek hk
    have hne : (k == k') = false := by simp [hk]
    clear hk hsm
    go_enter Try.func14, Try.ntmps14
    go_wp2
    go_ret
    exact ⟨rfl, HBO.out _ _⟩
  subst hk
  by_cases hf : f = f'
  case neg =>
    obtain rfl : b = false := by
      cases b
      · rfl
      · obtain ⟨⟨ek, ef, et, etm, eix, epv, ecm, eok, ed⟩, _⟩ := HB.out.1 rfl
        exact absurd ef hf
    have hne : (f == f') = false := by simp [hf]
    clear hf hsm
    go_enter Try.func14, Try.ntmps14
    go_wp2
    go_ret
    exact ⟨rfl, HBO.out _ _⟩
  subst hf
  by_cases ht : t = t'
  case neg =>
    obtain rfl : b = false := by
      cases b
      · rfl
      · obtain ⟨⟨ek, ef, et, etm, eix, epv, ecm, eok, ed⟩, _⟩ := HB.out.1 rfl
        exact absurd et ht
    have hne : (t == t') = false := by simp [ht]
    clear ht hsm
    go_enter Try.func14, Try.ntmps14
    go_wp2
    go_ret
    exact ⟨rfl, HBO.out _ _⟩
  subst ht
  by_cases htm : tm = tm'
  case neg =>
    obtain rfl : b = false := by
      cases b
      · rfl
      · obtain ⟨⟨ek, ef, et, etm, eix, epv, ecm, eok, ed⟩, _⟩ := HB.out.1 rfl
        exact absurd etm htm
    have hne : (tm == tm') = false := by simp [htm]
    clear htm hsm
    go_enter Try.func14, Try.ntmps14
    go_wp2
    go_ret
    exact ⟨rfl, HBO.out _ _⟩
  subst htm
  by_cases hix : ix = ix'
  case neg =>
    obtain rfl : b = false := by
      cases b
      · rfl
      · obtain ⟨⟨ek, ef, et, etm, eix, epv, ecm, eok, ed⟩, _⟩ := HB.out.1 rfl
        exact absurd eix hix
    have hne : (ix == ix') = false := by simp [hix]
    clear hix hsm
    go_enter Try.func14, Try.ntmps14
    go_wp2
    go_ret
    exact ⟨rfl, HBO.out _ _⟩
  subst hix
  by_cases hpv : pv = pv'
  case neg =>
    obtain rfl : b = false := by
      cases b
      · rfl
      · obtain ⟨⟨ek, ef, et, etm, eix, epv, ecm, eok, ed⟩, _⟩ := HB.out.1 rfl
        exact absurd epv hpv
    have hne : (pv == pv') = false := by simp [hpv]
    clear hpv hsm
    go_enter Try.func14, Try.ntmps14
    go_wp2
    go_ret
    exact ⟨rfl, HBO.out _ _⟩
  subst hpv
  by_cases hcm : cm = cm'
  case neg =>
    obtain rfl : b = false := by
      cases b
      · rfl
      · obtain ⟨⟨ek, ef, et, etm, eix, epv, ecm, eok, ed⟩, _⟩ := HB.out.1 rfl
        exact absurd ecm hcm
    have hne : (cm == cm') = false := by simp [hcm]
    clear hcm hsm
    go_enter Try.func14, Try.ntmps14
    go_wp2
    go_ret
    exact ⟨rfl, HBO.out _ _⟩
  subst hcm
  by_cases hok : ok = ok'
  case neg =>
    obtain rfl : b = false := by
      cases b
      · rfl
      · obtain ⟨⟨ek, ef, et, etm, eix, epv, ecm, eok, ed⟩, _⟩ := HB.out.1 rfl
        exact absurd eok hok
    have hne : (ok == ok') = false := by simp [hok]
    clear hok hsm
    go_enter Try.func14, Try.ntmps14
    go_wp2
    go_ret
    exact ⟨rfl, HBO.out _ _⟩
  subst hok
  by_cases hd : d = d'
  case neg =>
    obtain rfl : b = false := by
      cases b
      · rfl
      · obtain ⟨⟨ek, ef, et, etm, eix, epv, ecm, eok, ed⟩, _⟩ := HB.out.1 rfl
        exact absurd ed hd
    have hne : (d.toList == d'.toList) = false := by rw [beq_eq_false_iff_ne]; exact mt (text_eq d d').1 hd
    clear hd hsm
    go_enter Try.func14, Try.ntmps14
    go_wp2
    go_ret
    exact ⟨rfl, HBO.out _ _⟩
  subst hd
  have hsd : b = true ↔ es = es' := by
    rw [HB.out]
    simp
  have hsm' := hsm b hsd
  have hee : (d.toList == d.toList) = true := by simp
  have HS := Lib.hid hsm'
  clear hsm hsm' hsd
  go_enter Try.func14, Try.ntmps14
  go_wp2_with fail
  with_reducible refine (HS.out _ _).mono ?_
  rintro e w1 ⟨rfl, hb⟩
  go_wp2
  go_ret
  exact ⟨rfl, hb⟩
end Go.Proofs.Ytkimeggojcgacaa.Same
