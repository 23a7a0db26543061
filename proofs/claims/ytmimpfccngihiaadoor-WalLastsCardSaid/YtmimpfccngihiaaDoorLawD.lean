/- The walk of the statement that a log that is laid anew is the elder one or the new one, wholly. -/
import Derived.Test.YtmimpfccngihiaaDoorLawB
set_option linter.unusedVariables false
set_option linter.unusedSimpArgs false
namespace Go.Proofs.YtmimpfccngihiaaDoor.LawD
open Go.RowKit Go.Proofs.YtmimpfccngihiaaDoor.Kit Go.Proofs.YtmimpfccngihiaaDoor.Blocks Go.Proofs.YtmimpfccngihiaaDoor.Stuff Go.Proofs.YtmimpfccngihiaaDoor.Crc Go.Proofs.YtmimpfccngihiaaDoor.SumB Go.Proofs.YtmimpfccngihiaaDoor.Wal Go.Proofs.YtmimpfccngihiaaDoor.StuWalkA Go.Proofs.YtmimpfccngihiaaDoor.FrA Go.Proofs.YtmimpfccngihiaaDoor.FrC Go.Proofs.YtmimpfccngihiaaDoor.ScA Go.Proofs.YtmimpfccngihiaaDoor.ScB Go.Proofs.YtmimpfccngihiaaDoor.Frm Go.Proofs.YtmimpfccngihiaaDoor.Model Go.Proofs.YtmimpfccngihiaaDoor.Disk Go.Proofs.YtmimpfccngihiaaDoor.Ops Go.Proofs.YtmimpfccngihiaaDoor.Log Go.Proofs.YtmimpfccngihiaaDoor.LogB Go.Proofs.YtmimpfccngihiaaDoor.LogC Go.Proofs.YtmimpfccngihiaaDoor.Solo Go.Proofs.YtmimpfccngihiaaDoor.Small Go.Proofs.YtmimpfccngihiaaDoor.Beg Go.Proofs.YtmimpfccngihiaaDoor.LawA Go.Proofs.YtmimpfccngihiaaDoor.LawB
open Go.Proofs.YtmimpfccngihiaaDoor.DskWalkC (str Got)
open Go.Proofs.YtmimpfccngihiaaDoor.DskWalkJ (inums)

/-- What becomes of the log, in plain words. -/
theorem anew_plain (la lb : List (List UInt8)) (x y : Int) (ha : Small.Fair la) (hb : Small.Fair lb) : ∃ m1 m2 m4 m6 r rl, wopen (M.new 1048576) ((0 : Nat) : Int) = ((0, []), m1) ∧ wappend m1 ((0 : Nat) : Int) la = (0, m2) ∧
    wanew (m2.fuelled x) ((0 : Nat) : Int) lb = (r, m4) ∧ wopen (m4.crash [y]) ((0 : Nat) : Int) = ((0, rl), m6) ∧ ((x = 0 ∧ r = 10 ∧ rl = la) ∨ (x ≠ 0 ∧ r = 0 ∧ rl = lb)) := by
  have hfa := ha.frames
  have hfb := hb.frames
  refine ⟨solo 1048576 (-1) false 0 [] [] true (fun _ => false), solo 1048576 (-1) false 0 (frames la) [] true (fun _ => false), ?_⟩
  have e1 : wopen (M.new 1048576) ((0 : Nat) : Int) = ((0, []), solo 1048576 (-1) false 0 [] [] true (fun _ => false)) := by
    rw [new_solo 1048576 0]
    exact solo_open_new (by omega) rfl
  have e2 : wappend (solo 1048576 (-1) false 0 [] [] true (fun _ => false)) ((0 : Nat) : Int) la = (0, solo 1048576 (-1) false 0 (frames la) [] true (fun _ => false)) := by
    have := solo_wappend_free (R := 1048576) (i := 0) (F := []) (T := fun _ => false) (by omega) la ha.recs (by simp only [List.length_nil]; omega)
    rwa [List.nil_append] at this
  have e3 := solo_wanew (R := 1048576) (f := max x (-1)) (i := 0) (F := frames la) (S := []) (t := true) (T := fun _ => false) (by omega) lb hb.recs (by omega)
  rw [← solo_fuelled (f := -1)] at e3
  by_cases hx : x = 0
  · rw [if_pos (by omega)] at e3
    obtain ⟨t', e4⟩ := solo_again (R := 1048576) (f := max x (-1)) (o := true) (i := 0) (F := frames la) (S := []) (T := fun _ => false) (by omega) (by simp only [List.length_nil]; omega) [y]
    rw [List.take_nil, List.append_nil, scan_all la ha.recs] at e4
    exact ⟨_, _, 10, la, e1, e2, e3, e4, .inl ⟨hx, rfl, rfl⟩⟩
  · rw [if_neg (by omega)] at e3
    obtain ⟨t', e4⟩ := solo_again (R := 1048576) (f := burn (max x (-1))) (o := false) (i := 0) (F := frames lb) (S := []) (T := fun _ => false) (by omega) (by simp only [List.length_nil]; omega) [y]
    rw [List.take_nil, List.append_nil, scan_all lb hb.recs] at e4
    exact ⟨_, _, 0, lb, e1, e2, e3, e4, .inr ⟨hx, rfl, rfl⟩⟩
theorem fuel_ls {B : Nat} {L : List Nat} {w W : World} {b p N : Nat} {n f : Int} {m m' : M} (h : LS B L w b p N n m W) (hb : b ∈ L) (h0 : -9223372036854775808 ≤ f) (h1 : f ≤ 9223372036854775807) (hm : Hid (m.fuelled f = m')) :
    Calls Tryd.prog 21 #[.pointer (some ⟨p, 0, none⟩), .int .i64 f] W fun e W' => e = .returned (.tuple #[]) ∧ LS B L w b p N n m' W' := by
  refine (fuel_has f h.disk h0 h1).mono ?_
  rintro e W' ⟨rfl, hd, hk⟩
  rw [hm.out] at hd
  exact ⟨rfl, h.log.keeps hk hb, hd, h.kept.trans hk⟩
theorem crash_lit {B : Nat} {L : List Nat} {w : World} {p N : Nat} {m m' : M} (KA : Option Addr) (kn kc : Nat) (keep : List Int) (h : Has B L w p N m) (hk : Reads w w.heap.size 1 KA kn (inums keep)) (hm : Hid (m.crash keep = m')) :
    Calls Tryd.prog 28 #[.pointer (some ⟨p, 0, none⟩), .slice KA kn kc] w fun e w' => ∃ p', e = .returned (.pointer (some ⟨p', 0, none⟩)) ∧ Has B L w' p' 16 m' ∧ Below w.heap.size w w' := by
  refine (crash_has KA kn kc keep h hk).mono ?_
  rintro e w' ⟨p', rfl, h1, _, _, h2⟩
  rw [hm.out] at h1
  exact ⟨p', rfl, h1, h2⟩

set_option maxRecDepth 100000 in
set_option maxHeartbeats 2000000 in
theorem anew_long (A1 A2 : Option Addr) (n1 c1 n2 c2 : Nat) (la lb : List (List UInt8)) (x y : Int) (w : World) (h1 : RS w A1 n1 la) (h2 : RS w A2 n2 lb) (hn1 : n1 ≤ 9223372036854775807) (hn2 : n2 ≤ 9223372036854775807)
    (hxa : ∀ z ∈ la, z.length ≤ 140737488355328) (hxb : ∀ z ∈ lb, z.length ≤ 140737488355328) (ht : Tab w) (hf : ¬ (Small.Fair la ∧ Small.Fair lb)) :
    Calls Tryd.prog 7 #[.slice A1 n1 c1, .slice A2 n2 c2, .agg #[.int .i64 x, .int .i64 y]] w fun e w' => e = .returned (.bool true) ∧ Below w.heap.size w w' := by
  have HT := Lib.hid ht
  have hb0 : Below w.heap.size w (w.alloc (.cells #[.int .i64 x, .int .i64 y] 32)) := (Below.refl _ _).alloc (Nat.le_refl _) _
  by_cases hfa : Small.Fair la
  · have hfb : ¬ Small.Fair lb := fun h => hf ⟨hfa, h⟩
    have HFA := Lib.hid (decide_eq_true hfa)
    have HFB := Lib.hid (decide_eq_false hfb)
    clear ht hf hfa hfb
    go_enter Tryd.func7, Tryd.ntmps7
    go_wp2_with fail
    go_quiet (fail)
    have hbW := below_drewN hb0 nq
    revert hbW
    generalize World.drewN _ nq = W0
    intro hbW
    go_wp2_with fail
    refine (begun_any _ (Tab.next HT.out hbW)).mono ?_
    rintro e w1 ⟨rfl, hb1⟩
    have hbel1 := hbW.trans (hb1.mono hbW.size)
    have hr1 := RS.below h1 hbel1
    have hr2 := RS.below h2 hbel1
    go_wp2_with fail
    refine (small_lit A1 n1 c1 la w1 hr1 hn1 hxa HFA).mono ?_
    rintro e w2 ⟨rfl, rfl⟩
    go_wp2_with fail
    refine (small_lit A2 n2 c2 lb w1 hr2 hn2 hxb HFB).mono ?_
    rintro e w2 ⟨rfl, rfl⟩
    go_wp2
    go_ret
    exact ⟨rfl, hbel1⟩
  · have HFA := Lib.hid (decide_eq_false hfa)
    clear ht hf hfa
    go_enter Tryd.func7, Tryd.ntmps7
    go_wp2_with fail
    go_quiet (fail)
    have hbW := below_drewN hb0 nq
    revert hbW
    generalize World.drewN _ nq = W0
    intro hbW
    go_wp2_with fail
    refine (begun_any _ (Tab.next HT.out hbW)).mono ?_
    rintro e w1 ⟨rfl, hb1⟩
    have hbel1 := hbW.trans (hb1.mono hbW.size)
    have hr1 := RS.below h1 hbel1
    have hr2 := RS.below h2 hbel1
    go_wp2_with fail
    refine (small_lit A1 n1 c1 la w1 hr1 hn1 hxa HFA).mono ?_
    rintro e w2 ⟨rfl, rfl⟩
    go_wp2
    go_ret
    exact ⟨rfl, hbel1⟩

set_option maxRecDepth 100000 in
set_option maxHeartbeats 8000000 in
theorem anew_fair (A1 A2 : Option Addr) (n1 c1 n2 c2 : Nat) (la lb : List (List UInt8)) (x y : Int) (w : World) (h1 : RS w A1 n1 la) (h2 : RS w A2 n2 lb) (hn1 : n1 ≤ 9223372036854775807) (hn2 : n2 ≤ 9223372036854775807)
    (hxa : ∀ z ∈ la, z.length ≤ 140737488355328) (hxb : ∀ z ∈ lb, z.length ≤ 140737488355328) (hx0 : -9223372036854775808 ≤ x) (hx1 : x ≤ 9223372036854775807) (ht : Tab w) (hfa : Small.Fair la) (hfb : Small.Fair lb) :
    Calls Tryd.prog 7 #[.slice A1 n1 c1, .slice A2 n2 c2, .agg #[.int .i64 x, .int .i64 y]] w fun e w' => e = .returned (.bool true) ∧ Below w.heap.size w w' := by
  have HT := Lib.hid ht
  have hb0 : Below w.heap.size w (w.alloc (.cells #[.int .i64 x, .int .i64 y] 32)) := (Below.refl _ _).alloc (Nat.le_refl _) _
  have hgb := Tab.lt ht
  have HFA := Lib.hid (decide_eq_true hfa)
  have HFB := Lib.hid (decide_eq_true hfb)
  have hl1 := texts_len h1
  have hl2 := texts_len h2
  have hk1 : n1 ≤ 200 := by have := hfa.2; omega
  have hk2 : n2 ≤ 200 := by have := hfb.2; omega
  obtain ⟨m1, m2, m4, m6, r, rl, e1, e2, e3, e4, hway⟩ := anew_plain la lb x y hfa hfb
  obtain ⟨m0, hm0⟩ : ∃ m0, M.new 1048576 = m0 := ⟨_, rfl⟩
  obtain ⟨m3, hm3⟩ : ∃ m3, m2.fuelled x = m3 := ⟨_, rfl⟩
  obtain ⟨m5, hm5⟩ : ∃ m5, m4.crash [y] = m5 := ⟨_, rfl⟩
  rw [hm0] at e1
  rw [hm3] at e3
  rw [hm5] at e4
  have HM0 := Lib.hid hm0
  have HM3 := Lib.hid hm3
  have HM5 := Lib.hid hm5
  have HE1 := Lib.hid e1
  have HE2 := Lib.hid e2
  have HE3 := Lib.hid e3
  have HE4 := Lib.hid e4
  have HWAY := Lib.hid hway
  clear ht hfa hfb hl1 hl2 hm0 hm3 hm5 e1 e2 e3 e4 hway
  go_enter Tryd.func7, Tryd.ntmps7
  go_wp2_with fail
  go_quiet (fail)
  have hbW := below_drewN hb0 nq
  revert hbW
  generalize World.drewN _ nq = W0
  intro hbW
  go_wp2_with fail
  refine (begun_any _ (Tab.next HT.out hbW)).mono ?_
  rintro e w1 ⟨rfl, hb1⟩
  have hbel1 := hbW.trans (hb1.mono hbW.size)
  have hr1 := RS.below h1 hbel1
  have hr2 := RS.below h2 hbel1
  go_wp2_with fail
  refine (small_lit A1 n1 c1 la w1 hr1 hn1 hxa HFA).mono ?_
  rintro e w2 ⟨rfl, rfl⟩
  go_wp2_with fail
  refine (small_lit A2 n2 c2 lb w1 hr2 hn2 hxb HFB).mono ?_
  rintro e w2 ⟨rfl, rfl⟩
  clear hr1 hr2
  go_wp2_with fail
  refine (new_has (B := w.heap.size) 1048576 (by omega) hbel1.size).mono ?_
  rintro e w2 ⟨p, rfl, hD2, hp, hb2⟩
  rw [HM0.out] at hD2
  have hbel2 := hbel1.trans (hb2.mono hbel1.size)
  go_wp2_with fail
  refine (open_ok 0 hD2 (Tab.next HT.out hbel2) hgb (by omega) HE1).mono ?_
  rintro e w3 ⟨b, A, k, c, rfl, hk, hlog, hrs, hD3, k3, hbb⟩
  have hbel3 := hbel2.trans (k3.below hD2.low)
  clear hrs k3
  go_wp2_with fail
  refine (write_lit A1 n1 c1 la hlog hD3 (by simp) (RS.below h1 hbel3) (Tab.next HT.out hbel3) (by omega) (by omega) (by omega) (by omega) HE2).mono ?_
  rintro e w4 ⟨rfl, hS4⟩
  have hbel4 := hbel3.trans (hS4.kept.below hbel3.size)
  go_wp2_with fail
  refine (fuel_ls hS4 (by simp) hx0 hx1 HM3).mono ?_
  rintro e w5 ⟨rfl, hS5⟩
  have hbel5 := hbel3.trans (hS5.kept.below hbel3.size)
  go_wp2_with fail
  refine (anew_lit A2 n2 c2 lb hS5.log hS5.disk (by simp) (RS.below h2 hbel5) (Tab.next HT.out hbel5) (by omega) (by omega) HE3).mono ?_
  rintro e w6 ⟨rfl, hS6⟩
  have hbel6 := hbel5.trans (hS6.kept.below hbel5.size)
  have hl6 : Below w6.heap.size w6 (w6.alloc (.cells #[.int .i64 y] 3)) := (Below.refl _ _).alloc (Nat.le_refl _) _
  have hrd : Reads (w6.alloc (.cells #[.int .i64 y] 3)) (w6.alloc (.cells #[.int .i64 y] 3)).heap.size 1 (some ⟨w6.heap.size, 0, none⟩) 1 (inums [y]) := (reads_one w6 (.int .i64 y) 3).more (by simp)
  have hD6 := hS6.disk.below hl6
  have hbel7 := hbel6.trans (hl6.mono hbel6.size)
  clear hS4 hS5 hS6
  go_wp2_with fail
  refine (crash_lit _ 1 1 [y] hD6 hrd HM5).mono ?_
  rintro e w8 ⟨p', rfl, hD8, hb8⟩
  have hbel8 := hbel7.trans (hb8.mono hbel7.size)
  go_wp2_with fail
  refine (open_ok 0 hD8 (Tab.next HT.out hbel8) hgb (by omega) HE4).mono ?_
  rintro e w9 ⟨b9, A9, k9, c9, rfl, hk9, hlog9, hrs9, hD9, k9', hbb9⟩
  have hbel9 := hbel8.trans (k9'.below hD8.low)
  clear hD6 hrd hD8 hlog9 hD9 k9'
  have hk9b : k9 ≤ 9223372036854775807 := by
    rcases HWAY.out with ⟨_, _, h⟩ | ⟨_, _, h⟩ <;> (rw [← hk9, h]; have := texts_len h1; have := texts_len h2; omega)
  by_cases hx : x = 0
  · obtain ⟨hr, hrl⟩ : r = 10 ∧ rl = la := by
      rcases HWAY.out with ⟨_, h⟩ | ⟨h, _⟩
      · exact h
      · exact absurd hx h
    clear HWAY HE3 HE4
    subst hr hrl hx
    go_wp2_with fail
    refine (same_yes A9 A1 k9 n1 c9 c1 rl w9 hrs9 (RS.below h1 hbel9) hk9b).mono ?_
    rintro e w10 ⟨rfl, hb10⟩
    go_wp2
    go_ret
    exact ⟨rfl, hbel9.trans (hb10.mono hbel9.size)⟩
  · obtain ⟨hr, hrl⟩ : r = 0 ∧ rl = lb := by
      rcases HWAY.out with ⟨h, _⟩ | ⟨_, h⟩
      · exact absurd h hx
      · exact h
    clear HWAY HE3 HE4
    subst hr hrl
    go_wp2_with fail
    refine (same_yes A9 A2 k9 n2 c9 c2 rl w9 hrs9 (RS.below h2 hbel9) hk9b).mono ?_
    rintro e w10 ⟨rfl, hb10⟩
    go_wp2
    go_ret
    exact ⟨rfl, hbel9.trans (hb10.mono hbel9.size)⟩
theorem anew_walk (A1 : Option Addr) (n1 c1 : Nat) (la : List (List UInt8)) (A2 : Option Addr) (n2 c2 : Nat) (lb : List (List UInt8)) (x y : Int) (w : World) (h1 : RS w A1 n1 la) (hn1 : n1 ≤ c1) (hc1 : c1 ≤ 9223372036854775807) (hxa : ∀ z ∈ la, z.length ≤ 140737488355328)
    (h2 : RS w A2 n2 lb) (hn2 : n2 ≤ c2) (hc2 : c2 ≤ 9223372036854775807) (hxb : ∀ z ∈ lb, z.length ≤ 140737488355328) (hx : (Lit.int .i64 x).wf = true) (_hy : (Lit.int .i64 y).wf = true) (ht : Tab w) :
    Calls Tryd.prog 7 #[.slice A1 n1 c1, .slice A2 n2 c2, .agg #[.int .i64 x, .int .i64 y]] w fun e w' => e = .returned (.bool true) ∧ Below w.heap.size w w' := by
  obtain ⟨h3, h4⟩ := i64_of hx
  by_cases hf : Small.Fair la ∧ Small.Fair lb
  · exact anew_fair A1 A2 n1 c1 n2 c2 la lb x y w h1 h2 (by omega) (by omega) hxa hxb h3 h4 ht hf.1 hf.2
  · exact anew_long A1 A2 n1 c1 n2 c2 la lb x y w h1 h2 (by omega) (by omega) hxa hxb ht hf
end Go.Proofs.YtmimpfccngihiaaDoor.LawD
