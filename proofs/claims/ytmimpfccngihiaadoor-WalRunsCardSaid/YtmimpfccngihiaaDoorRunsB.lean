/- The walk of the statement that a log is opened and written, on a disk that may go off, as the document has it (tools/gen_runs.py writes this text). -/
import Derived.Test.YtmimpfccngihiaaDoorRunsA
import Derived.Test.YtmimpfccngihiaaDoorLog
import Derived.Test.YtmimpfccngihiaaDoorLogC
import Derived.Test.YtmimpfccngihiaaDoorRefG
set_option linter.unusedVariables false
set_option linter.unusedSimpArgs false
namespace Go.Proofs.YtmimpfccngihiaaDoor.LawE
open Go.RowKit Go.Proofs.YtmimpfccngihiaaDoor.Kit Go.Proofs.YtmimpfccngihiaaDoor.Blocks Go.Proofs.YtmimpfccngihiaaDoor.Stuff Go.Proofs.YtmimpfccngihiaaDoor.Crc Go.Proofs.YtmimpfccngihiaaDoor.SumB Go.Proofs.YtmimpfccngihiaaDoor.Wal Go.Proofs.YtmimpfccngihiaaDoor.StuWalkA Go.Proofs.YtmimpfccngihiaaDoor.FrA Go.Proofs.YtmimpfccngihiaaDoor.FrC Go.Proofs.YtmimpfccngihiaaDoor.ScA Go.Proofs.YtmimpfccngihiaaDoor.ScB Go.Proofs.YtmimpfccngihiaaDoor.Frm Go.Proofs.YtmimpfccngihiaaDoor.Model Go.Proofs.YtmimpfccngihiaaDoor.Disk Go.Proofs.YtmimpfccngihiaaDoor.Ops Go.Proofs.YtmimpfccngihiaaDoor.Log Go.Proofs.YtmimpfccngihiaaDoor.LogB Go.Proofs.YtmimpfccngihiaaDoor.LogC Go.Proofs.YtmimpfccngihiaaDoor.Solo Go.Proofs.YtmimpfccngihiaaDoor.Small Go.Proofs.YtmimpfccngihiaaDoor.Beg Go.Proofs.YtmimpfccngihiaaDoor.LawA Go.Proofs.YtmimpfccngihiaaDoor.LawB Go.Proofs.YtmimpfccngihiaaDoor.LawD Go.Proofs.YtmimpfccngihiaaDoor.LawF
open Go.Proofs.YtmimpfccngihiaaDoor.DskWalkC (str Got)
open Go.Proofs.YtmimpfccngihiaaDoor.DskWalkJ (inums)
open Go.Proofs.YtmimpfccngihiaaDoor.Model.M (kept)

/-- Batches, one behind the other; what the statement counts of them. -/
def cat : List (List (List UInt8)) → List (List UInt8)
  | [] => []
  | c :: l => c ++ cat l
def cost : List (List (List UInt8)) → Nat
  | [] => 0
  | c :: l => (c.length + 1) + cost l
theorem cat_append : ∀ (a b : List (List (List UInt8))), cat (a ++ b) = cat a ++ cat b
  | [], _ => rfl
  | x :: a, b => by simp only [List.cons_append, cat, cat_append a b, List.append_assoc]
theorem cost_append : ∀ (a b : List (List (List UInt8))), cost (a ++ b) = cost a + cost b
  | [], _ => by simp [cost]
  | x :: a, b => by simp only [List.cons_append, cost, cost_append a b]; omega
theorem cat_succ {l : List (List (List UInt8))} {k : Nat} (h : k < l.length) : cat (l.take (k + 1)) = cat (l.take k) ++ l[k] := by
  rw [List.take_succ_eq_append_getElem h, cat_append]
  simp [cat]
theorem cost_succ {l : List (List (List UInt8))} {k : Nat} (h : k < l.length) : cost (l.take (k + 1)) = cost (l.take k) + (l[k].length + 1) := by
  rw [List.take_succ_eq_append_getElem h, cost_append]
  simp [cost]
theorem cost_le (l : List (List (List UInt8))) (k : Nat) : cost (l.take k) ≤ cost l := by
  conv => rhs; rw [← List.take_append_drop k l, cost_append]
  omega
theorem cat_few : ∀ l : List (List (List UInt8)), (cat l).length ≤ cost l
  | [] => Nat.le_refl _
  | c :: l => by have := cat_few l; simp only [cat, cost, List.length_append]; omega
/-- All batches are fair, and few. -/
structure Few (Bs : List (List (List UInt8))) : Prop where
  fair : ∀ c ∈ Bs, Small.Fair c
  few : cost Bs ≤ 100
theorem cat_frames : ∀ l : List (List (List UInt8)), (∀ c ∈ l, Small.Fair c) → 254 * (frames (cat l)).length ≤ 2551528 * cost l
  | [], _ => by simp [cat, frames]
  | c :: l, h => by
    have h1 := cat_frames l fun y hy => h y (List.mem_cons_of_mem _ hy)
    have h2 := frames_short c
    have h3 := (h c (by simp)).1
    simp only [cat, cost, frames_append, List.length_append]
    rcases Nat.eq_zero_or_pos c.length with h0 | h0
    · have hc : c = [] := List.eq_nil_of_length_eq_zero h0
      subst hc
      simp [weigh] at h2
      omega
    · omega
theorem cat_recs : ∀ l : List (List (List UInt8)), (∀ c ∈ l, Small.Fair c) → Recs (cat l)
  | [], _ => by intro x hx; simp [cat] at hx
  | c :: l, h => (h c (by simp)).recs.append (cat_recs l fun y hy => h y (List.mem_cons_of_mem _ hy))
theorem Few.take {Bs : List (List (List UInt8))} (h : Few Bs) (k : Nat) : Few (Bs.take k) := ⟨fun c hc => h.fair c (List.mem_of_mem_take hc), Nat.le_trans (cost_le Bs k) h.few⟩
theorem Few.bytes {Bs : List (List (List UInt8))} (h : Few Bs) : (frames (cat Bs)).length ≤ 1004700 := by have := cat_frames Bs h.fair; have := h.few; omega

/-- A disk whose log has just these records, and goes on. -/
def Liv (J : List (List UInt8)) (m : M) : Prop := ∃ f, m = solo 1048576 f false 0 (frames J) [] true (fun _ => false)
/-- What is left behind a crash: the sure ones, and some first ones of all. -/
def Fin (sure all : List (List UInt8)) (m : M) : Prop := ∀ keep : List Int, ∃ rl m6, wopen (m.crash keep) ((0 : Nat) : Int) = ((0, rl), m6) ∧ sure.length ≤ rl.length ∧ rl = all.take rl.length
theorem Liv.fin {J : List (List UInt8)} {m : M} (h : Liv J m) (hr : Recs J) (hs : (frames J).length ≤ 1048576) : Fin J J m := by
  obtain ⟨f, rfl⟩ := h
  intro keep
  have e := crash_there (R := 1048576) (f := f) (o := false) (i := 0) (F := frames J) (S := []) (T := fun _ => false) (by omega) (by simp only [List.length_nil]; omega) keep
  rw [List.take_nil, List.append_nil, scan_all J hr] at e
  exact ⟨J, _, e, Nat.le_refl _, by simp⟩
theorem Liv.next {J c : List (List UInt8)} {m : M} (h : Liv J m) (hr : Recs (J ++ c)) (hs : (frames (J ++ c)).length ≤ 1048576) : ∃ r m', wappend m ((0 : Nat) : Int) c = (r, m') ∧ ((r = 0 ∧ Liv (J ++ c) m') ∨ (r = 10 ∧ Fin J (J ++ c) m')) := by
  obtain ⟨f, rfl⟩ := h
  have hJ : Recs J := fun x hx => hr x (List.mem_append_left _ hx)
  have hc : Recs c := fun x hx => hr x (List.mem_append_right _ hx)
  have hfs := frames_append J c
  have hlen : (frames J).length + (frames c).length ≤ 1048576 := by rw [hfs, List.length_append] at hs; exact hs
  have e := solo_wappend (R := 1048576) (f := f) (i := 0) (F := frames J) (T := fun _ => false) (by omega) c hc hlen
  by_cases h0 : f = 0
  · rw [if_pos h0] at e
    refine ⟨_, _, e, .inr ⟨rfl, fun keep => ?_⟩⟩
    have e2 := crash_there (R := 1048576) (f := f) (o := true) (i := 0) (F := frames J) (S := []) (T := fun _ => false) (by omega) (by simp only [List.length_nil]; omega) keep
    rw [List.take_nil, List.append_nil, scan_all J hJ] at e2
    exact ⟨J, _, e2, Nat.le_refl _, by simp⟩
  · rw [if_neg h0] at e
    by_cases h1 : f = 1
    · rw [if_pos h1] at e
      refine ⟨_, _, e, .inr ⟨rfl, fun keep => ?_⟩⟩
      have e2 := crash_there (R := 1048576) (f := 0) (o := true) (i := 0) (F := frames J) (S := frames c) (T := fun _ => false) (by omega) hlen keep
      rw [crash_scan J c _ hJ hc (kept_le keep 0 _)] at e2
      obtain ⟨q, hq⟩ : ∃ q, cut c (kept keep 0 (frames c).length) = q := ⟨_, rfl⟩
      have hqc := cut_le c (kept keep 0 (frames c).length)
      rw [hq] at e2 hqc
      have hl : (J ++ c.take q).length = J.length + q := by rw [List.length_append, List.length_take]; omega
      refine ⟨_, _, e2, by rw [hl]; omega, ?_⟩
      rw [hl, List.take_append, List.take_of_length_le (show J.length ≤ J.length + q by omega), Nat.add_sub_cancel_left]
    · rw [if_neg h1] at e
      exact ⟨_, _, e, .inl ⟨rfl, _, by rw [hfs]⟩⟩

theorem holds_at {w w' : World} {a : Option Addr} {n : Nat} {L : List (List (List UInt8))} (h : Opens.Holds w a n L) (hb : Below w.heap.size w w') (k : Nat) (hk : k < L.length) :
    ∃ b o A m c, a = some ⟨b, o, none⟩ ∧ w'.cell? ⟨b, o + k, none⟩ = some (.slice A m c) ∧ Reads w' w.heap.size 1 A m (strs L[k]) ∧ m ≤ c ∧ c ≤ 9223372036854775807 := by
  obtain ⟨b, o, A, m, c, rfl, hlt, hc, hr⟩ := h.2 k hk
  exact ⟨b, o, A, m, c, rfl, (hb.cell (p := ⟨b, o + k, none⟩) hlt).trans hc, Kit.Reads.below hr.reads hb, hr.fits, hr.max⟩
theorem log_beside {w w' : World} {b p base n : Nat} {f : Int} {v : Value} {xs : List Value} (h : LogAt w b p f) (hown : w.ownsRow base 9 1 v n xs) (hg : w.grownBy w' v.ownBlock) : LogAt w' b p f := by
  have hne := Lib.ownBlock_ne hown h (by decide)
  exact (hg.block b (lt_at h) (fun e => hne e.symm)).trans h
/-- A disk beside a row that grows. -/
theorem has_grown {B base n : Nat} {L : List Nat} {W W' : World} {p N : Nat} {m : M} {v v' : Value} {e : TypeId} {xs : List Value} (h : Has B L W p N m) (hg : W.grownBy W' v.ownBlock) (hv : ∀ g, v.ownBlock = some g → g ∈ L)
    (hown : W'.ownsRow base e 1 v' n xs) (hat : v'.ownBlock = v.ownBlock ∨ v'.ownBlock = some W.heap.size) : ∃ L', (∀ y, y ∈ L → y ∈ L') ∧ Has B L' W' p N m ∧ ∀ g, v'.ownBlock = some g → g ∈ L' := by
  have ho : Only (fun q => v.ownBlock = some q) W W' := (Only.refl _ W).grown hg fun g hg' => .inr hg'
  obtain ⟨A, c, mb, x, hD, hF⟩ := h.disk
  have hD' := hD.keep ho fun b hb e => (hF b hb).2 (hv b e)
  have hl : Has B L W' p N m := ⟨h.fine, Nat.le_trans h.low ho.size, fun b hb => Nat.lt_of_lt_of_le (h.old b hb) ho.size, A, c, mb, x, hD', hF⟩
  rcases hat with hat | hat
  · exact ⟨L, fun y hy => hy, hl, fun g hg' => hv g (by rw [← hat]; exact hg')⟩
  · have hlt := (hown.lt _ hat).2
    refine ⟨W.heap.size :: L, fun y hy => List.mem_cons_of_mem _ hy, ⟨h.fine, hl.low, fun b hb => ?_, A, c, mb, x, hD', fun q hq => ⟨(hF q hq).1, fun e => ?_⟩⟩, fun g hg' => ?_⟩
    · rcases List.mem_cons.1 hb with rfl | hb
      · exact hlt
      · exact hl.old b hb
    · rcases List.mem_cons.1 e with rfl | e
      · have := hD.foot_lt hq; omega
      · exact (hF q hq).2 e
    · rw [hat] at hg'
      injection hg' with hg'
      rw [← hg']
      simp

set_option maxRecDepth 100000 in
set_option maxHeartbeats 16000000 in
theorem lasts_mid (A : Option Addr) (n c : Nat) (Bs : List (List (List UInt8))) (fuel keep : Int) (w : World) (h : Opens.Holds w A n Bs) (hn : n ≤ c) (hc : c ≤ 9223372036854775807) (hx : ∀ l ∈ Bs, ∀ z ∈ l, z.length ≤ 140737488355328)
    (hf0 : -9223372036854775808 ≤ fuel) (hf1 : fuel ≤ 9223372036854775807) (ht : Tab w) :
    Calls Tryd.prog 6 #[.slice A n c, .int .i64 fuel, .int .i64 keep] w fun e w' => e = .returned (.bool true) ∧ Below w.heap.size w w' := by
  obtain ⟨i0, hi0, hz0, hz1, hz2⟩ := info_parts info9
  have HT := Lib.hid ht
  have hgb := Tab.lt ht
  have HL : Hid (Bs.length = n) := h.1
  have HX := Lib.hid hx
  have HH := Lib.hid h
  obtain ⟨m0, hm0⟩ : ∃ m0, M.new 1048576 = m0 := ⟨_, rfl⟩
  have hN0 : wopen (M.new 1048576) ((0 : Nat) : Int) = ((0, []), solo 1048576 (-1) false 0 [] [] true (fun _ => false)) := by
    rw [new_solo 1048576 0]
    exact solo_open_new (by omega) rfl
  obtain ⟨m1, hm1⟩ : ∃ m1, solo 1048576 (-1) false 0 [] [] true (fun _ => false) = m1 := ⟨_, rfl⟩
  obtain ⟨m2, hm2⟩ : ∃ m2, m1.fuelled fuel = m2 := ⟨_, rfl⟩
  have hliv0 : Liv [] m2 := ⟨max fuel (-1), by rw [← hm2, ← hm1, solo_fuelled]; rfl⟩
  rw [hm0, hm1] at hN0
  have HM0 := Lib.hid hm0
  have HM2 := Lib.hid hm2
  have HO0 := Lib.hid hN0
  have HLIV0 := Lib.hid hliv0
  clear ht hx h hm0 hN0 hm1 hm2 hliv0
  go_enter Tryd.func6, Tryd.ntmps6
  go_wp2_with fail
  refine (begun_any _ HT.out).mono ?_
  rintro e w1 ⟨rfl, hb1⟩
  go_wp2_with fail
  go_loop [7, 26] (fun s i => ∃ (k : Nat), k ≤ n ∧ i = .int .i64 (k : Int) ∧ s = .int .i64 (cost (Bs.take k) : Int) ∧ Hid (Few (Bs.take k))) (fun _ i => n - (intOf i).toNat)
  case atStart => exact ⟨0, by omega, rfl, rfl, ⟨fun c hc => by simp at hc, by simp [cost]⟩⟩
  case round =>
    obtain ⟨k, hk, rfl, rfl, hfew⟩ := hrel
    by_cases hkn : k < n
    · have hkl : k < Bs.length := by rw [HL.out]; exact hkn
      obtain ⟨b, o, A1, q1, c1, rfl, hcell, hr1, hq1, hc1⟩ := HH.out.at_ hb1 k hkl
      obtain ⟨cl, hcl⟩ : ∃ cl, Bs[k] = cl := ⟨_, rfl⟩
      have hmem : cl ∈ Bs := by rw [← hcl]; exact List.getElem_mem hkl
      have hxk := HX.out cl hmem
      rw [hcl] at hr1
      have hq1l : cl.length = q1 := texts_len hr1
      have hcs := cost_succ hkl
      rw [hcl] at hcs
      have hts := List.take_succ_eq_append_getElem hkl
      rw [hcl] at hts
      have hfw := hfew.out.few
      by_cases hfair : Small.Fair cl
      · have HFA := Lib.hid (decide_eq_true hfair)
        have hq200 : q1 ≤ 200 := by have := hfair.2; omega
        by_cases h100 : cost (Bs.take k) + (q1 + 1) ≤ 100
        · have hnext : Hid (Few (Bs.take (k + 1))) := ⟨fun y hy => by
            rw [hts] at hy
            rcases List.mem_append.1 hy with hy | hy
            · exact hfew.out.fair y hy
            · simp only [List.mem_singleton] at hy
              subst hy
              exact hfair, by rw [hcs, hq1l]; exact h100⟩
          obtain ⟨u, hu⟩ : ∃ u, cost (Bs.take k) = u := ⟨_, rfl⟩
          rw [hu, hq1l] at hcs
          rw [hu] at h100
          rw [hu]
          have h100i : ¬ (100 : Int) < (u : Int) + ((q1 : Int) + 1) := by omega
          have HCS := Lib.hid hcs
          clear hcl hcs hts hfair hu
          go_wp2_with fail
          refine (small_lit A1 q1 c1 cl _ hr1 (by omega) hxk HFA).mono ?_
          rintro e w2 ⟨rfl, rfl⟩
          go_wp2
          go_round
          case rel => exact ⟨k + 1, by omega, by go_num, by rw [HCS.out]; go_num, hnext⟩
          case measure => simp [intOf]; omega
        · obtain ⟨u, hu⟩ : ∃ u, cost (Bs.take k) = u := ⟨_, rfl⟩
          rw [hu] at h100
          rw [hu]
          have hu100 : u ≤ 100 := by rw [← hu]; exact hfw
          have h100i : (100 : Int) < (u : Int) + ((q1 : Int) + 1) := by omega
          clear hcl hcs hts hfair hu
          go_wp2_with fail
          refine (small_lit A1 q1 c1 cl _ hr1 (by omega) hxk HFA).mono ?_
          rintro e w2 ⟨rfl, rfl⟩
          go_wp2
          go_ret
          exact ⟨rfl, hb1⟩
      · have HFA := Lib.hid (decide_eq_false hfair)
        clear hcl hcs hts hfair
        go_wp2_with fail
        refine (small_lit A1 q1 c1 cl _ hr1 (by omega) hxk HFA).mono ?_
        rintro e w2 ⟨rfl, rfl⟩
        go_wp2
        go_ret
        exact ⟨rfl, hb1⟩
    · obtain rfl : k = n := by omega
      have hfull : Bs.take k = Bs := List.take_of_length_le (by rw [HL.out]; omega)
      rw [hfull] at hfew
      clear hfull hkn hk
      have hk100 : k ≤ 100 := by
        have h1 : ∀ l : List (List (List UInt8)), l.length ≤ cost l := fun l => by
          induction l with
          | nil => simp
          | cons c l ih => simp only [cost, List.length_cons]; omega
        have := h1 Bs
        have := hfew.out.few
        rw [HL.out] at *
        omega
      go_wp2_with fail
      refine (new_has (B := w.heap.size) 1048576 (by omega) hb1.size).mono ?_
      rintro e w2 ⟨p, rfl, hD2, hp, hb2⟩
      rw [HM0.out] at hD2
      have hbel2 := hb1.trans (hb2.mono hb1.size)
      go_wp2_with fail
      refine (open_ok 0 hD2 (Tab.next HT.out hbel2) hgb (by omega) HO0).mono ?_
      rintro e w3 ⟨bl, A3, k3, c3, rfl, hk3, hlog3, hrs3, hD3, kk3, hbb3⟩
      have hbel3 := hbel2.trans (kk3.below hD2.low)
      clear hrs3 kk3
      go_wp2_with fail
      refine (fuel_ls (w := w3) ⟨hlog3, hD3, Keeps.refl _ _ _⟩ (by simp) hf0 hf1 HM2).mono ?_
      rintro e w4 ⟨rfl, hS4⟩
      have hbel4 := hbel3.trans (hS4.kept.below hbel3.size)
      obtain ⟨n, hnk⟩ : ∃ n, k = n := ⟨_, rfl⟩
      rw [hnk] at hn hk100 HL HH ⊢
      clear hnk hD2 hlog3 hD3
      have hD4 := hS4.disk
      have hlog4 := hS4.log
      clear hS4
      go_wp2_with fail
      go_loopw [15, 16, 60] (fun s v i wr => ∃ (k : Nat) (As : Option Addr) (cs : Nat) (L : List Nat) (m : M) (N : Nat), k ≤ n ∧ i = .int .i64 (k : Int) ∧ s = .slice As (cat (Bs.take k)).length cs ∧ wr.ownsRow w.heap.size 9 1 v (cat (Bs.take k)).length (strs (cat (Bs.take k))) ∧
        (∀ g, v.ownBlock = some g → g ∈ L) ∧ bl ∈ L ∧ LogAt wr bl p 0 ∧ Has w.heap.size L wr p N m ∧ N ≤ 2 * k + 2 ∧ Hid (Liv (cat (Bs.take k)) m) ∧ Below w.heap.size w wr) (fun _ _ i _ => n - (intOf i).toNat)
      case atStart => exact ⟨0, none, 0, [bl], m2, 2, by omega, rfl, rfl, World.ownsRow_nil _ _ _ _, by simp [Value.ownBlock], by simp, hlog4, hD4, by omega, HLIV0, hbel4⟩
      case round =>
        obtain ⟨k, As, cs, L, m, N, hk, rfl, rfl, hown, hv, hbl, hlog, hD, hNk, hliv, hbel⟩ := hrel
        have hB := hbel.size
        by_cases hkn : k < n
        · have hkl : k < Bs.length := by rw [HL.out]; exact hkn
          obtain ⟨b, o, A1, q1, c1, hA, hcell, hr1, hq1, hc1⟩ := holds_at HH.out hbel k hkl
          subst hA
          obtain ⟨cl, hcl⟩ : ∃ cl, Bs[k] = cl := ⟨_, rfl⟩
          rw [hcl] at hr1
          have hq1l : cl.length = q1 := texts_len hr1
          have hcat := cat_succ hkl
          rw [hcl] at hcat
          have hmem : cl ∈ Bs := by rw [← hcl]; exact List.getElem_mem hkl
          have hfk := hfew.out.take (k + 1)
          have hrec := cat_recs _ hfk.fair
          have hbytes := hfk.bytes
          have hcost := cat_few (Bs.take (k + 1))
          have hc100 := hfk.few
          have hlen : (cat (Bs.take k)).length + q1 = (cat (Bs.take (k + 1))).length := by rw [hcat, List.length_append, hq1l]
          have hq200 : q1 ≤ 200 := by have := (hfew.out.fair cl hmem).2; omega
          obtain ⟨r, m', hw, hway⟩ := hliv.out.next (c := cl) (by rw [← hcat]; exact hrec) (by rw [← hcat]; omega)
          rw [← hcat] at hway
          have HW := Lib.hid hw
          have HWAY := Lib.hid hway
          have HCAT := Lib.hid hcat
          have HREC := Lib.hid hrec
          have HBY := Lib.hid hbytes
          have HLEN := Lib.hid hlen
          have hm1 : (cat (Bs.take k)).length + q1 ≤ maxLen := by unfold maxLen; omega
          have hs1 : ((cat (Bs.take k)).length + q1) * 16 ≤ 140737488355328 := by omega
          have HSM : Hid ((cat (Bs.take (k + 1))).length ≤ 100) := Nat.le_trans hcost hc100
          clear hw hway hcat hrec hbytes hcl hcost hc100 hfk hmem hlen
          go_wp2_with fail
          refine (write_lit A1 q1 c1 cl hlog hD hbl (hr1.more hB) (Tab.next HT.out hbel) (by omega) (by omega) (by omega) (by omega) HW).mono ?_
          rintro e w4 ⟨rfl, hS4⟩
          have hbel4 := hbel.trans (hS4.kept.below hB)
          have hown4 : w4.ownsRow w.heap.size 9 1 u16 (cat (Bs.take k)).length (strs (cat (Bs.take k))) := Only.own hS4.kept hown fun g hg hn => hn.2 (hv g hg)
          have hr4 : Reads w4 w.heap.size 1 A1 q1 (strs cl) := Kit.Reads.below hr1 (hS4.kept.below hB)
          have hD4 := hS4.disk
          have hlog4 := hS4.log
          clear hS4 hown hr1
          rcases HWAY.out with ⟨hr0, hliv5⟩ | ⟨hr0, hfin5⟩
          · subst hr0
            have HLV := Lib.hid hliv5
            clear hliv5 HWAY
            go_wp2_with (first
              | (at_builtin
                 refine wpList_append_any _ rfl (.tmp 67) (.tmp 68) _ rfl w.heap.size 9 i0 _ 1 16 Tryd.underlying23 hi0 hz0 hz1 hz2 rfl (by decide) _ (cat (Bs.take k)).length (strs (cat (Bs.take k))) rfl hown4
                   w.heap.size A1 q1 c1 (strs cl) rfl hr4 (strs_one _) hm1 hs1 hbel4.size ?_
                 intro v5 w5 hown5 hg5 hat5
                 obtain ⟨L5, hsub5, hD5, hv5⟩ := has_grown (v := u16) hD4 hg5 hv hown5 hat5
                 have hlog5 := log_beside (v := u16) hlog4 hown4 hg5
                 have hbel5 : Below w.heap.size w w5 := hbel4.grown hg5 hbel4.size (own_lt hown4)
                 have hown5' : w5.ownsRow w.heap.size 9 1 v5 (cat (Bs.take (k + 1))).length (strs (cat (Bs.take (k + 1)))) := own_cast hown5 HLEN.out (by rw [HCAT.out, strs_append])
                 obtain ⟨A5, c5, hve5, hc51, hc52, hr5⟩ := own_form hown5'
                 subst hve5
                 clear hown5 hat5 hg5 hown4 hD4 hlog4)
              | (at_builtin
                 refine wpList_append_any _ rfl (.const (.slice none 0 0)) (.tmp 74) _ rfl w.heap.size 9 i0 _ 1 16 Tryd.underlying23 hi0 hz0 hz1 hz2 rfl (by decide) (.slice none 0 0) 0 [] rfl (World.ownsRow_nil _ _ _ _)
                   w5.heap.size A5 (cat (Bs.take (k + 1))).length c5 (strs (cat (Bs.take (k + 1)))) rfl hr5 (strs_one _) (by have := HSM.out; unfold maxLen; omega) (by have := HSM.out; omega) hbel5.size ?_
                 intro v6 w6 hown6 hg6 hat6
                 have hg6' : w5.grownBy w6 (Value.slice none 0 0).ownBlock := hg6
                 have hb6 : Below w5.heap.size w5 w6 := (Below.refl _ _).grown hg6' (Nat.le_refl _) (fun g hg => by cases hg)
                 rw [Nat.zero_add] at hown6
                 obtain ⟨A6, c6, hve6, _, _, _⟩ := own_form hown6
                 subst hve6
                 clear hg6 hg6' hat6))
            go_roundw
            case rel => exact ⟨k + 1, A6, c6, L5, m', N + 2, by omega, by go_num, rfl, own_below hown5' hb6, hv5, hsub5 _ hbl, hlog5.below hb6, hD5.below hb6, by omega, HLV, hbel5.trans (hb6.mono hbel5.size)⟩
            case measure => simp [intOf]; omega
          · subst hr0
            have HFIN1 := Lib.hid hfin5
            clear hfin5 HWAY
            go_wp2_with
              (at_builtin
               refine wpList_append_any _ rfl (.tmp 67) (.tmp 68) _ rfl w.heap.size 9 i0 _ 1 16 Tryd.underlying23 hi0 hz0 hz1 hz2 rfl (by decide) _ (cat (Bs.take k)).length (strs (cat (Bs.take k))) rfl hown4
                 w.heap.size A1 q1 c1 (strs cl) rfl hr4 (strs_one _) hm1 hs1 hbel4.size ?_
               intro v5 w5 hown5 hg5 hat5
               obtain ⟨L5, hsub5, hD5, hv5⟩ := has_grown (v := u16) hD4 hg5 hv hown5 hat5
               have hbel5 : Below w.heap.size w w5 := hbel4.grown hg5 hbel4.size (own_lt hown4)
               have hown : w5.ownsRow w.heap.size 9 1 v5 (cat (Bs.take (k + 1))).length (strs (cat (Bs.take (k + 1)))) := own_cast hown5 HLEN.out (by rw [HCAT.out, strs_append])
               clear hown5 hat5 hg5 hown4 hD4 hlog4)
            obtain ⟨m5, hm5⟩ : ∃ m5, m'.crash [keep] = m5 := ⟨_, rfl⟩
            obtain ⟨rl, m6, g1, g2, g3⟩ := (HFIN1).out [keep]
            rw [hm5] at g1
            have hsmall := HSM.out
            have HM5 := Lib.hid hm5
            have HO := Lib.hid g1
            obtain ⟨A6, c6, hve, hc61, hc62, hr6⟩ := own_form hown
            subst hve
            have hl6 : Below w5.heap.size w5 (w5.alloc (.cells #[.int .i64 keep] 3)) := (Below.refl _ _).alloc (Nat.le_refl _) _
            have hrd : Reads (w5.alloc (.cells #[.int .i64 keep] 3)) (w5.alloc (.cells #[.int .i64 keep] 3)).heap.size 1 (some ⟨w5.heap.size, 0, none⟩) 1 (inums [keep]) := (reads_one w5 (.int .i64 keep) 3).more (by simp)
            have hD6 := hD5.below hl6
            have hown6 := own_below hown hl6
            have hbel7 := hbel5.trans (hl6.mono hbel5.size)
            have hrle : rl.length ≤ (cat (Bs.take (k + 1))).length := by rw [g3, List.length_take]; omega
            have G3 := Lib.hid g3
            clear hm5 g1 g3 hr6 hown
            go_wp2_with fail
            refine (crash_lit _ 1 1 [keep] hD6 hrd HM5).mono ?_
            rintro e w8 ⟨p8, rfl, hD8, hb8⟩
            have hbel8 := hbel7.trans (hb8.mono hbel7.size)
            have hown8 := own_below hown6 hb8
            go_wp2_with fail
            refine (open_ok 0 hD8 (Tab.next HT.out hbel8) hgb (by omega) HO).mono ?_
            rintro e w9 ⟨b9, A9, k9, c9, rfl, hk9, hlog9, hrs9, hD9, kk9, hbb9⟩
            have hbel9 := hbel8.trans (kk9.below hD8.low)
            have hown9 : w9.ownsRow w.heap.size 9 1 (.slice A6 (cat (Bs.take (k + 1))).length c6) (cat (Bs.take (k + 1))).length (strs (cat (Bs.take (k + 1)))) := Only.own kk9 hown8 fun g hg hn => hn.2 (hv5 g hg)
            have hup : RS w9 A6 k9 ((cat (Bs.take (k + 1))).take k9) := RS.upto (Reads.of_own hown9) (by rw [← hk9]; exact hrle)
            have e9 : (cat (Bs.take (k + 1))).take k9 = rl := by rw [← hk9]; exact G3.out.symm
            rw [e9] at hup
            have i1 : ((cat (Bs.take k)).length : Int) ≤ (k9 : Int) := by rw [← hk9]; have := g2; omega
            have i2 : (k9 : Int) ≤ ((cat (Bs.take (k + 1))).length : Int) := by rw [← hk9]; omega
            have i3 : k9 ≤ c6 := by rw [← hk9]; omega
            clear hD6 hrd hown6 hD8 hown8 hlog9 hD9 kk9 hown9
            go_wp2_with fail
            refine (same_yes A9 A6 k9 k9 c9 c6 rl w9 hrs9 hup (by omega)).mono ?_
            rintro e w10 ⟨rfl, hb10⟩
            go_wp2
            go_ret
            exact ⟨rfl, hbel9.trans (hb10.mono hbel9.size)⟩
        · obtain rfl : k = n := by omega
          have hfk := hfew.out.take k
          have HFIN1 := Lib.hid (hliv.out.fin (cat_recs _ hfk.fair) (by have := hfk.bytes; omega))
          have hsm := Nat.le_trans (cat_few (Bs.take k)) hfk.few
          clear hfk hliv
          obtain ⟨m5, hm5⟩ : ∃ m5, m.crash [keep] = m5 := ⟨_, rfl⟩
          obtain ⟨rl, m6, g1, g2, g3⟩ := (HFIN1).out [keep]
          rw [hm5] at g1
          have hsmall := hsm
          have HM5 := Lib.hid hm5
          have HO := Lib.hid g1
          obtain ⟨A6, c6, hve, hc61, hc62, hr6⟩ := own_form hown
          subst hve
          have hl6 : Below wr.heap.size wr (wr.alloc (.cells #[.int .i64 keep] 3)) := (Below.refl _ _).alloc (Nat.le_refl _) _
          have hrd : Reads (wr.alloc (.cells #[.int .i64 keep] 3)) (wr.alloc (.cells #[.int .i64 keep] 3)).heap.size 1 (some ⟨wr.heap.size, 0, none⟩) 1 (inums [keep]) := (reads_one wr (.int .i64 keep) 3).more (by simp)
          have hD6 := hD.below hl6
          have hown6 := own_below hown hl6
          have hbel7 := hbel.trans (hl6.mono hbel.size)
          have hrle : rl.length ≤ (cat (Bs.take k)).length := by rw [g3, List.length_take]; omega
          have G3 := Lib.hid g3
          clear hm5 g1 g3 hr6 hown
          go_wp2_with fail
          refine (crash_lit _ 1 1 [keep] hD6 hrd HM5).mono ?_
          rintro e w8 ⟨p8, rfl, hD8, hb8⟩
          have hbel8 := hbel7.trans (hb8.mono hbel7.size)
          have hown8 := own_below hown6 hb8
          go_wp2_with fail
          refine (open_ok 0 hD8 (Tab.next HT.out hbel8) hgb (by omega) HO).mono ?_
          rintro e w9 ⟨b9, A9, k9, c9, rfl, hk9, hlog9, hrs9, hD9, kk9, hbb9⟩
          have hbel9 := hbel8.trans (kk9.below hD8.low)
          have hown9 : w9.ownsRow w.heap.size 9 1 (.slice A6 (cat (Bs.take k)).length c6) (cat (Bs.take k)).length (strs (cat (Bs.take k))) := Only.own kk9 hown8 fun g hg hn => hn.2 (hv g hg)
          have hup : RS w9 A6 k9 ((cat (Bs.take k)).take k9) := RS.upto (Reads.of_own hown9) (by rw [← hk9]; exact hrle)
          have e9 : (cat (Bs.take k)).take k9 = rl := by rw [← hk9]; exact G3.out.symm
          rw [e9] at hup
          have i1 : ((cat (Bs.take k)).length : Int) ≤ (k9 : Int) := by rw [← hk9]; have := g2; omega
          have i2 : (k9 : Int) ≤ ((cat (Bs.take k)).length : Int) := by rw [← hk9]; omega
          have i3 : k9 ≤ c6 := by rw [← hk9]; omega
          clear hD6 hrd hown6 hD8 hown8 hlog9 hD9 kk9 hown9
          go_wp2_with fail
          refine (same_yes A9 A6 k9 k9 c9 c6 rl w9 hrs9 hup (by omega)).mono ?_
          rintro e w10 ⟨rfl, hb10⟩
          go_wp2
          go_ret
          exact ⟨rfl, hbel9.trans (hb10.mono hbel9.size)⟩
theorem lasts_walk (A : Option Addr) (n c : Nat) (Bs : List (List (List UInt8))) (fuel keep : Int) (w : World) (h : Opens.Holds w A n Bs) (hn : n ≤ c) (hc : c ≤ 9223372036854775807) (hx : ∀ l ∈ Bs, ∀ z ∈ l, z.length ≤ 140737488355328)
    (hf : (Lit.int .i64 fuel).wf = true) (_hk : (Lit.int .i64 keep).wf = true) (ht : Tab w) :
    Calls Tryd.prog 6 #[.slice A n c, .int .i64 fuel, .int .i64 keep] w fun e w' => e = .returned (.bool true) ∧ Below w.heap.size w w' := by
  obtain ⟨h0, h1⟩ := i64_of hf
  exact lasts_mid A n c Bs fuel keep w h hn hc hx h0 h1 ht
end Go.Proofs.YtmimpfccngihiaaDoor.LawE
set_option linter.unusedVariables false
set_option linter.unusedSimpArgs false
namespace Go.Proofs.YtmimpfccngihiaaDoor.LogD
open Go.RowKit Go.Proofs.YtmimpfccngihiaaDoor.Kit Go.Proofs.YtmimpfccngihiaaDoor.Blocks Go.Proofs.YtmimpfccngihiaaDoor.SumB Go.Proofs.YtmimpfccngihiaaDoor.Wal Go.Proofs.YtmimpfccngihiaaDoor.FrA Go.Proofs.YtmimpfccngihiaaDoor.FrC Go.Proofs.YtmimpfccngihiaaDoor.ScA Go.Proofs.YtmimpfccngihiaaDoor.ScB Go.Proofs.YtmimpfccngihiaaDoor.Frm Go.Proofs.YtmimpfccngihiaaDoor.Model Go.Proofs.YtmimpfccngihiaaDoor.Disk Go.Proofs.YtmimpfccngihiaaDoor.Ops Go.Proofs.YtmimpfccngihiaaDoor.Log
open Go.Proofs.YtmimpfccngihiaaDoor.DskWalkC (str Got)
open Go.Proofs.YtmimpfccngihiaaDoor.Model.M
/-- What Open leaves; the records' row is the call's own. -/
def OpenedO (B : Nat) (L : List Nat) (w : World) (p N : Nat) (n : Int) (r : (Int × List (List UInt8)) × M) (e : Ending) (w' : World) : Prop :=
  (r.1.1 ≠ 0 ∧ e = .returned (.tuple #[.pointer none, .slice none 0 0, .int .i64 r.1.1]) ∧ Has B L w' p N r.2 ∧ Keeps B L w w') ∨
  (r.1.1 = 0 ∧ ∃ b A c, e = .returned (.tuple #[.pointer (some ⟨b, 0, none⟩), .slice A r.1.2.length c, .int .i64 0]) ∧ LogAt w' b p n ∧ w'.ownsRow w.heap.size 9 1 (.slice A r.1.2.length c) r.1.2.length (strs r.1.2) ∧ Has B (b :: L) w' p N r.2 ∧ Keeps B L w w' ∧ w.heap.size ≤ b)
theorem beside_own {B : Nat} {L : List Nat} {w : World} {p N : Nat} {m : M} {w' : World} {v : Value} {r : List (List UInt8)} (h : Has B L w p N m) (hown : w'.ownsRow w.heap.size 9 1 v r.length (strs r)) (hb : Below w.heap.size w w') :
    ∃ A c L', v = .slice A r.length c ∧ Has B L' w' p N m ∧ (∀ y, y ∈ L → y ∈ L') ∧ ∀ w'', Keeps B L' w' w'' → w''.ownsRow w.heap.size 9 1 (.slice A r.length c) r.length (strs r) := by
  obtain ⟨A, c, rfl, h1, h2, h3⟩ := own_form hown
  cases hA : (Value.slice A r.length c).ownBlock with
  | none => exact ⟨A, c, L, rfl, h.below hb, fun y hy => hy, fun w'' k => Only.own k hown fun g hg => by rw [hA] at hg; cases hg⟩
  | some g =>
    have hl := hown.lt g hA
    exact ⟨A, c, g :: L, rfl, h.beside hb hl.1 hl.2, fun y hy => List.mem_cons_of_mem _ hy, fun w'' k => Only.own k hown fun g' hg' => by
      rw [hA] at hg'
      cases hg'
      simp⟩
section
variable {B : Nat} {L : List Nat} {w : World} {p N : Nat} {m : M}

set_option maxRecDepth 100000 in
set_option maxHeartbeats 4000000 in
theorem open_old (n : Int) (h : Has B L w p N m) (ht : Tab w) (hgB : 0 < B) (hN : N < 900000) (hn : 0 ≤ n ∧ n < 16) (hoff : m.off = false) (hhas : m.has n = true) :
    Calls Tryd.prog 22 #[.pointer (some ⟨p, 0, none⟩), .int .i64 n] w (OpenedO B L w p (N + 2) n (wopen m n)) := by
  have hBw := h.low
  have hr := read_has n h (by omega) (by omega)
  have e1 : m.read n = (m.all n.toNat, 0) := by simp [M.read, hoff, hhas]
  rw [e1] at hr
  obtain ⟨W, hW⟩ : ∃ W, wopen m n = W := ⟨_, rfl⟩
  rw [hW]
  obtain ⟨S, hS⟩ : ∃ S, str (m.all n.toNat) = S := ⟨_, rfl⟩
  have hSl : S.data.toList = m.all n.toNat := by rw [← hS]; rfl
  have hSs : S.size ≤ 1000000000 := by
    have := all_le h.fine n.toNat
    rw [← size_list, hSl]
    omega
  have HW : Hid (behind m n S.data.toList = W) := by
    rw [← hW, hSl, wopen_old hn hoff hhas]
    rfl
  obtain ⟨⟨rl, k⟩, hsc⟩ : ∃ q, scan S.data.toList = q := ⟨_, rfl⟩
  have HSc := Lib.hid hsc
  have HR := Lib.hid hr
  have HS := Lib.hid hS
  have h1 := hn.1
  have h2 := hn.2
  have h0 : Keeps B L w w := Keeps.refl B L w
  clear hr e1 hS hSl hW hsc
  go_enter Tryd.func22, Tryd.ntmps22
  go_wp2_with fail
  refine HR.out.mono ?_
  intro e w1 hg
  obtain ⟨rfl, hb1⟩ := Got.lit hg HS rfl
  have hH := h.below hb1
  have hK : Keeps B L w w1 := h0.trans (Keeps.of_below hb1)
  clear hg HR
  go_wp2_with fail
  refine (scan_any S _ (Tab.below ht hgB (hK.below hBw)) hSs).mono ?_
  rintro e w2 ⟨v, rfl, hown, hb2⟩
  rw [HSc.out] at hown
  obtain ⟨A, c, L', rfl, hH2, hsub, hread⟩ := beside_own hH hown hb2
  have hK2 : Keeps B L w w2 := hK.trans (Keeps.of_below hb2)
  have HRD := Lib.hid hread
  have HSUB := Lib.hid hsub
  clear hread hsub hown
  rw [HSc.out]
  simp only []
  by_cases hks : k < S.size
  · have hki : (k : Int) < (S.size : Int) := by omega
    have hd := replace_has n (S.extract 0 k) hH2 (show N < 1000000 by omega)
    obtain ⟨r2, hr2⟩ : ∃ r2, (m.replace n (S.extract 0 k).data.toList).1 = r2 := ⟨_, rfl⟩
    obtain ⟨m2, hm2⟩ : ∃ m2, (m.replace n (S.extract 0 k).data.toList).2 = m2 := ⟨_, rfl⟩
    have hx : (S.extract 0 k).data.toList = S.data.toList.take k := by rw [extract_list]; simp
    have HW2 : Hid ((if r2 = 0 then ((0, rl), m2) else ((r2, []), m2)) = W) := by
      have := HW.out
      unfold behind at this
      rw [HSc.out, if_pos (show k < S.data.toList.length from hks), ← hx, hr2, hm2] at this
      exact this
    have HR2 := Lib.hid hr2
    have HM2 := Lib.hid hm2
    have HD := Lib.hid hd
    clear hd hr2 hm2 hx HW
    go_wp2_with fail
    refine HD.out.mono ?_
    intro e w3 hd
    obtain ⟨rfl, h3, k3⟩ := Done.lit hd HR2 HM2
    have hR3 := HRD.out w3 k3
    have hK3 : Keeps B L w w3 := hK2.trans (k3.fewer HSUB.out)
    clear hd k3 HD
    by_cases hr : r2 = 0
    · subst hr
      have hW := HW2.out
      rw [if_pos rfl] at hW
      clear HW2
      subst hW
      go_wp2
      go_ret3
      have hbn : Below w3.heap.size w3 (w3.alloc (.cells #[.pointer (some ⟨p, 0, none⟩), .int .i64 n] 86)) := (Below.refl _ _).alloc (Nat.le_refl _) _
      exact .inr ⟨rfl, _, A, c, rfl, heap_alloc_new w3 _, own_base (own_below hR3 hbn) hK.size, (((h3.fewer HSUB.out).beside hbn (Nat.le_refl _) (by simp)).more (by omega)), hK3.trans (Keeps.of_below hbn), hK3.size⟩
    · have hri : (r2 != 0) = true := bne_iff_ne.2 hr
      have hW := HW2.out
      rw [if_neg hr] at hW
      clear HW2
      subst hW
      go_wp2
      go_ret3
      exact .inl ⟨hr, rfl, ((h3.fewer HSUB.out).more (by omega)), hK3⟩
  · have hki : ¬ (k : Int) < (S.size : Int) := by omega
    have hd := sync_has n hH2 (show N < 1000000 by omega) (by omega) (by omega)
    obtain ⟨r2, hr2⟩ : ∃ r2, (m.sync n).1 = r2 := ⟨_, rfl⟩
    obtain ⟨m2, hm2⟩ : ∃ m2, (m.sync n).2 = m2 := ⟨_, rfl⟩
    have HW2 : Hid ((if r2 = 0 then ((0, rl), m2) else ((r2, []), m2)) = W) := by
      have := HW.out
      unfold behind at this
      rw [HSc.out, if_neg (show ¬ k < S.data.toList.length from hks), hr2, hm2] at this
      exact this
    have HR2 := Lib.hid hr2
    have HM2 := Lib.hid hm2
    have HD := Lib.hid hd
    clear hd hr2 hm2 HW
    go_wp2_with fail
    refine HD.out.mono ?_
    intro e w3 hd
    obtain ⟨rfl, h3, k3⟩ := Done.lit hd HR2 HM2
    have hR3 := HRD.out w3 k3
    have hK3 : Keeps B L w w3 := hK2.trans (k3.fewer HSUB.out)
    clear hd k3 HD
    by_cases hr : r2 = 0
    · subst hr
      have hW := HW2.out
      rw [if_pos rfl] at hW
      clear HW2
      subst hW
      go_wp2
      go_ret3
      have hbn : Below w3.heap.size w3 (w3.alloc (.cells #[.pointer (some ⟨p, 0, none⟩), .int .i64 n] 86)) := (Below.refl _ _).alloc (Nat.le_refl _) _
      exact .inr ⟨rfl, _, A, c, rfl, heap_alloc_new w3 _, own_base (own_below hR3 hbn) hK.size, (((h3.fewer HSUB.out).beside hbn (Nat.le_refl _) (by simp)).more (by omega)), hK3.trans (Keeps.of_below hbn), hK3.size⟩
    · have hri : (r2 != 0) = true := bne_iff_ne.2 hr
      have hW := HW2.out
      rw [if_neg hr] at hW
      clear HW2
      subst hW
      go_wp2
      go_ret3
      exact .inl ⟨hr, rfl, ((h3.fewer HSUB.out).more (by omega)), hK3⟩

set_option maxRecDepth 100000 in
set_option maxHeartbeats 4000000 in
theorem open_new (n : Int) (h : Has B L w p N m) (ht : Tab w) (hgB : 0 < B) (hN : N < 900000) (hn : 0 ≤ n ∧ n < 16) (hoff : m.off = false) (hhas : m.has n = false) :
    Calls Tryd.prog 22 #[.pointer (some ⟨p, 0, none⟩), .int .i64 n] w (OpenedO B L w p (N + 2) n (wopen m n)) := by
  have hBw := h.low
  have hr := read_has n h (by omega) (by omega)
  have e1 : m.read n = ([], 12) := by simp [M.read, hoff, hhas]
  rw [e1] at hr
  obtain ⟨W, hW⟩ : ∃ W, wopen m n = W := ⟨_, rfl⟩
  rw [hW]
  obtain ⟨S, hS⟩ : ∃ S, str [] = S := ⟨_, rfl⟩
  obtain ⟨r1, hr1⟩ : ∃ r1, (m.replace n []).1 = r1 := ⟨_, rfl⟩
  obtain ⟨m1, hm1⟩ : ∃ m1, (m.replace n []).2 = m1 := ⟨_, rfl⟩
  have hSl : S.data.toList = [] := by rw [← hS]; rfl
  have hSs : S.size ≤ 1000000000 := by rw [← size_list, hSl]; simp
  have HW0 : Hid ((if r1 = 0 then behind m1 n S.data.toList else ((r1, []), m1)) = W) := by
    rw [← hW, hSl, wopen_new hn hoff hhas, hr1, hm1]
    rfl
  obtain ⟨⟨rl, k⟩, hsc⟩ : ∃ q, scan S.data.toList = q := ⟨_, rfl⟩
  have HSc := Lib.hid hsc
  have HR := Lib.hid hr
  have HS := Lib.hid hS
  have HR1 := Lib.hid hr1
  have HM1 := Lib.hid hm1
  have h1 := hn.1
  have h2 := hn.2
  have h0 : Keeps B L w w := Keeps.refl B L w
  have hrep := fun W' (hb : Below w.heap.size w W') => replace_has n ⟨#[]⟩ (h.below hb) (show N < 1000000 by omega)
  have HREP := Lib.hid hrep
  clear hr e1 hS hSl hW hsc hr1 hm1 hrep
  go_enter Tryd.func22, Tryd.ntmps22
  go_wp2_with fail
  refine HR.out.mono ?_
  intro e w0 hg
  obtain ⟨rfl, hb1⟩ := Got.lit hg HS rfl
  clear hg HR
  go_wp2_with fail
  refine (HREP.out w0 hb1).mono ?_
  intro e w1 hd
  obtain ⟨rfl, hH, k1⟩ := Done.lit hd HR1 HM1
  have hK : Keeps B L w w1 := (Keeps.of_below hb1).trans k1
  clear hd k1 HREP
  by_cases hr : r1 = 0
  · subst hr
    have HW : Hid (behind m1 n S.data.toList = W) := by
      have := HW0.out
      rwa [if_pos rfl] at this
    clear HW0
    go_wp2_with fail
    refine (scan_any S _ (Tab.below ht hgB (hK.below hBw)) hSs).mono ?_
    rintro e w2 ⟨v, rfl, hown, hb2⟩
    rw [HSc.out] at hown
    obtain ⟨A, c, L', rfl, hH2, hsub, hread⟩ := beside_own hH hown hb2
    have hK2 : Keeps B L w w2 := hK.trans (Keeps.of_below hb2)
    have HRD := Lib.hid hread
    have HSUB := Lib.hid hsub
    clear hread hsub hown
    rw [HSc.out]
    simp only []
    by_cases hks : k < S.size
    · have hki : (k : Int) < (S.size : Int) := by omega
      have hd := replace_has n (S.extract 0 k) hH2 (show N + 1 < 1000000 by omega)
      obtain ⟨r2, hr2⟩ : ∃ r2, (m1.replace n (S.extract 0 k).data.toList).1 = r2 := ⟨_, rfl⟩
      obtain ⟨m2, hm2⟩ : ∃ m2, (m1.replace n (S.extract 0 k).data.toList).2 = m2 := ⟨_, rfl⟩
      have hx : (S.extract 0 k).data.toList = S.data.toList.take k := by rw [extract_list]; simp
      have HW2 : Hid ((if r2 = 0 then ((0, rl), m2) else ((r2, []), m2)) = W) := by
        have := HW.out
        unfold behind at this
        rw [HSc.out, if_pos (show k < S.data.toList.length from hks), ← hx, hr2, hm2] at this
        exact this
      have HR2 := Lib.hid hr2
      have HM2 := Lib.hid hm2
      have HD := Lib.hid hd
      clear hd hr2 hm2 hx HW
      go_wp2_with fail
      refine HD.out.mono ?_
      intro e w3 hd
      obtain ⟨rfl, h3, k3⟩ := Done.lit hd HR2 HM2
      have hR3 := HRD.out w3 k3
      have hK3 : Keeps B L w w3 := hK2.trans (k3.fewer HSUB.out)
      clear hd k3 HD
      by_cases hr : r2 = 0
      · subst hr
        have hW := HW2.out
        rw [if_pos rfl] at hW
        clear HW2
        subst hW
        go_wp2
        go_ret3
        have hbn : Below w3.heap.size w3 (w3.alloc (.cells #[.pointer (some ⟨p, 0, none⟩), .int .i64 n] 86)) := (Below.refl _ _).alloc (Nat.le_refl _) _
        exact .inr ⟨rfl, _, A, c, rfl, heap_alloc_new w3 _, own_base (own_below hR3 hbn) hK.size, (((h3.fewer HSUB.out).beside hbn (Nat.le_refl _) (by simp)).more (by omega)), hK3.trans (Keeps.of_below hbn), hK3.size⟩
      · have hri : (r2 != 0) = true := bne_iff_ne.2 hr
        have hW := HW2.out
        rw [if_neg hr] at hW
        clear HW2
        subst hW
        go_wp2
        go_ret3
        exact .inl ⟨hr, rfl, ((h3.fewer HSUB.out).more (by omega)), hK3⟩
    · have hki : ¬ (k : Int) < (S.size : Int) := by omega
      have hd := sync_has n hH2 (show N + 1 < 1000000 by omega) (by omega) (by omega)
      obtain ⟨r2, hr2⟩ : ∃ r2, (m1.sync n).1 = r2 := ⟨_, rfl⟩
      obtain ⟨m2, hm2⟩ : ∃ m2, (m1.sync n).2 = m2 := ⟨_, rfl⟩
      have HW2 : Hid ((if r2 = 0 then ((0, rl), m2) else ((r2, []), m2)) = W) := by
        have := HW.out
        unfold behind at this
        rw [HSc.out, if_neg (show ¬ k < S.data.toList.length from hks), hr2, hm2] at this
        exact this
      have HR2 := Lib.hid hr2
      have HM2 := Lib.hid hm2
      have HD := Lib.hid hd
      clear hd hr2 hm2 HW
      go_wp2_with fail
      refine HD.out.mono ?_
      intro e w3 hd
      obtain ⟨rfl, h3, k3⟩ := Done.lit hd HR2 HM2
      have hR3 := HRD.out w3 k3
      have hK3 : Keeps B L w w3 := hK2.trans (k3.fewer HSUB.out)
      clear hd k3 HD
      by_cases hr : r2 = 0
      · subst hr
        have hW := HW2.out
        rw [if_pos rfl] at hW
        clear HW2
        subst hW
        go_wp2
        go_ret3
        have hbn : Below w3.heap.size w3 (w3.alloc (.cells #[.pointer (some ⟨p, 0, none⟩), .int .i64 n] 86)) := (Below.refl _ _).alloc (Nat.le_refl _) _
        exact .inr ⟨rfl, _, A, c, rfl, heap_alloc_new w3 _, own_base (own_below hR3 hbn) hK.size, (((h3.fewer HSUB.out).beside hbn (Nat.le_refl _) (by simp)).more (by omega)), hK3.trans (Keeps.of_below hbn), hK3.size⟩
      · have hri : (r2 != 0) = true := bne_iff_ne.2 hr
        have hW := HW2.out
        rw [if_neg hr] at hW
        clear HW2
        subst hW
        go_wp2
        go_ret3
        exact .inl ⟨hr, rfl, ((h3.fewer HSUB.out).more (by omega)), hK3⟩
  · have hri : (r1 != 0) = true := bne_iff_ne.2 hr
    have hW := HW0.out
    rw [if_neg hr] at hW
    clear HW0
    subst hW
    go_wp2
    go_ret3
    exact .inl ⟨hr, rfl, hH.more (by omega), hK⟩

theorem open_any (n : Int) (h : Has B L w p N m) (ht : Tab w) (hgB : 0 < B) (hN : N < 900000) :
    Calls Tryd.prog 22 #[.pointer (some ⟨p, 0, none⟩), .int .i64 n] w (OpenedO B L w p (N + 2) n (wopen m n)) := by
  by_cases hn : 0 ≤ n ∧ n < 16
  · cases hoff : m.off with
    | true =>
      refine (open_off n h hn hoff).mono ?_
      rintro e w' ⟨rfl, hb⟩
      rw [wopen_off hn hoff]
      exact .inl ⟨show (10 : Int) ≠ 0 by decide, rfl, (h.below hb).more (by omega), Keeps.of_below hb⟩
    | false =>
      cases hhas : m.has n with
      | true => exact open_old n h ht hgB hN hn hoff hhas
      | false => exact open_new n h ht hgB hN hn hoff hhas
  · refine (open_arg _ n w hn).mono ?_
    rintro e w' ⟨rfl, rfl⟩
    rw [wopen_arg hn]
    exact .inl ⟨show (1 : Int) ≠ 0 by decide, rfl, h.more (by omega), Keeps.refl _ _ _⟩
end
end Go.Proofs.YtmimpfccngihiaaDoor.LogD
set_option linter.unusedVariables false
set_option linter.unusedSimpArgs false
namespace Go.Proofs.YtmimpfccngihiaaDoor.RLog
open Go.RowKit Go.Proofs.YtmimpfccngihiaaDoor.Kit Go.Proofs.YtmimpfccngihiaaDoor.Blocks Go.Proofs.YtmimpfccngihiaaDoor.SumB Go.Proofs.YtmimpfccngihiaaDoor.Wal Go.Proofs.YtmimpfccngihiaaDoor.FrA Go.Proofs.YtmimpfccngihiaaDoor.FrC Go.Proofs.YtmimpfccngihiaaDoor.ScA Go.Proofs.YtmimpfccngihiaaDoor.ScB Go.Proofs.YtmimpfccngihiaaDoor.Frm Go.Proofs.YtmimpfccngihiaaDoor.Model Go.Proofs.YtmimpfccngihiaaDoor.Disk Go.Proofs.YtmimpfccngihiaaDoor.Ref Go.Proofs.YtmimpfccngihiaaDoor.RefB Go.Proofs.YtmimpfccngihiaaDoor.RefC Go.Proofs.YtmimpfccngihiaaDoor.RefD Go.Proofs.YtmimpfccngihiaaDoor.RefE Go.Proofs.YtmimpfccngihiaaDoor.RefG Go.Proofs.YtmimpfccngihiaaDoor.Log
open Go.Proofs.YtmimpfccngihiaaDoor.DskWalkC (str Got)
open Go.Proofs.YtmimpfccngihiaaDoor.Model.M
theorem DoneR.lit {w w' : World} {q : Nat} {m' : M} {r : Int × M} {e : Ending} (h : DoneR w q r e w') {f : Int} (hf : Hid (r.1 = f)) (hm : Hid (r.2 = m')) : e = .returned (.int .i64 f) ∧ RefAt w' q m' ∧ Only (fun k => k = q) w w' := by
  obtain ⟨h1, h2, h3⟩ := h
  rw [hf.out] at h1
  rw [hm.out] at h2
  exact ⟨h1, h2, h3⟩
/-- Block b is the document's log: a disk, a file's number. -/
def RLogAt (w : World) (b q : Nat) (n : Int) : Prop := w.heap[b]? = some (.cells #[.pointer (some ⟨q, 0, none⟩), .int .i64 n] 89 (0, 0))
section
variable {w w' : World} {b q : Nat} {n : Int} {m : M}
theorem RLogAt.disk (h : RLogAt w b q n) : w.cell? ⟨b, 0, none⟩ = some (.pointer (some ⟨q, 0, none⟩)) := by rw [cell_at h]; rfl
theorem RLogAt.file (h : RLogAt w b q n) : w.cell? ⟨b, 1, none⟩ = some (.int .i64 n) := by rw [cell_at h]; rfl
theorem RLogAt.below (h : RLogAt w b q n) (k : Below w.heap.size w w') : RLogAt w' b q n := (k.block b (lt_at h)).trans h
theorem RLogAt.only (h : RLogAt w b q n) (k : Only (fun y => y = q) w w') (hb : b ≠ q) : RLogAt w' b q n := k.heap h hb
/-- What the document's Open leaves. -/
def ROpened (w : World) (q : Nat) (n : Int) (r : (Int × List (List UInt8)) × M) (e : Ending) (w' : World) : Prop :=
  (r.1.1 ≠ 0 ∧ e = .returned (.tuple #[.pointer none, .slice none 0 0, .int .i64 r.1.1]) ∧ RefAt w' q r.2 ∧ Only (fun y => y = q) w w') ∨
  (r.1.1 = 0 ∧ ∃ b A c, e = .returned (.tuple #[.pointer (some ⟨b, 0, none⟩), .slice A r.1.2.length c, .int .i64 0]) ∧ RLogAt w' b q n ∧ RS w' A r.1.2.length r.1.2 ∧ RefAt w' q r.2 ∧ Only (fun y => y = q) w w' ∧ w.heap.size ≤ b)
theorem rbeside {v : Value} {r : List (List UInt8)} (hown : w'.ownsRow w.heap.size 9 1 v r.length (strs r)) (hq : q < w.heap.size) : ∀ A c, v = .slice A r.length c → ∀ w'', Only (fun y => y = q) w' w'' → RS w'' A r.length r := by
  rintro A c rfl w'' k
  exact Reads.of_own (Only.own k hown fun g hg e => by have := (hown.lt g hg).1; omega)

set_option maxRecDepth 100000 in
set_option maxHeartbeats 4000000 in
theorem ropen_old (n : Int) (h : RefAt w q m) (g : Fine m) (hn : 0 ≤ n ∧ n < 16) (hoff : m.off = false) (hhas : m.has n = true) :
    Calls Tryd.prog 23 #[.pointer (some ⟨q, 0, none⟩), .int .i64 n] w (ROpened w q n (wopen m n)) := by
  have hr := rread_any n h g
  have e1 : m.read n = (m.all n.toNat, 0) := by simp [M.read, hoff, hhas]
  rw [e1] at hr
  obtain ⟨W, hW⟩ : ∃ W, wopen m n = W := ⟨_, rfl⟩
  rw [hW]
  obtain ⟨S, hS⟩ : ∃ S, str (m.all n.toNat) = S := ⟨_, rfl⟩
  have hSl : S.data.toList = m.all n.toNat := by rw [← hS]; rfl
  have hSs : S.size ≤ 1000000000 := by
    have := all_le g n.toNat
    rw [← size_list, hSl]
    omega
  have HW : Hid (behind m n S.data.toList = W) := by
    rw [← hW, hSl, wopen_old hn hoff hhas]
    rfl
  obtain ⟨⟨rl, k⟩, hsc⟩ : ∃ q, scan S.data.toList = q := ⟨_, rfl⟩
  have HSc := Lib.hid hsc
  have HR := Lib.hid hr
  have HS := Lib.hid hS
  have h1 := hn.1
  have h2 : ¬ 15 < n := by omega
  have h0 : Only (fun y => y = q) w w := Only.refl _ w
  clear hr e1 hS hSl hW hsc
  go_enter Tryd.func23, Tryd.ntmps23
  go_wp2_with fail
  refine HR.out.mono ?_
  intro e w1 hg
  obtain ⟨rfl, hb1⟩ := Got.lit hg HS rfl
  have hH := RefAt.below h hb1
  have hK : Only (fun y => y = q) w w1 := h0.thenBelow hb1
  clear hg HR
  go_wp2_with fail
  refine (rscan_any S _ hSs).mono ?_
  rintro e w2 ⟨v, rfl, hown, hb2⟩
  rw [HSc.out] at hown
  have hread := rbeside (q := q) hown hH.lt
  obtain ⟨A, c, rfl, _, _, _⟩ := own_form hown
  have hH2 : RefAt w2 q m := RefAt.below hH hb2
  have hK2 : Only (fun y => y = q) w w2 := hK.thenBelow hb2
  have HRD : Hid (∀ w'', Only (fun y => y = q) w2 w'' → RS w'' A rl.length rl) := hread A c rfl
  clear hread hown
  rw [HSc.out]
  simp only []
  by_cases hks : k < S.size
  · have hki : (k : Int) < (S.size : Int) := by omega
    have hx : (S.extract 0 k).data.toList = S.data.toList.take k := by rw [extract_list]; simp
    have hd := rreplace_any n (S.extract 0 k) hH2 g (by simp; omega)
    obtain ⟨r2, hr2⟩ : ∃ r2, (m.replace n (S.extract 0 k).data.toList).1 = r2 := ⟨_, rfl⟩
    obtain ⟨m2, hm2⟩ : ∃ m2, (m.replace n (S.extract 0 k).data.toList).2 = m2 := ⟨_, rfl⟩
    have HW2 : Hid ((if r2 = 0 then ((0, rl), m2) else ((r2, []), m2)) = W) := by
      have := HW.out
      unfold behind at this
      rw [HSc.out, if_pos (show k < S.data.toList.length from hks), ← hx, hr2, hm2] at this
      exact this
    have HR2 := Lib.hid hr2
    have HM2 := Lib.hid hm2
    have HD := Lib.hid hd
    clear hd hr2 hm2 HW
    go_wp2_with fail
    refine HD.out.mono ?_
    intro e w3 hd
    obtain ⟨rfl, h3, k3⟩ := DoneR.lit hd HR2 HM2
    have hR3 := HRD.out w3 k3
    have hK3 : Only (fun y => y = q) w w3 := hK2.trans k3
    clear hd k3 HD
    by_cases hr : r2 = 0
    · subst hr
      have hW := HW2.out
      rw [if_pos rfl] at hW
      clear HW2
      subst hW
      go_wp2
      go_ret3
      have hbn : Below w3.heap.size w3 (w3.alloc (.cells #[.pointer (some ⟨q, 0, none⟩), .int .i64 n] 89)) := (Below.refl _ _).alloc (Nat.le_refl _) _
      exact .inr ⟨rfl, _, A, c, rfl, heap_alloc_new w3 _, (hR3.below hbn).more hbn.size, RefAt.below h3 hbn, hK3.thenBelow hbn, hK3.size⟩
    · have hri : (r2 != 0) = true := bne_iff_ne.2 hr
      have hW := HW2.out
      rw [if_neg hr] at hW
      clear HW2
      subst hW
      go_wp2
      go_ret3
      exact .inl ⟨hr, rfl, h3, hK3⟩
  · have hki : ¬ (k : Int) < (S.size : Int) := by omega
    have hd := rsync_any n hH2 g
    obtain ⟨r2, hr2⟩ : ∃ r2, (m.sync n).1 = r2 := ⟨_, rfl⟩
    obtain ⟨m2, hm2⟩ : ∃ m2, (m.sync n).2 = m2 := ⟨_, rfl⟩
    have HW2 : Hid ((if r2 = 0 then ((0, rl), m2) else ((r2, []), m2)) = W) := by
      have := HW.out
      unfold behind at this
      rw [HSc.out, if_neg (show ¬ k < S.data.toList.length from hks), hr2, hm2] at this
      exact this
    have HR2 := Lib.hid hr2
    have HM2 := Lib.hid hm2
    have HD := Lib.hid hd
    clear hd hr2 hm2 HW
    go_wp2_with fail
    refine HD.out.mono ?_
    intro e w3 hd
    obtain ⟨rfl, h3, k3⟩ := DoneR.lit hd HR2 HM2
    have hR3 := HRD.out w3 k3
    have hK3 : Only (fun y => y = q) w w3 := hK2.trans k3
    clear hd k3 HD
    by_cases hr : r2 = 0
    · subst hr
      have hW := HW2.out
      rw [if_pos rfl] at hW
      clear HW2
      subst hW
      go_wp2
      go_ret3
      have hbn : Below w3.heap.size w3 (w3.alloc (.cells #[.pointer (some ⟨q, 0, none⟩), .int .i64 n] 89)) := (Below.refl _ _).alloc (Nat.le_refl _) _
      exact .inr ⟨rfl, _, A, c, rfl, heap_alloc_new w3 _, (hR3.below hbn).more hbn.size, RefAt.below h3 hbn, hK3.thenBelow hbn, hK3.size⟩
    · have hri : (r2 != 0) = true := bne_iff_ne.2 hr
      have hW := HW2.out
      rw [if_neg hr] at hW
      clear HW2
      subst hW
      go_wp2
      go_ret3
      exact .inl ⟨hr, rfl, h3, hK3⟩

set_option maxRecDepth 100000 in
set_option maxHeartbeats 4000000 in
theorem ropen_new (n : Int) (h : RefAt w q m) (g : Fine m) (hn : 0 ≤ n ∧ n < 16) (hoff : m.off = false) (hhas : m.has n = false) :
    Calls Tryd.prog 23 #[.pointer (some ⟨q, 0, none⟩), .int .i64 n] w (ROpened w q n (wopen m n)) := by
  have hr := rread_any n h g
  have e1 : m.read n = ([], 12) := by simp [M.read, hoff, hhas]
  rw [e1] at hr
  obtain ⟨W, hW⟩ : ∃ W, wopen m n = W := ⟨_, rfl⟩
  rw [hW]
  obtain ⟨S, hS⟩ : ∃ S, str [] = S := ⟨_, rfl⟩
  obtain ⟨r1, hr1⟩ : ∃ r1, (m.replace n []).1 = r1 := ⟨_, rfl⟩
  obtain ⟨m1, hm1⟩ : ∃ m1, (m.replace n []).2 = m1 := ⟨_, rfl⟩
  have g1 : Fine m1 := by rw [← hm1]; exact g.replace n []
  have hSl : S.data.toList = [] := by rw [← hS]; rfl
  have hSs : S.size ≤ 1000000000 := by rw [← size_list, hSl]; simp
  have HW0 : Hid ((if r1 = 0 then behind m1 n S.data.toList else ((r1, []), m1)) = W) := by
    rw [← hW, hSl, wopen_new hn hoff hhas, hr1, hm1]
    rfl
  obtain ⟨⟨rl, k⟩, hsc⟩ : ∃ q, scan S.data.toList = q := ⟨_, rfl⟩
  have HSc := Lib.hid hsc
  have HR := Lib.hid hr
  have HS := Lib.hid hS
  have HR1 := Lib.hid hr1
  have HM1 := Lib.hid hm1
  have h1 := hn.1
  have h2 : ¬ 15 < n := by omega
  have h0 : Only (fun y => y = q) w w := Only.refl _ w
  have hrep := fun W' (hb : Below w.heap.size w W') => rreplace_any n ⟨#[]⟩ (RefAt.below h hb) g (by decide)
  have HREP := Lib.hid hrep
  clear hr e1 hS hSl hW hsc hr1 hm1 hrep
  go_enter Tryd.func23, Tryd.ntmps23
  go_wp2_with fail
  refine HR.out.mono ?_
  intro e w0 hg
  obtain ⟨rfl, hb1⟩ := Got.lit hg HS rfl
  clear hg HR
  go_wp2_with fail
  refine (HREP.out w0 hb1).mono ?_
  intro e w1 hd
  obtain ⟨rfl, hH, k1⟩ := DoneR.lit hd HR1 HM1
  have hK : Only (fun y => y = q) w w1 := (h0.thenBelow hb1).trans k1
  clear hd k1 HREP
  by_cases hr : r1 = 0
  · subst hr
    have HW : Hid (behind m1 n S.data.toList = W) := by
      have := HW0.out
      rwa [if_pos rfl] at this
    clear HW0
    go_wp2_with fail
    refine (rscan_any S _ hSs).mono ?_
    rintro e w2 ⟨v, rfl, hown, hb2⟩
    rw [HSc.out] at hown
    have hread := rbeside (q := q) hown hH.lt
    obtain ⟨A, c, rfl, _, _, _⟩ := own_form hown
    have hH2 : RefAt w2 q m1 := RefAt.below hH hb2
    have hK2 : Only (fun y => y = q) w w2 := hK.thenBelow hb2
    have HRD : Hid (∀ w'', Only (fun y => y = q) w2 w'' → RS w'' A rl.length rl) := hread A c rfl
    clear hread hown
    rw [HSc.out]
    simp only []
    by_cases hks : k < S.size
    · have hki : (k : Int) < (S.size : Int) := by omega
      have hx : (S.extract 0 k).data.toList = S.data.toList.take k := by rw [extract_list]; simp
      have hd := rreplace_any n (S.extract 0 k) hH2 g1 (by simp; omega)
      obtain ⟨r2, hr2⟩ : ∃ r2, (m1.replace n (S.extract 0 k).data.toList).1 = r2 := ⟨_, rfl⟩
      obtain ⟨m2, hm2⟩ : ∃ m2, (m1.replace n (S.extract 0 k).data.toList).2 = m2 := ⟨_, rfl⟩
      have HW2 : Hid ((if r2 = 0 then ((0, rl), m2) else ((r2, []), m2)) = W) := by
        have := HW.out
        unfold behind at this
        rw [HSc.out, if_pos (show k < S.data.toList.length from hks), ← hx, hr2, hm2] at this
        exact this
      have HR2 := Lib.hid hr2
      have HM2 := Lib.hid hm2
      have HD := Lib.hid hd
      clear hd hr2 hm2 HW
      go_wp2_with fail
      refine HD.out.mono ?_
      intro e w3 hd
      obtain ⟨rfl, h3, k3⟩ := DoneR.lit hd HR2 HM2
      have hR3 := HRD.out w3 k3
      have hK3 : Only (fun y => y = q) w w3 := hK2.trans k3
      clear hd k3 HD
      by_cases hr : r2 = 0
      · subst hr
        have hW := HW2.out
        rw [if_pos rfl] at hW
        clear HW2
        subst hW
        go_wp2
        go_ret3
        have hbn : Below w3.heap.size w3 (w3.alloc (.cells #[.pointer (some ⟨q, 0, none⟩), .int .i64 n] 89)) := (Below.refl _ _).alloc (Nat.le_refl _) _
        exact .inr ⟨rfl, _, A, c, rfl, heap_alloc_new w3 _, (hR3.below hbn).more hbn.size, RefAt.below h3 hbn, hK3.thenBelow hbn, hK3.size⟩
      · have hri : (r2 != 0) = true := bne_iff_ne.2 hr
        have hW := HW2.out
        rw [if_neg hr] at hW
        clear HW2
        subst hW
        go_wp2
        go_ret3
        exact .inl ⟨hr, rfl, h3, hK3⟩
    · have hki : ¬ (k : Int) < (S.size : Int) := by omega
      have hd := rsync_any n hH2 g1
      obtain ⟨r2, hr2⟩ : ∃ r2, (m1.sync n).1 = r2 := ⟨_, rfl⟩
      obtain ⟨m2, hm2⟩ : ∃ m2, (m1.sync n).2 = m2 := ⟨_, rfl⟩
      have HW2 : Hid ((if r2 = 0 then ((0, rl), m2) else ((r2, []), m2)) = W) := by
        have := HW.out
        unfold behind at this
        rw [HSc.out, if_neg (show ¬ k < S.data.toList.length from hks), hr2, hm2] at this
        exact this
      have HR2 := Lib.hid hr2
      have HM2 := Lib.hid hm2
      have HD := Lib.hid hd
      clear hd hr2 hm2 HW
      go_wp2_with fail
      refine HD.out.mono ?_
      intro e w3 hd
      obtain ⟨rfl, h3, k3⟩ := DoneR.lit hd HR2 HM2
      have hR3 := HRD.out w3 k3
      have hK3 : Only (fun y => y = q) w w3 := hK2.trans k3
      clear hd k3 HD
      by_cases hr : r2 = 0
      · subst hr
        have hW := HW2.out
        rw [if_pos rfl] at hW
        clear HW2
        subst hW
        go_wp2
        go_ret3
        have hbn : Below w3.heap.size w3 (w3.alloc (.cells #[.pointer (some ⟨q, 0, none⟩), .int .i64 n] 89)) := (Below.refl _ _).alloc (Nat.le_refl _) _
        exact .inr ⟨rfl, _, A, c, rfl, heap_alloc_new w3 _, (hR3.below hbn).more hbn.size, RefAt.below h3 hbn, hK3.thenBelow hbn, hK3.size⟩
      · have hri : (r2 != 0) = true := bne_iff_ne.2 hr
        have hW := HW2.out
        rw [if_neg hr] at hW
        clear HW2
        subst hW
        go_wp2
        go_ret3
        exact .inl ⟨hr, rfl, h3, hK3⟩
  · have hri : (r1 != 0) = true := bne_iff_ne.2 hr
    have hW := HW0.out
    rw [if_neg hr] at hW
    clear HW0
    subst hW
    go_wp2
    go_ret3
    exact .inl ⟨hr, rfl, hH, hK⟩

set_option maxRecDepth 100000 in
set_option maxHeartbeats 2000000 in
theorem ropen_off (n : Int) (h : RefAt w q m) (g : Fine m) (hn : 0 ≤ n ∧ n < 16) (hoff : m.off = true) :
    Calls Tryd.prog 23 #[.pointer (some ⟨q, 0, none⟩), .int .i64 n] w (ROpened w q n (wopen m n)) := by
  have hr := rread_any n h g
  have e1 : m.read n = ([], 10) := by simp [M.read, hoff]
  rw [e1] at hr
  rw [wopen_off hn hoff]
  have HR := Lib.hid hr
  have h1 := hn.1
  have h2 : ¬ 15 < n := by omega
  clear hr e1
  go_enter Tryd.func23, Tryd.ntmps23
  go_wp2_with fail
  refine HR.out.mono ?_
  rintro e w1 ⟨rfl, hb1⟩
  go_wp2
  go_ret3
  exact .inl ⟨show (10 : Int) ≠ 0 by decide, rfl, RefAt.below h hb1, Only.of_below hb1⟩
theorem ropen_any (n : Int) (h : RefAt w q m) (g : Fine m) (hn : 0 ≤ n ∧ n < 16) :
    Calls Tryd.prog 23 #[.pointer (some ⟨q, 0, none⟩), .int .i64 n] w (ROpened w q n (wopen m n)) := by
  cases hoff : m.off with
  | true => exact ropen_off n h g hn hoff
  | false =>
    cases hhas : m.has n with
    | true => exact ropen_old n h g hn hoff hhas
    | false => exact ropen_new n h g hn hoff hhas

/-- A document's log and its disk. -/
structure RS2 (w : World) (b q : Nat) (n : Int) (m : M) (W : World) : Prop where
  log : RLogAt W b q n
  disk : RefAt W q m
  kept : Only (fun y => y = q) w W
theorem RS2.drew {W : World} (h : RS2 w b q n m W) : RS2 w b q n m W.drew := ⟨h.log, h.disk, Only.drew h.kept⟩
theorem RS2.next {W W' : World} (h : RS2 w b q n m W) (k : Below W.heap.size W W') : RS2 w b q n m W' := ⟨h.log.below k, RefAt.below h.disk k, h.kept.thenBelow k⟩
theorem rs_append {W : World} {m' : M} {r : Int} (s : ByteArray) (h : RS2 w b q n m W) (g : Fine m) (hb : b ≠ q) (hs : s.size ≤ 281474976710656) (hr : Hid ((m.append n s.data.toList).1 = r)) (hm : Hid ((m.append n s.data.toList).2 = m')) :
    Calls Tryd.prog 52 #[.pointer (some ⟨q, 0, none⟩), .int .i64 n, .string s] W fun e W' => e = .returned (.int .i64 r) ∧ RS2 w b q n m' W' := by
  refine (rappend_any n s h.disk g hs).mono ?_
  intro e W' hd
  obtain ⟨rfl, h1, k1⟩ := DoneR.lit hd hr hm
  exact ⟨rfl, h.log.only k1 hb, h1, h.kept.trans k1⟩
theorem rs_replace {W : World} {m' : M} {r : Int} (s : ByteArray) (h : RS2 w b q n m W) (g : Fine m) (hb : b ≠ q) (hs : s.size ≤ 281474976710656) (hr : Hid ((m.replace n s.data.toList).1 = r)) (hm : Hid ((m.replace n s.data.toList).2 = m')) :
    Calls Tryd.prog 20 #[.pointer (some ⟨q, 0, none⟩), .int .i64 n, .string s] W fun e W' => e = .returned (.int .i64 r) ∧ RS2 w b q n m' W' := by
  refine (rreplace_any n s h.disk g hs).mono ?_
  intro e W' hd
  obtain ⟨rfl, h1, k1⟩ := DoneR.lit hd hr hm
  exact ⟨rfl, h.log.only k1 hb, h1, h.kept.trans k1⟩
theorem rs_sync {W : World} {m' : M} {r : Int} (h : RS2 w b q n m W) (g : Fine m) (hb : b ≠ q) (hr : Hid ((m.sync n).1 = r)) (hm : Hid ((m.sync n).2 = m')) :
    Calls Tryd.prog 49 #[.pointer (some ⟨q, 0, none⟩), .int .i64 n] W fun e W' => e = .returned (.int .i64 r) ∧ RS2 w b q n m' W' := by
  refine (rsync_any n h.disk g).mono ?_
  intro e W' hd
  obtain ⟨rfl, h1, k1⟩ := DoneR.lit hd hr hm
  exact ⟨rfl, h.log.only k1 hb, h1, h.kept.trans k1⟩
/-- What the document's Append and Anew leave. -/
def RWrote (w : World) (b q : Nat) (n : Int) (r : Int × M) (e : Ending) (w' : World) : Prop := e = .returned (.int .i64 r.1) ∧ RS2 w b q n r.2 w'

set_option maxRecDepth 100000 in
set_option maxHeartbeats 4000000 in
theorem rappend_log (A : Option Addr) (k c : Nat) (l : List (List UInt8)) (hlog : RLogAt w b q n) (h : RefAt w q m) (g : Fine m) (hb : b ≠ q) (hl : RS w A k l) (hk : k ≤ 1000000) :
    Calls Tryd.prog 27 #[.pointer (some ⟨b, 0, none⟩), .slice A k c] w (RWrote w b q n (wappend m n l)) := by
  have hf := rframes_any A k c l w hl hk
  have hS0 : RS2 w b q n m w := ⟨hlog, h, Only.refl _ _⟩
  have hll := texts_len hl
  by_cases hr : Recs l
  · rw [framed_ok hr, decide_eq_true hr] at hf
    obtain ⟨S, hS⟩ : ∃ S, str (frames l) = S := ⟨_, rfl⟩
    have hSl : S.data.toList = frames l := by rw [← hS]; rfl
    have hSs : S.size ≤ 281474976710656 := by
      have := framed_le l hr
      rw [← size_list, hSl]
      omega
    obtain ⟨r1, hr1⟩ : ∃ r1, (m.append n S.data.toList).1 = r1 := ⟨_, rfl⟩
    obtain ⟨m1, hm1⟩ : ∃ m1, (m.append n S.data.toList).2 = m1 := ⟨_, rfl⟩
    have g1 : Fine m1 := by rw [← hm1]; exact g.append n _
    have hw : wappend m n l = if r1 = 0 then m1.sync n else (r1, m1) := by
      unfold wappend
      rw [if_pos hr, ← hSl, ← hr1, ← hm1]
    rw [hw]
    rw [show str (frames l, (0 : Int)).1 = S from hS] at hf
    have HF := Lib.hid hf
    have HR1 := Lib.hid hr1
    have HM1 := Lib.hid hm1
    clear hf hS hSl hr1 hm1 hw hr hll
    by_cases hz : r1 = 0
    · subst hz
      rw [if_pos rfl]
      obtain ⟨r2, hr2⟩ : ∃ r2, (m1.sync n).1 = r2 := ⟨_, rfl⟩
      obtain ⟨m2, hm2⟩ : ∃ m2, (m1.sync n).2 = m2 := ⟨_, rfl⟩
      have e : m1.sync n = (r2, m2) := by rw [← hr2, ← hm2]
      rw [e]
      have HR2 := Lib.hid hr2
      have HM2 := Lib.hid hm2
      clear hr2 hm2 e
      go_enter Tryd.func27, Tryd.ntmps27
      go_wp2_with fail
      refine HF.out.mono ?_
      rintro e w1 ⟨rfl, hb1⟩
      have hS1 := (hS0.next hb1).drew
      go_wp2_with fail
      go_region_held3 (fun w' => w'.cell? ⟨b, 0, none⟩ = some (.pointer (some ⟨q, 0, none⟩)) ∧ w'.cell? ⟨b, 1, none⟩ = some (.int .i64 n))
        (first | exact ⟨hS2.log.disk, hS2.log.file⟩ | exact ⟨hS1.log.disk, hS1.log.file⟩)
        ((go_at_call 52
          refine (rs_append S hS1 g hb hSs HR1 HM1).mono ?_
          rintro e w2 ⟨rfl, hS2⟩))
      all_goals
        have hS3 := hS2.drew
        go_wp2_with fail
        go_region_held3 (fun w' => w'.cell? ⟨b, 0, none⟩ = some (.pointer (some ⟨q, 0, none⟩)) ∧ w'.cell? ⟨b, 1, none⟩ = some (.int .i64 n))
          (first | exact ⟨hS4.log.disk, hS4.log.file⟩ | exact ⟨hS3.log.disk, hS3.log.file⟩)
          ((go_at_call 49
            refine (rs_sync hS3 g1 hb HR2 HM2).mono ?_
            rintro e w4 ⟨rfl, hS4⟩))
      all_goals go_wp2
      all_goals go_ret
      all_goals exact ⟨rfl, hS4⟩
    · rw [if_neg hz]
      have hzi : (r1 != 0) = true := bne_iff_ne.2 hz
      go_enter Tryd.func27, Tryd.ntmps27
      go_wp2_with fail
      refine HF.out.mono ?_
      rintro e w1 ⟨rfl, hb1⟩
      have hS1 := (hS0.next hb1).drew
      go_wp2_with fail
      go_region_held3 (fun w' => w'.cell? ⟨b, 0, none⟩ = some (.pointer (some ⟨q, 0, none⟩)) ∧ w'.cell? ⟨b, 1, none⟩ = some (.int .i64 n))
        (first | exact ⟨hS2.log.disk, hS2.log.file⟩ | exact ⟨hS1.log.disk, hS1.log.file⟩)
        ((go_at_call 52
          refine (rs_append S hS1 g hb hSs HR1 HM1).mono ?_
          rintro e w2 ⟨rfl, hS2⟩))
      all_goals go_wp2
      all_goals go_ret
      all_goals exact ⟨rfl, hS2⟩
  · rw [framed_long hr, decide_eq_false hr] at hf
    have hw : wappend m n l = (3, m) := if_neg hr
    rw [hw]
    have HF := Lib.hid hf
    clear hf hw hr
    go_enter Tryd.func27, Tryd.ntmps27
    go_wp2_with fail
    refine HF.out.mono ?_
    rintro e w1 ⟨rfl, hb1⟩
    have hS1 := hS0.next hb1
    go_wp2
    go_ret
    exact ⟨rfl, hS1⟩

set_option maxRecDepth 100000 in
set_option maxHeartbeats 4000000 in
theorem ranew_log (A : Option Addr) (k c : Nat) (l : List (List UInt8)) (hlog : RLogAt w b q n) (h : RefAt w q m) (g : Fine m) (hb : b ≠ q) (hl : RS w A k l) (hk : k ≤ 1000000) :
    Calls Tryd.prog 25 #[.pointer (some ⟨b, 0, none⟩), .slice A k c] w (RWrote w b q n (wanew m n l)) := by
  have hf := rframes_any A k c l w hl hk
  have hS0 : RS2 w b q n m w := ⟨hlog, h, Only.refl _ _⟩
  have hll := texts_len hl
  by_cases hr : Recs l
  · rw [framed_ok hr, decide_eq_true hr] at hf
    obtain ⟨S, hS⟩ : ∃ S, str (frames l) = S := ⟨_, rfl⟩
    have hSl : S.data.toList = frames l := by rw [← hS]; rfl
    have hSs : S.size ≤ 281474976710656 := by
      have := framed_le l hr
      rw [← size_list, hSl]
      omega
    obtain ⟨r1, hr1⟩ : ∃ r1, (m.replace n S.data.toList).1 = r1 := ⟨_, rfl⟩
    obtain ⟨m1, hm1⟩ : ∃ m1, (m.replace n S.data.toList).2 = m1 := ⟨_, rfl⟩
    have hw : wanew m n l = (r1, m1) := by
      unfold wanew
      rw [if_pos hr, ← hSl, ← hr1, ← hm1]
    rw [hw]
    rw [show str (frames l, (0 : Int)).1 = S from hS] at hf
    have HF := Lib.hid hf
    have HR1 := Lib.hid hr1
    have HM1 := Lib.hid hm1
    clear hf hS hSl hr1 hm1 hw hr hll
    go_enter Tryd.func25, Tryd.ntmps25
    go_wp2_with fail
    refine HF.out.mono ?_
    rintro e w1 ⟨rfl, hb1⟩
    have hS1 := (hS0.next hb1).drew
    go_wp2_with fail
    go_region_held3 (fun w' => w'.cell? ⟨b, 0, none⟩ = some (.pointer (some ⟨q, 0, none⟩)) ∧ w'.cell? ⟨b, 1, none⟩ = some (.int .i64 n))
      (first | exact ⟨hS2.log.disk, hS2.log.file⟩ | exact ⟨hS1.log.disk, hS1.log.file⟩)
      ((go_at_call 20
        refine (rs_replace S hS1 g hb hSs HR1 HM1).mono ?_
        rintro e w2 ⟨rfl, hS2⟩))
    all_goals go_wp2
    all_goals go_ret
    all_goals exact ⟨rfl, hS2⟩
  · rw [framed_long hr, decide_eq_false hr] at hf
    have hw : wanew m n l = (3, m) := if_neg hr
    rw [hw]
    have HF := Lib.hid hf
    clear hf hw hr
    go_enter Tryd.func25, Tryd.ntmps25
    go_wp2_with fail
    refine HF.out.mono ?_
    rintro e w1 ⟨rfl, hb1⟩
    have hS1 := hS0.next hb1
    go_wp2
    go_ret
    exact ⟨rfl, hS1⟩
end
end Go.Proofs.YtmimpfccngihiaaDoor.RLog
set_option linter.unusedVariables false
set_option linter.unusedSimpArgs false
namespace Go.Proofs.YtmimpfccngihiaaDoor.LawG
open Go.RowKit Go.Proofs.YtmimpfccngihiaaDoor.Kit Go.Proofs.YtmimpfccngihiaaDoor.Blocks Go.Proofs.YtmimpfccngihiaaDoor.Stuff Go.Proofs.YtmimpfccngihiaaDoor.Crc Go.Proofs.YtmimpfccngihiaaDoor.SumB Go.Proofs.YtmimpfccngihiaaDoor.Wal Go.Proofs.YtmimpfccngihiaaDoor.StuWalkA Go.Proofs.YtmimpfccngihiaaDoor.FrA Go.Proofs.YtmimpfccngihiaaDoor.FrC Go.Proofs.YtmimpfccngihiaaDoor.ScA Go.Proofs.YtmimpfccngihiaaDoor.ScB Go.Proofs.YtmimpfccngihiaaDoor.Frm Go.Proofs.YtmimpfccngihiaaDoor.Model Go.Proofs.YtmimpfccngihiaaDoor.Disk Go.Proofs.YtmimpfccngihiaaDoor.Ops Go.Proofs.YtmimpfccngihiaaDoor.Log Go.Proofs.YtmimpfccngihiaaDoor.LogC Go.Proofs.YtmimpfccngihiaaDoor.LogD Go.Proofs.YtmimpfccngihiaaDoor.Ref Go.Proofs.YtmimpfccngihiaaDoor.RefB Go.Proofs.YtmimpfccngihiaaDoor.RefC Go.Proofs.YtmimpfccngihiaaDoor.RefD Go.Proofs.YtmimpfccngihiaaDoor.RefE Go.Proofs.YtmimpfccngihiaaDoor.RefG Go.Proofs.YtmimpfccngihiaaDoor.RLog Go.Proofs.YtmimpfccngihiaaDoor.Small Go.Proofs.YtmimpfccngihiaaDoor.Beg Go.Proofs.YtmimpfccngihiaaDoor.LawA Go.Proofs.YtmimpfccngihiaaDoor.LawB Go.Proofs.YtmimpfccngihiaaDoor.LawD Go.Proofs.YtmimpfccngihiaaDoor.LawE
open Go.Proofs.YtmimpfccngihiaaDoor.DskWalkC (str Got)
open Go.Proofs.YtmimpfccngihiaaDoor.DskWalkJ (inums)

section
variable {B : Nat} {L : List Nat} {w W W' : World} {b b' p q N : Nat} {m m1 m2 m' : M} {n : Int}
theorem beside_doc (h : Has B L W p N m) (k : Only (fun y => y = q) W W') (hq : q ∈ L) : Has B L W' p N m := by
  obtain ⟨A, c, mb, x, hD, hF⟩ := h.disk
  exact ⟨h.fine, Nat.le_trans h.low k.size, fun b hb => Nat.lt_of_lt_of_le (h.old b hb) k.size, A, c, mb, x, hD.keep k fun b hb e => (hF b hb).2 (e ▸ hq), hF⟩
theorem doc_fuelled (h : RefAt w q m) (n : Int) : RefAt (w.setCell ⟨q, 49, none⟩ (.int .i64 (max n (-1)))) q (m.fuelled n) :=
  h.set 49 _ _ rfl fun k hk hne => by unfold cellOf M.fuelled; simp only []; (repeat' split) <;> first | rfl | omega
theorem beside_both (h : Has B L W p N m) (k : Only (fun y => y = q) W W') (hq : q ∈ L) (h0 : W.heap.size ≤ b) (h1 : b < W'.heap.size) : Has B (b :: L) W' p N m := by
  obtain ⟨A, c, mb, x, hD, hF⟩ := h.disk
  refine ⟨h.fine, Nat.le_trans h.low k.size, fun y hy => ?_, A, c, mb, x, hD.keep k fun b hb e => (hF b hb).2 (e ▸ hq), fun y hy => ⟨(hF y hy).1, fun e => ?_⟩⟩
  · rcases List.mem_cons.1 hy with rfl | hy
    · exact h1
    · exact Nat.lt_of_lt_of_le (h.old y hy) k.size
  · rcases List.mem_cons.1 e with rfl | e
    · have := hD.foot_lt hy; omega
    · exact (hF y hy).2 e
/-- The program's disk and the document's, in one world. -/
structure Two (B : Nat) (L : List Nat) (W : World) (p q N : Nat) (m1 m2 : M) : Prop where
  d : Has B L W p N m1
  r : RefAt W q m2
  mem : q ∈ L
  low : B ≤ q
theorem Two.below (h : Two B L W p q N m1 m2) (k : Below W.heap.size W W') : Two B L W' p q N m1 m2 := ⟨h.d.below k, RefAt.below h.r k, h.mem, h.low⟩
theorem Two.disk {N' : Nat} (h : Two B L W p q N m1 m2) (hd : Has B L W' p N' m') (k : Keeps B L W W') : Two B L W' p q N' m' m2 := ⟨hd, k.heap h.r (.inr h.mem), h.mem, h.low⟩
theorem Two.doc (h : Two B L W p q N m1 m2) (hr : RefAt W' q m') (k : Only (fun y => y = q) W W') : Two B L W' p q N m1 m' := ⟨beside_doc h.d k h.mem, hr, h.mem, h.low⟩
theorem Two.since (h : Two B L W p q N m1 m2) (k : Only (fun y => y = q) W W') : Below B W W' := k.below h.d.low fun y hy => by rw [hy]; exact h.low
theorem two_replace (s : ByteArray) (h : Two B L W p q N m m2) (hN : N < 1000000) {r : Int} (hr : Hid (m.replace n s.data.toList = (r, m'))) :
    Calls Tryd.prog 19 #[.pointer (some ⟨p, 0, none⟩), .int .i64 n, .string s] W fun e W' => e = .returned (.int .i64 r) ∧ Two B L W' p q (N + 1) m' m2 ∧ Below B W W' := by
  refine (replace_has n s h.d hN).mono ?_
  rintro e W' ⟨rfl, hd, hk⟩
  rw [hr.out] at hd ⊢
  exact ⟨rfl, h.disk hd hk, hk.below h.d.low⟩
theorem two_rreplace (s : ByteArray) (h : Two B L W p q N m1 m) (g : Fine m) (hs : s.size ≤ 281474976710656) {r : Int} (hr : Hid (m.replace n s.data.toList = (r, m'))) :
    Calls Tryd.prog 20 #[.pointer (some ⟨q, 0, none⟩), .int .i64 n, .string s] W fun e W' => e = .returned (.int .i64 r) ∧ Two B L W' p q N m1 m' ∧ Below B W W' := by
  refine (rreplace_any n s h.r g hs).mono ?_
  rintro e W' ⟨rfl, hd, hk⟩
  rw [hr.out] at hd ⊢
  exact ⟨rfl, h.doc hd hk, h.since hk⟩
theorem two_fuel (f : Int) (h : Two B L W p q N m m2) (h0 : -9223372036854775808 ≤ f) (h1 : f ≤ 9223372036854775807) :
    Calls Tryd.prog 21 #[.pointer (some ⟨p, 0, none⟩), .int .i64 f] W fun e W' => e = .returned (.tuple #[]) ∧ Two B L W' p q N (m.fuelled f) m2 ∧ Below B W W' := by
  refine (fuel_has f h.d h0 h1).mono ?_
  rintro e W' ⟨rfl, hd, hk⟩
  exact ⟨rfl, h.disk hd hk, hk.below h.d.low⟩
/-- Both logs, at one state. -/
structure Both (B : Nat) (L : List Nat) (W : World) (p q b b' N : Nat) (m1 m2 : M) : Prop where
  two : Two B L W p q N m1 m2
  log : LogAt W b p 2
  rlog : RLogAt W b' q 2
  mb : b ∈ L
  mb' : b' ∈ L
  nb : b ≠ q
  nb' : b' ≠ q
theorem Both.below (h : Both B L W p q b b' N m1 m2) (k : Below W.heap.size W W') : Both B L W' p q b b' N m1 m2 := ⟨h.two.below k, h.log.below k, h.rlog.below k, h.mb, h.mb', h.nb, h.nb'⟩
theorem both_append (A : Option Addr) (k c : Nat) (l : List (List UInt8)) (h : Both B L W p q b b' N m m2) (hl : RS W A k l) (ht : Tab W) (hk : k ≤ 1000000) (hN : N < 900000) {r : Int} (hr : Hid (wappend m 2 l = (r, m'))) :
    Calls Tryd.prog 26 #[.pointer (some ⟨b, 0, none⟩), .slice A k c] W fun e W' => e = .returned (.int .i64 r) ∧ Both B L W' p q b b' (N + 2) m' m2 ∧ Below B W W' := by
  refine (write_lit A k c l h.log h.two.d h.mb hl ht hk hN (by omega) (by omega) hr).mono ?_
  rintro e W' ⟨rfl, hS⟩
  exact ⟨rfl, ⟨h.two.disk hS.disk hS.kept, hS.log, hS.kept.heap h.rlog (.inr h.mb'), h.mb, h.mb', h.nb, h.nb'⟩, hS.kept.below h.two.d.low⟩
theorem both_anew (A : Option Addr) (k c : Nat) (l : List (List UInt8)) (h : Both B L W p q b b' N m m2) (hl : RS W A k l) (ht : Tab W) (hk : k ≤ 1000000) (hN : N < 900000) {r : Int} (hr : Hid (wanew m 2 l = (r, m'))) :
    Calls Tryd.prog 24 #[.pointer (some ⟨b, 0, none⟩), .slice A k c] W fun e W' => e = .returned (.int .i64 r) ∧ Both B L W' p q b b' (N + 2) m' m2 ∧ Below B W W' := by
  refine (anew_lit A k c l h.log h.two.d h.mb hl ht hk hN hr).mono ?_
  rintro e W' ⟨rfl, hS⟩
  exact ⟨rfl, ⟨h.two.disk hS.disk hS.kept, hS.log, hS.kept.heap h.rlog (.inr h.mb'), h.mb, h.mb', h.nb, h.nb'⟩, hS.kept.below h.two.d.low⟩
theorem both_rappend (A : Option Addr) (k c : Nat) (l : List (List UInt8)) (h : Both B L W p q b b' N m1 m) (g : Fine m) (hl : RS W A k l) (hk : k ≤ 1000000) {r : Int} (hr : Hid (wappend m 2 l = (r, m'))) :
    Calls Tryd.prog 27 #[.pointer (some ⟨b', 0, none⟩), .slice A k c] W fun e W' => e = .returned (.int .i64 r) ∧ Both B L W' p q b b' N m1 m' ∧ Below B W W' := by
  refine (rappend_log A k c l h.rlog h.two.r g h.nb' hl hk).mono ?_
  rintro e W' ⟨rfl, hS⟩
  rw [hr.out] at hS ⊢
  exact ⟨rfl, ⟨h.two.doc hS.disk hS.kept, hS.kept.heap h.log h.nb, hS.log, h.mb, h.mb', h.nb, h.nb'⟩, h.two.since hS.kept⟩
theorem both_ranew (A : Option Addr) (k c : Nat) (l : List (List UInt8)) (h : Both B L W p q b b' N m1 m) (g : Fine m) (hl : RS W A k l) (hk : k ≤ 1000000) {r : Int} (hr : Hid (wanew m 2 l = (r, m'))) :
    Calls Tryd.prog 25 #[.pointer (some ⟨b', 0, none⟩), .slice A k c] W fun e W' => e = .returned (.int .i64 r) ∧ Both B L W' p q b b' N m1 m' ∧ Below B W W' := by
  refine (ranew_log A k c l h.rlog h.two.r g h.nb' hl hk).mono ?_
  rintro e W' ⟨rfl, hS⟩
  rw [hr.out] at hS ⊢
  exact ⟨rfl, ⟨h.two.doc hS.disk hS.kept, hS.kept.heap h.log h.nb, hS.log, h.mb, h.mb', h.nb, h.nb'⟩, h.two.since hS.kept⟩
/-- A text read off both disks behind a crash. -/
theorem read_lit (h : Has B L W p N m) (h0 : -9223372036854775808 ≤ n) (h1 : n ≤ 9223372036854775807) {s : ByteArray} {f : Int} (hr : Hid ((str (m.read n).1, (m.read n).2) = (s, f))) :
    Calls Tryd.prog 29 #[.pointer (some ⟨p, 0, none⟩), .int .i64 n] W fun e W' => e = .returned (.tuple #[.string s, .int .i64 f]) ∧ Below W.heap.size W W' := by
  refine (read_has n h h0 h1).mono ?_
  intro e W' hg
  have := hr.out
  injection this with e1 e2
  exact Log.Got.lit hg e1 e2
theorem rread_lit (h : RefAt W q m) (g : Fine m) {s : ByteArray} {f : Int} (hr : Hid ((str (m.read n).1, (m.read n).2) = (s, f))) :
    Calls Tryd.prog 31 #[.pointer (some ⟨q, 0, none⟩), .int .i64 n] W fun e W' => e = .returned (.tuple #[.string s, .int .i64 f]) ∧ Below W.heap.size W W' := by
  refine (rread_any n h g).mono ?_
  intro e W' hg
  have := hr.out
  injection this with e1 e2
  exact Log.Got.lit hg e1 e2
theorem rcrash_lit (KA : Option Addr) (kn kc : Nat) (keep : List Int) (h : RefAt W q m) (g : Fine m) (hk : Reads W W.heap.size 1 KA kn (inums keep)) (hm : Hid (m.crash keep = m')) :
    Calls Tryd.prog 30 #[.pointer (some ⟨q, 0, none⟩), .slice KA kn kc] W fun e W' => ∃ q', e = .returned (.pointer (some ⟨q', 0, none⟩)) ∧ RefAt W' q' m' ∧ Below W.heap.size W W' := by
  refine (rcrash_any KA kn kc keep h g hk).mono ?_
  rintro e W' ⟨q', rfl, h1, _, h2⟩
  rw [hm.out] at h1
  exact ⟨q', rfl, h1, h2⟩
end

set_option maxRecDepth 100000 in
set_option maxHeartbeats 16000000 in
theorem runs_mid (s : ByteArray) (fuel keep : Int) (A : Option Addr) (n c : Nat) (Bs : List (List (List UInt8))) (w : World) (h : Opens.Holds w A n Bs) (hn : n ≤ c) (hc : c ≤ 9223372036854775807) (hx : ∀ l ∈ Bs, ∀ z ∈ l, z.length ≤ 140737488355328)
    (hf0 : -9223372036854775808 ≤ fuel) (hf1 : fuel ≤ 9223372036854775807) (ht : Tab w) :
    Calls Tryd.prog 5 #[.string s, .agg #[.int .i64 fuel, .int .i64 keep], .slice A n c] w fun e w' => e = .returned (.bool true) ∧ Below w.heap.size w w' := by
  have HT := Lib.hid ht
  have hgb := Tab.lt ht
  have hb0 : Below w.heap.size w (w.alloc (.cells #[.int .i64 fuel, .int .i64 keep] 32)) := (Below.refl _ _).alloc (Nat.le_refl _) _
  have HL : Hid (Bs.length = n) := h.1
  have HX := Lib.hid hx
  have HH := Lib.hid h
  obtain ⟨m0, hm0⟩ : ∃ m0, M.new 30000 = m0 := ⟨_, rfl⟩
  have hg0 : Fine m0 := by rw [← hm0]; exact Fine.new (by omega)
  obtain ⟨r1, m1, hm1⟩ : ∃ r1 m1, m0.replace 2 s.data.toList = (r1, m1) := ⟨_, _, rfl⟩
  have hg1 : Fine m1 := by have := hg0.replace 2 s.data.toList; rw [hm1] at this; exact this
  obtain ⟨m2, hm2⟩ : ∃ m2, m1.fuelled fuel = m2 := ⟨_, rfl⟩
  have hg2 : Fine m2 := by rw [← hm2]; exact hg1.fuelled hf1
  obtain ⟨⟨⟨e3, rl⟩, m3⟩, hm3⟩ : ∃ q, wopen m2 2 = q := ⟨_, rfl⟩
  have HM0 := Lib.hid hm0
  have HM1 := Lib.hid hm1
  have HM2 := Lib.hid hm2
  have HM3 := Lib.hid hm3
  have HG := Lib.hid (And.intro hg0 (And.intro hg1 hg2))
  clear ht hx h hm0 hm1 hm2 hm3 hg0 hg1 hg2
  go_enter Tryd.func5, Tryd.ntmps5
  go_wp2_with fail
  go_quiet (fail)
  have hbW := below_drewN hb0 nq
  revert hbW
  generalize World.drewN _ nq = W0
  intro hbW
  go_wp2_with fail
  refine (begun_any _ (Tab.next HT.out hbW)).mono ?_
  rintro e w1 ⟨rfl, hb1⟩
  have hbel1 := hbW.trans (hb1.mono hbW.size)
  clear hb0 hbW hb1
  go_wp2_with fail
  go_loop [9, 34] (fun s i => ∃ (k : Nat), k ≤ n ∧ i = .int .i64 (k : Int) ∧ s = .int .i64 (cost (Bs.take k) : Int) ∧ Hid (Few (Bs.take k))) (fun _ i => n - (intOf i).toNat)
  case atStart => exact ⟨0, by omega, rfl, rfl, ⟨fun c hc => by simp at hc, by simp [cost]⟩⟩
  case round =>
    obtain ⟨k, hk, rfl, rfl, hfew⟩ := hrel
    by_cases hkn : k < n
    · have hkl : k < Bs.length := by rw [HL.out]; exact hkn
      obtain ⟨b, o, A1, q1, c1, rfl, hcell, hr1, hq1, hc1⟩ := HH.out.at_ hbel1 k hkl
      obtain ⟨cl, hcl⟩ : ∃ cl, Bs[k] = cl := ⟨_, rfl⟩
      have hmem : cl ∈ Bs := by rw [← hcl]; exact List.getElem_mem hkl
      have hxk := HX.out cl hmem
      rw [hcl] at hr1
      have hq1l : cl.length = q1 := texts_len hr1
      have hcs := cost_succ hkl
      rw [hcl] at hcs
      have hts := List.take_succ_eq_append_getElem hkl
      rw [hcl] at hts
      have hfw := hfew.out.few
      by_cases hfair : Small.Fair cl
      · have HFA := Lib.hid (decide_eq_true hfair)
        have hq200 : q1 ≤ 200 := by have := hfair.2; omega
        by_cases h100 : cost (Bs.take k) + (q1 + 1) ≤ 100
        · have hnext : Hid (Few (Bs.take (k + 1))) := ⟨fun y hy => by
            rw [hts] at hy
            rcases List.mem_append.1 hy with hy | hy
            · exact hfew.out.fair y hy
            · simp only [List.mem_singleton] at hy
              subst hy
              exact hfair, by rw [hcs, hq1l]; exact h100⟩
          obtain ⟨u, hu⟩ : ∃ u, cost (Bs.take k) = u := ⟨_, rfl⟩
          rw [hu, hq1l] at hcs
          rw [hu] at h100
          rw [hu]
          have h100i : ¬ (100 : Int) < (u : Int) + ((q1 : Int) + 1) := by omega
          have HCS := Lib.hid hcs
          clear hcl hcs hts hfair hu
          go_wp2_with fail
          refine (small_lit A1 q1 c1 cl _ hr1 (by omega) hxk HFA).mono ?_
          rintro e w2 ⟨rfl, rfl⟩
          go_wp2
          go_round
          case rel => exact ⟨k + 1, by omega, by go_num, by rw [HCS.out]; go_num, hnext⟩
          case measure => simp [intOf]; omega
        · obtain ⟨u, hu⟩ : ∃ u, cost (Bs.take k) = u := ⟨_, rfl⟩
          rw [hu] at h100
          rw [hu]
          have hu100 : u ≤ 100 := by rw [← hu]; exact hfw
          have h100i : (100 : Int) < (u : Int) + ((q1 : Int) + 1) := by omega
          clear hcl hcs hts hfair hu
          go_wp2_with fail
          refine (small_lit A1 q1 c1 cl _ hr1 (by omega) hxk HFA).mono ?_
          rintro e w2 ⟨rfl, rfl⟩
          go_wp2
          go_ret
          exact ⟨rfl, hbel1⟩
      · have HFA := Lib.hid (decide_eq_false hfair)
        clear hcl hcs hts hfair
        go_wp2_with fail
        refine (small_lit A1 q1 c1 cl _ hr1 (by omega) hxk HFA).mono ?_
        rintro e w2 ⟨rfl, rfl⟩
        go_wp2
        go_ret
        exact ⟨rfl, hbel1⟩
    · obtain rfl : k = n := by omega
      have hfull : Bs.take k = Bs := List.take_of_length_le (by rw [HL.out]; omega)
      rw [hfull] at hfew
      clear hfull hkn hk
      have hk100 : k ≤ 100 := by
        have h1 : ∀ l : List (List (List UInt8)), l.length ≤ cost l := fun l => by
          induction l with
          | nil => simp
          | cons c l ih => simp only [cost, List.length_cons]; omega
        have := h1 Bs
        have := hfew.out.few
        rw [HL.out] at *
        omega
      by_cases hs : s.size ≤ 20000
      · have hsi : ¬ (20000 : Int) < (s.size : Int) := by omega
        obtain ⟨n, hnk⟩ : ∃ n, k = n := ⟨_, rfl⟩
        rw [hnk] at hn hk100 HL HH ⊢
        clear hnk
        go_wp2_with fail
        refine (new_has (B := w.heap.size) 30000 (by omega) hbel1.size).mono ?_
        rintro e w2 ⟨p, rfl, hD2, hp, hb2⟩
        rw [HM0.out] at hD2
        have hbel2 := hbel1.trans (hb2.mono hbel1.size)
        go_wp2_with fail
        refine (rnew_yes 30000 _ (by omega)).mono ?_
        rintro e w3 ⟨q, rfl, hq3, hR3, hb3⟩
        rw [HM0.out] at hR3
        have hbel3 := hbel2.trans (hb3.mono hbel2.size)
        have hT3 : Two w.heap.size [q] w3 p q 0 m0 m0 := ⟨hD2.beside hb3 hq3 (RefAt.lt hR3), hR3, by simp, Nat.le_trans hbel2.size hq3⟩
        clear hD2 hR3
        go_wp2_with fail
        refine (two_replace s hT3 (by omega) HM1).mono ?_
        rintro e w4 ⟨rfl, hT4, hb4⟩
        have hbel4 := hbel3.trans hb4
        go_wp2_with fail
        refine (two_rreplace s hT4 HG.out.1 (by omega) HM1).mono ?_
        rintro e w5 ⟨rfl, hT5, hb5⟩
        have hbel5 := hbel4.trans hb5
        go_wp2_with fail
        refine (two_fuel fuel hT5 hf0 hf1).mono ?_
        rintro e w6 ⟨rfl, hT6, hb6⟩
        rw [HM2.out] at hT6
        have hbel6 := hbel5.trans hb6
        have hrf := hT6.r.fuel
        have hrz := hT6.r.free 49
        have hrl := RefAt.lt hT6.r
        have ho7 : Only (fun y => y = q) w6 (w6.setCell ⟨q, 49, none⟩ (.int .i64 (max fuel (-1)))) := Only.setCell (S := fun y => y = q) (Only.refl _ _) (a := ⟨q, 49, none⟩) (.inr rfl) _
        have hT7 := hT6.doc (doc_fuelled hT6.r fuel) ho7
        rw [HM2.out] at hT7
        have hbel7 := hbel6.trans (hT6.since ho7)
        have hq7 : q < (w6.setCell ⟨q, 49, none⟩ (.int .i64 (max fuel (-1)))).heap.size := RefAt.lt hT7.r
        have HT7 := Lib.hid hT7
        have HB7 := Lib.hid hbel7
        have HQ7 := Lib.hid hq7
        clear hT3 hT4 hT5 hT6 hT7 ho7 hbel7 hq7
        go_wp2_with fail
        revert HT7 HB7 HQ7
        generalize World.setCell w6 _ _ = w7
        intro HT7 HB7 HQ7
        have hbel7 := HB7.out
        have hT7 := HT7.out
        refine (LogD.open_any 2 hT7.d (Tab.next HT.out hbel7) hgb (by omega)).mono ?_
        intro e w8 ho
        rw [HM3.out] at ho
        rcases ho with ⟨h0, rfl, hD8, k8⟩ | ⟨h0, b, A8, c8, rfl, hlog8, hown8, hD8, k8, hbb8⟩
        · have h0' : e3 ≠ 0 := h0
          have hT8 := hT7.disk hD8 k8
          have hbel8 := hbel7.trans (k8.below hT7.d.low)
          have ne1 : (e3 != e3) = false := by simp
          have ne2 : (e3 != 0) = true := bne_iff_ne.2 h0'
          go_wp2_with fail
          refine (ropen_any 2 hT8.r HG.out.2.2 (by omega)).mono ?_
          intro e w9 hro
          rw [HM3.out] at hro
          rcases hro with ⟨_, rfl, hR9, k9⟩ | ⟨h, _⟩
          · have hbel9 := hbel8.trans (hT8.since k9)
            go_wp2_with fail
            refine (same_yes none none 0 0 0 0 [] w9 Reads.none_ Reads.none_ (by omega)).mono ?_
            rintro e w10 ⟨rfl, hb10⟩
            go_wp2
            go_ret
            exact ⟨rfl, hbel9.trans (hb10.mono hbel9.size)⟩
          · exact absurd h h0'
        · have h0' : e3 = 0 := h0
          subst h0'
          have hT8 : Two w.heap.size (b :: [q]) w8 p q (1 + 2) m3 m2 := ⟨hD8, k8.heap hT7.r (.inr (by simp)), by simp, hT7.low⟩
          have hbel8 := hbel7.trans (k8.below hT7.d.low)
          have hbq : b ≠ q := by have := HQ7.out; omega
          go_wp2_with fail
          refine (ropen_any 2 hT8.r HG.out.2.2 (by omega)).mono ?_
          intro e w9 hro
          rw [HM3.out] at hro
          rcases hro with ⟨h, _⟩ | ⟨_, b', A9, c9, rfl, hlog9, hrs9, hR9, k9, hbb9⟩
          · exact absurd rfl h
          · have hbel9 := hbel8.trans (hT8.since k9)
            have hown9 : w9.ownsRow w7.heap.size 9 1 (.slice A8 rl.length c8) rl.length (strs rl) := Only.own k9 hown8 fun g hg e => by have h1 := (hown8.lt g hg).1; have h2 := HQ7.out; omega
            have hlt9 : b' < w9.heap.size := lt_at hlog9
            have hq8 := RefAt.lt hT8.r
            have hB9 : Both w.heap.size (b' :: b :: [q]) w9 p q b b' (1 + 2) m3 m3 :=
              ⟨⟨beside_both hT8.d k9 (by simp) hbb9 hlt9, hR9, by simp, hT7.low⟩, k9.heap hlog8 hbq, hlog9, by simp, by simp, hbq, by omega⟩
            have hrl : rl.length ≤ 9223372036854775807 := by obtain ⟨_, _, _, h1, h2, _⟩ := own_form hown9; unfold maxLen at h2; omega
            have hra := Reads.of_own hown9
            clear hT8 hD8 hT7 hlog9 hR9 hown8 hlog8 k8 k9
            go_wp2_with fail
            refine (same_yes A8 A9 rl.length rl.length c8 c9 rl w9 hra hrs9 hrl).mono ?_
            rintro e w10 ⟨rfl, hb10⟩
            have hbel10 := hbel9.trans (hb10.mono hbel9.size)
            have hB10 := hB9.below hb10
            clear hB9 hra hrs9 hown9
            go_wp2_with fail
            go_loopw [103] (fun i wr => ∃ (k N : Nat) (m : M), k ≤ n ∧ i = .int .i64 (k : Int) ∧ Both w.heap.size (b' :: b :: [q]) wr p q b b' N m m ∧ N ≤ 2 * k + 3 ∧ Below w.heap.size w wr) (fun i _ => n - (intOf i).toNat)
            case atStart => exact ⟨0, 1 + 2, m3, by omega, rfl, hB10, by omega, hbel10⟩
            case round =>
              obtain ⟨k, N, m, hk, rfl, hB, hNk, hbel⟩ := hrel
              have hBz := hbel.size
              by_cases hkn : k < n
              · have hkl : k < Bs.length := by rw [HL.out]; exact hkn
                obtain ⟨bb, o, A1, q1, c1, hA, hcell, hr1, hq1, hc1⟩ := holds_at HH.out hbel k hkl
                subst hA
                obtain ⟨cl, hcl⟩ : ∃ cl, Bs[k] = cl := ⟨_, rfl⟩
                rw [hcl] at hr1
                have hq1l : cl.length = q1 := texts_len hr1
                have hq200 : q1 ≤ 200 := by
                  have := (hfew.out.fair cl (by rw [← hcl]; exact List.getElem_mem hkl)).2
                  omega
                clear hcl
                by_cases hmod : k % 3 = 2
                · obtain ⟨r, m', hw⟩ : ∃ r m', wanew m 2 cl = (r, m') := ⟨_, _, rfl⟩
                  have HW := Lib.hid hw
                  have hrr : (r != r) = false := by simp
                  have hmi : ((k : Int).tmod 3 == 2) = true := by rw [Int.tmod_eq_emod_of_nonneg (by omega)]; simp; omega
                  have hmj : (((k : Int) % 3) == 2) = true := by simp; omega
                  clear hw
                  go_wp2_with fail
                  refine (both_anew A1 q1 c1 cl hB (hr1.more hBz) (Tab.next HT.out hbel) (by omega) (by omega) HW).mono ?_
                  rintro e w4 ⟨rfl, hB4, hb4⟩
                  have hbel4 := hbel.trans hb4
                  go_wp2_with fail
                  refine (both_ranew A1 q1 c1 cl hB4 hB.two.d.fine ((Kit.Reads.below hr1 hb4).more hbel4.size) (by omega) HW).mono ?_
                  rintro e w5 ⟨rfl, hB5, hb5⟩
                  go_wp2
                  go_roundw
                  case rel => exact ⟨k + 1, N + 2, m', by omega, by go_num, hB5, by omega, hbel4.trans hb5⟩
                  case measure => simp [intOf]; omega
                · obtain ⟨r, m', hw⟩ : ∃ r m', wappend m 2 cl = (r, m') := ⟨_, _, rfl⟩
                  have HW := Lib.hid hw
                  have hrr : (r != r) = false := by simp
                  have hmi : ((k : Int).tmod 3 == 2) = false := by rw [Int.tmod_eq_emod_of_nonneg (by omega)]; simp; omega
                  have hmj : (((k : Int) % 3) == 2) = false := by simp; omega
                  clear hw
                  go_wp2_with fail
                  refine (both_append A1 q1 c1 cl hB (hr1.more hBz) (Tab.next HT.out hbel) (by omega) (by omega) HW).mono ?_
                  rintro e w4 ⟨rfl, hB4, hb4⟩
                  have hbel4 := hbel.trans hb4
                  go_wp2_with fail
                  refine (both_rappend A1 q1 c1 cl hB4 hB.two.d.fine ((Kit.Reads.below hr1 hb4).more hbel4.size) (by omega) HW).mono ?_
                  rintro e w5 ⟨rfl, hB5, hb5⟩
                  go_wp2
                  go_roundw
                  case rel => exact ⟨k + 1, N + 2, m', by omega, by go_num, hB5, by omega, hbel4.trans hb5⟩
                  case measure => simp [intOf]; omega
              · obtain rfl : k = n := by omega
                obtain ⟨m5, hm5⟩ : ∃ m5, m.crash [0, 0, keep] = m5 := ⟨_, rfl⟩
                obtain ⟨⟨S5, f5⟩, hrd⟩ : ∃ q5, (str (m5.read 2).1, (m5.read 2).2) = q5 := ⟨_, rfl⟩
                have hg := hB.two.d.fine
                have hg5 : Fine m5 := by rw [← hm5]; exact hg.crash _
                have HM5 := Lib.hid hm5
                have HRD := Lib.hid hrd
                have HG5 := Lib.hid (And.intro hg hg5)
                have hss : (S5.toList == S5.toList) = true := by simp
                have hff : (f5 == f5) = true := by simp
                clear hm5 hrd hg hg5
                have hl6 : Below wr.heap.size wr (wr.alloc (.cells #[.int .i64 0, .int .i64 0, .int .i64 keep] 3)) := (Below.refl _ _).alloc (Nat.le_refl _) _
                have hrd6 : Reads (wr.alloc (.cells #[.int .i64 0, .int .i64 0, .int .i64 keep] 3)) (wr.alloc (.cells #[.int .i64 0, .int .i64 0, .int .i64 keep] 3)).heap.size 1 (some ⟨wr.heap.size, 0, none⟩) 3 (inums [0, 0, keep]) := (reads_new wr (inums [0, 0, keep]) 3).more (by simp)
                have hB6 := hB.below hl6
                have hbel6 := hbel.trans (hl6.mono hbel.size)
                clear hB
                go_wp2_with fail
                refine (crash_lit _ 3 3 [0, 0, keep] hB6.two.d hrd6 HM5).mono ?_
                rintro e w7 ⟨p7, rfl, hD7, hb7⟩
                have hbel8 := hbel6.trans (hb7.mono hbel6.size)
                have hR7 := RefAt.below hB6.two.r hb7
                clear hB6 hrd6
                go_wp2_with fail
                refine (read_lit hD7 (by omega) (by omega) HRD).mono ?_
                rintro e w8 ⟨rfl, hb8⟩
                have hR8 := RefAt.below hR7 hb8
                have hbel9 := hbel8.trans (hb8.mono hbel8.size)
                have hl9 : Below w8.heap.size w8 (w8.alloc (.cells #[.int .i64 0, .int .i64 0, .int .i64 keep] 3)) := (Below.refl _ _).alloc (Nat.le_refl _) _
                have hrd9 : Reads (w8.alloc (.cells #[.int .i64 0, .int .i64 0, .int .i64 keep] 3)) (w8.alloc (.cells #[.int .i64 0, .int .i64 0, .int .i64 keep] 3)).heap.size 1 (some ⟨w8.heap.size, 0, none⟩) 3 (inums [0, 0, keep]) := (reads_new w8 (inums [0, 0, keep]) 3).more (by simp)
                have hR9 := RefAt.below hR8 hl9
                have hbel10 := hbel9.trans (hl9.mono hbel9.size)
                clear hR7 hR8 hD7
                go_wp2_with fail
                refine (rcrash_lit _ 3 3 [0, 0, keep] hR9 HG5.out.1 hrd9 HM5).mono ?_
                rintro e w11 ⟨q11, rfl, hR11, hb11⟩
                have hbel11 := hbel10.trans (hb11.mono hbel10.size)
                clear hR9 hrd9
                go_wp2_with fail
                refine (rread_lit hR11 HG5.out.2 HRD).mono ?_
                rintro e w12 ⟨rfl, hb12⟩
                go_wp2
                go_ret
                exact ⟨rfl, hbel11.trans (hb12.mono hbel11.size)⟩
      · have hsi : (20000 : Int) < (s.size : Int) := by omega
        go_wp2
        go_ret
        exact ⟨rfl, hbel1⟩
theorem runs_walk (s : ByteArray) (fuel keep : Int) (A : Option Addr) (n c : Nat) (Bs : List (List (List UInt8))) (w : World) (_ : s.size ≤ maxLen) (hf : (Lit.int .i64 fuel).wf = true) (_hk : (Lit.int .i64 keep).wf = true)
    (h : Opens.Holds w A n Bs) (hn : n ≤ c) (hc : c ≤ 9223372036854775807) (hx : ∀ l ∈ Bs, ∀ z ∈ l, z.length ≤ 140737488355328) (ht : Tab w) :
    Calls Tryd.prog 5 #[.string s, .agg #[.int .i64 fuel, .int .i64 keep], .slice A n c] w fun e w' => e = .returned (.bool true) ∧ Below w.heap.size w w' := by
  obtain ⟨h0, h1⟩ := i64_of hf
  exact runs_mid s fuel keep A n c Bs w h hn hc hx h0 h1 ht
end Go.Proofs.YtmimpfccngihiaaDoor.LawG
