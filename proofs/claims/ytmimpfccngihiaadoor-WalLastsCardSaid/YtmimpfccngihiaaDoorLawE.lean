/- The walk of the statement that what was answered with OK is there behind a crash (tools/gen_lasts.py writes this text). -/
import Derived.Test.YtmimpfccngihiaaDoorLawD
import Derived.Test.YtmimpfccngihiaaDoorLawF
import Derived.Test.YtmimpfccngihiaaDoorOpens
set_option linter.unusedVariables false
set_option linter.unusedSimpArgs false
namespace Go.Proofs.YtmimpfccngihiaaDoor.LawE
open Go.RowKit Go.Proofs.YtmimpfccngihiaaDoor.Kit Go.Proofs.YtmimpfccngihiaaDoor.Blocks Go.Proofs.YtmimpfccngihiaaDoor.Stuff Go.Proofs.YtmimpfccngihiaaDoor.Crc Go.Proofs.YtmimpfccngihiaaDoor.SumB Go.Proofs.YtmimpfccngihiaaDoor.Wal Go.Proofs.YtmimpfccngihiaaDoor.StuWalkA Go.Proofs.YtmimpfccngihiaaDoor.FrA Go.Proofs.YtmimpfccngihiaaDoor.FrC Go.Proofs.YtmimpfccngihiaaDoor.ScA Go.Proofs.YtmimpfccngihiaaDoor.ScB Go.Proofs.YtmimpfccngihiaaDoor.Frm Go.Proofs.YtmimpfccngihiaaDoor.Model Go.Proofs.YtmimpfccngihiaaDoor.Disk Go.Proofs.YtmimpfccngihiaaDoor.Ops Go.Proofs.YtmimpfccngihiaaDoor.Log Go.Proofs.YtmimpfccngihiaaDoor.LogB Go.Proofs.YtmimpfccngihiaaDoor.LogC Go.Proofs.YtmimpfccngihiaaDoor.Solo Go.Proofs.YtmimpfccngihiaaDoor.Small Go.Proofs.YtmimpfccngihiaaDoor.Beg Go.Proofs.YtmimpfccngihiaaDoor.LawA Go.Proofs.YtmimpfccngihiaaDoor.LawB Go.Proofs.YtmimpfccngihiaaDoor.LawD Go.Proofs.YtmimpfccngihiaaDoor.LawF
open Go.Proofs.YtmimpfccngihiaaDoor.DskWalkC (str Got)
open Go.Proofs.YtmimpfccngihiaaDoor.DskWalkJ (inums)
open Go.Proofs.YtmimpfccngihiaaDoor.Model.M (kept)

/-- Batches, one behind the other; what the statement counts of them. -/
def cat : List (List (List UInt8)) → List (List UInt8)
  | [] => []
  | c :: l => c ++ cat l
def cost : List (List (List UInt8)) → Nat
  | [] => 0
  | c :: l => (c.length + 1) + cost l
theorem cat_append : ∀ (a b : List (List (List UInt8))), cat (a ++ b) = cat a ++ cat b
  | [], _ => rfl
  | x :: a, b => by simp only [List.cons_append, cat, cat_append a b, List.append_assoc]
theorem cost_append : ∀ (a b : List (List (List UInt8))), cost (a ++ b) = cost a + cost b
  | [], _ => by simp [cost]
  | x :: a, b => by simp only [List.cons_append, cost, cost_append a b]; omega
theorem cat_succ {l : List (List (List UInt8))} {k : Nat} (h : k < l.length) : cat (l.take (k + 1)) = cat (l.take k) ++ l[k] := by
  rw [List.take_succ_eq_append_getElem h, cat_append]
  simp [cat]
theorem cost_succ {l : List (List (List UInt8))} {k : Nat} (h : k < l.length) : cost (l.take (k + 1)) = cost (l.take k) + (l[k].length + 1) := by
  rw [List.take_succ_eq_append_getElem h, cost_append]
  simp [cost]
theorem cost_le (l : List (List (List UInt8))) (k : Nat) : cost (l.take k) ≤ cost l := by
  conv => rhs; rw [← List.take_append_drop k l, cost_append]
  omega
theorem cat_few : ∀ l : List (List (List UInt8)), (cat l).length ≤ cost l
  | [] => Nat.le_refl _
  | c :: l => by have := cat_few l; simp only [cat, cost, List.length_append]; omega
/-- All batches are fair, and few. -/
structure Few (Bs : List (List (List UInt8))) : Prop where
  fair : ∀ c ∈ Bs, Small.Fair c
  few : cost Bs ≤ 100
theorem cat_frames : ∀ l : List (List (List UInt8)), (∀ c ∈ l, Small.Fair c) → 254 * (frames (cat l)).length ≤ 2551528 * cost l
  | [], _ => by simp [cat, frames]
  | c :: l, h => by
    have h1 := cat_frames l fun y hy => h y (List.mem_cons_of_mem _ hy)
    have h2 := frames_short c
    have h3 := (h c (by simp)).1
    simp only [cat, cost, frames_append, List.length_append]
    rcases Nat.eq_zero_or_pos c.length with h0 | h0
    · have hc : c = [] := List.eq_nil_of_length_eq_zero h0
      subst hc
      simp [weigh] at h2
      omega
    · omega
theorem cat_recs : ∀ l : List (List (List UInt8)), (∀ c ∈ l, Small.Fair c) → Recs (cat l)
  | [], _ => by intro x hx; simp [cat] at hx
  | c :: l, h => (h c (by simp)).recs.append (cat_recs l fun y hy => h y (List.mem_cons_of_mem _ hy))
theorem Few.take {Bs : List (List (List UInt8))} (h : Few Bs) (k : Nat) : Few (Bs.take k) := ⟨fun c hc => h.fair c (List.mem_of_mem_take hc), Nat.le_trans (cost_le Bs k) h.few⟩
theorem Few.bytes {Bs : List (List (List UInt8))} (h : Few Bs) : (frames (cat Bs)).length ≤ 1004700 := by have := cat_frames Bs h.fair; have := h.few; omega

/-- A disk whose log has just these records, and goes on. -/
def Liv (J : List (List UInt8)) (m : M) : Prop := ∃ f, m = solo 1048576 f false 0 (frames J) [] true (fun _ => false)
/-- What is left behind a crash: the sure ones, and some first ones of all. -/
def Fin (sure all : List (List UInt8)) (m : M) : Prop := ∀ keep : List Int, ∃ rl m6, wopen (m.crash keep) ((0 : Nat) : Int) = ((0, rl), m6) ∧ sure.length ≤ rl.length ∧ rl = all.take rl.length
theorem Liv.fin {J : List (List UInt8)} {m : M} (h : Liv J m) (hr : Recs J) (hs : (frames J).length ≤ 1048576) : Fin J J m := by
  obtain ⟨f, rfl⟩ := h
  intro keep
  have e := crash_there (R := 1048576) (f := f) (o := false) (i := 0) (F := frames J) (S := []) (T := fun _ => false) (by omega) (by simp only [List.length_nil]; omega) keep
  rw [List.take_nil, List.append_nil, scan_all J hr] at e
  exact ⟨J, _, e, Nat.le_refl _, by simp⟩
theorem Liv.next {J c : List (List UInt8)} {m : M} (h : Liv J m) (hr : Recs (J ++ c)) (hs : (frames (J ++ c)).length ≤ 1048576) : ∃ r m', wappend m ((0 : Nat) : Int) c = (r, m') ∧ ((r = 0 ∧ Liv (J ++ c) m') ∨ (r = 10 ∧ Fin J (J ++ c) m')) := by
  obtain ⟨f, rfl⟩ := h
  have hJ : Recs J := fun x hx => hr x (List.mem_append_left _ hx)
  have hc : Recs c := fun x hx => hr x (List.mem_append_right _ hx)
  have hfs := frames_append J c
  have hlen : (frames J).length + (frames c).length ≤ 1048576 := by rw [hfs, List.length_append] at hs; exact hs
  have e := solo_wappend (R := 1048576) (f := f) (i := 0) (F := frames J) (T := fun _ => false) (by omega) c hc hlen
  by_cases h0 : f = 0
  · rw [if_pos h0] at e
    refine ⟨_, _, e, .inr ⟨rfl, fun keep => ?_⟩⟩
    have e2 := crash_there (R := 1048576) (f := f) (o := true) (i := 0) (F := frames J) (S := []) (T := fun _ => false) (by omega) (by simp only [List.length_nil]; omega) keep
    rw [List.take_nil, List.append_nil, scan_all J hJ] at e2
    exact ⟨J, _, e2, Nat.le_refl _, by simp⟩
  · rw [if_neg h0] at e
    by_cases h1 : f = 1
    · rw [if_pos h1] at e
      refine ⟨_, _, e, .inr ⟨rfl, fun keep => ?_⟩⟩
      have e2 := crash_there (R := 1048576) (f := 0) (o := true) (i := 0) (F := frames J) (S := frames c) (T := fun _ => false) (by omega) hlen keep
      rw [crash_scan J c _ hJ hc (kept_le keep 0 _)] at e2
      obtain ⟨q, hq⟩ : ∃ q, cut c (kept keep 0 (frames c).length) = q := ⟨_, rfl⟩
      have hqc := cut_le c (kept keep 0 (frames c).length)
      rw [hq] at e2 hqc
      have hl : (J ++ c.take q).length = J.length + q := by rw [List.length_append, List.length_take]; omega
      refine ⟨_, _, e2, by rw [hl]; omega, ?_⟩
      rw [hl, List.take_append, List.take_of_length_le (show J.length ≤ J.length + q by omega), Nat.add_sub_cancel_left]
    · rw [if_neg h1] at e
      exact ⟨_, _, e, .inl ⟨rfl, _, by rw [hfs]⟩⟩

theorem holds_at {w w' : World} {a : Option Addr} {n : Nat} {L : List (List (List UInt8))} (h : Opens.Holds w a n L) (hb : Below w.heap.size w w') (k : Nat) (hk : k < L.length) :
    ∃ b o A m c, a = some ⟨b, o, none⟩ ∧ w'.cell? ⟨b, o + k, none⟩ = some (.slice A m c) ∧ Reads w' w.heap.size 1 A m (strs L[k]) ∧ m ≤ c ∧ c ≤ 9223372036854775807 := by
  obtain ⟨b, o, A, m, c, rfl, hlt, hc, hr⟩ := h.2 k hk
  exact ⟨b, o, A, m, c, rfl, (hb.cell (p := ⟨b, o + k, none⟩) hlt).trans hc, Kit.Reads.below hr.reads hb, hr.fits, hr.max⟩
theorem log_beside {w w' : World} {b p base n : Nat} {f : Int} {v : Value} {xs : List Value} (h : LogAt w b p f) (hown : w.ownsRow base 9 1 v n xs) (hg : w.grownBy w' v.ownBlock) : LogAt w' b p f := by
  have hne := Lib.ownBlock_ne hown h (by decide)
  exact (hg.block b (lt_at h) (fun e => hne e.symm)).trans h
/-- A disk beside a row that grows. -/
theorem has_grown {B base n : Nat} {L : List Nat} {W W' : World} {p N : Nat} {m : M} {v v' : Value} {e : TypeId} {xs : List Value} (h : Has B L W p N m) (hg : W.grownBy W' v.ownBlock) (hv : ∀ g, v.ownBlock = some g → g ∈ L)
    (hown : W'.ownsRow base e 1 v' n xs) (hat : v'.ownBlock = v.ownBlock ∨ v'.ownBlock = some W.heap.size) : ∃ L', (∀ y, y ∈ L → y ∈ L') ∧ Has B L' W' p N m ∧ ∀ g, v'.ownBlock = some g → g ∈ L' := by
  have ho : Only (fun q => v.ownBlock = some q) W W' := (Only.refl _ W).grown hg fun g hg' => .inr hg'
  obtain ⟨A, c, mb, x, hD, hF⟩ := h.disk
  have hD' := hD.keep ho fun b hb e => (hF b hb).2 (hv b e)
  have hl : Has B L W' p N m := ⟨h.fine, Nat.le_trans h.low ho.size, fun b hb => Nat.lt_of_lt_of_le (h.old b hb) ho.size, A, c, mb, x, hD', hF⟩
  rcases hat with hat | hat
  · exact ⟨L, fun y hy => hy, hl, fun g hg' => hv g (by rw [← hat]; exact hg')⟩
  · have hlt := (hown.lt _ hat).2
    refine ⟨W.heap.size :: L, fun y hy => List.mem_cons_of_mem _ hy, ⟨h.fine, hl.low, fun b hb => ?_, A, c, mb, x, hD', fun q hq => ⟨(hF q hq).1, fun e => ?_⟩⟩, fun g hg' => ?_⟩
    · rcases List.mem_cons.1 hb with rfl | hb
      · exact hlt
      · exact hl.old b hb
    · rcases List.mem_cons.1 e with rfl | e
      · have := hD.foot_lt hq; omega
      · exact (hF q hq).2 e
    · rw [hat] at hg'
      injection hg' with hg'
      rw [← hg']
      simp

set_option maxRecDepth 100000 in
set_option maxHeartbeats 16000000 in
theorem lasts_mid (A : Option Addr) (n c : Nat) (Bs : List (List (List UInt8))) (fuel keep : Int) (w : World) (h : Opens.Holds w A n Bs) (hn : n ≤ c) (hc : c ≤ 9223372036854775807) (hx : ∀ l ∈ Bs, ∀ z ∈ l, z.length ≤ 140737488355328)
    (hf0 : -9223372036854775808 ≤ fuel) (hf1 : fuel ≤ 9223372036854775807) (ht : Tab w) :
    Calls Tryd.prog 6 #[.slice A n c, .int .i64 fuel, .int .i64 keep] w fun e w' => e = .returned (.bool true) ∧ Below w.heap.size w w' := by
  obtain ⟨i0, hi0, hz0, hz1, hz2⟩ := info_parts info9
  have HT := Lib.hid ht
  have hgb := Tab.lt ht
  have HL : Hid (Bs.length = n) := h.1
  have HX := Lib.hid hx
  have HH := Lib.hid h
  obtain ⟨m0, hm0⟩ : ∃ m0, M.new 1048576 = m0 := ⟨_, rfl⟩
  have hN0 : wopen (M.new 1048576) ((0 : Nat) : Int) = ((0, []), solo 1048576 (-1) false 0 [] [] true (fun _ => false)) := by
    rw [new_solo 1048576 0]
    exact solo_open_new (by omega) rfl
  obtain ⟨m1, hm1⟩ : ∃ m1, solo 1048576 (-1) false 0 [] [] true (fun _ => false) = m1 := ⟨_, rfl⟩
  obtain ⟨m2, hm2⟩ : ∃ m2, m1.fuelled fuel = m2 := ⟨_, rfl⟩
  have hliv0 : Liv [] m2 := ⟨max fuel (-1), by rw [← hm2, ← hm1, solo_fuelled]; rfl⟩
  rw [hm0, hm1] at hN0
  have HM0 := Lib.hid hm0
  have HM2 := Lib.hid hm2
  have HO0 := Lib.hid hN0
  have HLIV0 := Lib.hid hliv0
  clear ht hx h hm0 hN0 hm1 hm2 hliv0
  go_enter Tryd.func6, Tryd.ntmps6
  go_wp2_with fail
  refine (begun_any _ HT.out).mono ?_
  rintro e w1 ⟨rfl, hb1⟩
  go_wp2_with fail
  go_loop [7, 26] (fun s i => ∃ (k : Nat), k ≤ n ∧ i = .int .i64 (k : Int) ∧ s = .int .i64 (cost (Bs.take k) : Int) ∧ Hid (Few (Bs.take k))) (fun _ i => n - (intOf i).toNat)
  case atStart => exact ⟨0, by omega, rfl, rfl, ⟨fun c hc => by simp at hc, by simp [cost]⟩⟩
  case round =>
    obtain ⟨k, hk, rfl, rfl, hfew⟩ := hrel
    by_cases hkn : k < n
    · have hkl : k < Bs.length := by rw [HL.out]; exact hkn
      obtain ⟨b, o, A1, q1, c1, rfl, hcell, hr1, hq1, hc1⟩ := HH.out.at_ hb1 k hkl
      obtain ⟨cl, hcl⟩ : ∃ cl, Bs[k] = cl := ⟨_, rfl⟩
      have hmem : cl ∈ Bs := by rw [← hcl]; exact List.getElem_mem hkl
      have hxk := HX.out cl hmem
      rw [hcl] at hr1
      have hq1l : cl.length = q1 := texts_len hr1
      have hcs := cost_succ hkl
      rw [hcl] at hcs
      have hts := List.take_succ_eq_append_getElem hkl
      rw [hcl] at hts
      have hfw := hfew.out.few
      by_cases hfair : Small.Fair cl
      · have HFA := Lib.hid (decide_eq_true hfair)
        have hq200 : q1 ≤ 200 := by have := hfair.2; omega
        by_cases h100 : cost (Bs.take k) + (q1 + 1) ≤ 100
        · have hnext : Hid (Few (Bs.take (k + 1))) := ⟨fun y hy => by
            rw [hts] at hy
            rcases List.mem_append.1 hy with hy | hy
            · exact hfew.out.fair y hy
            · simp only [List.mem_singleton] at hy
              subst hy
              exact hfair, by rw [hcs, hq1l]; exact h100⟩
          obtain ⟨u, hu⟩ : ∃ u, cost (Bs.take k) = u := ⟨_, rfl⟩
          rw [hu, hq1l] at hcs
          rw [hu] at h100
          rw [hu]
          have h100i : ¬ (100 : Int) < (u : Int) + ((q1 : Int) + 1) := by omega
          have HCS := Lib.hid hcs
          clear hcl hcs hts hfair hu
          go_wp2_with fail
          refine (small_lit A1 q1 c1 cl _ hr1 (by omega) hxk HFA).mono ?_
          rintro e w2 ⟨rfl, rfl⟩
          go_wp2
          go_round
          case rel => exact ⟨k + 1, by omega, by go_num, by rw [HCS.out]; go_num, hnext⟩
          case measure => simp [intOf]; omega
        · obtain ⟨u, hu⟩ : ∃ u, cost (Bs.take k) = u := ⟨_, rfl⟩
          rw [hu] at h100
          rw [hu]
          have hu100 : u ≤ 100 := by rw [← hu]; exact hfw
          have h100i : (100 : Int) < (u : Int) + ((q1 : Int) + 1) := by omega
          clear hcl hcs hts hfair hu
          go_wp2_with fail
          refine (small_lit A1 q1 c1 cl _ hr1 (by omega) hxk HFA).mono ?_
          rintro e w2 ⟨rfl, rfl⟩
          go_wp2
          go_ret
          exact ⟨rfl, hb1⟩
      · have HFA := Lib.hid (decide_eq_false hfair)
        clear hcl hcs hts hfair
        go_wp2_with fail
        refine (small_lit A1 q1 c1 cl _ hr1 (by omega) hxk HFA).mono ?_
        rintro e w2 ⟨rfl, rfl⟩
        go_wp2
        go_ret
        exact ⟨rfl, hb1⟩
    · obtain rfl : k = n := by omega
      have hfull : Bs.take k = Bs := List.take_of_length_le (by rw [HL.out]; omega)
      rw [hfull] at hfew
      clear hfull hkn hk
      have hk100 : k ≤ 100 := by
        have h1 : ∀ l : List (List (List UInt8)), l.length ≤ cost l := fun l => by
          induction l with
          | nil => simp
          | cons c l ih => simp only [cost, List.length_cons]; omega
        have := h1 Bs
        have := hfew.out.few
        rw [HL.out] at *
        omega
      go_wp2_with fail
      refine (new_has (B := w.heap.size) 1048576 (by omega) hb1.size).mono ?_
      rintro e w2 ⟨p, rfl, hD2, hp, hb2⟩
      rw [HM0.out] at hD2
      have hbel2 := hb1.trans (hb2.mono hb1.size)
      go_wp2_with fail
      refine (open_ok 0 hD2 (Tab.next HT.out hbel2) hgb (by omega) HO0).mono ?_
      rintro e w3 ⟨bl, A3, k3, c3, rfl, hk3, hlog3, hrs3, hD3, kk3, hbb3⟩
      have hbel3 := hbel2.trans (kk3.below hD2.low)
      clear hrs3 kk3
      go_wp2_with fail
      refine (fuel_ls (w := w3) ⟨hlog3, hD3, Keeps.refl _ _ _⟩ (by simp) hf0 hf1 HM2).mono ?_
      rintro e w4 ⟨rfl, hS4⟩
      have hbel4 := hbel3.trans (hS4.kept.below hbel3.size)
      obtain ⟨n, hnk⟩ : ∃ n, k = n := ⟨_, rfl⟩
      rw [hnk] at hn hk100 HL HH ⊢
      clear hnk hD2 hlog3 hD3
      have hD4 := hS4.disk
      have hlog4 := hS4.log
      clear hS4
      go_wp2_with fail
      go_loopw [15, 16, 60] (fun s v i wr => ∃ (k : Nat) (As : Option Addr) (cs : Nat) (L : List Nat) (m : M) (N : Nat), k ≤ n ∧ i = .int .i64 (k : Int) ∧ s = .slice As (cat (Bs.take k)).length cs ∧ wr.ownsRow w.heap.size 9 1 v (cat (Bs.take k)).length (strs (cat (Bs.take k))) ∧
        (∀ g, v.ownBlock = some g → g ∈ L) ∧ bl ∈ L ∧ LogAt wr bl p 0 ∧ Has w.heap.size L wr p N m ∧ N ≤ 2 * k + 2 ∧ Hid (Liv (cat (Bs.take k)) m) ∧ Below w.heap.size w wr) (fun _ _ i _ => n - (intOf i).toNat)
      case atStart => exact ⟨0, none, 0, [bl], m2, 2, by omega, rfl, rfl, World.ownsRow_nil _ _ _ _, by simp [Value.ownBlock], by simp, hlog4, hD4, by omega, HLIV0, hbel4⟩
      case round =>
        obtain ⟨k, As, cs, L, m, N, hk, rfl, rfl, hown, hv, hbl, hlog, hD, hNk, hliv, hbel⟩ := hrel
        have hB := hbel.size
        by_cases hkn : k < n
        · have hkl : k < Bs.length := by rw [HL.out]; exact hkn
          obtain ⟨b, o, A1, q1, c1, hA, hcell, hr1, hq1, hc1⟩ := holds_at HH.out hbel k hkl
          subst hA
          obtain ⟨cl, hcl⟩ : ∃ cl, Bs[k] = cl := ⟨_, rfl⟩
          rw [hcl] at hr1
          have hq1l : cl.length = q1 := texts_len hr1
          have hcat := cat_succ hkl
          rw [hcl] at hcat
          have hmem : cl ∈ Bs := by rw [← hcl]; exact List.getElem_mem hkl
          have hfk := hfew.out.take (k + 1)
          have hrec := cat_recs _ hfk.fair
          have hbytes := hfk.bytes
          have hcost := cat_few (Bs.take (k + 1))
          have hc100 := hfk.few
          have hlen : (cat (Bs.take k)).length + q1 = (cat (Bs.take (k + 1))).length := by rw [hcat, List.length_append, hq1l]
          have hq200 : q1 ≤ 200 := by have := (hfew.out.fair cl hmem).2; omega
          obtain ⟨r, m', hw, hway⟩ := hliv.out.next (c := cl) (by rw [← hcat]; exact hrec) (by rw [← hcat]; omega)
          rw [← hcat] at hway
          have HW := Lib.hid hw
          have HWAY := Lib.hid hway
          have HCAT := Lib.hid hcat
          have HREC := Lib.hid hrec
          have HBY := Lib.hid hbytes
          have HLEN := Lib.hid hlen
          have hm1 : (cat (Bs.take k)).length + q1 ≤ maxLen := by unfold maxLen; omega
          have hs1 : ((cat (Bs.take k)).length + q1) * 16 ≤ 140737488355328 := by omega
          have HSM : Hid ((cat (Bs.take (k + 1))).length ≤ 100) := Nat.le_trans hcost hc100
          clear hw hway hcat hrec hbytes hcl hcost hc100 hfk hmem hlen
          go_wp2_with fail
          refine (write_lit A1 q1 c1 cl hlog hD hbl (hr1.more hB) (Tab.next HT.out hbel) (by omega) (by omega) (by omega) (by omega) HW).mono ?_
          rintro e w4 ⟨rfl, hS4⟩
          have hbel4 := hbel.trans (hS4.kept.below hB)
          have hown4 : w4.ownsRow w.heap.size 9 1 u16 (cat (Bs.take k)).length (strs (cat (Bs.take k))) := Only.own hS4.kept hown fun g hg hn => hn.2 (hv g hg)
          have hr4 : Reads w4 w.heap.size 1 A1 q1 (strs cl) := Kit.Reads.below hr1 (hS4.kept.below hB)
          have hD4 := hS4.disk
          have hlog4 := hS4.log
          clear hS4 hown hr1
          rcases HWAY.out with ⟨hr0, hliv5⟩ | ⟨hr0, hfin5⟩
          · subst hr0
            have HLV := Lib.hid hliv5
            clear hliv5 HWAY
            go_wp2_with (first
              | (at_builtin
                 refine wpList_append_any _ rfl (.tmp 67) (.tmp 68) _ rfl w.heap.size 9 i0 _ 1 16 Tryd.underlying23 hi0 hz0 hz1 hz2 rfl (by decide) _ (cat (Bs.take k)).length (strs (cat (Bs.take k))) rfl hown4
                   w.heap.size A1 q1 c1 (strs cl) rfl hr4 (strs_one _) hm1 hs1 hbel4.size ?_
                 intro v5 w5 hown5 hg5 hat5
                 obtain ⟨L5, hsub5, hD5, hv5⟩ := has_grown (v := u16) hD4 hg5 hv hown5 hat5
                 have hlog5 := log_beside (v := u16) hlog4 hown4 hg5
                 have hbel5 : Below w.heap.size w w5 := hbel4.grown hg5 hbel4.size (own_lt hown4)
                 have hown5' : w5.ownsRow w.heap.size 9 1 v5 (cat (Bs.take (k + 1))).length (strs (cat (Bs.take (k + 1)))) := own_cast hown5 HLEN.out (by rw [HCAT.out, strs_append])
                 obtain ⟨A5, c5, hve5, hc51, hc52, hr5⟩ := own_form hown5'
                 subst hve5
                 clear hown5 hat5 hg5 hown4 hD4 hlog4)
              | (at_builtin
                 refine wpList_append_any _ rfl (.const (.slice none 0 0)) (.tmp 74) _ rfl w.heap.size 9 i0 _ 1 16 Tryd.underlying23 hi0 hz0 hz1 hz2 rfl (by decide) (.slice none 0 0) 0 [] rfl (World.ownsRow_nil _ _ _ _)
                   w5.heap.size A5 (cat (Bs.take (k + 1))).length c5 (strs (cat (Bs.take (k + 1)))) rfl hr5 (strs_one _) (by have := HSM.out; unfold maxLen; omega) (by have := HSM.out; omega) hbel5.size ?_
                 intro v6 w6 hown6 hg6 hat6
                 have hg6' : w5.grownBy w6 (Value.slice none 0 0).ownBlock := hg6
                 have hb6 : Below w5.heap.size w5 w6 := (Below.refl _ _).grown hg6' (Nat.le_refl _) (fun g hg => by cases hg)
                 rw [Nat.zero_add] at hown6
                 obtain ⟨A6, c6, hve6, _, _, _⟩ := own_form hown6
                 subst hve6
                 clear hg6 hg6' hat6))
            go_roundw
            case rel => exact ⟨k + 1, A6, c6, L5, m', N + 2, by omega, by go_num, rfl, own_below hown5' hb6, hv5, hsub5 _ hbl, hlog5.below hb6, hD5.below hb6, by omega, HLV, hbel5.trans (hb6.mono hbel5.size)⟩
            case measure => simp [intOf]; omega
          · subst hr0
            have HFIN1 := Lib.hid hfin5
            clear hfin5 HWAY
            go_wp2_with
              (at_builtin
               refine wpList_append_any _ rfl (.tmp 67) (.tmp 68) _ rfl w.heap.size 9 i0 _ 1 16 Tryd.underlying23 hi0 hz0 hz1 hz2 rfl (by decide) _ (cat (Bs.take k)).length (strs (cat (Bs.take k))) rfl hown4
                 w.heap.size A1 q1 c1 (strs cl) rfl hr4 (strs_one _) hm1 hs1 hbel4.size ?_
               intro v5 w5 hown5 hg5 hat5
               obtain ⟨L5, hsub5, hD5, hv5⟩ := has_grown (v := u16) hD4 hg5 hv hown5 hat5
               have hbel5 : Below w.heap.size w w5 := hbel4.grown hg5 hbel4.size (own_lt hown4)
               have hown : w5.ownsRow w.heap.size 9 1 v5 (cat (Bs.take (k + 1))).length (strs (cat (Bs.take (k + 1)))) := own_cast hown5 HLEN.out (by rw [HCAT.out, strs_append])
               clear hown5 hat5 hg5 hown4 hD4 hlog4)
            obtain ⟨m5, hm5⟩ : ∃ m5, m'.crash [keep] = m5 := ⟨_, rfl⟩
            obtain ⟨rl, m6, g1, g2, g3⟩ := (HFIN1).out [keep]
            rw [hm5] at g1
            have hsmall := HSM.out
            have HM5 := Lib.hid hm5
            have HO := Lib.hid g1
            obtain ⟨A6, c6, hve, hc61, hc62, hr6⟩ := own_form hown
            subst hve
            have hl6 : Below w5.heap.size w5 (w5.alloc (.cells #[.int .i64 keep] 3)) := (Below.refl _ _).alloc (Nat.le_refl _) _
            have hrd : Reads (w5.alloc (.cells #[.int .i64 keep] 3)) (w5.alloc (.cells #[.int .i64 keep] 3)).heap.size 1 (some ⟨w5.heap.size, 0, none⟩) 1 (inums [keep]) := (reads_one w5 (.int .i64 keep) 3).more (by simp)
            have hD6 := hD5.below hl6
            have hown6 := own_below hown hl6
            have hbel7 := hbel5.trans (hl6.mono hbel5.size)
            have hrle : rl.length ≤ (cat (Bs.take (k + 1))).length := by rw [g3, List.length_take]; omega
            have G3 := Lib.hid g3
            clear hm5 g1 g3 hr6 hown
            go_wp2_with fail
            refine (crash_lit _ 1 1 [keep] hD6 hrd HM5).mono ?_
            rintro e w8 ⟨p8, rfl, hD8, hb8⟩
            have hbel8 := hbel7.trans (hb8.mono hbel7.size)
            have hown8 := own_below hown6 hb8
            go_wp2_with fail
            refine (open_ok 0 hD8 (Tab.next HT.out hbel8) hgb (by omega) HO).mono ?_
            rintro e w9 ⟨b9, A9, k9, c9, rfl, hk9, hlog9, hrs9, hD9, kk9, hbb9⟩
            have hbel9 := hbel8.trans (kk9.below hD8.low)
            have hown9 : w9.ownsRow w.heap.size 9 1 (.slice A6 (cat (Bs.take (k + 1))).length c6) (cat (Bs.take (k + 1))).length (strs (cat (Bs.take (k + 1)))) := Only.own kk9 hown8 fun g hg hn => hn.2 (hv5 g hg)
            have hup : RS w9 A6 k9 ((cat (Bs.take (k + 1))).take k9) := RS.upto (Reads.of_own hown9) (by rw [← hk9]; exact hrle)
            have e9 : (cat (Bs.take (k + 1))).take k9 = rl := by rw [← hk9]; exact G3.out.symm
            rw [e9] at hup
            have i1 : ((cat (Bs.take k)).length : Int) ≤ (k9 : Int) := by rw [← hk9]; have := g2; omega
            have i2 : (k9 : Int) ≤ ((cat (Bs.take (k + 1))).length : Int) := by rw [← hk9]; omega
            have i3 : k9 ≤ c6 := by rw [← hk9]; omega
            clear hD6 hrd hown6 hD8 hown8 hlog9 hD9 kk9 hown9
            go_wp2_with fail
            refine (same_yes A9 A6 k9 k9 c9 c6 rl w9 hrs9 hup (by omega)).mono ?_
            rintro e w10 ⟨rfl, hb10⟩
            go_wp2
            go_ret
            exact ⟨rfl, hbel9.trans (hb10.mono hbel9.size)⟩
        · obtain rfl : k = n := by omega
          have hfk := hfew.out.take k
          have HFIN1 := Lib.hid (hliv.out.fin (cat_recs _ hfk.fair) (by have := hfk.bytes; omega))
          have hsm := Nat.le_trans (cat_few (Bs.take k)) hfk.few
          clear hfk hliv
          obtain ⟨m5, hm5⟩ : ∃ m5, m.crash [keep] = m5 := ⟨_, rfl⟩
          obtain ⟨rl, m6, g1, g2, g3⟩ := (HFIN1).out [keep]
          rw [hm5] at g1
          have hsmall := hsm
          have HM5 := Lib.hid hm5
          have HO := Lib.hid g1
          obtain ⟨A6, c6, hve, hc61, hc62, hr6⟩ := own_form hown
          subst hve
          have hl6 : Below wr.heap.size wr (wr.alloc (.cells #[.int .i64 keep] 3)) := (Below.refl _ _).alloc (Nat.le_refl _) _
          have hrd : Reads (wr.alloc (.cells #[.int .i64 keep] 3)) (wr.alloc (.cells #[.int .i64 keep] 3)).heap.size 1 (some ⟨wr.heap.size, 0, none⟩) 1 (inums [keep]) := (reads_one wr (.int .i64 keep) 3).more (by simp)
          have hD6 := hD.below hl6
          have hown6 := own_below hown hl6
          have hbel7 := hbel.trans (hl6.mono hbel.size)
          have hrle : rl.length ≤ (cat (Bs.take k)).length := by rw [g3, List.length_take]; omega
          have G3 := Lib.hid g3
          clear hm5 g1 g3 hr6 hown
          go_wp2_with fail
          refine (crash_lit _ 1 1 [keep] hD6 hrd HM5).mono ?_
          rintro e w8 ⟨p8, rfl, hD8, hb8⟩
          have hbel8 := hbel7.trans (hb8.mono hbel7.size)
          have hown8 := own_below hown6 hb8
          go_wp2_with fail
          refine (open_ok 0 hD8 (Tab.next HT.out hbel8) hgb (by omega) HO).mono ?_
          rintro e w9 ⟨b9, A9, k9, c9, rfl, hk9, hlog9, hrs9, hD9, kk9, hbb9⟩
          have hbel9 := hbel8.trans (kk9.below hD8.low)
          have hown9 : w9.ownsRow w.heap.size 9 1 (.slice A6 (cat (Bs.take k)).length c6) (cat (Bs.take k)).length (strs (cat (Bs.take k))) := Only.own kk9 hown8 fun g hg hn => hn.2 (hv g hg)
          have hup : RS w9 A6 k9 ((cat (Bs.take k)).take k9) := RS.upto (Reads.of_own hown9) (by rw [← hk9]; exact hrle)
          have e9 : (cat (Bs.take k)).take k9 = rl := by rw [← hk9]; exact G3.out.symm
          rw [e9] at hup
          have i1 : ((cat (Bs.take k)).length : Int) ≤ (k9 : Int) := by rw [← hk9]; have := g2; omega
          have i2 : (k9 : Int) ≤ ((cat (Bs.take k)).length : Int) := by rw [← hk9]; omega
          have i3 : k9 ≤ c6 := by rw [← hk9]; omega
          clear hD6 hrd hown6 hD8 hown8 hlog9 hD9 kk9 hown9
          go_wp2_with fail
          refine (same_yes A9 A6 k9 k9 c9 c6 rl w9 hrs9 hup (by omega)).mono ?_
          rintro e w10 ⟨rfl, hb10⟩
          go_wp2
          go_ret
          exact ⟨rfl, hbel9.trans (hb10.mono hbel9.size)⟩
theorem lasts_walk (A : Option Addr) (n c : Nat) (Bs : List (List (List UInt8))) (fuel keep : Int) (w : World) (h : Opens.Holds w A n Bs) (hn : n ≤ c) (hc : c ≤ 9223372036854775807) (hx : ∀ l ∈ Bs, ∀ z ∈ l, z.length ≤ 140737488355328)
    (hf : (Lit.int .i64 fuel).wf = true) (_hk : (Lit.int .i64 keep).wf = true) (ht : Tab w) :
    Calls Tryd.prog 6 #[.slice A n c, .int .i64 fuel, .int .i64 keep] w fun e w' => e = .returned (.bool true) ∧ Below w.heap.size w w' := by
  obtain ⟨h0, h1⟩ := i64_of hf
  exact lasts_mid A n c Bs fuel keep w h hn hc hx h0 h1 ht
end Go.Proofs.YtmimpfccngihiaaDoor.LawE
