/- RlogMatches, walked. -/
import Derived.Test.YtndehdnffajigaaTri
set_option linter.unusedVariables false
namespace Go.Proofs.Ytndehdnffajigaa.LawF
open Go.RowKit Go.Proofs.Ytndehdnffajigaa.Kit Go.Proofs.Ytndehdnffajigaa.Blocks Go.Proofs.Ytndehdnffajigaa.Rlog Go.Proofs.Ytndehdnffajigaa.Ents Go.Proofs.Ytndehdnffajigaa.LogAt Go.Proofs.Ytndehdnffajigaa.WalkB Go.Proofs.Ytndehdnffajigaa.WalkC Go.Proofs.Ytndehdnffajigaa.WalkD Go.Proofs.Ytndehdnffajigaa.WalkE Go.Proofs.Ytndehdnffajigaa.WalkF Go.Proofs.Ytndehdnffajigaa.WalkH Go.Proofs.Ytndehdnffajigaa.WalkI Go.Proofs.Ytndehdnffajigaa.Made Go.Proofs.Ytndehdnffajigaa.Match Go.Proofs.Ytndehdnffajigaa.Merged Go.Proofs.Ytndehdnffajigaa.Tri Go.Proofs.Ytndehdnffajigaa.RefD Go.Proofs.Ytndehdnffajigaa.Alike

/-- A number's place among m. -/
theorem among (z m : Int) (hm : 0 < m) (hb : m ≤ 1000) : ∃ a : Nat, (a : Int) < m ∧ (wrap64 (z.tmod m + m)).tmod m = (a : Int) ∧ (z.tmod m + m) % m = (a : Int) := by
  have h1 := Int.lt_tmod_of_pos z hm
  have h2 := Int.tmod_lt_of_pos z hm
  have h3 : wrap64 (z.tmod m + m) = z.tmod m + m := by unfold wrap64; omega
  have h4 : (z.tmod m + m).tmod m = (z.tmod m + m) % m := Int.tmod_eq_emod_of_nonneg (by omega)
  have h5 := Int.emod_nonneg (z.tmod m + m) (show m ≠ 0 by omega)
  have h6 := Int.emod_lt_of_pos (z.tmod m + m) hm
  refine ⟨((z.tmod m + m) % m).toNat, by omega, ?_, by omega⟩
  rw [h3, h4]
  omega
abbrev g0 : G := ⟨snap0, []⟩
/-- The first k logs are made. -/
structure Beg (w1 : World) (r k : Nat) (W : World) : Prop where
  ex : ∃ ps vs, Tri w1.heap.size r k ps vs (fun _ => g0) W
  since : Below w1.heap.size w1 W
theorem new_g0 (W : World) : Calls Try.prog 11 #[.agg #[.int .u64 0, .int .u64 0, .int .u64 7, .string ⟨#[]⟩], .slice none 0 0] W (NewLog 70 W g0) :=
  pnew_ok (s := snap0) ⟨by decide, by decide, by decide⟩ none 0 0 [] W (RE.nil _ _ _) (by simp) (by omega) (by decide +kernel)
/-- All three, behind k steps. -/
structure Run3 (w1 : World) (r : Nat) (ps : Nat → Nat) (T : Nat) (ld : Int) (k : Nat) (W : World) : Prop where
  ex : ∃ vs gs, Tri w1.heap.size r 3 ps vs gs W ∧ Inv gs T ld k
  since : Below w1.heap.size w1 W
/-- Entries of a log, from behind an index on. -/
theorem get_own {g : G} (o : Match.Own g) {i J : Nat} (hJ : J = i + 1) (n : Nat) : Rlog.get g J (n : Int) = (g.es.drop i).take n := by
  unfold Rlog.get
  have hs : g.snap.idx = 0 := by rw [o.snap]; rfl
  rcases Nat.lt_or_ge i g.es.length with h | h
  · rw [place_of (g := g) (i := J) (k := i) h (by omega)]
    rfl
  · have hp : place g J = none := by unfold place; rw [if_neg (by omega)]
    rw [hp, List.drop_of_length_le h]
    simp
theorem term_own {g : G} (o : Match.Own g) {i : Nat} (hi : i ≤ g.es.length) : ∃ t, term g i = some t := by
  rcases Nat.eq_zero_or_pos i with h | h
  · have := term_snap g
    rw [o.snap] at this
    exact ⟨_, by rw [h]; exact this⟩
  · have he : g.es[i - 1]? = some (g.es[i - 1]'(by omega)) := List.getElem?_eq_getElem (by omega)
    have := (o.at_ he).2.1
    rw [show i - 1 + 1 = i by omega] at this
    exact ⟨_, this⟩
/-- One byte, made a text. -/
def oneB (k : Nat) : ByteArray := ⟨#[UInt8.ofNat k]⟩
theorem conv_one (W : World) (k : Nat) (hk : k ≤ 150) : (convert 56 9 (.slice (some ⟨W.heap.size, 0, none⟩) 1 1)).run Try.prog (W.alloc (.cells #[.int .u8 (k : Int)] 5)).drew = .ok (.string (oneB k)) (W.alloc (.cells #[.int .u8 (k : Int)] 5)).drew := by
  refine run_string (P := Try.prog) 56 5 9 Try.underlying56 Try.underlying5 Try.underlying9 _ (W.heap.size + 1) _ 1 1 [UInt8.ofNat k] ⟨rfl, fun _ => ⟨_, rfl, Nat.lt_succ_self _, fun j u hj => ?_⟩⟩
  have hj0 : j = 0 := by
    have := (List.getElem?_eq_some_iff.1 hj).1
    simp [vals] at this
    exact this
  subst hj0
  have hn : (W.alloc (.cells #[.int .u8 (k : Int)] 5)).drew.heap[W.heap.size]? = _ := heap_alloc_new W (.cells #[.int .u8 (k : Int)] 5)
  rw [Kit.add_zero, cell_at hn, ← hj]
  simp [vals, show k % 256 = k by omega]
section
variable {w1 W W' : World} {r : Nat} {ps : Nat → Nat} {T k : Nat} {ld : Int}
theorem Run3.below (h : Run3 w1 r ps T ld k W) (hb : Below W.heap.size W W') : Run3 w1 r ps T ld k W' := by
  obtain ⟨vs, gs, h1, h2⟩ := h.ex
  exact ⟨⟨vs, gs, h1.below hb, h2⟩, h.since.trans (hb.mono h.since.size)⟩
theorem Run3.skip (h : Run3 w1 r ps T ld k W) : Run3 w1 r ps T ld (k + 1) W := by
  obtain ⟨vs, gs, h1, h2⟩ := h.ex
  exact ⟨⟨vs, gs, h1, h2.skip⟩, h.since⟩
theorem Run3.cell (h : Run3 w1 r ps T ld k W) {a : Nat} (ha : a < 3) : W.cell? ⟨r, a, none⟩ = some (.pointer (some ⟨ps a, 0, none⟩)) := by
  obtain ⟨vs, gs, h1, h2⟩ := h.ex
  exact h1.cell ha
theorem Run3.lt (h : Run3 w1 r ps T ld k W) : r < W.heap.size := by
  obtain ⟨vs, gs, h1, h2⟩ := h.ex
  exact h1.lt
/-- What a call that changes a log leaves of all. -/
def Goes (w1 : World) (r : Nat) (ps : Nat → Nat) (T : Nat) (ld : Int) (k : Nat) (e : Ending) (W : World) : Prop := (∃ v, e = .returned v) ∧ Run3 w1 r ps T ld k W
/-- A new leader adds. -/
theorem Run3.add_new (h : Run3 w1 r ps T ld k W) {a : Nat} (ha : a < 3) (hT : T ≤ k) (hk : k ≤ 150) {d : ByteArray} (hd : d.size ≤ 32768) :
    Calls Try.prog 20 #[.pointer (some ⟨ps a, 0, none⟩), .int .u64 ((T : Int) + 1), .int .i64 1, .string d] W (Goes w1 r ps (T + 1) (a : Int) (k + 1)) := by
  obtain ⟨vs, gs, h1, h2⟩ := h.ex
  have hl := h2.len a ha
  have := add_any (h1.lp a ha) (h2.own a ha).fine (T + 1) 1 d (by omega) (by omega) (by omega) (by omega) (by omega)
  rw [show ((T : Int) + 1) = ((T + 1 : Nat) : Int) by omega]
  refine this.mono ?_
  rintro e W' ⟨rfl, hL⟩
  obtain ⟨⟨vs', h3⟩, hb⟩ := h1.left ha hL
  exact ⟨⟨_, rfl⟩, ⟨vs', _, h3, inv_add_new h2 ha (by omega) (by omega)⟩, h.since.trans hb⟩
/-- The leader adds once more. -/
theorem Run3.add_more (h : Run3 w1 r ps T ld k W) {a : Nat} (ha : a < 3) (hl : ld = (a : Int)) (hT : T ≤ k) (hk : k ≤ 150) {d : ByteArray} (hd : d.size ≤ 32768) :
    Calls Try.prog 20 #[.pointer (some ⟨ps a, 0, none⟩), .int .u64 (T : Int), .int .i64 1, .string d] W (Goes w1 r ps T ld (k + 1)) := by
  obtain ⟨vs, gs, h1, h2⟩ := h.ex
  have hll := h2.len a ha
  have := add_any (h1.lp a ha) (h2.own a ha).fine T 1 d (by omega) (by omega) (by omega) (by omega) (by omega)
  refine this.mono ?_
  rintro e W' ⟨rfl, hL⟩
  obtain ⟨⟨vs', h3⟩, hb⟩ := h1.left ha hL
  exact ⟨⟨_, rfl⟩, ⟨vs', _, h3, inv_add h2 ha hl (by omega) (by omega)⟩, h.since.trans hb⟩
end
set_option maxRecDepth 100000 in
set_option maxHeartbeats 4000000 in
theorem matches_walk (A : Option Addr) (n c : Nat) (w : World) (hh : HoldsT w A n) (hn : n ≤ 9223372036854775807) :
    Calls Try.prog 6 #[.slice A n c] w fun e w' => e = .returned (.bool true) ∧ Below w.heap.size w w' := by
  have HH := Lib.hid hh
  clear hh
  go_enter Try.func6, Try.ntmps6
  go_wp2_with fail
  refine (Begun.begun_any _).mono ?_
  rintro e w1 ⟨rfl, hb1⟩
  by_cases h150 : 150 < n
  · go_wp2
    go_ret
    exact ⟨rfl, hb1⟩
  have HB1 := Lib.hid hb1
  clear hb1
  go_wp2_with fail
  have hbeg : Hid (Beg w1 w1.heap.size 0 (w1.alloc (.cells #[.pointer none, .pointer none, .pointer none] 52))) := ⟨⟨fun _ => 0, fun _ => .bool false, Tri.new (Nat.le_refl _) _ rfl _ _ _⟩, (Below.refl _ _).alloc (Nat.le_refl _) _⟩
  go_loopw [27] (fun i wr => ∃ k : Nat, k ≤ 3 ∧ i = .int .i64 (k : Int) ∧ Hid (Beg w1 w1.heap.size k wr)) (fun i _ => 3 - (intOf i).toNat)
  case atStart => exact ⟨0, by omega, rfl, hbeg⟩
  case round =>
    obtain ⟨k, hk, rfl, HB⟩ := hrel
    obtain ⟨ps, vs, htri⟩ := HB.out.ex
    by_cases hk3 : k < 3
    · have HT := Lib.hid htri
      clear htri
      go_wp2_with fail
      refine (new_g0 wr).mono ?_
      rintro e w2 ⟨p, v, rfl, hp, hb2⟩
      obtain ⟨u, hcell⟩ := (HT.out.below hb2).some_ hk3
      have hfree := (HT.out.below hb2).free k
      have hlt := (HT.out.below hb2).lt
      have hb3 : Hid (Beg w1 w1.heap.size (k + 1) (w2.setCell ⟨w1.heap.size, k, none⟩ (.pointer (some ⟨p, 0, none⟩)))) := by
        refine ⟨⟨_, _, by have := HT.out.more hk3 hb2 hp; rwa [show upd (fun _ => g0) k g0 = fun _ => g0 by funext b; unfold upd; split <;> rfl] at this⟩, ?_⟩
        exact (HB.out.since.trans (hb2.mono HB.out.since.size)).setCell (by simp) _
      clear hp hb2
      go_wp2_with fail
      go_roundw
      case rel => exact ⟨k + 1, by omega, by go_num, hb3⟩
      case measure => simp [intOf]; omega
    · obtain rfl : k = 3 := by omega
      have hrun : Hid (Run3 w1 w1.heap.size ps 0 (-1) 0 wr) := ⟨⟨vs, _, htri, inv_new⟩, HB.out.since⟩
      clear htri
      go_wp2_with fail
      simp only [show ((3 : Nat) : Int) = 3 from rfl]
      go_loopw [5, 6, 40] (fun t l i wi => ∃ (k T : Nat) (ld : Int), k ≤ n ∧ T ≤ k ∧ -1 ≤ ld ∧ ld ≤ 2 ∧ t = .int .u64 (T : Int) ∧ l = .int .i64 ld ∧ i = .int .i64 (k : Int) ∧ Hid (Run3 w1 w1.heap.size ps T ld k wi)) (fun _ _ i _ => n - (intOf i).toNat)
      case atStart => exact ⟨0, 0, -1, by omega, by omega, by omega, by omega, rfl, rfl, rfl, hrun⟩
      case round =>
        obtain ⟨k, T, ld, hk, hT, hl0, hl2, rfl, rfl, rfl, HR⟩ := hrel
        by_cases hkn : k < n
        · obtain ⟨b, o, t, rfl, c0, c1, c2, ht⟩ := HH.out.at_ (HB1.out.trans (HR.out.since.mono HB1.out.size)) hkn
          obtain ⟨z0, z1, z2⟩ := t
          simp only at c0 c1 c2
          obtain ⟨x0, x1, y0, y1, q0, q1⟩ := ht
          simp only at x0 x1 y0 y1 q0 q1
          go_wp2_with fail
          obtain ⟨a, ha, hza, _⟩ := among z1 3 (by decide) (by decide)
          obtain ⟨d, hd, hzd, _⟩ := among z2 3 (by decide) (by decide)
          obtain ⟨K, hK, hzK, hzK2⟩ := among z0 3 (by decide) (by decide)
          obtain ⟨F, hF, hzF, hzF2⟩ := among z0 7 (by decide) (by decide)
          have HZA := Lib.hid hza
          have HZD := Lib.hid hzd
          have HZK := Lib.hid hzK
          have HZK2 := Lib.hid hzK2
          have HZF := Lib.hid hzF
          have HZF2 := Lib.hid hzF2
          clear hza hzd hzK hzK2 hzF hzF2
          have hcb := heap_alloc_new wr (.cells #[.int .i64 z0, .int .i64 z1, .int .i64 z2] 53)
          have HCB := Lib.hid hcb
          clear hcb
          go_quiet (fail)
          rw [HZA.out, HZD.out]
          have HR2 : Hid (Run3 w1 w1.heap.size ps T ld k ((wr.alloc (.cells #[.int .i64 z0, .int .i64 z1, .int .i64 z2] 53)).drewN nq)) := by
            obtain ⟨vs, gs, h1, h2⟩ := HR.out.ex
            have hb : Below wr.heap.size wr ((wr.alloc (.cells #[.int .i64 z0, .int .i64 z1, .int .i64 z2] 53)).drewN nq) := below_drewN ((Below.refl _ _).alloc (Nat.le_refl _) _) _
            exact ⟨⟨vs, gs, h1.below hb, h2⟩, HR.out.since.trans (hb.mono HR.out.since.size)⟩
          have HC2 : Hid (((wr.alloc (.cells #[.int .i64 z0, .int .i64 z1, .int .i64 z2] 53)).drewN nq).heap[wr.heap.size]? = some (.cells #[.int .i64 z0, .int .i64 z1, .int .i64 z2] 53 (0, 0))) := HCB.out
          generalize ((wr.alloc (.cells #[.int .i64 z0, .int .i64 z1, .int .i64 z2] 53)).drewN nq) = w2 at HR2 HC2 ⊢
          have d0 : w2.cell? ⟨wr.heap.size, 0, none⟩ = some (.int .i64 z0) := by rw [cell_at HC2.out]; rfl
          have hltc := lt_at HC2.out
          have hr3 := HR2.out.lt
          have hk150 : k ≤ 150 := by omega
          clear c0 c1 c2
          have ha' : a < 3 := by omega
          have hd' : d < 3 := by omega
          have hK3 : K = 0 ∨ K = 1 ∨ K = 2 := by omega
          rcases hK3 with rfl | rfl | rfl
          · have t0 : ((wrap64 (z0.tmod 3 + 3)).tmod 3 == (0 : Int)) = true := by rw [HZK.out]; rfl
            have t1 : ((wrap64 (z0.tmod 3 + 3)).tmod 3 == (1 : Int)) = false := by rw [HZK.out]; rfl
            have t2 : ((wrap64 (z0.tmod 3 + 3)).tmod 3 == (2 : Int)) = false := by rw [HZK.out]; rfl
            go_wp2_with fail
            have hwk : IntKind.u8.wrap (k : Int) = (k : Int) := by unfold IntKind.wrap; simp [IntKind.signed, IntKind.bits]; omega
            have hcell := HR2.out.cell ha'
            have hcv := conv_one w2 k hk150
            have hba : Below w2.heap.size w2 (w2.alloc (.cells #[.int .u8 (k : Int)] 5)).drew := ((Below.refl _ _).alloc (Nat.le_refl _) _).drew
            have HR4 := Lib.hid (HR2.out.below hba)
            have hcell2 := HR4.out.cell ha'
            have HAd := Lib.hid (HR4.out.add_new ha' hT hk150 (d := oneB k) (by show 1 ≤ 32768; decide))
            clear hba
            go_region_with ((go_at_call 20; (with_reducible refine HAd.out.mono ?_); rintro e w3 ⟨⟨v3, rfl⟩, hR3⟩))
            all_goals
              have HR5 := Lib.hid hR3
              clear hR3
              go_wp2_with fail
              go_roundw
              case rel => exact ⟨k + 1, T + 1, (a : Int), by omega, by omega, by omega, by omega, by go_num, rfl, by go_num, HR5⟩
              case measure => simp [intOf]; omega
          · have t0 : ((wrap64 (z0.tmod 3 + 3)).tmod 3 == (0 : Int)) = false := by rw [HZK.out]; rfl
            have t1 : ((wrap64 (z0.tmod 3 + 3)).tmod 3 == (1 : Int)) = true := by rw [HZK.out]; rfl
            have t2 : ((wrap64 (z0.tmod 3 + 3)).tmod 3 == (2 : Int)) = false := by rw [HZK.out]; rfl
            by_cases hld : 0 ≤ ld
            · obtain ⟨f, rfl⟩ : ∃ f : Nat, ld = (f : Int) := ⟨ld.toNat, by omega⟩
              have hf' : f < 3 := by omega
              have hf3 : (f : Int) < 3 := by omega
              have hf0 : (0 : Int) ≤ (f : Int) := by omega
              go_wp2_with fail
              have hwk : IntKind.u8.wrap (k : Int) = (k : Int) := by unfold IntKind.wrap; simp [IntKind.signed, IntKind.bits]; omega
              have hcell := HR2.out.cell hf'
              have hcv := conv_one w2 k hk150
              have hba : Below w2.heap.size w2 (w2.alloc (.cells #[.int .u8 (k : Int)] 5)).drew := ((Below.refl _ _).alloc (Nat.le_refl _) _).drew
              have HR4 := Lib.hid (HR2.out.below hba)
              have hcell2 := HR4.out.cell hf'
              have HAd := Lib.hid (HR4.out.add_more hf' rfl hT hk150 (d := oneB k) (by show 1 ≤ 32768; decide))
              clear hba
              go_region_with ((go_at_call 20; (with_reducible refine HAd.out.mono ?_); rintro e w3 ⟨⟨v3, rfl⟩, hR3⟩))
              all_goals
                have HR5 := Lib.hid hR3
                clear hR3
                go_wp2_with fail
                go_roundw
                case rel => exact ⟨k + 1, T, (f : Int), by omega, by omega, by omega, by omega, rfl, rfl, by go_num, HR5⟩
                case measure => simp [intOf]; omega
            · have HR5 := Lib.hid HR2.out.skip
              have hld' : decide (0 ≤ ld) = false := decide_eq_false hld
              go_wp2_with fail
              go_roundw
              case rel => exact ⟨k + 1, T, ld, by omega, by omega, by omega, by omega, rfl, rfl, by go_num, HR5⟩
              case measure => simp [intOf]; omega
          · have t0 : ((wrap64 (z0.tmod 3 + 3)).tmod 3 == (0 : Int)) = false := by rw [HZK.out]; rfl
            have t1 : ((wrap64 (z0.tmod 3 + 3)).tmod 3 == (1 : Int)) = false := by rw [HZK.out]; rfl
            have t2 : ((wrap64 (z0.tmod 3 + 3)).tmod 3 == (2 : Int)) = true := by rw [HZK.out]; rfl
            by_cases hal : (a : Int) = ld
            · have HR5 := Lib.hid HR2.out.skip
              have hq1 : ((a : Int) != ld) = false := by rw [hal]; simp
              have hq2 : ((a : Int) == ld) = true := by rw [hal]; simp
              clear hal
              go_wp2_with fail
              go_roundw
              case rel => exact ⟨k + 1, T, ld, by omega, by omega, by omega, by omega, rfl, rfl, by go_num, HR5⟩
              case measure => simp [intOf]; omega
            · have hq1 : ((a : Int) != ld) = true := bne_iff_ne.2 hal
              have hq2 : ((a : Int) == ld) = false := beq_eq_false_iff_ne.2 hal
              have HAL := Lib.hid hal
              have hcd := HR2.out.cell hd'
              clear hal
              go_wp2_with fail
              obtain ⟨vs, gs, htri, hinv⟩ := HR2.out.ex
              have hod := hinv.own d hd'
              obtain ⟨L, hL⟩ : ∃ L, (last (gs d)).1 = L := ⟨_, rfl⟩
              have hLl : (gs d).es.length = L := by rw [← hod.last, hL]
              have hL150 : L ≤ 150 := by have := hinv.len d hd'; omega
              have hla := last_any (htri.lp d hd') hod.fine
              rw [hL] at hla
              have HTri := Lib.hid htri
              have HInv := Lib.hid hinv
              have HLa := Lib.hid hla
              have HLl := Lib.hid hLl
              clear htri hinv hod hla hL hLl
              refine HLa.out.mono ?_
              rintro e w3 ⟨rfl, hb3⟩
              have HTri3 := Lib.hid (HTri.out.below hb3)
              have hB3 := HR2.out.since.trans (hb3.mono HR2.out.since.size)
              have d03 : w3.cell? ⟨wr.heap.size, 0, none⟩ = some (.int .i64 z0) := (hb3.cell (p := ⟨wr.heap.size, 0, none⟩) hltc).trans d0
              have hltc3 : wr.heap.size < w3.heap.size := Nat.lt_of_lt_of_le hltc hb3.size
              have hr33 := HTri3.out.lt
              have hcd3 := HTri3.out.cell hd'
              clear hb3 d0 hcd hltc
              obtain ⟨i0, hi0, hfrom⟩ : ∃ i0 : Nat, i0 ≤ L ∧ (IntKind.u64.wrap ((wrap64 (z0.tmod 7 + 7)).tmod 7)).tmod ((L : Int) + 1) = (i0 : Int) := by
                refine ⟨F % (L + 1), by have := Nat.mod_lt F (show 0 < L + 1 by omega); omega, ?_⟩
                rw [HZF.out]
                have h1 : IntKind.u64.wrap (F : Int) = (F : Int) := by unfold IntKind.wrap; simp [IntKind.signed, IntKind.bits]; omega
                rw [h1, Int.tmod_eq_emod_of_nonneg (by omega), show ((L : Int) + 1) = ((L + 1 : Nat) : Int) by omega]
                exact (Int.natCast_emod F (L + 1)).symm
              have HFr := Lib.hid hfrom
              clear hfrom
              obtain ⟨t, ht⟩ := term_own (HInv.out.own d hd') (i := i0) (by have := HLl.out; omega)
              have htb := (HInv.out.own d hd').fine.term_lt ht
              have HTm := Lib.hid (term_yes (HTri3.out.lp d hd') (HInv.out.own d hd').fine (i := i0) (by omega) ht)
              obtain ⟨l, hl⟩ : ∃ l, ((gs d).es.drop i0).take 3 = l := ⟨_, rfl⟩
              obtain ⟨J, hJ⟩ : ∃ J, i0 + 1 = J := ⟨_, rfl⟩
              have hll : l.length ≤ 3 := by rw [← hl, List.length_take]; omega
              have hwJ : IntKind.u64.wrap ((i0 : Int) + 1) = (J : Int) := by rw [wrap_succ (by omega)]; omega
              have HGet : Hid (∀ W, Below w3.heap.size w3 W → Calls Try.prog 16 #[.pointer (some ⟨ps d, 0, none⟩), .int .u64 (J : Int), .int .i64 3] W (Gives W l)) := fun W hb => by
                have hlen := HInv.out.len d hd'
                have := get_any (HTri3.out.below hb |>.lp d hd') (i := J) (n := ((3 : Nat) : Int)) (by omega) (by omega) (by omega)
                rw [get_own (HInv.out.own d hd') hJ.symm 3, hl] at this
                exact this
              have HMg : Hid (∀ W0 W A' c', Below w3.heap.size w3 W0 → Below W0.heap.size W0 W → RE W W.heap.size A' l.length l → Off (fun k => k < W0.heap.size) A' l.length → l.length ≤ c' → c' ≤ 9223372036854775807 →
                  Calls Try.prog 17 #[.pointer (some ⟨ps a, 0, none⟩), .int .u64 (i0 : Int), .int .u64 (t : Int), .slice A' l.length c'] W (Goes w1 w1.heap.size ps T ld (k + 1))) := fun W0 W A' c' hb0 hb hre hoff hc1 hc2 => by
                have hbW := hb0.trans (hb.mono hb0.size)
                have h1 := HTri3.out.below hbW
                have h0 := HTri3.out.below hb0
                have hlen := HInv.out.len a ha'
                have hent : ∀ e ∈ l, EntB e := fun e he => by
                  rw [← hl] at he
                  exact (HInv.out.own d hd').fine.ents e (List.mem_of_mem_drop (List.mem_of_mem_take he))
                refine (merge_any (h1.lp a ha') (HInv.out.own a ha').fine A' l.length c' i0 t l hre (fun hn ad hA hf => hoff hn ad hA ((h0.lp a ha').foot_lt hf).2) hent hc1 hc2 (by omega) (fun _ => by omega)).mono ?_
                rintro e W' ⟨A5, c5, rfl, _, _, _, hL5, _⟩
                obtain ⟨⟨vs', h3⟩, hbb⟩ := h1.left ha' hL5
                have hin := inv_merge HInv.out ha' hd' (fun e => HAL.out e.symm) ht (by have := HLl.out; omega)
                rw [hl] at hin
                exact ⟨⟨_, rfl⟩, ⟨vs', _, h3, hin⟩, (hB3.trans (hbW.mono hB3.size)).trans hbb⟩
              clear ht hl hJ hll
              go_wp2_with fail
              rw [HFr.out]
              refine HTm.out.mono ?_
              rintro e w4 ⟨rfl, rfl⟩
              have hca3 := HTri3.out.cell ha'
              go_wp2_with fail
              have hid : Below w3.heap.size w3 w3.drew := (Below.refl _ _).drew
              clear d03 hcd3
              have hcd3 := HTri3.out.cell hd'
              go_region_held3 (fun w' => w'.cell? ⟨w1.heap.size, a, none⟩ = some (.pointer (some ⟨ps a, 0, none⟩)) ∧ w'.cell? ⟨w1.heap.size, d, none⟩ = some (.pointer (some ⟨ps d, 0, none⟩)))
                (first | exact ⟨hR3.cell ha', hR3.cell hd'⟩ | exact ⟨(HTri3.out.below hB5).cell ha', (HTri3.out.below hB5).cell hd'⟩ | exact ⟨hca3, hcd3⟩)
                (first
                  | (go_at_call 16
                     (with_reducible refine (HGet.out _ hid).mono ?_)
                     rintro e w5 ⟨A5, c5, rfl, hr5, hc5, h635, hb5, ho5⟩
                     have hB5 : Below w3.heap.size w3 w5 := hid.trans hb5)
                  | (go_at_call 17
                     (with_reducible refine (HMg.out _ _ A5 c5 hid hb5 hr5 ho5 hc5 h635).mono ?_)
                     rintro e w6 ⟨⟨v6, rfl⟩, hR3⟩))
              all_goals
                have HR5 := Lib.hid hR3
                clear hR3
                go_wp2_with fail
                go_roundw
                case rel => exact ⟨k + 1, T, ld, by omega, by omega, by omega, by omega, rfl, rfl, by go_num, HR5⟩
                case measure => simp [intOf]; omega
        · obtain rfl : k = n := by omega
          obtain ⟨vs2, gs, htri, hinv⟩ := HR.out.ex
          have HTri := Lib.hid htri
          have HInv := Lib.hid hinv
          have HS := Lib.hid HR.out.since
          clear htri hinv hrun
          go_wp2_with fail
          go_loopw [136] (fun i wx => ∃ a : Nat, a ≤ 3 ∧ i = .int .i64 (a : Int) ∧ Hid (Tri w1.heap.size w1.heap.size 3 ps vs2 gs wx ∧ Below w1.heap.size w1 wx)) (fun i _ => 3 - (intOf i).toNat)
          case atStart => exact ⟨0, by omega, rfl, ⟨HTri.out, HS.out⟩⟩
          case round =>
            obtain ⟨a, ha, rfl, HX⟩ := hrel
            by_cases ha3 : a < 3
            · have hai : (a : Int) < 3 := by omega
              have ha0 : (0 : Int) ≤ (a : Int) := by omega
              have hai2 : decide ((a : Int) < 3) = true := decide_eq_true hai
              go_wp2_with fail
              go_loopw [140] (fun i wy => ∃ b : Nat, b ≤ a ∧ i = .int .i64 (b : Int) ∧ Hid (Tri w1.heap.size w1.heap.size 3 ps vs2 gs wy ∧ Below w1.heap.size w1 wy)) (fun i _ => a - (intOf i).toNat)
              case atStart => exact ⟨0, by omega, rfl, HX⟩
              case round =>
                obtain ⟨b, hb, rfl, HY⟩ := hrel
                by_cases hba : b < a
                · have hb3 : b < 3 := by omega
                  have hbi : (b : Int) < 3 := by omega
                  have hb0 : (0 : Int) ≤ (b : Int) := by omega
                  have hla := HInv.out.len a ha3
                  have hlb := HInv.out.len b hb3
                  have HGet : Hid (∀ x, x < 3 → ∀ W, Below wr.heap.size wr W → Calls Try.prog 16 #[.pointer (some ⟨ps x, 0, none⟩), .int .u64 1, .int .i64 1000] W (Gives W (gs x).es)) := fun x hx W hb => by
                    have hlen := HInv.out.len x hx
                    have := get_any (HY.out.1.below hb |>.lp x hx) (i := 1) (n := ((1000 : Nat) : Int)) (by omega) (by omega) (by omega)
                    rw [get_own (HInv.out.own x hx) (i := 0) rfl 1000, List.drop_zero, List.take_of_length_le (by omega)] at this
                    exact this
                  have hca := HY.out.1.cell ha3
                  have hcb := HY.out.1.cell hb3
                  have hrr := HY.out.1.lt
                  have hid : Below wr.heap.size wr wr.drew := (Below.refl _ _).drew
                  have HMat := Lib.hid (HInv.out.mat a b ha3 hb3)
                  obtain ⟨la, hlaE⟩ : ∃ x, (gs a).es.length = x := ⟨_, rfl⟩
                  obtain ⟨lb, hlbE⟩ : ∃ x, (gs b).es.length = x := ⟨_, rfl⟩
                  have HLa := Lib.hid hlaE
                  have HLb := Lib.hid hlbE
                  have hla150 : la ≤ 150 := by omega
                  have hlb150 : lb ≤ 150 := by omega
                  clear hla hlb hlaE hlbE
                  go_wp2_with fail
                  go_region_held3 (fun w' => w'.cell? ⟨w1.heap.size, a, none⟩ = some (.pointer (some ⟨ps a, 0, none⟩)) ∧ w'.cell? ⟨w1.heap.size, b, none⟩ = some (.pointer (some ⟨ps b, 0, none⟩)))
                    (first | exact ⟨(HY.out.1.below hB6).cell ha3, (HY.out.1.below hB6).cell hb3⟩ | exact ⟨(HY.out.1.below hB5).cell ha3, (HY.out.1.below hB5).cell hb3⟩ | exact ⟨hca, hcb⟩)
                    (first
                      | (go_at_call 16
                         (with_reducible refine (HGet.out a ha3 _ hid).mono ?_)
                         rintro e w5 ⟨A5, c5, rfl, hr5, hc5, h635, hb5, ho5⟩
                         have hB5 : Below wr.heap.size wr w5 := hid.trans hb5)
                      | (go_at_call 16
                         (with_reducible refine (HGet.out b hb3 _ hB5).mono ?_)
                         rintro e w6 ⟨A6, c6, rfl, hr6, hc6, h636, hb6, ho6⟩
                         have hB6 : Below wr.heap.size wr w6 := hB5.trans (hb6.mono hB5.size)))
                  rw [HLa.out] at hr5 hc5 ⊢
                  rw [HLb.out] at hr6 hc6 ⊢
                  have HY6 : Hid (Tri w1.heap.size w1.heap.size 3 ps vs2 gs w6 ∧ Below w1.heap.size w1 w6) := ⟨HY.out.1.below hB6, HY.out.2.trans (hB6.mono HY.out.2.size)⟩
                  have HRa : Hid (RE w6 w6.heap.size A5 la (gs a).es) := (Kit.Reads.below hr5 hb6).more hb6.size
                  have HRb : Hid (RE w6 w6.heap.size A6 lb (gs b).es) := hr6
                  clear hr5 hr6 hb5 hb6 ho5 ho6 hB5 hB6 hca hcb hid hrr
                  obtain ⟨m, hm⟩ : ∃ m : Nat, (m : Int) = min (la : Int) (lb : Int) := ⟨min la lb, by omega⟩
                  have hma : m ≤ la := by omega
                  have hmb : m ≤ lb := by omega
                  have hmin : ∀ w ts t, (Builtin.min_ ts t #[.int .i64 (la : Int), .int .i64 (lb : Int)]).run Try.prog w = .ok (.int .i64 (m : Int)) w := fun w ts t => by
                    rw [run_min_int2]
                    congr 2
                    split <;> omega
                  clear hm
                  go_wp2_with fail
                  go_loopw [21] (fun i wz => ∃ z : Int, -1 ≤ z ∧ z < (m : Int) ∧ i = .int .i64 z ∧ Hid (Below w6.heap.size w6 wz)) (fun i _ => (intOf i + 1).toNat)
                  case atStart => exact ⟨(m : Int) - 1, by omega, by omega, rfl, Below.refl _ _⟩
                  case round =>
                    obtain ⟨z, hz0, hz1, rfl, HZ⟩ := hrel
                    by_cases hz : 0 ≤ z
                    · obtain ⟨q, rfl⟩ : ∃ q : Nat, z = (q : Int) := ⟨z.toNat, by omega⟩
                      have hqa : q < la := by omega
                      have hqb : q < lb := by omega
                      have hqai : (q : Int) < (la : Int) := by omega
                      have hqbi : (q : Int) < (lb : Int) := by omega
                      obtain ⟨ba, oa, ea, hAa, hbla, hea, hfa⟩ := RE.at_ HRa.out hqa
                      obtain ⟨bb, ob, eb, hAb, hblb, heb, hfb⟩ := RE.at_ HRb.out hqb
                      have ca0 := (Four.below hfa HZ.out hbla).c0
                      have cb0 := (Four.below hfb HZ.out hblb).c0
                      have HEa := Lib.hid hea
                      have HEb := Lib.hid heb
                      subst hAa hAb
                      clear hfa hfb hea heb
                      by_cases hterm : ea.term = eb.term
                      · have htk := HMat.out q ea eb HEa.out HEb.out hterm
                        have ht1 : ((ea.term : Int) == (eb.term : Int)) = true := by rw [hterm]; simp
                        obtain ⟨Q, hQ⟩ : ∃ Q, q + 1 = Q := ⟨_, rfl⟩
                        have hwQ : IntKind.i64.wrap ((q : Int) + 1) = (Q : Int) := by rw [show (q : Int) + 1 = (Q : Int) by omega]; exact IntWalk.i64_in _ (by omega)
                        have hQa : Q ≤ la := by omega
                        have hQb : Q ≤ lb := by omega
                        rw [hQ] at htk
                        have HSm : Hid (∀ W, Below wr.heap.size wr W → Calls Try.prog 18 #[.slice (some ⟨ba, oa, none⟩) Q c5, .slice (some ⟨bb, ob, none⟩) Q c6] W fun e w' => e = .returned (.bool true) ∧ Below W.heap.size W w') := fun W hb => by
                          have hbW := HZ.out.trans (hb.mono HZ.out.size)
                          have h1 := RE.first ((Kit.Reads.below HRa.out hbW).more hbW.size) hQa
                          have h2 := RE.first ((Kit.Reads.below HRb.out hbW).more hbW.size) hQb
                          rw [← htk] at h2
                          exact same_any h1 h2 (by omega)
                        have hQc5 : Q ≤ c5 := by omega
                        have hQc6 : Q ≤ c6 := by omega
                        clear hterm htk hQ
                        go_wp2_with fail
                        go_quiet (fail)
                        have hZ2 : Below w6.heap.size w6 (wr.drewN nq) := below_drewN HZ.out _
                        have hbq : Below wr.heap.size wr (wr.drewN nq) := below_drewN (Below.refl _ _) _
                        have HSq := Lib.hid (HSm.out)
                        generalize wr.drewN nq = w7 at hZ2 hbq ⊢
                        have hid7 : Below wr.heap.size wr w7.drew := hbq.trans ((Below.refl _ _).drew.mono hbq.size)
                        go_wp2_with fail
                        go_region_held3 (fun w' => w7.heap.size ≤ w'.heap.size)
                          (first | exact Nat.le_refl _ | exact hb8.size | (simp; done) | (simp; omega))
                          (((go_at_call 18; (with_reducible refine (HSm.out _ hid7).mono ?_); rintro e w8 ⟨rfl, hb8⟩)))
                        all_goals
                          have hZ8 := hZ2.drew.trans (hb8.mono hZ2.drew.size)
                          have HX8 : Hid (Tri w1.heap.size w1.heap.size 3 ps vs2 gs w8 ∧ Below w1.heap.size w1 w8) := ⟨HY6.out.1.below hZ8, HY6.out.2.trans (hZ8.mono HY6.out.2.size)⟩
                          clear hb8 hZ2 hbq hid7
                          go_wp2_with fail
                          go_roundw
                          case rel => exact ⟨b + 1, by omega, by go_num, HX8⟩
                          case measure => (simp [intOf]; try omega)
                      · have ht1 : ((ea.term : Int) == (eb.term : Int)) = false := beq_eq_false_iff_ne.2 (by omega)
                        clear hterm
                        go_wp2_with fail
                        go_quiet (fail)
                        go_wp2_with fail
                        go_roundw
                        case rel => exact ⟨(q : Int) - 1, by omega, by omega, rfl, below_drewN HZ.out _⟩
                        case measure => (simp [intOf]; try omega)
                    · have hz2 : decide (0 ≤ z) = false := decide_eq_false hz
                      go_wp2_with fail
                      go_roundw
                      case rel => exact ⟨b + 1, by omega, by go_num, ⟨HY6.out.1.below HZ.out, HY6.out.2.trans (HZ.out.mono HY6.out.2.size)⟩⟩
                      case measure => simp [intOf]; omega
                · obtain rfl : b = a := by omega
                  go_wp2_with fail
                  go_roundw
                  case rel => exact ⟨b + 1, by omega, by go_num, HY⟩
                  case measure => simp [intOf]; omega
            · obtain rfl : a = 3 := by omega
              go_wp2
              go_ret
              exact ⟨rfl, HB1.out.trans (HX.out.2.mono HB1.out.size)⟩
end Go.Proofs.Ytndehdnffajigaa.LawF
