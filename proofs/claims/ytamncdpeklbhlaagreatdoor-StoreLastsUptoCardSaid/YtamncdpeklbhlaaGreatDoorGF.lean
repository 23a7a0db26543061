/- Both stores beside each other, each on a disk of its own: the program's and the document's; one call of each. No statement is proved here. -/
import Derived.Test.YtamncdpeklbhlaaGreatDoorGD
import Derived.Test.YtamncdpeklbhlaaGreatDoorGB
import Derived.Test.YtamncdpeklbhlaaGreatDoorGC
import Derived.BigRegion
import Derived.Deep.CutRange
import Derived.Deep.CutBlock
import Derived.Test.YtamncdpeklbhlaaGreatDoorGE
import Derived.Test.YtamncdpeklbhlaaGreatDoorGT
set_option linter.unusedVariables false
set_option linter.unusedSimpArgs false
namespace Go.Proofs.YtamncdpeklbhlaaGreatDoor.RRecs
open Go.RowKit Go.Proofs.YtamncdpeklbhlaaGreatDoor.Kit Go.Proofs.YtamncdpeklbhlaaGreatDoor.Blocks Go.Proofs.YtamncdpeklbhlaaGreatDoor.Rlog Go.Proofs.YtamncdpeklbhlaaGreatDoor.Sto Go.Proofs.YtamncdpeklbhlaaGreatDoor.Sav Go.Proofs.YtamncdpeklbhlaaGreatDoor.Ents Go.Proofs.YtamncdpeklbhlaaGreatDoor.Hold Go.Proofs.YtamncdpeklbhlaaGreatDoor.RTake Go.Proofs.YtamncdpeklbhlaaGreatDoor.RTakeB Go.Proofs.YtamncdpeklbhlaaGreatDoor.RRight Go.Proofs.YtamncdpeklbhlaaGreatDoor.RSaid Go.Proofs.YtamncdpeklbhlaaGreatDoor.ScA Go.Proofs.YtamncdpeklbhlaaGreatDoor.Open Go.Proofs.YtamncdpeklbhlaaGreatDoor.Chg Go.Proofs.YtamncdpeklbhlaaGreatDoor.RlgWalkB Go.Proofs.YtamncdpeklbhlaaGreatDoor.RlgWalkC
open Go.Proofs.YtamncdpeklbhlaaGreatDoor.PckWalkH (str)

/-- An address that came behind. -/
def New (w w' : World) (O : Option Addr) : Prop := ∀ ad, O = some ad → w.heap.size ≤ ad.block ∧ ad.block < w'.heap.size
theorem New.own {w W W' : World} {A : Option Addr} {base n c : Nat} {e : TypeId} {size : Nat} {xs : List Value} (h : W.ownsRow base e size (.slice A n c) n xs) (hs : w.heap.size ≤ base) (hW : W.heap.size ≤ W'.heap.size) : New w W' A := fun ad e => by
  subst e
  exact ⟨Nat.le_trans hs (h.lt ad.block rfl).1, Nat.lt_of_lt_of_le (h.lt ad.block rfl).2 hW⟩
/-- What Records answers. -/
def Recd (w : World) (A : Option Addr) (s : Sta) (t : Nat) (v : Int) (l : List Ent) (e : Ending) (w' : World) : Prop :=
  ∃ (O : Option Addr) (on oc : Nat) (s' : Sta) (A' : Option Addr) (c' : Nat), e = .returned (.tuple #[.slice O on oc, staV s' A' s'.es.length c', .bool (right (savedS s t v l))]) ∧
    (right (savedS s t v l) = true → s' = savedS s t v l ∧ on = (out s t v l).length ∧ RS w' O on (out s t v l) ∧ RE w' w'.heap.size A' s'.es.length s'.es) ∧ Below w.heap.size w w' ∧ Kin w w' A s.es A' s'.es ∧ New w w' O ∧ (on ≤ oc ∧ oc ≤ 9223372036854775807)
theorem rrec_hard (t : Nat) (v : Int) (W : World) {X : ByteArray} (ht : t < 18446744073709551616) (hv0 : -9223372036854775808 ≤ v) (hv1 : v ≤ 9223372036854775807) (hX : Hid (str (recHard t v) = X)) :
    Calls Tryz.prog 42 #[.agg #[.int .u64 (t : Int), .int .i64 v]] W fun e w' => e = .returned (.string X) ∧ Below W.heap.size W w' := by
  have := RRec.rhard_rec t v W ht hv0 hv1
  unfold Rec.Said at this
  rwa [hX.out] at this
theorem rrec_cut (i : Nat) (W : World) {X : ByteArray} (hi : i < 18446744073709551616) (hX : Hid (str (recCut i) = X)) :
    Calls Tryz.prog 65 #[.int .u64 (i : Int)] W fun e w' => e = .returned (.string X) ∧ Below W.heap.size W w' := by
  have := RRec.rcut_rec i W hi
  unfold Rec.Said at this
  rwa [hX.out] at this
theorem rrec_ent (x : Ent) (W : World) {X : ByteArray} (hb : EntB x) (hd : x.data.size ≤ 1000000000) (hX : Hid (str (recEnt x) = X)) :
    Calls Tryz.prog 44 #[.agg #[.int .u64 (x.term : Int), .int .u64 (x.idx : Int), .int .i64 x.kind, .string x.data]] W fun e w' => e = .returned (.string X) ∧ Below W.heap.size W w' := by
  have := RRecB.rent_rec x W hb (by omega)
  unfold Rec.Said at this
  rwa [hX.out] at this

/-- Does a Save cut? -/
def cutsB (l : List Ent) (La : Nat) : Bool := match l with | [] => false | e :: _ => decide (e.idx ≤ La)
theorem cutsB_at {l : List Ent} {e : Ent} (h : l[0]? = some e) (La : Nat) : cutsB l La = decide (e.idx ≤ La) := by
  cases l with
  | nil => cases h
  | cons x r => simp only [List.getElem?_cons_zero, Option.some.injEq] at h; subst h; rfl
theorem cuts_true {s : Sta} {l : List Ent} {e : Ent} {La : Nat} (h : l[0]? = some e) (hLa : (lasts s.es s.snap.idx s.snap.term).1 = La) (hb : cutsB l La = true) : cuts s l = [recCut e.idx] := by
  rw [cutsB_at h] at hb
  cases l with
  | nil => cases h
  | cons x r =>
    simp only [List.getElem?_cons_zero, Option.some.injEq] at h
    subst h
    unfold cuts
    simp only
    rw [hLa, if_pos (of_decide_eq_true hb)]
theorem cuts_false {s : Sta} {l : List Ent} {La : Nat} (hLa : (lasts s.es s.snap.idx s.snap.term).1 = La) (hb : cutsB l La = false) : cuts s l = [] := by
  cases l with
  | nil => rfl
  | cons x r =>
    unfold cuts
    simp only
    rw [hLa, if_neg (of_decide_eq_false hb)]

theorem out_short {s : Sta} {t : Nat} {v : Int} {l : List Ent} (ht : t < 18446744073709551616) (hl : ∀ e ∈ l, EntB e) (hd : ∀ e ∈ l, e.data.size ≤ 1000000000) : ∀ x ∈ out s t v l, x.length ≤ 1000000100 := by
  intro x hx
  unfold out at hx
  rcases List.mem_append.1 hx with hx | hx
  · unfold hards at hx
    split at hx
    · cases hx
    · simp only [List.mem_singleton] at hx
      have := hard_length (v := v) ht
      rw [hx]
      omega
  · rcases List.mem_append.1 hx with hx | hx
    · cases l with
      | nil => simp [cuts] at hx
      | cons e r =>
        unfold cuts at hx
        simp only at hx
        split at hx
        · simp only [List.mem_singleton] at hx
          have := cut_length (hl e (by simp)).idx
          rw [hx]
          omega
        · cases hx
    · obtain ⟨e, he, rfl⟩ := List.mem_map.1 hx
      have := ent_length (hl e he)
      have := hd e he
      omega
theorem out_all {s st : Sta} (h : right s = true) {t : Nat} {v : Int} {l : List Ent} (ht : t < 18446744073709551616) (hv0 : -9223372036854775808 ≤ v) (hv1 : v ≤ 9223372036854775807) (hl : ∀ e ∈ l, EntB e) (hm : makes s (out s t v l) = some st) : st = savedS s t v l := by
  rw [makes_out h ht hv0 hv1 hl] at hm
  split at hm
  · cases hm; rfl
  · cases hm
theorem out_none {s : Sta} (h : right s = true) {t : Nat} {v : Int} {l : List Ent} (ht : t < 18446744073709551616) (hv0 : -9223372036854775808 ≤ v) (hv1 : v ≤ 9223372036854775807) (hl : ∀ e ∈ l, EntB e) (hm : makes s (out s t v l) = none) : right (savedS s t v l) = false := by
  cases hr : right (savedS s t v l) with
  | false => rfl
  | true => rw [records_ok h ht hv0 hv1 hl hr] at hm; cases hm

set_option maxRecDepth 100000 in
set_option maxHeartbeats 8000000 in
theorem rrecords_any {w : World} {s : Sta} {A : Option Addr} {c : Nat} (hsb : StaB s) (hok : right s = true) (hr : RE w w.heap.size A s.es.length s.es) (hes : s.es.length ≤ 1000000)
    (tm : Nat) (vt : Int) (ht : tm < 18446744073709551616) (hv0 : -9223372036854775808 ≤ vt) (hv1 : vt ≤ 9223372036854775807) (Al : Option Addr) (nl cl : Nat) (l : List Ent) (hl : RE w w.heap.size Al nl l) (hlb : ∀ e ∈ l, EntB e) (hls : ∀ e ∈ l, e.data.size ≤ 1000000000) (hnl : nl ≤ 1000000) :
    Calls Tryz.prog 25 #[staV s A s.es.length c, .agg #[.int .u64 (tm : Int), .int .i64 vt], .slice Al nl cl] w (Recd w A s tm vt l) := by
  have hln := RE.len hl
  have hbA : Below w.heap.size w (w.alloc (.cells #[.int .u64 (s.term : Int), .int .i64 s.vote, .int .u64 (s.snap.idx : Int), .int .u64 (s.snap.term : Int), .int .u64 (s.snap.cfg : Int), .string s.snap.data, .slice A s.es.length c] 53)) := (Below.refl _ _).alloc (Nat.le_refl _) _
  have hcA := heap_alloc_new w (.cells #[.int .u64 (s.term : Int), .int .i64 s.vote, .int .u64 (s.snap.idx : Int), .int .u64 (s.snap.term : Int), .int .u64 (s.snap.cfg : Int), .string s.snap.data, .slice A s.es.length c] 53)
  obtain ⟨wA, hwA⟩ : ∃ wA, w.alloc (.cells #[.int .u64 (s.term : Int), .int .i64 s.vote, .int .u64 (s.snap.idx : Int), .int .u64 (s.snap.term : Int), .int .u64 (s.snap.cfg : Int), .string s.snap.data, .slice A s.es.length c] 53) = wA := ⟨_, rfl⟩
  rw [hwA] at hbA hcA
  have hsA : wA.heap.size = w.heap.size + 1 := by rw [← hwA]; simp
  have hbB : Below wA.heap.size wA (wA.alloc (.cells #[.int .u64 (tm : Int), .int .i64 vt] 40)) := (Below.refl _ _).alloc (Nat.le_refl _) _
  have hcB := heap_alloc_new wA (.cells #[.int .u64 (tm : Int), .int .i64 vt] 40)
  obtain ⟨wB, hwB⟩ : ∃ wB, wA.alloc (.cells #[.int .u64 (tm : Int), .int .i64 vt] 40) = wB := ⟨_, rfl⟩
  rw [hwB] at hbB hcB
  have hsB : wB.heap.size = w.heap.size + 2 := by rw [← hwB]; simp; omega
  have hbC : Below wB.heap.size wB (wB.alloc (.cells #[.int .u64 0, .int .i64 0, .int .u64 0, .int .u64 0, .int .u64 0, .string ⟨#[]⟩, .slice none 0 0] 53)) := (Below.refl _ _).alloc (Nat.le_refl _) _
  have hcC := heap_alloc_new wB (.cells #[.int .u64 0, .int .i64 0, .int .u64 0, .int .u64 0, .int .u64 0, .string ⟨#[]⟩, .slice none 0 0] 53)
  obtain ⟨w0, hw0⟩ : ∃ w0, wB.alloc (.cells #[.int .u64 0, .int .i64 0, .int .u64 0, .int .u64 0, .int .u64 0, .string ⟨#[]⟩, .slice none 0 0] 53) = w0 := ⟨_, rfl⟩
  rw [hw0] at hbC hcC
  have hs0 : w0.heap.size = w.heap.size + 3 := by rw [← hw0]; simp; omega
  rw [hsA] at hcB
  rw [hsB] at hcC
  have hba : Below w.heap.size w w0 := (hbA.trans (hbB.mono hbA.size)).trans (hbC.mono (by omega))
  have hbox : Box w0 w.heap.size s A c := ⟨(hbC.block _ (by omega)).trans ((hbB.block _ (by omega)).trans hcA), (Kit.Reads.below hr hba).more hba.size, fun h0 ad e => by have := RE.blk hr h0 ad e; omega⟩
  have hchd : w0.heap[w.heap.size + 1]? = some (.cells #[.int .u64 (tm : Int), .int .i64 vt] 40 (0, 0)) := (hbC.block _ (by omega)).trans hcB
  obtain ⟨b0, b1, b2, b3, b4, b5, b6⟩ := hbox.cells
  have x0 : w0.cell? ⟨w.heap.size + 1, 0, none⟩ = some (.int .u64 (tm : Int)) := by rw [cell_at hchd]; rfl
  have x1 : w0.cell? ⟨w.heap.size + 1, 1, none⟩ = some (.int .i64 vt) := by rw [cell_at hchd]; rfl
  have HR0 := Lib.hid hr
  have HWA := Lib.hid hwA
  have HWB := Lib.hid hwB
  have HW0 := Lib.hid hw0
  have HBX := Lib.hid hbox
  have HHD := Lib.hid hchd
  have HZ := Lib.hid hcC
  have HBA := Lib.hid hba
  have HL := Lib.hid hl
  have HLN := Lib.hid hln
  obtain ⟨n, hn⟩ : ∃ n, s.es.length = n := ⟨_, rfl⟩
  have HN := Lib.hid hn
  rw [hn] at hes b6
  obtain ⟨T, hT⟩ : ∃ T, s.term = T := ⟨_, rfl⟩
  obtain ⟨V, hV⟩ : ∃ V, s.vote = V := ⟨_, rfl⟩
  obtain ⟨Ix, hIx⟩ : ∃ Ix, s.snap.idx = Ix := ⟨_, rfl⟩
  rw [hT] at b0
  rw [hV] at b1
  rw [hIx] at b2
  have hneq := fun W => neq_hard (tm : Int) vt (T : Int) V W
  obtain ⟨q, hq⟩ : ∃ q, (!((tm : Int) == (T : Int) && vt == V)) = q := ⟨_, rfl⟩
  rw [hq] at hneq
  have HQ : Hid (q = true ↔ ¬ (tm = T ∧ vt = V)) := by
    have : q = true ↔ ¬ (tm = T ∧ vt = V) := by
      rw [← hq]
      by_cases e1 : tm = T <;> by_cases e2 : vt = V <;> simp [e1, e2]
      omega
    exact this
  have HT := Lib.hid hT
  have HV := Lib.hid hV
  have HIx := Lib.hid hIx
  have HLB := Lib.hid hlb
  have HLS := Lib.hid hls
  have HSB := Lib.hid hsb
  have HOK := Lib.hid hok
  unfold staV
  rw [hT, hV, hIx, hn]
  rw [hT, hV, hIx, hn] at hwA
  have HWA := Lib.hid hwA
  clear hwA hwB hw0 hbox hchd hcA hcB hcC hba hbA hbB hbC hl hln hn hT hV hIx hq hlb hls hsb hok hr
  go_enter Tryz.func25, Tryz.ntmps25
  go_upto_if 18 with fail
  rw [HWA.out, HWB.out, HW0.out]
  go_cut [9] from 19 to 23 (fun v wx => Mid w0 (hards s tm vt) v wx)
  case first =>
    cases q with
    | false =>
      have HE : Hid (hards s tm vt = []) := if_pos (by rw [HT.out, HV.out]; exact Classical.byContradiction fun e => by have := HQ.out.2 e; cases this)
      go_wp2_with fail
      go_meet
      rw [HE.out]
      exact ⟨none, 0, rfl, World.ownsRow_nil _ _ _ _, Below.refl _ _⟩
    | true =>
      have HE : Hid (hards s tm vt = [recHard tm vt]) := if_neg (by rw [HT.out, HV.out]; exact HQ.out.1 rfl)
      obtain ⟨X, hX⟩ : ∃ X, str (recHard tm vt) = X := ⟨_, rfl⟩
      have HX := Lib.hid hX
      clear hX
      go_wp2_with fail
      refine (rrec_hard tm vt _ ht hv0 hv1 HX).mono ?_
      rintro e w1 ⟨rfl, hb1⟩
      have hn0 : Hid (([] : List (List UInt8)).length = 0) := rfl
      have hrow : w1.ownsRow w0.heap.size 9 1 (.slice none 0 0) 0 (strs []) := World.ownsRow_nil _ _ _ _
      go_wp2_with
        (at_builtin
         refine wpList_rec (.tmp 19) (.tmp 22) rfl rfl rfl hn0 hrow hb1 rfl rfl HX (by decide) ?_
         intro A1 c1 w2 hm2)
      go_meet
      rw [HE.out]
      exact hm2
  case rest =>
    obtain ⟨A1, c1, rfl, hrow1, hB1⟩ := hcut
    obtain ⟨n1, hn1⟩ : ∃ n1, (hards s tm vt).length = n1 := ⟨_, rfl⟩
    have hn1b : n1 ≤ 1 := by rw [← hn1]; exact hards_len _ _ _
    rw [hn1] at hrow1 ⊢
    have HN1 := Lib.hid hn1
    have HB1 := Lib.hid hB1
    have HR1 := Lib.hid hrow1
    obtain ⟨f0, f1, f2, f3, f4, f5, f6⟩ := (HBX.out.below hB1).cells
    rw [HN.out] at f6
    rw [HIx.out] at f2
    have hlc := (HBX.out.below hB1).lt
    obtain ⟨La, hLa⟩ : ∃ La, (lasts s.es s.snap.idx s.snap.term).1 = La := ⟨_, rfl⟩
    have HLa := Lib.hid hLa
    clear hn1 hrow1 hB1 b0 b1 b2 b3 b4 b5 b6 hLa
    go_upto_if 30 with fail
    go_cut [10] from 31 to 39 (fun v wx => v = .int .u64 (La : Int) ∧ wx = wc)
    case first =>
      by_cases hn0 : 0 < n
      · obtain ⟨b', o, e, rfl, hbl, hek, hfour⟩ := RE.at_ (HBX.out.below HB1.out).re (k := n - 1) (by rw [HN.out]; omega)
        have hlast : La = e.idx := by
          rw [← HLa.out]
          have := lasts_take s.es s.snap.idx s.snap.term (n - 1) e hek
          rw [List.take_of_length_le (by rw [HN.out]; omega)] at this
          rw [this]
        have d0 := hfour.c0
        have d1 := hfour.c1
        have d2 := hfour.c2
        have d3 := hfour.c3
        rw [← hlast] at d1
        obtain ⟨k, rfl⟩ : ∃ k, n = k + 1 := ⟨n - 1, by omega⟩
        have hk1 : ((k + 1 : Nat) : Int) - 1 = (k : Int) := by omega
        simp only [Nat.add_sub_cancel] at d0 d1 d2 d3
        clear hek hfour hlast
        go_wp2_with fail
        go_meet
        exact ⟨rfl, rfl⟩
      · obtain rfl : n = 0 := by omega
        have hlast : La = Ix := by
          rw [← HLa.out, ← HIx.out, List.eq_nil_of_length_eq_zero HN.out]
          rfl
        subst hlast
        go_wp2_with fail
        go_meet
        exact ⟨rfl, rfl⟩
    case rest =>
      obtain ⟨rfl, rfl⟩ := hcut
      obtain ⟨qc, hqc⟩ : ∃ qc : Bool, cutsB l La = qc := ⟨_, rfl⟩
      have HQC := Lib.hid hqc
      clear hqc
      go_upto_region 7 with fail
      go_cut [50] from 40 to 50 (fun v wx => v = .bool qc ∧ wx = wc)
      case first =>
        by_cases hnl0 : 0 < nl
        · obtain ⟨bl, ol, e0, rfl, hbl, he0, hf0⟩ := RE.at_ HL.out hnl0
          rw [Nat.zero_mul, Nat.add_zero] at hf0
          have hb2 : Below w.heap.size w wc := HBA.out.trans (HB1.out.mono HBA.out.size)
          have i0 : wc.cell? ⟨bl, ol + 1, none⟩ = some (.int .u64 (e0.idx : Int)) := (hb2.cell (p := ⟨bl, ol + 1, none⟩) hbl).trans hf0.c1
          have hnl1 : (0 : Int) < (nl : Int) := by omega
          have hqd : qc = decide (e0.idx ≤ La) := by rw [← HQC.out]; exact cutsB_at he0 La
          by_cases hle : e0.idx ≤ La
          · obtain rfl : qc = true := by rw [hqd]; exact decide_eq_true hle
            clear hqd hf0 he0
            obtain ⟨ix, hix⟩ : ∃ ix, e0.idx = ix := ⟨_, rfl⟩
            rw [hix] at i0 hle
            clear hix
            go_wp2_with fail
            go_meet
            exact ⟨rfl, rfl⟩
          · obtain rfl : qc = false := by rw [hqd]; exact decide_eq_false hle
            clear hqd hf0 he0
            obtain ⟨ix, hix⟩ : ∃ ix, e0.idx = ix := ⟨_, rfl⟩
            rw [hix] at i0 hle
            clear hix
            go_wp2_with fail
            go_meet
            exact ⟨rfl, rfl⟩
        · obtain rfl : nl = 0 := by omega
          have hqd : qc = false := by
            rw [← HQC.out, List.eq_nil_of_length_eq_zero HLN.out]
            rfl
          subst hqd
          go_wp2_with fail
          go_meet
          exact ⟨rfl, rfl⟩
      case rest =>
        obtain ⟨rfl, rfl⟩ := hcut
        have hb2 : Below w.heap.size w wc := HBA.out.trans (HB1.out.mono HBA.out.size)
        go_upto_if 50 with fail
        go_cut [9] from 51 to 58 (fun v wx => Mid w0 (hards s tm vt ++ cuts s l) v wx)
        case first =>
          cases qc with
          | true =>
            have hnl0 : 0 < nl := by
              rcases Nat.eq_zero_or_pos nl with h0 | h0
              · have h1 := HQC.out
                rw [List.eq_nil_of_length_eq_zero (HLN.out.trans h0)] at h1
                cases h1
              · exact h0
            obtain ⟨bl, ol, e0, rfl, hbl, he0, hf0⟩ := RE.at_ HL.out hnl0
            rw [Nat.zero_mul, Nat.add_zero] at hf0
            have i0 : wc.cell? ⟨bl, ol + 1, none⟩ = some (.int .u64 (e0.idx : Int)) := (hb2.cell (p := ⟨bl, ol + 1, none⟩) hbl).trans hf0.c1
            have heb := (HLB.out e0 (List.mem_of_getElem? he0)).idx
            have HP : Hid (cuts s l = [recCut e0.idx]) := cuts_true he0 HLa.out HQC.out
            obtain ⟨X, hX⟩ : ∃ X, str (recCut e0.idx) = X := ⟨_, rfl⟩
            have HX := Lib.hid hX
            obtain ⟨ix, hix⟩ : ∃ ix, e0.idx = ix := ⟨_, rfl⟩
            rw [hix] at HX HP heb i0
            have hnl1 : (0 : Int) < (nl : Int) := by omega
            clear hX he0 hf0 hix
            go_wp2_with fail
            refine (rrec_cut ix _ heb HX).mono ?_
            rintro e w1 ⟨rfl, hb1⟩
            have hR := own_below HR1.out hb1
            have hB := HB1.out.trans (hb1.mono HB1.out.size)
            go_wp2_with
              (at_builtin
               refine wpList_rec (.tmp 51) (.tmp 57) rfl rfl rfl HN1 hR hB rfl rfl HX (by omega) ?_
               intro A2 c2 w2 hm2)
            go_meet
            rw [HP.out]
            exact hm2
          | false =>
            have HP : Hid (cuts s l = []) := cuts_false HLa.out HQC.out
            go_wp2_with fail
            go_meet
            rw [HP.out, List.append_nil]
            exact ⟨A1, c1, by rw [HN1.out], by rw [HN1.out]; exact HR1.out, HB1.out⟩
        case rest =>
          obtain ⟨L0, hL0⟩ : ∃ L0, hards s tm vt ++ cuts s l = L0 := ⟨_, rfl⟩
          have hL0n : L0.length ≤ 2 := by
            rw [← hL0, List.length_append]
            have h1 := hards_len s tm vt
            have h2 := cuts_len s l
            omega
          rw [hL0] at hcut
          have HL0 := Lib.hid hL0
          have HC := Lib.hid hcut
          clear hL0 hcut f0 f1 f2 f3 f4 f5 f6 HQC
          go_wp2_with fail
          go_loopw [9, 11] (fun v i wr => ∃ j : Nat, j ≤ nl ∧ i = .int .i64 (j : Int) ∧ Mid w0 (L0 ++ (l.take j).map recEnt) v wr) (fun _ i _ => nl - (intOf i).toNat)
          case atStart => exact ⟨0, Nat.zero_le _, rfl, by rw [List.take_zero, List.map_nil, List.append_nil]; exact HC.out⟩
          case round =>
            obtain ⟨j, hj, rfl, hmid⟩ := hrel
            obtain ⟨A2, c2, rfl, hrow2, hB2⟩ := hmid
            obtain ⟨n2, hn2⟩ : ∃ n2, (L0 ++ (l.take j).map recEnt).length = n2 := ⟨_, rfl⟩
            have hn2b : n2 ≤ 1000002 := by
              rw [← hn2, List.length_append, List.length_map, List.length_take]
              omega
            rw [hn2] at hrow2 ⊢
            have HN2 := Lib.hid hn2
            have hsz2 := hB2.size
            have hb3 := HBA.out.trans (hB2.mono HBA.out.size)
            by_cases hjn : j < nl
            · obtain ⟨bl, ol, x, rfl, hbl, hx, hf⟩ := RE.at_ HL.out hjn
              have hfr := Four.below hf hb3 hbl
              have e0 := hfr.c0
              have e1 := hfr.c1
              have e2 := hfr.c2
              have e3 := hfr.c3
              have hxm := List.mem_of_getElem? hx
              obtain ⟨X, hX⟩ : ∃ X, str (recEnt x) = X := ⟨_, rfl⟩
              have HX := Lib.hid hX
              have hrec := fun W => rrec_ent x W (HLB.out x hxm) (HLS.out x hxm) HX
              have HSN := Lib.hid (map_snoc hx)
              obtain ⟨tm', ix, kd, d⟩ := x
              simp only at *
              have HRec := Lib.hid hrec
              clear hrec hX hxm hx hf hfr hn2
              go_wp2_with fail
              refine (HRec.out _).mono ?_
              rintro e w1 ⟨rfl, hb1⟩
              have hR3 := own_below hrow2 hb1
              have hB4 := hB2.trans (hb1.mono hsz2)
              go_wp2_with
                (at_builtin
                 refine wpList_rec (.tmp 65) (.tmp 71) rfl rfl rfl HN2 hR3 hB4 rfl rfl HX (by omega) ?_
                 intro A3 c3 w2 hm2)
              go_roundw
              case rel => exact ⟨j + 1, by omega, by go_num, by rw [HSN.out, ← List.append_assoc]; exact hm2⟩
              case measure => simp [intOf]; omega
            · obtain rfl : j = nl := by omega
              have hall : l.take j = l := List.take_of_length_le (by rw [HLN.out]; exact Nat.le_refl _)
              rw [hall] at hrow2 HN2
              obtain ⟨wl, hwl⟩ : ∃ wl, wl = wr := ⟨_, rfl⟩
              subst hwl
              obtain ⟨O, hO⟩ : ∃ O, L0 ++ l.map recEnt = O := ⟨_, rfl⟩
              have hOut : out s tm vt l = O := by
                unfold out
                rw [← List.append_assoc, HL0.out, hO]
              rw [hO] at hrow2 HN2
              have HOut := Lib.hid hOut
              have hxO : ∀ x ∈ O, x.length ≤ 1000000100 := by rw [← hOut]; exact out_short ht HLB.out HLS.out
              have HXO := Lib.hid hxO
              have hboxl := HBX.out.below hB2
              have HROW := Lib.hid hrow2
              have HB2 := Lib.hid hB2
              have HRSl : Hid (RS wl A2 n2 O) := Reads.of_own hrow2
              have hczl : wl.heap[w.heap.size + 1 + 1]? = some (.cells #[.int .u64 0, .int .i64 0, .int .u64 0, .int .u64 0, .int .u64 0, .string ⟨#[]⟩, .slice none 0 0] 53 (0, 0)) := (hB2.block _ (by omega)).trans HZ.out
              have HZL := Lib.hid hczl
              obtain ⟨R, hR⟩ : ∃ R, right (savedS s tm vt l) = R := ⟨_, rfl⟩
              have HRR := Lib.hid hR
              clear hR hczl hrow2 hB2 hxO hOut hO hall hb3 hn2 HC
              go_wp2_with fail
              go_loopw [12] (fun i wr => ∃ (j : Nat) (st : Sta) (A' : Option Addr) (c' : Nat), j ≤ n2 ∧ i = .int .i64 (j : Int) ∧ Box wr w.heap.size st A' c' ∧ Hid (makes s (O.take j) = some st) ∧ Only (fun q => q = w.heap.size) wl wr ∧ Kin w0 wr A s.es A' st.es) (fun i _ => n2 - (intOf i).toNat)
              case atStart => exact ⟨0, s, A, c, Nat.zero_le _, rfl, hboxl, Lib.hid rfl, Only.refl _ _, Kin.refl _ _ _ _⟩
              case round =>
                obtain ⟨j2, st, A', c', hj2, rfl, hbox, HMK, hon, hkin⟩ := hrel
                clear hboxl
                have hstl := makes_len _ HMK.out
                have hstb := makes_b _ HSB.out (fun x hx' => by have := HXO.out x (List.mem_of_mem_take hx'); omega) HMK.out
                have hstn : st.es.length ≤ 2000002 := by
                  rw [List.length_take] at hstl
                  have := HN.out
                  omega
                have hwz : w0.heap.size ≤ wl.heap.size := HB2.out.size
                have hwlr : wl.heap.size ≤ wr.heap.size := hon.size
                have hzr := hon.heap HZL.out (by show ¬ (_ = _); omega)
                by_cases hjn : j2 < n2
                · have hjl : j2 < O.length := by rw [HN2.out]; exact hjn
                  obtain ⟨bx, ox, rfl, hbx, hcx⟩ := Reads.text HRSl.out hjn hjl
                  have hbx2 : w0.heap.size ≤ bx := (HROW.out.lt bx rfl).1
                  have hcr : wr.cell? ⟨bx, ox + j2, none⟩ = some (.string (str O[j2])) := (hon.cell (p := ⟨bx, ox + j2, none⟩) hbx (by show ¬ (bx = w.heap.size); omega)).trans hcx
                  have hgj : O[j2]? = some O[j2] := List.getElem?_eq_getElem hjl
                  have hxs : (str O[j2]).size ≤ 281474976710656 := by rw [PckWalkH.str_size]; have := HXO.out _ (List.getElem_mem hjl); omega
                  obtain ⟨x, hx⟩ : ∃ x, O[j2] = x := ⟨_, rfl⟩
                  rw [hx] at hcr hgj hxs
                  obtain ⟨S, hS⟩ : ∃ S, str x = S := ⟨_, rfl⟩
                  have HS := Lib.hid hS
                  obtain ⟨q, hq⟩ : ∃ q, (say st S).2 = q := ⟨_, rfl⟩
                  have htk := fun W (hW : Below wr.heap.size wr W) => rtake_any (c := c') (b := S) ((hbox.below hW).re) (by rw [← hS]; exact hxs) (by omega)
                  unfold RTook at htk
                  rw [hq] at htk
                  rw [hS] at hcr
                  have HGJ := Lib.hid hgj
                  have HQ := Lib.hid hq
                  have HBX := Lib.hid hbox
                  have hlt6 := hbox.lt
                  have hltx : bx < wr.heap.size := by omega
                  obtain ⟨e0, e1, e2, e3, e4, e5, e6⟩ := hbox.cells
                  have hall : ∀ W, Below wr.heap.size wr W → W.cell? ⟨w.heap.size, 0, none⟩ = some (.int .u64 (st.term : Int)) ∧ W.cell? ⟨w.heap.size, 1, none⟩ = some (.int .i64 st.vote) ∧ W.cell? ⟨w.heap.size, 2, none⟩ = some (.int .u64 (st.snap.idx : Int)) ∧ W.cell? ⟨w.heap.size, 3, none⟩ = some (.int .u64 (st.snap.term : Int)) ∧ W.cell? ⟨w.heap.size, 4, none⟩ = some (.int .u64 (st.snap.cfg : Int)) ∧ W.cell? ⟨w.heap.size, 5, none⟩ = some (.string st.snap.data) ∧ W.cell? ⟨w.heap.size, 6, none⟩ = some (.slice A' st.es.length c') ∧ W.cell? ⟨bx, ox + j2, none⟩ = some (.string S) := fun W hW => by
                    obtain ⟨y0, y1, y2, y3, y4, y5, y6⟩ := (HBX.out.below hW).cells
                    exact ⟨y0, y1, y2, y3, y4, y5, y6, (hW.cell (p := ⟨bx, ox + j2, none⟩) hltx).trans hcr⟩
                  have HALL := Lib.hid hall
                  have l0 : Below wr.heap.size wr wr.drew := (Below.refl _ _).drew
                  have l1 : Below wr.heap.size wr (wr.alloc (.cells #[.int .u64 0, .int .i64 0, .int .u64 0, .int .u64 0, .int .u64 0, .string ⟨#[]⟩, .slice none 0 0] 53)).drew := ((Below.refl _ _).alloc (Nat.le_refl _) _).drew
                  have hz1 : (wr.alloc (.cells #[.int .u64 0, .int .i64 0, .int .u64 0, .int .u64 0, .int .u64 0, .string ⟨#[]⟩, .slice none 0 0] 53)).drew.heap[wr.heap.size]? = some (.cells #[.int .u64 0, .int .i64 0, .int .u64 0, .int .u64 0, .int .u64 0, .string ⟨#[]⟩, .slice none 0 0] 53 (0, 0)) := heap_alloc_new wr _
                  unfold staV at htk
                  have HTK := Lib.hid htk
                  have HZR := Lib.hid hzr
                  clear htk hq hx hcx hxs hS hgj hbox hall hzr
                  go_upto_region 16 with fail
                  go_cut [13, 14] from 79 to 87 (fun a b wx => RSaid.Next wr wx A' st.es (say st S) a b)
                  case first =>
                    go_region_held3 (fun W => W.cell? ⟨w.heap.size, 0, none⟩ = some (.int .u64 (st.term : Int)) ∧ W.cell? ⟨w.heap.size, 1, none⟩ = some (.int .i64 st.vote) ∧ W.cell? ⟨w.heap.size, 2, none⟩ = some (.int .u64 (st.snap.idx : Int)) ∧ W.cell? ⟨w.heap.size, 3, none⟩ = some (.int .u64 (st.snap.term : Int)) ∧ W.cell? ⟨w.heap.size, 4, none⟩ = some (.int .u64 (st.snap.cfg : Int)) ∧ W.cell? ⟨w.heap.size, 5, none⟩ = some (.string st.snap.data) ∧ W.cell? ⟨w.heap.size, 6, none⟩ = some (.slice A' st.es.length c') ∧ W.cell? ⟨bx, ox + j2, none⟩ = some (.string S))
                      (first
                        | (with_reducible exact HALL.out _ l0)
                        | (with_reducible exact HALL.out _ l1)
                        | (with_reducible exact HALL.out _ hB5)
                        | (with_reducible exact HALL.out _ (hB5.alloc hB5.size _))
                        | (with_reducible exact HALL.out _ (set7b hB5 (Nat.le_refl _))))
                      (first
                        | (go_at_call 66
                           (with_reducible refine (HTK.out _ l0).mono ?_)
                           rintro e w5 ⟨s', A'', c'', rfl, hs', hre', hb5, hk5⟩
                           have hB5 : Below wr.heap.size wr w5 := l0.trans hb5)
                        | (go_at_call 66
                           (with_reducible refine (HTK.out _ l1).mono ?_)
                           rintro e w5 ⟨s', A'', c'', rfl, hs', hre', hb5, hk5⟩
                           have hB5 : Below wr.heap.size wr w5 := l1.trans (hb5.mono l1.size)
                           have hz5 := (hb5.block wr.heap.size (lt_at hz1)).trans hz1
                           have y0 : w5.cell? ⟨wr.heap.size, 0, none⟩ = some (.int .u64 0) := by rw [cell_at hz5]; rfl
                           have y1 : w5.cell? ⟨wr.heap.size, 1, none⟩ = some (.int .i64 0) := by rw [cell_at hz5]; rfl
                           have y2 : w5.cell? ⟨wr.heap.size, 2, none⟩ = some (.int .u64 0) := by rw [cell_at hz5]; rfl
                           have y3 : w5.cell? ⟨wr.heap.size, 3, none⟩ = some (.int .u64 0) := by rw [cell_at hz5]; rfl
                           have y4 : w5.cell? ⟨wr.heap.size, 4, none⟩ = some (.int .u64 0) := by rw [cell_at hz5]; rfl
                           have y5 : w5.cell? ⟨wr.heap.size, 5, none⟩ = some (.string ⟨#[]⟩) := by rw [cell_at hz5]; rfl
                           have y6 : w5.cell? ⟨wr.heap.size, 6, none⟩ = some (.slice none 0 0) := by rw [cell_at hz5]; rfl
                           have fz := fun i => free_at hz5 i
                           have hlt5 := lt_at hz5))
                    · go_wp2_with fail
                      go_meet
                      have hn := heap_alloc_new w5 (.cells #[.int .u64 (s'.term : Int), .int .i64 s'.vote, .int .u64 (s'.snap.idx : Int), .int .u64 (s'.snap.term : Int), .int .u64 (s'.snap.cfg : Int), .string s'.snap.data, .slice A'' s'.es.length c''] 53)
                      have hl : Below w5.heap.size w5 (w5.alloc (.cells #[.int .u64 (s'.term : Int), .int .i64 s'.vote, .int .u64 (s'.snap.idx : Int), .int .u64 (s'.snap.term : Int), .int .u64 (s'.snap.cfg : Int), .string s'.snap.data, .slice A'' s'.es.length c''] 53)) := (Below.refl _ _).alloc (Nat.le_refl _) _
                      exact ⟨_, s', A'', c'', rfl, by rw [HQ.out], fun h => hs' (HQ.out.symm.trans h), hB5.size, ⟨hn, (Kit.Reads.below hre' hl).more hl.size, fun h0 ad e => by
                        rcases hk5 ad e with ⟨h, he⟩ | h
                        · have := Nat.lt_of_lt_of_le (RE.blk HBX.out.re (by rw [← he]; exact h0) ad h) hB5.size; omega
                        · omega⟩, hB5.trans (hl.mono hB5.size), hk5.mono (Nat.le_refl _) hl.size⟩
                    · go_wp2_with fail
                      go_meet
                      obtain ⟨hn, ho⟩ := Few.set7 hz5 rfl (.int .u64 (s'.term : Int)) (.int .i64 s'.vote) (.int .u64 (s'.snap.idx : Int)) (.int .u64 (s'.snap.term : Int)) (.int .u64 (s'.snap.cfg : Int)) (.string s'.snap.data) (.slice A'' s'.es.length c'')
                      have hA : 0 < s'.es.length → ∀ ad, A'' = some ad → ad.block ≠ wr.heap.size := fun h0 ad e => by
                        rcases hk5 ad e with ⟨h, he⟩ | h
                        · have := RE.blk HBX.out.re (by rw [← he]; exact h0) ad h; omega
                        · have h1 : wr.heap.size + 1 ≤ ad.block := by simpa using h.1
                          omega
                      exact ⟨_, s', A'', c'', rfl, by rw [HQ.out], fun h => hs' (HQ.out.symm.trans h), Nat.le_refl _, ⟨hn, (re_only hre' ho (Nat.le_refl _) hA).more ho.size, hA⟩, hB5.trans (ho.below hB5.size fun q hq => by omega), hk5.mono l1.size ho.size⟩
                  case rest =>
                    obtain ⟨a, s', A'', c'', rfl, rfl, hs', hge, hbox', hb', hk'⟩ := hcut
                    have hon' : Only (fun q => q = w.heap.size) wl wc := hon.trans (Only.of_below hb')
                    have hK' : Kin w0 wc A s.es A'' s'.es := hkin.trans hk' (by omega) hb'.size
                    rw [HQ.out] at hs' ⊢
                    obtain ⟨d0, d1, d2, d3, d4, d5, d6⟩ := hbox'.cells
                    have hla := hbox'.lt
                    have hbx6 := HBX.out.below hb'
                    have hl6 := hbx6.lt
                    obtain ⟨f0, f1, f2, f3, f4, f5, f6⟩ := hbx6.cells
                    have ff := fun i => free_at hbx6.cell i
                    have HB6 := Lib.hid hbx6
                    have HBX' := Lib.hid hbox'
                    clear hbx6 hbox' HALL HTK l0 l1 hz1 e0 e1 e2 e3 e4 e5 e6
                    cases q
                    case true =>
                      have HNX := Lib.hid (makes_next HGJ.out HMK.out (by rw [HS.out]; exact HQ.out))
                      rw [HS.out, ← hs' rfl] at HNX
                      clear hs'
                      go_wp2_with fail
                      go_roundw
                      case rel =>
                        obtain ⟨hn, ho⟩ := Few.set7 HB6.out.cell rfl (.int .u64 (s'.term : Int)) (.int .i64 s'.vote) (.int .u64 (s'.snap.idx : Int)) (.int .u64 (s'.snap.term : Int)) (.int .u64 (s'.snap.cfg : Int)) (.string s'.snap.data) (.slice A'' s'.es.length c'')
                        have hne : 0 < s'.es.length → ∀ ad, A'' = some ad → ad.block ≠ w.heap.size := fun h0 ad e => by
                          rcases hk' ad e with ⟨h, he⟩ | h
                          · exact HBX.out.ne (by rw [← he]; exact h0) ad h
                          · omega
                        exact ⟨j2 + 1, s', A'', c'', by omega, by go_num, ⟨hn, (re_only HBX'.out.re ho (Nat.le_refl _) hne).more ho.size, hne⟩, HNX, hon'.trans ho, hK'.mono (Nat.le_refl _) ho.size⟩
                      case measure => simp [intOf]; omega
                    case false =>
                      have HNO : Hid (R = false) := by
                        have h1 := makes_fail HGJ.out HMK.out (by rw [HS.out]; exact HQ.out)
                        rw [← HOut.out] at h1
                        have : right (savedS s tm vt l) = false := out_none HOK.out ht hv0 hv1 HLB.out h1
                        rw [HRR.out] at this
                        exact this
                      have hczx := (hb'.block _ (lt_at HZR.out)).trans HZR.out
                      have z0 : wc.cell? ⟨w.heap.size + 1 + 1, 0, none⟩ = some (.int .u64 0) := by rw [cell_at hczx]; rfl
                      have z1 : wc.cell? ⟨w.heap.size + 1 + 1, 1, none⟩ = some (.int .i64 0) := by rw [cell_at hczx]; rfl
                      have z2 : wc.cell? ⟨w.heap.size + 1 + 1, 2, none⟩ = some (.int .u64 0) := by rw [cell_at hczx]; rfl
                      have z3 : wc.cell? ⟨w.heap.size + 1 + 1, 3, none⟩ = some (.int .u64 0) := by rw [cell_at hczx]; rfl
                      have z4 : wc.cell? ⟨w.heap.size + 1 + 1, 4, none⟩ = some (.int .u64 0) := by rw [cell_at hczx]; rfl
                      have z5 : wc.cell? ⟨w.heap.size + 1 + 1, 5, none⟩ = some (.string ⟨#[]⟩) := by rw [cell_at hczx]; rfl
                      have z6 : wc.cell? ⟨w.heap.size + 1 + 1, 6, none⟩ = some (.slice none 0 0) := by rw [cell_at hczx]; rfl
                      have gz := fun i => free_at hczx i
                      have hltz := lt_at hczx
                      have HZX := Lib.hid hczx
                      clear hczx hs' d0 d1 d2 d3 d4 d5 d6 f0 f1 f2 f3 f4 f5 f6
                      obtain ⟨hn, ho⟩ := Few.set7 HZX.out rfl (.int .u64 0) (.int .i64 0) (.int .u64 0) (.int .u64 0) (.int .u64 0) (.string ⟨#[]⟩) (.slice none 0 0)
                      have HN' := Lib.hid hn
                      have HOn := Lib.hid ho
                      clear hn ho
                      go_wp2_with fail
                      refine bodyPost_ret (results_tct (a := 6) (p := 7) (u := 8) (ty := 53) rfl _ _ (w.heap.size + 1 + 1) 53 _ (0, 0) _ rfl HN'.out Tryz.underlying53 rfl (by kernel_rfl)) rfl ?_
                      obtain rfl : R = false := HNO.out
                      refine ⟨none, 0, 0, ⟨0, 0, ⟨0, 0, 0, ⟨#[]⟩⟩, []⟩, none, 0, by rw [HRR.out]; rfl, (fun h => by rw [HRR.out] at h; cases h), ?_, Kin.none_ _ _ _ _ _, (fun _ e => by cases e), by decide, by decide⟩
                      exact (HBA.out.trans (HB2.out.mono HBA.out.size)).trans ((hon'.below (by omega) fun q hq => by omega).trans (HOn.out.below (by have := hon'.size; omega) fun q hq => by omega))
                · obtain rfl : j2 = n2 := by omega
                  have hmk : makes s O = some st := by
                    have := HMK.out
                    rwa [List.take_of_length_le (by rw [HN2.out]; exact Nat.le_refl _)] at this
                  have hst : st = savedS s tm vt l := out_all HOK.out ht hv0 hv1 HLB.out (by rw [HOut.out]; exact hmk)
                  have hq : right st = R := by rw [hst]; exact HRR.out
                  have HST := Lib.hid hst
                  have hlt6 := hbox.lt
                  have hneA : 0 < st.es.length → ∀ ad, A' = some ad → ad.block ≠ w.heap.size + 1 + 1 := fun h0 ad e => by
                    rcases hkin ad e with ⟨h, he⟩ | h
                    · have := RE.blk HR0.out (by rw [← he]; exact h0) ad h; omega
                    · omega
                  have hall : ∀ W, Only (fun q => q = w.heap.size + 1 + 1) wr W → W.cell? ⟨w.heap.size, 0, none⟩ = some (.int .u64 (st.term : Int)) ∧ W.cell? ⟨w.heap.size, 1, none⟩ = some (.int .i64 st.vote) ∧ W.cell? ⟨w.heap.size, 2, none⟩ = some (.int .u64 (st.snap.idx : Int)) ∧ W.cell? ⟨w.heap.size, 3, none⟩ = some (.int .u64 (st.snap.term : Int)) ∧ W.cell? ⟨w.heap.size, 4, none⟩ = some (.int .u64 (st.snap.cfg : Int)) ∧ W.cell? ⟨w.heap.size, 5, none⟩ = some (.string st.snap.data) ∧ W.cell? ⟨w.heap.size, 6, none⟩ = some (.slice A' st.es.length c') := fun W hW => by
                    have hc := hW.heap hbox.cell (by omega)
                    exact ⟨by rw [cell_at hc]; rfl, by rw [cell_at hc]; rfl, by rw [cell_at hc]; rfl, by rw [cell_at hc]; rfl, by rw [cell_at hc]; rfl, by rw [cell_at hc]; rfl, by rw [cell_at hc]; rfl⟩
                  have hrt := fun W (hW : Only (fun q => q = w.heap.size + 1 + 1) wr W) => right_any st hstb A' st.es.length c' W ((re_only hbox.re hW (Nat.le_refl _) hneA).more hW.size) (by omega)
                  rw [hq] at hrt
                  unfold staV at hrt
                  obtain ⟨e0, e1, e2, e3, e4, e5, e6⟩ := hall wr (Only.refl _ _)
                  have HALL := Lib.hid hall
                  have HRT := Lib.hid hrt
                  have HBX := Lib.hid hbox
                  have o0 : Only (fun q => q = w.heap.size + 1 + 1) wr wr.drew := (Only.refl _ _).drew
                  have HZX := Lib.hid hzr
                  have hltz := lt_at hzr
                  have z0 : wr.cell? ⟨w.heap.size + 1 + 1, 0, none⟩ = some (.int .u64 0) := by rw [cell_at hzr]; rfl
                  have z1 : wr.cell? ⟨w.heap.size + 1 + 1, 1, none⟩ = some (.int .i64 0) := by rw [cell_at hzr]; rfl
                  have z2 : wr.cell? ⟨w.heap.size + 1 + 1, 2, none⟩ = some (.int .u64 0) := by rw [cell_at hzr]; rfl
                  have z3 : wr.cell? ⟨w.heap.size + 1 + 1, 3, none⟩ = some (.int .u64 0) := by rw [cell_at hzr]; rfl
                  have z4 : wr.cell? ⟨w.heap.size + 1 + 1, 4, none⟩ = some (.int .u64 0) := by rw [cell_at hzr]; rfl
                  have z5 : wr.cell? ⟨w.heap.size + 1 + 1, 5, none⟩ = some (.string ⟨#[]⟩) := by rw [cell_at hzr]; rfl
                  have z6 : wr.cell? ⟨w.heap.size + 1 + 1, 6, none⟩ = some (.slice none 0 0) := by rw [cell_at hzr]; rfl
                  have gz := fun i => free_at hzr i
                  clear hall hrt hbox hmk hq hst hzr
                  go_wp2_with fail
                  go_region_held3 (fun W => W.cell? ⟨w.heap.size, 0, none⟩ = some (.int .u64 (st.term : Int)) ∧ W.cell? ⟨w.heap.size, 1, none⟩ = some (.int .i64 st.vote) ∧ W.cell? ⟨w.heap.size, 2, none⟩ = some (.int .u64 (st.snap.idx : Int)) ∧ W.cell? ⟨w.heap.size, 3, none⟩ = some (.int .u64 (st.snap.term : Int)) ∧ W.cell? ⟨w.heap.size, 4, none⟩ = some (.int .u64 (st.snap.cfg : Int)) ∧ W.cell? ⟨w.heap.size, 5, none⟩ = some (.string st.snap.data) ∧ W.cell? ⟨w.heap.size, 6, none⟩ = some (.slice A' st.es.length c'))
                    (first
                      | (with_reducible exact HALL.out _ o0)
                      | (with_reducible exact HALL.out _ hO5)
                      | (with_reducible exact HALL.out _ hO6))
                    (first
                      | (go_at_call 41
                         (with_reducible refine (HRT.out _ o0).mono ?_)
                         rintro e w5 ⟨rfl, hb5⟩
                         have hO5 : Only (fun q => q = w.heap.size + 1 + 1) wr w5 := o0.trans (Only.of_below hb5)
                         have hz5 := (hb5.block _ hltz).trans HZX.out
                         have y0 : w5.cell? ⟨w.heap.size + 1 + 1, 0, none⟩ = some (.int .u64 0) := by rw [cell_at hz5]; rfl
                         have y1 : w5.cell? ⟨w.heap.size + 1 + 1, 1, none⟩ = some (.int .i64 0) := by rw [cell_at hz5]; rfl
                         have y2 : w5.cell? ⟨w.heap.size + 1 + 1, 2, none⟩ = some (.int .u64 0) := by rw [cell_at hz5]; rfl
                         have y3 : w5.cell? ⟨w.heap.size + 1 + 1, 3, none⟩ = some (.int .u64 0) := by rw [cell_at hz5]; rfl
                         have y4 : w5.cell? ⟨w.heap.size + 1 + 1, 4, none⟩ = some (.int .u64 0) := by rw [cell_at hz5]; rfl
                         have y5 : w5.cell? ⟨w.heap.size + 1 + 1, 5, none⟩ = some (.string ⟨#[]⟩) := by rw [cell_at hz5]; rfl
                         have y6 : w5.cell? ⟨w.heap.size + 1 + 1, 6, none⟩ = some (.slice none 0 0) := by rw [cell_at hz5]; rfl
                         have fz := fun i => free_at hz5 i
                         have hlt5 := lt_at hz5
                         have HN5 := Lib.hid (Few.set7 hz5 rfl (.int .u64 (st.term : Int)) (.int .i64 st.vote) (.int .u64 (st.snap.idx : Int)) (.int .u64 (st.snap.term : Int)) (.int .u64 (st.snap.cfg : Int)) (.string st.snap.data) (.slice A' st.es.length c'))
                         have hO6 := hO5.trans HN5.out.2))
                  have HO6 := Lib.hid hO6
                  clear hO6 hO5
                  go_wp2
                  refine bodyPost_ret (results_tct (a := 6) (p := 7) (u := 8) (ty := 53) rfl _ _ (w.heap.size + 1 + 1) 53 _ (0, 0) _ rfl HN5.out.1 Tryz.underlying53 rfl (by kernel_rfl)) rfl ?_
                  have hOO : Only (fun q => q = w.heap.size ∨ q = w.heap.size + 1 + 1) wl _ := (hon.mono fun q _ h => .inl h).trans (HO6.out.mono fun q _ h => .inr h)
                  have hrow := hOO.own HROW.out fun g hg e => by have := (HROW.out.lt g hg).1; omega
                  have hcap : j2 ≤ c2 ∧ c2 ≤ 9223372036854775807 := by
                    obtain ⟨_, _, he, h1, h2, _⟩ := own_form hrow
                    simp only [Value.slice.injEq] at he
                    obtain ⟨_, _, rfl⟩ := he
                    unfold maxLen at h2
                    exact ⟨h1, by omega⟩
                  refine ⟨A2, j2, c2, st, A', c', by rw [HRR.out]; rfl, fun _ => ⟨HST.out, by rw [HOut.out, HN2.out], by rw [HOut.out]; exact Reads.of_own hrow, (re_only HBX.out.re HO6.out (Nat.le_refl _) hneA).more HO6.out.size⟩, ?_, hkin.mono HBA.out.size HO6.out.size, New.own hrow HBA.out.size (Nat.le_refl _), hcap⟩
                  exact (HBA.out.trans (HB2.out.mono HBA.out.size)).trans (hOO.below (by omega) fun q hq => by omega)
end Go.Proofs.YtamncdpeklbhlaaGreatDoor.RRecs
set_option linter.unusedVariables false
set_option linter.unusedSimpArgs false
namespace Go.Proofs.YtamncdpeklbhlaaGreatDoor.RSave
open Go.RowKit Go.Proofs.YtamncdpeklbhlaaGreatDoor.Kit Go.Proofs.YtamncdpeklbhlaaGreatDoor.Blocks Go.Proofs.YtamncdpeklbhlaaGreatDoor.Rlog Go.Proofs.YtamncdpeklbhlaaGreatDoor.Sto Go.Proofs.YtamncdpeklbhlaaGreatDoor.Sav Go.Proofs.YtamncdpeklbhlaaGreatDoor.Ents Go.Proofs.YtamncdpeklbhlaaGreatDoor.Hold Go.Proofs.YtamncdpeklbhlaaGreatDoor.RTake Go.Proofs.YtamncdpeklbhlaaGreatDoor.RSaid Go.Proofs.YtamncdpeklbhlaaGreatDoor.ScA Go.Proofs.YtamncdpeklbhlaaGreatDoor.Model Go.Proofs.YtamncdpeklbhlaaGreatDoor.Ref Go.Proofs.YtamncdpeklbhlaaGreatDoor.RLog Go.Proofs.YtamncdpeklbhlaaGreatDoor.ROpen Go.Proofs.YtamncdpeklbhlaaGreatDoor.RRecs
open Go.Proofs.YtamncdpeklbhlaaGreatDoor.Log (wopen wappend wanew)

/-- Seven stores into a block of eight cells, behind its first. -/
theorem set17 {w : World} {b : Nat} {c0 : Value} {cs : List Value} {T : TypeId} (h : w.heap[b]? = some (.cells (c0 :: cs).toArray T (0, 0))) (hs : cs.length = 7) (a0 a1 a2 a3 a4 a5 a6 : Value) :
    (((((((w.setCell ⟨b, 1, none⟩ a0).setCell ⟨b, 2, none⟩ a1).setCell ⟨b, 3, none⟩ a2).setCell ⟨b, 4, none⟩ a3).setCell ⟨b, 5, none⟩ a4).setCell ⟨b, 6, none⟩ a5).setCell ⟨b, 7, none⟩ a6).heap[b]? = some (.cells #[c0, a0, a1, a2, a3, a4, a5, a6] T (0, 0)) ∧
    Only (fun q => q = b) w (((((((w.setCell ⟨b, 1, none⟩ a0).setCell ⟨b, 2, none⟩ a1).setCell ⟨b, 3, none⟩ a2).setCell ⟨b, 4, none⟩ a3).setCell ⟨b, 5, none⟩ a4).setCell ⟨b, 6, none⟩ a5).setCell ⟨b, 7, none⟩ a6) := by
  refine ⟨?_, ?_⟩
  · rw [set_at (set_at (set_at (set_at (set_at (set_at (set_at h _) _) _) _) _) _) _]
    match cs, hs with
    | [c1, c2, c3, c4, c5, c6, c7], _ => rfl
  · exact (((((((Only.refl (fun q => q = b) w).setCell (a := ⟨b, 1, none⟩) (.inr rfl) _).setCell (a := ⟨b, 2, none⟩) (.inr rfl) _).setCell (a := ⟨b, 3, none⟩) (.inr rfl) _).setCell (a := ⟨b, 4, none⟩) (.inr rfl) _).setCell (a := ⟨b, 5, none⟩) (.inr rfl) _).setCell (a := ⟨b, 6, none⟩) (.inr rfl) _).setCell (a := ⟨b, 7, none⟩) (.inr rfl) _
/-- What a call that changes the document's store leaves. -/
def RSaved (w : World) (t b q : Nat) (n : Int) (A : Option Addr) (l : List Ent) (r : Int × (M × Sta)) (e : Ending) (w' : World) : Prop :=
  e = .returned (.int .i64 r.1) ∧ (∃ A' c', RSto w' t b q n r.2.1 r.2.2 A' c' ∧ Kin w w' A l A' r.2.2.es) ∧ Only (fun y => y = t ∨ y = q) w w'
/-- Records' answer, laid. -/
def Rcd (w0 W : World) (A : Option Addr) (l : List Ent) (R : Bool) (O : List (List UInt8)) (s1 : Sta) (v7 v8 v9 : Value) : Prop :=
  ∃ (o : Option Addr) (on oc a : Nat) (s' : Sta) (A' : Option Addr) (c' : Nat), v7 = .slice o on oc ∧ v8 = .pointer (some ⟨a, 0, none⟩) ∧ v9 = .bool R ∧ w0.heap.size ≤ a ∧
    W.heap[a]? = some (.cells #[.int .u64 (s'.term : Int), .int .i64 s'.vote, .int .u64 (s'.snap.idx : Int), .int .u64 (s'.snap.term : Int), .int .u64 (s'.snap.cfg : Int), .string s'.snap.data, .slice A' s'.es.length c'] 53 (0, 0)) ∧
    (R = true → s' = s1 ∧ on = O.length ∧ RS W o on O ∧ RE W W.heap.size A' s'.es.length s'.es) ∧ Below w0.heap.size w0 W ∧ Kin w0 W A l A' s'.es
theorem rs_only {S : Nat → Prop} {w w' : World} {n : Nat} {A : Option Addr} {l : List (List UInt8)} (hr : RS w A n l) (k : Only S w w') (h : ∀ ad, A = some ad → ¬ S ad.block) : RS w' A n l := by
  have : Reads w' w.heap.size 1 A n (strs l) := ⟨hr.1, fun hn => by
    obtain ⟨ad, e, hb, hc⟩ := hr.2 hn
    exact ⟨ad, e, hb, fun i u hi => (k.cell (p := ad.add i) (by rw [block_of_add]; omega) (by rw [block_of_add]; exact h ad e)).trans (hc i u hi)⟩⟩
  exact this.more k.size
theorem rappend_hid {w : World} {b q : Nat} {n : Int} {m m' : M} {r : Int} (A : Option Addr) (k c : Nat) (l : List (List UInt8)) (hlog : RLogAt w b q n) (h : RefAt w q m) (g : Fine m) (hb : b ≠ q) (hl : RS w A k l) (hk : k ≤ 1000000) (hw : Hid (wappend m n l = (r, m'))) :
    Calls Tryz.prog 52 #[.pointer (some ⟨b, 0, none⟩), .slice A k c] w fun e w' => e = .returned (.int .i64 r) ∧ RLogAt w' b q n ∧ RefAt w' q m' ∧ Only (fun y => y = q) w w' := by
  refine (rappend_log A k c l hlog h g hb hl hk).mono ?_
  rintro e w' ⟨rfl, hS⟩
  rw [hw.out] at hS ⊢
  exact ⟨rfl, hS.log, hS.disk, hS.kept⟩
theorem wappend_fine {m : M} (g : Fine m) (n : Int) (l : List (List UInt8)) : Fine (wappend m n l).2 := by
  unfold wappend
  split
  · split
    · exact (g.append n _).sync n
    · exact g.append n _
  · exact g

set_option maxRecDepth 100000 in
set_option maxHeartbeats 8000000 in
theorem rsave_any {w : World} {t b q : Nat} {n : Int} {m : M} {s : Sta} {A : Option Addr} {c : Nat} (h : RSto w t b q n m s A c) (hes : s.es.length ≤ 1000000)
    (tm : Nat) (vt : Int) (ht : tm < 18446744073709551616) (hv0 : -9223372036854775808 ≤ vt) (hv1 : vt ≤ 9223372036854775807) (Al : Option Addr) (nl cl : Nat) (l : List Ent) (hl : RE w w.heap.size Al nl l) (hlb : ∀ e ∈ l, EntB e) (hls : ∀ e ∈ l, e.data.size ≤ 1000000000) (hnl : nl ≤ 999990) :
    Calls Tryz.prog 17 #[.pointer (some ⟨t, 0, none⟩), .agg #[.int .u64 (tm : Int), .int .i64 vt], .slice Al nl cl] w (RSaved w t b q n A s.es (ssave m n s tm vt l)) := by
  have hba : Below w.heap.size w (w.alloc (.cells #[.int .u64 (tm : Int), .int .i64 vt] 40)) := (Below.refl _ _).alloc (Nat.le_refl _) _
  have hcb := heap_alloc_new w (.cells #[.int .u64 (tm : Int), .int .i64 vt] 40)
  obtain ⟨w0, hw0⟩ : ∃ w0, w.alloc (.cells #[.int .u64 (tm : Int), .int .i64 vt] 40) = w0 := ⟨_, rfl⟩
  rw [hw0] at hba hcb
  have h0 := h.below hba
  have hl0 := (Kit.Reads.below hl hba).more hba.size
  have hlen := RE.len hl
  have hlt := h0.lt
  have hltb := lt_at hcb
  obtain ⟨R, hR⟩ : ∃ R, right (savedS s tm vt l) = R := ⟨_, rfl⟩
  obtain ⟨O, hO⟩ : ∃ O, out s tm vt l = O := ⟨_, rfl⟩
  obtain ⟨s1, hs1⟩ : ∃ s1, savedS s tm vt l = s1 := ⟨_, rfl⟩
  have hOl : O.length ≤ nl + 2 := by rw [← hO, ← hlen]; exact out_len _ _ _ _
  have hs1b : StaB s1 := by rw [← hs1]; exact after_b h.sb ht hv0 hv1 hlb
  obtain ⟨⟨r, m', s2⟩, hsv⟩ : ∃ x, ssave m n s tm vt l = x := ⟨_, rfl⟩
  rw [hsv]
  have hrec := fun W (hW : Below w0.heap.size w0 W) => rrecords_any (c := c) h0.sb h0.ok (h0.below hW).re hes tm vt ht hv0 hv1 Al nl cl l ((Kit.Reads.below hl0 hW).more hW.size) hlb hls (by omega)
  unfold Recd at hrec
  rw [hR, hO, hs1] at hrec
  unfold staV at hrec
  have hall : ∀ W, Below w0.heap.size w0 W → W.cell? ⟨t, 1, none⟩ = some (.int .u64 (s.term : Int)) ∧ W.cell? ⟨t, 2, none⟩ = some (.int .i64 s.vote) ∧ W.cell? ⟨t, 3, none⟩ = some (.int .u64 (s.snap.idx : Int)) ∧ W.cell? ⟨t, 4, none⟩ = some (.int .u64 (s.snap.term : Int)) ∧ W.cell? ⟨t, 5, none⟩ = some (.int .u64 (s.snap.cfg : Int)) ∧ W.cell? ⟨t, 6, none⟩ = some (.string s.snap.data) ∧ W.cell? ⟨t, 7, none⟩ = some (.slice A s.es.length c) ∧ W.cell? ⟨w.heap.size, 0, none⟩ = some (.int .u64 (tm : Int)) ∧ W.cell? ⟨w.heap.size, 1, none⟩ = some (.int .i64 vt) := fun W hW => by
    have hc := (h0.below hW).sto
    have hd := (hW.block _ hltb).trans hcb
    exact ⟨by rw [cell_at hc]; rfl, by rw [cell_at hc]; rfl, by rw [cell_at hc]; rfl, by rw [cell_at hc]; rfl, by rw [cell_at hc]; rfl, by rw [cell_at hc]; rfl, by rw [cell_at hc]; rfl, by rw [cell_at hd]; rfl, by rw [cell_at hd]; rfl⟩
  obtain ⟨e1, e2, e3, e4, e5, e6, e7, x0, x1⟩ := hall w0 (Below.refl _ _)
  have l0 : Below w0.heap.size w0 w0.drew := (Below.refl _ _).drew
  have l1 : Below w0.heap.size w0 (w0.alloc (.cells #[.int .u64 0, .int .i64 0, .int .u64 0, .int .u64 0, .int .u64 0, .string ⟨#[]⟩, .slice none 0 0] 53)).drew := ((Below.refl _ _).alloc (Nat.le_refl _) _).drew
  have hz1 : (w0.alloc (.cells #[.int .u64 0, .int .i64 0, .int .u64 0, .int .u64 0, .int .u64 0, .string ⟨#[]⟩, .slice none 0 0] 53)).drew.heap[w0.heap.size]? = some (.cells #[.int .u64 0, .int .i64 0, .int .u64 0, .int .u64 0, .int .u64 0, .string ⟨#[]⟩, .slice none 0 0] 53 (0, 0)) := heap_alloc_new w0 _
  have HALL := Lib.hid hall
  have HREC := Lib.hid hrec
  have HH0 := Lib.hid h0
  have HW0 := Lib.hid hw0
  have HBA := Lib.hid hba
  have HSV := Lib.hid hsv
  have HR := Lib.hid hR
  have HO := Lib.hid hO
  have HS1 := Lib.hid hs1
  have HS1B := Lib.hid hs1b
  have hhl := h.lt
  have hhq := RefAt.lt h.disk
  clear h hba hcb hw0 h0 hl hl0 hlb hls hR hO hs1 hs1b hsv hrec hall hlen
  go_enter Tryz.func17, Tryz.ntmps17
  go_upto_region 1 with fail
  rw [HW0.out]
  go_cut [7, 8, 9] from 11 to 21 (fun x y z wx => Rcd w0 wx A s.es R O s1 x y z)
  case first =>
    go_region_held3 (fun W => W.cell? ⟨t, 1, none⟩ = some (.int .u64 (s.term : Int)) ∧ W.cell? ⟨t, 2, none⟩ = some (.int .i64 s.vote) ∧ W.cell? ⟨t, 3, none⟩ = some (.int .u64 (s.snap.idx : Int)) ∧ W.cell? ⟨t, 4, none⟩ = some (.int .u64 (s.snap.term : Int)) ∧ W.cell? ⟨t, 5, none⟩ = some (.int .u64 (s.snap.cfg : Int)) ∧ W.cell? ⟨t, 6, none⟩ = some (.string s.snap.data) ∧ W.cell? ⟨t, 7, none⟩ = some (.slice A s.es.length c) ∧ W.cell? ⟨w.heap.size, 0, none⟩ = some (.int .u64 (tm : Int)) ∧ W.cell? ⟨w.heap.size, 1, none⟩ = some (.int .i64 vt))
      (first
        | (with_reducible exact HALL.out _ l0)
        | (with_reducible exact HALL.out _ l1)
        | (with_reducible exact HALL.out _ hB5)
        | (with_reducible exact HALL.out _ (hB5.alloc hB5.size _))
        | (with_reducible exact HALL.out _ (set7b hB5 (Nat.le_refl _))))
      (first
        | (go_at_call 25
           (with_reducible refine (HREC.out _ l0).mono ?_)
           rintro e w5 ⟨o, on, oc, s', A', c', rfl, hs', hb5, hk5, ho5, _⟩
           have hB5 : Below w0.heap.size w0 w5 := l0.trans hb5
           have HS' := Lib.hid hs'
           clear hs')
        | (go_at_call 25
           (with_reducible refine (HREC.out _ l1).mono ?_)
           rintro e w5 ⟨o, on, oc, s', A', c', rfl, hs', hb5, hk5, ho5, _⟩
           have hB5 : Below w0.heap.size w0 w5 := l1.trans (hb5.mono l1.size)
           have HS' := Lib.hid hs'
           clear hs'
           have hz5 := (hb5.block w0.heap.size (lt_at hz1)).trans hz1
           have y0 : w5.cell? ⟨w0.heap.size, 0, none⟩ = some (.int .u64 0) := by rw [cell_at hz5]; rfl
           have y1 : w5.cell? ⟨w0.heap.size, 1, none⟩ = some (.int .i64 0) := by rw [cell_at hz5]; rfl
           have y2 : w5.cell? ⟨w0.heap.size, 2, none⟩ = some (.int .u64 0) := by rw [cell_at hz5]; rfl
           have y3 : w5.cell? ⟨w0.heap.size, 3, none⟩ = some (.int .u64 0) := by rw [cell_at hz5]; rfl
           have y4 : w5.cell? ⟨w0.heap.size, 4, none⟩ = some (.int .u64 0) := by rw [cell_at hz5]; rfl
           have y5 : w5.cell? ⟨w0.heap.size, 5, none⟩ = some (.string ⟨#[]⟩) := by rw [cell_at hz5]; rfl
           have y6 : w5.cell? ⟨w0.heap.size, 6, none⟩ = some (.slice none 0 0) := by rw [cell_at hz5]; rfl
           have fz := fun i => free_at hz5 i
           have hlt5 := lt_at hz5))
    · go_wp2_with fail
      go_meet
      have hn := heap_alloc_new w5 (.cells #[.int .u64 (s'.term : Int), .int .i64 s'.vote, .int .u64 (s'.snap.idx : Int), .int .u64 (s'.snap.term : Int), .int .u64 (s'.snap.cfg : Int), .string s'.snap.data, .slice A' s'.es.length c'] 53)
      have hl : Below w5.heap.size w5 (w5.alloc (.cells #[.int .u64 (s'.term : Int), .int .i64 s'.vote, .int .u64 (s'.snap.idx : Int), .int .u64 (s'.snap.term : Int), .int .u64 (s'.snap.cfg : Int), .string s'.snap.data, .slice A' s'.es.length c'] 53)) := (Below.refl _ _).alloc (Nat.le_refl _) _
      exact ⟨o, on, oc, _, s', A', c', rfl, rfl, rfl, hB5.size, hn, fun hh => ⟨(HS'.out hh).1, (HS'.out hh).2.1, (Kit.Reads.below (HS'.out hh).2.2.1 hl).more hl.size, (Kit.Reads.below (HS'.out hh).2.2.2 hl).more hl.size⟩, hB5.trans (hl.mono hB5.size), hk5.mono (Nat.le_refl _) hl.size⟩
    · go_wp2_with fail
      go_meet
      obtain ⟨hn, ho⟩ := Few.set7 hz5 rfl (.int .u64 (s'.term : Int)) (.int .i64 s'.vote) (.int .u64 (s'.snap.idx : Int)) (.int .u64 (s'.snap.term : Int)) (.int .u64 (s'.snap.cfg : Int)) (.string s'.snap.data) (.slice A' s'.es.length c')
      have hA : 0 < s'.es.length → ∀ ad, A' = some ad → ad.block ≠ w0.heap.size := fun h0 ad e => by
        rcases hk5 ad e with ⟨h, he⟩ | h
        · have := (HH0.out.low (by rw [← he]; exact h0) ad h).1; omega
        · have h1 : w0.heap.size + 1 ≤ ad.block := by simpa using h.1
          omega
      have hOa : ∀ ad, o = some ad → ad.block ≠ w0.heap.size := fun ad e => by
        have h1 : w0.heap.size + 1 ≤ ad.block := by simpa using (ho5 ad e).1
        omega
      exact ⟨o, on, oc, _, s', A', c', rfl, rfl, rfl, Nat.le_refl _, hn, fun hh => ⟨(HS'.out hh).1, (HS'.out hh).2.1, rs_only (HS'.out hh).2.2.1 ho hOa, (re_only (HS'.out hh).2.2.2 ho (Nat.le_refl _) hA).more ho.size⟩, hB5.trans (ho.below hB5.size fun q hq => by omega), hk5.mono l1.size ho.size⟩
  case rest =>
    obtain ⟨o, on, oc, a, s', A', c', rfl, rfl, rfl, hge, hc8, hrest, hbc, hkc⟩ := hcut
    have hbw : Below w.heap.size w wc := HBA.out.trans (hbc.mono HBA.out.size)
    have hwc := hbc.size
    have hw0s := HBA.out.size
    have HREST := Lib.hid hrest
    have hhc := HH0.out.below hbc
    clear e1 e2 e3 e4 e5 e6 e7 x0 x1 l0 l1 hz1 hrest HREC HALL
    cases R with
    | false =>
      have hsv : ssave m n s tm vt l = (1, (m, s)) := by unfold ssave; rw [if_neg (by rw [HR.out]; decide)]
      have h1 := HSV.out
      rw [hsv] at h1
      injection h1 with h1 h2
      injection h2 with h2 h3
      subst h1 h2 h3
      clear hc8
      go_wp2
      go_ret
      exact ⟨rfl, ⟨A, c, hhc, Kin.refl _ _ _ _⟩, Only.of_below hbw⟩
    | true =>
      obtain ⟨rfl, hon, hrs, hre⟩ := HREST.out rfl
      have HON := Lib.hid hon
      clear HREST
      by_cases hO0 : O = []
      · have hsv : ssave m n s tm vt l = (0, (m, s')) := by
          unfold ssave
          rw [if_pos HR.out, if_pos (HO.out.trans hO0), HS1.out]
        have hss : s' = s := by rw [← HS1.out]; exact after_same (HO.out.trans hO0)
        have h1 := HSV.out
        rw [hsv] at h1
        injection h1 with h1 h2
        injection h2 with h2 h3
        subst h1 h2 h3
        obtain rfl : on = 0 := by rw [hon, hO0]; rfl
        clear hc8 hrs hre hO0 hon hsv
        go_wp2
        go_ret
        exact ⟨rfl, ⟨A, c, by rw [hss]; exact hhc, by show Kin w wc A s.es A s'.es; rw [hss]; exact Kin.refl _ _ _ _⟩, Only.of_below hbw⟩
      · have hon0 : ((on : Int) == 0) = false := by
          have : on ≠ 0 := fun e => hO0 (List.eq_nil_of_length_eq_zero (by omega))
          simp
          omega
        obtain ⟨r1, m1, hwa⟩ : ∃ r1 m1, wappend m n O = (r1, m1) := ⟨_, _, rfl⟩
        have hf1 : Fine m1 := by have := wappend_fine HH0.out.fine n O; rw [hwa] at this; exact this
        have hcall := rappend_hid o on oc O hhc.log hhc.disk HH0.out.fine HH0.out.bq hrs (by omega) hwa
        have f0 := hhc.sto
        have c0 : wc.cell? ⟨t, 0, none⟩ = some (.pointer (some ⟨b, 0, none⟩)) := by rw [cell_at hhc.sto]; rfl
        have hltc := hhc.lt
        have HCALL := Lib.hid hcall
        have HC8 := Lib.hid hc8
        have HHC := Lib.hid hhc
        have HRE := Lib.hid hre
        have HF1 := Lib.hid hf1
        have hsv : ssave m n s tm vt l = if r1 = 0 then (0, (m1, s')) else (r1, (m1, s)) := by
          unfold ssave
          rw [if_pos HR.out, HO.out, if_neg hO0, hwa, HS1.out]
        have hSV := HSV.out
        rw [hsv] at hSV
        have HSV := Lib.hid hSV
        clear hcall hc8 hhc hre hrs f0 hsv hSV hwa hf1 hon hO0
        go_wp2_with fail
        refine HCALL.out.mono ?_
        rintro e w6 ⟨rfl, hlog6, hdisk6, hk6⟩
        have hq0 := HH0.out.tq
        have hb0 := HH0.out.tb
        have hql := RefAt.lt HH0.out.disk
        have hc86 := hk6.heap HC8.out (by omega)
        have ht6 := hk6.heap HHC.out.sto hq0
        have hkw : Only (fun y => y = t ∨ y = q) w w6 := (Only.of_below hbw).trans (hk6.mono fun y _ hy => .inr hy)
        by_cases hr0 : r1 = 0
        · subst hr0
          have h1 := HSV.out
          rw [if_pos rfl] at h1
          injection h1 with h1 h2
          injection h2 with h2 h3
          subst h1 h2 h3
          have d0 : w6.cell? ⟨a, 0, none⟩ = some (.int .u64 (s'.term : Int)) := by rw [cell_at hc86]; rfl
          have d1 : w6.cell? ⟨a, 1, none⟩ = some (.int .i64 s'.vote) := by rw [cell_at hc86]; rfl
          have d2 : w6.cell? ⟨a, 2, none⟩ = some (.int .u64 (s'.snap.idx : Int)) := by rw [cell_at hc86]; rfl
          have d3 : w6.cell? ⟨a, 3, none⟩ = some (.int .u64 (s'.snap.term : Int)) := by rw [cell_at hc86]; rfl
          have d4 : w6.cell? ⟨a, 4, none⟩ = some (.int .u64 (s'.snap.cfg : Int)) := by rw [cell_at hc86]; rfl
          have d5 : w6.cell? ⟨a, 5, none⟩ = some (.string s'.snap.data) := by rw [cell_at hc86]; rfl
          have d6 : w6.cell? ⟨a, 6, none⟩ = some (.slice A' s'.es.length c') := by rw [cell_at hc86]; rfl
          have t1 : w6.cell? ⟨t, 1, none⟩ = some (.int .u64 (s.term : Int)) := by rw [cell_at ht6]; rfl
          have t2 : w6.cell? ⟨t, 2, none⟩ = some (.int .i64 s.vote) := by rw [cell_at ht6]; rfl
          have t3 : w6.cell? ⟨t, 3, none⟩ = some (.int .u64 (s.snap.idx : Int)) := by rw [cell_at ht6]; rfl
          have t4 : w6.cell? ⟨t, 4, none⟩ = some (.int .u64 (s.snap.term : Int)) := by rw [cell_at ht6]; rfl
          have t5 : w6.cell? ⟨t, 5, none⟩ = some (.int .u64 (s.snap.cfg : Int)) := by rw [cell_at ht6]; rfl
          have t6 : w6.cell? ⟨t, 6, none⟩ = some (.string s.snap.data) := by rw [cell_at ht6]; rfl
          have t7 : w6.cell? ⟨t, 7, none⟩ = some (.slice A s.es.length c) := by rw [cell_at ht6]; rfl
          have ff := fun i => free_at ht6 i
          have hlt6 := lt_at ht6
          have hlta := lt_at hc86
          obtain ⟨hn, ho⟩ := set17 ht6 rfl (.int .u64 (s'.term : Int)) (.int .i64 s'.vote) (.int .u64 (s'.snap.idx : Int)) (.int .u64 (s'.snap.term : Int)) (.int .u64 (s'.snap.cfg : Int)) (.string s'.snap.data) (.slice A' s'.es.length c')
          have HNN := Lib.hid hn
          have HOO := Lib.hid ho
          have HT6 := Lib.hid ht6
          clear hn ho ht6 hc86
          go_wp2
          go_ret
          have hA : 0 < s'.es.length → ∀ ad, A' = some ad → ad.block ≠ t ∧ ad.block ≠ q ∧ ad.block < wc.heap.size := fun h0 ad e => by
            rcases hkc ad e with ⟨h, he⟩ | h
            · have h00 : 0 < s.es.length := by rw [← he]; exact h0
              exact ⟨(HH0.out.low h00 ad h).2.1, (HH0.out.low h00 ad h).2.2, Nat.lt_of_lt_of_le (HH0.out.low h00 ad h).1 hwc⟩
            · exact ⟨by omega, by omega, h.2⟩
          have h6s := hk6.size
          have h7s := HOO.out.size
          have hre7 := re_only (re_only HRE.out hk6 (Nat.le_refl _) fun h0 ad e => (hA h0 ad e).2.1) HOO.out (by omega) fun h0 ad e => (hA h0 ad e).1
          refine ⟨rfl, ⟨A', c', ⟨HNN.out, HOO.out.heap hlog6 (by omega), HOO.out.heap hdisk6 (by omega), hre7.more (by omega), fun h0 ad e => ⟨by have := (hA h0 ad e).2.2; omega, (hA h0 ad e).1, (hA h0 ad e).2.1⟩, hb0, hq0, HH0.out.bq, HS1B.out, by rw [← HS1.out]; exact HR.out, HF1.out⟩, hkc.mono hw0s (by omega)⟩, hkw.trans (HOO.out.mono fun y _ hy => .inl hy)⟩
        · have h1 := HSV.out
          rw [if_neg hr0] at h1
          injection h1 with h1 h2
          injection h2 with h2 h3
          subst h1 h2 h3
          have hr1 : (r1 == 0) = false := by simpa using hr0
          clear hc86
          go_wp2
          go_ret
          refine ⟨rfl, ⟨A, c, ⟨ht6, hlog6, hdisk6, (re_only HHC.out.re hk6 (Nat.le_refl _) fun h0 ad e => (HHC.out.low h0 ad e).2.2).more hk6.size, fun h0 ad e => ⟨Nat.lt_of_lt_of_le (HHC.out.low h0 ad e).1 hk6.size, (HHC.out.low h0 ad e).2⟩, hb0, hq0, HH0.out.bq, HH0.out.sb, HH0.out.ok, HF1.out⟩, Kin.refl _ _ _ _⟩, hkw⟩
end Go.Proofs.YtamncdpeklbhlaaGreatDoor.RSave
set_option linter.unusedVariables false
set_option linter.unusedSimpArgs false
namespace Go.Proofs.YtamncdpeklbhlaaGreatDoor.RAnew
open Go.RowKit Go.Proofs.YtamncdpeklbhlaaGreatDoor.Kit Go.Proofs.YtamncdpeklbhlaaGreatDoor.Blocks Go.Proofs.YtamncdpeklbhlaaGreatDoor.Rlog Go.Proofs.YtamncdpeklbhlaaGreatDoor.Sto Go.Proofs.YtamncdpeklbhlaaGreatDoor.Sav Go.Proofs.YtamncdpeklbhlaaGreatDoor.Ents Go.Proofs.YtamncdpeklbhlaaGreatDoor.Hold Go.Proofs.YtamncdpeklbhlaaGreatDoor.RTake Go.Proofs.YtamncdpeklbhlaaGreatDoor.RRight Go.Proofs.YtamncdpeklbhlaaGreatDoor.RSaid Go.Proofs.YtamncdpeklbhlaaGreatDoor.ScA Go.Proofs.YtamncdpeklbhlaaGreatDoor.Model Go.Proofs.YtamncdpeklbhlaaGreatDoor.Ref Go.Proofs.YtamncdpeklbhlaaGreatDoor.RLog Go.Proofs.YtamncdpeklbhlaaGreatDoor.ROpen Go.Proofs.YtamncdpeklbhlaaGreatDoor.RRecs Go.Proofs.YtamncdpeklbhlaaGreatDoor.RSave Go.Proofs.YtamncdpeklbhlaaGreatDoor.Chg Go.Proofs.YtamncdpeklbhlaaGreatDoor.RlgWalkC Go.Proofs.YtamncdpeklbhlaaGreatDoor.Anew
open Go.Proofs.YtamncdpeklbhlaaGreatDoor.Log (wopen wappend wanew)
open Go.Proofs.YtamncdpeklbhlaaGreatDoor.PckWalkH (str)
open Go.Proofs.YtamncdpeklbhlaaGreatDoor.App (step_new)

/-- Entries don't lie in the document's disk. -/
theorem re_disk {w : World} {D n q : Nat} {A : Option Addr} {l : List Ent} {m : M} (h : RE w D A n l) (hq : RefAt w q m) (hn : 0 < n) : ∀ ad, A = some ad → ad.block ≠ q := by
  rintro ad rfl e
  obtain ⟨b, o, x, he, _, _, hf⟩ := RE.at_ h hn
  cases he
  have h0 := hf.c0
  simp only at e
  subst e
  rw [Nat.zero_mul, Nat.add_zero, cell_at hq] at h0
  by_cases ho : o < 51
  · rw [ref_get m o ho] at h0
    unfold cellOf at h0
    repeat' split at h0
    all_goals cases h0
  · rw [Array.getElem?_eq_none (by simp [refCells]; omega)] at h0
    cases h0
theorem rrec_snap (x : Snap) (W : World) {Y : ByteArray} (hb : SnapB x) (hd : x.data.size ≤ 140737488350000) (hX : Hid (str (recSnap x) = Y)) :
    Calls Tryz.prog 43 #[.agg #[.int .u64 (x.idx : Int), .int .u64 (x.term : Int), .int .u64 (x.cfg : Int), .string x.data]] W fun e w' => e = .returned (.string Y) ∧ Below W.heap.size W w' := by
  have := RRecB.rsnap_rec x W hb hd
  unfold Rec.Said at this
  rwa [hX.out] at this
theorem ranew_hid {w : World} {b q : Nat} {n : Int} {m m' : M} {r : Int} (A : Option Addr) (k c : Nat) (l : List (List UInt8)) (hlog : RLogAt w b q n) (h : RefAt w q m) (g : Fine m) (hb : b ≠ q) (hl : RS w A k l) (hk : k ≤ 1000000) (hw : Hid (wanew m n l = (r, m'))) :
    Calls Tryz.prog 45 #[.pointer (some ⟨b, 0, none⟩), .slice A k c] w fun e w' => e = .returned (.int .i64 r) ∧ RLogAt w' b q n ∧ RefAt w' q m' ∧ Only (fun y => y = q) w w' := by
  refine (ranew_log A k c l hlog h g hb hl hk).mono ?_
  rintro e w' ⟨rfl, hS⟩
  rw [hw.out] at hS ⊢
  exact ⟨rfl, hS.log, hS.disk, hS.kept⟩
theorem wanew_fine {m : M} (g : Fine m) (n : Int) (l : List (List UInt8)) : Fine (wanew m n l).2 := by
  unfold wanew
  split
  · exact g.replace n _
  · exact g
theorem rright_hid {x : Sta} {q : Bool} (hs : StaB x) (A : Option Addr) (n c : Nat) (w : World) (hr : RE w w.heap.size A n x.es) (h63 : n * 40 ≤ 140737488355328) (hq : Hid (right x = q)) :
    Calls Tryz.prog 41 #[staV x A n c] w fun e w' => e = .returned (.bool q) ∧ Below w.heap.size w w' := by
  have := right_any x hs A n c w hr h63
  rwa [hq.out] at this

set_option maxRecDepth 100000 in
set_option maxHeartbeats 4000000 in
theorem ranew_no {w : World} {t b q : Nat} {n : Int} {m : M} {s : Sta} {A : Option Addr} {c : Nat} (h : RSto w t b q n m s A c) (x : Sta) (hx : StaB x) (Al : Option Addr) (nl cl : Nat) (hl : RE w w.heap.size Al nl x.es) (hnl : nl ≤ 999990) (hd : x.snap.data.size ≤ 9223372036854775807) (hno : okAnew x = false) :
    Calls Tryz.prog 15 #[.pointer (some ⟨t, 0, none⟩), staV x Al nl cl] w (RSaved w t b q n A s.es (1, (m, s))) := by
  have hba : Below w.heap.size w (w.alloc (.cells #[.int .u64 (x.term : Int), .int .i64 x.vote, .int .u64 (x.snap.idx : Int), .int .u64 (x.snap.term : Int), .int .u64 (x.snap.cfg : Int), .string x.snap.data, .slice Al nl cl] 53)) := (Below.refl _ _).alloc (Nat.le_refl _) _
  have hcb := heap_alloc_new w (.cells #[.int .u64 (x.term : Int), .int .i64 x.vote, .int .u64 (x.snap.idx : Int), .int .u64 (x.snap.term : Int), .int .u64 (x.snap.cfg : Int), .string x.snap.data, .slice Al nl cl] 53)
  obtain ⟨w0, hw0⟩ : ∃ w0, w.alloc (.cells #[.int .u64 (x.term : Int), .int .i64 x.vote, .int .u64 (x.snap.idx : Int), .int .u64 (x.snap.term : Int), .int .u64 (x.snap.cfg : Int), .string x.snap.data, .slice Al nl cl] 53) = w0 := ⟨_, rfl⟩
  rw [hw0] at hba hcb
  obtain ⟨R, hR⟩ : ∃ R, right x = R := ⟨_, rfl⟩
  have hst := rright_hid hx Al nl cl w0 ((Kit.Reads.below hl hba).more hba.size) (by omega) (Lib.hid hR)
  have hltb := lt_at hcb
  have hsz : R = true → 32768 < x.snap.data.size := fun e => by
    unfold okAnew at hno
    rw [hR, e, Bool.true_and] at hno
    have := of_decide_eq_false hno
    omega
  have h0 := h.below hba
  unfold staV at hst ⊢
  obtain ⟨tm, vt, ⟨ix, st, cf, d⟩, es⟩ := x
  simp only at *
  have x5 : w0.cell? ⟨w.heap.size, 5, none⟩ = some (.string d) := by rw [cell_at hcb]; rfl
  have HST := Lib.hid hst
  have HW0 := Lib.hid hw0
  have HH0 := Lib.hid h0
  have HBA := Lib.hid hba
  have HSZ := Lib.hid hsz
  clear hst hw0 h0 hsz hba hcb h hR hno hx hl
  go_enter Tryz.func15, Tryz.ntmps15
  go_wp2_with fail
  rw [HW0.out]
  refine HST.out.mono ?_
  rintro e w1 ⟨rfl, hb1⟩
  have y5 := Anew.Below.bx hb1 x5 hltb
  have hlt1 : w.heap.size < w1.heap.size := Nat.lt_of_lt_of_le hltb hb1.size
  have hB1 := HBA.out.trans (hb1.mono HBA.out.size)
  cases R with
  | false =>
    go_wp2
    go_ret
    exact ⟨rfl, ⟨A, c, HH0.out.below hb1, Kin.refl _ _ _ _⟩, Only.of_below hB1⟩
  | true =>
    have h1 : (32768 : Int) < (d.size : Int) := by have := HSZ.out rfl; omega
    go_wp2
    go_ret
    exact ⟨rfl, ⟨A, c, HH0.out.below hb1, Kin.refl _ _ _ _⟩, Only.of_below hB1⟩

set_option maxRecDepth 100000 in
set_option maxHeartbeats 8000000 in
theorem ranew_ok {w : World} {t b q : Nat} {n : Int} {m : M} {s : Sta} {A : Option Addr} {c : Nat} (h : RSto w t b q n m s A c) (x : Sta) (hx : StaB x) (Al : Option Addr) (nl cl : Nat) (hl : RE w w.heap.size Al nl x.es) (hnl : nl ≤ 999990) (hok : okAnew x = true)
    {r : Int} {m' : M} (hw : Hid (wanew m n (allOf x) = (r, m'))) (res : Int × (M × Sta)) (hres : Hid (res = if r = 0 then (0, (m', x)) else (r, (m', s)))) :
    Calls Tryz.prog 15 #[.pointer (some ⟨t, 0, none⟩), staV x Al nl cl] w (RSaved w t b q n A s.es res) := by
  have hrx : right x = true := (Bool.and_eq_true_iff.1 hok).1
  have hdx : x.snap.data.size ≤ 32768 := of_decide_eq_true (Bool.and_eq_true_iff.1 hok).2
  have hls : ∀ e ∈ x.es, e.data.size ≤ 32768 := fun e he => (follow_mem (right_iff.1 hrx).1.2 he).1
  have hba : Below w.heap.size w (w.alloc (.cells #[.int .u64 (x.term : Int), .int .i64 x.vote, .int .u64 (x.snap.idx : Int), .int .u64 (x.snap.term : Int), .int .u64 (x.snap.cfg : Int), .string x.snap.data, .slice Al nl cl] 53)) := (Below.refl _ _).alloc (Nat.le_refl _) _
  have hcb := heap_alloc_new w (.cells #[.int .u64 (x.term : Int), .int .i64 x.vote, .int .u64 (x.snap.idx : Int), .int .u64 (x.snap.term : Int), .int .u64 (x.snap.cfg : Int), .string x.snap.data, .slice Al nl cl] 53)
  obtain ⟨w0, hw0⟩ : ∃ w0, w.alloc (.cells #[.int .u64 (x.term : Int), .int .i64 x.vote, .int .u64 (x.snap.idx : Int), .int .u64 (x.snap.term : Int), .int .u64 (x.snap.cfg : Int), .string x.snap.data, .slice Al nl cl] 53) = w0 := ⟨_, rfl⟩
  rw [hw0] at hba hcb
  have hst := rright_hid hx Al nl cl w0 ((Kit.Reads.below hl hba).more hba.size) (by omega) (Lib.hid hrx)
  have hltb := lt_at hcb
  obtain ⟨X1, hX1⟩ : ∃ Y, str (recHard x.term x.vote) = Y := ⟨_, rfl⟩
  obtain ⟨X2, hX2⟩ : ∃ Y, str (recSnap x.snap) = Y := ⟨_, rfl⟩
  have hr1 := fun W => rrec_hard x.term x.vote W hx.term hx.v0 hx.v1 (Lib.hid hX1)
  have hr2 := fun W => rrec_snap x.snap W hx.snap (by omega) (Lib.hid hX2)
  have hL0 : strs [recHard x.term x.vote, recSnap x.snap] = [.string X1, .string X2] := by rw [← hX1, ← hX2]; rfl
  have hall : allOf x = [recHard x.term x.vote, recSnap x.snap] ++ x.es.map recEnt := rfl
  obtain ⟨L0, hL0e⟩ : ∃ L0, [recHard x.term x.vote, recSnap x.snap] = L0 := ⟨_, rfl⟩
  have hL0n : L0.length = 2 := by rw [← hL0e]; rfl
  rw [hL0e] at hL0 hall
  have hxe := hx.ents
  have hlen := RE.len hl
  have h0 := h.below hba
  have hhl := h.lt
  have hhq := RefAt.lt h.disk
  have HX0 : Hid (StaB x) := hx
  have HRX := Lib.hid hrx
  unfold staV at hst ⊢
  obtain ⟨tm, vt, ⟨ix, st, cf, d⟩, es⟩ := x
  simp only at *
  have x0 : w0.cell? ⟨w.heap.size, 0, none⟩ = some (.int .u64 (tm : Int)) := by rw [cell_at hcb]; rfl
  have x1 : w0.cell? ⟨w.heap.size, 1, none⟩ = some (.int .i64 vt) := by rw [cell_at hcb]; rfl
  have x2 : w0.cell? ⟨w.heap.size, 2, none⟩ = some (.int .u64 (ix : Int)) := by rw [cell_at hcb]; rfl
  have x3 : w0.cell? ⟨w.heap.size, 3, none⟩ = some (.int .u64 (st : Int)) := by rw [cell_at hcb]; rfl
  have x4 : w0.cell? ⟨w.heap.size, 4, none⟩ = some (.int .u64 (cf : Int)) := by rw [cell_at hcb]; rfl
  have x5 : w0.cell? ⟨w.heap.size, 5, none⟩ = some (.string d) := by rw [cell_at hcb]; rfl
  have x6 : w0.cell? ⟨w.heap.size, 6, none⟩ = some (.slice Al nl cl) := by rw [cell_at hcb]; rfl
  have hd1 : ¬ (32768 : Int) < (d.size : Int) := by omega
  have hd2 : ¬ 32768 < d.size := by omega
  have HST := Lib.hid hst
  have HW0 := Lib.hid hw0
  have HBA := Lib.hid hba
  have HH0 := Lib.hid h0
  have HR1 := Lib.hid hr1
  have HR2 := Lib.hid hr2
  have HL0 := Lib.hid hL0
  have HALL := Lib.hid hall
  have HL0N := Lib.hid hL0n
  have HL := Lib.hid hl
  have HLN := Lib.hid hlen
  have HLS := Lib.hid hls
  have HXE := Lib.hid hxe
  clear hst hw0 hba hcb h h0 hr1 hr2 hL0 hall hL0e hL0n hl hlen hls hxe hX1 hX2 hx hrx hok hdx
  go_enter Tryz.func15, Tryz.ntmps15
  go_wp2_with fail
  rw [HW0.out]
  refine HST.out.mono ?_
  rintro e w1 ⟨rfl, hb1⟩
  have y0 := Anew.Below.bx hb1 x0 hltb
  have y1 := Anew.Below.bx hb1 x1 hltb
  have y2 := Anew.Below.bx hb1 x2 hltb
  have y3 := Anew.Below.bx hb1 x3 hltb
  have y4 := Anew.Below.bx hb1 x4 hltb
  have y5 := Anew.Below.bx hb1 x5 hltb
  have y6 := Anew.Below.bx hb1 x6 hltb
  have hB1 := HBA.out.trans (hb1.mono HBA.out.size)
  have hlt1 : w.heap.size < w1.heap.size := Nat.lt_of_lt_of_le hltb hb1.size
  have h1 := HH0.out.below hb1
  have HH1 := Lib.hid h1
  clear x0 x1 x2 x3 x4 x5 x6 hb1 h1
  go_wp2_with fail
  go_region_held3 (fun w' => w'.cell? ⟨w.heap.size, 0, none⟩ = some (.int .u64 (tm : Int)) ∧ w'.cell? ⟨w.heap.size, 1, none⟩ = some (.int .i64 vt) ∧ w'.cell? ⟨w.heap.size, 2, none⟩ = some (.int .u64 (ix : Int)) ∧ w'.cell? ⟨w.heap.size, 3, none⟩ = some (.int .u64 (st : Int)) ∧ w'.cell? ⟨w.heap.size, 4, none⟩ = some (.int .u64 (cf : Int)) ∧ w'.cell? ⟨w.heap.size, 5, none⟩ = some (.string d))
    (first
      | exact ⟨y0, y1, y2, y3, y4, y5⟩
      | exact ⟨Anew.Below.bx (hB3.alloc hB3.size _) y0 hlt1, Anew.Below.bx (hB3.alloc hB3.size _) y1 hlt1, Anew.Below.bx (hB3.alloc hB3.size _) y2 hlt1, Anew.Below.bx (hB3.alloc hB3.size _) y3 hlt1, Anew.Below.bx (hB3.alloc hB3.size _) y4 hlt1, Anew.Below.bx (hB3.alloc hB3.size _) y5 hlt1⟩
      | exact ⟨Anew.Below.bx (hB2.alloc hB2.size _) y0 hlt1, Anew.Below.bx (hB2.alloc hB2.size _) y1 hlt1, Anew.Below.bx (hB2.alloc hB2.size _) y2 hlt1, Anew.Below.bx (hB2.alloc hB2.size _) y3 hlt1, Anew.Below.bx (hB2.alloc hB2.size _) y4 hlt1, Anew.Below.bx (hB2.alloc hB2.size _) y5 hlt1⟩
      | exact ⟨Anew.Below.bx hB3 y0 hlt1, Anew.Below.bx hB3 y1 hlt1, Anew.Below.bx hB3 y2 hlt1, Anew.Below.bx hB3 y3 hlt1, Anew.Below.bx hB3 y4 hlt1, Anew.Below.bx hB3 y5 hlt1⟩
      | exact ⟨Anew.Below.bx hB2 y0 hlt1, Anew.Below.bx hB2 y1 hlt1, Anew.Below.bx hB2 y2 hlt1, Anew.Below.bx hB2 y3 hlt1, Anew.Below.bx hB2 y4 hlt1, Anew.Below.bx hB2 y5 hlt1⟩)
    (first
      | (go_at_call 42
         (with_reducible refine (HR1.out _).mono ?_)
         rintro e w2 ⟨rfl, hb2⟩
         have hB2 : Below w1.heap.size w1 w2 := by first | exact ((Below.refl _ _).drew).trans hb2 | exact hB3.trans (hb2.mono hB3.size))
      | (go_at_call 43
         (with_reducible refine (HR2.out _).mono ?_)
         rintro e w3 ⟨rfl, hb3⟩
         have hB3 : Below w1.heap.size w1 w3 := by first | exact ((Below.refl _ _).drew).trans hb3 | exact hB2.trans (hb3.mono hB2.size)))
  have hB4 : Below w1.heap.size w1 (w3.alloc (.cells #[.string X1, .string X2] 9)) := hB3.alloc hB3.size _
  have hB4w : Below w.heap.size w (w3.alloc (.cells #[.string X1, .string X2] 9)) := hB1.trans (hB4.mono hB1.size)
  have hrow0 : (w3.alloc (.cells #[.string X1, .string X2] 9)).ownsRow w1.heap.size 9 1 (.slice (some ⟨w3.heap.size, 0, none⟩) 2 2) 2 [.string X1, .string X2] := own_two w3 X1 X2 hB3.size
  obtain ⟨w4, hw4⟩ : ∃ w4, w3.alloc (.cells #[.string X1, .string X2] 9) = w4 := ⟨_, rfl⟩
  rw [hw4] at hB4 hB4w hrow0
  rw [hw4]
  have z6 := Anew.Below.bx hB4 y6 hlt1
  have hmid0 : Mid w1 L0 (.slice (some ⟨w3.heap.size, 0, none⟩) 2 2) w4 := ⟨_, 2, by rw [HL0N.out], by rw [HL0N.out, HL0.out]; exact hrow0, hB4⟩
  have HM0 := Lib.hid hmid0
  have hlt4 : w.heap.size < w4.heap.size := Nat.lt_of_lt_of_le hlt1 hB4.size
  clear hrow0 hmid0 hw4 hB2 hB3 hb2 hb3
  go_wp2_with fail
  go_loopw [5, 6] (fun v i wr => ∃ j : Nat, j ≤ nl ∧ i = .int .i64 (j : Int) ∧ Mid w1 (L0 ++ (es.take j).map recEnt) v wr) (fun _ i _ => nl - (intOf i).toNat)
  case atStart => exact ⟨0, Nat.zero_le _, rfl, by rw [List.take_zero, List.map_nil, List.append_nil]; exact HM0.out⟩
  case round =>
    obtain ⟨j, hj, rfl, hmid⟩ := hrel
    obtain ⟨A2, c2, rfl, hrow2, hB2⟩ := hmid
    obtain ⟨n2, hn2⟩ : ∃ n2, (L0 ++ (es.take j).map recEnt).length = n2 := ⟨_, rfl⟩
    have hn2b : n2 ≤ 999992 := by
      rw [← hn2, List.length_append, List.length_map, List.length_take, HL0N.out]
      omega
    rw [hn2] at hrow2 ⊢
    have HN2 := Lib.hid hn2
    have hsz2 := hB2.size
    have hb3 := hB1.trans (hB2.mono hB1.size)
    have v6 := Anew.Below.bx hB2 y6 hlt1
    have hltr : w.heap.size < wr.heap.size := Nat.lt_of_lt_of_le hlt1 hsz2
    by_cases hjn : j < nl
    · obtain ⟨bl, ol, y, rfl, hbl, hy, hf⟩ := RE.at_ HL.out hjn
      have hfr := Four.below hf hb3 hbl
      have e0 := hfr.c0
      have e1 := hfr.c1
      have e2 := hfr.c2
      have e3 := hfr.c3
      have hym := List.mem_of_getElem? hy
      obtain ⟨Y, hY⟩ : ∃ Y, str (recEnt y) = Y := ⟨_, rfl⟩
      have HY := Lib.hid hY
      have hrec := fun W => rrec_ent y W (HXE.out y hym) (by have := HLS.out y hym; omega) HY
      have HSN := Lib.hid (map_snoc hy)
      obtain ⟨tm', ix', kd', d'⟩ := y
      simp only at *
      have HRec := Lib.hid hrec
      clear hrec hY hym hy hf hfr hn2
      go_wp2_with fail
      refine (HRec.out _).mono ?_
      rintro e w5 ⟨rfl, hb5⟩
      have hR3 := own_below hrow2 hb5
      have hB5 := hB2.trans (hb5.mono hsz2)
      go_wp2_with
        (at_builtin
         refine wpList_rec (.tmp 32) (.tmp 39) rfl rfl rfl HN2 hR3 hB5 rfl rfl HY (by omega) ?_
         intro A3 c3 w6 hm6)
      go_roundw
      case rel => exact ⟨j + 1, by omega, by go_num, by rw [HSN.out, ← List.append_assoc]; exact hm6⟩
      case measure => simp [intOf]; omega
    · obtain rfl : j = nl := by omega
      have hall : es.take j = es := List.take_of_length_le (by rw [HLN.out]; exact Nat.le_refl _)
      rw [hall, ← HALL.out] at hrow2 HN2
      have hrs : RS wr A2 n2 (allOf ⟨tm, vt, ⟨ix, st, cf, d⟩, es⟩) := Reads.of_own hrow2
      have h4 := HH1.out.below hB2
      have happ := ranew_hid A2 n2 c2 _ h4.log h4.disk h4.fine h4.bq hrs (by omega) hw
      have hf1 : Fine m' := by have := wanew_fine h4.fine n (allOf ⟨tm, vt, ⟨ix, st, cf, d⟩, es⟩); rw [hw.out] at this; exact this
      have HAP := Lib.hid happ
      have HF1 := Lib.hid hf1
      have d0 : wr.cell? ⟨t, 0, none⟩ = some (.pointer (some ⟨b, 0, none⟩)) := by rw [cell_at h4.sto]; rfl
      have hlt40 := h4.lt
      have H4 := Lib.hid h4
      have u0 := Anew.Below.bx hB2 y0 hlt1
      have u1 := Anew.Below.bx hB2 y1 hlt1
      have u2 := Anew.Below.bx hB2 y2 hlt1
      have u3 := Anew.Below.bx hB2 y3 hlt1
      have u4 := Anew.Below.bx hB2 y4 hlt1
      have u5 := Anew.Below.bx hB2 y5 hlt1
      have u6 := Anew.Below.bx hB2 y6 hlt1
      clear happ hrs hrow2 h4 hn2 hall hf1 v6
      go_wp2_with fail
      refine HAP.out.mono ?_
      rintro e wq ⟨rfl, hlog6, hdisk6, hk6⟩
      have hkw : Only (fun y => y = t ∨ y = q) w wq := (Only.of_below hb3).trans (hk6.mono fun y _ hy => .inr hy)
      have hq0 := H4.out.tq
      have hb0 := H4.out.tb
      have ht6 := hk6.heap H4.out.sto hq0
      by_cases hr0 : r = 0
      · subst hr0
        obtain rfl : res = (0, (m', ⟨tm, vt, ⟨ix, st, cf, d⟩, es⟩)) := by rw [hres.out, if_pos rfl]
        clear hres
        have hne : w.heap.size ≠ q := by omega
        have q0 : wq.cell? ⟨w.heap.size, 0, none⟩ = some (.int .u64 (tm : Int)) := (hk6.cell (p := ⟨w.heap.size, 0, none⟩) hltr hne).trans u0
        have q1 : wq.cell? ⟨w.heap.size, 1, none⟩ = some (.int .i64 vt) := (hk6.cell (p := ⟨w.heap.size, 1, none⟩) hltr hne).trans u1
        have q2 : wq.cell? ⟨w.heap.size, 2, none⟩ = some (.int .u64 (ix : Int)) := (hk6.cell (p := ⟨w.heap.size, 2, none⟩) hltr hne).trans u2
        have q3 : wq.cell? ⟨w.heap.size, 3, none⟩ = some (.int .u64 (st : Int)) := (hk6.cell (p := ⟨w.heap.size, 3, none⟩) hltr hne).trans u3
        have q4 : wq.cell? ⟨w.heap.size, 4, none⟩ = some (.int .u64 (cf : Int)) := (hk6.cell (p := ⟨w.heap.size, 4, none⟩) hltr hne).trans u4
        have q5 : wq.cell? ⟨w.heap.size, 5, none⟩ = some (.string d) := (hk6.cell (p := ⟨w.heap.size, 5, none⟩) hltr hne).trans u5
        have q6 : wq.cell? ⟨w.heap.size, 6, none⟩ = some (.slice Al j cl) := (hk6.cell (p := ⟨w.heap.size, 6, none⟩) hltr hne).trans u6
        have hltq : w.heap.size < wq.heap.size := Nat.lt_of_lt_of_le hltr hk6.size
        have hreq : RE wq wq.heap.size Al j es := by
          rcases Nat.eq_zero_or_pos j with h0 | h0
          · subst h0
            rw [List.eq_nil_of_length_eq_zero HLN.out]
            exact RE.nil _ _ _
          · exact (re_only ((Kit.Reads.below HL.out hb3).more hb3.size) hk6 (Nat.le_refl _) fun _ => re_disk ((Kit.Reads.below HL.out hb3).more hb3.size) H4.out.disk h0).more hk6.size
        have HREQ := Lib.hid hreq
        have HT6 := Lib.hid ht6
        have hm40 : j * 40 ≤ 140737488355328 := by omega
        have t1 : wq.cell? ⟨t, 1, none⟩ = some (.int .u64 (s.term : Int)) := by rw [cell_at ht6]; rfl
        have t2 : wq.cell? ⟨t, 2, none⟩ = some (.int .i64 s.vote) := by rw [cell_at ht6]; rfl
        have t3 : wq.cell? ⟨t, 3, none⟩ = some (.int .u64 (s.snap.idx : Int)) := by rw [cell_at ht6]; rfl
        have t4 : wq.cell? ⟨t, 4, none⟩ = some (.int .u64 (s.snap.term : Int)) := by rw [cell_at ht6]; rfl
        have t5 : wq.cell? ⟨t, 5, none⟩ = some (.int .u64 (s.snap.cfg : Int)) := by rw [cell_at ht6]; rfl
        have t6 : wq.cell? ⟨t, 6, none⟩ = some (.string s.snap.data) := by rw [cell_at ht6]; rfl
        have t7 : wq.cell? ⟨t, 7, none⟩ = some (.slice A s.es.length c) := by rw [cell_at ht6]; rfl
        have hltt := lt_at ht6
        have hfin : ∀ (w6 : World) (A6 : Option Addr) (c6 : Nat), w6.ownsRow wq.heap.size 83 4 (.slice A6 j c6) j (ecells es) → Below wq.heap.size wq w6 → RSaved w t b q n A s.es (0, (m', ⟨tm, vt, ⟨ix, st, cf, d⟩, es⟩)) (.returned (.int .i64 0)) (((((((w6.setCell ⟨t, 1, none⟩ (.int .u64 (tm : Int))).setCell ⟨t, 2, none⟩ (.int .i64 vt)).setCell ⟨t, 3, none⟩ (.int .u64 (ix : Int))).setCell ⟨t, 4, none⟩ (.int .u64 (st : Int))).setCell ⟨t, 5, none⟩ (.int .u64 (cf : Int))).setCell ⟨t, 6, none⟩ (.string d)).setCell ⟨t, 7, none⟩ (.slice A6 j c6)) := fun w6 A6 c6 hown hb => by
          obtain ⟨hn, ho⟩ := set17 ((hb.block t hltt).trans HT6.out) rfl (.int .u64 (tm : Int)) (.int .i64 vt) (.int .u64 (ix : Int)) (.int .u64 (st : Int)) (.int .u64 (cf : Int)) (.string d) (.slice A6 j c6)
          have hqs := hk6.size
          have hrow := ho.own hown fun g hg e => by have := (hown.lt g hg).1; omega
          have hbs := hb.size
          have hos := ho.size
          have hlb := lt_at hlog6
          obtain rfl : es.length = j := HLN.out
          refine ⟨rfl, ⟨A6, c6, ⟨hn, ho.heap (hlog6.below hb) (by omega), ho.heap (RefAt.below hdisk6 hb) (by omega), Reads.of_own hrow, fun _ ad e => ?_, hb0, hq0, H4.out.bq, HX0.out, HRX.out, HF1.out⟩, Kin.own hrow (by omega) (Nat.le_refl _)⟩, (hkw.thenBelow hb).trans (ho.mono fun y _ hy => .inl hy)⟩
          subst e
          have h1 := hown.lt ad.block rfl
          exact ⟨by omega, by omega, by omega⟩
        have HFIN := Lib.hid hfin
        clear hreq ht6 u0 u1 u2 u3 u4 u5 u6 y0 y1 y2 y3 y4 y5 y6 hfin
        go_wp2_with fail
        go_region_law (first
          | (refine step_new (A := Al) (m := j) (c := cl) _ rfl _ _ rfl wq.heap.size rfl rfl (Reads.drew HREQ.out) (ecells_one _) hm40 (Nat.le_refl _) ?_
             intro A6 c6 w6 hown6 hb6 hat6
             have ht66 := (hb6.block t hltt).trans HT6.out
             have g0 := (hb6.cell (p := ⟨w.heap.size, 0, none⟩) hltq).trans q0
             have g1 := (hb6.cell (p := ⟨w.heap.size, 1, none⟩) hltq).trans q1
             have g2 := (hb6.cell (p := ⟨w.heap.size, 2, none⟩) hltq).trans q2
             have g3 := (hb6.cell (p := ⟨w.heap.size, 3, none⟩) hltq).trans q3
             have g4 := (hb6.cell (p := ⟨w.heap.size, 4, none⟩) hltq).trans q4
             have g5 := (hb6.cell (p := ⟨w.heap.size, 5, none⟩) hltq).trans q5
             have g6 := (hb6.cell (p := ⟨w.heap.size, 6, none⟩) hltq).trans q6
             have s1 : w6.cell? ⟨t, 1, none⟩ = some (.int .u64 (s.term : Int)) := by rw [cell_at ht66]; rfl
             have s2 : w6.cell? ⟨t, 2, none⟩ = some (.int .i64 s.vote) := by rw [cell_at ht66]; rfl
             have s3 : w6.cell? ⟨t, 3, none⟩ = some (.int .u64 (s.snap.idx : Int)) := by rw [cell_at ht66]; rfl
             have s4 : w6.cell? ⟨t, 4, none⟩ = some (.int .u64 (s.snap.term : Int)) := by rw [cell_at ht66]; rfl
             have s5 : w6.cell? ⟨t, 5, none⟩ = some (.int .u64 (s.snap.cfg : Int)) := by rw [cell_at ht66]; rfl
             have s6 : w6.cell? ⟨t, 6, none⟩ = some (.string s.snap.data) := by rw [cell_at ht66]; rfl
             have s7 : w6.cell? ⟨t, 7, none⟩ = some (.slice A s.es.length c) := by rw [cell_at ht66]; rfl
             have ff := fun i => free_at ht66 i
             have hlt6 := lt_at ht66
             have HOWN := Lib.hid hown6
             have HB6 : Hid (Below wq.heap.size wq w6) := ((Below.refl _ wq).drew).trans hb6
             clear ht66 hown6 hat6))
        all_goals
          go_wp2
          go_ret
          exact HFIN.out _ _ _ HOWN.out HB6.out
      · obtain rfl : res = (r, (m', s)) := by rw [hres.out, if_neg hr0]
        clear hres
        have hri : (r == 0) = false := by simpa using hr0
        have HT6 := Lib.hid ht6
        clear ht6
        go_wp2
        go_ret
        exact ⟨rfl, ⟨A, c, ⟨HT6.out, hlog6, hdisk6, (re_only H4.out.re hk6 (Nat.le_refl _) fun h0 ad e => (H4.out.low h0 ad e).2.2).more hk6.size, fun h0 ad e => ⟨Nat.lt_of_lt_of_le (H4.out.low h0 ad e).1 hk6.size, (H4.out.low h0 ad e).2⟩, hb0, hq0, H4.out.bq, H4.out.sb, H4.out.ok, HF1.out⟩, Kin.refl _ _ _ _⟩, hkw⟩
/-- Any Anew. -/
theorem ranew_any {w : World} {t b q : Nat} {n : Int} {m : M} {s : Sta} {A : Option Addr} {c : Nat} (h : RSto w t b q n m s A c) (x : Sta) (hx : StaB x) (Al : Option Addr) (nl cl : Nat) (hl : RE w w.heap.size Al nl x.es) (hnl : nl ≤ 999990) (hd : x.snap.data.size ≤ 9223372036854775807) :
    Calls Tryz.prog 15 #[.pointer (some ⟨t, 0, none⟩), staV x Al nl cl] w (RSaved w t b q n A s.es (sanew m n s x)) := by
  cases hok : okAnew x with
  | false =>
    have e : sanew m n s x = (1, (m, s)) := by unfold sanew; rw [if_neg (by rw [hok]; decide)]
    rw [e]
    exact ranew_no h x hx Al nl cl hl hnl hd hok
  | true =>
    obtain ⟨r, m', hw⟩ : ∃ r m', wanew m n (allOf x) = (r, m') := ⟨_, _, rfl⟩
    refine ranew_ok h x hx Al nl cl hl hnl hok (Lib.hid hw) _ ?_
    have e : sanew m n s x = if r = 0 then (0, (m', x)) else (r, (m', s)) := by unfold sanew; rw [if_pos hok, hw]
    exact e
end Go.Proofs.YtamncdpeklbhlaaGreatDoor.RAnew
set_option linter.unusedVariables false
set_option linter.unusedSimpArgs false
namespace Go.Proofs.YtamncdpeklbhlaaGreatDoor.Two
open Go.RowKit Go.Proofs.YtamncdpeklbhlaaGreatDoor.Kit Go.Proofs.YtamncdpeklbhlaaGreatDoor.Blocks Go.Proofs.YtamncdpeklbhlaaGreatDoor.Rlog Go.Proofs.YtamncdpeklbhlaaGreatDoor.Sto Go.Proofs.YtamncdpeklbhlaaGreatDoor.Sav Go.Proofs.YtamncdpeklbhlaaGreatDoor.Ents Go.Proofs.YtamncdpeklbhlaaGreatDoor.Hold Go.Proofs.YtamncdpeklbhlaaGreatDoor.Del Go.Proofs.YtamncdpeklbhlaaGreatDoor.Save Go.Proofs.YtamncdpeklbhlaaGreatDoor.Anew Go.Proofs.YtamncdpeklbhlaaGreatDoor.Ahe Go.Proofs.YtamncdpeklbhlaaGreatDoor.Bgn Go.Proofs.YtamncdpeklbhlaaGreatDoor.RTake Go.Proofs.YtamncdpeklbhlaaGreatDoor.RSaid Go.Proofs.YtamncdpeklbhlaaGreatDoor.ROpen Go.Proofs.YtamncdpeklbhlaaGreatDoor.RSave Go.Proofs.YtamncdpeklbhlaaGreatDoor.RAnew Go.Proofs.YtamncdpeklbhlaaGreatDoor.Model Go.Proofs.YtamncdpeklbhlaaGreatDoor.Ops Go.Proofs.YtamncdpeklbhlaaGreatDoor.ScA Go.Proofs.YtamncdpeklbhlaaGreatDoor.FrA Go.Proofs.YtamncdpeklbhlaaGreatDoor.SumB Go.Proofs.YtamncdpeklbhlaaGreatDoor.Wal Go.Proofs.YtamncdpeklbhlaaGreatDoor.Ref Go.Proofs.YtamncdpeklbhlaaGreatDoor.Cals
open Go.Proofs.YtamncdpeklbhlaaGreatDoor.Log (LogAt wopen wappend wanew)

/-- Others have written, and blocks have come behind. -/
theorem SAt.wides {B : Nat} {X L : List Nat} {w w' : World} {t b p N : Nat} {n : Int} {m : M} {s : Sta} {v : Value} (h : SAt B X w t b p N n m s L v) {S : Nat → Prop} (k : Only S w w') (hs : ∀ q, S q → q ∈ X ∨ w.heap.size ≤ q) (xs : List Nat) (hx : ∀ x ∈ xs, w.heap.size ≤ x ∧ x < w'.heap.size) :
    SAt B (xs ++ X) w' t b p N n m s (xs ++ L) v := by
  have h2 := h.ext k hs
  have hlt := h.sto.lt
  have hlb := lt_at h.log
  obtain ⟨A, c, mb, y, hD, hF⟩ := h.disk.disk
  have hkeep := hD.keep k fun q hq e => by
    rcases hs q e with h1 | h1
    · exact (hF q hq).2 (h.sub q h1)
    · have := hD.foot_lt hq; omega
  refine ⟨⟨h.disk.fine, Nat.le_trans h.disk.low k.size, fun z hz => ?_, A, c, mb, y, hkeep, fun q hq => ⟨(hF q hq).1, fun e => ?_⟩⟩, h2.sto, h2.log, List.mem_append_right _ h.tL, List.mem_append_right _ h.bL, fun g hg => List.mem_append_right _ (h.vL g hg), fun z hz => ?_, fun e => ?_, fun e => ?_, fun g hg e => ?_, h.sb, h.ok⟩
  · rcases List.mem_append.1 hz with hz | hz
    · exact (hx z hz).2
    · exact Nat.lt_of_lt_of_le (h.disk.old z hz) k.size
  · rcases List.mem_append.1 e with e | e
    · have := hD.foot_lt hq; have := (hx q e).1; omega
    · exact (hF q hq).2 e
  · rcases List.mem_append.1 hz with hz | hz
    · exact List.mem_append_left _ hz
    · exact List.mem_append_right _ (h.sub z hz)
  · rcases List.mem_append.1 e with e | e
    · have := (hx t e).1; omega
    · exact h.tX e
  · rcases List.mem_append.1 e with e | e
    · have := (hx b e).1; omega
    · exact h.bX e
  · rcases List.mem_append.1 e with e | e
    · have := (h.sto.row_lt hg).2; have := (hx g e).1; omega
    · exact h.vX g hg e
theorem SAt.wide {B : Nat} {X L : List Nat} {w w' : World} {t b p N : Nat} {n : Int} {m : M} {s : Sta} {v : Value} (h : SAt B X w t b p N n m s L v) {S : Nat → Prop} (k : Only S w w') (hs : ∀ q, S q → q ∈ X ∨ w.heap.size ≤ q) {x : Nat} (h0 : w.heap.size ≤ x) (h1 : x < w'.heap.size) :
    SAt B (x :: X) w' t b p N n m s (x :: L) v := SAt.wides h k hs [x] fun y hy => by simp only [List.mem_singleton] at hy; omega

/-- Both stores in one world; the blocks of Z are others', and stay. -/
def Pair (B : Nat) (Z : List Nat) (W : World) (t b p N t' b' q : Nat) (n : Int) (m : M) (s : Sta) (m2 : M) (s2 : Sta) : Prop :=
  ∃ (X L : List Nat) (v : Value) (A : Option Addr) (c : Nat), SAt B X W t b p N n m s L v ∧ RSto W t' b' q n m2 s2 A c ∧ ((t' ∈ X ∧ b' ∈ X) ∧ q ∈ X) ∧ (0 < s2.es.length → ∀ ad, A = some ad → ad.block ∈ X) ∧ (∀ z ∈ Z, z ∈ X ∧ (z ≠ t' ∧ z ≠ q)) ∧ ((B ≤ t' ∧ B ≤ b') ∧ B ≤ q)
section
variable {B : Nat} {Z : List Nat} {w w' : World} {t b p N t' b' q : Nat} {n : Int} {m m2 m' : M} {s s2 s' : Sta}
theorem Pair.below (h : Pair B Z w t b p N t' b' q n m s m2 s2) (k : Below w.heap.size w w') : Pair B Z w' t b p N t' b' q n m s m2 s2 := by
  obtain ⟨X, L, v, A, c, h1, h2, h3, h4, h5, h6⟩ := h
  exact ⟨X, L, v, A, c, h1.below k, h2.below k, h3, h4, h5, h6⟩
theorem Pair.base (h : Pair B Z w t b p N t' b' q n m s m2 s2) : B ≤ w.heap.size := by
  obtain ⟨X, L, v, A, c, h1, _⟩ := h
  exact h1.base
theorem Pair.beside (h : Pair B Z w t b p N t' b' q n m s m2 s2) (k : Below w.heap.size w w') {x : Nat} (h0 : w.heap.size ≤ x) (h1 : x < w'.heap.size) : Pair B (x :: Z) w' t b p N t' b' q n m s m2 s2 := by
  obtain ⟨X, L, v, A, c, g1, g2, g3, g4, g5, g6⟩ := h
  have hl := g2.lt
  have hq := RefAt.lt g2.disk
  refine ⟨x :: X, x :: L, v, A, c, g1.beside k h0 h1, g2.below k, ⟨⟨List.mem_cons_of_mem _ g3.1.1, List.mem_cons_of_mem _ g3.1.2⟩, List.mem_cons_of_mem _ g3.2⟩, fun h0 ad e => List.mem_cons_of_mem _ (g4 h0 ad e), fun z hz => ?_, g6⟩
  rcases List.mem_cons.1 hz with rfl | hz
  · exact ⟨by simp, by omega, by omega⟩
  · exact ⟨List.mem_cons_of_mem _ (g5 z hz).1, (g5 z hz).2⟩
theorem Pair.fewer (h : Pair B Z w t b p N t' b' q n m s m2 s2) : Pair B [] w t b p N t' b' q n m s m2 s2 := by
  obtain ⟨X, L, v, A, c, g1, g2, g3, g4, g5, g6⟩ := h
  exact ⟨X, L, v, A, c, g1, g2, g3, g4, (fun z hz => by cases hz), g6⟩
theorem Pair.more (h : Pair B Z w t b p N t' b' q n m s m2 s2) {N' : Nat} (hN : N ≤ N') : Pair B Z w t b p N' t' b' q n m s m2 s2 := by
  obtain ⟨X, L, v, A, c, g1, g⟩ := h
  exact ⟨X, L, v, A, c, g1.more hN, g⟩
/-- The program's store has gone on. -/
theorem Pair.prog (h : Pair B Z w t b p N t' b' q n m s m2 s2) {X L' : List Nat} {v' : Value} {A : Option Addr} {c N' : Nat} (hs : SAt B X w' t b p N' n m' s' L' v') (hk : Keeps B X w w') (hr : RSto w t' b' q n m2 s2 A c) (h3 : (t' ∈ X ∧ b' ∈ X) ∧ q ∈ X) (h4 : 0 < s2.es.length → ∀ ad, A = some ad → ad.block ∈ X) (h5 : ∀ z ∈ Z, z ∈ X ∧ (z ≠ t' ∧ z ≠ q)) :
    Pair B Z w' t b p N' t' b' q n m' s' m2 s2 := by
  obtain ⟨_, _, _, _, _, _, _, _, _, _, g6⟩ := h
  exact ⟨X, L', v', A, c, hs, hr.ext hk (fun e => e.2 h3.1.1) (fun e => e.2 h3.1.2) (fun e => e.2 h3.2) (fun h0 ad e e' => e'.2 (h4 h0 ad e)), h3, h4, h5, g6⟩
theorem pair_save (h : Pair B Z w t b p N t' b' q n m s m2 s2) (htab : Tab w) (hgB : 0 < B) (hN : N < 900000) (hn0 : -9223372036854775808 ≤ n) (hn1 : n ≤ 9223372036854775807) {x : Cal} (hC : CalB w B x) (hnl : x.n ≤ 999990) (hes : s.es.length ≤ 2000000) {r : Int} (hs : Hid (ssave m n s x.term x.vote x.l = (r, (m', s')))) :
    Calls Tryz.prog 16 #[.pointer (some ⟨t, 0, none⟩), .agg #[.int .u64 (x.term : Int), .int .i64 x.vote], .slice x.A x.n x.c] w fun e w' => e = .returned (.int .i64 r) ∧ Pair B Z w' t b p (N + 2) t' b' q n m' s' m2 s2 ∧ Below B w w' ∧ ∀ z ∈ Z, ∀ o, w.heap[z]? = some o → w'.heap[z]? = some o := by
  have hh := h
  obtain ⟨X, L, v, A, c, g1, g2, g3, g4, g5, g6⟩ := h
  refine (save_lit g1 htab hgB hN hn0 hn1 x.term x.vote hC.term hC.v0 hC.v1 x.A x.n x.c x.l (hC.list.more g1.base) (Out.low hC.list) hC.ents hnl hes hs).mono ?_
  rintro e w' ⟨rfl, ⟨L', v', hS'⟩, hk⟩
  exact ⟨rfl, hh.prog hS' hk g2 g3 g4 g5, hk.below g1.base, fun z hz o ho => hk.heap ho (.inr (g5 z hz).1)⟩
theorem pair_anew (h : Pair B Z w t b p N t' b' q n m s m2 s2) (htab : Tab w) (hgB : 0 < B) (hN : N < 900000) {x : Cal} (hC : CalB w B x) (hnl : x.n ≤ 999990) {r : Int} (hs : Hid (sanew m n s (staOf x) = (r, (m', s')))) :
    Calls Tryz.prog 14 #[.pointer (some ⟨t, 0, none⟩), .agg #[.int .u64 (x.term : Int), .int .i64 x.vote, .int .u64 (x.snap.idx : Int), .int .u64 (x.snap.term : Int), .int .u64 (x.snap.cfg : Int), .string x.snap.data, .slice x.A x.n x.c]] w fun e w' => e = .returned (.int .i64 r) ∧ Pair B Z w' t b p (N + 2) t' b' q n m' s' m2 s2 ∧ Below B w w' ∧ ∀ z ∈ Z, ∀ o, w.heap[z]? = some o → w'.heap[z]? = some o := by
  have hh := h
  obtain ⟨X, L, v, A, c, g1, g2, g3, g4, g5, g6⟩ := h
  refine (anew_any' g1 htab hgB hN (staOf x) hC.sta x.A x.n x.c hC.list hnl hC.data).mono ?_
  intro e w' hsv
  unfold Saved at hsv
  rw [hs.out] at hsv
  obtain ⟨he, ⟨L', v', hS'⟩, hk⟩ := hsv
  exact ⟨he, hh.prog hS' hk g2 g3 g4 g5, hk.below g1.base, fun z hz o ho => hk.heap ho (.inr (g5 z hz).1)⟩
/-- The document's store has gone on. -/
theorem Pair.doc (h : Pair B Z w t b p N t' b' q n m s m2 s2) {A' : Option Addr} {X L : List Nat} {v : Value} {A : Option Addr} {c' : Nat} (g1 : SAt B X w t b p N n m s L v) (g3 : (t' ∈ X ∧ b' ∈ X) ∧ q ∈ X) (g4 : 0 < s2.es.length → ∀ ad, A = some ad → ad.block ∈ X) (g5 : ∀ z ∈ Z, z ∈ X ∧ (z ≠ t' ∧ z ≠ q)) (hr : RSto w' t' b' q n m' s' A' c') (hkin : Kin w w' A s2.es A' s'.es) (hk : Only (fun y => y = t' ∨ y = q) w w') :
    Pair B Z w' t b p N t' b' q n m s m' s' ∧ Below B w w' ∧ ∀ z ∈ Z, ∀ o, w.heap[z]? = some o → w'.heap[z]? = some o := by
  obtain ⟨_, _, _, _, _, _, _, _, _, _, g6⟩ := h
  have hS : ∀ y, (y = t' ∨ y = q) → y ∈ X ∨ w.heap.size ≤ y := fun y hy => by
    rcases hy with rfl | rfl
    · exact .inl g3.1.1
    · exact .inl g3.2
  refine ⟨?_, hk.below g1.base fun y hy => by rcases hy with rfl | rfl; exact g6.1.1; exact g6.2, fun z hz o ho => hk.heap ho fun e => by
    rcases e with e | e
    · exact (g5 z hz).2.1 e
    · exact (g5 z hz).2.2 e⟩
  by_cases hnew : ∃ ad, A' = some ad ∧ (w.heap.size ≤ ad.block ∧ ad.block < w'.heap.size)
  · obtain ⟨ad, rfl, h0, h1⟩ := hnew
    exact ⟨ad.block :: X, _, v, _, c', SAt.wide g1 hk hS h0 h1, hr, ⟨⟨List.mem_cons_of_mem _ g3.1.1, List.mem_cons_of_mem _ g3.1.2⟩, List.mem_cons_of_mem _ g3.2⟩, fun _ ad' e => by cases e; simp, fun z hz => ⟨List.mem_cons_of_mem _ (g5 z hz).1, (g5 z hz).2⟩, g6⟩
  · refine ⟨X, L, v, A', c', g1.ext hk hS, hr, g3, fun h0 ad e => ?_, g5, g6⟩
    rcases hkin ad e with ⟨h, he⟩ | h
    · exact g4 (by rw [← he]; exact h0) ad h
    · exact absurd ⟨ad, e, h⟩ hnew
theorem pair_rsave (h : Pair B Z w t b p N t' b' q n m s m2 s2) {x : Cal} (hC : CalB w B x) (hnl : x.n ≤ 999990) (hls : ∀ e ∈ x.l, e.data.size ≤ 1000000000) (hes : s2.es.length ≤ 1000000) {r : Int} (hs : Hid (ssave m2 n s2 x.term x.vote x.l = (r, (m', s')))) :
    Calls Tryz.prog 17 #[.pointer (some ⟨t', 0, none⟩), .agg #[.int .u64 (x.term : Int), .int .i64 x.vote], .slice x.A x.n x.c] w fun e w' => e = .returned (.int .i64 r) ∧ Pair B Z w' t b p N t' b' q n m s m' s' ∧ Below B w w' ∧ ∀ z ∈ Z, ∀ o, w.heap[z]? = some o → w'.heap[z]? = some o := by
  have hh := h
  obtain ⟨X, L, v, A, c, g1, g2, g3, g4, g5, g6⟩ := h
  refine (rsave_any g2 hes x.term x.vote hC.term hC.v0 hC.v1 x.A x.n x.c x.l (hC.list.more g1.base) hC.ents hls hnl).mono ?_
  intro e w' hsv
  unfold RSaved at hsv
  rw [hs.out] at hsv
  obtain ⟨rfl, ⟨A', c', hr, hkin⟩, hk⟩ := hsv
  exact ⟨rfl, hh.doc g1 g3 g4 g5 hr hkin hk⟩
theorem pair_ranew (h : Pair B Z w t b p N t' b' q n m s m2 s2) {x : Cal} (hC : CalB w B x) (hnl : x.n ≤ 999990) {r : Int} (hs : Hid (sanew m2 n s2 (staOf x) = (r, (m', s')))) :
    Calls Tryz.prog 15 #[.pointer (some ⟨t', 0, none⟩), .agg #[.int .u64 (x.term : Int), .int .i64 x.vote, .int .u64 (x.snap.idx : Int), .int .u64 (x.snap.term : Int), .int .u64 (x.snap.cfg : Int), .string x.snap.data, .slice x.A x.n x.c]] w fun e w' => e = .returned (.int .i64 r) ∧ Pair B Z w' t b p N t' b' q n m s m' s' ∧ Below B w w' ∧ ∀ z ∈ Z, ∀ o, w.heap[z]? = some o → w'.heap[z]? = some o := by
  have hh := h
  obtain ⟨X, L, v, A, c, g1, g2, g3, g4, g5, g6⟩ := h
  refine (ranew_any g2 (staOf x) hC.sta x.A x.n x.c (hC.list.more g1.base) hnl hC.data).mono ?_
  intro e w' hsv
  unfold RSaved at hsv
  rw [hs.out] at hsv
  obtain ⟨rfl, ⟨A', c', hr, hkin⟩, hk⟩ := hsv
  exact ⟨rfl, hh.doc g1 g3 g4 g5 hr hkin hk⟩
end
/-- Both are opened. -/
theorem pair_open {B : Nat} {w w' : World} {t b p N t' b' q : Nat} {n : Int} {m m2 : M} {s s2 : Sta} {L : List Nat} {v : Value} {A : Option Addr} {c : Nat} (h : SAt B [q] w t b p N n m s L v) (hr : RSto w' t' b' q n m2 s2 A c) (hk : Only (fun y => y = q) w w') (ht : w.heap.size ≤ t') (hb : w.heap.size ≤ b') (hkin : Kin w w' none [] A s2.es) (hq : B ≤ q) :
    Pair B [] w' t b p N t' b' q n m s m2 s2 := by
  have hB := h.base
  have hS : ∀ y, y = q → y ∈ [q] ∨ w.heap.size ≤ y := fun y hy => .inl (by rw [hy]; simp)
  have hbl := lt_at hr.log
  obtain ⟨xs, h1, h2, h3, h4⟩ : ∃ xs : List Nat, t' ∈ xs ∧ b' ∈ xs ∧ (∀ ad, A = some ad → ad.block ∈ xs) ∧ ∀ x ∈ xs, w.heap.size ≤ x ∧ x < w'.heap.size := by
    cases A with
    | none => exact ⟨[t', b'], by simp, by simp, (fun _ e => by cases e), fun x hx => by
        simp only [List.mem_cons, List.not_mem_nil, or_false] at hx
        rcases hx with rfl | rfl
        · exact ⟨ht, hr.lt⟩
        · exact ⟨hb, hbl⟩⟩
    | some ad =>
      have hA : w.heap.size ≤ ad.block ∧ ad.block < w'.heap.size := by
        rcases hkin ad rfl with ⟨e, _⟩ | e
        · cases e
        · exact e
      exact ⟨[t', b', ad.block], by simp, by simp, (fun _ e => by cases e; simp), fun x hx => by
        simp only [List.mem_cons, List.not_mem_nil, or_false] at hx
        rcases hx with rfl | rfl | rfl
        · exact ⟨ht, hr.lt⟩
        · exact ⟨hb, hbl⟩
        · exact hA⟩
  exact ⟨xs ++ [q], _, v, A, c, SAt.wides h hk hS xs h4, hr, ⟨⟨List.mem_append_left _ h1, List.mem_append_left _ h2⟩, by simp⟩, fun _ ad e => List.mem_append_left _ (h3 ad e), (fun z hz => by cases hz), ⟨⟨by omega, by omega⟩, hq⟩⟩
/-- The document's disk gets its fuel. -/
theorem doc_fuelled {w : World} {q : Nat} {m : M} (h : RefAt w q m) (n : Int) : RefAt (w.setCell ⟨q, 49, none⟩ (.int .i64 (max n (-1)))) q (m.fuelled n) :=
  h.set 49 _ _ rfl fun k hk hne => by unfold cellOf M.fuelled; simp only []; (repeat' split) <;> first | rfl | omega
/-! ### How long a state's list gets -/
theorem ssave_len {m m' : M} {n : Int} {s s' : Sta} {t : Nat} {v : Int} {l : List Ent} {r : Int} (h : ssave m n s t v l = (r, (m', s'))) : s'.es.length ≤ s.es.length + l.length := by
  have h1 := after_len s t v l
  unfold ssave at h
  split at h
  · split at h
    · cases h; exact h1
    · split at h
      · cases h; exact h1
      · cases h; omega
  · cases h; omega
theorem sanew_len {m m' : M} {n : Int} {s s' x : Sta} {r : Int} (h : sanew m n s x = (r, (m', s'))) : s'.es.length ≤ s.es.length + x.es.length := by
  unfold sanew at h
  split at h
  · split at h
    · cases h; omega
    · cases h; omega
  · cases h; omega
theorem wopen_none {m : M} {n : Int} (h : m.has n = false) : (wopen m n).1.2 = [] := by
  unfold wopen
  split
  · rfl
  split
  · rfl
  split
  · unfold Log.behind
    have e : scan [] = ([], 0) := Solo.scan_nil
    rw [e]
    split
    · split <;> rfl
    · split <;> rfl
  · rfl
theorem sopen_none {m m' : M} {n : Int} {c : Nat} {s : Sta} (h : m.has n = false) (ho : sopen m n c = ((0, s), m')) : s = first c := by
  have hw := wopen_none h
  unfold sopen at ho
  split at ho
  · cases ho
  split at ho
  · rw [hw] at ho
    have h2 : said c [] = if right (first c) = true then some (first c) else none := rfl
    rw [h2] at ho
    split at ho
    · cases ho
    · rename_i x hx
      split at hx
      · cases hx; cases ho; rfl
      · cases hx
  · rename_i h1
    exact absurd (congrArg (fun z => z.1.1) ho) h1
end Go.Proofs.YtamncdpeklbhlaaGreatDoor.Two
