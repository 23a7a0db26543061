/- The statement StoreLasts of tontinelaw08, its second form, as a tied card: for every input the call returns true, and each argument reads afterwards as it read before (where the arguments hold together at most 1048576 values and letters); the variable tontine/crc.fours starts as the program's text lays it (the card ties it). -/
import Derived.Test.YtamncdpeklbhlaaGreatDoorGF
import Derived.BigRegion
import Derived.Test.YtamncdpeklbhlaaGreatDoorGE
import Derived.Test.YtamncdpeklbhlaaGreatDoorGT
import Derived.Deep.CutRange
import Derived.Deep.CutBlock
import Derived.Test.YtamncdpeklbhlaaGreatDoorCards
import Derived.Test.YtamncdpeklbhlaaGreatDoorTie
import Derived.WalkKit
import Derived.ProofKit
import Derived.OpenShut
import Derived.Deep.DeepHandedRow
set_option linter.unusedVariables false
set_option linter.unusedSimpArgs false
namespace Go.Proofs.YtamncdpeklbhlaaGreatDoor.LSaid
open Go.RowKit Go.Proofs.YtamncdpeklbhlaaGreatDoor.Kit Go.Proofs.YtamncdpeklbhlaaGreatDoor.Blocks Go.Proofs.YtamncdpeklbhlaaGreatDoor.Rlog Go.Proofs.YtamncdpeklbhlaaGreatDoor.Sto Go.Proofs.YtamncdpeklbhlaaGreatDoor.Sav Go.Proofs.YtamncdpeklbhlaaGreatDoor.Ents Go.Proofs.YtamncdpeklbhlaaGreatDoor.Hold Go.Proofs.YtamncdpeklbhlaaGreatDoor.RTake Go.Proofs.YtamncdpeklbhlaaGreatDoor.RRight Go.Proofs.YtamncdpeklbhlaaGreatDoor.RSaid Go.Proofs.YtamncdpeklbhlaaGreatDoor.ScA Go.Proofs.YtamncdpeklbhlaaGreatDoor.RRecs Go.Proofs.YtamncdpeklbhlaaGreatDoor.RAnew Go.Proofs.YtamncdpeklbhlaaGreatDoor.Chg Go.Proofs.YtamncdpeklbhlaaGreatDoor.RlgWalkC Go.Proofs.YtamncdpeklbhlaaGreatDoor.Anew
open Go.Proofs.YtamncdpeklbhlaaGreatDoor.PckWalkH (str)

/-- A slice of texts is appended to a row of records. -/
theorem wpList_texts {ops : Array Oper} {rest : List Oper} {o : Oper} {a : Act} {Q : Exit → Act → World → Prop} {w w0 : World} {L tl : List (List UInt8)} {A T : Option Addr} {c n tn tc D : Nat} (s y : Operand) (hgd : o.guard = none)
    (ho : o.op = .call { callee := .builtin .append, args := #[s, y], argTypes := #[68, 68] })
    (hn : Hid (L.length = n)) (hm : w.ownsRow w0.heap.size 9 1 (.slice A n c) n (strs L)) (hB : Below w0.heap.size w0 w) (hs : a.eval s = .slice A n c) (hy : a.eval y = .slice T tn tc) (hr : Hid (Reads w D 1 T tn (strs tl))) (htn : Hid (tl.length = tn)) (hb : n + tn ≤ 2000000)
    (h : ∀ A' c' w', Mid w0 (L ++ tl) (.slice A' (n + tn) c') w' → wpList Tryz.prog ops Q rest (a.put o.dst (.slice A' (n + tn) c')) w') : wpList Tryz.prog ops Q (o :: rest) a w := by
  obtain ⟨i0, hi0, hz0, hz1, hz2⟩ := info_parts info9
  refine wpList_append_any _ hgd s y _ ho w0.heap.size 9 i0 _ 1 16 Tryz.underlying68 hi0 hz0 hz1 hz2 rfl (by decide) _ n (strs L) hs hm
    D _ tn tc (strs tl) hy hr.out (strs_one tl) (by unfold maxLen; omega) (by omega) hB.size ?_
  intro v' w' hown hg hat
  obtain ⟨A', c', rfl, _, _, _⟩ := own_form hown
  refine h A' c' w' ⟨A', c', by rw [List.length_append, hn.out, htn.out], ?_, hB.grown hg hB.size (own_lt hm)⟩
  have e : (L ++ tl).length = n + tn := by rw [List.length_append, hn.out, htn.out]
  rw [e, strs_append]
  exact hown

set_option maxRecDepth 100000 in
set_option maxHeartbeats 8000000 in
theorem lsaid_any {w : World} (x : Sta) (hx : StaB x) (hls : ∀ e ∈ x.es, e.data.size ≤ 1000000000) (hdx : x.snap.data.size ≤ 1000000000) (Al : Option Addr) (nl cl : Nat) (hl : RE w w.heap.size Al nl x.es) (hnl : nl ≤ 500000) (T : Option Addr) (tn tc : Nat) (tl : List (List UInt8)) (htl : RS w T tn tl) (htn : tn ≤ 500000) (hxt : ∀ y ∈ tl, y.length ≤ 1000000100) :
    Calls Tryz.prog 26 #[staV x Al nl cl, .slice T tn tc] w (SaidR w (said 7 (allOf x ++ tl))) := by
  have hbA : Below w.heap.size w (w.alloc (.cells #[.int .u64 (x.term : Int), .int .i64 x.vote, .int .u64 (x.snap.idx : Int), .int .u64 (x.snap.term : Int), .int .u64 (x.snap.cfg : Int), .string x.snap.data, .slice Al nl cl] 53)) := (Below.refl _ _).alloc (Nat.le_refl _) _
  have hcb := heap_alloc_new w (.cells #[.int .u64 (x.term : Int), .int .i64 x.vote, .int .u64 (x.snap.idx : Int), .int .u64 (x.snap.term : Int), .int .u64 (x.snap.cfg : Int), .string x.snap.data, .slice Al nl cl] 53)
  obtain ⟨wA, hwA⟩ : ∃ wA, w.alloc (.cells #[.int .u64 (x.term : Int), .int .i64 x.vote, .int .u64 (x.snap.idx : Int), .int .u64 (x.snap.term : Int), .int .u64 (x.snap.cfg : Int), .string x.snap.data, .slice Al nl cl] 53) = wA := ⟨_, rfl⟩
  rw [hwA] at hbA hcb
  have hsA : wA.heap.size = w.heap.size + 1 := by rw [← hwA]; simp
  have hbB : Below wA.heap.size wA (wA.alloc (.cells #[.int .u64 0, .int .i64 0, .int .u64 0, .int .u64 0, .int .u64 0, .string ⟨#[]⟩, .slice none 0 0] 53)) := (Below.refl _ _).alloc (Nat.le_refl _) _
  have hcz := heap_alloc_new wA (.cells #[.int .u64 0, .int .i64 0, .int .u64 0, .int .u64 0, .int .u64 0, .string ⟨#[]⟩, .slice none 0 0] 53)
  obtain ⟨w0, hw0⟩ : ∃ w0, wA.alloc (.cells #[.int .u64 0, .int .i64 0, .int .u64 0, .int .u64 0, .int .u64 0, .string ⟨#[]⟩, .slice none 0 0] 53) = w0 := ⟨_, rfl⟩
  rw [hw0] at hbB hcz
  rw [hsA] at hcz
  have hba : Below w.heap.size w w0 := hbA.trans (hbB.mono hbA.size)
  have hcb0 := (hbB.block _ (lt_at hcb)).trans hcb
  obtain ⟨X1, hX1⟩ : ∃ Y, str (recHard x.term x.vote) = Y := ⟨_, rfl⟩
  obtain ⟨X2, hX2⟩ : ∃ Y, str (recSnap x.snap) = Y := ⟨_, rfl⟩
  have hr1 := fun W => rrec_hard x.term x.vote W hx.term hx.v0 hx.v1 (Lib.hid hX1)
  have hr2 := fun W => rrec_snap x.snap W hx.snap (by omega) (Lib.hid hX2)
  have hL0 : strs [recHard x.term x.vote, recSnap x.snap] = [.string X1, .string X2] := by rw [← hX1, ← hX2]; rfl
  have hall : allOf x = [recHard x.term x.vote, recSnap x.snap] ++ x.es.map recEnt := rfl
  have hxa : ∀ y ∈ allOf x, y.length ≤ 1000000100 := fun y hy => by
    unfold allOf at hy
    rcases List.mem_cons.1 hy with rfl | hy
    · have := hard_length (v := x.vote) hx.term; omega
    rcases List.mem_cons.1 hy with rfl | hy
    · have := snap_length hx.snap (by omega); omega
    · obtain ⟨e, he, rfl⟩ := List.mem_map.1 hy
      have := ent_length (hx.ents e he); have := hls e he; omega
  obtain ⟨L0, hL0e⟩ : ∃ L0, [recHard x.term x.vote, recSnap x.snap] = L0 := ⟨_, rfl⟩
  have hL0n : L0.length = 2 := by rw [← hL0e]; rfl
  rw [hL0e] at hL0 hall
  have hxe := hx.ents
  have hlen := RE.len hl
  have htlen := texts_len htl
  obtain ⟨AL, hAL⟩ : ∃ AL, allOf x = AL := ⟨_, rfl⟩
  rw [hAL] at hall hxa ⊢
  obtain ⟨R, hR⟩ : ∃ R, said 7 (AL ++ tl) = R := ⟨_, rfl⟩
  rw [hR]
  have HR := Lib.hid hR
  unfold staV
  obtain ⟨tm, vt, ⟨ix, st, cf, d⟩, es⟩ := x
  simp only at *
  have x0 : w0.cell? ⟨w.heap.size, 0, none⟩ = some (.int .u64 (tm : Int)) := by rw [cell_at hcb0]; rfl
  have x1 : w0.cell? ⟨w.heap.size, 1, none⟩ = some (.int .i64 vt) := by rw [cell_at hcb0]; rfl
  have x2 : w0.cell? ⟨w.heap.size, 2, none⟩ = some (.int .u64 (ix : Int)) := by rw [cell_at hcb0]; rfl
  have x3 : w0.cell? ⟨w.heap.size, 3, none⟩ = some (.int .u64 (st : Int)) := by rw [cell_at hcb0]; rfl
  have x4 : w0.cell? ⟨w.heap.size, 4, none⟩ = some (.int .u64 (cf : Int)) := by rw [cell_at hcb0]; rfl
  have x5 : w0.cell? ⟨w.heap.size, 5, none⟩ = some (.string d) := by rw [cell_at hcb0]; rfl
  have x6 : w0.cell? ⟨w.heap.size, 6, none⟩ = some (.slice Al nl cl) := by rw [cell_at hcb0]; rfl
  have hltb := lt_at hcb0
  have HWA := Lib.hid hwA
  have HW0 := Lib.hid hw0
  have HBA := Lib.hid hba
  have HZ := Lib.hid hcz
  have HR1 := Lib.hid hr1
  have HR2 := Lib.hid hr2
  have HL0 := Lib.hid hL0
  have HALL := Lib.hid hall
  have HL0N := Lib.hid hL0n
  have HL := Lib.hid hl
  have HLN := Lib.hid hlen
  have HLS := Lib.hid hls
  have HXE := Lib.hid hxe
  have HTL := Lib.hid htl
  have HTN := Lib.hid htlen
  have HXT := Lib.hid hxt
  have HXA := Lib.hid hxa
  clear hwA hw0 hba hbA hbB hcb hcb0 hcz hr1 hr2 hL0 hall hL0e hL0n hl hlen hls hxe hX1 hX2 hx hdx htl htlen hxt hxa hAL hR
  go_enter Tryz.func26, Tryz.ntmps26
  go_wp2_with fail
  rw [HWA.out, HW0.out]
  go_region_held3 (fun w' => w'.cell? ⟨w.heap.size, 0, none⟩ = some (.int .u64 (tm : Int)) ∧ w'.cell? ⟨w.heap.size, 1, none⟩ = some (.int .i64 vt) ∧ w'.cell? ⟨w.heap.size, 2, none⟩ = some (.int .u64 (ix : Int)) ∧ w'.cell? ⟨w.heap.size, 3, none⟩ = some (.int .u64 (st : Int)) ∧ w'.cell? ⟨w.heap.size, 4, none⟩ = some (.int .u64 (cf : Int)) ∧ w'.cell? ⟨w.heap.size, 5, none⟩ = some (.string d))
    (first
      | exact ⟨x0, x1, x2, x3, x4, x5⟩
      | exact ⟨Anew.Below.bx (hB3.alloc hB3.size _) x0 hltb, Anew.Below.bx (hB3.alloc hB3.size _) x1 hltb, Anew.Below.bx (hB3.alloc hB3.size _) x2 hltb, Anew.Below.bx (hB3.alloc hB3.size _) x3 hltb, Anew.Below.bx (hB3.alloc hB3.size _) x4 hltb, Anew.Below.bx (hB3.alloc hB3.size _) x5 hltb⟩
      | exact ⟨Anew.Below.bx (hB2.alloc hB2.size _) x0 hltb, Anew.Below.bx (hB2.alloc hB2.size _) x1 hltb, Anew.Below.bx (hB2.alloc hB2.size _) x2 hltb, Anew.Below.bx (hB2.alloc hB2.size _) x3 hltb, Anew.Below.bx (hB2.alloc hB2.size _) x4 hltb, Anew.Below.bx (hB2.alloc hB2.size _) x5 hltb⟩
      | exact ⟨Anew.Below.bx hB3 x0 hltb, Anew.Below.bx hB3 x1 hltb, Anew.Below.bx hB3 x2 hltb, Anew.Below.bx hB3 x3 hltb, Anew.Below.bx hB3 x4 hltb, Anew.Below.bx hB3 x5 hltb⟩
      | exact ⟨Anew.Below.bx hB2 x0 hltb, Anew.Below.bx hB2 x1 hltb, Anew.Below.bx hB2 x2 hltb, Anew.Below.bx hB2 x3 hltb, Anew.Below.bx hB2 x4 hltb, Anew.Below.bx hB2 x5 hltb⟩)
    (first
      | (go_at_call 42
         (with_reducible refine (HR1.out _).mono ?_)
         rintro e w2 ⟨rfl, hb2⟩
         have hB2 : Below w0.heap.size w0 w2 := by first | exact ((Below.refl _ _).drew).trans hb2 | exact hB3.trans (hb2.mono hB3.size))
      | (go_at_call 43
         (with_reducible refine (HR2.out _).mono ?_)
         rintro e w3 ⟨rfl, hb3⟩
         have hB3 : Below w0.heap.size w0 w3 := by first | exact ((Below.refl _ _).drew).trans hb3 | exact hB2.trans (hb3.mono hB2.size)))
  have hB4 : Below w0.heap.size w0 (w3.alloc (.cells #[.string X1, .string X2] 9)) := hB3.alloc hB3.size _
  have hrow0 : (w3.alloc (.cells #[.string X1, .string X2] 9)).ownsRow w0.heap.size 9 1 (.slice (some ⟨w3.heap.size, 0, none⟩) 2 2) 2 [.string X1, .string X2] := own_two w3 X1 X2 hB3.size
  obtain ⟨w4, hw4⟩ : ∃ w4, w3.alloc (.cells #[.string X1, .string X2] 9) = w4 := ⟨_, rfl⟩
  rw [hw4] at hB4 hrow0
  rw [hw4]
  have z6 := Anew.Below.bx hB4 x6 hltb
  have hmid0 : Mid w0 L0 (.slice (some ⟨w3.heap.size, 0, none⟩) 2 2) w4 := ⟨_, 2, by rw [HL0N.out], by rw [HL0N.out, HL0.out]; exact hrow0, hB4⟩
  have HM0 := Lib.hid hmid0
  have hlt4 : w.heap.size < w4.heap.size := Nat.lt_of_lt_of_le hltb hB4.size
  clear hrow0 hmid0 hw4 hB2 hB3 hb2 hb3 x0 x1 x2 x3 x4 x5 x6
  go_wp2_with fail
  go_loopw [6, 19] (fun v i wr => ∃ j : Nat, j ≤ nl ∧ i = .int .i64 (j : Int) ∧ Mid w0 (L0 ++ (es.take j).map recEnt) v wr) (fun _ i _ => nl - (intOf i).toNat)
  case atStart => exact ⟨0, Nat.zero_le _, rfl, by rw [List.take_zero, List.map_nil, List.append_nil]; exact HM0.out⟩
  case round =>
    obtain ⟨j, hj, rfl, hmid⟩ := hrel
    obtain ⟨A2, c2, rfl, hrow2, hB2⟩ := hmid
    obtain ⟨n2, hn2⟩ : ∃ n2, (L0 ++ (es.take j).map recEnt).length = n2 := ⟨_, rfl⟩
    have hn2b : n2 ≤ 500002 := by
      rw [← hn2, List.length_append, List.length_map, List.length_take, HL0N.out]
      omega
    rw [hn2] at hrow2 ⊢
    have HN2 := Lib.hid hn2
    have hsz2 := hB2.size
    have hb3 := HBA.out.trans (hB2.mono HBA.out.size)
    by_cases hjn : j < nl
    · obtain ⟨bl, ol, y, rfl, hbl, hy, hf⟩ := RE.at_ HL.out hjn
      have hfr := Four.below hf hb3 hbl
      have e0 := hfr.c0
      have e1 := hfr.c1
      have e2 := hfr.c2
      have e3 := hfr.c3
      have hym := List.mem_of_getElem? hy
      obtain ⟨Y, hY⟩ : ∃ Y, str (recEnt y) = Y := ⟨_, rfl⟩
      have HY := Lib.hid hY
      have hrec := fun W => rrec_ent y W (HXE.out y hym) (HLS.out y hym) HY
      have HSN := Lib.hid (map_snoc hy)
      have hba2 : Below wr.heap.size wr (wr.alloc (.cells #[.int .u64 (y.term : Int), .int .u64 (y.idx : Int), .int .i64 y.kind, .string y.data] 83)) := (Below.refl _ _).alloc (Nat.le_refl _) _
      have hR2 := own_below hrow2 hba2
      have hB3 := hB2.trans (hba2.mono hsz2)
      obtain ⟨tm', ix', kd', d'⟩ := y
      simp only at *
      have HRec := Lib.hid hrec
      clear hrec hY hym hy hf hfr hn2 hrow2
      go_wp2_with fail
      refine (HRec.out _).mono ?_
      rintro e w5 ⟨rfl, hb5⟩
      have hR3 := own_below hR2 hb5
      have hB5 := hB3.trans (hb5.mono hB3.size)
      go_wp2_with
        (at_builtin
         refine wpList_rec (.tmp 23) (.tmp 26) rfl rfl rfl HN2 hR3 hB5 rfl rfl HY (by omega) ?_
         intro A3 c3 w6 hm6)
      go_roundw
      case rel => exact ⟨j + 1, by omega, by go_num, by rw [HSN.out, ← List.append_assoc]; exact hm6⟩
      case measure => simp [intOf]; omega
    · obtain rfl : j = nl := by omega
      have hall : es.take j = es := List.take_of_length_le (by rw [HLN.out]; exact Nat.le_refl _)
      rw [hall, ← HALL.out] at hrow2 HN2
      have htr : Hid (Reads wr w.heap.size 1 T tn (strs tl)) := Kit.Reads.below HTL.out hb3
      have hczr := (hB2.block _ (by have := lt_at HZ.out; omega)).trans HZ.out
      have HZR := Lib.hid hczr
      clear hall hn2 hczr
      go_wp2_with
        (at_builtin
         refine wpList_texts (.tmp 29) (.tmp 30) rfl rfl HN2 hrow2 hB2 rfl rfl htr HTN (by omega) ?_
         intro A5 c5 w5 hm5)
      obtain ⟨A6, c6, he6, hrow6, hB6⟩ := hm5
      simp only [Value.slice.injEq] at he6
      obtain ⟨rfl, hlen6, rfl⟩ := he6
      have hrs6 := Reads.of_own hrow6
      rw [← hlen6] at hrs6
      have hsd := rsaid_any 7 (by decide) A5 (n2 + tn) c5 (AL ++ tl) w5 hrs6 (by omega) (fun y hy => by
        rcases List.mem_append.1 hy with h | h
        · have := HXA.out y h; omega
        · have := HXT.out y h; omega)
      rw [HR.out] at hsd
      have HSD := Lib.hid hsd
      have hz5 := (hB6.block _ (by have := lt_at HZ.out; omega)).trans HZ.out
      have HZ5 := Lib.hid hz5
      clear hsd hrs6 hrow6 hz5
      go_wp2_with fail
      refine HSD.out.mono ?_
      rintro e w7 ⟨s7, A7, c7, rfl, hs7, hre7, hb7, hkin7⟩
      have hz7 := (hb7.block _ (lt_at HZ5.out)).trans HZ5.out
      have z0 : w7.cell? ⟨w.heap.size + 1, 0, none⟩ = some (.int .u64 0) := by rw [cell_at hz7]; rfl
      have z1 : w7.cell? ⟨w.heap.size + 1, 1, none⟩ = some (.int .i64 0) := by rw [cell_at hz7]; rfl
      have z2 : w7.cell? ⟨w.heap.size + 1, 2, none⟩ = some (.int .u64 0) := by rw [cell_at hz7]; rfl
      have z3 : w7.cell? ⟨w.heap.size + 1, 3, none⟩ = some (.int .u64 0) := by rw [cell_at hz7]; rfl
      have z4 : w7.cell? ⟨w.heap.size + 1, 4, none⟩ = some (.int .u64 0) := by rw [cell_at hz7]; rfl
      have z5 : w7.cell? ⟨w.heap.size + 1, 5, none⟩ = some (.string ⟨#[]⟩) := by rw [cell_at hz7]; rfl
      have z6 : w7.cell? ⟨w.heap.size + 1, 6, none⟩ = some (.slice none 0 0) := by rw [cell_at hz7]; rfl
      have fz := fun i => free_at hz7 i
      have hltz := lt_at hz7
      obtain ⟨hn, ho⟩ := Few.set7 hz7 rfl (.int .u64 (s7.term : Int)) (.int .i64 s7.vote) (.int .u64 (s7.snap.idx : Int)) (.int .u64 (s7.snap.term : Int)) (.int .u64 (s7.snap.cfg : Int)) (.string s7.snap.data) (.slice A7 s7.es.length c7)
      have HNN := Lib.hid hn
      have HOO := Lib.hid ho
      have HS7 := Lib.hid hs7
      clear hz7 hn ho hs7
      unfold staV
      go_wp2_with fail
      refine bodyPost_ret (results_ct (p := 4) (u := 5) (ty := 53) rfl _ _ (w.heap.size + 1) 53 _ (0, 0) _ rfl HNN.out Tryz.underlying53 rfl (by kernel_rfl)) rfl ?_
      have hneA : 0 < s7.es.length → ∀ ad, A7 = some ad → ad.block ≠ w.heap.size + 1 := fun _ ad e => by
        rcases hkin7 ad e with ⟨h, _⟩ | h
        · cases h
        · have := hB6.size; have := lt_at HZ.out; omega
      have hB7 := hB6.trans (hb7.mono hB6.size)
      have hos := HOO.out.size
      refine ⟨s7, A7, c7, rfl, HS7.out, (re_only hre7 HOO.out (Nat.le_refl _) hneA).more HOO.out.size, (HBA.out.trans (hB7.mono HBA.out.size)).trans (HOO.out.below (by have := hB7.size; have := HBA.out.size; omega) fun q hq => by omega), hkin7.mono (by have := hB6.size; have := HBA.out.size; omega) HOO.out.size⟩
end Go.Proofs.YtamncdpeklbhlaaGreatDoor.LSaid
set_option linter.unusedVariables false
set_option linter.unusedSimpArgs false
namespace Go.Proofs.YtamncdpeklbhlaaGreatDoor.LawF
open Go.RowKit Go.Proofs.YtamncdpeklbhlaaGreatDoor.Kit Go.Proofs.YtamncdpeklbhlaaGreatDoor.Blocks Go.Proofs.YtamncdpeklbhlaaGreatDoor.Rlog Go.Proofs.YtamncdpeklbhlaaGreatDoor.Sto Go.Proofs.YtamncdpeklbhlaaGreatDoor.Sav Go.Proofs.YtamncdpeklbhlaaGreatDoor.Ents Go.Proofs.YtamncdpeklbhlaaGreatDoor.Hold Go.Proofs.YtamncdpeklbhlaaGreatDoor.Del Go.Proofs.YtamncdpeklbhlaaGreatDoor.Save Go.Proofs.YtamncdpeklbhlaaGreatDoor.Anew Go.Proofs.YtamncdpeklbhlaaGreatDoor.Ahe Go.Proofs.YtamncdpeklbhlaaGreatDoor.Open Go.Proofs.YtamncdpeklbhlaaGreatDoor.RTake Go.Proofs.YtamncdpeklbhlaaGreatDoor.RSaid Go.Proofs.YtamncdpeklbhlaaGreatDoor.RSame Go.Proofs.YtamncdpeklbhlaaGreatDoor.RRecs Go.Proofs.YtamncdpeklbhlaaGreatDoor.RAnew Go.Proofs.YtamncdpeklbhlaaGreatDoor.LSaid Go.Proofs.YtamncdpeklbhlaaGreatDoor.Two Go.Proofs.YtamncdpeklbhlaaGreatDoor.Bgn Go.Proofs.YtamncdpeklbhlaaGreatDoor.Model Go.Proofs.YtamncdpeklbhlaaGreatDoor.Ops Go.Proofs.YtamncdpeklbhlaaGreatDoor.ScA Go.Proofs.YtamncdpeklbhlaaGreatDoor.FrA Go.Proofs.YtamncdpeklbhlaaGreatDoor.SumB Go.Proofs.YtamncdpeklbhlaaGreatDoor.Wal Go.Proofs.YtamncdpeklbhlaaGreatDoor.Solo Go.Proofs.YtamncdpeklbhlaaGreatDoor.Sol Go.Proofs.YtamncdpeklbhlaaGreatDoor.Cals Go.Proofs.YtamncdpeklbhlaaGreatDoor.Light Go.Proofs.YtamncdpeklbhlaaGreatDoor.Lit Go.Proofs.YtamncdpeklbhlaaGreatDoor.LitF
open Go.Proofs.YtamncdpeklbhlaaGreatDoor.DskWalkJ (crash_any inums)
open Go.Proofs.YtamncdpeklbhlaaGreatDoor.Log (LogAt)

/-- States one behind the other, as cells. -/
def mcells (l : List (Sta × (Option Addr × Nat))) : List Value := l.flatMap fun e => [.int .u64 (e.1.term : Int), .int .i64 e.1.vote, .int .u64 (e.1.snap.idx : Int), .int .u64 (e.1.snap.term : Int), .int .u64 (e.1.snap.cfg : Int), .string e.1.snap.data, .slice e.2.1 e.1.es.length e.2.2]
theorem mcells_append (a b : List (Sta × (Option Addr × Nat))) : mcells (a ++ b) = mcells a ++ mcells b := by simp [mcells]
theorem mcells_length (l : List (Sta × (Option Addr × Nat))) : (mcells l).length = l.length * 7 := by
  induction l with
  | nil => rfl
  | cons e l ih =>
    have : mcells (e :: l) = [.int .u64 (e.1.term : Int), .int .i64 e.1.vote, .int .u64 (e.1.snap.idx : Int), .int .u64 (e.1.snap.term : Int), .int .u64 (e.1.snap.cfg : Int), .string e.1.snap.data, .slice e.2.1 e.1.es.length e.2.2] ++ mcells l := rfl
    rw [this, List.length_append, ih]
    simp
    omega
theorem mcells_one (l : List (Sta × (Option Addr × Nat))) : ∀ u ∈ mcells l, u.oneCell' = true := by
  intro u hu
  obtain ⟨e, _, he⟩ := List.mem_flatMap.1 hu
  simp only [List.mem_cons, List.not_mem_nil, or_false] at he
  rcases he with rfl | rfl | rfl | rfl | rfl | rfl | rfl <;> rfl
theorem mcells_get (l : List (Sta × (Option Addr × Nat))) (k j : Nat) (e : Sta × (Option Addr × Nat)) (h : l[k]? = some e) (hj : j < 7) : (mcells l)[k * 7 + j]? = [.int .u64 (e.1.term : Int), .int .i64 e.1.vote, .int .u64 (e.1.snap.idx : Int), .int .u64 (e.1.snap.term : Int), .int .u64 (e.1.snap.cfg : Int), .string e.1.snap.data, .slice e.2.1 e.1.es.length e.2.2][j]? := by
  induction l generalizing k with
  | nil => cases h
  | cons x l ih =>
    have e1 : mcells (x :: l) = [.int .u64 (x.1.term : Int), .int .i64 x.1.vote, .int .u64 (x.1.snap.idx : Int), .int .u64 (x.1.snap.term : Int), .int .u64 (x.1.snap.cfg : Int), .string x.1.snap.data, .slice x.2.1 x.1.es.length x.2.2] ++ mcells l := rfl
    rw [e1]
    cases k with
    | zero =>
      simp only [List.getElem?_cons_zero, Option.some.injEq] at h
      subst h
      rw [List.getElem?_append_left (by simp; omega), Nat.zero_mul, Nat.zero_add]
    | succ k =>
      rw [List.getElem?_append_right (by simp; omega)]
      have : (k + 1) * 7 + j - 7 = k * 7 + j := by omega
      simp only [List.length_cons, List.length_nil, Nat.zero_add]
      rw [show (k + 1) * 7 + j - (6 + 1) = k * 7 + j by omega]
      exact ih k (by simpa using h)
/-- The slice v holds these states. -/
def May (W : World) (v : Value) (l : List (Sta × (Option Addr × Nat))) : Prop := ∃ A c, v = .slice A l.length c ∧ Reads W W.heap.size 7 A l.length (mcells l) ∧ ∀ e ∈ l, RE W W.heap.size e.2.1 e.1.es.length e.1.es
theorem May.below {W W' : World} {v : Value} {l : List (Sta × (Option Addr × Nat))} (h : May W v l) (k : Below W.heap.size W W') : May W' v l := by
  obtain ⟨A, c, he, h1, h2⟩ := h
  exact ⟨A, c, he, (Kit.Reads.below h1 k).more k.size, fun e he => (Kit.Reads.below (h2 e he) k).more k.size⟩
/-- What stands where the calls are over: a disk, what it says behind a crash, and the states that may be. -/
def After (B p : Nat) (keep : Int) (w W : World) (v : Value) : Prop := Below B w W ∧ ∃ (N : Nat) (L : List Nat) (m : M) (y : Sta) (l : List (Sta × (Option Addr × Nat))), Has B L W p N m ∧ N ≤ 1000 ∧ Says m keep y ∧ May W v l ∧ (∃ e ∈ l, e.1 = y) ∧ (l.length ≤ 1000 ∧ ∀ e ∈ l, e.1.es.length ≤ 100000)
/-- What stands between two calls. -/
def Going (B : Nat) (L : List Cal) (t b p k : Nat) (wr : World) (v : Value) : Prop := ∃ (N : Nat) (m : M) (s : Sta) (A : Option Addr) (c ym : Nat) (f : Int) (X L' : List Nat) (u : Value),
  v = .slice (some ⟨ym, 0, none⟩) 1 1 ∧ SAt B X wr t b p N 0 m s L' u ∧ FitF f m s (total (L.take k)) ∧ N ≤ 2 + 2 * k ∧ ym ∈ X ∧ wr.heap[ym]? = some (.cells #[.int .u64 (s.term : Int), .int .i64 s.vote, .int .u64 (s.snap.idx : Int), .int .u64 (s.snap.term : Int), .int .u64 (s.snap.cfg : Int), .string s.snap.data, .slice A s.es.length c] 53 (0, 0)) ∧ RE wr wr.heap.size A s.es.length s.es ∧ Out B X A s.es.length ∧ (0 < s.es.length → ∀ ad, A = some ad → ad.block ≠ ym) ∧ B ≤ ym
theorem Going.below {B : Nat} {L : List Cal} {t b p k : Nat} {w w' : World} {v : Value} (h : Going B L t b p k w v) (hb : Below w.heap.size w w') : Going B L t b p k w' v := by
  obtain ⟨N, m, s, A, c, ym, f, X, L', u, h1, h2, h3, h4, h5, h6, h7, h8⟩ := h
  exact ⟨N, m, s, A, c, ym, f, X, L', u, h1, h2.below hb, h3, h4, h5, (hb.block _ (lt_at h6)).trans h6, (Kit.Reads.below h7 hb).more hb.size, h8⟩
/-- A crash, of which the new disk lies behind all there was. -/
theorem crash_low {B : Nat} {L : List Nat} {w : World} {p N : Nat} {m : M} (KA : Option Addr) (kn kc : Nat) (keep : List Int) (h : Has B L w p N m) (hk : Reads w w.heap.size 1 KA kn (inums keep)) :
    Calls Tryz.prog 27 #[.pointer (some ⟨p, 0, none⟩), .slice KA kn kc] w fun e w' => ∃ p', e = .returned (.pointer (some ⟨p', 0, none⟩)) ∧ Has w.heap.size [] w' p' 16 (m.crash keep) ∧ Below w.heap.size w w' := by
  obtain ⟨A, c, mb, x, hD, hF⟩ := h.disk
  refine (crash_any KA kn kc keep hD h.fine hk).mono ?_
  rintro e w' ⟨rfl, hf⟩
  obtain ⟨h1, h2⟩ := first_has (Nat.le_refl _) (h.fine.crash keep) hf
  exact ⟨_, rfl, h1, h2⟩
/-- One state, in a block. -/
theorem may_one {W : World} {ym : Nat} {s : Sta} {A : Option Addr} {c : Nat} (h : W.heap[ym]? = some (.cells #[.int .u64 (s.term : Int), .int .i64 s.vote, .int .u64 (s.snap.idx : Int), .int .u64 (s.snap.term : Int), .int .u64 (s.snap.cfg : Int), .string s.snap.data, .slice A s.es.length c] 53 (0, 0))) (hre : RE W W.heap.size A s.es.length s.es) : May W (.slice (some ⟨ym, 0, none⟩) 1 1) [(s, (A, c))] := by
  refine ⟨_, 1, rfl, ⟨by rw [mcells_length], fun _ => ⟨_, rfl, lt_at h, fun i u hi => ?_⟩⟩, fun e he => ?_⟩
  · rw [Addr.add_lit, Nat.zero_add, cell_at h]
    simpa [mcells] using hi
  · simp only [List.mem_singleton] at he
    subst he
    exact hre
theorem Out.mono {B n : Nat} {X X' : List Nat} {A : Option Addr} (h : Out B X A n) (hX : ∀ x ∈ X, x ∈ X') : Out B X' A n := fun hn ad e => (h hn ad e).imp id (hX _)
/-- A call was refused. -/
theorem going_keep {B : Nat} {L : List Cal} {t b p k N : Nat} {w w' : World} {m : M} {s : Sta} {A : Option Addr} {c ym : Nat} {f : Int} {X X' L' : List Nat} {u : Value} (hS : SAt B X' w' t b p N 0 m s L' u) (hk : Keeps B X' w w') (hX : ∀ x ∈ X, x ∈ X') (hB : B ≤ w.heap.size) (hym : w.heap[ym]? = some (.cells #[.int .u64 (s.term : Int), .int .i64 s.vote, .int .u64 (s.snap.idx : Int), .int .u64 (s.snap.term : Int), .int .u64 (s.snap.cfg : Int), .string s.snap.data, .slice A s.es.length c] 53 (0, 0))) (hre : RE w w.heap.size A s.es.length s.es) (hout : Out B X A s.es.length) (hne : 0 < s.es.length → ∀ ad, A = some ad → ad.block ≠ ym) (hymX : ym ∈ X) (hBym : B ≤ ym) (hF : FitF f m s (total (L.take (k + 1)))) (hN : N ≤ 2 + 2 * (k + 1)) :
    Going B L t b p (k + 1) w' (.slice (some ⟨ym, 0, none⟩) 1 1) :=
  ⟨N, m, s, A, c, ym, f, X', L', u, rfl, hS, hF, hN, hX _ hymX, hk.heap hym (.inr (hX _ hymX)), (re_keep hre (Out.mono hout hX) hk (Nat.le_refl _) fun q hq => hq).more hk.size, Out.mono hout hX, hne, hBym⟩
/-- A new state alone may be. -/
theorem going_new {B : Nat} {L : List Cal} {t b p k N : Nat} {w : World} {m : M} {s : Sta} {A : Option Addr} {c : Nat} {f : Int} {X L' : List Nat} {u : Value} (hS : SAt B X w t b p N 0 m s L' u) (hre : RE w w.heap.size A s.es.length s.es) (hout : Out B X A s.es.length) (hF : FitF f m s (total (L.take (k + 1)))) (hN : N ≤ 2 + 2 * (k + 1)) :
    Going B L t b p (k + 1) (w.alloc (.cells #[.int .u64 (s.term : Int), .int .i64 s.vote, .int .u64 (s.snap.idx : Int), .int .u64 (s.snap.term : Int), .int .u64 (s.snap.cfg : Int), .string s.snap.data, .slice A s.es.length c] 53)) (.slice (some ⟨w.heap.size, 0, none⟩) 1 1) := by
  have l := (Below.refl w.heap.size w).alloc (Nat.le_refl _) (.cells #[.int .u64 (s.term : Int), .int .i64 s.vote, .int .u64 (s.snap.idx : Int), .int .u64 (s.snap.term : Int), .int .u64 (s.snap.cfg : Int), .string s.snap.data, .slice A s.es.length c] 53)
  have h := heap_alloc_new w (.cells #[.int .u64 (s.term : Int), .int .i64 s.vote, .int .u64 (s.snap.idx : Int), .int .u64 (s.snap.term : Int), .int .u64 (s.snap.cfg : Int), .string s.snap.data, .slice A s.es.length c] 53)
  exact ⟨N, m, s, A, c, w.heap.size, f, w.heap.size :: X, _, u, rfl, hS.beside l (Nat.le_refl _) (lt_at h), hF, hN, by simp, h, (Kit.Reads.below hre l).more l.size, Out.mono hout fun x hx => List.mem_cons_of_mem _ hx, fun hn ad e => by have := RE.blk hre hn ad e; omega, hS.base⟩
/-- The entries that came behind are kept apart, too. -/
theorem apart {B : Nat} {t b p N : Nat} {w w' : World} {n : Int} {m : M} {s : Sta} {A A' : Option Addr} {l l' : List Ent} {X L' : List Nat} {u : Value} (hS : SAt B X w t b p N n m s L' u) (hb : Below w.heap.size w w') (hout : Out B X A l.length) (hkin : Kin w w' A l A' l') : ∃ X2 L2, SAt B X2 w' t b p N n m s L2 u ∧ Out B X2 A' l'.length ∧ ∀ x ∈ X, x ∈ X2 := by
  by_cases hnew : ∃ ad, A' = some ad ∧ (w.heap.size ≤ ad.block ∧ ad.block < w'.heap.size)
  · obtain ⟨ad, rfl, h0, h1⟩ := hnew
    exact ⟨_, _, hS.beside hb h0 h1, (fun _ ad' e => by cases e; exact .inr (by simp)), fun x hx => List.mem_cons_of_mem _ hx⟩
  · refine ⟨X, L', hS.below hb, fun hn ad e => ?_, fun x hx => hx⟩
    rcases hkin ad e with ⟨h, he⟩ | h
    · exact hout (by rw [← he]; exact hn) ad h
    · exact absurd ⟨ad, e, h⟩ hnew
/-- The states that may be, under way, behind a Save that the disk broke off. -/
def MidS (B t b p N : Nat) (m : M) (s : Sta) (A : Option Addr) (c : Nat) (blk : Nat) (O : Option Addr) (on : Nat) (OUT : List (List UInt8)) (u : Value) (W : World) (j : Nat) (v : Value) : Prop :=
  ∃ (l : List (Sta × (Option Addr × Nat))) (X L' : List Nat) (Av : Option Addr) (cv : Nat), v = .slice Av l.length cv ∧ W.ownsRow B 53 7 (.slice Av l.length cv) l.length (mcells l) ∧ SAt B X W t b p N 0 m s L' u ∧
    (∀ g, (Value.slice Av l.length cv).ownBlock = some g → g ∈ X ∧ g ≠ blk ∧ ∀ ad, O = some ad → ad.block ≠ g) ∧ W.heap[blk]? = some (.cells #[.int .u64 (s.term : Int), .int .i64 s.vote, .int .u64 (s.snap.idx : Int), .int .u64 (s.snap.term : Int), .int .u64 (s.snap.cfg : Int), .string s.snap.data, .slice A s.es.length c] 53 (0, 0)) ∧ (RS W O on OUT ∧ ∀ ad, O = some ad → ad.block < W.heap.size) ∧
    (∀ e ∈ l, RE W W.heap.size e.2.1 e.1.es.length e.1.es) ∧ (∀ e ∈ l, 0 < e.1.es.length → ∀ ad, e.2.1 = some ad → (Value.slice Av l.length cv).ownBlock ≠ some ad.block) ∧
    (s, (A, c)) ∈ l ∧ (∀ jj < j, ∃ e ∈ l, makes s (OUT.take (jj + 1)) = some e.1) ∧ l.length = j + 1 ∧ (∀ e ∈ l, e.1.es.length ≤ 100000)
theorem rs_only {S : Nat → Prop} {w w' : World} {n : Nat} {A : Option Addr} {l : List (List UInt8)} (hr : RS w A n l) (k : Only S w w') (h : ∀ ad, A = some ad → ¬ S ad.block) : RS w' A n l := RSave.rs_only hr k h
theorem MidS.below {B t b p N : Nat} {m : M} {s : Sta} {A : Option Addr} {c blk : Nat} {O : Option Addr} {on : Nat} {OUT : List (List UInt8)} {u : Value} {W W' : World} {j : Nat} {v : Value} (h : MidS B t b p N m s A c blk O on OUT u W j v) (k : Below W.heap.size W W') : MidS B t b p N m s A c blk O on OUT u W' j v := by
  obtain ⟨l, X, L', Av, cv, h1, h2, h3, h4, h5, h6, h7, h8⟩ := h
  exact ⟨l, X, L', Av, cv, h1, (Only.of_below (S := fun _ => False) k).own h2 (fun _ _ e => e), h3.below k, h4, (k.block _ (lt_at h5)).trans h5, ⟨(Kit.Reads.below h6.1 k).more k.size, fun ad e => Nat.lt_of_lt_of_le (h6.2 ad e) k.size⟩, fun e he => (Kit.Reads.below (h7 e he) k).more k.size, h8⟩
/-- One state more may be. -/
theorem mid_next {B t b p N : Nat} {m : M} {s : Sta} {A : Option Addr} {c blk : Nat} {O : Option Addr} {on : Nat} {OUT : List (List UInt8)} {u : Value} {W W' : World} {j : Nat} {l : List (Sta × (Option Addr × Nat))} {X L' : List Nat} {Av A' : Option Addr} {cv c' : Nat} {y5 : Sta} {A5 : Option Addr} {c5 : Nat}
    (h3 : SAt B X W t b p N 0 m s L' u) (h4 : ∀ g, (Value.slice Av l.length cv).ownBlock = some g → g ∈ X ∧ g ≠ blk ∧ ∀ ad, O = some ad → ad.block ≠ g) (h5 : W.heap[blk]? = some (.cells #[.int .u64 (s.term : Int), .int .i64 s.vote, .int .u64 (s.snap.idx : Int), .int .u64 (s.snap.term : Int), .int .u64 (s.snap.cfg : Int), .string s.snap.data, .slice A s.es.length c] 53 (0, 0))) (h6 : RS W O on OUT ∧ ∀ ad, O = some ad → ad.block < W.heap.size)
    (h7 : ∀ e ∈ l, RE W W.heap.size e.2.1 e.1.es.length e.1.es) (h8 : ∀ e ∈ l, 0 < e.1.es.length → ∀ ad, e.2.1 = some ad → (Value.slice Av l.length cv).ownBlock ≠ some ad.block) (h9 : (s, (A, c)) ∈ l) (h10 : ∀ jj < j, ∃ e ∈ l, makes s (OUT.take (jj + 1)) = some e.1) (h11 : l.length = j + 1) (h12 : ∀ e ∈ l, e.1.es.length ≤ 100000)
    (hown : W'.ownsRow B 53 7 (.slice A' (l.length + 1) c') (l.length + 1) (mcells (l ++ [(y5, (A5, c5))]))) (hk : Only (fun z => (Value.slice Av l.length cv).ownBlock = some z) W W') (hat : (Value.slice A' (l.length + 1) c').ownBlock = (Value.slice Av l.length cv).ownBlock ∨ (Value.slice A' (l.length + 1) c').ownBlock = some (W.heap.size + 1))
    (hre5 : RE W W.heap.size A5 y5.es.length y5.es) (hne5 : 0 < y5.es.length → ∀ ad, A5 = some ad → (Value.slice Av l.length cv).ownBlock ≠ some ad.block) (hm5 : makes s (OUT.take (j + 1)) = some y5) (hy5 : y5.es.length ≤ 100000) :
    MidS B t b p N m s A c blk O on OUT u W' (j + 1) (.slice A' (l.length + 1) c') := by
  have hlen : (l ++ [(y5, (A5, c5))]).length = l.length + 1 := by simp
  have hS : ∀ z, (Value.slice Av l.length cv).ownBlock = some z → z ∈ X ∨ W.heap.size ≤ z := fun z hz => .inl (h4 z hz).1
  have hREs : ∀ e ∈ l ++ [(y5, (A5, c5))], RE W W.heap.size e.2.1 e.1.es.length e.1.es ∧ (0 < e.1.es.length → ∀ ad, e.2.1 = some ad → (Value.slice Av l.length cv).ownBlock ≠ some ad.block) := fun e he => by
    rcases List.mem_append.1 he with he | he
    · exact ⟨h7 e he, h8 e he⟩
    · simp only [List.mem_singleton] at he
      subst he
      exact ⟨hre5, hne5⟩
  have hfin : ∀ X2 L2, SAt B X2 W' t b p N 0 m s L2 u → (∀ g, (Value.slice A' (l.length + 1) c').ownBlock = some g → g ∈ X2 ∧ g ≠ blk ∧ ∀ ad, O = some ad → ad.block ≠ g) → (∀ e ∈ l ++ [(y5, (A5, c5))], 0 < e.1.es.length → ∀ ad, e.2.1 = some ad → (Value.slice A' (l.length + 1) c').ownBlock ≠ some ad.block) → MidS B t b p N m s A c blk O on OUT u W' (j + 1) (.slice A' (l.length + 1) c') := fun X2 L2 g3 g4 g8 => by
    refine ⟨l ++ [(y5, (A5, c5))], X2, L2, A', c', by rw [hlen], by rw [hlen]; exact hown, g3, by rw [hlen]; exact g4, hk.heap h5 (fun e => (h4 _ e).2.1 rfl), ⟨rs_only h6.1 hk fun ad e e' => (h4 _ e').2.2 ad e rfl, fun ad e => Nat.lt_of_lt_of_le (h6.2 ad e) hk.size⟩, fun e he => (re_only (hREs e he).1 hk (Nat.le_refl _) fun hn ad ha => (hREs e he).2 hn ad ha).more hk.size, by rw [hlen]; exact g8, List.mem_append_left _ h9, fun jj hjj => ?_, by rw [hlen]; omega, fun e he => ?_⟩
    · rcases Nat.lt_or_ge jj j with h | h
      · obtain ⟨e, he, hm⟩ := h10 jj h
        exact ⟨e, List.mem_append_left _ he, hm⟩
      · obtain rfl : jj = j := by omega
        exact ⟨(y5, (A5, c5)), by simp, hm5⟩
    · rcases List.mem_append.1 he with he | he
      · exact h12 e he
      · simp only [List.mem_singleton] at he
        subst he
        exact hy5
  rcases hat with hat | hat
  · exact hfin X L' (h3.ext hk hS) (fun g hg => h4 g (hat ▸ hg)) fun e he hn ad ha => by rw [hat]; exact (hREs e he).2 hn ad ha
  · refine hfin _ _ (SAt.wide h3 hk hS (x := W.heap.size + 1) (by omega) (hown.lt _ hat).2) (fun g hg => ?_) fun e he hn ad ha e' => ?_
    · rw [hat] at hg
      cases hg
      exact ⟨by simp, by have := lt_at h5; omega, fun ad e => by have := h6.2 ad e; omega⟩
    · rw [hat] at e'
      injection e' with e'
      have := RE.blk (hREs e he).1 hn ad ha
      omega
theorem infoS : (Tryz.prog.info? 53).map (fun i => (i.zero, i.size, i.bytes)) = some (some (.agg #[.int .u64 0, .int .i64 0, .int .u64 0, .int .u64 0, .int .u64 0, .string .empty, .slice none 0 0]), 7, 80) := by kernel_rfl
/-- A state is appended. -/
theorem wpList_state {ops : Array Oper} {rest : List Oper} {o : Oper} {a : Act} {Q : Exit → Act → World → Prop} {w : World} {B : Nat} {l : List (Sta × (Option Addr × Nat))} {y5 : Sta} {A5 Av : Option Addr} {c5 cv n : Nat} (s q : Operand) (hgd : o.guard = none)
    (ho : o.op = .call { callee := .builtin .append, args := #[s, q], argTypes := #[74, 74] }) {wc : World} (hwc : wc = w.alloc (.cells #[.int .u64 (y5.term : Int), .int .i64 y5.vote, .int .u64 (y5.snap.idx : Int), .int .u64 (y5.snap.term : Int), .int .u64 (y5.snap.cfg : Int), .string y5.snap.data, .slice A5 y5.es.length c5] 53))
    (hn : Hid (l.length = n)) (hown : w.ownsRow B 53 7 (.slice Av n cv) n (mcells l)) (hB : B ≤ w.heap.size) (hs : a.eval s = .slice Av n cv) (hq : a.eval q = .slice (some ⟨w.heap.size, 0, none⟩) 1 1) (hb : n ≤ 100000)
    (h : ∀ A' c' w', w'.ownsRow B 53 7 (.slice A' (n + 1) c') (n + 1) (mcells (l ++ [(y5, (A5, c5))])) → Only (fun z => (Value.slice Av n cv).ownBlock = some z) w w' →
      ((Value.slice A' (n + 1) c').ownBlock = (Value.slice Av n cv).ownBlock ∨ (Value.slice A' (n + 1) c').ownBlock = some (w.heap.size + 1)) → w.heap.size ≤ w'.heap.size → wpList Tryz.prog ops Q rest (a.put o.dst (.slice A' (n + 1) c')) w') : wpList Tryz.prog ops Q (o :: rest) a wc := by
  obtain ⟨i0, hi0, hz0, hz1, hz2⟩ := info_parts infoS
  subst hwc
  have hba : Below w.heap.size w (w.alloc (.cells #[.int .u64 (y5.term : Int), .int .i64 y5.vote, .int .u64 (y5.snap.idx : Int), .int .u64 (y5.snap.term : Int), .int .u64 (y5.snap.cfg : Int), .string y5.snap.data, .slice A5 y5.es.length c5] 53)) := (Below.refl _ _).alloc (Nat.le_refl _) _
  have hnew := heap_alloc_new w (.cells #[.int .u64 (y5.term : Int), .int .i64 y5.vote, .int .u64 (y5.snap.idx : Int), .int .u64 (y5.snap.term : Int), .int .u64 (y5.snap.cfg : Int), .string y5.snap.data, .slice A5 y5.es.length c5] 53)
  have hown2 := (Only.of_below (S := fun _ => False) hba).own hown (fun _ _ e => e)
  refine wpList_append_any _ hgd s q _ ho B 53 i0 _ 7 80 Tryz.underlying74 hi0 hz0 hz1 hz2 rfl (by decide) _ n (mcells l) hs hown2
    (w.heap.size + 1) _ 1 1 (mcells [(y5, (A5, c5))]) hq ⟨by rw [mcells_length]; rfl, fun _ => ⟨_, rfl, Nat.lt_succ_self _, fun i u hi => ?_⟩⟩ (mcells_one _) (by unfold maxLen; omega) (by omega) (Nat.le_trans hB hba.size) ?_
  · rw [Addr.add_lit, Nat.zero_add, cell_at hnew]
    simpa [mcells] using hi
  intro v' w' hown' hg hat
  obtain ⟨A', c', rfl, _, _, _⟩ := own_form hown'
  have hsz1 : (w.alloc (.cells #[.int .u64 (y5.term : Int), .int .i64 y5.vote, .int .u64 (y5.snap.idx : Int), .int .u64 (y5.snap.term : Int), .int .u64 (y5.snap.cfg : Int), .string y5.snap.data, .slice A5 y5.es.length c5] 53)).heap.size = w.heap.size + 1 := by simp
  have hk : Only (fun z => (Value.slice Av n cv).ownBlock = some z) w w' := ((Only.refl _ w).alloc _).grown hg fun g e => .inr e
  exact h A' c' w' (by rw [mcells_append]; exact hown') hk (by rw [hsz1] at hat; exact hat) hk.size
theorem May.at_ {W : World} {A : Option Addr} {n c : Nat} {l : List (Sta × (Option Addr × Nat))} (h : Reads W W.heap.size 7 A n (mcells l)) (hn : l.length = n) {k : Nat} (hk : k < n) : ∃ b o e, A = some ⟨b, o, none⟩ ∧ b < W.heap.size ∧ l[k]? = some e ∧
    (W.cell? ⟨b, o + k * 7, none⟩ = some (.int .u64 (e.1.term : Int)) ∧ W.cell? ⟨b, o + k * 7 + 1, none⟩ = some (.int .i64 e.1.vote) ∧ W.cell? ⟨b, o + k * 7 + 2, none⟩ = some (.int .u64 (e.1.snap.idx : Int)) ∧ W.cell? ⟨b, o + k * 7 + 3, none⟩ = some (.int .u64 (e.1.snap.term : Int)) ∧ W.cell? ⟨b, o + k * 7 + 4, none⟩ = some (.int .u64 (e.1.snap.cfg : Int)) ∧ W.cell? ⟨b, o + k * 7 + 5, none⟩ = some (.string e.1.snap.data) ∧ W.cell? ⟨b, o + k * 7 + 6, none⟩ = some (.slice e.2.1 e.1.es.length e.2.2)) := by
  obtain ⟨ad, rfl, hb, hc⟩ := h.2 (by omega)
  have he : l[k]? = some l[k] := List.getElem?_eq_getElem (by omega)
  have h0 : l[0]? = some l[0] := List.getElem?_eq_getElem (by omega)
  have hs0 := hc 0 _ (by have := mcells_get l 0 0 _ h0 (by decide); rw [Nat.zero_mul, Nat.zero_add] at this; rw [this]; rfl)
  rw [Kit.add_zero] at hs0
  have hsp := World.cell?_spot hs0
  obtain ⟨b, o, s⟩ := ad
  have : s = none := hsp
  subst this
  have hj : ∀ j u, j < 7 → [.int .u64 (l[k].1.term : Int), .int .i64 l[k].1.vote, .int .u64 (l[k].1.snap.idx : Int), .int .u64 (l[k].1.snap.term : Int), .int .u64 (l[k].1.snap.cfg : Int), .string l[k].1.snap.data, .slice l[k].2.1 l[k].1.es.length l[k].2.2][j]? = some u → W.cell? ⟨b, o + (k * 7 + j), none⟩ = some u := fun j u hj hu => by
    have := hc (k * 7 + j) u (by rw [mcells_get l k j _ he hj]; exact hu)
    rw [Addr.add_lit] at this
    exact this
  exact ⟨b, o, l[k], rfl, hb, he, hj 0 _ (by omega) rfl, hj 1 _ (by omega) rfl, hj 2 _ (by omega) rfl, hj 3 _ (by omega) rfl, hj 4 _ (by omega) rfl, hj 5 _ (by omega) rfl, hj 6 _ (by omega) rfl⟩
/-- The first texts of a slice. -/
theorem rs_upto {w : World} {A : Option Addr} {n m : Nat} {l : List (List UInt8)} (h : RS w A n l) (hm : m ≤ n) : RS w A m (l.take m) := by
  have := Kit.Reads.upto h hm
  have e : (strs l).take m = strs (l.take m) := by simp [strs, List.map_take]
  rwa [e] at this
theorem run_upto (O : Option Addr) (on oc k : Nat) (hk : k ≤ oc) (W : World) : (Instr.slice 68 (.slice O on oc) none (some (.int .i64 (k : Int))) none).run Tryz.prog W = .ok (.slice O k oc) W := by
  have ht' : Tryz.prog.underlying 68 = some (.slice (Tryz.prog.elem 68)) := by simp [Program.elem, Tryz.underlying68]
  have he : Tryz.prog.elem 68 = 9 := by simp [Program.elem, Tryz.underlying68]
  have hz : (Go.sizeOf 9).run Tryz.prog W = .ok 1 W := by kernel_rfl
  rw [run_slice_h W 68 _ _ _ ht' .i64 _ (by omega) (by omega), he, hz]
  cases O with
  | none => simp [Result.andThen, sliced]
  | some a => simp [Result.andThen, sliced, Kit.add_zero]
theorem data_total {l : List Ent} : ∀ e ∈ l, e.data.size / 50 ≤ dataW l := by
  induction l with
  | nil => intro e he; cases he
  | cons x l ih =>
    intro e he
    have h2 : dataW (x :: l) = x.data.size / 50 + dataW l := by simp [dataW]
    rcases List.mem_cons.1 he with rfl | he
    · omega
    · have := ih e he; omega
theorem len_total : ∀ (C : List Cal), C.length ≤ total C
  | [] => by simp [total]
  | x :: C => by
    have h := len_total C
    unfold total at h ⊢
    simp only [List.map_cons, List.sum_cons, List.length_cons]
    have : 1 ≤ Cals.weigh x := by unfold Cals.weigh; omega
    omega

set_option maxRecDepth 100000 in
set_option maxHeartbeats 16000000 in
theorem lasts_mid (C : Option Addr) (mm cc : Nat) (L : List Cal) (fuel keep : Int) (w : World) (hh : Holds w w.heap.size C mm L) (hm : mm ≤ 9223372036854775807) (hf0 : -9223372036854775808 ≤ fuel) (hf1 : fuel ≤ 9223372036854775807) (hk0 : -9223372036854775808 ≤ keep) (hk1 : keep ≤ 9223372036854775807) (hT : total L ≤ 1048576) (ht : Tab w) :
    Calls Tryz.prog 5 #[.slice C mm cc, .int .i64 fuel, .int .i64 keep] w fun e w' => e = .returned (.bool true) ∧ Below w.heap.size w w' := by
  have hg := Tab.lt ht
  have HT := Lib.hid ht
  have HH := Lib.hid hh
  have HM := Lib.hid hh.1
  obtain ⟨qq, hq⟩ : ∃ q, decide (total L ≤ 400) = q := ⟨_, rfl⟩
  have HQ := Lib.hid hq
  have HTL := Lib.hid hT
  obtain ⟨m0, hm0⟩ : ∃ m0, M.new 1048576 = m0 := ⟨_, rfl⟩
  obtain ⟨m1, hm1⟩ : ∃ m1, solo 1048576 (-1) false 0 [] [] true (fun _ => false) = m1 := ⟨_, rfl⟩
  have hop : sopen m0 0 7 = ((0, first 7), m1) := by rw [← hm0, ← hm1]; exact sopen_new 1048576 0 (by omega) Lit.sound7
  have hfit : FitF (max fuel (-1)) (m1.fuelled fuel) (first 7) 0 := by rw [← hm1]; exact fitf_first fuel
  have HM0 := Lib.hid hm0
  have HOP := Lib.hid hop
  have HFIT := Lib.hid hfit
  clear ht hh hq hT hm0 hm1 hop hfit
  go_enter Tryz.func5, Tryz.ntmps5
  go_wp2_with fail
  refine (begun_any _ HT.out).mono ?_
  rintro e w1 ⟨rfl, hB1⟩
  go_wp2_with fail
  refine (light_any C mm cc L w1 (HH.out.below hB1 hB1.size) hm HTL.out).mono ?_
  rintro e wL ⟨rfl, hbL⟩
  rw [HQ.out]
  have hBL := hB1.trans (hbL.mono hB1.size)
  cases qq
  case false =>
    go_wp2
    go_ret
    exact ⟨rfl, hBL⟩
  have hT4 : total L ≤ 400 := of_decide_eq_true HQ.out
  have hmm4 : mm ≤ 400 := by have := len_total L; rw [HM.out] at this; omega
  go_wp2_with fail
  refine (new_has (B := w.heap.size) 1048576 (by omega) hBL.size).mono ?_
  rintro e w2 ⟨p, rfl, hD2, hp, hb2⟩
  rw [HM0.out] at hD2
  have hB2 := hBL.trans (hb2.mono hBL.size)
  go_wp2_with fail
  refine (open_lit hD2 (Tab.next HT.out hB2) hg (by omega) 0 7 (by decide) HOP).mono ?_
  rintro e w3 ⟨t, b, L3, v3, A3, c3, rfl, hS3, _, hk3, ht3, _⟩
  have hB3 := hB2.trans (hk3.below hD2.low)
  have hs3 := hS3.base
  unfold staV
  simp only [first, List.length_nil, show ((0 : Nat) : Int) = 0 from rfl, show ((7 : Nat) : Int) = 7 from rfl]
  have l4 : Below w3.heap.size w3 (w3.alloc (.cells #[.int .u64 0, .int .i64 (-1), .int .u64 0, .int .u64 0, .int .u64 7, .string ByteArray.empty, .slice A3 0 c3] 45)) := (Below.refl _ _).alloc (Nat.le_refl _) _
  obtain ⟨w4, hw4⟩ : ∃ w4, w3.alloc (.cells #[.int .u64 0, .int .i64 (-1), .int .u64 0, .int .u64 0, .int .u64 7, .string ByteArray.empty, .slice A3 0 c3] 45) = w4 := ⟨_, rfl⟩
  rw [hw4] at l4
  have HW4 := Lib.hid hw4
  have hS4 := hS3.below l4
  have hB4 := hB3.trans (l4.mono hB3.size)
  have HS4 := Lib.hid hS4
  clear hD2 hk3 hS3 l4 hw4 hS4
  go_wp2_with fail
  rw [HW4.out]
  refine (fuel_has fuel HS4.out.disk hf0 hf1).mono ?_
  rintro e w5 ⟨rfl, hD5, hk5⟩
  have hS5 := HS4.out.wrote hD5 (HS4.out.log.keeps hk5 HS4.out.bL) hk5
  have hB5 := hB4.trans (hk5.below HS4.out.base)
  clear hD5 hk5
  go_wp2_with fail
  refine (RRight.rfirst_any 7 _ (by decide)).mono ?_
  rintro e w6 ⟨rfl, hb6⟩
  unfold staV
  simp only [first, List.length_nil, show ((0 : Nat) : Int) = 0 from rfl, show ((7 : Nat) : Int) = 7 from rfl]
  have hS6 := hS5.below hb6
  have hB6 := hB5.trans (hb6.mono hB5.size)
  have l7 : Below w6.heap.size w6 (w6.alloc (.cells #[.int .u64 0, .int .i64 (-1), .int .u64 0, .int .u64 0, .int .u64 7, .string ByteArray.empty, .slice none 0 0] 53)) := (Below.refl _ _).alloc (Nat.le_refl _) _
  have h7 := heap_alloc_new w6 (.cells #[.int .u64 0, .int .i64 (-1), .int .u64 0, .int .u64 0, .int .u64 7, .string ByteArray.empty, .slice none 0 0] 53)
  obtain ⟨w7, hw7⟩ : ∃ w7, w6.alloc (.cells #[.int .u64 0, .int .i64 (-1), .int .u64 0, .int .u64 0, .int .u64 7, .string ByteArray.empty, .slice none 0 0] 53) = w7 := ⟨_, rfl⟩
  rw [hw7] at l7 h7
  have HW7 := Lib.hid hw7
  have hS7 := hS6.beside l7 (Nat.le_refl _) (lt_at h7)
  have hB7 := hB6.trans (l7.mono hB6.size)
  have hG7 : Going w.heap.size L t b p 0 w7 (.slice (some ⟨w6.heap.size, 0, none⟩) 1 1) :=
    ⟨_, _, first 7, none, 0, w6.heap.size, _, _, _, _, rfl, hS7, by simpa [total] using HFIT.out, by omega, by simp, h7, RE.nil _ _ _, (fun h => absurd h (by decide)), (fun h => absurd h (by decide)), hB6.size⟩
  have HG7 := Lib.hid hG7
  clear hS5 hS6 hS7 l7 h7 hw7 hG7
  go_upto_block 0 with fail
  rw [HW7.out]
  go_cut [12] from 51 to 134 (fun v wx => After w.heap.size p keep w wx v)
  case first =>
    go_wp2_with fail
    go_loopw [12, 51] (fun v i wr => ∃ k : Nat, k ≤ mm ∧ i = .int .i64 (k : Int) ∧ Hid (Going w.heap.size L t b p k wr v) ∧ Below w.heap.size w wr) (fun _ i _ => mm - (intOf i).toNat)
    case atStart => exact ⟨0, by omega, rfl, HG7, hB7⟩
    case round =>
      obtain ⟨k, hk, rfl, HG, hbel⟩ := hrel
      obtain ⟨N, m, s, A, c, ym, f, X, L', u, rfl, hS, hF, hNk, hymX, hym, hre, hout, hne, hBym⟩ := HG.out
      by_cases hkm : k < mm
      · obtain ⟨x, hx⟩ : ∃ x, L[k]? = some x := ⟨_, List.getElem?_eq_getElem (by rw [HM.out]; exact hkm)⟩
        obtain ⟨bb, o, rfl, hbl, hten, hcal⟩ := (HH.out.below hbel (Nat.le_refl _)).2 k x hx
        have c0 := hten.c0
        have c1 := hten.c1
        have c2 := hten.c2
        have c3 := hten.c3
        have c4 := hten.c4
        have c5 := hten.c5
        have c6 := hten.c6
        have c7 := hten.c7
        have hmem := total_mem hx
        have hwx : Cals.weigh x = 1 + x.l.length + x.snap.data.size / 50 + dataW x.l := rfl
        have hxn := RE.len hcal.list
        have hkk : total (L.take (k + 1)) = total (L.take k) + Cals.weigh x := total_take hx
        have hsl : s.es.length ≤ 400 := by have := hF.len; omega
        have hTx : total (L.take k) + Cals.weigh x ≤ 500 := by omega
        have hwA : 1 + (staOf x).es.length + (staOf x).snap.data.size / 50 + dataW (staOf x).es ≤ Cals.weigh x := Nat.le_of_eq rfl
        have hwS : 1 + x.l.length + dataW x.l ≤ Cals.weigh x := by omega
        have s0 : wr.cell? ⟨ym, 0, none⟩ = some (.int .u64 (s.term : Int)) := by rw [cell_at hym]; rfl
        have s1 : wr.cell? ⟨ym, 1, none⟩ = some (.int .i64 s.vote) := by rw [cell_at hym]; rfl
        have s2 : wr.cell? ⟨ym, 2, none⟩ = some (.int .u64 (s.snap.idx : Int)) := by rw [cell_at hym]; rfl
        have s3 : wr.cell? ⟨ym, 3, none⟩ = some (.int .u64 (s.snap.term : Int)) := by rw [cell_at hym]; rfl
        have s4 : wr.cell? ⟨ym, 4, none⟩ = some (.int .u64 (s.snap.cfg : Int)) := by rw [cell_at hym]; rfl
        have s5 : wr.cell? ⟨ym, 5, none⟩ = some (.string s.snap.data) := by rw [cell_at hym]; rfl
        have s6 : wr.cell? ⟨ym, 6, none⟩ = some (.slice A s.es.length c) := by rw [cell_at hym]; rfl
        have hltym := lt_at hym
        obtain ⟨xa, hxa⟩ : ∃ xa, x.anew = xa := ⟨_, rfl⟩
        rw [hxa] at c0
        have l10 : Below wr.heap.size wr (wr.alloc (.cells #[.bool xa, .int .u64 (x.term : Int), .int .i64 x.vote, .int .u64 (x.snap.idx : Int), .int .u64 (x.snap.term : Int), .int .u64 (x.snap.cfg : Int), .string x.snap.data, .slice x.A x.n x.c] 57)) := (Below.refl _ _).alloc (Nat.le_refl _) _
        have h10 := heap_alloc_new wr (.cells #[.bool xa, .int .u64 (x.term : Int), .int .i64 x.vote, .int .u64 (x.snap.idx : Int), .int .u64 (x.snap.term : Int), .int .u64 (x.snap.cfg : Int), .string x.snap.data, .slice x.A x.n x.c] 57)
        obtain ⟨w10, hw10⟩ : ∃ w10, wr.alloc (.cells #[.bool xa, .int .u64 (x.term : Int), .int .i64 x.vote, .int .u64 (x.snap.idx : Int), .int .u64 (x.snap.term : Int), .int .u64 (x.snap.cfg : Int), .string x.snap.data, .slice x.A x.n x.c] 57) = w10 := ⟨_, rfl⟩
        rw [hw10] at l10 h10
        have z10 : w10.heap.size = wr.heap.size + 1 := by rw [← hw10]; simp
        have l11 : Below w10.heap.size w10 (w10.alloc (.cells #[.int .u64 (s.term : Int), .int .i64 s.vote, .int .u64 (s.snap.idx : Int), .int .u64 (s.snap.term : Int), .int .u64 (s.snap.cfg : Int), .string s.snap.data, .slice A s.es.length c] 53)) := (Below.refl _ _).alloc (Nat.le_refl _) _
        have h11 := heap_alloc_new w10 (.cells #[.int .u64 (s.term : Int), .int .i64 s.vote, .int .u64 (s.snap.idx : Int), .int .u64 (s.snap.term : Int), .int .u64 (s.snap.cfg : Int), .string s.snap.data, .slice A s.es.length c] 53)
        obtain ⟨w11, hw11⟩ : ∃ w11, w10.alloc (.cells #[.int .u64 (s.term : Int), .int .i64 s.vote, .int .u64 (s.snap.idx : Int), .int .u64 (s.snap.term : Int), .int .u64 (s.snap.cfg : Int), .string s.snap.data, .slice A s.es.length c] 53) = w11 := ⟨_, rfl⟩
        rw [hw11] at l11 h11
        have z11 : w11.heap.size = wr.heap.size + 1 + 1 := by rw [← hw11]; simp [z10]
        have l12 : Below w11.heap.size w11 (w11.alloc (.cells #[.int .u64 (x.term : Int), .int .i64 x.vote, .int .u64 (x.snap.idx : Int), .int .u64 (x.snap.term : Int), .int .u64 (x.snap.cfg : Int), .string x.snap.data, .slice x.A x.n x.c] 53)) := (Below.refl _ _).alloc (Nat.le_refl _) _
        have h12 := heap_alloc_new w11 (.cells #[.int .u64 (x.term : Int), .int .i64 x.vote, .int .u64 (x.snap.idx : Int), .int .u64 (x.snap.term : Int), .int .u64 (x.snap.cfg : Int), .string x.snap.data, .slice x.A x.n x.c] 53)
        obtain ⟨w12, hw12⟩ : ∃ w12, w11.alloc (.cells #[.int .u64 (x.term : Int), .int .i64 x.vote, .int .u64 (x.snap.idx : Int), .int .u64 (x.snap.term : Int), .int .u64 (x.snap.cfg : Int), .string x.snap.data, .slice x.A x.n x.c] 53) = w12 := ⟨_, rfl⟩
        rw [hw12] at l12 h12
        have z12 : w12.heap.size = wr.heap.size + 3 := by rw [← hw12]; simp [z11]
        rw [z10] at h11
        rw [z11] at h12
        have l1 : Below wr.heap.size wr w12 := (l10.trans (l11.mono (by omega))).trans (l12.mono (by omega))
        have g14 : w12.heap[wr.heap.size]? = some (.cells #[.bool xa, .int .u64 (x.term : Int), .int .i64 x.vote, .int .u64 (x.snap.idx : Int), .int .u64 (x.snap.term : Int), .int .u64 (x.snap.cfg : Int), .string x.snap.data, .slice x.A x.n x.c] 57 (0, 0)) := (l12.block _ (by omega)).trans ((l11.block _ (by omega)).trans h10)
        have g15 : w12.heap[wr.heap.size + 1]? = some (.cells #[.int .u64 (s.term : Int), .int .i64 s.vote, .int .u64 (s.snap.idx : Int), .int .u64 (s.snap.term : Int), .int .u64 (s.snap.cfg : Int), .string s.snap.data, .slice A s.es.length c] 53 (0, 0)) := (l12.block _ (by omega)).trans h11
        have g16 : w12.heap[wr.heap.size + 1 + 1]? = some (.cells #[.int .u64 (x.term : Int), .int .i64 x.vote, .int .u64 (x.snap.idx : Int), .int .u64 (x.snap.term : Int), .int .u64 (x.snap.cfg : Int), .string x.snap.data, .slice x.A x.n x.c] 53 (0, 0)) := h12
        have hS12 : SAt w.heap.size ([wr.heap.size, wr.heap.size + 1, wr.heap.size + 1 + 1] ++ X) w12 t b p N 0 m s ([wr.heap.size, wr.heap.size + 1, wr.heap.size + 1 + 1] ++ L') u := SAt.wides hS (S := fun _ => False) (Only.of_below l1) (fun _ h => h.elim) _ fun y hy => by
          simp only [List.mem_cons, List.not_mem_nil, or_false] at hy
          rcases hy with rfl | rfl | rfl
          · omega
          · omega
          · omega
        obtain ⟨X', hX'⟩ : ∃ X', [wr.heap.size, wr.heap.size + 1, wr.heap.size + 1 + 1] ++ X = X' := ⟨_, rfl⟩
        have i14 : wr.heap.size ∈ X' := by rw [← hX']; simp
        have i15 : wr.heap.size + 1 ∈ X' := by rw [← hX']; simp
        have i16 : wr.heap.size + 1 + 1 ∈ X' := by rw [← hX']; simp
        have hXX : ∀ y ∈ X, y ∈ X' := fun y hy => by rw [← hX']; exact List.mem_append_right _ hy
        rw [hX'] at hS12
        have hB12 := hbel.trans (l1.mono hbel.size)
        have ht12 := Tab.next HT.out hB12
        have hca12 := hcal.below (l1.mono hS.base) (Nat.le_refl _)
        have hym12 := (l1.block _ hltym).trans hym
        have hre12 := (Kit.Reads.below hre l1).more l1.size
        have HW10 := Lib.hid hw10
        have HW11 := Lib.hid hw11
        have HW12 := Lib.hid hw12
        have hBw := hS12.base
        have HHS : Hid (SAt w.heap.size X' w12 t b p N 0 m s ([wr.heap.size, wr.heap.size + 1, wr.heap.size + 1 + 1] ++ L') u) := hS12
        have HG14 := Lib.hid g14
        have HG15 := Lib.hid g15
        have HG16 := Lib.hid g16
        have HYM := Lib.hid hym12
        have HRE := Lib.hid hre12
        have HOUT := Lib.hid hout
        have HNE := Lib.hid hne
        have HXX := Lib.hid hXX
        have HCA := Lib.hid hca12
        have HFI := Lib.hid hF
        have HOK := Lib.hid hS.ok
        have HSBs := Lib.hid hS.sb
        have HX := Lib.hid hX'
        have HXN := Lib.hid hxn
        have hN9 : N < 900000 := by omega
        have hls : ∀ e ∈ x.l, e.data.size ≤ 1000000000 := fun e he => by have := data_total e he; omega
        have HLS := Lib.hid hls
        have hxn9 : x.n ≤ 999990 := by omega
        clear hten hcal l10 l11 l12 h10 h11 h12 hw10 hw11 hw12 l1 g14 g15 g16 hS12 hS hym hre hout hne hym12 hre12 hca12 hxa hXX hF hX' hls
        cases xa with
        | true =>
          have hfx := fitf_anew HFI.out HOK.out HCA.out.sta HCA.out.data (x := Cals.weigh x) hwA hTx keep
          obtain ⟨r, m', s', hsv, hcase⟩ := hfx
          have hcall := anew_any' HHS.out ht12 hg hN9 (staOf x) HCA.out.sta x.A x.n x.c HCA.out.list hxn9 HCA.out.data
          rw [show sanew m 0 s (staOf x) = (r, (m', s')) from hsv] at hcall
          unfold staV staOf Saved at hcall
          have HCL := Lib.hid hcall
          have HCASE := Lib.hid hcase
          clear hcall hsv hcase
          go_wp2_with fail
          rw [HW10.out, HW11.out, HW12.out]
          refine HCL.out.mono ?_
          rintro e w13 ⟨rfl, ⟨L'', u', hS13⟩, hk13⟩
          have hcase := HCASE.out
          clear HCASE HCL
          rcases hcase with ⟨rfl, rfl, rfl⟩ | ⟨rfl, hry, rfl, f', hF'⟩ | ⟨rfl, rfl, hsay⟩
          · skip
            have HG13 := Lib.hid (going_keep (L := L) (k := k) hS13 hk13 HXX.out hBw HYM.out HRE.out HOUT.out HNE.out hymX hBym (HFI.out.more (by omega)) (show N + 2 ≤ 2 + 2 * (k + 1) by omega))
            have hB13 := hB12.trans (hk13.below hBw)
            clear hS13 hk13
            go_wp2_with fail
            go_roundw
            case rel =>
              exact ⟨k + 1, by omega, by go_num, HG13, hB13⟩
            case measure => simp [intOf]; omega
          · skip
            have q14 := hk13.heap HG14.out (.inr i14)
            have q16 := hk13.heap HG16.out (.inr i16)
            have d0 : w13.cell? ⟨wr.heap.size, 0, none⟩ = some (.bool true) := by rw [cell_at q14]; rfl
            have t0 : w13.cell? ⟨wr.heap.size + 1 + 1, 0, none⟩ = some (.int .u64 (x.term : Int)) := by rw [cell_at q16]; rfl
            have t1 : w13.cell? ⟨wr.heap.size + 1 + 1, 1, none⟩ = some (.int .i64 x.vote) := by rw [cell_at q16]; rfl
            have t2 : w13.cell? ⟨wr.heap.size + 1 + 1, 2, none⟩ = some (.int .u64 (x.snap.idx : Int)) := by rw [cell_at q16]; rfl
            have t3 : w13.cell? ⟨wr.heap.size + 1 + 1, 3, none⟩ = some (.int .u64 (x.snap.term : Int)) := by rw [cell_at q16]; rfl
            have t4 : w13.cell? ⟨wr.heap.size + 1 + 1, 4, none⟩ = some (.int .u64 (x.snap.cfg : Int)) := by rw [cell_at q16]; rfl
            have t5 : w13.cell? ⟨wr.heap.size + 1 + 1, 5, none⟩ = some (.string x.snap.data) := by rw [cell_at q16]; rfl
            have t6 : w13.cell? ⟨wr.heap.size + 1 + 1, 6, none⟩ = some (.slice x.A x.n x.c) := by rw [cell_at q16]; rfl
            have hlt14 := lt_at q14
            have hlt16 := lt_at q16
            have hB13 := hB12.trans (hk13.below hBw)
            have hG := going_new (L := L) (k := k) (s := staOf x) (A := x.A) (c := x.c) hS13 (by rw [show (staOf x).es.length = x.n from HXN.out]; exact (Kit.Reads.below HCA.out.list (hk13.below hBw)).more (show w.heap.size ≤ w13.heap.size by have := hk13.size; omega)) (Out.low HCA.out.list |> fun h => by rw [show (staOf x).es.length = x.n from HXN.out]; exact h) (by rw [hkk]; exact hF') (show N + 2 ≤ 2 + 2 * (k + 1) by omega)
            unfold staOf at hG
            simp only at hG
            rw [HXN.out] at hG
            have hl14 := (Below.refl w13.heap.size w13).alloc (Nat.le_refl _) (.cells #[.int .u64 (x.term : Int), .int .i64 x.vote, .int .u64 (x.snap.idx : Int), .int .u64 (x.snap.term : Int), .int .u64 (x.snap.cfg : Int), .string x.snap.data, .slice x.A x.n x.c] 53)
            have HG13 := Lib.hid hG
            have HB14 := Lib.hid (hB13.trans (hl14.mono hB13.size))
            clear hS13 hk13 hG q14 q16 hl14
            go_wp2_with fail
            go_roundw
            case rel => exact ⟨k + 1, by omega, by go_num, HG13, HB14.out⟩
            case measure => simp [intOf]; omega
          · skip
            have q14 := hk13.heap HG14.out (.inr i14)
            have d0 : w13.cell? ⟨wr.heap.size, 0, none⟩ = some (.bool true) := by rw [cell_at q14]; rfl
            have hlt14 := lt_at q14
            have hym13 := hk13.heap HYM.out (.inr (HXX.out _ hymX))
            have hre13 := (re_keep HRE.out (Out.mono HOUT.out HXX.out) hk13 (Nat.le_refl _) fun q hq => hq).more hk13.size
            have HAF : Hid (After w.heap.size p keep w w13 (.slice (some ⟨ym, 0, none⟩) 1 1)) := ⟨hB12.trans (hk13.below hBw), N + 2, L'', m', s', [(s', (A, c))], hS13.disk, by omega, hsay, may_one hym13 hre13, ⟨(s', (A, c)), by simp, rfl⟩, by simp, fun e he => by simp only [List.mem_singleton] at he; subst he; show s'.es.length ≤ 100000; omega⟩
            clear hS13 hk13 q14 hym13 hre13
            go_wp2_with fail
            go_meet
            exact HAF.out
        | false =>
          have hfx := fitf_save HFI.out HOK.out HCA.out.term HCA.out.v0 HCA.out.v1 HCA.out.ents (x := Cals.weigh x) hwS hTx keep
          obtain ⟨r, m', s', hsv, hcase⟩ := hfx
          have hcall := save_lit HHS.out ht12 hg hN9 (by decide) (by decide) x.term x.vote HCA.out.term HCA.out.v0 HCA.out.v1 x.A x.n x.c x.l (HCA.out.list.more hBw) (Out.low HCA.out.list) HCA.out.ents hxn9 (by omega) (Lib.hid hsv)
          have HCL := Lib.hid hcall
          have HCASE := Lib.hid hcase
          clear hcall hsv hcase
          go_wp2_with fail
          rw [HW10.out, HW11.out, HW12.out]
          refine HCL.out.mono ?_
          rintro e w13 ⟨rfl, ⟨L'', u', hS13⟩, hk13⟩
          have hcase := HCASE.out
          clear HCASE HCL
          rcases hcase with ⟨rfl, rfl, rfl⟩ | ⟨rfl, hry, hs', f', hF'⟩ | ⟨rfl, hry, rfl, y, hsay, hy⟩
          · skip
            have HG13 := Lib.hid (going_keep (L := L) (k := k) hS13 hk13 HXX.out hBw HYM.out HRE.out HOUT.out HNE.out hymX hBym (HFI.out.more (by omega)) (show N + 2 ≤ 2 + 2 * (k + 1) by omega))
            have hB13 := hB12.trans (hk13.below hBw)
            clear hS13 hk13
            go_wp2_with fail
            go_roundw
            case rel => exact ⟨k + 1, by omega, by go_num, HG13, hB13⟩
            case measure => simp [intOf]; omega
          · skip
            have q14 := hk13.heap HG14.out (.inr i14)
            have q15 := hk13.heap HG15.out (.inr i15)
            have d0 : w13.cell? ⟨wr.heap.size, 0, none⟩ = some (.bool false) := by rw [cell_at q14]; rfl
            have d1 : w13.cell? ⟨wr.heap.size, 1, none⟩ = some (.int .u64 (x.term : Int)) := by rw [cell_at q14]; rfl
            have d2 : w13.cell? ⟨wr.heap.size, 2, none⟩ = some (.int .i64 x.vote) := by rw [cell_at q14]; rfl
            have d3 : w13.cell? ⟨wr.heap.size, 3, none⟩ = some (.int .u64 (x.snap.idx : Int)) := by rw [cell_at q14]; rfl
            have d4 : w13.cell? ⟨wr.heap.size, 4, none⟩ = some (.int .u64 (x.snap.term : Int)) := by rw [cell_at q14]; rfl
            have d5 : w13.cell? ⟨wr.heap.size, 5, none⟩ = some (.int .u64 (x.snap.cfg : Int)) := by rw [cell_at q14]; rfl
            have d6 : w13.cell? ⟨wr.heap.size, 6, none⟩ = some (.string x.snap.data) := by rw [cell_at q14]; rfl
            have d7 : w13.cell? ⟨wr.heap.size, 7, none⟩ = some (.slice x.A x.n x.c) := by rw [cell_at q14]; rfl
            have t0 : w13.cell? ⟨wr.heap.size + 1, 0, none⟩ = some (.int .u64 (s.term : Int)) := by rw [cell_at q15]; rfl
            have t1 : w13.cell? ⟨wr.heap.size + 1, 1, none⟩ = some (.int .i64 s.vote) := by rw [cell_at q15]; rfl
            have t2 : w13.cell? ⟨wr.heap.size + 1, 2, none⟩ = some (.int .u64 (s.snap.idx : Int)) := by rw [cell_at q15]; rfl
            have t3 : w13.cell? ⟨wr.heap.size + 1, 3, none⟩ = some (.int .u64 (s.snap.term : Int)) := by rw [cell_at q15]; rfl
            have t4 : w13.cell? ⟨wr.heap.size + 1, 4, none⟩ = some (.int .u64 (s.snap.cfg : Int)) := by rw [cell_at q15]; rfl
            have t5 : w13.cell? ⟨wr.heap.size + 1, 5, none⟩ = some (.string s.snap.data) := by rw [cell_at q15]; rfl
            have t6 : w13.cell? ⟨wr.heap.size + 1, 6, none⟩ = some (.slice A s.es.length c) := by rw [cell_at q15]; rfl
            have hlt14 := lt_at q14
            have hlt15 := lt_at q15
            have hB13 := hB12.trans (hk13.below hBw)
            have hre13 := (re_keep HRE.out (Out.mono HOUT.out HXX.out) hk13 (Nat.le_refl _) fun q hq => hq).more hk13.size
            have hrec := rrecords_any (c := c) HSBs.out HOK.out hre13 (by omega) x.term x.vote HCA.out.term HCA.out.v0 HCA.out.v1 x.A x.n x.c x.l ((Kit.Reads.below HCA.out.list (hk13.below hBw)).more (by have := hk13.size; omega)) HCA.out.ents HLS.out (by omega)
            unfold Recd staV at hrec
            rw [hry] at hrec
            have HREC := Lib.hid hrec
            have HS13 := Lib.hid hS13
            have HSS := Lib.hid hs'
            have HK13 := Lib.hid hk13
            have HHRY := Lib.hid hry
            clear hrec hS13 hk13 q14 q15 hre13 hs' hry
            go_wp2_with fail
            refine HREC.out.mono ?_
            rintro e w14 ⟨O, on, oc, s2, A2, c2', rfl, hs2, hb14, hkin, hnew, hcap⟩
            obtain ⟨rfl, _, _, hre2⟩ := hs2 (by trivial)
            have l15 : Below w14.heap.size w14 (w14.alloc (.cells #[.int .u64 ((savedS s x.term x.vote x.l).term : Int), .int .i64 (savedS s x.term x.vote x.l).vote, .int .u64 ((savedS s x.term x.vote x.l).snap.idx : Int), .int .u64 ((savedS s x.term x.vote x.l).snap.term : Int), .int .u64 ((savedS s x.term x.vote x.l).snap.cfg : Int), .string (savedS s x.term x.vote x.l).snap.data, .slice A2 (savedS s x.term x.vote x.l).es.length c2'] 53)) := (Below.refl _ _).alloc (Nat.le_refl _) _
            obtain ⟨s2, hs2e⟩ : ∃ s2, savedS s x.term x.vote x.l = s2 := ⟨_, rfl⟩
            rw [hs2e] at l15 hre2 hkin ⊢
            obtain ⟨w15, hw15⟩ : ∃ w15, w14.alloc (.cells #[.int .u64 (s2.term : Int), .int .i64 s2.vote, .int .u64 (s2.snap.idx : Int), .int .u64 (s2.snap.term : Int), .int .u64 (s2.snap.cfg : Int), .string s2.snap.data, .slice A2 s2.es.length c2'] 53) = w15 := ⟨_, rfl⟩
            rw [hw15] at l15
            have HW15 := Lib.hid hw15
            have hb15 := hb14.trans (l15.mono hb14.size)
            have hs's : s' = s2 := HSS.out.trans hs2e
            subst hs's
            obtain ⟨X2, L2, hS15, hout2, _⟩ := apart HS13.out hb15 (Out.mono HOUT.out HXX.out) (hkin.mono (Nat.le_refl _) l15.size)
            have hG := going_new (L := L) (k := k) (s := s') (A := A2) (c := c2') hS15 ((Kit.Reads.below hre2 l15).more l15.size) hout2 (by rw [hkk]; exact hF') (show N + 2 ≤ 2 + 2 * (k + 1) by omega)
            have hB15 := hB13.trans (hb15.mono hB13.size)
            have hl16 := (Below.refl w15.heap.size w15).alloc (Nat.le_refl _) (.cells #[.int .u64 (s'.term : Int), .int .i64 s'.vote, .int .u64 (s'.snap.idx : Int), .int .u64 (s'.snap.term : Int), .int .u64 (s'.snap.cfg : Int), .string s'.snap.data, .slice A2 s'.es.length c2'] 53)
            have HG13 := Lib.hid hG
            have HB16 := Lib.hid (hB15.trans (hl16.mono hB15.size))
            have hz15 : w15.heap.size = w14.heap.size + 1 := by rw [← hw15]; simp
            have HZ15 := Lib.hid hz15
            clear hG hS15 hl16 hw15 hre2 hkin hs2 hs2e hz15 d0 d1 d2 d3 d4 d5 d6 d7 t0 t1 t2 t3 t4 t5 t6
            rw [HZ15.out] at HG13
            go_wp2_with fail
            rw [HW15.out]
            go_roundw
            case rel => exact ⟨k + 1, by omega, by go_num, HG13, HB16.out⟩
            case measure => simp [intOf]; omega
          · skip
            have q14 := hk13.heap HG14.out (.inr i14)
            have q15 := hk13.heap HG15.out (.inr i15)
            have d0 : w13.cell? ⟨wr.heap.size, 0, none⟩ = some (.bool false) := by rw [cell_at q14]; rfl
            have d1 : w13.cell? ⟨wr.heap.size, 1, none⟩ = some (.int .u64 (x.term : Int)) := by rw [cell_at q14]; rfl
            have d2 : w13.cell? ⟨wr.heap.size, 2, none⟩ = some (.int .i64 x.vote) := by rw [cell_at q14]; rfl
            have d3 : w13.cell? ⟨wr.heap.size, 3, none⟩ = some (.int .u64 (x.snap.idx : Int)) := by rw [cell_at q14]; rfl
            have d4 : w13.cell? ⟨wr.heap.size, 4, none⟩ = some (.int .u64 (x.snap.term : Int)) := by rw [cell_at q14]; rfl
            have d5 : w13.cell? ⟨wr.heap.size, 5, none⟩ = some (.int .u64 (x.snap.cfg : Int)) := by rw [cell_at q14]; rfl
            have d6 : w13.cell? ⟨wr.heap.size, 6, none⟩ = some (.string x.snap.data) := by rw [cell_at q14]; rfl
            have d7 : w13.cell? ⟨wr.heap.size, 7, none⟩ = some (.slice x.A x.n x.c) := by rw [cell_at q14]; rfl
            have t0 : w13.cell? ⟨wr.heap.size + 1, 0, none⟩ = some (.int .u64 (s'.term : Int)) := by rw [cell_at q15]; rfl
            have t1 : w13.cell? ⟨wr.heap.size + 1, 1, none⟩ = some (.int .i64 s'.vote) := by rw [cell_at q15]; rfl
            have t2 : w13.cell? ⟨wr.heap.size + 1, 2, none⟩ = some (.int .u64 (s'.snap.idx : Int)) := by rw [cell_at q15]; rfl
            have t3 : w13.cell? ⟨wr.heap.size + 1, 3, none⟩ = some (.int .u64 (s'.snap.term : Int)) := by rw [cell_at q15]; rfl
            have t4 : w13.cell? ⟨wr.heap.size + 1, 4, none⟩ = some (.int .u64 (s'.snap.cfg : Int)) := by rw [cell_at q15]; rfl
            have t5 : w13.cell? ⟨wr.heap.size + 1, 5, none⟩ = some (.string s'.snap.data) := by rw [cell_at q15]; rfl
            have t6 : w13.cell? ⟨wr.heap.size + 1, 6, none⟩ = some (.slice A s'.es.length c) := by rw [cell_at q15]; rfl
            have hlt14 := lt_at q14
            have hlt15 := lt_at q15
            have hB13 := hB12.trans (hk13.below hBw)
            have hym13 := hk13.heap HYM.out (.inr (HXX.out _ hymX))
            have hre13 := (re_keep HRE.out (Out.mono HOUT.out HXX.out) hk13 (Nat.le_refl _) fun q hq => hq).more hk13.size
            have hrec := rrecords_any (c := c) HSBs.out HOK.out hre13 (by omega) x.term x.vote HCA.out.term HCA.out.v0 HCA.out.v1 x.A x.n x.c x.l ((Kit.Reads.below HCA.out.list (hk13.below hBw)).more (by have := hk13.size; omega)) HCA.out.ents HLS.out (by omega)
            unfold Recd staV at hrec
            have HHRY := Lib.hid hry
            rw [hry] at hrec
            obtain ⟨OUT, hOUT⟩ : ∃ OUT, out s' x.term x.vote x.l = OUT := ⟨_, rfl⟩
            obtain ⟨full, hfull⟩ : ∃ full, savedS s' x.term x.vote x.l = full := ⟨_, rfl⟩
            have hruns := runs_out HOK.out HCA.out.term HCA.out.v0 HCA.out.v1 HCA.out.ents hry
            have hshort := out_short (s := s') (v := x.vote) HCA.out.term HCA.out.ents HLS.out
            have hOl := out_len s' x.term x.vote x.l
            rw [hOUT] at hrec hruns hy hshort hOl
            rw [hfull] at hrec
            have hsd : s'.snap.data.size ≤ 32768 := by obtain ⟨_, _, _, _, _, _, h6⟩ := HFI.out; exact h6
            have hsdata := data_right HOK.out
            have HREC := Lib.hid hrec
            have HS13 := Lib.hid hS13
            have HK13 := Lib.hid hk13
            have HY := Lib.hid hy
            have HRUNS := Lib.hid hruns
            have HSHORT := Lib.hid hshort
            have HSAY := Lib.hid hsay
            have HYM13 := Lib.hid hym13
            have HRE13 := Lib.hid hre13
            have HQ15 := Lib.hid q15
            have HOl : Hid (OUT.length ≤ 402) := by show _ ≤ _; have := HXN.out; omega
            have HSD := Lib.hid hsd
            have HSDA := Lib.hid hsdata
            have hltym13 := lt_at hym13
            clear hrec hS13 hk13 q14 q15 hre13 hym13 hry hruns hshort hy hsay hOUT hfull hOl hsd hsdata
            go_wp2_with fail
            refine HREC.out.mono ?_
            rintro e w14 ⟨O, on, oc, s2, A2, c2', rfl, hs2, hb14, hkin, hnew, hcap⟩
            obtain ⟨rfl, hon, hrs, _⟩ := hs2 (by trivial)
            have l15 : Below w14.heap.size w14 (w14.alloc (.cells #[.int .u64 (s2.term : Int), .int .i64 s2.vote, .int .u64 (s2.snap.idx : Int), .int .u64 (s2.snap.term : Int), .int .u64 (s2.snap.cfg : Int), .string s2.snap.data, .slice A2 s2.es.length c2'] 53)) := (Below.refl _ _).alloc (Nat.le_refl _) _
            obtain ⟨w15, hw15⟩ : ∃ w15, w14.alloc (.cells #[.int .u64 (s2.term : Int), .int .i64 s2.vote, .int .u64 (s2.snap.idx : Int), .int .u64 (s2.snap.term : Int), .int .u64 (s2.snap.cfg : Int), .string s2.snap.data, .slice A2 s2.es.length c2'] 53) = w15 := ⟨_, rfl⟩
            rw [hw15] at l15
            have HW15 := Lib.hid hw15
            have hb15 := hb14.trans (l15.mono hb14.size)
            have hB15 := hB13.trans (hb15.mono hB13.size)
            have hon4 : on ≤ 402 := by have := HOl.out; omega
            have HON := Lib.hid hon
            clear hon
            obtain ⟨wo, hwo⟩ : ∃ wo, wo = wr := ⟨_, rfl⟩
            subst hwo
            have hMS : MidS w.heap.size t b p (N + 2) m' s' A c (wo.heap.size + 1) O on OUT u' w15 0 (.slice (some ⟨ym, 0, none⟩) 1 1) := by
              refine ⟨[(s', (A, c))], X', L'', some ⟨ym, 0, none⟩, 1, rfl, ⟨mcells_length _, .inr ⟨ym, 1, _, rfl, hBym, (hb15.block _ hltym13).trans HYM13.out, Nat.le_refl _, by show 1 ≤ maxLen; decide, rfl, by simp [mcells]⟩⟩, HS13.out.below hb15, ?_, (hb15.block _ hlt15).trans HQ15.out, ?_, ?_, ?_, by simp, (fun jj h => absurd h (by omega)), rfl, ?_⟩
              · rintro g hg
                cases hg
                exact ⟨HXX.out _ hymX, by show ym ≠ _; omega, fun ad e => by have := (hnew ad e).1; show ad.block ≠ ym; omega⟩
              · exact ⟨(Kit.Reads.below hrs l15).more l15.size, fun ad e => Nat.lt_of_lt_of_le (hnew ad e).2 l15.size⟩
              · intro e he
                simp only [List.mem_singleton] at he
                subst he
                exact (Kit.Reads.below HRE13.out hb15).more hb15.size
              · intro e he hn0 ad hA
                simp only [List.mem_singleton] at he
                subst he
                intro e2
                cases e2
                exact HNE.out hn0 ad hA rfl
              · intro e he
                simp only [List.mem_singleton] at he
                subst he
                show s'.es.length ≤ 100000
                omega
            have HMS := Lib.hid hMS
            clear hMS hw15 l15 hs2 hrs hkin hnew d0 d1 d2 d3 d4 d5 d6 d7 t0 t1 t2 t3 t4 t5 t6
            go_wp2_with fail
            rw [HW15.out]
            go_loopw [12, 116] (fun v i wr => ∃ j : Nat, j ≤ on ∧ i = .int .i64 (j : Int) ∧ Hid (MidS w.heap.size t b p (N + 2) m' s' A c (wo.heap.size + 1) O on OUT u' wr j v) ∧ Below w.heap.size w wr ∧ w13.heap.size ≤ wr.heap.size) (fun _ i _ => on - (intOf i).toNat)
            case atStart => exact ⟨0, by omega, rfl, HMS, hB15, hb15.size⟩
            case round =>
              obtain ⟨j, hj, rfl, HMJ, hbj, hszj⟩ := hrel
              by_cases hjn : j < on
              · obtain ⟨l, X3, L3, Av, cv, rfl, hown, hS3', hoth, hq3, hO3, hREs, hnes, hin, hall, hll, hbd⟩ := HMJ.out
                obtain ⟨y5, hm5, hr5⟩ := HRUNS.out (j + 1)
                have hsaid := said_some HSBs.out HOK.out (by have := HSD.out; omega) hm5 hr5
                have hy5 : y5.es.length ≤ 100000 := by
                  have h1 := makes_len _ hm5
                  rw [List.length_take] at h1
                  omega
                have hlsd := fun W (hW : Below wr.heap.size wr W) => lsaid_any s' HSBs.out (fun e he => by have := HSDA.out e he; omega) (by have := HSD.out; omega) A s'.es.length c ((Kit.Reads.below (hREs _ hin) hW).more hW.size) (by omega) O (j + 1) oc (OUT.take (j + 1)) (rs_upto ((Kit.Reads.below hO3.1 hW).more hW.size) (by omega)) (by omega) (fun z hz => HSHORT.out z (List.mem_of_mem_take hz))
                rw [hsaid] at hlsd
                unfold SaidR staV at hlsd
                have hall7 : ∀ W, Below wr.heap.size wr W → W.cell? ⟨wo.heap.size + 1, 0, none⟩ = some (.int .u64 (s'.term : Int)) ∧ W.cell? ⟨wo.heap.size + 1, 1, none⟩ = some (.int .i64 s'.vote) ∧ W.cell? ⟨wo.heap.size + 1, 2, none⟩ = some (.int .u64 (s'.snap.idx : Int)) ∧ W.cell? ⟨wo.heap.size + 1, 3, none⟩ = some (.int .u64 (s'.snap.term : Int)) ∧ W.cell? ⟨wo.heap.size + 1, 4, none⟩ = some (.int .u64 (s'.snap.cfg : Int)) ∧ W.cell? ⟨wo.heap.size + 1, 5, none⟩ = some (.string s'.snap.data) ∧ W.cell? ⟨wo.heap.size + 1, 6, none⟩ = some (.slice A s'.es.length c) := fun W hW => by
                  have hc := (hW.block _ (lt_at hq3)).trans hq3
                  exact ⟨by rw [cell_at hc]; rfl, by rw [cell_at hc]; rfl, by rw [cell_at hc]; rfl, by rw [cell_at hc]; rfl, by rw [cell_at hc]; rfl, by rw [cell_at hc]; rfl, by rw [cell_at hc]; rfl⟩
                obtain ⟨e0, e1, e2, e3, e4, e5, e6⟩ := hall7 wr (Below.refl _ _)
                have hsl := fun W => run_upto O on oc (j + 1) (by omega) W
                rw [show ((j + 1 : Nat) : Int) = (j : Int) + 1 by omega] at hsl
                have hwr1 : IntKind.i64.wrap ((j : Int) + 1) = (j : Int) + 1 := by rw [IntKind.wrap_i64]; omega
                have l0 : Below wr.heap.size wr wr.drew := (Below.refl _ _).drew
                have l1 : Below wr.heap.size wr (wr.alloc (.cells #[.int .u64 0, .int .i64 0, .int .u64 0, .int .u64 0, .int .u64 0, .string ⟨#[]⟩, .slice none 0 0] 53)).drew := ((Below.refl _ _).alloc (Nat.le_refl _) _).drew
                have hz1 : (wr.alloc (.cells #[.int .u64 0, .int .i64 0, .int .u64 0, .int .u64 0, .int .u64 0, .string ⟨#[]⟩, .slice none 0 0] 53)).drew.heap[wr.heap.size]? = some (.cells #[.int .u64 0, .int .i64 0, .int .u64 0, .int .u64 0, .int .u64 0, .string ⟨#[]⟩, .slice none 0 0] 53 (0, 0)) := heap_alloc_new wr _
                have HALL7 := Lib.hid hall7
                have HLSD := Lib.hid hlsd
                have HM5 := Lib.hid hm5
                have HOLT : Hid (∀ g, (Value.slice Av l.length cv).ownBlock = some g → g < wr.heap.size) := fun g hg => (hown.lt g hg).2
                have HY5 := Lib.hid hy5
                have hBr : w.heap.size ≤ wr.heap.size := hbj.size
                have hltq := lt_at hq3
                have hll4 : l.length ≤ 1000 := by omega
                obtain ⟨nl5, hnl5⟩ : ∃ q, l.length = q := ⟨_, rfl⟩
                have HNL := Lib.hid hnl5
                rw [hnl5] at hll4 HOLT ⊢
                clear hall7 hlsd hm5 hr5 hsaid hown hS3' hoth hq3 hO3 hREs hnes hin hall hll hbd hnl5
                go_upto_region 31 with fail
                go_cut [21, 22] from 119 to 127 (fun v1 v2 wx => ∃ (ad : Nat) (A5 : Option Addr) (c5 : Nat), v1 = .pointer (some ⟨ad, 0, none⟩) ∧ v2 = .bool true ∧ wx.heap[ad]? = some (.cells #[.int .u64 (y5.term : Int), .int .i64 y5.vote, .int .u64 (y5.snap.idx : Int), .int .u64 (y5.snap.term : Int), .int .u64 (y5.snap.cfg : Int), .string y5.snap.data, .slice A5 y5.es.length c5] 53 (0, 0)) ∧ RE wx wx.heap.size A5 y5.es.length y5.es ∧ Below wr.heap.size wr wx ∧ ∀ a5, A5 = some a5 → wr.heap.size ≤ a5.block)
                case first =>
                  go_region_held3 (fun W => W.cell? ⟨wo.heap.size + 1, 0, none⟩ = some (.int .u64 (s'.term : Int)) ∧ W.cell? ⟨wo.heap.size + 1, 1, none⟩ = some (.int .i64 s'.vote) ∧ W.cell? ⟨wo.heap.size + 1, 2, none⟩ = some (.int .u64 (s'.snap.idx : Int)) ∧ W.cell? ⟨wo.heap.size + 1, 3, none⟩ = some (.int .u64 (s'.snap.term : Int)) ∧ W.cell? ⟨wo.heap.size + 1, 4, none⟩ = some (.int .u64 (s'.snap.cfg : Int)) ∧ W.cell? ⟨wo.heap.size + 1, 5, none⟩ = some (.string s'.snap.data) ∧ W.cell? ⟨wo.heap.size + 1, 6, none⟩ = some (.slice A s'.es.length c))
                    (first
                      | (with_reducible exact HALL7.out _ l0)
                      | (with_reducible exact HALL7.out _ l1)
                      | (with_reducible exact HALL7.out _ hB5)
                      | (with_reducible exact HALL7.out _ (hB5.alloc hB5.size _))
                      | (with_reducible exact HALL7.out _ (set7b hB5 (Nat.le_refl _))))
                    (first
                      | (go_at_call 26
                         (with_reducible refine (HLSD.out _ l0).mono ?_)
                         rintro e w5 ⟨s5, A5, c5, rfl, hs5, hre5, hb5, hk5⟩
                         obtain rfl := hs5 _ rfl
                         have hB5 : Below wr.heap.size wr w5 := l0.trans hb5)
                      | (go_at_call 26
                         (with_reducible refine (HLSD.out _ l1).mono ?_)
                         rintro e w5 ⟨s5, A5, c5, rfl, hs5, hre5, hb5, hk5⟩
                         obtain rfl := hs5 _ rfl
                         have hB5 : Below wr.heap.size wr w5 := l1.trans (hb5.mono l1.size)
                         have hz5 := (hb5.block wr.heap.size (lt_at hz1)).trans hz1
                         have y0 : w5.cell? ⟨wr.heap.size, 0, none⟩ = some (.int .u64 0) := by rw [cell_at hz5]; rfl
                         have y1 : w5.cell? ⟨wr.heap.size, 1, none⟩ = some (.int .i64 0) := by rw [cell_at hz5]; rfl
                         have y2 : w5.cell? ⟨wr.heap.size, 2, none⟩ = some (.int .u64 0) := by rw [cell_at hz5]; rfl
                         have y3 : w5.cell? ⟨wr.heap.size, 3, none⟩ = some (.int .u64 0) := by rw [cell_at hz5]; rfl
                         have y4 : w5.cell? ⟨wr.heap.size, 4, none⟩ = some (.int .u64 0) := by rw [cell_at hz5]; rfl
                         have y5 : w5.cell? ⟨wr.heap.size, 5, none⟩ = some (.string ⟨#[]⟩) := by rw [cell_at hz5]; rfl
                         have y6 : w5.cell? ⟨wr.heap.size, 6, none⟩ = some (.slice none 0 0) := by rw [cell_at hz5]; rfl
                         have fz := fun i => free_at hz5 i
                         have hlt5 := lt_at hz5))
                  · go_wp2_with fail
                    go_meet
                    have hn := heap_alloc_new w5 (.cells #[.int .u64 (s5.term : Int), .int .i64 s5.vote, .int .u64 (s5.snap.idx : Int), .int .u64 (s5.snap.term : Int), .int .u64 (s5.snap.cfg : Int), .string s5.snap.data, .slice A5 s5.es.length c5] 53)
                    have hl : Below w5.heap.size w5 (w5.alloc (.cells #[.int .u64 (s5.term : Int), .int .i64 s5.vote, .int .u64 (s5.snap.idx : Int), .int .u64 (s5.snap.term : Int), .int .u64 (s5.snap.cfg : Int), .string s5.snap.data, .slice A5 s5.es.length c5] 53)) := (Below.refl _ _).alloc (Nat.le_refl _) _
                    exact ⟨_, A5, c5, rfl, rfl, hn, (Kit.Reads.below hre5 hl).more hl.size, hB5.trans (hl.mono hB5.size), fun a5 e => by
                      rcases hk5 a5 e with ⟨h, _⟩ | h
                      · cases h
                      · exact h.1⟩
                  · go_wp2_with fail
                    go_meet
                    obtain ⟨hn, ho⟩ := Few.set7 hz5 rfl (.int .u64 (s5.term : Int)) (.int .i64 s5.vote) (.int .u64 (s5.snap.idx : Int)) (.int .u64 (s5.snap.term : Int)) (.int .u64 (s5.snap.cfg : Int)) (.string s5.snap.data) (.slice A5 s5.es.length c5)
                    have hA : 0 < s5.es.length → ∀ ad, A5 = some ad → ad.block ≠ wr.heap.size := fun _ ad e => by
                      rcases hk5 ad e with ⟨h, _⟩ | h
                      · cases h
                      · have h1 : wr.heap.size + 1 ≤ ad.block := by simpa using h.1
                        omega
                    exact ⟨_, A5, c5, rfl, rfl, hn, (re_only hre5 ho (Nat.le_refl _) hA).more ho.size, hB5.trans (ho.below hB5.size fun q hq => by omega), fun a5 e => by
                      rcases hk5 a5 e with ⟨h, _⟩ | h
                      · cases h
                      · exact Nat.le_trans l1.size h.1⟩
                case rest =>
                  obtain ⟨ad, A5, c5, rfl, rfl, hc5, hre5, hb5, hnew5⟩ := hcut
                  obtain ⟨l', X3, L3, Av', cv', he, hown, h3, h4, h5, h6, h7, h8, h9, h10, h11, h12⟩ := HMJ.out.below hb5
                  simp only [Value.slice.injEq] at he
                  obtain ⟨rfl, hlen, rfl⟩ := he
                  have HLEN : Hid (l'.length = nl5) := Lib.hid (hlen.symm.trans HNL.out)
                  have hown2 := hown
                  rw [HLEN.out] at hown2
                  have HFIN : Hid (∀ (A' : Option Addr) (c' : Nat) (w' : World), w'.ownsRow w.heap.size 53 7 (.slice A' (l'.length + 1) c') (l'.length + 1) (mcells (l' ++ [(y5, (A5, c5))])) → Only (fun z => (Value.slice Av l'.length cv).ownBlock = some z) wc w' → ((Value.slice A' (l'.length + 1) c').ownBlock = (Value.slice Av l'.length cv).ownBlock ∨ (Value.slice A' (l'.length + 1) c').ownBlock = some (wc.heap.size + 1)) → MidS w.heap.size t b p (N + 2) m' s' A c (wo.heap.size + 1) O on OUT u' w' (j + 1) (.slice A' (l'.length + 1) c')) := fun A' c' w' g1 g2 g3 =>
                    mid_next h3 h4 h5 h6 h7 h8 h9 h10 h11 h12 g1 g2 g3 hre5 (fun _ a5 e e' => by
                      have g4 := hnew5 a5 e
                      have g5 := HOLT.out a5.block (by rw [← HLEN.out]; exact e')
                      omega) HM5.out HY5.out
                  have d0 : wc.cell? ⟨ad, 0, none⟩ = some (.int .u64 (y5.term : Int)) := by rw [cell_at hc5]; rfl
                  have d1 : wc.cell? ⟨ad, 1, none⟩ = some (.int .i64 y5.vote) := by rw [cell_at hc5]; rfl
                  have d2 : wc.cell? ⟨ad, 2, none⟩ = some (.int .u64 (y5.snap.idx : Int)) := by rw [cell_at hc5]; rfl
                  have d3 : wc.cell? ⟨ad, 3, none⟩ = some (.int .u64 (y5.snap.term : Int)) := by rw [cell_at hc5]; rfl
                  have d4 : wc.cell? ⟨ad, 4, none⟩ = some (.int .u64 (y5.snap.cfg : Int)) := by rw [cell_at hc5]; rfl
                  have d5 : wc.cell? ⟨ad, 5, none⟩ = some (.string y5.snap.data) := by rw [cell_at hc5]; rfl
                  have d6 : wc.cell? ⟨ad, 6, none⟩ = some (.slice A5 y5.es.length c5) := by rw [cell_at hc5]; rfl
                  have hlt5 := lt_at hc5
                  have hbc := hb5.size
                  have HB5 := Lib.hid hb5
                  clear h3 h4 h5 h6 h7 h8 h9 h10 h11 h12 hown hc5 hre5 hnew5 hlen hb5
                  go_wp2_with
                    (at_builtin
                     refine wpList_state (.tmp 129) (.tmp 131) rfl rfl rfl HLEN hown2 (by omega) rfl rfl (by omega) ?_
                     intro A' c' w' hown' hk' hat' hsz')
                  have HB' : Hid (Below w.heap.size w w') := (hbj.trans (HB5.out.mono hbj.size)).trans (hk'.below (by omega) fun z hz => (hown2.lt z hz).1)
                  have HMN : Hid (MidS w.heap.size t b p (N + 2) m' s' A c (wo.heap.size + 1) O on OUT u' w' (j + 1) (.slice A' (nl5 + 1) c')) := by
                    have := HFIN.out A' c' w'
                    rw [HLEN.out] at this
                    exact this hown' hk' hat'
                  clear hown' hk' hat' hown2
                  go_roundw
                  case rel => exact ⟨j + 1, by omega, by go_num, HMN, HB'.out, by omega⟩
                  case measure => simp [intOf]; omega
              · obtain rfl : j = on := by omega
                obtain ⟨l, X3, L3, Av, cv, rfl, hown, hS3', hoth, hq3, hO3, hREs, hnes, hin, hall, hll, hbd⟩ := HMJ.out
                have HAF : Hid (After w.heap.size p keep w wr (.slice Av l.length cv)) := by
                  refine ⟨hbj, N + 2, L3, m', y, l, hS3'.disk, by omega, HSAY.out, ⟨Av, cv, rfl, Reads.of_own hown, hREs⟩, ?_, by omega, hbd⟩
                  rcases HY.out with rfl | ⟨jj, hjj, hmk⟩
                  · exact ⟨(y, (A, c)), hin, rfl⟩
                  · obtain ⟨e, he, hme⟩ := hall jj (by have := HON.out; omega)
                    rw [hmk] at hme
                    cases hme
                    exact ⟨e, he, rfl⟩
                have hll4 : l.length ≤ 9223372036854775807 := by omega
                clear hown hS3' hoth hq3 hO3 hREs hnes hin hall hbd
                go_wp2_with fail
                go_meet
                exact HAF.out
      · obtain rfl : k = mm := by omega
        have hfull : L.take k = L := List.take_of_length_le (by rw [HM.out]; exact Nat.le_refl _)
        have HAF : Hid (After w.heap.size p keep w wr (.slice (some ⟨ym, 0, none⟩) 1 1)) := by
          rw [hfull] at hF
          have hsl := hF.len
          exact ⟨hbel, N, L', m, s, [(s, (A, c))], hS.disk, by omega, fitf_end hF hS.ok (by omega) keep, may_one hym hre, ⟨(s, (A, c)), by simp, rfl⟩, by simp, fun e he => by simp only [List.mem_singleton] at he; subst he; show s.es.length ≤ 100000; omega⟩
        clear hS hF hym hre hout hne hfull
        go_wp2_with fail
        go_meet
        exact HAF.out
  case rest =>
    obtain ⟨hBc, N, LL, m, y, l, hD, hN, ⟨m', hsay⟩, ⟨A0, c0, rfl, hrd, hREs⟩, hin, hll, hbd⟩ := hcut
    have l20 : Below wc.heap.size wc (wc.alloc (.cells #[.int .i64 keep] 3)) := (Below.refl _ _).alloc (Nat.le_refl _) _
    have hrk : Reads (wc.alloc (.cells #[.int .i64 keep] 3)) (wc.alloc (.cells #[.int .i64 keep] 3)).heap.size 1 (some ⟨wc.heap.size, 0, none⟩) 1 (inums [keep]) := (reads_new wc (inums [keep]) 3).more (by simp)
    obtain ⟨w20, hw20⟩ : ∃ w20, wc.alloc (.cells #[.int .i64 keep] 3) = w20 := ⟨_, rfl⟩
    rw [hw20] at l20 hrk
    have HW20 := Lib.hid hw20
    have hD20 := hD.below l20
    have hB20 := hBc.trans (l20.mono hBc.size)
    obtain ⟨n, hn⟩ : ∃ n, l.length = n := ⟨_, rfl⟩
    rw [hn] at hrd hll ⊢
    have HN := Lib.hid hn
    have HRD := Lib.hid hrd
    have HREs := Lib.hid hREs
    have HIN := Lib.hid hin
    have HBD := Lib.hid hbd
    have HSAY := Lib.hid hsay
    clear hD hrd hREs hin hbd hsay hw20 hn
    go_wp2_with fail
    rw [HW20.out]
    refine (crash_low _ 1 1 [keep] hD20 hrk).mono ?_
    rintro e w21 ⟨p', rfl, hD21, hb21⟩
    have hB21 := hB20.trans (hb21.mono hB20.size)
    have hg20 := Nat.lt_of_lt_of_le hg hB20.size
    go_wp2_with fail
    refine (open_lit hD21 (Tab.next HT.out hB21) hg20 (by omega) 0 7 (by decide) HSAY).mono ?_
    rintro e w22 ⟨t2, b2, L2, v2, A2, c2, rfl, hS22, hre22, hk22, _, hes2⟩
    have hb22 := hk22.below hD21.low
    have hB22 := hB20.trans ((hb21.trans hb22).mono hB20.size)
    have l23 : Below w22.heap.size w22 (w22.alloc (.cells #[.int .u64 (y.term : Int), .int .i64 y.vote, .int .u64 (y.snap.idx : Int), .int .u64 (y.snap.term : Int), .int .u64 (y.snap.cfg : Int), .string y.snap.data, .slice A2 y.es.length c2] 45)) := (Below.refl _ _).alloc (Nat.le_refl _) _
    have h23 := heap_alloc_new w22 (.cells #[.int .u64 (y.term : Int), .int .i64 y.vote, .int .u64 (y.snap.idx : Int), .int .u64 (y.snap.term : Int), .int .u64 (y.snap.cfg : Int), .string y.snap.data, .slice A2 y.es.length c2] 45)
    obtain ⟨w23, hw23⟩ : ∃ w23, w22.alloc (.cells #[.int .u64 (y.term : Int), .int .i64 y.vote, .int .u64 (y.snap.idx : Int), .int .u64 (y.snap.term : Int), .int .u64 (y.snap.cfg : Int), .string y.snap.data, .slice A2 y.es.length c2] 45) = w23 := ⟨_, rfl⟩
    rw [hw23] at l23 h23
    have HW23 := Lib.hid hw23
    have hbc23 : Below wc.heap.size wc w23 := l20.trans (((hb21.trans hb22).trans (l23.mono (hb21.trans hb22).size)).mono l20.size)
    have hB23 := hBc.trans (hbc23.mono hBc.size)
    have hrd23 := (Kit.Reads.below HRD.out hbc23).more hbc23.size
    have hre23 := (Kit.Reads.below hre22 l23).more l23.size
    have HRD23 := Lib.hid hrd23
    have HRE23 := Lib.hid hre23
    have H23 := Lib.hid h23
    have hlt23 := lt_at h23
    have HES : Hid (y.es.length ≤ 1048576) := hes2
    clear hD20 hrk hD21 hS22 hre22 hk22 hw23 h23 hrd23 hre23 l23 l20 hes2
    unfold staV
    go_wp2_with fail
    rw [HW23.out]
    go_loopw [148] (fun i wr => ∃ k : Nat, k ≤ n ∧ i = .int .i64 (k : Int) ∧ Hid (∀ jj e, jj < k → l[jj]? = some e → e.1 ≠ y) ∧ Below w23.heap.size w23 wr) (fun i _ => n - (intOf i).toNat)
    case atStart => exact ⟨0, by omega, rfl, Lib.hid (fun jj e h => absurd h (by omega)), Below.refl _ _⟩
    case round =>
      obtain ⟨k, hk, rfl, HNE, hbel⟩ := hrel
      by_cases hkn : k < n
      · obtain ⟨bb, o, e, rfl, hbl, hek, f0, f1, f2, f3, f4, f5, f6⟩ := May.at_ (c := c0) HRD23.out HN.out hkn
        have s0 : wr.cell? ⟨bb, o + k * 7, none⟩ = some (.int .u64 (e.1.term : Int)) := (hbel.cell (p := ⟨bb, o + k * 7, none⟩) hbl).trans f0
        have s1 : wr.cell? ⟨bb, o + k * 7 + 1, none⟩ = some (.int .i64 e.1.vote) := (hbel.cell (p := ⟨bb, o + k * 7 + 1, none⟩) hbl).trans f1
        have s2 : wr.cell? ⟨bb, o + k * 7 + 2, none⟩ = some (.int .u64 (e.1.snap.idx : Int)) := (hbel.cell (p := ⟨bb, o + k * 7 + 2, none⟩) hbl).trans f2
        have s3 : wr.cell? ⟨bb, o + k * 7 + 3, none⟩ = some (.int .u64 (e.1.snap.term : Int)) := (hbel.cell (p := ⟨bb, o + k * 7 + 3, none⟩) hbl).trans f3
        have s4 : wr.cell? ⟨bb, o + k * 7 + 4, none⟩ = some (.int .u64 (e.1.snap.cfg : Int)) := (hbel.cell (p := ⟨bb, o + k * 7 + 4, none⟩) hbl).trans f4
        have s5 : wr.cell? ⟨bb, o + k * 7 + 5, none⟩ = some (.string e.1.snap.data) := (hbel.cell (p := ⟨bb, o + k * 7 + 5, none⟩) hbl).trans f5
        have s6 : wr.cell? ⟨bb, o + k * 7 + 6, none⟩ = some (.slice e.2.1 e.1.es.length e.2.2) := (hbel.cell (p := ⟨bb, o + k * 7 + 6, none⟩) hbl).trans f6
        have hem := List.mem_of_getElem? hek
        have hebd := HBD.out e hem
        have l24 : Below wr.heap.size wr (wr.alloc (.cells #[.int .u64 (e.1.term : Int), .int .i64 e.1.vote, .int .u64 (e.1.snap.idx : Int), .int .u64 (e.1.snap.term : Int), .int .u64 (e.1.snap.cfg : Int), .string e.1.snap.data, .slice e.2.1 e.1.es.length e.2.2] 53)) := (Below.refl _ _).alloc (Nat.le_refl _) _
        have h24 := heap_alloc_new wr (.cells #[.int .u64 (e.1.term : Int), .int .i64 e.1.vote, .int .u64 (e.1.snap.idx : Int), .int .u64 (e.1.snap.term : Int), .int .u64 (e.1.snap.cfg : Int), .string e.1.snap.data, .slice e.2.1 e.1.es.length e.2.2] 53)
        obtain ⟨w24, hw24⟩ : ∃ w24, wr.alloc (.cells #[.int .u64 (e.1.term : Int), .int .i64 e.1.vote, .int .u64 (e.1.snap.idx : Int), .int .u64 (e.1.snap.term : Int), .int .u64 (e.1.snap.cfg : Int), .string e.1.snap.data, .slice e.2.1 e.1.es.length e.2.2] 53) = w24 := ⟨_, rfl⟩
        rw [hw24] at l24 h24
        have hB24 := hbel.trans (l24.mono hbel.size)
        have q23 := (hB24.block _ hlt23).trans H23.out
        have hre24 := (Kit.Reads.below HRE23.out hB24).more hB24.size
        have hre25 := (Kit.Reads.below (HREs.out e hem) (hbc23.trans (hB24.mono hbc23.size))).more (hbc23.trans (hB24.mono hbc23.size)).size
        have hsame := same_any (ca := c2) (cc := e.2.2) y e.1 hre24 hre25 (by have := HES.out; omega) (by omega)
        unfold staV at hsame
        obtain ⟨ye, Ae, ce⟩ := e
        simp only at *
        have z0 : w24.cell? ⟨w22.heap.size, 0, none⟩ = some (.int .u64 (y.term : Int)) := by rw [cell_at q23]; rfl
        have z1 : w24.cell? ⟨w22.heap.size, 1, none⟩ = some (.int .i64 y.vote) := by rw [cell_at q23]; rfl
        have z2 : w24.cell? ⟨w22.heap.size, 2, none⟩ = some (.int .u64 (y.snap.idx : Int)) := by rw [cell_at q23]; rfl
        have z3 : w24.cell? ⟨w22.heap.size, 3, none⟩ = some (.int .u64 (y.snap.term : Int)) := by rw [cell_at q23]; rfl
        have z4 : w24.cell? ⟨w22.heap.size, 4, none⟩ = some (.int .u64 (y.snap.cfg : Int)) := by rw [cell_at q23]; rfl
        have z5 : w24.cell? ⟨w22.heap.size, 5, none⟩ = some (.string y.snap.data) := by rw [cell_at q23]; rfl
        have z6 : w24.cell? ⟨w22.heap.size, 6, none⟩ = some (.slice A2 y.es.length c2) := by rw [cell_at q23]; rfl
        have v0 : w24.cell? ⟨wr.heap.size, 0, none⟩ = some (.int .u64 (ye.term : Int)) := by rw [cell_at h24]; rfl
        have v1 : w24.cell? ⟨wr.heap.size, 1, none⟩ = some (.int .i64 ye.vote) := by rw [cell_at h24]; rfl
        have v2 : w24.cell? ⟨wr.heap.size, 2, none⟩ = some (.int .u64 (ye.snap.idx : Int)) := by rw [cell_at h24]; rfl
        have v3 : w24.cell? ⟨wr.heap.size, 3, none⟩ = some (.int .u64 (ye.snap.term : Int)) := by rw [cell_at h24]; rfl
        have v4 : w24.cell? ⟨wr.heap.size, 4, none⟩ = some (.int .u64 (ye.snap.cfg : Int)) := by rw [cell_at h24]; rfl
        have v5 : w24.cell? ⟨wr.heap.size, 5, none⟩ = some (.string ye.snap.data) := by rw [cell_at h24]; rfl
        have v6 : w24.cell? ⟨wr.heap.size, 6, none⟩ = some (.slice Ae ye.es.length ce) := by rw [cell_at h24]; rfl
        have hltz := lt_at q23
        have hltv := lt_at h24
        rw [← hw24] at z0 z1 z2 z3 z4 z5 z6 v0 v1 v2 v3 v4 v5 v6 hltz hltv
        have HSM := Lib.hid hsame
        have HW24 := Lib.hid hw24
        have HEK := Lib.hid hek
        clear hsame hw24 q23 h24 l24 hre24 hre25 hek hem f0 f1 f2 f3 f4 f5 f6
        go_wp2_with fail
        rw [HW24.out]
        refine HSM.out.mono ?_
        rintro e w25 ⟨q, rfl, hq, hb25⟩
        have hB25 := hB24.trans (hb25.mono hB24.size)
        cases q with
        | true =>
          clear hq
          go_wp2
          go_ret
          exact ⟨rfl, hB23.trans (hB25.mono hB23.size)⟩
        | false =>
          have HNE2 : Hid (∀ jj e, jj < k + 1 → l[jj]? = some e → e.1 ≠ y) := fun jj e' hj he' => by
            by_cases h : jj < k
            · exact HNE.out jj e' h he'
            · obtain rfl : jj = k := by omega
              rw [HEK.out] at he'
              cases he'
              intro h1
              have := hq h1.symm
              cases this
          clear hq z0 z1 z2 z3 z4 z5 z6 v0 v1 v2 v3 v4 v5 v6
          go_wp2_with fail
          go_roundw
          case rel => exact ⟨k + 1, by omega, by go_num, HNE2, hB25⟩
          case measure => simp [intOf]; omega
      · exfalso
        obtain rfl : k = n := by omega
        obtain ⟨e, he, hey⟩ := HIN.out
        obtain ⟨jj, hjj, hje⟩ := List.getElem_of_mem he
        exact HNE.out jj e (by have := HN.out; omega) (by rw [List.getElem?_eq_getElem hjj, hje]) hey
theorem small {H : Type} {d : DataW H} {l : List (DataW H)} {a : Nat} (h : a ≤ Rows.uptoBulk d) (hall : Rows.uptoBulkAll (d :: l) ≤ 1048576) : a ≤ 1048576 := by
  simp only [Rows.uptoBulkAll] at hall
  omega
end Go.Proofs.YtamncdpeklbhlaaGreatDoor.LawF
namespace Go.Proofs.YtamncdpeklbhlaaGreatDoor.PStoreLastsUpto
open Go.ChangeShapes Go.WideShapes Go.ChangeAt Go.RowKit Go.Proofs.YtamncdpeklbhlaaGreatDoor.Kit Go.Proofs.YtamncdpeklbhlaaGreatDoor.Frame
set_option linter.unusedVariables false

theorem own : ownKnob Tryz.prog.godebug = none := by kernel_rfl
theorem laidOut : laidOutB Tryz.prog = true := by kernel_rfl

set_option maxRecDepth 100000 in
theorem contract (H : Type) (enc : TypeId × Value → H) (W : World) (base : Nat) (args : Array Value) (ds gs : List (DataW H)) (before : List MemPlace)
    (hval : ∀ (j : Nat) t v, Tryz.f5.params[j]? = some t → args[j]? = some v → Value.okWide Tryz.prog W .any base t v)
    (hW : DataW.Whole enc Tryz.prog Tryz.f5.params.toList Rows.storeLastsSpec.vars false W args.toList ds gs before)
    (hk : Rows.uptoSmall H (ds ++ gs) = true)
    (hs0 : (DataW.weightsEach Tryz.prog (Tryz.f5.params.toList ++ (Rows.OpenSpec.upto Rows.storeLastsSpec).bare.plain.varTypes Tryz.prog) (ds ++ gs)).all (· ≤ reachBytes) = true)
    (hL : laidMetH Tryz.prog Rows.storeLastsUptoRow.laid W) :
    Calls Tryz.prog 5 args W fun e W' => ∃ v, e = .returned v ∧ Rows.storeLastsSpec.post enc Tryz.prog Tryz.f5 false true false false W args v W' := by
  have hW' := hW
  obtain ⟨p, q, hA0, hV, rfl, hfz, hnd⟩ := hW
  have hA : DataW.TrodAll enc Tryz.prog W 0 (fun _ => true) true Tryz.f5.params.toList args.toList ds p := hA0
  rw [Tryz.params5] at hA hval
  obtain ⟨v0, vs0, d0, ds0, p0, q0, hargs, rfl, rfl, h0, r0⟩ := trodAll_cons hA
  obtain ⟨v1, vs1, d1, ds1, p1, q1, rfl, rfl, rfl, h1, r1⟩ := trodAll_cons r0
  obtain ⟨v2, vs2, d2, ds2, p2, q2, rfl, rfl, rfl, h2, r2⟩ := trodAll_cons r1
  obtain ⟨rfl, rfl, rfl⟩ := trodAll_nil r2
  obtain rfl : args = #[v0, v1, v2] := by cases args; simp_all
  obtain ⟨rfl, rfl⟩ := trodVars_none hV
  have lt0 : ∀ x ∈ p0, x.block < W.heap.size := by obtain ⟨m, hm⟩ := h0; exact DataW.trod_lt m _ _ _ hm
  obtain ⟨C0, m0, cc0, L0, rfl, hh0_0, hm0_1, d0_2⟩ := Opens.arg_calls (hval 0 22 v0 rfl rfl) h0
  have lt1 : ∀ x ∈ p1, x.block < W.heap.size := by obtain ⟨m, hm⟩ := h1; exact DataW.trod_lt m _ _ _ hm
  obtain ⟨z1, rfl, hz01_0, hz11_1⟩ := Opens.arg_int (hval 1 3 v1 rfl rfl) h1
  have lt2 : ∀ x ∈ p2, x.block < W.heap.size := by obtain ⟨m, hm⟩ := h2; exact DataW.trod_lt m _ _ _ hm
  obtain ⟨z2, rfl, hz02_0, hz12_1⟩ := Opens.arg_int (hval 2 3 v2 rfl rfl) h2
  have hall : Rows.uptoBulkAll _ ≤ 1048576 := of_decide_eq_true hk
  clear hA0
  refine (LawF.lasts_mid C0 m0 cc0 L0 z1 z2 W hh0_0 hm0_1 hz01_0 hz11_1 hz02_0 hz12_1 (LawF.small d0_2 hall) (Laid.tab_of_laid hL)).mono fun e W' ⟨he, bel⟩ => ?_
  subst he
  exact ⟨_, rfl, _, _, _, [], _, [], hW', trodAll_mk1 (shut_bool Tryz.underlying4 _), (trodAll_cons_mk (Below.trod laidOut (by kernel_rfl) (of_decide_eq_true (by kernel_rfl)) h0 bel lt0) (trodAll_cons_mk (Below.trod laidOut (by kernel_rfl) (of_decide_eq_true (by kernel_rfl)) h1 bel lt1) (trodAll_cons_mk (Below.trod laidOut (by kernel_rfl) (of_decide_eq_true (by kernel_rfl)) h2 bel lt2) trodAll_mk0))), rfl, bel.frame _, fun h => by cases h⟩

theorem laid_met (os : Os) : laidMet Tryz.prog Rows.storeLastsUptoRow.laid (((Laid.laidWorld os)).forCall (fun _ _ => 0) ⟨#[], #[.slice none 0 0, .int .i64 0, .int .i64 0], []⟩).memory :=
  laidMet_of_run' 8 (by kernel_rfl) (by kernel_rfl)
theorem reads (os : Os) {H : Type} (enc : TypeId × Value → H) : ∃ places, DataW.whole enc Tryz.prog ((Laid.laidWorld os).forCall (fun _ _ => 0) ⟨#[], #[.slice none 0 0, .int .i64 0, .int .i64 0], []⟩).memory Tryz.f5.params.toList Rows.storeLastsSpec.vars false (#[.slice none 0 0, .int .i64 0, .int .i64 0] : Array Value).toList 8 = some ([.nil, .lit (.int .i64 0), .lit (.int .i64 0)], [], places) :=
  ⟨[], by kernel_rfl⟩

set_option maxRecDepth 100000 in
theorem lifted (os : Os) (started : os.Started) (H : Type) (enc : TypeId × Value → H) (F : Stop.Interp) :
    ReturnsInHanded {} Tryz.checked os 5 .any ((Rows.OpenSpec.upto Rows.storeLastsSpec).preRow enc Tryz.prog Tryz.f5 Rows.storeLastsUptoRow.domain false Rows.storeLastsUptoRow.laid) (((Rows.OpenSpec.upto Rows.storeLastsSpec).at F).post enc Tryz.prog Tryz.f5 false true false false) := by
  obtain ⟨places, hx⟩ := reads os enc
  refine returnsInHanded_of_row (C := Tryz.checked) (s := (Rows.OpenSpec.upto Rows.storeLastsSpec)) own started (by kernel_rfl) Tryz.func5
    (witness_row_at (enc := enc) (C := Tryz.checked) false (Laid.laidWorld os) #[.slice none 0 0, .int .i64 0, .int .i64 0] rfl (by kernel_rfl) (by kernel_rfl) (by kernel_rfl)
      (OpenSpec.preRow_of_cond 8 hx (by kernel_rfl) (fun k hk => by cases hk; kernel_rfl) (by kernel_rfl) (laid_met os))) ?_
  intro W base args ds gs before hval hW _ hcond hsz hL _ _
  exact contract H enc W base args ds gs before hval hW (hcond _ rfl) hsz hL

theorem over : Rows.StoreLastsUptoSaid :=
  OpenClaim.holds_of_cond 5 Tryz.f5 rfl rfl rfl rfl rfl rfl rfl ⟨rfl, rfl, rfl, rfl, rfl⟩ rfl rfl rfl rfl rfl (by kernel_rfl) Tryz.func5 (by kernel_rfl)
    (of_decide_eq_true (by kernel_rfl)) (by unfold Func.isWrapper; first | (rw [if_pos (by decide +kernel)]; kernel_rfl) | (rw [if_neg (by decide +kernel)]; exact ⟨rfl, rfl⟩))
    (fun os started H enc _ F => by rw [OpenClaim.pre_eq_preRow]; exact lifted os started H enc F)

theorem plain (f : FuncId) (fn : Func) (hf : Tryz.pinned.checked.prog.funcNamed "tontine/tontinelaw08.StoreLasts" = some f) (hfn : Tryz.pinned.checked.prog.funcs[f]? = some fn) :
    false = Tryz.pinned.checked.prog.looks [] ∧ ∀ (j : Nat) t, fn.params[j]? = some t → Tryz.pinned.checked.prog.wantsStandIn t = false := by
  obtain rfl : f = 5 := Option.some.inj ((show Tryz.prog.funcNamed "tontine/tontinelaw08.StoreLasts" = some 5 by kernel_rfl).symm.trans hf) |>.symm
  obtain rfl : fn = Tryz.f5 := (Option.some.inj (Tryz.func5.symm.trans hfn)).symm
  refine ⟨by kernel_rfl, fun j t ht => ?_⟩
  rw [Tryz.params5] at ht
  have hm : t ∈ [22, 3, 3] := by simpa using Array.mem_of_getElem? ht
  have hall : (([22, 3, 3] : List TypeId).all fun u => !Tryz.prog.wantsStandIn u) = true := by kernel_rfl
  exact (show Tryz.prog.wantsStandIn t = false by simpa using List.all_eq_true.1 hall t hm)

theorem proved : Rows.StoreLastsUptoCardSaid :=
  Claim7.holds_tied_plain_at .later [] _ _ _ _ over (fun _ h => by cases h) (by kernel_rfl) (fun _ h => by cases h) storeLastsUpto_row_tie rfl ⟨rfl, rfl⟩ (by kernel_rfl) rfl plain (by kernel_rfl)
end Go.Proofs.YtamncdpeklbhlaaGreatDoor.PStoreLastsUpto
