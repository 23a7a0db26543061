/- The walk of the statement that a file of any records is opened, or refused, as the document has it. -/
import Derived.Test.YtamncdpeklbhlaaGreatDoorGT
import Derived.Test.YtamncdpeklbhlaaGreatDoorGC
import Derived.Test.YtamncdpeklbhlaaGreatDoorScA
import Derived.BigRegion
import Derived.Test.YtamncdpeklbhlaaGreatDoorGB
import Derived.Test.YtamncdpeklbhlaaGreatDoorGA
set_option linter.unusedVariables false
set_option linter.unusedSimpArgs false
namespace Go.Proofs.YtamncdpeklbhlaaGreatDoor.RSaid
open Go.RowKit Go.Proofs.YtamncdpeklbhlaaGreatDoor.Kit Go.Proofs.YtamncdpeklbhlaaGreatDoor.Blocks Go.Proofs.YtamncdpeklbhlaaGreatDoor.Rlog Go.Proofs.YtamncdpeklbhlaaGreatDoor.Sto Go.Proofs.YtamncdpeklbhlaaGreatDoor.Sav Go.Proofs.YtamncdpeklbhlaaGreatDoor.Ents Go.Proofs.YtamncdpeklbhlaaGreatDoor.Hold Go.Proofs.YtamncdpeklbhlaaGreatDoor.RTake Go.Proofs.YtamncdpeklbhlaaGreatDoor.RTakeB Go.Proofs.YtamncdpeklbhlaaGreatDoor.RRight Go.Proofs.YtamncdpeklbhlaaGreatDoor.ScA Go.Proofs.YtamncdpeklbhlaaGreatDoor.Open
open Go.Proofs.YtamncdpeklbhlaaGreatDoor.PckWalkH (str)

/-- What is said: a state, and whether it is one. -/
def SaidR (w : World) (o : Option Sta) (e : Ending) (w' : World) : Prop := ∃ (s : Sta) (A : Option Addr) (c : Nat), e = .returned (.tuple #[staV s A s.es.length c, .bool o.isSome]) ∧ (∀ x, o = some x → s = x) ∧ RE w' w'.heap.size A s.es.length s.es ∧ Below w.heap.size w w' ∧ Kin w w' none [] A s.es
/-- A block of a state, whose entries lie somewhere. -/
structure Box (W : World) (b : Nat) (s : Sta) (A : Option Addr) (c : Nat) : Prop where
  cell : W.heap[b]? = some (.cells #[.int .u64 (s.term : Int), .int .i64 s.vote, .int .u64 (s.snap.idx : Int), .int .u64 (s.snap.term : Int), .int .u64 (s.snap.cfg : Int), .string s.snap.data, .slice A s.es.length c] 53 (0, 0))
  re : RE W W.heap.size A s.es.length s.es
  ne : 0 < s.es.length → ∀ ad, A = some ad → ad.block ≠ b
/-- Entries that lie elsewhere stay. -/
theorem re_only {S : Nat → Prop} {w w' : World} {D n : Nat} {A : Option Addr} {l : List Ent} (hr : RE w D A n l) (k : Only S w w') (hD : D ≤ w.heap.size) (h : 0 < n → ∀ ad, A = some ad → ¬ S ad.block) : RE w' D A n l :=
  ⟨hr.1, fun hn => by
    obtain ⟨ad, e, hb, hc⟩ := hr.2 hn
    exact ⟨ad, e, hb, fun i u hi => (k.cell (p := ad.add i) (by rw [block_of_add]; omega) (by rw [block_of_add]; exact h hn ad e)).trans (hc i u hi)⟩⟩
section
variable {W W' : World} {b : Nat} {s : Sta} {A : Option Addr} {c : Nat}
theorem Box.lt (h : Box W b s A c) : b < W.heap.size := lt_at h.cell
theorem Box.below (h : Box W b s A c) (k : Below W.heap.size W W') : Box W' b s A c := ⟨(k.block b h.lt).trans h.cell, (Kit.Reads.below h.re k).more k.size, h.ne⟩
end
/-- What stands behind one record more: the new state in a block of its own. -/
def Next (wr W : World) (A : Option Addr) (l : List Ent) (p : Sta × Bool) (v8 v9 : Value) : Prop := ∃ (a : Nat) (s' : Sta) (A' : Option Addr) (c' : Nat), v8 = .pointer (some ⟨a, 0, none⟩) ∧ v9 = .bool p.2 ∧ (p.2 = true → s' = p.1) ∧ wr.heap.size ≤ a ∧ Box W a s' A' c' ∧ Below wr.heap.size wr W ∧ Kin wr W A l A' s'.es
/-- The state's cells, read. -/
def Cells7 (W : World) (b : Nat) (s : Sta) (A : Option Addr) (c : Nat) : Prop :=
  W.cell? ⟨b, 0, none⟩ = some (.int .u64 (s.term : Int)) ∧ W.cell? ⟨b, 1, none⟩ = some (.int .i64 s.vote) ∧ W.cell? ⟨b, 2, none⟩ = some (.int .u64 (s.snap.idx : Int)) ∧ W.cell? ⟨b, 3, none⟩ = some (.int .u64 (s.snap.term : Int)) ∧
  W.cell? ⟨b, 4, none⟩ = some (.int .u64 (s.snap.cfg : Int)) ∧ W.cell? ⟨b, 5, none⟩ = some (.string s.snap.data) ∧ W.cell? ⟨b, 6, none⟩ = some (.slice A s.es.length c)
theorem Box.cells {W : World} {b : Nat} {s : Sta} {A : Option Addr} {c : Nat} (h : Box W b s A c) : Cells7 W b s A c :=
  ⟨by rw [cell_at h.cell]; rfl, by rw [cell_at h.cell]; rfl, by rw [cell_at h.cell]; rfl, by rw [cell_at h.cell]; rfl, by rw [cell_at h.cell]; rfl, by rw [cell_at h.cell]; rfl, by rw [cell_at h.cell]; rfl⟩

theorem set7b {B b : Nat} {w w' : World} (h : Below B w w') (hb : B ≤ b) {a0 a1 a2 a3 a4 a5 a6 : Value} : Below B w (((((((w'.setCell ⟨b, 0, none⟩ a0).setCell ⟨b, 1, none⟩ a1).setCell ⟨b, 2, none⟩ a2).setCell ⟨b, 3, none⟩ a3).setCell ⟨b, 4, none⟩ a4).setCell ⟨b, 5, none⟩ a5).setCell ⟨b, 6, none⟩ a6) :=
  ((((((h.setCell (p := ⟨b, 0, none⟩) hb a0).setCell (p := ⟨b, 1, none⟩) hb a1).setCell (p := ⟨b, 2, none⟩) hb a2).setCell (p := ⟨b, 3, none⟩) hb a3).setCell (p := ⟨b, 4, none⟩) hb a4).setCell (p := ⟨b, 5, none⟩) hb a5).setCell (p := ⟨b, 6, none⟩) hb a6

set_option maxRecDepth 100000 in
set_option maxHeartbeats 8000000 in
theorem rsaid_any (m : Nat) (hm : m < 18446744073709551616) (T : Option Addr) (n cc : Nat) (l : List (List UInt8)) (w : World) (hl : RS w T n l) (hn : n ≤ 1048576) (hx : ∀ x ∈ l, x.length ≤ 281474976710656) :
    Calls Tryz.prog 34 #[.int .u64 (m : Int), .slice T n cc] w (SaidR w (said m l)) := by
  have hln := texts_len hl
  have HL := Lib.hid hl
  have HLN := Lib.hid hln
  have HX := Lib.hid hx
  obtain ⟨o, ho⟩ : ∃ o, said m l = o := ⟨_, rfl⟩
  have HO := Lib.hid ho
  rw [ho]
  have hba : Below w.heap.size w (w.alloc (.cells #[.int .u64 0, .int .i64 0, .int .u64 0, .int .u64 0, .int .u64 0, .string ⟨#[]⟩, .slice none 0 0] 53)) := (Below.refl _ _).alloc (Nat.le_refl _) _
  have hcz := heap_alloc_new w (.cells #[.int .u64 0, .int .i64 0, .int .u64 0, .int .u64 0, .int .u64 0, .string ⟨#[]⟩, .slice none 0 0] 53)
  obtain ⟨w0, hw0⟩ : ∃ w0, w.alloc (.cells #[.int .u64 0, .int .i64 0, .int .u64 0, .int .u64 0, .int .u64 0, .string ⟨#[]⟩, .slice none 0 0] 53) = w0 := ⟨_, rfl⟩
  rw [hw0] at hba hcz
  have HW0 := Lib.hid hw0
  have HCZ := Lib.hid hcz
  have HBA := Lib.hid hba
  clear hl hln hx ho hw0 hcz hba
  go_enter Tryz.func34, Tryz.ntmps34
  go_wp2_with fail
  rw [HW0.out]
  refine (rfirst_any m _ hm).mono ?_
  rintro e w1 ⟨rfl, hb1⟩
  unfold staV
  simp only [first, List.length_nil]
  have hba1 := HBA.out.trans (hb1.mono HBA.out.size)
  have l2 : Below w1.heap.size w1 (w1.alloc (.cells #[.int .u64 0, .int .i64 (-1), .int .u64 0, .int .u64 0, .int .u64 (m : Int), .string ByteArray.empty, .slice none 0 0] 53)) := (Below.refl _ _).alloc (Nat.le_refl _) _
  have hbx : Box (w1.alloc (.cells #[.int .u64 0, .int .i64 (-1), .int .u64 0, .int .u64 0, .int .u64 (m : Int), .string ByteArray.empty, .slice none 0 0] 53)) w1.heap.size (first m) none 0 := ⟨heap_alloc_new w1 _, RE.nil _ _ _, (fun _ _ e => by cases e)⟩
  have hbx2 : Below w0.heap.size w0 (w1.alloc (.cells #[.int .u64 0, .int .i64 (-1), .int .u64 0, .int .u64 0, .int .u64 (m : Int), .string ByteArray.empty, .slice none 0 0] 53)) := hb1.trans (l2.mono hb1.size)
  have h01 := hb1.size
  have hw01 : w.heap.size < w0.heap.size := lt_at HCZ.out
  go_wp2_with fail
  go_loopw [7] (fun i wr => ∃ (j : Nat) (st : Sta) (A : Option Addr) (c : Nat), j ≤ n ∧ i = .int .i64 (j : Int) ∧ Box wr w1.heap.size st A c ∧ Hid (makes (first m) (l.take j) = some st) ∧ Below w0.heap.size w0 wr ∧ Kin w0 wr none [] A st.es) (fun i _ => n - (intOf i).toNat)
  case atStart => exact ⟨0, first m, none, 0, Nat.zero_le _, rfl, hbx, Lib.hid rfl, hbx2, Kin.none_ _ _ _ _ _⟩
  case round =>
    obtain ⟨j, st, A, c, hj, rfl, hbox, HMK, hbel, hkin⟩ := hrel
    clear hbx hbx2
    have hstl := makes_len _ HMK.out
    have hstb := makes_b _ (first_b hm) (fun x hx' => by have := HX.out x (List.mem_of_mem_take hx'); omega) HMK.out
    have hstn : st.es.length ≤ 1048576 := by
      rw [List.length_take] at hstl
      have : (first m).es.length = 0 := rfl
      omega
    by_cases hjn : j < n
    · have hjl : j < l.length := by rw [HLN.out]; exact hjn
      obtain ⟨bx, ox, rfl, hbx, hcx⟩ := Reads.text HL.out hjn hjl
      have hbw : Below w.heap.size w wr := HBA.out.trans (hbel.mono HBA.out.size)
      have hcr : wr.cell? ⟨bx, ox + j, none⟩ = some (.string (str l[j])) := (hbw.cell (p := ⟨bx, ox + j, none⟩) hbx).trans hcx
      have hgj : l[j]? = some l[j] := List.getElem?_eq_getElem hjl
      have hxs : (str l[j]).size ≤ 281474976710656 := by rw [PckWalkH.str_size]; exact HX.out _ (List.getElem_mem hjl)
      obtain ⟨x, hx⟩ : ∃ x, l[j] = x := ⟨_, rfl⟩
      rw [hx] at hcr hgj hxs
      obtain ⟨S, hS⟩ : ∃ S, str x = S := ⟨_, rfl⟩
      have HS := Lib.hid hS
      obtain ⟨q, hq⟩ : ∃ q, (say st S).2 = q := ⟨_, rfl⟩
      have htk := fun W (hW : Below wr.heap.size wr W) => rtake_any (c := c) (b := S) ((hbox.below hW).re) (by rw [← hS]; exact hxs) (by omega)
      unfold RTook at htk
      rw [hq] at htk
      rw [hS] at hcr
      have HGJ := Lib.hid hgj
      have HQ := Lib.hid hq
      have HBX := Lib.hid hbox
      have hlt6 := hbox.lt
      have hltx : bx < wr.heap.size := by have := hbw.size; omega
      have hre := hbox.re
      obtain ⟨e0, e1, e2, e3, e4, e5, e6⟩ := hbox.cells
      have hall : ∀ W, Below wr.heap.size wr W → W.cell? ⟨w1.heap.size, 0, none⟩ = some (.int .u64 (st.term : Int)) ∧ W.cell? ⟨w1.heap.size, 1, none⟩ = some (.int .i64 st.vote) ∧ W.cell? ⟨w1.heap.size, 2, none⟩ = some (.int .u64 (st.snap.idx : Int)) ∧ W.cell? ⟨w1.heap.size, 3, none⟩ = some (.int .u64 (st.snap.term : Int)) ∧ W.cell? ⟨w1.heap.size, 4, none⟩ = some (.int .u64 (st.snap.cfg : Int)) ∧ W.cell? ⟨w1.heap.size, 5, none⟩ = some (.string st.snap.data) ∧ W.cell? ⟨w1.heap.size, 6, none⟩ = some (.slice A st.es.length c) ∧ W.cell? ⟨bx, ox + j, none⟩ = some (.string S) := fun W hW => by
        obtain ⟨y0, y1, y2, y3, y4, y5, y6⟩ := (HBX.out.below hW).cells
        exact ⟨y0, y1, y2, y3, y4, y5, y6, (hW.cell (p := ⟨bx, ox + j, none⟩) hltx).trans hcr⟩
      have HALL := Lib.hid hall
      have l0 : Below wr.heap.size wr wr.drew := (Below.refl _ _).drew
      have l1 : Below wr.heap.size wr (wr.alloc (.cells #[.int .u64 0, .int .i64 0, .int .u64 0, .int .u64 0, .int .u64 0, .string ⟨#[]⟩, .slice none 0 0] 53)).drew := ((Below.refl _ _).alloc (Nat.le_refl _) _).drew
      have hz1 : (wr.alloc (.cells #[.int .u64 0, .int .i64 0, .int .u64 0, .int .u64 0, .int .u64 0, .string ⟨#[]⟩, .slice none 0 0] 53)).drew.heap[wr.heap.size]? = some (.cells #[.int .u64 0, .int .i64 0, .int .u64 0, .int .u64 0, .int .u64 0, .string ⟨#[]⟩, .slice none 0 0] 53 (0, 0)) := heap_alloc_new wr _
      unfold staV at htk
      have HTK := Lib.hid htk
      clear htk hq hx hcx hxs hS hgj hbox hall
      go_upto_region 5 with fail
      go_cut [8, 9] from 18 to 26 (fun a b wx => Next wr wx A st.es (say st S) a b)
      case first =>
       go_region_held3 (fun W => W.cell? ⟨w1.heap.size, 0, none⟩ = some (.int .u64 (st.term : Int)) ∧ W.cell? ⟨w1.heap.size, 1, none⟩ = some (.int .i64 st.vote) ∧ W.cell? ⟨w1.heap.size, 2, none⟩ = some (.int .u64 (st.snap.idx : Int)) ∧ W.cell? ⟨w1.heap.size, 3, none⟩ = some (.int .u64 (st.snap.term : Int)) ∧ W.cell? ⟨w1.heap.size, 4, none⟩ = some (.int .u64 (st.snap.cfg : Int)) ∧ W.cell? ⟨w1.heap.size, 5, none⟩ = some (.string st.snap.data) ∧ W.cell? ⟨w1.heap.size, 6, none⟩ = some (.slice A st.es.length c) ∧ W.cell? ⟨bx, ox + j, none⟩ = some (.string S))
         (first
           | (with_reducible exact HALL.out _ l0)
           | (with_reducible exact HALL.out _ l1)
           | (with_reducible exact HALL.out _ hB5)
           | (with_reducible exact HALL.out _ (hB5.alloc hB5.size _))
           | (with_reducible exact HALL.out _ (set7b hB5 (Nat.le_refl _))))
         (first
           | (go_at_call 66
              (with_reducible refine (HTK.out _ l0).mono ?_)
              rintro e w5 ⟨s', A', c', rfl, hs', hre', hb5, hk5⟩
              have hB5 : Below wr.heap.size wr w5 := l0.trans hb5)
           | (go_at_call 66
              (with_reducible refine (HTK.out _ l1).mono ?_)
              rintro e w5 ⟨s', A', c', rfl, hs', hre', hb5, hk5⟩
              have hB5 : Below wr.heap.size wr w5 := l1.trans (hb5.mono l1.size)
              have hz5 := (hb5.block wr.heap.size (lt_at hz1)).trans hz1
              have y0 : w5.cell? ⟨wr.heap.size, 0, none⟩ = some (.int .u64 0) := by rw [cell_at hz5]; rfl
              have y1 : w5.cell? ⟨wr.heap.size, 1, none⟩ = some (.int .i64 0) := by rw [cell_at hz5]; rfl
              have y2 : w5.cell? ⟨wr.heap.size, 2, none⟩ = some (.int .u64 0) := by rw [cell_at hz5]; rfl
              have y3 : w5.cell? ⟨wr.heap.size, 3, none⟩ = some (.int .u64 0) := by rw [cell_at hz5]; rfl
              have y4 : w5.cell? ⟨wr.heap.size, 4, none⟩ = some (.int .u64 0) := by rw [cell_at hz5]; rfl
              have y5 : w5.cell? ⟨wr.heap.size, 5, none⟩ = some (.string ⟨#[]⟩) := by rw [cell_at hz5]; rfl
              have y6 : w5.cell? ⟨wr.heap.size, 6, none⟩ = some (.slice none 0 0) := by rw [cell_at hz5]; rfl
              have fz := fun i => free_at hz5 i
              have hlt5 := lt_at hz5))
       · go_wp2_with fail
         go_meet
         have hn := heap_alloc_new w5 (.cells #[.int .u64 (s'.term : Int), .int .i64 s'.vote, .int .u64 (s'.snap.idx : Int), .int .u64 (s'.snap.term : Int), .int .u64 (s'.snap.cfg : Int), .string s'.snap.data, .slice A' s'.es.length c'] 53)
         have hl : Below w5.heap.size w5 (w5.alloc (.cells #[.int .u64 (s'.term : Int), .int .i64 s'.vote, .int .u64 (s'.snap.idx : Int), .int .u64 (s'.snap.term : Int), .int .u64 (s'.snap.cfg : Int), .string s'.snap.data, .slice A' s'.es.length c'] 53)) := (Below.refl _ _).alloc (Nat.le_refl _) _
         exact ⟨_, s', A', c', rfl, by rw [HQ.out], fun h => hs' (HQ.out.symm.trans h), hB5.size, ⟨hn, (Kit.Reads.below hre' hl).more hl.size, fun h0 ad e => by
           rcases hk5 ad e with ⟨h, he⟩ | h
           · have := Nat.lt_of_lt_of_le (RE.blk HBX.out.re (by rw [← he]; exact h0) ad h) hB5.size; omega
           · omega⟩, hB5.trans (hl.mono hB5.size), hk5.mono (Nat.le_refl _) hl.size⟩
       · go_wp2_with fail
         go_meet
         obtain ⟨hn, ho⟩ := Few.set7 hz5 rfl (.int .u64 (s'.term : Int)) (.int .i64 s'.vote) (.int .u64 (s'.snap.idx : Int)) (.int .u64 (s'.snap.term : Int)) (.int .u64 (s'.snap.cfg : Int)) (.string s'.snap.data) (.slice A' s'.es.length c')
         have hA : 0 < s'.es.length → ∀ ad, A' = some ad → ad.block ≠ wr.heap.size := fun h0 ad e => by
           rcases hk5 ad e with ⟨h, he⟩ | h
           · have := RE.blk HBX.out.re (by rw [← he]; exact h0) ad h; omega
           · have h1 : wr.heap.size + 1 ≤ ad.block := by simpa using h.1
             omega
         exact ⟨_, s', A', c', rfl, by rw [HQ.out], fun h => hs' (HQ.out.symm.trans h), Nat.le_refl _, ⟨hn, (re_only hre' ho (Nat.le_refl _) hA).more ho.size, hA⟩, hB5.trans (ho.below hB5.size fun q hq => by omega), hk5.mono l1.size ho.size⟩
      case rest =>
       obtain ⟨a, s', A', c', rfl, rfl, hs', hge, hbox', hb', hk'⟩ := hcut
       have hB' := hbel.trans (hb'.mono hbel.size)
       have hK' : Kin w0 wc none [] A' s'.es := hkin.trans hk' hbel.size hb'.size
       rw [HQ.out] at hs' ⊢
       obtain ⟨d0, d1, d2, d3, d4, d5, d6⟩ := hbox'.cells
       have hla := hbox'.lt
       have hbx6 := HBX.out.below hb'
       have hl6 := hbx6.lt
       obtain ⟨f0, f1, f2, f3, f4, f5, f6⟩ := hbx6.cells
       have ff := fun i => free_at hbx6.cell i
       have HB6 := Lib.hid hbx6
       have HBX' := Lib.hid hbox'
       clear hbx6 hbox' HALL HTK l0 l1 hz1 e0 e1 e2 e3 e4 e5 e6
       cases q
       case true =>
         have HNX := Lib.hid (makes_next HGJ.out HMK.out (by rw [HS.out]; exact HQ.out))
         rw [HS.out, ← hs' rfl] at HNX
         clear hs'
         go_wp2_with fail
         go_roundw
         case rel =>
           obtain ⟨hn, ho⟩ := Few.set7 HB6.out.cell rfl (.int .u64 (s'.term : Int)) (.int .i64 s'.vote) (.int .u64 (s'.snap.idx : Int)) (.int .u64 (s'.snap.term : Int)) (.int .u64 (s'.snap.cfg : Int)) (.string s'.snap.data) (.slice A' s'.es.length c')
           have hne : 0 < s'.es.length → ∀ ad, A' = some ad → ad.block ≠ w1.heap.size := fun h0 ad e => by
             rcases hk' ad e with ⟨h, he⟩ | h
             · exact HBX.out.ne (by rw [← he]; exact h0) ad h
             · omega
           exact ⟨j + 1, s', A', c', by omega, by go_num, ⟨hn, (re_only HBX'.out.re ho (Nat.le_refl _) hne).more ho.size, hne⟩, HNX, hB'.trans (ho.below hB'.size fun q hq => by omega), hK'.mono (Nat.le_refl _) ho.size⟩
         case measure => simp [intOf]; omega
       case false =>
         have HNO : Hid (o = none) := by
           have : said m l = none := by unfold said; rw [makes_fail HGJ.out HMK.out (by rw [HS.out]; exact HQ.out)]
           rw [HO.out] at this
           exact this
         have hczx := (hB'.block w.heap.size hw01).trans HCZ.out
         have z0 : wc.cell? ⟨w.heap.size, 0, none⟩ = some (.int .u64 0) := by rw [cell_at hczx]; rfl
         have g0 := free_at hczx 0
         have z1 : wc.cell? ⟨w.heap.size, 1, none⟩ = some (.int .i64 0) := by rw [cell_at hczx]; rfl
         have g1 := free_at hczx 1
         have z2 : wc.cell? ⟨w.heap.size, 2, none⟩ = some (.int .u64 0) := by rw [cell_at hczx]; rfl
         have g2 := free_at hczx 2
         have z3 : wc.cell? ⟨w.heap.size, 3, none⟩ = some (.int .u64 0) := by rw [cell_at hczx]; rfl
         have g3 := free_at hczx 3
         have z4 : wc.cell? ⟨w.heap.size, 4, none⟩ = some (.int .u64 0) := by rw [cell_at hczx]; rfl
         have g4 := free_at hczx 4
         have z5 : wc.cell? ⟨w.heap.size, 5, none⟩ = some (.string ⟨#[]⟩) := by rw [cell_at hczx]; rfl
         have g5 := free_at hczx 5
         have z6 : wc.cell? ⟨w.heap.size, 6, none⟩ = some (.slice none 0 0) := by rw [cell_at hczx]; rfl
         have g6 := free_at hczx 6
         have hltz := lt_at hczx
         have HZX := Lib.hid hczx
         clear hczx hs' d0 d1 d2 d3 d4 d5 d6 f0 f1 f2 f3 f4 f5 f6
         obtain ⟨hn, ho⟩ := Few.set7 HZX.out rfl (.int .u64 0) (.int .i64 0) (.int .u64 0) (.int .u64 0) (.int .u64 0) (.string ⟨#[]⟩) (.slice none 0 0)
         have HN := Lib.hid hn
         have HOn := Lib.hid ho
         clear hn ho
         go_wp2_with fail
         refine bodyPost_ret (results_ct (p := 4) (u := 5) (ty := 53) rfl _ _ w.heap.size 53 _ (0, 0) _ rfl HN.out Tryz.underlying53 rfl (by kernel_rfl)) rfl ?_
         rw [HNO.out]
         exact ⟨⟨0, 0, ⟨0, 0, 0, ⟨#[]⟩⟩, []⟩, none, 0, rfl, (fun x h => by cases h), RE.nil _ _ _, (HBA.out.trans (hB'.mono HBA.out.size)).trans (HOn.out.below (by omega) fun q hq => by omega), Kin.none_ _ _ _ _ _⟩
    · obtain rfl : j = n := by omega
      have hmk : makes (first m) l = some st := by
        have := HMK.out
        rwa [List.take_of_length_le (by rw [HLN.out]; exact Nat.le_refl _)] at this
      obtain ⟨q, hq⟩ : ∃ q, right st = q := ⟨_, rfl⟩
      have hoo : o = if q = true then some st else none := by rw [← HO.out, ← hq]; unfold said; rw [hmk]
      have hlt6 := hbox.lt
      have hneA : 0 < st.es.length → ∀ ad, A = some ad → ad.block ≠ w.heap.size := fun _ ad e => by
        rcases hkin ad e with ⟨h, _⟩ | h
        · cases h
        · omega
      have hczx := (hbel.block w.heap.size hw01).trans HCZ.out
      have hall : ∀ W, Only (fun q => q = w.heap.size) wr W → W.cell? ⟨w1.heap.size, 0, none⟩ = some (.int .u64 (st.term : Int)) ∧ W.cell? ⟨w1.heap.size, 1, none⟩ = some (.int .i64 st.vote) ∧ W.cell? ⟨w1.heap.size, 2, none⟩ = some (.int .u64 (st.snap.idx : Int)) ∧ W.cell? ⟨w1.heap.size, 3, none⟩ = some (.int .u64 (st.snap.term : Int)) ∧ W.cell? ⟨w1.heap.size, 4, none⟩ = some (.int .u64 (st.snap.cfg : Int)) ∧ W.cell? ⟨w1.heap.size, 5, none⟩ = some (.string st.snap.data) ∧ W.cell? ⟨w1.heap.size, 6, none⟩ = some (.slice A st.es.length c) := fun W hW => by
        have hc := hW.heap hbox.cell (by omega)
        exact ⟨by rw [cell_at hc]; rfl, by rw [cell_at hc]; rfl, by rw [cell_at hc]; rfl, by rw [cell_at hc]; rfl, by rw [cell_at hc]; rfl, by rw [cell_at hc]; rfl, by rw [cell_at hc]; rfl⟩
      have hrt := fun W (hW : Only (fun q => q = w.heap.size) wr W) => right_any st hstb A st.es.length c W ((re_only hbox.re hW (Nat.le_refl _) hneA).more hW.size) (by omega)
      rw [hq] at hrt
      unfold staV at hrt
      obtain ⟨e0, e1, e2, e3, e4, e5, e6⟩ := hall wr (Only.refl _ _)
      have HALL := Lib.hid hall
      have HRT := Lib.hid hrt
      have HBX := Lib.hid hbox
      have HOO := Lib.hid hoo
      have o0 : Only (fun q => q = w.heap.size) wr wr.drew := (Only.refl _ _).drew
      obtain ⟨hn, ho⟩ := Few.set7 hczx rfl (.int .u64 (st.term : Int)) (.int .i64 st.vote) (.int .u64 (st.snap.idx : Int)) (.int .u64 (st.snap.term : Int)) (.int .u64 (st.snap.cfg : Int)) (.string st.snap.data) (.slice A st.es.length c)
      have hod := ho.drew
      have HZX := Lib.hid hczx
      have HN := Lib.hid hn
      have z0 : wr.cell? ⟨w.heap.size, 0, none⟩ = some (.int .u64 0) := by rw [cell_at hczx]; rfl
      have g0 := free_at hczx 0
      have z1 : wr.cell? ⟨w.heap.size, 1, none⟩ = some (.int .i64 0) := by rw [cell_at hczx]; rfl
      have g1 := free_at hczx 1
      have z2 : wr.cell? ⟨w.heap.size, 2, none⟩ = some (.int .u64 0) := by rw [cell_at hczx]; rfl
      have g2 := free_at hczx 2
      have z3 : wr.cell? ⟨w.heap.size, 3, none⟩ = some (.int .u64 0) := by rw [cell_at hczx]; rfl
      have g3 := free_at hczx 3
      have z4 : wr.cell? ⟨w.heap.size, 4, none⟩ = some (.int .u64 0) := by rw [cell_at hczx]; rfl
      have g4 := free_at hczx 4
      have z5 : wr.cell? ⟨w.heap.size, 5, none⟩ = some (.string ⟨#[]⟩) := by rw [cell_at hczx]; rfl
      have g5 := free_at hczx 5
      have z6 : wr.cell? ⟨w.heap.size, 6, none⟩ = some (.slice none 0 0) := by rw [cell_at hczx]; rfl
      have g6 := free_at hczx 6
      have hltz := lt_at hczx
      clear hall hrt hbox hoo hmk hq hczx hn
      go_wp2_with fail
      go_region_held3 (fun W => W.cell? ⟨w1.heap.size, 0, none⟩ = some (.int .u64 (st.term : Int)) ∧ W.cell? ⟨w1.heap.size, 1, none⟩ = some (.int .i64 st.vote) ∧ W.cell? ⟨w1.heap.size, 2, none⟩ = some (.int .u64 (st.snap.idx : Int)) ∧ W.cell? ⟨w1.heap.size, 3, none⟩ = some (.int .u64 (st.snap.term : Int)) ∧ W.cell? ⟨w1.heap.size, 4, none⟩ = some (.int .u64 (st.snap.cfg : Int)) ∧ W.cell? ⟨w1.heap.size, 5, none⟩ = some (.string st.snap.data) ∧ W.cell? ⟨w1.heap.size, 6, none⟩ = some (.slice A st.es.length c))
        (first
          | (with_reducible exact HALL.out _ o0)
          | (with_reducible exact HALL.out _ ho)
          | (with_reducible exact HALL.out _ hod)
          | (with_reducible exact HALL.out _ hO5)
          | (with_reducible exact HALL.out _ hO6))
        (first
          | (go_at_call 41
             (with_reducible refine (HRT.out _ o0).mono ?_)
             rintro e w5 ⟨rfl, hb5⟩
             have hO5 : Only (fun q => q = w.heap.size) wr w5 := o0.trans (Only.of_below hb5)
             have hz5 := (hb5.block w.heap.size hltz).trans HZX.out
             have y0 : w5.cell? ⟨w.heap.size, 0, none⟩ = some (.int .u64 0) := by rw [cell_at hz5]; rfl
             have y1 : w5.cell? ⟨w.heap.size, 1, none⟩ = some (.int .i64 0) := by rw [cell_at hz5]; rfl
             have y2 : w5.cell? ⟨w.heap.size, 2, none⟩ = some (.int .u64 0) := by rw [cell_at hz5]; rfl
             have y3 : w5.cell? ⟨w.heap.size, 3, none⟩ = some (.int .u64 0) := by rw [cell_at hz5]; rfl
             have y4 : w5.cell? ⟨w.heap.size, 4, none⟩ = some (.int .u64 0) := by rw [cell_at hz5]; rfl
             have y5 : w5.cell? ⟨w.heap.size, 5, none⟩ = some (.string ⟨#[]⟩) := by rw [cell_at hz5]; rfl
             have y6 : w5.cell? ⟨w.heap.size, 6, none⟩ = some (.slice none 0 0) := by rw [cell_at hz5]; rfl
             have fz := fun i => free_at hz5 i
             have hlt5 := lt_at hz5
             have HN5 := Lib.hid (Few.set7 hz5 rfl (.int .u64 (st.term : Int)) (.int .i64 st.vote) (.int .u64 (st.snap.idx : Int)) (.int .u64 (st.snap.term : Int)) (.int .u64 (st.snap.cfg : Int)) (.string st.snap.data) (.slice A st.es.length c))
             have hO6 := hO5.trans HN5.out.2)
          | (go_at_call 41
             (with_reducible refine (HRT.out _ hod).mono ?_)
             rintro e w5 ⟨rfl, hb5⟩
             have hO5 : Only (fun q => q = w.heap.size) wr w5 := hod.trans (Only.of_below hb5)))
      have hso : o.isSome = q := by rw [HOO.out]; cases q <;> rfl
      have hox : ∀ x, o = some x → st = x := fun x hx => by
        rw [HOO.out] at hx
        cases q
        · cases hx
        · cases hx; rfl
      have HX1 := Lib.hid hso
      have HX2 := Lib.hid hox
      have HO6 := Lib.hid hO6
      clear hso hox hO6 hO5
      go_wp2
      refine bodyPost_ret (results_ct (p := 4) (u := 5) (ty := 53) rfl _ _ w.heap.size 53 _ (0, 0) _ rfl HN5.out.1 Tryz.underlying53 rfl (by kernel_rfl)) rfl ?_
      refine ⟨st, A, c, by rw [HX1.out]; rfl, HX2.out, (re_only HBX.out.re HO6.out (Nat.le_refl _) hneA).more HO6.out.size, (HBA.out.trans (hbel.mono HBA.out.size)).trans (HO6.out.below (by have := hbel.size; omega) fun q hq => by omega), hkin.mono HBA.out.size HO6.out.size⟩
end Go.Proofs.YtamncdpeklbhlaaGreatDoor.RSaid
set_option linter.unusedVariables false
set_option linter.unusedSimpArgs false
namespace Go.Proofs.YtamncdpeklbhlaaGreatDoor.ROpen
open Go.RowKit Go.Proofs.YtamncdpeklbhlaaGreatDoor.Kit Go.Proofs.YtamncdpeklbhlaaGreatDoor.Blocks Go.Proofs.YtamncdpeklbhlaaGreatDoor.Rlog Go.Proofs.YtamncdpeklbhlaaGreatDoor.Sto Go.Proofs.YtamncdpeklbhlaaGreatDoor.Sav Go.Proofs.YtamncdpeklbhlaaGreatDoor.Ents Go.Proofs.YtamncdpeklbhlaaGreatDoor.Hold Go.Proofs.YtamncdpeklbhlaaGreatDoor.RTake Go.Proofs.YtamncdpeklbhlaaGreatDoor.RTakeB Go.Proofs.YtamncdpeklbhlaaGreatDoor.RSaid Go.Proofs.YtamncdpeklbhlaaGreatDoor.ScA Go.Proofs.YtamncdpeklbhlaaGreatDoor.Model Go.Proofs.YtamncdpeklbhlaaGreatDoor.Ref Go.Proofs.YtamncdpeklbhlaaGreatDoor.RLog Go.Proofs.YtamncdpeklbhlaaGreatDoor.RlgWalkA
open Go.Proofs.YtamncdpeklbhlaaGreatDoor.Log (wopen wappend wanew)
open Go.Proofs.YtamncdpeklbhlaaGreatDoor.Quorum (sound)

/-- The document's store: block t, with the log at b, on the disk at q; its entries lie where A says. -/
structure RSto (W : World) (t b q : Nat) (n : Int) (m : M) (s : Sta) (A : Option Addr) (c : Nat) : Prop where
  sto : W.heap[t]? = some (.cells #[.pointer (some ⟨b, 0, none⟩), .int .u64 (s.term : Int), .int .i64 s.vote, .int .u64 (s.snap.idx : Int), .int .u64 (s.snap.term : Int), .int .u64 (s.snap.cfg : Int), .string s.snap.data, .slice A s.es.length c] 55 (0, 0))
  log : RLogAt W b q n
  disk : RefAt W q m
  re : RE W W.heap.size A s.es.length s.es
  low : 0 < s.es.length → ∀ ad, A = some ad → ad.block < W.heap.size ∧ ad.block ≠ t ∧ ad.block ≠ q
  tb : t ≠ b
  tq : t ≠ q
  bq : b ≠ q
  sb : StaB s
  ok : right s = true
  fine : Fine m
section
variable {W W' : World} {t b q : Nat} {n : Int} {m m' : M} {s s' : Sta} {A A' : Option Addr} {c c' : Nat}
theorem RSto.lt (h : RSto W t b q n m s A c) : t < W.heap.size := lt_at h.sto
theorem RSto.below (h : RSto W t b q n m s A c) (k : Below W.heap.size W W') : RSto W' t b q n m s A c :=
  ⟨(k.block t h.lt).trans h.sto, h.log.below k, RefAt.below h.disk k, (Kit.Reads.below h.re k).more k.size, fun h0 ad e => ⟨Nat.lt_of_lt_of_le (h.low h0 ad e).1 k.size, (h.low h0 ad e).2⟩, h.tb, h.tq, h.bq, h.sb, h.ok, h.fine⟩
/-- Others are written. -/
theorem RSto.ext (h : RSto W t b q n m s A c) {S : Nat → Prop} (k : Only S W W') (ht : ¬ S t) (hb : ¬ S b) (hq : ¬ S q) (hA : 0 < s.es.length → ∀ ad, A = some ad → ¬ S ad.block) : RSto W' t b q n m s A c :=
  ⟨k.heap h.sto ht, k.heap h.log hb, k.heap h.disk hq, (re_only h.re k (Nat.le_refl _) hA).more k.size, fun h0 ad e => ⟨Nat.lt_of_lt_of_le (h.low h0 ad e).1 k.size, (h.low h0 ad e).2⟩, h.tb, h.tq, h.bq, h.sb, h.ok, h.fine⟩
end
/-- What the document's Open leaves. -/
def ROpenS (w : World) (q : Nat) (n : Int) (r : (Int × Sta) × M) (e : Ending) (w' : World) : Prop :=
  (r.1.1 ≠ 0 ∧ e = .returned (.tuple #[.pointer none, .int .i64 r.1.1]) ∧ RefAt w' q r.2 ∧ Only (fun y => y = q) w w') ∨
  (r.1.1 = 0 ∧ ∃ t b A c, e = .returned (.tuple #[.pointer (some ⟨t, 0, none⟩), .int .i64 0]) ∧ RSto w' t b q n r.2 r.1.2 A c ∧ Only (fun y => y = q) w w' ∧ w.heap.size ≤ t ∧ w.heap.size ≤ b ∧ Kin w w' none [] A r.1.2.es ∧ r.1.2.es.length ≤ 1048576)
theorem behind_fine {m : M} (g : Fine m) (n : Int) (s : List UInt8) : Fine (Log.behind m n s).2 := by
  unfold Log.behind
  split
  · split
    · exact g.replace n _
    · exact g.replace n _
  · split
    · exact g.sync n
    · exact g.sync n
theorem wopen_fine {m : M} (g : Fine m) (n : Int) : Fine (wopen m n).2 := by
  unfold wopen
  split
  · exact g
  split
  · exact g
  split
  · split
    · exact behind_fine (g.replace n _) n _
    · exact g.replace n _
  · exact behind_fine g n _
section
variable {w : World} {q : Nat} {m : M}
set_option maxRecDepth 100000 in
set_option maxHeartbeats 4000000 in
theorem ropen_good (h : RefAt w q m) (g : Fine m) (n : Int) (hn : 0 ≤ n ∧ n < 16) (c : Nat) (hc : c < 18446744073709551616) (hs : sound c = true) {r : Int} {rl : List (List UInt8)} {m' : M} (hw : Hid (wopen m n = ((r, rl), m'))) (hfew : Open.Few rl) (hf' : Fine m') (res : (Int × Sta) × M)
    (hres : Hid (res = if r = 0 then (match said c rl with | none => ((2, first c), m') | some s => ((0, s), m')) else ((r, first c), m'))) :
    Calls Tryz.prog 12 #[.pointer (some ⟨q, 0, none⟩), .int .i64 n, .int .u64 (c : Int)] w (ROpenS w q n res) := by
  have hop := ropen_any n h g hn
  rw [hw.out] at hop
  have HOP := Lib.hid hop
  have HS : Hid (sound c = true) := hs
  have HFE := Lib.hid hfew
  have hql := RefAt.lt h
  clear hop hs hw h hfew
  go_enter Tryz.func12, Tryz.ntmps12
  go_wp2_with fail
  refine (rsound_hid hc HS _).mono ?_
  rintro e w1 ⟨rfl, rfl⟩
  go_wp2_with fail
  refine HOP.out.mono ?_
  intro e w2 hop
  rcases hop with ⟨h0, rfl, hd, hk⟩ | ⟨h0, b, A1, c1, rfl, hlog, hrs, hd, hk, hbb⟩
  · have h0' : r ≠ 0 := h0
    have ne2 : (r != 0) = true := bne_iff_ne.2 h0'
    obtain rfl : res = ((r, first c), m') := by rw [hres.out, if_neg h0']
    go_wp2
    go_ret2
    exact .inl ⟨h0', rfl, hd, hk⟩
  · have h0' : r = 0 := h0
    subst h0'
    simp only at hlog hrs hd hk
    have hres' : res = (match said c rl with | none => ((2, first c), m') | some s => ((0, s), m')) := by rw [hres.out, if_pos rfl]
    obtain ⟨o, ho⟩ : ∃ o, said c rl = o := ⟨_, rfl⟩
    rw [ho] at hres'
    have hsd := rsaid_any c hc A1 rl.length c1 rl w2 hrs HFE.out.len (fun x hx => by have := HFE.out.each x hx; omega)
    rw [ho] at hsd
    have HSD := Lib.hid hsd
    have HO := Lib.hid ho
    have HRES := Lib.hid hres'
    have HLOG := Lib.hid hlog
    have HD := Lib.hid hd
    have HK := Lib.hid hk
    clear hsd ho hres' hres hlog hd hk hrs
    go_wp2_with fail
    refine HSD.out.mono ?_
    rintro e w3 ⟨s, A, cc, rfl, hs, hre, hb3, hkin⟩
    have HRE := Lib.hid hre
    have HB3 := Lib.hid hb3
    have HKIN := Lib.hid hkin
    clear hre hb3 hkin
    unfold staV
    cases o with
    | none =>
      obtain rfl : res = ((2, first c), m') := HRES.out
      simp only [Option.isSome_none]
      have l4 : Below w3.heap.size w3 (w3.alloc (.cells #[.int .u64 (s.term : Int), .int .i64 s.vote, .int .u64 (s.snap.idx : Int), .int .u64 (s.snap.term : Int), .int .u64 (s.snap.cfg : Int), .string s.snap.data, .slice A s.es.length cc] 53)) := (Below.refl _ _).alloc (Nat.le_refl _) _
      go_wp2
      go_ret2
      have hb4 := HB3.out.trans (l4.mono HB3.out.size)
      exact .inl ⟨by show (2 : Int) ≠ 0; decide, rfl, RefAt.below HD.out hb4, HK.out.thenBelow hb4⟩
    | some x =>
      obtain rfl : s = x := hs x rfl
      obtain rfl : res = ((0, s), m') := HRES.out
      clear hs
      simp only [Option.isSome_some]
      have hsd := Sol.said_iff.1 HO.out
      have hsb := makes_b _ (first_b hc) (fun x hx => by have := HFE.out.each x hx; omega) hsd.1
      have hsl := makes_len _ hsd.1
      have hfl := HFE.out.len
      have hse : s.es.length ≤ 1048576 := by
        have : (first c).es.length = 0 := rfl
        omega
      have hright := hsd.2
      have HSB := Lib.hid hsb
      have HRI := Lib.hid hright
      have HSE := Lib.hid hse
      clear hsd hsb hsl hfl hse hright
      have l4 : Below w3.heap.size w3 (w3.alloc (.cells #[.int .u64 (s.term : Int), .int .i64 s.vote, .int .u64 (s.snap.idx : Int), .int .u64 (s.snap.term : Int), .int .u64 (s.snap.cfg : Int), .string s.snap.data, .slice A s.es.length cc] 53)) := (Below.refl _ _).alloc (Nat.le_refl _) _
      obtain ⟨w4, hw4⟩ : ∃ w4, w3.alloc (.cells #[.int .u64 (s.term : Int), .int .i64 s.vote, .int .u64 (s.snap.idx : Int), .int .u64 (s.snap.term : Int), .int .u64 (s.snap.cfg : Int), .string s.snap.data, .slice A s.es.length cc] 53) = w4 := ⟨_, rfl⟩
      rw [hw4] at l4
      have hs4 : w4.heap.size = w3.heap.size + 1 := by rw [← hw4]; simp
      have l5 : Below w4.heap.size w4 (w4.alloc (.cells #[.pointer (some ⟨b, 0, none⟩), .int .u64 (s.term : Int), .int .i64 s.vote, .int .u64 (s.snap.idx : Int), .int .u64 (s.snap.term : Int), .int .u64 (s.snap.cfg : Int), .string s.snap.data, .slice A s.es.length cc] 55)) := (Below.refl _ _).alloc (Nat.le_refl _) _
      have h5 := heap_alloc_new w4 (.cells #[.pointer (some ⟨b, 0, none⟩), .int .u64 (s.term : Int), .int .i64 s.vote, .int .u64 (s.snap.idx : Int), .int .u64 (s.snap.term : Int), .int .u64 (s.snap.cfg : Int), .string s.snap.data, .slice A s.es.length cc] 55)
      have HW4 := Lib.hid hw4
      have HL5 := Lib.hid l5
      have H5 := Lib.hid h5
      have HL4 := Lib.hid l4
      clear hw4 l5 h5 l4
      go_wp2
      go_ret2
      rw [HW4.out]
      have hb5 := HB3.out.trans ((HL4.out.trans (HL5.out.mono HL4.out.size)).mono HB3.out.size)
      have h2 := HK.out.size
      have hbl := lt_at HLOG.out
      have hb3s := HB3.out.size
      refine .inr ⟨rfl, w4.heap.size, b, A, cc, by rw [hs4]; rfl, ⟨H5.out, RLogAt.below HLOG.out hb5, RefAt.below HD.out hb5, (Kit.Reads.below HRE.out (HL4.out.trans (HL5.out.mono HL4.out.size))).more (HL4.out.trans (HL5.out.mono HL4.out.size)).size, fun _ ad e => ?_, by omega, by omega, by omega, HSB.out, HRI.out, hf'⟩, HK.out.thenBelow hb5, by omega, hbb, HKIN.out.mono h2 (HL4.out.trans (HL5.out.mono HL4.out.size)).size, HSE.out⟩
      rcases HKIN.out ad e with ⟨h, _⟩ | h
      · cases h
      · have := HL5.out.size
        exact ⟨by omega, by omega, by omega⟩
set_option maxRecDepth 100000 in
theorem ropen_mad (h : RefAt w q m) (n : Int) (c : Nat) (hc : c < 18446744073709551616) (hs : sound c = false) :
    Calls Tryz.prog 12 #[.pointer (some ⟨q, 0, none⟩), .int .i64 n, .int .u64 (c : Int)] w (ROpenS w q n ((1, first c), m)) := by
  have HS : Hid (sound c = false) := hs
  have HD := Lib.hid h
  clear hs h
  go_enter Tryz.func12, Tryz.ntmps12
  go_wp2_with fail
  refine (rsound_hid hc HS _).mono ?_
  rintro e w1 ⟨rfl, rfl⟩
  go_wp2
  go_ret2
  exact .inl ⟨by show (1 : Int) ≠ 0; decide, rfl, HD.out, Only.refl _ _⟩
/-- Any Open. -/
theorem ropen_sto (h : RefAt w q m) (g : Fine m) (n : Int) (hn : 0 ≤ n ∧ n < 16) (c : Nat) (hc : c < 18446744073709551616) :
    Calls Tryz.prog 12 #[.pointer (some ⟨q, 0, none⟩), .int .i64 n, .int .u64 (c : Int)] w (ROpenS w q n (sopen m n c)) := by
  cases hs : sound c with
  | false =>
    have e : sopen m n c = ((1, first c), m) := by unfold sopen; rw [if_pos hs]
    rw [e]
    exact ropen_mad h n c hc hs
  | true =>
    obtain ⟨⟨⟨r, rl⟩, m'⟩, hw⟩ : ∃ q, wopen m n = q := ⟨_, rfl⟩
    have hf := Open.wopen_few g n
    have hg := wopen_fine g n
    rw [hw] at hf hg
    refine ropen_good h g n hn c hc hs (Lib.hid hw) hf hg _ ?_
    have e : sopen m n c = if r = 0 then (match said c rl with | none => ((2, first c), m') | some s => ((0, s), m')) else ((r, first c), m') := by
      unfold sopen
      rw [if_neg (by rw [hs]; decide), hw]
      cases said c rl <;> rfl
    exact e
end
end Go.Proofs.YtamncdpeklbhlaaGreatDoor.ROpen
set_option linter.unusedVariables false
set_option linter.unusedSimpArgs false
namespace Go.Proofs.YtamncdpeklbhlaaGreatDoor.LawD
open Go.RowKit Go.Proofs.YtamncdpeklbhlaaGreatDoor.Kit Go.Proofs.YtamncdpeklbhlaaGreatDoor.Blocks Go.Proofs.YtamncdpeklbhlaaGreatDoor.Rlog Go.Proofs.YtamncdpeklbhlaaGreatDoor.Sto Go.Proofs.YtamncdpeklbhlaaGreatDoor.Sav Go.Proofs.YtamncdpeklbhlaaGreatDoor.Ents Go.Proofs.YtamncdpeklbhlaaGreatDoor.Hold Go.Proofs.YtamncdpeklbhlaaGreatDoor.Del Go.Proofs.YtamncdpeklbhlaaGreatDoor.Ahe Go.Proofs.YtamncdpeklbhlaaGreatDoor.Open Go.Proofs.YtamncdpeklbhlaaGreatDoor.ROpen Go.Proofs.YtamncdpeklbhlaaGreatDoor.RSaid Go.Proofs.YtamncdpeklbhlaaGreatDoor.RSame Go.Proofs.YtamncdpeklbhlaaGreatDoor.Bgn Go.Proofs.YtamncdpeklbhlaaGreatDoor.Model Go.Proofs.YtamncdpeklbhlaaGreatDoor.Ops Go.Proofs.YtamncdpeklbhlaaGreatDoor.ScA Go.Proofs.YtamncdpeklbhlaaGreatDoor.FrA Go.Proofs.YtamncdpeklbhlaaGreatDoor.SumB Go.Proofs.YtamncdpeklbhlaaGreatDoor.Wal Go.Proofs.YtamncdpeklbhlaaGreatDoor.Ref Go.Proofs.YtamncdpeklbhlaaGreatDoor.RefB Go.Proofs.YtamncdpeklbhlaaGreatDoor.RefC Go.Proofs.YtamncdpeklbhlaaGreatDoor.RefE
open Go.Proofs.YtamncdpeklbhlaaGreatDoor.DskWalkC (str)

theorem frames_step {l : List (List UInt8)} {k : Nat} (hk : k < l.length) : frames (l.take (k + 1)) = frames (l.take k) ++ frame l[k] := Frm.frames_succ hk
theorem weigh_step {l : List (List UInt8)} {k : Nat} (hk : k < l.length) : weigh (l.take (k + 1)) = weigh (l.take k) + l[k].length := by
  rw [List.take_succ_eq_append_getElem hk, weigh_append]
  simp [weigh]
/-- Entries don't lie in the document's disk. -/
theorem re_disk {w : World} {D n q : Nat} {A : Option Addr} {l : List Ent} {m : M} (h : RE w D A n l) (hq : RefAt w q m) (hn : 0 < n) : ∀ ad, A = some ad → ad.block ≠ q := by
  rintro ad rfl e
  obtain ⟨b, o, x, he, _, _, hf⟩ := RE.at_ h hn
  cases he
  have h0 := hf.c0
  simp only at e
  subst e
  rw [Nat.zero_mul, Nat.add_zero, cell_at hq] at h0
  by_cases ho : o < 51
  · rw [ref_get m o ho] at h0
    unfold cellOf at h0
    repeat' split at h0
    all_goals cases h0
  · rw [Array.getElem?_eq_none (by simp [refCells]; omega)] at h0
    cases h0

set_option maxRecDepth 100000 in
set_option maxHeartbeats 8000000 in
theorem opens_mid (A : Option Addr) (n c : Nat) (l : List (List UInt8)) (tail : ByteArray) (mb : Nat) (w : World) (h : RS w A n l) (hn : n ≤ 17592186044416) (hx : ∀ x ∈ l, x.length ≤ 140737488355328) (htl : tail.size ≤ 140737488355328) (hmb : mb < 18446744073709551616) (ht : Tab w) :
    Calls Tryz.prog 4 #[.slice A n c, .string tail, .int .u64 (mb : Int)] w fun e w' => e = .returned (.bool true) ∧ Below w.heap.size w w' := by
  have hg := Tab.lt ht
  have HT := Lib.hid ht
  have hln := texts_len h
  have HL := Lib.hid hln
  have HX := Lib.hid hx
  have HH := Lib.hid h
  clear ht hln hx h
  go_enter Tryz.func4, Tryz.ntmps4
  go_wp2_with fail
  refine (begun_any _ HT.out).mono ?_
  rintro e w1 ⟨rfl, hB1⟩
  go_wp2_with fail
  go_loopw [7, 8, 29] (fun N s i wr => ∃ (k : Nat) (S : ByteArray), k ≤ n ∧ i = .int .i64 (k : Int) ∧ s = .string S ∧ N = .int .i64 ((n + tail.size + weigh (l.take k) : Nat) : Int) ∧ Hid (S = str (frames (l.take k))) ∧ S.size ≤ 9000000 ∧ Hid (0 < k → n + tail.size + weigh (l.take k) ≤ 20000) ∧ Hid (k = 0 → weigh (l.take k) = 0) ∧ Below w.heap.size w wr) (fun _ _ i _ => n - (intOf i).toNat)
  case atStart => exact ⟨0, _, by omega, rfl, rfl, by simp [weigh], rfl, by decide, Lib.hid (fun h => absurd h (by omega)), Lib.hid (fun _ => by simp [weigh]), hB1⟩
  case round =>
    obtain ⟨k, S, hk, rfl, rfl, rfl, HS, hSs, HK, HZ, hbel⟩ := hrel
    by_cases hkn : k < n
    · have hkl : k < l.length := by rw [HL.out]; exact hkn
      obtain ⟨b, o, rfl, hb, hc1⟩ := Reads.text HH.out hkn hkl
      have hc2 : wr.cell? ⟨b, o + k, none⟩ = some (.string (str l[k])) := (hbel.cell (p := ⟨b, o + k, none⟩) hb).trans hc1
      have hwst := weigh_step hkl
      have hfst := frames_step hkl
      have hxl := HX.out _ (List.getElem_mem hkl)
      obtain ⟨x, hxx⟩ : ∃ x, l[k] = x := ⟨_, rfl⟩
      rw [hxx] at hc2 hwst hfst hxl
      obtain ⟨X, hX⟩ : ∃ X, str x = X := ⟨_, rfl⟩
      have hXs : X.size = x.length := by rw [← hX]; rfl
      rw [hX] at hc2
      obtain ⟨N, hN⟩ : ∃ N, n + tail.size + weigh (l.take k) = N := ⟨_, rfl⟩
      have hNb : N ≤ 200000000000000 := by
        rcases Nat.eq_zero_or_pos k with h0 | h0
        · have := HZ.out h0; omega
        · have := HK.out h0; omega
      rw [hN]
      by_cases hbig : 20000 < N + X.size
      · have hbi : (20000 : Int) < (N : Int) + (X.size : Int) := by omega
        go_wp2
        go_ret
        exact ⟨rfl, hbel⟩
      · have hbi : ¬ (20000 : Int) < (N : Int) + (X.size : Int) := by omega
        have hcall := rframe_any X wr (by omega)
        obtain ⟨F, hF⟩ : ∃ F, str (frame X.data.toList) = F := ⟨_, rfl⟩
        rw [hF] at hcall
        have hFs : 254 * F.size ≤ 255 * X.size + 1528 := by
          have := frame_short X.data.toList
          have e1 : F.size = (frame X.data.toList).length := by rw [← hF]; rfl
          have e2 : X.data.toList.length = X.size := by simp
          omega
        obtain ⟨S', hS'⟩ : ∃ S', S ++ F = S' := ⟨_, rfl⟩
        have hnext : Hid (S' = str (frames (l.take (k + 1)))) := by
          show _ = _
          rw [← hS', hfst, HS.out]
          apply ByteArray.ext
          rw [← hF, ← hX]
          simp [str]
        have hfs := frames_short (l.take (k + 1))
        have hS's : S'.size ≤ 9000000 := by
          have e1 : S'.size = (frames (l.take (k + 1))).length := by rw [hnext.out]; rfl
          have e2 : (l.take (k + 1)).length = k + 1 := by rw [List.length_take]; omega
          have e3 : n ≤ 20000 := by omega
          omega
        have hsz : ¬ 9223372036854775807 < S.size + F.size := by omega
        have HC := Lib.hid hcall
        have HS' := Lib.hid hS'
        have HK' : Hid (0 < k + 1 → n + tail.size + weigh (l.take (k + 1)) ≤ 20000) := fun _ => by omega
        have hNN : Hid ((N : Int) + (x.length : Int) = ((n + tail.size + weigh (l.take (k + 1)) : Nat) : Int)) := by
          show _ = _
          omega
        clear hcall hS' hfs hfst hwst hX hF hxx hc1
        go_wp2_with fail
        refine HC.out.mono ?_
        rintro e w2 ⟨rfl, hb2⟩
        go_wp2
        rw [HS'.out]
        go_roundw
        case rel => exact ⟨k + 1, S', by omega, by go_num, rfl, by rw [hNN.out], hnext, hS's, HK', Lib.hid (fun e => absurd e (by omega)), hbel.trans (hb2.mono hbel.size)⟩
        case measure => simp [intOf]; omega
    · obtain rfl : k = n := by omega
      obtain ⟨F, hF⟩ : ∃ F, S ++ tail = F := ⟨_, rfl⟩
      have hjoin : ¬ 9223372036854775807 < S.size + tail.size := by omega
      have hFs : F.size ≤ 140737497355328 := by rw [← hF, ByteArray.size_append]; omega
      have HF := Lib.hid hF
      obtain ⟨m0, hm0⟩ : ∃ m0, M.new 100000 = m0 := ⟨_, rfl⟩
      have hg0 : Fine m0 := by rw [← hm0]; exact Fine.new (by omega)
      obtain ⟨r1, m1, hm1⟩ : ∃ r1 m1, m0.replace 0 F.data.toList = (r1, m1) := ⟨_, _, rfl⟩
      have hg1 : Fine m1 := by have := hg0.replace 0 F.data.toList; rw [hm1] at this; exact this
      obtain ⟨⟨⟨r2, s2⟩, m2⟩, hm2⟩ : ∃ q, sopen m1 0 mb = q := ⟨_, rfl⟩
      have HM0 := Lib.hid hm0
      have HM1 := Lib.hid hm1
      have HM2 := Lib.hid hm2
      have HG0 := Lib.hid hg0
      have HG1 := Lib.hid hg1
      obtain ⟨N, hN⟩ : ∃ N, k + tail.size + weigh (l.take k) = N := ⟨_, rfl⟩
      rw [hN]
      clear hN hF hm0 hm1 hm2 hg0 hg1 HS
      go_wp2_with fail
      refine (new_has (B := w.heap.size) 100000 (by omega) hbel.size).mono ?_
      rintro e w2 ⟨p, rfl, hD2, hp, hb2⟩
      rw [HM0.out] at hD2
      have hB2 := hbel.trans (hb2.mono hbel.size)
      go_wp2_with fail
      refine (rnew_yes 100000 _ (by omega)).mono ?_
      rintro e w3 ⟨q, rfl, hq3, hR3, hb3⟩
      rw [HM0.out] at hR3
      have hB3 := hB2.trans (hb3.mono hB2.size)
      have hD3 : Has w.heap.size [q] w3 p 0 m0 := hD2.beside hb3 hq3 (RefAt.lt hR3)
      clear hD2
      go_wp2_with fail
      rw [HF.out]
      refine (replace_has 0 F hD3 (by omega)).mono ?_
      rintro e w4 ⟨rfl, hD4, hk4⟩
      rw [HM1.out] at hD4 ⊢
      have hR4 : RefAt w4 q m0 := hk4.heap hR3 (.inr (by simp))
      have hB4 := hB3.trans (hk4.below hD3.low)
      clear hD3 hR3
      go_wp2_with fail
      rw [HF.out]
      refine (rreplace_any 0 F hR4 HG0.out (by omega)).mono ?_
      rintro e w5 ⟨rfl, hR5, hk5⟩
      rw [HM1.out] at hR5 ⊢
      have hD5 := has_only hD4 hk5 fun y hy => .inl (by rw [hy]; simp)
      have hB5 := hB4.trans (hk5.below hD4.low fun y hy => by rw [hy]; have := hD4.low; have := hB2.size; omega)
      clear hD4 hR4
      go_wp2_with fail
      refine (open_sto hD5 (Tab.next HT.out hB5) hg (by omega) 0 mb hmb).mono ?_
      rw [HM2.out]
      intro e w6 ho
      rcases ho with ⟨h0, rfl, hD6, hk6⟩ | ⟨h0, t, b, L', v, A6, c6, rfl, hS6, hre6, hk6, ht6, hes⟩
      · have h0' : r2 ≠ 0 := h0
        have ne1 : (r2 == r2) = true := by simp
        have ne2 : (r2 != 0) = true := bne_iff_ne.2 h0'
        have l7 : Below w6.heap.size w6 (w6.alloc (.cells #[.int .u64 0, .int .i64 0, .int .u64 0, .int .u64 0, .int .u64 0, .string ⟨#[]⟩, .slice none 0 0] 45)) := (Below.refl _ _).alloc (Nat.le_refl _) _
        have hR6 : RefAt w6 q m1 := hk6.heap hR5 (.inr (by simp))
        have hB6 := hB5.trans (hk6.below hD5.low)
        have hop := ropen_sto (RefAt.below hR6 l7) HG1.out 0 (by decide) mb hmb
        rw [HM2.out] at hop
        have HOP := Lib.hid hop
        have hB7 := hB6.trans (l7.mono hB6.size)
        clear hop hR6 hD6 hk6
        unfold zeroS
        go_wp2_with fail
        refine HOP.out.mono ?_
        intro e w8 ho
        rcases ho with ⟨_, rfl, hR8, hk8⟩ | ⟨h, _⟩
        · have hB8 := hB7.trans (hk8.below hB7.size fun y hy => by rw [hy]; have := hB2.size; omega)
          go_wp2
          go_ret
          exact ⟨rfl, hB8⟩
        · exact absurd h h0'
      · have h0' : r2 = 0 := h0
        subst h0'
        have l7 : Below w6.heap.size w6 (w6.alloc (.cells #[.int .u64 (s2.term : Int), .int .i64 s2.vote, .int .u64 (s2.snap.idx : Int), .int .u64 (s2.snap.term : Int), .int .u64 (s2.snap.cfg : Int), .string s2.snap.data, .slice A6 s2.es.length c6] 45)) := (Below.refl _ _).alloc (Nat.le_refl _) _
        have h7 := heap_alloc_new w6 (.cells #[.int .u64 (s2.term : Int), .int .i64 s2.vote, .int .u64 (s2.snap.idx : Int), .int .u64 (s2.snap.term : Int), .int .u64 (s2.snap.cfg : Int), .string s2.snap.data, .slice A6 s2.es.length c6] 45)
        obtain ⟨w7, hw7⟩ : ∃ w7, w6.alloc (.cells #[.int .u64 (s2.term : Int), .int .i64 s2.vote, .int .u64 (s2.snap.idx : Int), .int .u64 (s2.snap.term : Int), .int .u64 (s2.snap.cfg : Int), .string s2.snap.data, .slice A6 s2.es.length c6] 45) = w7 := ⟨_, rfl⟩
        rw [hw7] at l7 h7
        have hR6 : RefAt w6 q m1 := hk6.heap hR5 (.inr (by simp))
        have hB6 := hB5.trans (hk6.below hD5.low)
        have hop := ropen_sto (RefAt.below hR6 l7) HG1.out 0 (by decide) mb hmb
        rw [HM2.out] at hop
        have HOP := Lib.hid hop
        have HW7 := Lib.hid hw7
        have H7 := Lib.hid h7
        have HL7 := Lib.hid l7
        have HR6 := Lib.hid hR6
        have HRE6 := Lib.hid hre6
        have HS6 := Lib.hid hS6
        have hB7 := hB6.trans (l7.mono hB6.size)
        have HES : Hid (s2.es.length ≤ 1048576) := hes
        have hq6 := RefAt.lt hR6
        clear hop hR6 hk6 hw7 h7 l7 hre6 hS6 hes hR5 hD5 hk5
        unfold staV
        go_wp2_with fail
        rw [HW7.out]
        refine HOP.out.mono ?_
        intro e w8 ho
        rcases ho with ⟨h, _⟩ | ⟨_, t', b', A8, c8, rfl, hS8, hk8, ht8, hb8, hkin8, _⟩
        · exact absurd rfl h
        · have hB8 := hB7.trans (hk8.below hB7.size fun y hy => by rw [hy]; have := hB2.size; omega)
          have hre8 : RE w8 w8.heap.size A6 s2.es.length s2.es := by
            rcases Nat.eq_zero_or_pos s2.es.length with h0 | h0
            · have : s2.es = [] := List.eq_nil_of_length_eq_zero h0
              rw [this]
              exact RE.nil _ _ _
            · exact (re_only ((Kit.Reads.below HRE6.out HL7.out).more HL7.out.size) hk8 (Nat.le_refl _) fun _ => re_disk HRE6.out HR6.out h0).more hk8.size
          have h78 := hk8.heap H7.out (by omega)
          have hS8' := (HS6.out.below HL7.out).ext hk8 fun y hy => .inl (by rw [hy]; simp)
          have hall : ∀ W, Below w8.heap.size w8 W → W.cell? ⟨w6.heap.size, 0, none⟩ = some (.int .u64 (s2.term : Int)) ∧ W.cell? ⟨w6.heap.size, 1, none⟩ = some (.int .i64 s2.vote) ∧ W.cell? ⟨w6.heap.size, 2, none⟩ = some (.int .u64 (s2.snap.idx : Int)) ∧ W.cell? ⟨w6.heap.size, 3, none⟩ = some (.int .u64 (s2.snap.term : Int)) ∧ W.cell? ⟨w6.heap.size, 4, none⟩ = some (.int .u64 (s2.snap.cfg : Int)) ∧ W.cell? ⟨w6.heap.size, 5, none⟩ = some (.string s2.snap.data) ∧ W.cell? ⟨w6.heap.size, 6, none⟩ = some (.slice A6 s2.es.length c6) ∧ W.cell? ⟨t', 1, none⟩ = some (.int .u64 (s2.term : Int)) ∧ W.cell? ⟨t', 2, none⟩ = some (.int .i64 s2.vote) ∧ W.cell? ⟨t', 3, none⟩ = some (.int .u64 (s2.snap.idx : Int)) ∧ W.cell? ⟨t', 4, none⟩ = some (.int .u64 (s2.snap.term : Int)) ∧ W.cell? ⟨t', 5, none⟩ = some (.int .u64 (s2.snap.cfg : Int)) ∧ W.cell? ⟨t', 6, none⟩ = some (.string s2.snap.data) ∧ W.cell? ⟨t', 7, none⟩ = some (.slice A8 s2.es.length c8) := fun W hW => by
            have hc := (hW.block _ (lt_at h78)).trans h78
            have hd := (hW.block _ hS8.lt).trans hS8.sto
            exact ⟨by rw [cell_at hc]; rfl, by rw [cell_at hc]; rfl, by rw [cell_at hc]; rfl, by rw [cell_at hc]; rfl, by rw [cell_at hc]; rfl, by rw [cell_at hc]; rfl, by rw [cell_at hc]; rfl, by rw [cell_at hd]; rfl, by rw [cell_at hd]; rfl, by rw [cell_at hd]; rfl, by rw [cell_at hd]; rfl, by rw [cell_at hd]; rfl, by rw [cell_at hd]; rfl, by rw [cell_at hd]; rfl⟩
          have hsame : ∀ W A' c', Below w8.heap.size w8 W → RE W W.heap.size A' s2.es.length s2.es → Calls Tryz.prog 13 #[.agg #[.int .u64 (s2.term : Int), .int .i64 s2.vote, .int .u64 (s2.snap.idx : Int), .int .u64 (s2.snap.term : Int), .int .u64 (s2.snap.cfg : Int), .string s2.snap.data, .slice A' s2.es.length c'], .agg #[.int .u64 (s2.term : Int), .int .i64 s2.vote, .int .u64 (s2.snap.idx : Int), .int .u64 (s2.snap.term : Int), .int .u64 (s2.snap.cfg : Int), .string s2.snap.data, .slice A8 s2.es.length c8]] W fun e W' => e = .returned (.bool true) ∧ Below W.heap.size W W' := fun W A' c' hW hr => by
            refine (same_any (ca := c') (cc := c8) s2 s2 hr ((Kit.Reads.below hS8.re hW).more hW.size) (by have := HES.out; omega) (by have := HES.out; omega)).mono ?_
            rintro e W' ⟨q, rfl, hq, hb⟩
            exact ⟨by rw [hq rfl], hb⟩
          have hst : ∀ W, Below w8.heap.size w8 W → Calls Tryz.prog 20 #[.pointer (some ⟨t, 0, none⟩)] W (Few.Gives W s2) := fun W hW => state_any (hS8'.sto.below hW) (by have := HES.out; omega)
          obtain ⟨e0, e1, e2, e3, e4, e5, e6, d0, d1, d2, d3, d4, d5, d6⟩ := hall w8 (Below.refl _ _)
          have l0 : Below w8.heap.size w8 w8.drew := (Below.refl _ _).drew
          have hs1 := hsame _ A6 c6 l0 (Kit.Reads.drew hre8)
          have HALL := Lib.hid hall
          have HSAME := Lib.hid hsame
          have HST := Lib.hid hst
          have HS1 := Lib.hid hs1
          have hlt6 := lt_at h78
          have hlt8 := hS8.lt
          clear hall hsame hst hs1 hS8' h78 hre8 hS8
          go_wp2_with fail
          go_region_held3 (fun W => W.cell? ⟨w6.heap.size, 0, none⟩ = some (.int .u64 (s2.term : Int)) ∧ W.cell? ⟨w6.heap.size, 1, none⟩ = some (.int .i64 s2.vote) ∧ W.cell? ⟨w6.heap.size, 2, none⟩ = some (.int .u64 (s2.snap.idx : Int)) ∧ W.cell? ⟨w6.heap.size, 3, none⟩ = some (.int .u64 (s2.snap.term : Int)) ∧ W.cell? ⟨w6.heap.size, 4, none⟩ = some (.int .u64 (s2.snap.cfg : Int)) ∧ W.cell? ⟨w6.heap.size, 5, none⟩ = some (.string s2.snap.data) ∧ W.cell? ⟨w6.heap.size, 6, none⟩ = some (.slice A6 s2.es.length c6) ∧ W.cell? ⟨t', 1, none⟩ = some (.int .u64 (s2.term : Int)) ∧ W.cell? ⟨t', 2, none⟩ = some (.int .i64 s2.vote) ∧ W.cell? ⟨t', 3, none⟩ = some (.int .u64 (s2.snap.idx : Int)) ∧ W.cell? ⟨t', 4, none⟩ = some (.int .u64 (s2.snap.term : Int)) ∧ W.cell? ⟨t', 5, none⟩ = some (.int .u64 (s2.snap.cfg : Int)) ∧ W.cell? ⟨t', 6, none⟩ = some (.string s2.snap.data) ∧ W.cell? ⟨t', 7, none⟩ = some (.slice A8 s2.es.length c8))
            (first
              | (with_reducible exact HALL.out _ l0)
              | (with_reducible exact HALL.out _ hB9)
              | (with_reducible exact HALL.out _ hB10)
              | (with_reducible exact HALL.out _ hB11))
            (first
              | (go_at_call 13
                 (with_reducible refine HS1.out.mono ?_)
                 rintro e w9 ⟨rfl, hb9⟩
                 have hB9 : Below w8.heap.size w8 w9 := l0.trans hb9)
              | (go_at_call 20
                 (with_reducible refine (HST.out _ hB9).mono ?_)
                 rintro e w10 ⟨A9, c9, rfl, hown, hb10⟩
                 have hB10 : Below w8.heap.size w8 w10 := hB9.trans (hb10.mono hB9.size)
                 have HS2 := Lib.hid (HSAME.out _ A9 c9 hB10 (Few.Gives.reads hown))
                 clear hown
                 unfold staV)
              | (go_at_call 13
                 (with_reducible refine HS2.out.mono ?_)
                 rintro e w11 ⟨rfl, hb11⟩
                 have hB11 : Below w8.heap.size w8 w11 := hB10.trans (hb11.mono hB10.size)))
          go_wp2
          go_ret
          exact ⟨rfl, hB8.trans (hB11.mono hB8.size)⟩
end Go.Proofs.YtamncdpeklbhlaaGreatDoor.LawD
