/- The statement StoreStill of tontinelaw08, its second form, as a tied card: for every input the call returns true, and each argument reads afterwards as it read before (where the arguments hold together at most 1048576 values and letters); the variable tontine/crc.fours starts as the program's text lays it (the card ties it). -/
import Derived.Test.YtamncdpeklbhlaaDoorGB
import Derived.Test.YtamncdpeklbhlaaDoorGD
import Derived.Test.YtamncdpeklbhlaaDoorCards
import Derived.Test.YtamncdpeklbhlaaDoorTie
import Derived.WalkKit
import Derived.ProofKit
import Derived.OpenShut
import Derived.Deep.DeepHandedRow
set_option linter.unusedVariables false
set_option linter.unusedSimpArgs false
namespace Go.Proofs.YtamncdpeklbhlaaDoor.RRec
open Go.RowKit Go.Proofs.YtamncdpeklbhlaaDoor.Kit Go.Proofs.YtamncdpeklbhlaaDoor.Blocks Go.Proofs.YtamncdpeklbhlaaDoor.Rlog Go.Proofs.YtamncdpeklbhlaaDoor.Sto Go.Proofs.YtamncdpeklbhlaaDoor.Sav Go.Proofs.YtamncdpeklbhlaaDoor.Ents Go.Proofs.YtamncdpeklbhlaaDoor.Rec
open Go.Proofs.YtamncdpeklbhlaaDoor.Num (num)
open Go.Proofs.YtamncdpeklbhlaaDoor.PckWalkB (text)
open Go.Proofs.YtamncdpeklbhlaaDoor.PckWalkH (str str_size str_append str_back)

def us (l : List Nat) : List Value := l.map fun (x : Nat) => .int .u64 (x : Int)
def nums (l : List Nat) : List UInt8 := l.flatMap num
theorem us_length (l : List Nat) : (us l).length = l.length := by simp [us]
theorem nums_snoc (l : List Nat) (k x : Nat) (h : l[k]? = some x) : nums (l.take (k + 1)) = nums (l.take k) ++ num x := by
  rw [take_snoc l k x h]
  simp [nums]
theorem nums_len {l : List Nat} (hb : ∀ x ∈ l, x < 18446744073709551616) : (nums l).length ≤ 9 * l.length := by
  induction l with
  | nil => simp [nums]
  | cons x l ih =>
    have h1 := num9 (hb x (by simp))
    have h2 := ih fun y hy => hb y (by simp [hy])
    have e : nums (x :: l) = num x ++ nums l := rfl
    rw [e, List.length_append, List.length_cons]
    omega
theorem us_get {w : World} {B n : Nat} {A : Option Addr} {l : List Nat} (h : Reads w B 1 A n (us l)) {k : Nat} (hk : k < n) : ∃ b o x, A = some ⟨b, o, none⟩ ∧ b < B ∧ l[k]? = some x ∧ w.cell? ⟨b, o + k, none⟩ = some (.int .u64 (x : Int)) := by
  have hl : l.length = n := by have := h.len; rw [us_length] at this; omega
  obtain ⟨ad, rfl, hb, hc⟩ := h.2 (by omega)
  have h0 := hc 0 (.int .u64 ((l[0]'(by omega) : Nat) : Int)) (by unfold us; rw [List.getElem?_map, List.getElem?_eq_getElem (by omega)]; rfl)
  rw [Kit.add_zero] at h0
  have hs := World.cell?_spot h0
  obtain ⟨b, o, s⟩ := ad
  have : s = none := hs
  subst this
  refine ⟨b, o, l[k]'(by omega), rfl, hb, List.getElem?_eq_getElem (by omega), ?_⟩
  have := hc k (.int .u64 ((l[k]'(by omega) : Nat) : Int)) (by unfold us; rw [List.getElem?_map, List.getElem?_eq_getElem (by omega)]; rfl)
  rw [Addr.add_lit] at this
  exact this

set_option maxRecDepth 100000 in
set_option maxHeartbeats 1000000 in
theorem nums_any (A : Option Addr) (n c : Nat) (l : List Nat) (w : World) (h : Reads w w.heap.size 1 A n (us l)) (hb : ∀ x ∈ l, x < 18446744073709551616) (hn : n ≤ 1000) :
    Calls Tryd.prog 40 #[.slice A n c] w (Said w (nums l)) := by
  have hl : l.length = n := by have := h.len; rw [us_length] at this; omega
  have HL := Lib.hid hl
  have HB := Lib.hid hb
  clear hl hb
  go_enter Tryd.func40, Tryd.ntmps40
  go_wp2_with fail
  go_loopw [3, 4] (fun s i wr => ∃ (k : Nat) (S : ByteArray), k ≤ n ∧ i = .int .i64 (k : Int) ∧ s = .string S ∧ Hid (str (nums (l.take k)) = S) ∧ S.size ≤ 9 * k ∧ Below w.heap.size w wr) (fun _ i _ => n - (intOf i).toNat)
  case atStart => exact ⟨0, _, by omega, rfl, rfl, Lib.hid rfl, by decide, Below.refl _ _⟩
  case round =>
    obtain ⟨k, S, hk, rfl, rfl, HS, hSs, hbel⟩ := hrel
    by_cases hkn : k < n
    · obtain ⟨b, o, x, rfl, hbl, hx, hc0⟩ := us_get h hkn
      have hc : wr.cell? ⟨b, o + k, none⟩ = some (.int .u64 (x : Int)) := (hbel.cell (p := ⟨b, o + k, none⟩) hbl).trans hc0
      have hxb : x < 18446744073709551616 := HB.out x (List.mem_of_getElem? hx)
      have hsn := nums_snoc l k x hx
      obtain ⟨X, hX⟩ : ∃ X, str (num x) = X := ⟨_, rfl⟩
      have hXs : X.size ≤ 9 := by rw [← hX, str_size]; exact num9 hxb
      have hnx := PckWalkH.num_any x
      have HNx : Hid (∀ w : World, Calls Tryd.prog 63 #[.int .u64 (x : Int)] w fun e w' => e = .returned (.string X) ∧ Below w.heap.size w w') := fun w => by
        have := hnx w hxb
        rw [← hX]
        exact this
      obtain ⟨Y, hY⟩ : ∃ Y, S ++ X = Y := ⟨_, rfl⟩
      have hYs : Y.size ≤ 9 * (k + 1) := by rw [← hY, ByteArray.size_append]; omega
      have HY : Hid (str (nums (l.take (k + 1))) = Y) := by
        have : str (nums (l.take (k + 1))) = Y := by rw [hsn, ← str_append, HS.out, hX, hY]
        exact this
      have hjoin : S.size + X.size ≤ 9223372036854775807 := by omega
      have HYY := Lib.hid hY
      clear hsn hX hnx hx hY
      go_wp2_with fail
      refine (HNx.out wr).mono ?_
      rintro e w1 ⟨rfl, hb1⟩
      go_wp2
      rw [HYY.out]
      go_roundw
      case rel => exact ⟨k + 1, Y, by omega, by go_num, rfl, HY, hYs, hbel.trans (hb1.mono hbel.size)⟩
      case measure => simp [intOf]; omega
    · obtain rfl : k = n := by omega
      have HF := HS.out
      rw [List.take_of_length_le (by rw [HL.out]; exact Nat.le_refl _)] at HF
      have HFF := Lib.hid HF
      clear HF HS
      go_wp2
      go_ret
      exact ⟨by rw [HFF.out]; rfl, hbel⟩
theorem nums_lit (A : Option Addr) (c : Nat) (n : Nat) {l : List Nat} {L : List UInt8} (w : World) (h : Reads w w.heap.size 1 A n (us l)) (hb : ∀ x ∈ l, x < 18446744073709551616) (hn : n ≤ 1000) (he : Hid (nums l = L)) :
    Calls Tryd.prog 40 #[.slice A n c] w (Said w L) := by
  have := nums_any A n c l w h hb hn
  rwa [he.out] at this
set_option maxRecDepth 100000 in
set_option maxHeartbeats 2000000 in
theorem rhard_rec (t : Nat) (v : Int) (w : World) (ht : t < 18446744073709551616) (hv0 : -9223372036854775808 ≤ v) (hv1 : v ≤ 9223372036854775807) :
    Calls Tryd.prog 17 #[.agg #[.int .u64 (t : Int), .int .i64 v]] w (Said w (recHard t v)) := by
  obtain ⟨u, hu⟩ : ∃ u, uns (v + 1) = u := ⟨_, rfl⟩
  have hul : u < 18446744073709551616 := by rw [← hu]; exact uns_lt _
  have HE : Hid (nums [1, t, u] = recHard t v) := by
    have : nums [1, t, u] = recHard t v := by simp [nums, recHard, hu]
    exact this
  have hz := wrap_vote hv0 hv1
  rw [hu] at hz
  obtain ⟨z, hz1⟩ : ∃ z, IntKind.i64.wrap (v + 1) = z := ⟨_, rfl⟩
  have hz2 : wrap64 (v + 1) = z := by rw [← hz1, IntKind.wrap_i64]; unfold wrap64; omega
  rw [hz1] at hz
  have hz3 : z % 18446744073709551616 = (u : Int) := by rw [← hz, IntKind.wrap_u64]
  have hall : Hid (∀ x ∈ [1, t, u], x < 18446744073709551616) := fun x hx => by
    simp only [List.mem_cons, List.not_mem_nil, or_false] at hx
    rcases hx with rfl | rfl | rfl
    · decide
    · exact ht
    · exact hul
  clear hu
  have hba : Below w.heap.size w (w.alloc (.cells #[.int .u64 (t : Int), .int .i64 v] 32)) := (Below.refl _ _).alloc (Nat.le_refl _) _
  have hcb := heap_alloc_new w (.cells #[.int .u64 (t : Int), .int .i64 v] 32)
  have hlt : w.heap.size < (w.alloc (.cells #[.int .u64 (t : Int), .int .i64 v] 32)).heap.size := lt_at hcb
  have c0 : (w.alloc (.cells #[.int .u64 (t : Int), .int .i64 v] 32)).cell? ⟨w.heap.size, 0, none⟩ = some (.int .u64 (t : Int)) := by rw [cell_at hcb]; rfl
  have c1 : (w.alloc (.cells #[.int .u64 (t : Int), .int .i64 v] 32)).cell? ⟨w.heap.size, 1, none⟩ = some (.int .i64 v) := by rw [cell_at hcb]; rfl
  have hl1 : Below (w.alloc (.cells #[.int .u64 (t : Int), .int .i64 v] 32)).heap.size (w.alloc (.cells #[.int .u64 (t : Int), .int .i64 v] 32)) ((w.alloc (.cells #[.int .u64 (t : Int), .int .i64 v] 32)).alloc (.cells #[.int .u64 1, .int .u64 (t : Int), .int .u64 (u : Int)] 30)) := (Below.refl _ _).alloc (Nat.le_refl _) _
  have hrd : Reads ((w.alloc (.cells #[.int .u64 (t : Int), .int .i64 v] 32)).alloc (.cells #[.int .u64 1, .int .u64 (t : Int), .int .u64 (u : Int)] 30)) ((w.alloc (.cells #[.int .u64 (t : Int), .int .i64 v] 32)).alloc (.cells #[.int .u64 1, .int .u64 (t : Int), .int .u64 (u : Int)] 30)).heap.size 1 (some ⟨(w.alloc (.cells #[.int .u64 (t : Int), .int .i64 v] 32)).heap.size, 0, none⟩) 3 (us [1, t, u]) := (reads_new (w.alloc (.cells #[.int .u64 (t : Int), .int .i64 v] 32)) (us [1, t, u]) 30).more (by simp)
  have hsz : (w.alloc (.cells #[.int .u64 (t : Int), .int .i64 v] 32)).heap.size = w.heap.size + 1 := by simp
  rw [hsz] at hrd
  clear hcb hsz
  go_enter Tryd.func17, Tryd.ntmps17
  go_wp2_with fail
  refine (nums_lit _ 3 3 _ hrd hall.out (by decide) HE).mono ?_
  rintro e w1 ⟨rfl, hb1⟩
  go_wp2
  go_ret
  exact ⟨rfl, hba.trans ((hl1.trans (hb1.mono hl1.size)).mono hba.size)⟩
theorem nums_hid (A : Option Addr) (c : Nat) (n : Nat) {l : List Nat} {L : ByteArray} (w : World) (h : Reads w w.heap.size 1 A n (us l)) (hb : ∀ x ∈ l, x < 18446744073709551616) (hn : n ≤ 1000) (he : Hid (str (nums l) = L)) :
    Calls Tryd.prog 40 #[.slice A n c] w fun e w' => e = .returned (.string L) ∧ Below w.heap.size w w' := by
  have := nums_any A n c l w h hb hn
  rw [← he.out]
  exact this
end Go.Proofs.YtamncdpeklbhlaaDoor.RRec
set_option linter.unusedVariables false
set_option linter.unusedSimpArgs false
namespace Go.Proofs.YtamncdpeklbhlaaDoor.LawB
open Go.RowKit Go.Proofs.YtamncdpeklbhlaaDoor.Kit Go.Proofs.YtamncdpeklbhlaaDoor.Blocks Go.Proofs.YtamncdpeklbhlaaDoor.Rlog Go.Proofs.YtamncdpeklbhlaaDoor.Sto Go.Proofs.YtamncdpeklbhlaaDoor.Sav Go.Proofs.YtamncdpeklbhlaaDoor.Ents Go.Proofs.YtamncdpeklbhlaaDoor.Hold Go.Proofs.YtamncdpeklbhlaaDoor.Del Go.Proofs.YtamncdpeklbhlaaDoor.Save Go.Proofs.YtamncdpeklbhlaaDoor.Anew Go.Proofs.YtamncdpeklbhlaaDoor.Ahe Go.Proofs.YtamncdpeklbhlaaDoor.Open Go.Proofs.YtamncdpeklbhlaaDoor.Model Go.Proofs.YtamncdpeklbhlaaDoor.Ops Go.Proofs.YtamncdpeklbhlaaDoor.ScA Go.Proofs.YtamncdpeklbhlaaDoor.FrA Go.Proofs.YtamncdpeklbhlaaDoor.SumB Go.Proofs.YtamncdpeklbhlaaDoor.Wal Go.Proofs.YtamncdpeklbhlaaDoor.Solo Go.Proofs.YtamncdpeklbhlaaDoor.Sol Go.Proofs.YtamncdpeklbhlaaDoor.Bgn Go.Proofs.YtamncdpeklbhlaaDoor.Cals Go.Proofs.YtamncdpeklbhlaaDoor.Lit Go.Proofs.YtamncdpeklbhlaaDoor.Going Go.Proofs.YtamncdpeklbhlaaDoor.Light
open Go.Proofs.YtamncdpeklbhlaaDoor.DskWalkC (str)

theorem neq_hards (a b a' b' : Int) : ∃ q : Bool, (∀ w, (binOp .neq 32 (.agg #[.int .u64 a, .int .i64 b]) (.agg #[.int .u64 a', .int .i64 b'])).run Tryd.prog w = .ok (.bool q) w) ∧ (q = false ↔ (a = a' ∧ b = b')) := by
  by_cases h1 : a = a'
  · by_cases h2 : b = b'
    · exact ⟨false, fun w => by simp [binOp, Op.equal, Op.maxDepth, go_sem, h1, h2], by simp [h1, h2]⟩
    · exact ⟨true, fun w => by simp [binOp, Op.equal, Op.maxDepth, go_sem, h1, h2], by simp [h1, h2]⟩
  · exact ⟨true, fun w => by simp [binOp, Op.equal, Op.maxDepth, go_sem, h1], by simp [h1]⟩
theorem field_hard (w : World) (a b c d e : Int) (x : ByteArray) (A : Option Addr) (n k : Nat) : (Instr.field 37 (.agg #[.int .u64 a, .int .i64 b, .int .u64 c, .int .u64 d, .int .u64 e, .string x, .slice A n k]) 0).run Tryd.prog w = .ok (.agg #[.int .u64 a, .int .i64 b]) w := by kernel_rfl
theorem read_lit {B : Nat} {L : List Nat} {W : World} {p N : Nat} {m : M} (h : Has B L W p N m) {F : List UInt8} (hr : m.read 0 = (F, 0)) {s : ByteArray} (hs : Hid (str F = s)) :
    Calls Tryd.prog 15 #[.pointer (some ⟨p, 0, none⟩), .int .i64 0] W fun e W' => e = .returned (.tuple #[.string s, .int .i64 0]) ∧ Below W.heap.size W W' := by
  refine (read_has 0 h (by decide) (by decide)).mono ?_
  intro e W' hg
  rw [hr] at hg
  have := hs.out
  subst this
  exact hg
theorem open_new {B : Nat} {w : World} {p : Nat} (h : Has B [] w p 0 (M.new 1048576)) (htab : Tab w) (hgB : 0 < B) (C : List Cal) :
    Calls Tryd.prog 9 #[.pointer (some ⟨p, 0, none⟩), .int .i64 0, .int .u64 7] w fun e w' => ∃ t b A cc, e = .returned (.tuple #[.pointer (some ⟨t, 0, none⟩), .agg #[.int .u64 0, .int .i64 (-1), .int .u64 0, .int .u64 0, .int .u64 7, .string ByteArray.empty, .slice A 0 cc], .int .i64 0]) ∧ Goes B w' t b p C 0 ∧ Below B w w' := by
  refine (open_lit h htab hgB (by omega) 0 7 (by decide) (Lib.hid (sopen_new 1048576 0 (by decide) Lit.sound7))).mono ?_
  rintro e w' ⟨t, b, L', v, A, cc, he, hS, _, hk, _, _⟩
  exact ⟨t, b, A, cc, he, ⟨_, _, _, _, hS, by simpa [total] using fit_first 0 7⟩, hk.below h.low⟩

set_option maxRecDepth 100000 in
set_option maxHeartbeats 8000000 in
theorem still_mid (C : Option Addr) (m cc : Nat) (L : List Cal) (tm : Nat) (vt : Int) (w : World) (hh : Holds w w.heap.size C m L) (hm : m ≤ 9223372036854775807) (hT : total L ≤ 1048576) (htm : tm < 18446744073709551616) (hv0 : -9223372036854775808 ≤ vt) (hv1 : vt ≤ 9223372036854775807) (ht : Tab w) :
    Calls Tryd.prog 5 #[.slice C m cc, .agg #[.int .u64 (tm : Int), .int .i64 vt]] w fun e w' => e = .returned (.bool true) ∧ Below w.heap.size w w' := by
  have hg := Tab.lt ht
  have HT := Lib.hid ht
  have hba : Below w.heap.size w (w.alloc (.cells #[.int .u64 (tm : Int), .int .i64 vt] 32)) := (Below.refl _ _).alloc (Nat.le_refl _) _
  have hcb := heap_alloc_new w (.cells #[.int .u64 (tm : Int), .int .i64 vt] 32)
  obtain ⟨w0, hw0⟩ : ∃ w0, w.alloc (.cells #[.int .u64 (tm : Int), .int .i64 vt] 32) = w0 := ⟨_, rfl⟩
  rw [hw0] at hba hcb
  have hlt0 := lt_at hcb
  have HW0 := Lib.hid hw0
  have HCB := Lib.hid hcb
  have HH := Lib.hid hh
  have HM := Lib.hid hh.1
  obtain ⟨q, hq⟩ : ∃ q, decide (total L ≤ 400) = q := ⟨_, rfl⟩
  have HQ := Lib.hid hq
  have HTL := Lib.hid hT
  clear ht hw0 hcb hh hq hT
  go_enter Tryd.func5, Tryd.ntmps5
  go_wp2_with fail
  rw [HW0.out]
  refine (begun_any _ (Tab.next HT.out hba)).mono ?_
  rintro e w1 ⟨rfl, hb1⟩
  have hB1 := hba.trans (hb1.mono hba.size)
  have hc1 := (hb1.block w.heap.size (lt_at HCB.out)).trans HCB.out
  go_wp2_with fail
  refine (light_any C m cc L w1 (HH.out.below hB1 hB1.size) hm HTL.out).mono ?_
  rintro e w2 ⟨rfl, hb2⟩
  rw [HQ.out]
  have hB2 := hB1.trans (hb2.mono hB1.size)
  have hc2 := (hb2.block w.heap.size (lt_at hc1)).trans hc1
  have HC2 := Lib.hid hc2
  cases q
  case false =>
    go_wp2
    go_ret
    exact ⟨rfl, hB2⟩
  have hT4 : total L ≤ 400 := of_decide_eq_true HQ.out
  go_wp2_with fail
  refine (new_has (B := w2.heap.size) 1048576 (by omega) (Nat.le_refl _)).mono ?_
  rintro e w3 ⟨p, rfl, hD3, hp, hb3⟩
  have hB3 := hB2.trans (hb3.mono hB2.size)
  have hgB := Nat.lt_of_lt_of_le hg hB2.size
  have hx2 := lt_at hc2
  go_wp2_with fail
  refine (open_new hD3 (Tab.next HT.out hB3) hgB L).mono ?_
  rintro e w4 ⟨t, b, A, c0, rfl, hG4, hb4⟩
  have hb4' := (hb3.trans (hb4.mono (Nat.le_refl _)))
  have hB4 := hB2.trans (hb4'.mono hB2.size)
  have l5 : Below w4.heap.size w4 (w4.alloc (.cells #[.int .u64 0, .int .i64 (-1), .int .u64 0, .int .u64 0, .int .u64 7, .string ByteArray.empty, .slice A 0 c0] 37)) := (Below.refl _ _).alloc (Nat.le_refl _) _
  have hG5 := hG4.below l5
  have hB5 := hb4'.trans (l5.mono hG4.base)
  clear hD3 hG4 hB4 l5 hb4' hb4 hb3 hB3 hb1 hb2 hc1 hB1
  go_wp2_with fail
  go_loopw [38] (fun x wr => ∃ (k : Nat), k ≤ m ∧ x = .int .i64 (k : Int) ∧ Hid (Goes w2.heap.size wr t b p L k) ∧ Below w2.heap.size w2 wr) (fun x _ => m - (intOf x).toNat)
  case atStart => exact ⟨0, by omega, rfl, Lib.hid hG5, hB5⟩
  case round =>
    obtain ⟨k, hk, rfl, HG, hbel⟩ := hrel
    have hbw : Below w.heap.size w wr := hB2.trans (hbel.mono hB2.size)
    by_cases hkm : k < m
    · obtain ⟨x, hx⟩ : ∃ x, L[k]? = some x := ⟨_, List.getElem?_eq_getElem (by rw [HM.out]; exact hkm)⟩
      obtain ⟨b', o, rfl, hbl, hten, hcal⟩ := (HH.out.below hbw hB2.size).2 k x hx
      have c0 := hten.c0
      have c1 := hten.c1
      have c2 := hten.c2
      have c3 := hten.c3
      have c4 := hten.c4
      have c5 := hten.c5
      have c6 := hten.c6
      have c7 := hten.c7
      have l6 : Below wr.heap.size wr (wr.alloc (.cells #[.bool x.anew, .int .u64 (x.term : Int), .int .i64 x.vote, .int .u64 (x.snap.idx : Int), .int .u64 (x.snap.term : Int), .int .u64 (x.snap.cfg : Int), .string x.snap.data, .slice x.A x.n x.c] 41)) := (Below.refl _ _).alloc (Nat.le_refl _) _
      have hon := on_save (HG.out.below l6) (Tab.next HT.out (hbw.trans (l6.mono hbw.size))) hgB hx (hcal.below (l6.mono HG.out.base) (Nat.le_refl _)) hT4
      have hb6 := hbel.trans (l6.mono hbel.size)
      have HON := Lib.hid hon
      clear hten hcal hon l6
      go_wp2_with fail
      refine HON.out.mono ?_
      rintro e w7 ⟨⟨r, rfl⟩, hG7, hb7⟩
      go_wp2_with fail
      go_roundw
      case rel => exact ⟨k + 1, by omega, by go_num, Lib.hid hG7, hb6.trans (hb7.mono (Nat.le_refl _))⟩
      case measure => simp [intOf]; omega
    · obtain rfl : k = m := by omega
      have hG := HG.out
      obtain ⟨m7, s7, L7, v7, hS7, hF7⟩ := hG
      have hk4 : k ≤ 400 := by
        have := len_total L
        rw [HM.out] at this
        omega
      have hT7 : total (L.take k) ≤ 400 := Nat.le_trans (total_le L k) hT4
      obtain ⟨F, hrd, hFl, hsol⟩ := fit_read (by decide) hF7
      have hes : s7.es.length ≤ 400 := Nat.le_trans hF7.len hT7
      obtain ⟨FS, hFS⟩ : ∃ FS, str F = FS := ⟨_, rfl⟩
      have HFS := Lib.hid hFS
      have HRD := Lib.hid hrd
      have hcB := (hbel.block w.heap.size hx2).trans hc2
      clear hrd hFS
      go_wp2_with fail
      refine (read_lit hS7.disk HRD.out HFS).mono ?_
      rintro e w8 ⟨rfl, hb8⟩
      go_wp2_with fail
      refine (state_any (hS7.below hb8).sto (by omega)).mono ?_
      rintro e w9 ⟨A9, cc9, rfl, _, hb9⟩
      unfold staV
      have hfh := fun W => field_hard W (s7.term : Int) s7.vote (s7.snap.idx : Int) (s7.snap.term : Int) (s7.snap.cfg : Int) s7.snap.data A9 s7.es.length cc9
      have hb79 := hb8.trans (hb9.mono hb8.size)
      have hS9 := hS7.below hb79
      have hc9 := (hb79.block w.heap.size (lt_at hcB)).trans hcB
      have l10 : Below w9.heap.size w9 (w9.alloc (.cells #[.int .u64 (s7.term : Int), .int .i64 s7.vote] 32)) := (Below.refl _ _).alloc (Nat.le_refl _) _
      have hc10 := (l10.block w.heap.size (lt_at hc9)).trans hc9
      have hn10 := heap_alloc_new w9 (.cells #[.int .u64 (s7.term : Int), .int .i64 s7.vote] 32)
      obtain ⟨w10, hw10⟩ : ∃ w10, w9.alloc (.cells #[.int .u64 (s7.term : Int), .int .i64 s7.vote] 32) = w10 := ⟨_, rfl⟩
      rw [hw10] at l10 hc10 hn10
      have HW10 := Lib.hid hw10
      have hS10 := hS9.beside l10 (Nat.le_refl _) (lt_at hn10)
      have hB10 := hbw.trans ((hb79.trans (l10.mono hb79.size)).mono hbw.size)
      have hsv := save_lit hS10 (Tab.next HT.out hB10) hgB (by omega) (by decide) (by decide) s7.term s7.vote hS7.sb.term hS7.sb.v0 hS7.sb.v1 none 0 0 [] (RE.nil _ _ _) (fun h => absurd h (by omega)) (fun e he => by cases he) (by omega) (by omega) (Lib.hid (save_still hS7.ok))
      have hbs10 := hS10.base
      have HSV := Lib.hid hsv
      have HC10 := Lib.hid hc10
      have HN10 := Lib.hid hn10
      have HS7 := Lib.hid hS7
      have HF7 := Lib.hid hF7
      clear hw10 hsv hS10 hS9 hS7 hF7 hc10 hn10 hc9 hcB l10 hb79
      go_wp2_with fail
      rw [HW10.out]
      refine HSV.out.mono ?_
      rintro e w11 ⟨rfl, ⟨L11, v11, hS11⟩, hk11⟩
      have hc11 := hk11.heap HC10.out (.inl hx2)
      have hn11 := hk11.heap HN10.out (.inr (by simp))
      have hb11 := hB10.trans ((hk11.below hbs10).mono hB2.size)
      have hbs11 := hS11.base
      go_wp2_with fail
      refine (read_lit hS11.disk HRD.out HFS).mono ?_
      rintro e w12 ⟨rfl, hb12⟩
      have hS12 := hS11.below hb12
      have hc12 := (hb12.block w.heap.size (lt_at hc11)).trans hc11
      have hn12 := (hb12.block w9.heap.size (lt_at hn11)).trans hn11
      have hB12 := hb11.trans (hb12.mono hb11.size)
      have x0 : w12.cell? ⟨w.heap.size, 0, none⟩ = some (.int .u64 (tm : Int)) := by rw [cell_at hc12]; rfl
      have x1 : w12.cell? ⟨w.heap.size, 1, none⟩ = some (.int .i64 vt) := by rw [cell_at hc12]; rfl
      have hx12 := lt_at hc12
      have HC12 := Lib.hid hc12
      have HN12 := Lib.hid hn12
      have hbs12 := hS12.base
      clear hb12 hc11 hn11 hb11 hk11 hS11 hbs11 hB10
      obtain ⟨r, m', s', F', hs', hrd', hno, hyes⟩ : ∃ r m' s' F', ssave m7 0 s7 tm vt [] = (r, (m', s')) ∧ m'.read 0 = (F', 0) ∧ (voteB vt = false → r = 1 ∧ F' = F) ∧ (voteB vt = true → r = 0 ∧ F' = F ++ (if tm = s7.term ∧ vt = s7.vote then [] else frame (recHard tm vt))) := by
        cases hv : voteB vt with
        | false => exact ⟨1, m7, s7, F, save_novote HS7.out.ok hv, HRD.out, (fun _ => ⟨rfl, rfl⟩), (fun e => by cases e)⟩
        | true =>
          obtain ⟨m', h1, h2⟩ := save_one (by decide) HF7.out HS7.out.ok hT7 htm hv0 hv1 hv hsol hFl
          exact ⟨0, m', _, _, h1, h2, (fun e => by cases e), (fun _ => ⟨rfl, rfl⟩)⟩
      have HS' := Lib.hid hs'
      have HRD' := Lib.hid hrd'
      have HNO := Lib.hid hno
      have HYES := Lib.hid hyes
      obtain ⟨FC, hFC⟩ : ∃ FC, str F' = FC := ⟨_, rfl⟩
      have HFC := Lib.hid hFC
      clear hs' hrd' hno hyes hFC hsol
      go_wp2_with fail
      refine (save_lit hS12 (Tab.next HT.out hB12) hgB (by omega) (by decide) (by decide) tm vt htm hv0 hv1 none 0 0 [] (RE.nil _ _ _) (fun h => absurd h (by omega)) (fun e he => by cases he) (by omega) (by omega) HS').mono ?_
      rintro e w13 ⟨rfl, ⟨L13, v13, hS13⟩, hk13⟩
      have hc13 := hk13.heap HC12.out (.inl hx2)
      have hn13 := hk13.heap HN12.out (.inr (by simp))
      have hB13 := hB12.trans ((hk13.below hbs12).mono hB2.size)
      clear hk13 hS12 x0 x1
      go_wp2_with fail
      refine (read_lit hS13.disk HRD'.out HFC).mono ?_
      rintro e w14 ⟨rfl, hb14⟩
      have hc14 := (hb14.block w.heap.size (lt_at hc13)).trans hc13
      have hn14 := (hb14.block w9.heap.size (lt_at hn13)).trans hn13
      have hB14 := hB13.trans (hb14.mono hB13.size)
      have x0 : w14.cell? ⟨w.heap.size, 0, none⟩ = some (.int .u64 (tm : Int)) := by rw [cell_at hc14]; rfl
      have x1 : w14.cell? ⟨w.heap.size, 1, none⟩ = some (.int .i64 vt) := by rw [cell_at hc14]; rfl
      have y0 : w14.cell? ⟨w9.heap.size, 0, none⟩ = some (.int .u64 (s7.term : Int)) := by rw [cell_at hn14]; rfl
      have y1 : w14.cell? ⟨w9.heap.size, 1, none⟩ = some (.int .i64 s7.vote) := by rw [cell_at hn14]; rfl
      have hx14 := lt_at hc14
      have hy14 := lt_at hn14
      clear hc13 hn13 hc14 hn14 hb14 hB13 hB12 hS13
      have hvd : voteB vt = decide (-1 ≤ vt ∧ vt < 7) := rfl
      by_cases hlo : vt < -1
      · obtain ⟨rfl, rfl⟩ := HNO.out (by rw [hvd]; exact decide_eq_false (by omega))
        obtain rfl : FC = FS := by rw [← HFC.out, ← HFS.out]
        go_wp2
        go_ret
        exact ⟨rfl, hB14⟩
      by_cases hhi : 7 ≤ vt
      · obtain ⟨rfl, rfl⟩ := HNO.out (by rw [hvd]; exact decide_eq_false (by omega))
        obtain rfl : FC = FS := by rw [← HFC.out, ← HFS.out]
        go_wp2
        go_ret
        exact ⟨rfl, hB14⟩
      obtain ⟨rfl, hF'⟩ := HYES.out (by rw [hvd]; exact decide_eq_true (by omega))
      obtain ⟨q, hneq, hqi⟩ := neq_hards (tm : Int) vt (s7.term : Int) s7.vote
      have hcase : (q = false ∧ FC = FS) ∨ (q = true ∧ F' = F ++ frame (recHard tm vt)) := by
        by_cases heq : tm = s7.term ∧ vt = s7.vote
        · rw [if_pos heq, List.append_nil] at hF'
          exact .inl ⟨hqi.2 ⟨by omega, heq.2⟩, by rw [← HFC.out, ← HFS.out, hF']⟩
        · rw [if_neg heq] at hF'
          refine .inr ⟨?_, hF'⟩
          cases q
          · exact absurd (hqi.1 rfl) (fun h => heq ⟨by omega, h.2⟩)
          · rfl
      clear hqi hF'
      rcases hcase with ⟨rfl, rfl⟩ | ⟨rfl, hF'⟩
      · go_wp2
        go_ret
        exact ⟨rfl, hB14⟩
      obtain ⟨X, hX⟩ : ∃ X, PckWalkH.str (recHard tm vt) = X := ⟨_, rfl⟩
      obtain ⟨FR, hFR⟩ : ∃ FR, str (frame (recHard tm vt)) = FR := ⟨_, rfl⟩
      have hXs : X.data.toList = recHard tm vt := by rw [← hX]; exact PckWalkH.str_list _
      have hlen := hard_length (v := vt) htm
      have hfsz := frame_short (recHard tm vt)
      have hFRs : FR.size ≤ 100 := by rw [← hFR]; show (str (frame (recHard tm vt))).size ≤ 100; rw [show (str (frame (recHard tm vt))).size = (frame (recHard tm vt)).length from PckWalkH.str_size _]; omega
      have hFSs : FS.size ≤ 60000 := by rw [← HFS.out, show (str F).size = F.length from PckWalkH.str_size _]; omega
      have hjoin : FS ++ FR = FC := by rw [← HFC.out, ← HFS.out, ← hFR, hF']; exact PckWalkH.str_append _ _
      have hXz : X.size ≤ 1000000000 := by rw [← hX, PckWalkH.str_size]; omega
      have hbig : ¬ 9223372036854775807 < FS.size + FR.size := by omega
      have HX := Lib.hid hX
      have HXs := Lib.hid hXs
      have HFR := Lib.hid hFR
      clear hX hXs hFR hF' hlen hfsz
      go_wp2_with fail
      refine (RRec.rhard_rec tm vt _ htm hv0 hv1).mono ?_
      rintro e w15 ⟨rfl, hb15⟩
      rw [HX.out]
      have hB15 := hB14.trans (hb15.mono hB14.size)
      go_wp2_with fail
      refine (rframe_any X _ hXz).mono ?_
      rintro e w16 ⟨rfl, hb16⟩
      rw [HXs.out, HFR.out]
      have hB16 := hB15.trans (hb16.mono hB15.size)
      go_wp2
      go_ret
      exact ⟨rfl, hB16⟩
theorem small {H : Type} {d : DataW H} {l : List (DataW H)} {a : Nat} (h : a ≤ Rows.uptoBulk d) (hall : Rows.uptoBulkAll (d :: l) ≤ 1048576) : a ≤ 1048576 := by
  simp only [Rows.uptoBulkAll] at hall
  omega
theorem still_walk (C : Option Addr) (m cc : Nat) (L : List Cal) (tm : Nat) (vt : Int) (w : World) (hh : Holds w w.heap.size C m L) (hm : m ≤ 9223372036854775807) (htm : tm < 18446744073709551616) (hv0 : -9223372036854775808 ≤ vt) (hv1 : vt ≤ 9223372036854775807) (hT : total L ≤ 1048576) (ht : Tab w) :
    Calls Tryd.prog 5 #[.slice C m cc, .agg #[.int .u64 (tm : Int), .int .i64 vt]] w fun e w' => e = .returned (.bool true) ∧ Below w.heap.size w w' := still_mid C m cc L tm vt w hh hm hT htm hv0 hv1 ht
end Go.Proofs.YtamncdpeklbhlaaDoor.LawB
namespace Go.Proofs.YtamncdpeklbhlaaDoor.PStoreStillUpto
open Go.ChangeShapes Go.WideShapes Go.ChangeAt Go.RowKit Go.Proofs.YtamncdpeklbhlaaDoor.Kit Go.Proofs.YtamncdpeklbhlaaDoor.Frame
set_option linter.unusedVariables false

theorem own : ownKnob Tryd.prog.godebug = none := by kernel_rfl
theorem laidOut : laidOutB Tryd.prog = true := by kernel_rfl

set_option maxRecDepth 100000 in
theorem contract (H : Type) (enc : TypeId × Value → H) (W : World) (base : Nat) (args : Array Value) (ds gs : List (DataW H)) (before : List MemPlace)
    (hval : ∀ (j : Nat) t v, Tryd.f5.params[j]? = some t → args[j]? = some v → Value.okWide Tryd.prog W .any base t v)
    (hW : DataW.Whole enc Tryd.prog Tryd.f5.params.toList Rows.storeStillSpec.vars false W args.toList ds gs before)
    (hk : Rows.uptoSmall H (ds ++ gs) = true)
    (hs0 : (DataW.weightsEach Tryd.prog (Tryd.f5.params.toList ++ (Rows.OpenSpec.upto Rows.storeStillSpec).bare.plain.varTypes Tryd.prog) (ds ++ gs)).all (· ≤ reachBytes) = true)
    (hL : laidMetH Tryd.prog Rows.storeStillUptoRow.laid W) :
    Calls Tryd.prog 5 args W fun e W' => ∃ v, e = .returned v ∧ Rows.storeStillSpec.post enc Tryd.prog Tryd.f5 false true false false W args v W' := by
  have hW' := hW
  obtain ⟨p, q, hA0, hV, rfl, hfz, hnd⟩ := hW
  have hA : DataW.TrodAll enc Tryd.prog W 0 (fun _ => true) true Tryd.f5.params.toList args.toList ds p := hA0
  rw [Tryd.params5] at hA hval
  obtain ⟨v0, vs0, d0, ds0, p0, q0, hargs, rfl, rfl, h0, r0⟩ := trodAll_cons hA
  obtain ⟨v1, vs1, d1, ds1, p1, q1, rfl, rfl, rfl, h1, r1⟩ := trodAll_cons r0
  obtain ⟨rfl, rfl, rfl⟩ := trodAll_nil r1
  obtain rfl : args = #[v0, v1] := by cases args; simp_all
  obtain ⟨rfl, rfl⟩ := trodVars_none hV
  have lt0 : ∀ x ∈ p0, x.block < W.heap.size := by obtain ⟨m, hm⟩ := h0; exact DataW.trod_lt m _ _ _ hm
  obtain ⟨C0, m0, cc0, L0, rfl, hh0_0, hm0_1, d0_2⟩ := Opens.arg_calls (hval 0 22 v0 rfl rfl) h0
  have lt1 : ∀ x ∈ p1, x.block < W.heap.size := by obtain ⟨m, hm⟩ := h1; exact DataW.trod_lt m _ _ _ hm
  obtain ⟨t1, v1, rfl, ht1_0, hv01_1, hv11_2⟩ := Opens.arg_hard (hval 1 32 v1 rfl rfl) h1
  have hall : Rows.uptoBulkAll _ ≤ 1048576 := of_decide_eq_true hk
  clear hA0
  refine (LawB.still_walk C0 m0 cc0 L0 t1 v1 W hh0_0 hm0_1 ht1_0 hv01_1 hv11_2 (LawB.small d0_2 hall) (Laid.tab_of_laid hL)).mono fun e W' ⟨he, bel⟩ => ?_
  subst he
  exact ⟨_, rfl, _, _, _, [], _, [], hW', trodAll_mk1 (shut_bool Tryd.underlying4 _), (trodAll_cons_mk (Below.trod laidOut (by kernel_rfl) (of_decide_eq_true (by kernel_rfl)) h0 bel lt0) (trodAll_cons_mk (Below.trod laidOut (by kernel_rfl) (of_decide_eq_true (by kernel_rfl)) h1 bel lt1) trodAll_mk0)), rfl, bel.frame _, fun h => by cases h⟩

theorem laid_met (os : Os) : laidMet Tryd.prog Rows.storeStillUptoRow.laid (((Laid.laidWorld os)).forCall (fun _ _ => 0) ⟨#[], #[.slice none 0 0, .agg #[.int .u64 0, .int .i64 0]], []⟩).memory :=
  laidMet_of_run' 8 (by kernel_rfl) (by kernel_rfl)
theorem reads (os : Os) {H : Type} (enc : TypeId × Value → H) : ∃ places, DataW.whole enc Tryd.prog ((Laid.laidWorld os).forCall (fun _ _ => 0) ⟨#[], #[.slice none 0 0, .agg #[.int .u64 0, .int .i64 0]], []⟩).memory Tryd.f5.params.toList Rows.storeStillSpec.vars false (#[.slice none 0 0, .agg #[.int .u64 0, .int .i64 0]] : Array Value).toList 8 = some ([.nil, .agg [.lit (.int .u64 0), .lit (.int .i64 0)]], [], places) :=
  ⟨[], by kernel_rfl⟩

set_option maxRecDepth 100000 in
theorem lifted (os : Os) (started : os.Started) (H : Type) (enc : TypeId × Value → H) (F : Stop.Interp) :
    ReturnsInHanded {} Tryd.checked os 5 .any ((Rows.OpenSpec.upto Rows.storeStillSpec).preRow enc Tryd.prog Tryd.f5 Rows.storeStillUptoRow.domain false Rows.storeStillUptoRow.laid) (((Rows.OpenSpec.upto Rows.storeStillSpec).at F).post enc Tryd.prog Tryd.f5 false true false false) := by
  obtain ⟨places, hx⟩ := reads os enc
  refine returnsInHanded_of_row (C := Tryd.checked) (s := (Rows.OpenSpec.upto Rows.storeStillSpec)) own started (by kernel_rfl) Tryd.func5
    (witness_row_at (enc := enc) (C := Tryd.checked) false (Laid.laidWorld os) #[.slice none 0 0, .agg #[.int .u64 0, .int .i64 0]] rfl (by kernel_rfl) (by kernel_rfl) (by kernel_rfl)
      (OpenSpec.preRow_of_cond 8 hx (by kernel_rfl) (fun k hk => by cases hk; kernel_rfl) (by kernel_rfl) (laid_met os))) ?_
  intro W base args ds gs before hval hW _ hcond hsz hL _ _
  exact contract H enc W base args ds gs before hval hW (hcond _ rfl) hsz hL

theorem over : Rows.StoreStillUptoSaid :=
  OpenClaim.holds_of_cond 5 Tryd.f5 rfl rfl rfl rfl rfl rfl rfl ⟨rfl, rfl, rfl, rfl, rfl⟩ rfl rfl rfl rfl rfl (by kernel_rfl) Tryd.func5 (by kernel_rfl)
    (of_decide_eq_true (by kernel_rfl)) (by unfold Func.isWrapper; first | (rw [if_pos (by decide +kernel)]; kernel_rfl) | (rw [if_neg (by decide +kernel)]; exact ⟨rfl, rfl⟩))
    (fun os started H enc _ F => by rw [OpenClaim.pre_eq_preRow]; exact lifted os started H enc F)

theorem plain (f : FuncId) (fn : Func) (hf : Tryd.pinned.checked.prog.funcNamed "tontine/tontinelaw08.StoreStill" = some f) (hfn : Tryd.pinned.checked.prog.funcs[f]? = some fn) :
    false = Tryd.pinned.checked.prog.looks [] ∧ ∀ (j : Nat) t, fn.params[j]? = some t → Tryd.pinned.checked.prog.wantsStandIn t = false := by
  obtain rfl : f = 5 := Option.some.inj ((show Tryd.prog.funcNamed "tontine/tontinelaw08.StoreStill" = some 5 by kernel_rfl).symm.trans hf) |>.symm
  obtain rfl : fn = Tryd.f5 := (Option.some.inj (Tryd.func5.symm.trans hfn)).symm
  refine ⟨by kernel_rfl, fun j t ht => ?_⟩
  rw [Tryd.params5] at ht
  have hm : t ∈ [22, 32] := by simpa using Array.mem_of_getElem? ht
  have hall : (([22, 32] : List TypeId).all fun u => !Tryd.prog.wantsStandIn u) = true := by kernel_rfl
  exact (show Tryd.prog.wantsStandIn t = false by simpa using List.all_eq_true.1 hall t hm)

theorem proved : Rows.StoreStillUptoCardSaid :=
  Claim7.holds_tied_plain_at .later [] _ _ _ _ over (fun _ h => by cases h) (by kernel_rfl) (fun _ h => by cases h) storeStillUpto_row_tie rfl ⟨rfl, rfl⟩ (by kernel_rfl) rfl plain (by kernel_rfl)
end Go.Proofs.YtamncdpeklbhlaaDoor.PStoreStillUpto
