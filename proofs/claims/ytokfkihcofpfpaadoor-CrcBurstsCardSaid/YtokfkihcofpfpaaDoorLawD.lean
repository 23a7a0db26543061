/- CrcThree walked: of three texts of one length the sums, laid over one another, are the sum of the texts laid over one another. -/
import Derived.Test.YtokfkihcofpfpaaDoorLawC
import Derived.Deep.QuietTactic
import Derived.BigQuiet
import Derived.BigRegion
import Derived.WalkLawsBesides
namespace Go.Proofs.YtokfkihcofpfpaaDoor.LawD
open Go.RowKit Go.Proofs.YtokfkihcofpfpaaDoor.Kit Go.Proofs.YtokfkihcofpfpaaDoor.Crc Go.Proofs.YtokfkihcofpfpaaDoor.SumA Go.Proofs.YtokfkihcofpfpaaDoor.SumB Go.Proofs.YtokfkihcofpfpaaDoor.Begun Go.Proofs.YtokfkihcofpfpaaDoor.LawA Go.Proofs.YtokfkihcofpfpaaDoor.LawC

theorem xor3_length : ∀ (a b c : List UInt8), a.length = b.length → b.length = c.length → (xor3 a b c).length = a.length
  | [], [], [], _, _ => rfl
  | _ :: a, _ :: b, _ :: c, h1, h2 => by
    rw [xor3, List.length_cons, List.length_cons, xor3_length a b c (by simpa using h1) (by simpa using h2)]
theorem xor3_get : ∀ (a b c : List UInt8) (k : Nat) (ha : k < a.length) (hb : k < b.length) (hc : k < c.length) (h : k < (xor3 a b c).length), (xor3 a b c)[k] = a[k] ^^^ b[k] ^^^ c[k]
  | _ :: _, _ :: _, _ :: _, 0, _, _, _, _ => rfl
  | _ :: a, _ :: b, _ :: c, k + 1, ha, hb, hc, h => xor3_get a b c k (by simpa using ha) (by simpa using hb) (by simpa using hc) (by simpa [xor3] using h)

/-- The first k of a list, then zeros. -/
def fill (xs : List UInt8) (N k : Nat) : List UInt8 := xs.take k ++ List.replicate (N - k) 0
theorem fill_zero (xs : List UInt8) (N : Nat) : fill xs N 0 = List.replicate N 0 := by simp [fill]
theorem fill_all (xs : List UInt8) (N : Nat) (h : xs.length = N) : fill xs N N = xs := by simp [fill, ← h]
theorem fill_get (xs : List UInt8) (N k : Nat) (h : xs.length = N) (hk : k < N) : (vals (fill xs N k))[k]? = some (.int .u8 (0 : Int)) := by
  have hl : (xs.take k).length = k := by rw [List.length_take]; omega
  unfold vals fill
  rw [List.getElem?_map, List.getElem?_append_right (by omega), hl, Nat.sub_self, show N - k = (N - (k + 1)) + 1 by omega, List.replicate_succ]
  rfl
theorem fill_set (xs : List UInt8) (N k : Nat) (h : xs.length = N) (hk : k < N) (hx : k < xs.length) : (vals (fill xs N k)).set k (.int .u8 (xs[k].toNat : Int)) = vals (fill xs N (k + 1)) := by
  have hl : (xs.take k).length = k := by rw [List.length_take]; omega
  have e : (fill xs N k).set k xs[k] = fill xs N (k + 1) := by
    unfold fill
    rw [List.set_append_right _ _ (by omega), hl, Nat.sub_self, show N - k = (N - (k + 1)) + 1 by omega, List.replicate_succ, List.set_cons_zero, List.take_succ_eq_append_getElem hx, List.append_assoc]
    rfl
  rw [← e]
  simp [vals, List.map_set]
/-- A sum in the middle of a region that draws its order. -/
theorem sum_q (A : Option Addr) (n c r : Nat) (l : List UInt8) (w : World) (h : RB w A n l) (ht : Tab w) (hnc : n ≤ c) (hc : c ≤ 9223372036854775807) (hr : Hid (add 0 l = r)) :
    Calls Tryd.prog 12 #[.slice A n c] w fun e w' => e = .returned (.int .u32 (r : Int)) ∧ w' = w :=
  (sum_hid A n c r l w h ht hnc hc hr).mono fun _ _ ⟨he, hw⟩ => ⟨he, hw.symm⟩
abbrev Quiet (A : Option Addr) (n c r : Nat) (w : World) (k : Nat) : Prop :=
  Calls Tryd.prog 12 #[.slice A n c] (w.drewN k) fun e w'' => e = .returned (.int .u32 (r : Int)) ∧ ∃ m, w'' = w.drewN m
theorem below_drewN {B : Nat} {a w : World} (h : Below B a w) (n : Nat) : Below B a (w.drewN n) := ⟨h.os, h.tape, h.output, h.size, h.block⟩
theorem xor8 (x y : UInt8) : bits .xor .u8 (x.toNat : Int) (y.toNat : Int) = ((x ^^^ y).toNat : Int) := by
  rw [u8_xor_nat _ _ x.toNat_lt y.toNat_lt, UInt8.toNat_xor]

set_option maxRecDepth 100000 in
set_option maxHeartbeats 1000000 in
theorem three_walk (A : Option Addr) (n c : Nat) (l : List UInt8) (B : Option Addr) (m d : Nat) (r : List UInt8) (E : Option Addr) (p f : Nat) (t : List UInt8) (w : World)
    (h : RB w A n l) (hnc : n ≤ c) (hc : c ≤ 9223372036854775807) (hn : n ≤ 140737488351232) (k : RB w B m r) (hmd : m ≤ d) (hd : d ≤ 9223372036854775807) (_hm : m ≤ 140737488351232)
    (i : RB w E p t) (hpf : p ≤ f) (hf : f ≤ 9223372036854775807) (_hp : p ≤ 140737488351232) (ht : Tab w) :
    Calls Tryd.prog 8 #[.slice A n c, .slice B m d, .slice E p f] w fun e w' => e = .returned (.bool true) ∧ Below w.heap.size w w' := by
  obtain ⟨i0, hi0, hi1, hi2, hi3⟩ := info_parts info8
  have HT := Lib.hid ht
  clear ht
  obtain ⟨N, hN⟩ : ∃ N, N = min (min n m) p := ⟨_, rfl⟩
  have hmin : ∀ (ts : Array TypeId) (t : TypeId) (w : World), (Builtin.min_ ts t #[.int .i64 (n : Int), .int .i64 (m : Int), .int .i64 (p : Int)]).run Tryd.prog w = .ok (.int .i64 (N : Int)) w := by
    intro ts t w
    rw [run_min_int3]
    congr 2
    split <;> split at * <;> omega
  have HN := Lib.hid hN
  clear hN
  go_enter Tryd.func8, Tryd.ntmps8
  go_wp2_with fail
  refine (begun_any _ HT.out).mono ?_
  rintro e w1 ⟨rfl, hb1⟩
  have hB1 := hb1.size
  have hNl : N ≤ n ∧ N ≤ m ∧ N ≤ p := by have := HN.out; omega
  go_wp2_with (at_make; refine wpList_make_full _ rfl _ _ 23 rfl w.heap.size 5 i0 _ 1 Tryd.underlying23 hi0 hi1 hi2 _ _ _ _ N rfl rfl rfl rfl ?b2 ?b3 hB1 ?_)
  case b2 => rw [hi3]; omega
  case b3 => unfold maxLen; omega
  intro w2 hown2 hg2
  have hz : (madeCells #[Value.int .u8 0] N).toList = vals (List.replicate N 0) := by
    rw [toList_madeCells_one]
    simp [vals]
  rw [hz] at hown2
  clear hz
  have hbel2 : Below w.heap.size w w2 := hb1.grown hg2 hB1 (by simp)
  clear hg2
  obtain ⟨xs, hxs⟩ : ∃ x, x = xor3 (l.take N) (r.take N) (t.take N) := ⟨_, rfl⟩
  have hl1 : (l.take N).length = N := by rw [List.length_take, reads_len h]; omega
  have hl2 : (r.take N).length = N := by rw [List.length_take, reads_len k]; omega
  have hl3 : (t.take N).length = N := by rw [List.length_take, reads_len i]; omega
  have hxl : xs.length = N := by rw [hxs, xor3_length _ _ _ (by omega) (by omega), hl1]
  have hown2' : w2.ownsRow w.heap.size 5 1 (.slice (some ⟨w1.heap.size, 0, none⟩) N N) N (vals (fill xs N 0)) := by rw [fill_zero]; exact hown2
  have HX := Lib.hid hxs
  have HXL := Lib.hid hxl
  have HL1 := Lib.hid hl1
  have HL2 := Lib.hid hl2
  have HL3 := Lib.hid hl3
  have HLL := Lib.hid (reads_len h)
  have HLR := Lib.hid (reads_len k)
  have HLT := Lib.hid (reads_len i)
  clear hown2 hxs hxl hl1 hl2 hl3 hmin
  go_wp2_with fail
  go_loopw [23] (fun j wr => ∃ q : Nat, q ≤ N ∧ j = .int .i64 q ∧ wr.ownsRow w.heap.size 5 1 (.slice (some ⟨w1.heap.size, 0, none⟩) N N) N (vals (fill xs N q)) ∧ Below w.heap.size w wr)
    (fun j _ => N - (intOf j).toNat)
  case atStart => exact ⟨0, Nat.zero_le _, rfl, hown2', hbel2⟩
  case round =>
    obtain ⟨q, hq, rfl, hown, hbel⟩ := hrel
    clear hown2' hbel2
    by_cases hlt : q < N
    · have hql : q < l.length := by have := HLL.out; omega
      have hqr : q < r.length := by have := HLR.out; omega
      have hqt : q < t.length := by have := HLT.out; omega
      have hqx : q < xs.length := by have := HXL.out; omega
      obtain ⟨ab, ao, rfl, _, hca⟩ := (h.below hbel).byte (k := q) (by omega) hql
      obtain ⟨bb, bo, rfl, _, hcb⟩ := (k.below hbel).byte (k := q) (by omega) hqr
      obtain ⟨eb, eo, rfl, _, hce⟩ := (i.below hbel).byte (k := q) (by omega) hqt
      have hxq : xs[q] = l[q] ^^^ r[q] ^^^ t[q] := by
        have e := xor3_get (l.take N) (r.take N) (t.take N) q (by rw [HL1.out]; exact hlt) (by rw [HL2.out]; exact hlt) (by rw [HL3.out]; exact hlt) (by rw [← HX.out]; exact hqx)
        simp only [List.getElem_take] at e
        rw [← e]
        congr 1
      have hct : wr.cell? ⟨w1.heap.size, q, none⟩ = some (.int .u8 (0 : Int)) := by rw [hown.cellAt q (by omega)]; exact fill_get xs N q HXL.out hlt
      have hfr : wr.frozen? ⟨w1.heap.size, q, none⟩ = false := hown.frozenAt q
      have hst := hown.stored q (.int .u8 (xs[q].toNat : Int))
      rw [fill_set xs N q HXL.out hlt hqx] at hst
      obtain ⟨v, hv⟩ : ∃ v, xs[q] = v := ⟨_, rfl⟩
      rw [hv] at hxq hst
      have hx1 := xor8 l[q] r[q]
      have hx2 := xor8 (l[q] ^^^ r[q]) t[q]
      rw [← hxq] at hx2
      have hvl := v.toNat_lt
      generalize l[q] ^^^ r[q] = u at hx1 hx2 hxq
      have hul := u.toNat_lt
      have hal := (l[q]).toNat_lt
      have hbl := (r[q]).toNat_lt
      have hcl := (t[q]).toNat_lt
      generalize l[q] = x at *
      generalize r[q] = y at *
      generalize t[q] = z at *
      have HST := Lib.hid hst
      clear hst hxq hv hown
      go_wp2
      go_region
      go_wp2
      go_roundw
      case rel => exact ⟨q + 1, by omega, by go_num, HST.out.1, (hbel.setCell (show w.heap.size ≤ w1.heap.size from hB1) _).drew⟩
      case measure => simp [intOf]; omega
    · have hqN : q = N := by omega
      subst hqN
      rw [fill_all xs q HXL.out] at hown
      have hBr := hbel.size
      have HT3 : Tab wr := Tab.below HT.out hbel
      have hx : RB wr (some ⟨w1.heap.size, 0, none⟩) q xs := Reads.of_own hown
      have ha : RB wr A q (l.take q) := ((h.below hbel).more hBr).bytes_upto hNl.1
      have hb : RB wr B q (r.take q) := ((k.below hbel).more hBr).bytes_upto hNl.2.1
      have he : RB wr E q (t.take q) := ((i.below hbel).more hBr).bytes_upto hNl.2.2
      have hsum := add_three (l.take q) (r.take q) (t.take q) (by rw [HL1.out, HL2.out]) (by rw [HL2.out, HL3.out])
      rw [← HX.out] at hsum
      obtain ⟨s0, h0⟩ : ∃ s, add 0 xs = s := ⟨_, rfl⟩
      obtain ⟨s1, h1⟩ : ∃ s, add 0 (l.take q) = s := ⟨_, rfl⟩
      obtain ⟨s2, h2⟩ : ∃ s, add 0 (r.take q) = s := ⟨_, rfl⟩
      obtain ⟨s3, h3⟩ : ∃ s, add 0 (t.take q) = s := ⟨_, rfl⟩
      rw [h0, h1, h2, h3] at hsum
      have b1 : s1 < 2 ^ 32 := by rw [← h1]; exact add_lt (by decide) _
      have b2 : s2 < 2 ^ 32 := by rw [← h2]; exact add_lt (by decide) _
      have b3 : s3 < 2 ^ 32 := by rw [← h3]; exact add_lt (by decide) _
      have x1 := u32_xor_nat s1 s2 b1 b2
      have b4 : s1 ^^^ s2 < 2 ^ 32 := Nat.xor_lt_two_pow b1 b2
      have x2 := u32_xor_nat (s1 ^^^ s2) s3 b4 b3
      rw [← hsum] at x2
      generalize s1 ^^^ s2 = s4 at x1 x2 hsum
      have HS0 := Lib.hid h0
      have HS1 := Lib.hid h1
      have HS2 := Lib.hid h2
      have HS3 := Lib.hid h3
      have HTT := Lib.hid HT3
      have hqa : (q : Int) ≤ c := by omega
      have hqb : (q : Int) ≤ d := by omega
      have hqe : (q : Int) ≤ f := by omega
      have C0 : Hid (∀ k, Quiet (some ⟨w1.heap.size, 0, none⟩) q q s0 wr k) := fun k => Calls.quiet_of_same (sum_q _ q q s0 xs _ (hx.drewN k) HTT.out (by omega) (by omega) HS0)
      have C1 : Hid (∀ k, Quiet A q c s1 wr k) := fun k => Calls.quiet_of_same (sum_q _ q c s1 (l.take q) _ (ha.drewN k) HTT.out (by omega) (by omega) HS1)
      have C2 : Hid (∀ k, Quiet B q d s2 wr k) := fun k => Calls.quiet_of_same (sum_q _ q d s2 (r.take q) _ (hb.drewN k) HTT.out (by omega) (by omega) HS2)
      have C3 : Hid (∀ k, Quiet E q f s3 wr k) := fun k => Calls.quiet_of_same (sum_q _ q f s3 (t.take q) _ (he.drewN k) HTT.out (by omega) (by omega) HS3)
      clear h0 h1 h2 h3 hsum HT3 hown hx ha hb he
      go_wp2
      go_quiet ((go_at_call 12; first
        | (with_reducible exact C0.out _)
        | (with_reducible exact C1.out _)
        | (with_reducible exact C2.out _)
        | (with_reducible exact C3.out _)))
      go_wp2
      go_ret
      exact ⟨rfl, below_drewN hbel _⟩
end Go.Proofs.YtokfkihcofpfpaaDoor.LawD
