/- lists: all the lists' slices, one behind the other: the iterator, and its contract with whatever body. -/
import Derived.Test.YtecejikolgkihaaWalkC
import Derived.RangeFuncNested
import Derived.RangeFuncBound
import Derived.RangeFuncCalls
import Derived.RangeFuncLeaves
import Derived.RangeFuncBox
import Derived.Shelf.Abstract
import Derived.WalkKit
import Derived.OwnWalkIn
import Derived.TacticsInMore
import Derived.LoopNIn
import Derived.LoopIn
set_option linter.unusedVariables false
namespace Go.Proofs.Ytecejikolgkihaa.Seq
open Go.RowKit Go.Shelf Go.Proofs.Ytecejikolgkihaa.Kit Go.Proofs.Ytecejikolgkihaa.Blocks Go.Proofs.Ytecejikolgkihaa.Whl Go.Proofs.Ytecejikolgkihaa.Tms Go.Proofs.Ytecejikolgkihaa.WAt Go.Proofs.Ytecejikolgkihaa.WalkA
attribute [local go_sem] Oper.semAt_some

/-- What a round is handed: a list's place. -/
abbrev Al := { k : Nat // k < 449 }
def encs (x : Fx) (k : Al) : Array Value := #[.pointer (some (spot x k.1))]
/-- All that comes. -/
def alls : List Al := (List.range 449).attach.map fun k => ⟨k.1, List.mem_range.1 k.2⟩
theorem alls_length : alls.length = 449 := by rw [alls, List.length_map, List.length_attach, List.length_range]
theorem alls_get (k : Nat) (hk : k < 449) : alls[k]? = some ⟨k, hk⟩ := by
  rw [List.getElem?_eq_getElem (by rw [alls_length]; exact hk)]
  simp [alls]
theorem alls_take (k : Nat) (hk : k < 449) : alls.take (k + 1) = alls.take k ++ [⟨k, hk⟩] := take_snoc alls k _ (alls_get k hk)
theorem mem_take {k : Nat} {a : Al} : a ∈ alls.take k ↔ a.1 < k := by
  constructor
  · intro h
    obtain ⟨i, hi, e⟩ := List.mem_iff_getElem.1 h
    rw [List.length_take, alls_length] at hi
    have h1 : (alls.take k)[i]? = some a := by rw [List.getElem?_eq_getElem (by rw [List.length_take, alls_length]; exact hi), e]
    rw [List.getElem?_take_of_lt (by omega), alls_get i (by omega)] at h1
    have h2 : i = a.1 := congrArg Subtype.val (Option.some.inj h1)
    omega
  · intro h
    have h1 : (alls.take k)[a.1]? = some a := by rw [List.getElem?_take_of_lt h, alls_get a.1 a.2]
    exact List.mem_of_getElem? h1
/-- Where a ring begins. -/
def base : Nat → Nat
  | 0 => 0
  | 1 => 64
  | 2 => 192
  | _ => 448
theorem spot_a (x : Fx) {j : Nat} (h : j < 64) : spot x j = ⟨x.a, j, none⟩ := if_pos h
theorem spot_b (x : Fx) {j : Nat} (h : j < 128) : spot x (64 + j) = ⟨x.b, j, none⟩ := by
  have h : ∀ k, 64 ≤ k → k < 192 → spot x k = ⟨x.b, k - 64, none⟩ := fun k h1 h2 => by unfold spot; rw [if_neg (by omega), if_pos h2]
  rw [h (64 + j) (by omega) (by omega), Nat.add_sub_cancel_left]
theorem spot_d (x : Fx) {j : Nat} (h : j < 256) : spot x (192 + j) = ⟨x.d, j, none⟩ := by
  have h : ∀ k, 192 ≤ k → k < 448 → spot x k = ⟨x.d, k - 192, none⟩ := fun k h1 h2 => by unfold spot; rw [if_neg (by omega), if_neg (by omega), if_pos h2]
  rw [h (192 + j) (by omega) (by omega), Nat.add_sub_cancel_left]
theorem spot_p (x : Fx) : spot x 448 = ⟨x.p, 2, none⟩ := by
  have h : ∀ k, 448 ≤ k → spot x k = ⟨x.p, 2, none⟩ := fun k hk => by unfold spot; rw [if_neg (by omega), if_neg (by omega), if_neg (by omega)]
  exact h 448 (Nat.le_refl _)
theorem ring_at {B : Nat} {w : World} {x : Fx} {vs : Nat → Value} {now : Nat} {f : Nat → List Tm} (h : WAt B w x vs now f) {i : Nat} (hi : i < 3) :
    ∃ r n, w.cell? ⟨x.R, i, none⟩ = some (.slice (some ⟨r, 0, none⟩) n n) ∧ base (i + 1) = base i + n ∧ base i + n ≤ 448 ∧ ∀ j, j < n → spot x (base i + j) = ⟨r, j, none⟩ := by
  match i, hi with
  | 0, _ => exact ⟨x.a, 64, h.r0, rfl, by decide, fun j hj => by rw [show base 0 + j = j from Nat.zero_add j]; exact spot_a x hj⟩
  | 1, _ => exact ⟨x.b, 128, h.r1, rfl, by decide, fun j hj => spot_b x hj⟩
  | 2, _ => exact ⟨x.d, 256, h.r2, rfl, by decide, fun j hj => spot_d x hj⟩

/-- What a round that goes on keeps: what lies below n₀, and the box of the wheel's pointer. -/
def Kq (n₀ Bs : Nat) (W W' : World) : Prop := Below n₀ W W' ∧ ∀ c, W.cell? ⟨Bs, 0, none⟩ = some c → W'.cell? ⟨Bs, 0, none⟩ = some c
theorem Kq.refl (n₀ Bs : Nat) (W : World) : Kq n₀ Bs W W := ⟨Below.refl _ _, fun _ h => h⟩
theorem Kq.trans {n₀ Bs : Nat} {A B C : World} (h : Kq n₀ Bs A B) (k : Kq n₀ Bs B C) : Kq n₀ Bs A C := ⟨h.1.trans k.1, fun c hc => k.2 c (h.2 c hc)⟩
theorem Kq.b {n₀ Bs : Nat} {w : World} (hn : n₀ ≤ w.heap.size) (W : World) (l : Nat) (o o' : Obj) (hl : w.heap.size ≤ l) (h : W.heap[l]? = some o) (hc : o.isCells = false) (hw : o.isWalk = false) : Kq n₀ Bs W (W.putObj l o') :=
  ⟨belowK_b hn W l o o' hl h hc hw, fun c h' => cell_kept h' (grownBy_putObj' W l o') fun r e => by cases e; exact ⟨o, h, hc⟩⟩
section
variable {B : Nat} {x : Fx} {vs : Nat → Value} {now : Nat} {f : Nat → List Tm}
set_option maxRecDepth 100000 in
set_option maxHeartbeats 4000000 in
theorem lists1_in (F : Fence) (n : Nat) (h7 : F.fn 31) (hro : F.round = none) (hn : 1 ≤ n) (l Bs n₀ : Nat) (J Jx : List Al → World → Prop)
    (hY : ∀ pre (k : Al) W, J pre W → pre.length < 449 → YieldAt F (n - 1) Try.prog l (encs x k) W fun e W' =>
      (e = .returned (.bool true) ∧ J (pre ++ [k]) W' ∧ Kq n₀ Bs W W') ∨ (e = .returned (.bool false) ∧ Jx (pre ++ [k]) W'))
    (W : World) (hBs : W.cell? ⟨Bs, 0, none⟩ = some (.pointer (some ⟨x.p, 0, none⟩))) (hw : WAt B W x vs now f) (hf : ∀ g, Fix x g → g < n₀) (h0 : J [] W) :
    CallsIn F n Try.prog 31 #[.func (.yield l) #[] #[], .pointer (some ⟨Bs, 0, none⟩)] W fun e W' => (∃ v, e = .returned v) ∧
      ((∃ ys, ys = alls ∧ J ys W') ∨ (∃ pre, (∃ k, k ≤ 449 ∧ pre = alls.take k) ∧ Jx pre W')) := by
  have k1 := hw.c1
  have HW := Lib.hid hw
  have hR : x.R < n₀ := hf _ (.inr (.inl rfl))
  have hp : x.p < n₀ := hf _ (.inl rfl)
  clear hw hf
  refine callsIn_of_wp Try.func31 rfl h7 ?_ hro
  simp only [Try.ntmps31, List.size_toArray, List.length_cons, List.length_nil, Nat.reduceAdd, Nat.reduceSub, Array.replicate_succ, Array.replicate_zero, List.push_toArray, List.append_toArray, List.nil_append, List.cons_append]
  gi_wp2
  gi_loopw [11] (fun i wr => ∃ k : Nat, k ≤ 3 ∧ i = .int .i64 (k : Int) ∧ Hid (J (alls.take (base k)) wr) ∧ Kq n₀ Bs W wr) (fun i _ => 3 - (intOf i).toNat)
  case atStart => exact ⟨0, by omega, rfl, h0, Kq.refl _ _ _⟩
  case round =>
    obtain ⟨k, hk, rfl, hJs, hnx⟩ := hrel
    have hbs := hnx.2 _ hBs
    by_cases hlt : k < 3
    · obtain ⟨r, m, hc, hb1, hb2, hsp⟩ := ring_at HW.out hlt
      have hcw := (hnx.1.cell (p := ⟨x.R, k, none⟩) hR).trans hc
      have HB1 := Lib.hid hb1
      have HSP := Lib.hid hsp
      have hkI : (k : Int) < 3 := by omega
      clear hc hb1 hsp
      gi_wp2
      gi_loopw [17] (fun i wq => ∃ j : Nat, j ≤ m ∧ i = .int .i64 (j : Int) ∧ Hid (J (alls.take (base k + j)) wq) ∧ Kq n₀ Bs W wq) (fun i _ => m - (intOf i).toNat)
      case atStart => exact ⟨0, by omega, rfl, hJs, hnx⟩
      case round =>
        obtain ⟨j, hj, rfl, hJq, hnq⟩ := hrel
        by_cases hjm : j < m
        · have hK : base k + j < 449 := by omega
          obtain ⟨fn, tmps, assign, body, hy, hR⟩ := hY _ ⟨base k + j, hK⟩ wr hJq.out (by rw [List.length_take, alls_length]; omega)
          rw [← alls_take] at hR
          dsimp only [encs] at hy
          rw [HSP.out j hjm] at hy
          gi_wp2
          refine hR.mono ?_
          rintro e W3 (⟨rfl, hJ3, hk3⟩ | ⟨rfl, hJx3⟩)
          · gi_wp2
            go_roundw
            case rel => exact ⟨j + 1, by omega, by simp, hJ3, hnq.trans hk3⟩
            case measure => simp [intOf]; omega
          · gi_wp2
            refine bodyPost_ret (results_none rfl _ _ _) rfl ?_
            exact ⟨⟨_, rfl⟩, .inr ⟨_, ⟨base k + j + 1, by omega, rfl⟩, hJx3⟩⟩
        · obtain rfl : j = m := by omega
          gi_wp2
          go_roundw
          case rel => exact ⟨k + 1, by omega, by simp, by rw [HB1.out]; exact hJq, hnq⟩
          case measure => simp [intOf]; omega
    · obtain rfl : k = 3 := by omega
      have kp := hnx.2 _ hBs
      obtain ⟨fn, tmps, assign, body, hy, hR⟩ := hY _ ⟨448, by decide⟩ wr hJs.out (by rw [List.length_take, alls_length]; decide)
      rw [show base 3 = 448 from rfl, ← alls_take] at hR
      dsimp only [encs] at hy
      rw [spot_p] at hy
      gi_wp2
      refine hR.mono ?_
      rintro e W3 (⟨rfl, hJ3, hk3⟩ | ⟨rfl, hJx3⟩)
      · gi_wp2
        go_end0
        exact ⟨⟨_, rfl⟩, .inl ⟨_, by rw [List.take_of_length_le (by rw [alls_length]; decide)], hJ3⟩⟩
      · gi_wp2
        go_end0
        exact ⟨⟨_, rfl⟩, .inr ⟨_, ⟨449, by decide, rfl⟩, hJx3⟩⟩
set_option maxRecDepth 100000 in
/-- w.lists(): the pointer is boxed; the function value captures the box. -/
theorem lists_in (F : Fence) (n : Nat) (h5 : F.fn 24) (hro : F.round = none) (p : Nat) (w : World) :
    CallsIn F n Try.prog 24 #[.pointer (some ⟨p, 0, none⟩)] w fun e w' => e = .returned (.func (.func 31) #[] #[.pointer (some ⟨w.heap.size, 0, none⟩)]) ∧ w' = w.alloc (.cells #[.pointer (some ⟨p, 0, none⟩)] 24) := by
  refine callsIn_of_wp Try.func24 rfl h5 ?_ hro
  simp only [Try.ntmps24, List.size_toArray, List.length_cons, List.length_nil, Nat.reduceAdd, Nat.reduceSub, Array.replicate_succ, Array.replicate_zero, List.push_toArray, List.append_toArray, List.nil_append, List.cons_append]
  gi_wp2
  go_ret
  exact ⟨rfl, rfl⟩
/-- It hands out all, or some first ones. -/
theorem lists_stops (F : Fence) (n : Nat) (h7 : F.fn 31) (hro : F.round = none) (hn : 1 ≤ n) (Bs n₀ : Nat) (w : World) (hBs : Bs < w.heap.size) (hn₀ : n₀ ≤ w.heap.size)
    (hc : w.cell? ⟨Bs, 0, none⟩ = some (.pointer (some ⟨x.p, 0, none⟩))) (hw : WAt B w x vs now f) (hf : ∀ g, Foot x vs g → g < n₀) :
    SeqStopsK F n Try.prog 31 #[.pointer (some ⟨Bs, 0, none⟩)] (encs x) (Kq n₀ Bs) (fun ys => ys = alls) (fun pre => ∃ k, k ≤ 449 ∧ pre = alls.take k) 449 w := fun l J Jx W hW _ _ hY h0 => by
  have hW' : Below n₀ w W := hW.mono hn₀
  exact lists1_in F n h7 hro hn l Bs n₀ J Jx hY W ((hW.cell (p := ⟨Bs, 0, none⟩) hBs).trans hc) (hw.keep (S := fun q => n₀ ≤ q) ⟨hW'.os, hW'.tape, hW'.output, hW'.size, fun k _ hs => hW'.block k (by omega)⟩ fun q hq h => by have := hf q hq; omega) (fun g hg => hf g (.inl hg)) h0
end
/-- Blocks that are no cells stay, where a wheel's blocks alone are turned. -/
theorem foot_cells {B : Nat} {w : World} {x : Fx} {vs : Nat → Value} {now : Nat} {f : Nat → List Tm} (h : WAt B w x vs now f) {q : Nat} (hq : Foot x vs q) : ∃ cs t fr, w.heap[q]? = some (.cells cs t fr) := by
  rcases hq with (rfl | rfl | rfl | rfl | rfl) | ⟨k, hk, hq⟩
  · exact ⟨_, _, _, h.head⟩
  · obtain ⟨cs, h1, _⟩ := h.rings; exact ⟨_, _, _, h1⟩
  · exact ⟨_, _, _, h.ra⟩
  · exact ⟨_, _, _, h.rb⟩
  · exact ⟨_, _, _, h.rd⟩
  · rcases (h.own k hk).2 with ⟨e, _⟩ | ⟨g, cap, cur, e, _, hg, _⟩
    · rw [e] at hq; cases hq
    · rw [e] at hq; cases hq; exact ⟨_, _, _, hg⟩
theorem keeps_only {B : Nat} {w w' : World} {x : Fx} {vs : Nat → Value} {now : Nat} {f : Nat → List Tm} (h : WAt B w x vs now f) (o : Only (Foot x vs) w w') : KeepsOthers w w' :=
  ⟨o.size, fun k ob hk hc => o.heap hk fun hq => by
    obtain ⟨cs, t, fr, e⟩ := foot_cells h hq
    rw [hk] at e
    cases e
    cases hc⟩
theorem keeps_below {W W' : World} (h : Below W.heap.size W W') : KeepsOthers W W' := ⟨h.size, fun k o hk _ => (h.block k (lt_at hk)).trans hk⟩
/-- A wheel stays, where a block that is no cells is turned. -/
theorem wat_grown {B : Nat} {w w' : World} {x : Fx} {vs : Nat → Value} {now : Nat} {f : Nat → List Tm} (h : WAt B w x vs now f) {row : Option Nat} (hg : w.grownBy w' row) (hr : ∀ r, row = some r → ∃ o : Obj, w.heap[r]? = some o ∧ o.isCells = false) : WAt B w' x vs now f :=
  WAt.keep h (S := fun q => row = some q) ((Only.refl (fun q => row = some q) w).grown hg fun g e => .inr e) fun q hq e => by
    obtain ⟨o, ho, hc⟩ := hr q e
    obtain ⟨cs, t, fr, e'⟩ := foot_cells h hq
    rw [ho] at e'
    cases e'
    cases hc
end Go.Proofs.Ytecejikolgkihaa.Seq
