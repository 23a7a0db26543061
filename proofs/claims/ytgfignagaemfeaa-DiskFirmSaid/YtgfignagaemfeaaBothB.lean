/- What a call of the disk and of the document's leaves, walked: fuel, a crash, none. -/
import Derived.Test.YtgfignagaemfeaaBoth
namespace Go.Proofs.Ytgfignagaemfeaa.BothB
open Go.RowKit Go.Proofs.Ytgfignagaemfeaa.Kit Go.Proofs.Ytgfignagaemfeaa.Blocks Go.Proofs.Ytgfignagaemfeaa.Model Go.Proofs.Ytgfignagaemfeaa.Disk Go.Proofs.Ytgfignagaemfeaa.WalkA Go.Proofs.Ytgfignagaemfeaa.WalkC Go.Proofs.Ytgfignagaemfeaa.WalkD Go.Proofs.Ytgfignagaemfeaa.WalkJ Go.Proofs.Ytgfignagaemfeaa.Ref Go.Proofs.Ytgfignagaemfeaa.RefB Go.Proofs.Ytgfignagaemfeaa.RefC Go.Proofs.Ytgfignagaemfeaa.RefD Go.Proofs.Ytgfignagaemfeaa.RefE Go.Proofs.Ytgfignagaemfeaa.RefF Go.Proofs.Ytgfignagaemfeaa.RefG Go.Proofs.Ytgfignagaemfeaa.Ops Go.Proofs.Ytgfignagaemfeaa.Begun Go.Proofs.Ytgfignagaemfeaa.Both

section
variable {B : Nat} {L : List Nat} {w W W' : World} {p q N cb : Nat} {c : Cl} {m m1 m2 m' : M}
theorem ref_fuelled (h : RefAt w q m) (n : Int) : RefAt (w.setCell ⟨q, 49, none⟩ (.int .i64 (max n (-1)))) q (m.fuelled n) :=
  h.set 49 _ _ rfl fun k hk hne => by unfold cellOf M.fuelled; simp only []; (repeat' split) <;> first | rfl | omega
set_option maxHeartbeats 2000000 in
theorem both_fuel (h : Pair B L w p q N m) (hl : Lies B w c) (hk : c.kind = 4) :
    Calls Try.prog 12 #[.pointer (some ⟨p, 0, none⟩), .pointer (some ⟨q, 0, none⟩), .agg c.cells] w (After2 B L w (N + 1) (m.fuelled c.fuel)) := by
  have hS := h.first hl
  have hc0 := hS.c0
  have hc3 := hS.c3
  rw [hk] at hc0
  obtain ⟨kd, n, s, fu, A, kn, kc, keep⟩ := c
  obtain rfl : kd = 4 := hk
  have hf0 : -9223372036854775808 ≤ fu := hl.f0
  have hf1 : fu ≤ 9223372036854775807 := hl.f1
  go_enter Try.func12, Try.ntmps12
  go_wp2_with fail
  refine (fuel_has fu hS.d hf0 hf1).mono ?_
  rintro e w2 ⟨rfl, hd2, k2⟩
  have hS2 := hS.disk (hd2.more (Nat.le_succ N)) k2
  have hc32 := hS2.c3
  have hrf := hS2.r.fuel
  have hrz := hS2.r.free 49
  have hrl := hS2.r.lt
  have hS3 := hS2.doc (ref_fuelled hS2.r fu) (only_set w2 q 49 _)
  have HS3 := Lib.hid hS3
  clear hS3
  go_wp2
  go_ret3
  exact ⟨_, _, rfl, PS.pair HS3.out, HS3.out.kept⟩
set_option maxHeartbeats 2000000 in
theorem both_none (h : Pair B L w p q N m) (hl : Lies B w c) (hk0 : c.kind ≠ 0) (hk1 : c.kind ≠ 1) (hk2 : c.kind ≠ 2) (hk3 : c.kind ≠ 3) (hk4 : c.kind ≠ 4) (hk5 : c.kind ≠ 5) :
    Calls Try.prog 12 #[.pointer (some ⟨p, 0, none⟩), .pointer (some ⟨q, 0, none⟩), .agg c.cells] w (After2 B L w (N + 1) m) := by
  have hS := h.first hl
  have hc0 := hS.c0
  obtain ⟨kd, n, s, fu, A, kn, kc, keep⟩ := c
  have b0 : (kd == 0) = false := by simpa using hk0
  have b1 : (kd == 1) = false := by simpa using hk1
  have b2 : (kd == 2) = false := by simpa using hk2
  have b3 : (kd == 3) = false := by simpa using hk3
  have b4 : (kd == 4) = false := by simpa using hk4
  have b5 : (kd == 5) = false := by simpa using hk5
  have HS := Lib.hid hS
  clear hk0 hk1 hk2 hk3 hk4 hk5
  go_enter Try.func12, Try.ntmps12
  go_wp2
  go_ret3
  have hS' := HS.out
  exact ⟨_, _, rfl, ⟨(PS.pair hS').d.more (Nat.le_succ N), hS'.r, h.low, h.apart⟩, hS'.kept⟩

/-! ### A crash of both -/
/-- Behind both crashes. -/
structure Fell (B : Nat) (L : List Nat) (w : World) (p q : Nat) (m : M) (W : World) : Prop where
  pair : Pair B L W p q 16 m
  kept : Keeps B L w W
set_option maxHeartbeats 2000000 in
theorem both_crash (h : Pair B L w p q N m) (hl : Lies B w c) (hk : c.kind = 5) :
    Calls Try.prog 12 #[.pointer (some ⟨p, 0, none⟩), .pointer (some ⟨q, 0, none⟩), .agg c.cells] w (After2 B L w 16 (m.crash c.keep)) := by
  have g := h.d.fine
  have hS := h.first hl
  have hc0 := hS.c0
  have hc4 := hS.c4
  rw [hk] at hc0
  obtain ⟨kd, n, s, fu, A, kn, kc, keep⟩ := c
  obtain rfl : kd = 5 := hk
  have hlt := lt_at hS.cell
  obtain ⟨m', hm'⟩ : ∃ m', m.crash keep = m' := ⟨_, rfl⟩
  rw [hm']
  have HM := Lib.hid hm'
  have hB := h.d.low
  have hS' := hS.drew
  obtain ⟨w0, hw0⟩ : ∃ w0, (w.alloc (.cells (Cl.cells ⟨5, n, s, fu, A, kn, kc, keep⟩) 33)).drew = w0 := ⟨_, rfl⟩
  rw [hw0] at hS'
  have hkr : Reads w0 w0.heap.size 1 A kn (inums keep) := (hS'.lies.keep).more hS'.d.low
  have hcA : ∀ W, Below w0.heap.size w0 W → Calls Try.prog 22 #[.pointer (some ⟨p, 0, none⟩), .slice A kn kc] W
      fun e W' => ∃ p', e = .returned (.pointer (some ⟨p', 0, none⟩)) ∧ Below W.heap.size W W' ∧ W.heap.size ≤ p' ∧ ∀ L', (∀ b ∈ L', b < W.heap.size) → Has B L' W' p' 16 m' := fun W hb => by
    obtain ⟨hp', A', c', mb, x, hD, hF⟩ : B ≤ W.heap.size ∧ ∃ A c mb x, DV W p N m A c mb x none ∧ ∀ y, Foot p mb A y → B ≤ y ∧ y ∉ (w.heap.size :: q :: L) := by
      have h1 := hS'.d.below hb
      exact ⟨h1.low, h1.disk⟩
    refine (crash_any A kn kc keep hD g ((hkr.below hb).more hb.size)).mono ?_
    rintro e W' ⟨rfl, hf⟩
    rw [HM.out] at hf
    obtain ⟨hp, hbW, A2, c2, mb2, x2, hD2, hF2⟩ := hf
    refine ⟨_, rfl, hbW, Nat.le_refl _, fun L' hL' => ⟨by rw [← HM.out]; exact g.crash keep, Nat.le_trans hp' hbW.size, fun b hb' => Nat.lt_of_lt_of_le (hL' b hb') hbW.size, A2, c2, mb2, x2, hD2, fun q hq => ?_⟩⟩
    have := hF2 q hq
    exact ⟨Nat.le_trans hp' this, fun e => by have := hL' q e; omega⟩
  have hcR : ∀ W, Below w0.heap.size w0 W → Calls Try.prog 34 #[.pointer (some ⟨q, 0, none⟩), .slice A kn kc] W
      fun e W' => ∃ q', e = .returned (.pointer (some ⟨q', 0, none⟩)) ∧ RefAt W' q' m' ∧ W.heap.size ≤ q' ∧ Below W.heap.size W W' := fun W hb => by
    have := rcrash_any A kn kc keep (hS'.r.below hb) g ((hkr.below hb).more hb.size)
    rwa [HM.out] at this
  have HCA := Lib.hid hcA
  have HCR := Lib.hid hcR
  have hsz : w.heap.size < w0.heap.size := by rw [← hw0]; simp
  have hLs : ∀ b ∈ L, b < w0.heap.size := fun b hb => hS'.d.old b (by simp [hb])
  have hkw : Keeps B L w w0 := hS'.kept
  have hcw : w0.cell? ⟨w.heap.size, 4, none⟩ = some (.slice A kn kc) := hS'.c4
  have hBw := hS'.d.low
  have fin : ∀ (p' q' : Nat) (W : World), Below w0.heap.size w0 W → RefAt W q' m' → Has B (q' :: L) W p' 16 m' → w0.heap.size ≤ q' → Fell B L w p' q' m' W := fun p' q' W hb hr hh hq =>
    ⟨⟨hh, hr, Nat.le_trans hBw hq, fun e => by have := hLs q' e; omega⟩, hkw.trans (Keeps.of_below hb)⟩
  have FIN := Lib.hid fin
  have HLS := Lib.hid hLs
  have HW0 := Lib.hid hw0
  clear hcA hcR fin hw0 hLs hm' hkr
  go_enter Try.func12, Try.ntmps12
  go_wp2_with fail
  go_region_held3 (fun w' => w'.cell? ⟨w.heap.size, 4, none⟩ = some (.slice A kn kc))
    (first
      | exact hc4
      | exact (hbA.cell (p := ⟨w.heap.size, 4, none⟩) (by have := HW0.out; omega)).trans hcw
      | exact (hbR.cell (p := ⟨w.heap.size, 4, none⟩) (by have := HW0.out; omega)).trans hcw)
    (first
      | (go_at_call 22
         refine (HCA.out _ (by first | exact hbR | (have e := HW0.out; subst e; exact Below.refl _ _))).mono ?_
         rintro e wA ⟨p', rfl, hbA0, hpp, hHA⟩
         have hbA : Below w0.heap.size w0 wA := by first | exact hbR.trans (hbA0.mono hbR.size) | (have e := HW0.out; subst e; exact hbA0))
      | (go_at_call 34
         refine (HCR.out _ (by first | exact hbA | (have e := HW0.out; subst e; exact Below.refl _ _))).mono ?_
         rintro e wR ⟨q', rfl, hRR, hqq, hbR0⟩
         have hbR : Below w0.heap.size w0 wR := by first | exact hbA.trans (hbR0.mono hbA.size) | (have e := HW0.out; subst e; exact hbR0)))
  all_goals go_wp2
  all_goals go_ret3
  all_goals have e := HW0.out
  all_goals subst e
  all_goals first
    | (have hh := (hHA L HLS.out).beside hbR0 hqq hRR.lt
       have F := FIN.out p' q' wR hbR hRR hh (Nat.le_trans hbA.size hqq)
       exact ⟨p', q', rfl, F.pair, F.kept⟩)
    | (have hh := hHA (q' :: L) (fun b hb => by
         rcases List.mem_cons.1 hb with rfl | hb
         · exact hRR.lt
         · exact Nat.lt_of_lt_of_le (HLS.out b hb) hbR.size)
       have F := FIN.out p' q' wA hbA (hRR.below hbA0) hh hqq
       exact ⟨p', q', rfl, F.pair, F.kept⟩)
theorem both_any (h : Pair B L w p q N m) (hl : Lies B w c) (hN : N < 1000000) (hN16 : 15 ≤ N) :
    Calls Try.prog 12 #[.pointer (some ⟨p, 0, none⟩), .pointer (some ⟨q, 0, none⟩), .agg c.cells] w (After2 B L w (N + 1) (M.call m c).2) := by
  unfold M.call
  by_cases h0 : c.kind = 0
  · rw [if_pos h0]; exact both_append h hl hN h0
  rw [if_neg h0]
  by_cases h1 : c.kind = 1
  · rw [if_pos h1]; exact both_sync h hl hN h1
  rw [if_neg h1]
  by_cases h2 : c.kind = 2
  · rw [if_pos h2]; exact both_replace h hl hN h2
  rw [if_neg h2]
  by_cases h3 : c.kind = 3
  · rw [if_pos h3]; exact both_remove h hl h3
  rw [if_neg h3]
  by_cases h4 : c.kind = 4
  · rw [if_pos h4]; exact both_fuel h hl h4
  rw [if_neg h4]
  by_cases h5 : c.kind = 5
  · rw [if_pos h5]
    refine (both_crash h hl h5).mono ?_
    rintro e W ⟨p', q', rfl, hp, hk⟩
    exact ⟨p', q', rfl, ⟨hp.d.more (by omega), hp.r, hp.low, hp.apart⟩, hk⟩
  rw [if_neg h5]
  exact both_none h hl h0 h1 h2 h3 h4 h5
end
end Go.Proofs.Ytgfignagaemfeaa.BothB
