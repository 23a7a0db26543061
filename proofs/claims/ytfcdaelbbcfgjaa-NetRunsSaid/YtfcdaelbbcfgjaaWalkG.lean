/- What All leaves, walked. No statement is proved here. -/
import Derived.Test.YtfcdaelbbcfgjaaWalkF
set_option linter.unusedVariables false
namespace Go.Proofs.Ytfcdaelbbcfgjaa.WalkG
open Go.RowKit Go.Proofs.Ytfcdaelbbcfgjaa.Kit Go.Proofs.Ytfcdaelbbcfgjaa.Blocks Go.Proofs.Ytfcdaelbbcfgjaa.Ltr Go.Proofs.Ytfcdaelbbcfgjaa.NAt Go.Proofs.Ytfcdaelbbcfgjaa.App Go.Proofs.Ytfcdaelbbcfgjaa.WalkA Go.Proofs.Ytfcdaelbbcfgjaa.WalkB Go.Proofs.Ytfcdaelbbcfgjaa.WalkC Go.Proofs.Ytfcdaelbbcfgjaa.WalkD Go.Proofs.Ytfcdaelbbcfgjaa.WalkE Go.Proofs.Ytfcdaelbbcfgjaa.WalkF

theorem take_snoc {α : Type} (l : List α) (k : Nat) (a : α) (h : l[k]? = some a) : l.take (k + 1) = l.take k ++ [a] := by
  rw [List.take_add_one, h]
  rfl
/-- Copies of letters: a row of its own, each letter's entries in a row of its own, none of which is the letters' row. -/
structure Copies (w : World) (base : Nat) (v : Value) (L M : List Lt) : Prop where
  row : w.ownsRow base 34 10 v M.length (lcells M)
  said : M.map Lt.said = L.map Lt.said
  ents : ∀ x ∈ M, w.ownsRow base 51 4 (.slice x.A x.n x.c) x.n (ecells x.es) ∧ x.n * 40 ≤ 140737488355328 ∧ ∀ g, (Value.slice x.A x.n x.c).ownBlock = some g → v.ownBlock ≠ some g
theorem Copies.keep {w w' : World} {base : Nat} {v : Value} {L M : List Lt} {S : Nat → Prop} (h : Copies w base v L M) (k : Only S w w') (h1 : ∀ g, v.ownBlock = some g → ¬ S g) (h2 : ∀ x ∈ M, ∀ g, (Value.slice x.A x.n x.c).ownBlock = some g → ¬ S g) : Copies w' base v L M :=
  ⟨k.own h.row h1, h.said, fun x hx => ⟨k.own (h.ents x hx).1 (h2 x hx), (h.ents x hx).2⟩⟩
theorem Copies.below {w w' : World} {base : Nat} {v : Value} {L M : List Lt} (h : Copies w base v L M) (k : Below w.heap.size w w') : Copies w' base v L M := h.keep (S := fun _ => False) (Only.of_below k) (by simp) (by simp)
/-- One more copy behind the others. -/
theorem Copies.more {w w1 W w3 : World} {base n : Nat} {v : Value} {L M : List Lt} {x y : Lt} (h : Copies w base v L M) (hn : M.length = n) (hk : Below w.heap.size w w1) (hK : Below w1.heap.size w1 W) (hb : base ≤ w.heap.size)
    (hy : w1.ownsRow w.heap.size 51 4 (.slice y.A y.n y.c) y.n (ecells y.es)) (h40 : y.n * 40 ≤ 140737488355328) (hs : y.said = x.said) (A' : Option Addr) (c' : Nat)
    (hown : w3.ownsRow base 34 10 (.slice A' (n + 1) c') (n + 1) (lcells M ++ lcells [y])) (hg : W.grownBy w3 v.ownBlock) (hat : (Value.slice A' (n + 1) c').ownBlock = v.ownBlock ∨ (Value.slice A' (n + 1) c').ownBlock = some W.heap.size) :
    Copies w3 base (.slice A' (n + 1) c') (L ++ [x]) (M ++ [y]) ∧ Below base w w3 := by
  have s1 := hk.size
  have s2 := hK.size
  have o1 : Only (fun q => v.ownBlock = some q) w1 w3 := (Only.of_below hK).grown hg fun g e => .inr e
  have hv := fun g hg => h.row.lt g hg
  have hgy := fun g hg => hy.lt g hg
  have hold : ∀ z ∈ M, ∀ g, (Value.slice z.A z.n z.c).ownBlock = some g → g < w.heap.size := fun z hz g hg => ((h.ents z hz).1.lt g hg).2
  refine ⟨⟨?_, ?_, fun z hz => ?_⟩, (hk.mono hb).trans (o1.below (Nat.le_trans hb s1) fun k hk => (hv k hk).1)⟩
  · rw [List.length_append, hn, lcells_append]; exact hown
  · rw [List.map_append, List.map_append, h.said]; simp [hs]
  · rcases List.mem_append.1 hz with hz | hz
    · obtain ⟨e1, e2, e3⟩ := h.ents z hz
      refine ⟨o1.own ((Only.of_below hk).own e1 fun _ _ e => e) fun g hg e => e3 g hg e, e2, fun g hg e => ?_⟩
      rcases hat with h1 | h1
      · exact e3 g hg (h1 ▸ e)
      · rw [e] at h1; cases h1; have := hold z hz _ hg; omega
    · simp only [List.mem_singleton] at hz
      subst hz
      refine ⟨o1.own (own_base hy hb) fun g hg e => ?_, h40, fun g hg e => ?_⟩
      · have := hgy g hg; have := hv g e; omega
      · have := hgy g hg
        rcases hat with h1 | h1
        · have := hv g (h1 ▸ e); omega
        · rw [e] at h1; cases h1; omega
section
variable {B : Nat} {E : Nat → Prop} {w : World} {p : Nat} {v : Value} {L : List Lt} {lost : Nat}
set_option maxRecDepth 100000 in
set_option maxHeartbeats 8000000 in
theorem all_any (h : NAt B 54 E w p v L lost) (hfew : L.length ≤ 256) :
    Calls Try.prog 21 #[.pointer (some ⟨p, 0, none⟩)] w fun e w' => ∃ A c M, e = .returned (.slice A L.length c) ∧ Copies w' w.heap.size (.slice A L.length c) L M ∧ Below w.heap.size w w' := by
  obtain ⟨A, c, hv, hnc, hcm, hr⟩ := h.form
  have c0 := h.c0
  have hp := h.plt
  obtain ⟨n, hn⟩ : ∃ n, L.length = n := ⟨_, rfl⟩
  rw [hv] at c0
  rw [hn] at c0 hnc hr hfew ⊢
  have H := Lib.hid h
  have HN := Lib.hid hn
  have HR := Lib.hid hr
  have H0 : Hid (Copies w w.heap.size (.slice none 0 0) (L.take 0) []) := ⟨World.ownsRow_nil _ _ _ _, rfl, by simp⟩
  clear h hn hr hv
  go_enter Try.func21, Try.ntmps21
  go_wp2
  go_loopw [3, 13] (fun out i wr => ∃ (k : Nat) (A1 : Option Addr) (c1 : Nat) (M : List Lt), k ≤ n ∧ i = .int .i64 (k : Int) ∧ out = .slice A1 k c1 ∧ M.length = k ∧ Hid (Copies wr w.heap.size (.slice A1 k c1) (L.take k) M) ∧ Below w.heap.size w wr) (fun _ i _ => n - (intOf i).toNat)
  case atStart => exact ⟨0, none, 0, [], by omega, rfl, rfl, rfl, H0, Below.refl _ _⟩
  case round =>
    obtain ⟨k, A1, c1, M, hk, rfl, rfl, hM, hcp, hbw⟩ := hrel
    by_cases hlt : k < n
    · have hkI : (k : Int) < (n : Int) := by omega
      have hk0 : (0 : Int) ≤ (k : Int) := by omega
      obtain ⟨b, o, x, rfl, hbl, hx, hten⟩ := RL.at_ (Kit.Reads.below HR.out hbw) hlt
      have hbl2 : b < wr.heap.size := Nat.lt_of_lt_of_le hbl hbw.size
      have hfit := (H.out.fit x (List.mem_of_getElem? hx)).below hbw
      have hcpy : ∀ W, Below wr.heap.size wr W → Calls Try.prog 22 #[ltV x] W (Gives W x) := fun W hb => copied_any (hfit.below hb)
      have h40 := hfit.few
      have HT := Lib.hid (take_snoc L k x hx)
      obtain ⟨d0, d1, d2, d3, d4, d5, d6, d7, d8, d9⟩ := hten
      obtain ⟨⟨kk, f, t, tm, ix, pv, cm, ok, d⟩, A2, n2, c2, es⟩ := x
      unfold Gives at hcpy
      unfold ltV at hcpy
      simp only at d0 d1 d2 d3 d4 d5 d6 d7 d8 d9 hcpy h40
      have hbo : ∀ o, Below wr.heap.size wr (wr.alloc o) := fun o => (Below.refl _ _).alloc (Nat.le_refl _) o
      have HC := Lib.hid (hcpy _ (hbo (.cells #[.int .i64 kk, .int .i64 f, .int .i64 t, .int .u64 tm, .int .u64 ix, .int .u64 pv, .int .u64 cm, .bool ok, .slice A2 n2 c2, .string d] 34)))
      have HBO := Lib.hid hbo
      clear hfit hcpy hx hbo
      go_wp2_with fail
      with_reducible refine HC.out.mono ?_
      rintro e w1 ⟨A3, c3, rfl, hown1, hb1⟩
      have hbk : Below wr.heap.size wr w1 := (HBO.out _).trans (hb1.mono (HBO.out _).size)
      have hown2 := own_base hown1 (HBO.out _).size
      have hbW : Below w1.heap.size w1 (w1.alloc (.cells #[.int .i64 kk, .int .i64 f, .int .i64 t, .int .u64 tm, .int .u64 ix, .int .u64 pv, .int .u64 cm, .bool ok, .slice A3 n2 c3, .string d] 34)) := (Below.refl _ _).alloc (Nat.le_refl _) _
      have HNW : Hid (RL (w1.alloc (.cells #[.int .i64 kk, .int .i64 f, .int .i64 t, .int .u64 tm, .int .u64 ix, .int .u64 pv, .int .u64 cm, .bool ok, .slice A3 n2 c3, .string d] 34)) (w1.heap.size + 1) (some ⟨w1.heap.size, 0, none⟩) 1 [⟨⟨kk, f, t, tm, ix, pv, cm, ok, d⟩, A3, n2, c3, es⟩]) := lt_new w1 ⟨⟨kk, f, t, tm, ix, pv, cm, ok, d⟩, A3, n2, c3, es⟩ 34
      have hrow : (w1.alloc (.cells #[.int .i64 kk, .int .i64 f, .int .i64 t, .int .u64 tm, .int .u64 ix, .int .u64 pv, .int .u64 cm, .bool ok, .slice A3 n2 c3, .string d] 34)).ownsRow w.heap.size 34 10 (.slice A1 k c1) k (lcells M) := by
        have := (Only.of_below hbW).own ((Only.of_below hbk).own hcp.out.row fun _ _ e => e) fun _ _ e => e
        rwa [hM] at this
      have HO := Lib.hid hrow
      have hbs : w.heap.size ≤ (w1.alloc (.cells #[.int .i64 kk, .int .i64 f, .int .i64 t, .int .u64 tm, .int .u64 ix, .int .u64 pv, .int .u64 cm, .bool ok, .slice A3 n2 c3, .string d] 34)).heap.size := by have := hbw.size; have := hbk.size; have := hbW.size; omega
      have HBS := Lib.hid hbs
      have HFIN := Lib.hid (fun A' c' w3 => Copies.more (W := w1.alloc (.cells #[.int .i64 kk, .int .i64 f, .int .i64 t, .int .u64 tm, .int .u64 ix, .int .u64 pv, .int .u64 cm, .bool ok, .slice A3 n2 c3, .string d] 34)) (w3 := w3) (x := ⟨⟨kk, f, t, tm, ix, pv, cm, ok, d⟩, A2, n2, c2, es⟩) (y := ⟨⟨kk, f, t, tm, ix, pv, cm, ok, d⟩, A3, n2, c3, es⟩) hcp.out hM hbk hbW hbw.size hown2 h40 rfl A' c')
      clear hown1 hb1 hbk hown2 hbW hrow hbs hcp
      go_wp2_with
        (at_builtin
         refine wpList_appL (v := .slice A1 k c1) (xs := lcells M) _ rfl _ _ rfl w.heap.size rfl HO.out rfl HNW.out (lcells_one _) (by omega) HBS.out ?_
         intro A' c' w3 hown3 hg3 hat3
         obtain ⟨q1, q2⟩ := HFIN.out A' c' w3 hown3 hg3 hat3
         have Q1 := Lib.hid q1
         have Q2 := Lib.hid (hbw.trans q2)
         clear q1 q2 hown3 hg3 hat3)
      go_roundw
      case rel => exact ⟨k + 1, _, _, M ++ [⟨⟨kk, f, t, tm, ix, pv, cm, ok, d⟩, A3, n2, c3, es⟩], by omega, by first | rfl | simp, rfl, by rw [List.length_append, hM]; rfl, by show Copies _ _ _ _ _; rw [HT.out]; exact Q1.out, Q2.out⟩
      case measure => simp [intOf]; omega
    · obtain rfl : k = n := by omega
      go_wp2
      go_ret
      refine ⟨A1, c1, M, rfl, ?_, hbw⟩
      have := hcp.out
      rwa [List.take_of_length_le (by rw [HN.out]; exact Nat.le_refl _)] at this
end
end Go.Proofs.Ytfcdaelbbcfgjaa.WalkG
