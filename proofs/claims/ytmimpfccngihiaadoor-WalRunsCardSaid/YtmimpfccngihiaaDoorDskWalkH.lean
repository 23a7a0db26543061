/- What Replace leaves, walked. -/
import Derived.Test.YtmimpfccngihiaaDoorDskWalkG
namespace Go.Proofs.YtmimpfccngihiaaDoor.DskWalkH
open Go.RowKit Go.Proofs.YtmimpfccngihiaaDoor.Kit Go.Proofs.YtmimpfccngihiaaDoor.Blocks Go.Proofs.YtmimpfccngihiaaDoor.Keys Go.Proofs.YtmimpfccngihiaaDoor.Model Go.Proofs.YtmimpfccngihiaaDoor.Disk Go.Proofs.YtmimpfccngihiaaDoor.DskWalkA Go.Proofs.YtmimpfccngihiaaDoor.DskWalkB Go.Proofs.YtmimpfccngihiaaDoor.DskWalkC Go.Proofs.YtmimpfccngihiaaDoor.DskWalkD Go.Proofs.YtmimpfccngihiaaDoor.DskWalkE

section
variable {w : World} {p N : Nat} {m : M} {A : Nat → Option Addr} {c : Nat → Nat} {mb : Option Nat} {x : Int}
set_option maxRecDepth 100000 in
theorem replace_no (n : Int) (s : ByteArray) (h : DV w p N m A c mb x none) (hn : ¬ (0 ≤ n ∧ n < 16)) :
    Calls Tryd.prog 19 #[.pointer (some ⟨p, 0, none⟩), .int .i64 n, .string s] w (LeavesD w p (N + 1) (1, m) A mb) := by
  go_enter Tryd.func19, Tryd.ntmps19
  go_wp2_with fail
  refine (file_no n _ hn).mono ?_
  rintro e w1 ⟨rfl, rfl⟩
  go_wp2
  go_ret
  exact ⟨rfl, After.still h (Below.refl _ _)⟩
set_option maxRecDepth 100000 in
theorem replace_off (n : Int) (s : ByteArray) (h : DV w p N m A c mb x none) (hn : 0 ≤ n ∧ n < 16) (hoff : m.off = true) :
    Calls Tryd.prog 19 #[.pointer (some ⟨p, 0, none⟩), .int .i64 n, .string s] w (LeavesD w p (N + 1) (10, m) A mb) := by
  have HO := Lib.hid hoff
  clear hoff
  go_enter Tryd.func19, Tryd.ntmps19
  go_wp2_with fail
  refine (file_yes n _ hn).mono ?_
  rintro e w1 ⟨rfl, rfl⟩
  go_wp2_with fail
  refine (off_hid true h HO).mono ?_
  rintro e w1 ⟨rfl, rfl⟩
  go_wp2
  go_ret
  exact ⟨rfl, After.still h (Below.refl _ _)⟩
set_option maxRecDepth 100000 in
set_option maxHeartbeats 1000000 in
theorem replace_full (i : Nat) (s : ByteArray) (h : DV w p N m A c mb x none) (g : Fine m) (hi : i < 16) (hoff : m.off = false) (hf : m.room + m.len i < m.used + s.size) :
    Calls Tryd.prog 19 #[.pointer (some ⟨p, 0, none⟩), .int .i64 (i : Int), .string s] w (LeavesD w p (N + 1) (11, m) A mb) := by
  have HO := Lib.hid hoff
  have hr := g.room
  have hu := g.used
  have hl := len_le_used m hi
  have hgb : decide ((m.room : Int) - (m.used : Int) + (m.len i : Int) < (s.size : Int)) = true := decide_eq_true (by omega)
  have hw1 : IntKind.i64.wrap ((m.room : Int) - (m.used : Int) + (m.len i : Int)) = (m.room : Int) - (m.used : Int) + (m.len i : Int) := IntWalk.i64_in _ (by omega)
  have hc3 := h.c3
  have hlt := h.lt
  have hfree := free_any h.drew g
  have hrun0 := look_one h g ((Below.refl w.heap.size w).drew) (n := (i : Int)) (by omega)
  have hrunA : ∀ wA, Below w.heap.size w wA → (Instr.lookup 77 (.map mb) (.int .i64 (i : Int)) false).run Tryd.prog wA = .ok (.agg #[.slice (A i) (m.len i) (c i), .int .i64 ((m.firm i).length : Int)]) wA := fun wA hb => by
    have := look_one h g hb (n := (i : Int)) (by omega)
    simpa only [Int.toNat_natCast, all_length] using this
  simp only [Int.toNat_natCast, all_length] at hrun0
  have hfd := field0
  obtain ⟨R, hR⟩ : ∃ R : Int, (m.room : Int) - (m.used : Int) = R := ⟨_, rfl⟩
  obtain ⟨L, hL⟩ : ∃ L, m.len i = L := ⟨_, rfl⟩
  rw [hR] at hgb hw1 hfree
  rw [hL] at hgb hw1 hrun0 hrunA
  have HF := Lib.hid hfree
  have HR := Lib.hid hrunA
  have HG := Lib.hid hgb
  clear hfree hR hL hf hr hu hl hoff hrunA hgb
  have hn : 0 ≤ (i : Int) ∧ (i : Int) < 16 := by omega
  have HN := Lib.hid hn
  clear hn
  go_enter Tryd.func19, Tryd.ntmps19
  go_wp2_with fail
  refine (file_yes (i : Int) _ HN.out).mono ?_
  rintro e w1 ⟨rfl, rfl⟩
  go_wp2_with fail
  refine (off_hid false h HO).mono ?_
  rintro e w1 ⟨rfl, rfl⟩
  go_wp2_with fail
  go_region_held3 (fun w' => w'.cell? ⟨p, 3, none⟩ = some (.map mb) ∧ (Instr.lookup 77 (.map mb) (.int .i64 (i : Int)) false).run Tryd.prog w' = .ok (.agg #[.slice (A i) L (c i), .int .i64 ((m.firm i).length : Int)]) w')
    (first
      | exact ⟨hc3, hrun0⟩
      | exact ⟨(hBb.cell (p := ⟨p, 3, none⟩) hlt).trans hc3, HR.out _ (((Below.refl w.heap.size w).drew).trans hBb)⟩)
    (first
      | (go_at_call 42
         refine HF.out.mono ?_
         rintro e wA ⟨rfl, hBb⟩))
  all_goals have hgt := of_decide_eq_true HG.out
  all_goals go_wp2
  all_goals go_ret
  all_goals exact ⟨rfl, After.still h (((Below.refl w.heap.size w).drew).trans hBb)⟩
set_option maxRecDepth 100000 in
set_option maxHeartbeats 1000000 in
theorem replace_dry (i : Nat) (s : ByteArray) (h : DV w p N m A c mb x none) (g : Fine m) (hi : i < 16) (hoff : m.off = false) (hf : ¬ m.room + m.len i < m.used + s.size) (h0 : m.fuel = 0) :
    Calls Tryd.prog 19 #[.pointer (some ⟨p, 0, none⟩), .int .i64 (i : Int), .string s] w (LeavesD w p (N + 1) (10, m.dead) A mb) := by
  have H0 := Lib.hid h0
  clear h0
  have HO := Lib.hid hoff
  have hr := g.room
  have hu := g.used
  have hl := len_le_used m hi
  have hgb : decide ((m.room : Int) - (m.used : Int) + (m.len i : Int) < (s.size : Int)) = false := decide_eq_false (by omega)
  have hw1 : IntKind.i64.wrap ((m.room : Int) - (m.used : Int) + (m.len i : Int)) = (m.room : Int) - (m.used : Int) + (m.len i : Int) := IntWalk.i64_in _ (by omega)
  have hc3 := h.c3
  have hlt := h.lt
  have hfree := free_any h.drew g
  have hrun0 := look_one h g ((Below.refl w.heap.size w).drew) (n := (i : Int)) (by omega)
  have hrunA : ∀ wA, Below w.heap.size w wA → (Instr.lookup 77 (.map mb) (.int .i64 (i : Int)) false).run Tryd.prog wA = .ok (.agg #[.slice (A i) (m.len i) (c i), .int .i64 ((m.firm i).length : Int)]) wA := fun wA hb => by
    have := look_one h g hb (n := (i : Int)) (by omega)
    simpa only [Int.toNat_natCast, all_length] using this
  simp only [Int.toNat_natCast, all_length] at hrun0
  have hfd := field0
  obtain ⟨R, hR⟩ : ∃ R : Int, (m.room : Int) - (m.used : Int) = R := ⟨_, rfl⟩
  obtain ⟨L, hL⟩ : ∃ L, m.len i = L := ⟨_, rfl⟩
  rw [hR] at hgb hw1 hfree
  rw [hL] at hgb hw1 hrun0 hrunA
  have HF := Lib.hid hfree
  have HR := Lib.hid hrunA
  have HG := Lib.hid hgb
  clear hfree hR hL hf hr hu hl hoff hrunA hgb
  have hn : 0 ≤ (i : Int) ∧ (i : Int) < 16 := by omega
  have HN := Lib.hid hn
  clear hn
  go_enter Tryd.func19, Tryd.ntmps19
  go_wp2_with fail
  refine (file_yes (i : Int) _ HN.out).mono ?_
  rintro e w1 ⟨rfl, rfl⟩
  go_wp2_with fail
  refine (off_hid false h HO).mono ?_
  rintro e w1 ⟨rfl, rfl⟩
  go_wp2_with fail
  go_region_held3 (fun w' => w'.cell? ⟨p, 3, none⟩ = some (.map mb) ∧ (Instr.lookup 77 (.map mb) (.int .i64 (i : Int)) false).run Tryd.prog w' = .ok (.agg #[.slice (A i) L (c i), .int .i64 ((m.firm i).length : Int)]) w')
    (first
      | exact ⟨hc3, hrun0⟩
      | exact ⟨(hBb.cell (p := ⟨p, 3, none⟩) hlt).trans hc3, HR.out _ (((Below.refl w.heap.size w).drew).trans hBb)⟩)
    (first
      | (go_at_call 42
         refine HF.out.mono ?_
         rintro e wA ⟨rfl, hBb⟩))
  all_goals have hgt := of_decide_eq_false HG.out
  all_goals go_wp2_with fail
  all_goals have hb1 := ((Below.refl w.heap.size w).drew).trans hBb
  all_goals (refine (step_dry (h.below hb1) H0.out).mono ?_)
  all_goals rintro e w2 ⟨rfl, ht⟩
  all_goals go_wp2
  all_goals go_ret
  all_goals exact ⟨rfl, After.dry hb1 ht⟩
set_option maxRecDepth 100000 in
set_option maxHeartbeats 1000000 in
theorem replace_ok (i : Nat) (s : ByteArray) (h : DV w p N m A c mb x none) (g : Fine m) (hN : N < 1000000) (hi : i < 16) (hoff : m.off = false) (hf : ¬ m.room + m.len i < m.used + s.size) (h0 : ¬ m.fuel = 0) :
    Calls Tryd.prog 19 #[.pointer (some ⟨p, 0, none⟩), .int .i64 (i : Int), .string s] w (LeavesD w p (N + 1) (0, m.burnt.set i s.data.toList [] true) A mb) := by
  have H0 := Lib.hid h0
  clear h0
  have hsl : s.size ≤ 2097152 := by have := g.room; have := len_le_used m hi; have := g.used; omega
  have hi16 := Lib.hid hi
  have HO := Lib.hid hoff
  have hr := g.room
  have hu := g.used
  have hl := len_le_used m hi
  have hgb : decide ((m.room : Int) - (m.used : Int) + (m.len i : Int) < (s.size : Int)) = false := decide_eq_false (by omega)
  have hw1 : IntKind.i64.wrap ((m.room : Int) - (m.used : Int) + (m.len i : Int)) = (m.room : Int) - (m.used : Int) + (m.len i : Int) := IntWalk.i64_in _ (by omega)
  have hc3 := h.c3
  have hlt := h.lt
  have hfree := free_any h.drew g
  have hrun0 := look_one h g ((Below.refl w.heap.size w).drew) (n := (i : Int)) (by omega)
  have hrunA : ∀ wA, Below w.heap.size w wA → (Instr.lookup 77 (.map mb) (.int .i64 (i : Int)) false).run Tryd.prog wA = .ok (.agg #[.slice (A i) (m.len i) (c i), .int .i64 ((m.firm i).length : Int)]) wA := fun wA hb => by
    have := look_one h g hb (n := (i : Int)) (by omega)
    simpa only [Int.toNat_natCast, all_length] using this
  simp only [Int.toNat_natCast, all_length] at hrun0
  have hfd := field0
  obtain ⟨R, hR⟩ : ∃ R : Int, (m.room : Int) - (m.used : Int) = R := ⟨_, rfl⟩
  obtain ⟨L, hL⟩ : ∃ L, m.len i = L := ⟨_, rfl⟩
  rw [hR] at hgb hw1 hfree
  rw [hL] at hgb hw1 hrun0 hrunA
  have HF := Lib.hid hfree
  have HR := Lib.hid hrunA
  have HG := Lib.hid hgb
  clear hfree hR hL hf hr hu hl hoff hrunA hgb
  have hn : 0 ≤ (i : Int) ∧ (i : Int) < 16 := by omega
  have HN := Lib.hid hn
  clear hn
  go_enter Tryd.func19, Tryd.ntmps19
  go_wp2_with fail
  refine (file_yes (i : Int) _ HN.out).mono ?_
  rintro e w1 ⟨rfl, rfl⟩
  go_wp2_with fail
  refine (off_hid false h HO).mono ?_
  rintro e w1 ⟨rfl, rfl⟩
  go_wp2_with fail
  go_region_held3 (fun w' => w'.cell? ⟨p, 3, none⟩ = some (.map mb) ∧ (Instr.lookup 77 (.map mb) (.int .i64 (i : Int)) false).run Tryd.prog w' = .ok (.agg #[.slice (A i) L (c i), .int .i64 ((m.firm i).length : Int)]) w')
    (first
      | exact ⟨hc3, hrun0⟩
      | exact ⟨(hBb.cell (p := ⟨p, 3, none⟩) hlt).trans hc3, HR.out _ (((Below.refl w.heap.size w).drew).trans hBb)⟩)
    (first
      | (go_at_call 42
         refine HF.out.mono ?_
         rintro e wA ⟨rfl, hBb⟩))
  all_goals have hgt := of_decide_eq_false HG.out
  all_goals go_wp2_with fail
  all_goals have hb1 := ((Below.refl w.heap.size w).drew).trans hBb
  all_goals (refine (step_wet (h.below hb1) H0.out).mono ?_)
  all_goals rintro e w2 ⟨rfl, x2, h2, ho2⟩
  all_goals have hpl := h2.lt
  all_goals obtain ⟨c1, w3, hcv, hrow, hb3⟩ := run_bytes_of (P := Tryd.prog) w2 9 65 5 s Tryd.underlying9 Tryd.underlying65 Tryd.underlying5 (by unfold maxLen; omega) (p + 1) (by omega)
  all_goals have HROW := Lib.hid hrow
  all_goals clear hrow
  all_goals go_wp2_with fail
  all_goals have hi' := hi16.out
  all_goals (refine (put_any (h2.below hb3) hN i hi' (fun j hj => by cases hj) s.data.toList [] (some ⟨w2.heap.size, 0, none⟩) c1 ?_ ?_ _ _ _ rfl ?_ ?_).mono ?_)
  all_goals first
    | (rw [List.append_nil, ← Lib.size_eq]; exact HROW.out)
    | (intro y hy j z hj hz; cases hy; have := (h2.rows j z hz).2; simp only []; omega)
    | (rw [← Lib.size_eq])
    | (rw [List.append_nil, ← Lib.size_eq])
    | skip
  all_goals rintro e w5 ⟨rfl, A', c', mb', x', h5, ho5, hf5⟩
  all_goals have hs1 := hb1.size
  all_goals have hs2 := ho2.size
  all_goals have hs3 := hb3.size
  all_goals go_wp2
  all_goals go_ret
  all_goals (refine ⟨rfl, A', c', mb', x', h5, (((Only.of_below hb1).trans' ho2 fun q hq => .inl (.inl hq)).trans (Only.of_below hb3)).trans' ho5 fun q hq => .inl hq, fun q hq => ?_⟩)
  all_goals (rcases hf5 q hq with h1 | h1 | ⟨y, hy, rfl⟩)
  all_goals first
    | exact .inl h1
    | exact .inr (by omega)
    | (cases hy; exact .inr (by simp only []; omega))
theorem replace_any (n : Int) (s : ByteArray) (h : DV w p N m A c mb x none) (g : Fine m) (hN : N < 1000000) :
    Calls Tryd.prog 19 #[.pointer (some ⟨p, 0, none⟩), .int .i64 n, .string s] w (LeavesD w p (N + 1) (m.replace n s.data.toList) A mb) := by
  have hs : s.data.toList.length = s.size := by rw [Lib.size_eq]
  unfold M.replace
  rw [hs]
  by_cases hn : 0 ≤ n ∧ n < 16
  · rw [if_neg (by simpa using hn)]
    have hni : ((n.toNat : Nat) : Int) = n := by omega
    by_cases hoff : m.off = true
    · rw [if_pos hoff]
      exact replace_off n s h hn hoff
    · rw [if_neg hoff]
      have hoff' : m.off = false := by simpa using hoff
      by_cases hf : m.room + m.len n.toNat < m.used + s.size
      · rw [if_pos hf]
        have := replace_full n.toNat s h g (by omega) hoff' hf
        rwa [hni] at this
      · rw [if_neg hf]
        by_cases h0 : m.fuel = 0
        · rw [if_pos h0]
          have := replace_dry n.toNat s h g (by omega) hoff' hf h0
          rwa [hni] at this
        · rw [if_neg h0]
          have := replace_ok n.toNat s h g hN (by omega) hoff' hf h0
          rwa [hni] at this
  · rw [if_pos hn]
    exact replace_no n s h hn
end
end Go.Proofs.YtmimpfccngihiaaDoor.DskWalkH
