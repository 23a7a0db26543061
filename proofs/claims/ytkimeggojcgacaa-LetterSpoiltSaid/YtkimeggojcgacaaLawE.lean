/- The walk of the statement that bytes of which one is another say another letter, or none. -/
import Derived.Test.YtkimeggojcgacaaBegun
import Derived.Test.YtkimeggojcgacaaSame
import Derived.WalkLawsBesides
import Derived.Laws.BitsAllLaws
set_option linter.unusedVariables false
set_option linter.unusedSimpArgs false
namespace Go.Proofs.Ytkimeggojcgacaa.LawE
open Go.RowKit Go.Proofs.Ytkimeggojcgacaa.Kit Go.Proofs.Ytkimeggojcgacaa.Ltr Go.Proofs.Ytkimeggojcgacaa.Lmt Go.Proofs.Ytkimeggojcgacaa.Wr Go.Proofs.Ytkimeggojcgacaa.Dk Go.Proofs.Ytkimeggojcgacaa.WalkA Go.Proofs.Ytkimeggojcgacaa.WalkB Go.Proofs.Ytkimeggojcgacaa.WalkC Go.Proofs.Ytkimeggojcgacaa.Begun
open Go.Proofs.Ytkimeggojcgacaa.State (cell_at free_at lt_at)
open Go.Proofs.Ytkimeggojcgacaa.PckWalkH (str str_size str_list str_back str_append)
open Go.Proofs.Ytkimeggojcgacaa.Same
open Go.Proofs.Ytkimeggojcgacaa.Wrk (lmtB_le)

theorem xor8 (x y : UInt8) : bits .xor .u8 (x.toNat : Int) (y.toNat : Int) = ((x ^^^ y).toNat : Int) := by
  rw [u8_xor_nat _ _ x.toNat_lt y.toNat_lt, UInt8.toNat_xor]
/-- Bytes of a text laid in a block of their own. -/
def By (w : World) (g n : Nat) (l : List UInt8) : Prop := l.length = n ∧ ∃ cur fz, w.heap[g]? = some (.cells cur 5 fz) ∧ n ≤ fz.1 ∧ n ≤ cur.size ∧ cur.toList.take n = vals l
theorem By.cell {w : World} {g n j : Nat} {l : List UInt8} (h : By w g n l) (hj : j < l.length) : w.cell? ⟨g, j, none⟩ = some (.int .u8 (l[j].toNat : Int)) := by
  obtain ⟨hl, cur, fz, hg, _, hs, ht⟩ := h
  rw [cell_at hg]
  have h1 : (cur.toList.take n)[j]? = (vals l)[j]? := by rw [ht]
  rw [List.getElem?_take, if_pos (by omega), vals_get l j hj] at h1
  simpa using h1
theorem By.free {w : World} {g n j : Nat} {l : List UInt8} (h : By w g n l) (hj : j < n) : w.frozen? ⟨g, j, none⟩ = false := by
  obtain ⟨hl, cur, fz, hg, hf, _⟩ := h
  simp [World.frozen?, hg]
  omega
theorem By.lt {w : World} {g n : Nat} {l : List UInt8} (h : By w g n l) : g < w.heap.size := by
  obtain ⟨_, cur, fz, hg, _⟩ := h
  exact lt_at hg
theorem By.set {w : World} {g n j : Nat} {l : List UInt8} (h : By w g n l) (hj : j < n) (c : UInt8) : By (w.setCell ⟨g, j, none⟩ (.int .u8 (c.toNat : Int))) g n (l.set j c) := by
  obtain ⟨hl, cur, fz, hg, hf, hs, ht⟩ := h
  refine ⟨by rw [List.length_set]; exact hl, cur.setIfInBounds j (.int .u8 (c.toNat : Int)), fz, ?_, hf, by simpa using hs, ?_⟩
  · simp [World.setCell, Array.getElem?_modify, hg]
  · rw [Array.toList_setIfInBounds, List.take_set, ht]
    simp [vals, List.map_set]
theorem By.reads {w : World} {g n : Nat} {l : List UInt8} (h : By w g n l) : Reads w w.heap.size 1 (some ⟨g, 0, none⟩) n (vals l) := by
  have hl := h.1
  refine ⟨by rw [vals_length, hl, Nat.mul_one], fun _ => ⟨_, rfl, h.lt, fun j u hj => ?_⟩⟩
  have hjl : j < l.length := by
    have := (List.getElem?_eq_some_iff.1 hj).1
    rwa [vals_length] at this
  rw [vals_get l j hjl] at hj
  rw [Addr.add_lit, Nat.zero_add, h.cell hjl, ← hj]
theorem bytes_of (w : World) (s : ByteArray) : ∃ c w', (convert 9 39 (.string s)).run Try.prog w = .ok (.slice (some ⟨w.heap.size, 0, none⟩) s.size c) w' ∧ By w' w.heap.size s.size s.data.toList ∧ Below w.heap.size w w' := by
  refine ⟨_, _, run_bytes_of_string w 9 39 5 s Try.underlying9 Try.underlying39 Try.underlying5, ⟨(Lib.size_eq s).symm, _, _, heap_alloc_new w.drew _, ?_, ?_, ?_⟩, ((Below.refl w.heap.size w).drew).alloc (Nat.le_refl _) _⟩
  · have := grownCap_ge w s.size 0 5
    simp only [bytesRow, Array.size_append, Array.size_map, Array.size_replicate]
    have e : s.data.size = s.size := rfl
    omega
  · have := grownCap_ge w s.size 0 5
    simp only [bytesRow, Array.size_append, Array.size_map, Array.size_replicate]
    have e : s.data.size = s.size := rfl
    omega
  · have e1 : s.size = (vals s.data.toList).length := by rw [vals_length, ← Lib.size_eq]
    have e2 : (bytesRow s (grownCap w s.size 0 5)).toList = vals s.data.toList ++ List.replicate (grownCap w s.size 0 5 - s.size) (.int .u8 0) := by
      simp [bytesRow, vals]
    rw [e2]
    conv => lhs; rw [e1]
    exact List.take_left

set_option maxRecDepth 100000 in
set_option maxHeartbeats 4000000 in
/-- A letter that may not be. -/
theorem spoilt_no (x : Lt) (a b : Int) (w : World) (h : LAt w x) (m : ¬ May x.h x.es) : Calls Try.prog 7 #[ltV x, .int .i64 a, .int .u8 b] w fun e w' => e = .returned (.bool true) ∧ Below w.heap.size w w' := by
  obtain ⟨w1, HW, ten, h1, hb1, hlt1⟩ := box_of h
  have hE' := fun w' (hb : Below w1.heap.size w1 w') => enc_no (h1.below hb) m
  obtain ⟨⟨k, f, t, tm, ix, pv, cm, ok, d⟩, A, n, c, es⟩ := x
  have c0 := ten.c0
  have c1 := ten.c1
  have c2 := ten.c2
  have c3 := ten.c3
  have c4 := ten.c4
  have c5 := ten.c5
  have c6 := ten.c6
  have c7 := ten.c7
  have c8 := ten.c8
  have c9 := ten.c9
  rw [Nat.zero_add] at c1 c2 c3 c4 c5 c6 c7 c8 c9
  simp only [ltCs] at HW c0 c1 c2 c3 c4 c5 c6 c7 c8 c9
  unfold ltV at hE' ⊢
  simp only at hE' ⊢
  have HE := Lib.hid hE'
  clear h h1 ten hE' m
  go_enter Try.func7, Try.ntmps7
  go_wp2_with fail
  rw [HW.out]
  with_reducible refine (begun_true w1).mono ?_
  rintro e w2 ⟨rfl, hb2⟩
  have d0 := (hb2.cell (p := ⟨w.heap.size, 0, none⟩) hlt1).trans c0
  have d1 := (hb2.cell (p := ⟨w.heap.size, 1, none⟩) hlt1).trans c1
  have d2 := (hb2.cell (p := ⟨w.heap.size, 2, none⟩) hlt1).trans c2
  have d3 := (hb2.cell (p := ⟨w.heap.size, 3, none⟩) hlt1).trans c3
  have d4 := (hb2.cell (p := ⟨w.heap.size, 4, none⟩) hlt1).trans c4
  have d5 := (hb2.cell (p := ⟨w.heap.size, 5, none⟩) hlt1).trans c5
  have d6 := (hb2.cell (p := ⟨w.heap.size, 6, none⟩) hlt1).trans c6
  have d7 := (hb2.cell (p := ⟨w.heap.size, 7, none⟩) hlt1).trans c7
  have d8 := (hb2.cell (p := ⟨w.heap.size, 8, none⟩) hlt1).trans c8
  have d9 := (hb2.cell (p := ⟨w.heap.size, 9, none⟩) hlt1).trans c9
  have hlt2 := Nat.lt_of_lt_of_le hlt1 hb2.size
  clear c0 c1 c2 c3 c4 c5 c6 c7 c8 c9
  go_wp2_with fail
  with_reducible refine (HE.out _ hb2).mono ?_
  rintro e w3 ⟨rfl, hb3⟩
  go_wp2
  go_ret
  exact ⟨rfl, (hb1.trans (hb2.mono hb1.size)).trans (hb3.mono (hb1.trans (hb2.mono hb1.size)).size)⟩
set_option maxRecDepth 100000 in
set_option maxHeartbeats 4000000 in
/-- Nothing is turned. -/
theorem spoilt_zero (x : Lt) (a : Int) (w : World) (h : LAt w x) (m : May x.h x.es) : Calls Try.prog 7 #[ltV x, .int .i64 a, .int .u8 0] w fun e w' => e = .returned (.bool true) ∧ Below w.heap.size w w' := by
  obtain ⟨w1, HW, ten, h1, hb1, hlt1⟩ := box_of h
  have hE' := fun w' (hb : Below w1.heap.size w1 w') => enc_yes (h1.below hb) m
  obtain ⟨S, hS⟩ : ∃ S, str (lmtB x.h x.es) = S := ⟨_, rfl⟩
  simp only [hS] at hE'
  obtain ⟨⟨k, f, t, tm, ix, pv, cm, ok, d⟩, A, n, c, es⟩ := x
  have c0 := ten.c0
  have c1 := ten.c1
  have c2 := ten.c2
  have c3 := ten.c3
  have c4 := ten.c4
  have c5 := ten.c5
  have c6 := ten.c6
  have c7 := ten.c7
  have c8 := ten.c8
  have c9 := ten.c9
  rw [Nat.zero_add] at c1 c2 c3 c4 c5 c6 c7 c8 c9
  simp only [ltCs] at HW c0 c1 c2 c3 c4 c5 c6 c7 c8 c9
  unfold ltV at hE' ⊢
  simp only at hE' ⊢
  have HE := Lib.hid hE'
  clear h h1 ten hE' m hS
  go_enter Try.func7, Try.ntmps7
  go_wp2_with fail
  rw [HW.out]
  with_reducible refine (begun_true w1).mono ?_
  rintro e w2 ⟨rfl, hb2⟩
  have d0 := (hb2.cell (p := ⟨w.heap.size, 0, none⟩) hlt1).trans c0
  have d1 := (hb2.cell (p := ⟨w.heap.size, 1, none⟩) hlt1).trans c1
  have d2 := (hb2.cell (p := ⟨w.heap.size, 2, none⟩) hlt1).trans c2
  have d3 := (hb2.cell (p := ⟨w.heap.size, 3, none⟩) hlt1).trans c3
  have d4 := (hb2.cell (p := ⟨w.heap.size, 4, none⟩) hlt1).trans c4
  have d5 := (hb2.cell (p := ⟨w.heap.size, 5, none⟩) hlt1).trans c5
  have d6 := (hb2.cell (p := ⟨w.heap.size, 6, none⟩) hlt1).trans c6
  have d7 := (hb2.cell (p := ⟨w.heap.size, 7, none⟩) hlt1).trans c7
  have d8 := (hb2.cell (p := ⟨w.heap.size, 8, none⟩) hlt1).trans c8
  have d9 := (hb2.cell (p := ⟨w.heap.size, 9, none⟩) hlt1).trans c9
  have hlt2 := Nat.lt_of_lt_of_le hlt1 hb2.size
  clear c0 c1 c2 c3 c4 c5 c6 c7 c8 c9
  go_wp2_with fail
  with_reducible refine (HE.out _ hb2).mono ?_
  rintro e w3 ⟨rfl, hb3⟩
  go_wp2
  go_ret
  exact ⟨rfl, (hb1.trans (hb2.mono hb1.size)).trans (hb3.mono (hb1.trans (hb2.mono hb1.size)).size)⟩
theorem idx_any (a : Int) (n : Nat) (h0 : 0 < n) (hn : n ≤ 600000) : ∃ P : Nat, P < n ∧ (wrap64 (a.tmod (n : Int) + (n : Int))).tmod (n : Int) = (P : Int) := by
  have h1 : -(n : Int) < a.tmod (n : Int) ∧ a.tmod (n : Int) < n := by
    have ha := Int.tmod_lt_of_pos a (show (0 : Int) < (n : Int) by omega)
    have hb := Int.lt_tmod_of_pos a (show (0 : Int) < (n : Int) by omega)
    exact ⟨hb, ha⟩
  have h2 : wrap64 (a.tmod (n : Int) + (n : Int)) = a.tmod (n : Int) + (n : Int) := by
    generalize a.tmod (n : Int) = t at h1
    unfold wrap64
    omega
  rw [h2]
  have h3 : 0 ≤ (a.tmod (n : Int) + (n : Int)).tmod (n : Int) := Int.tmod_nonneg _ (by omega)
  have h4 : (a.tmod (n : Int) + (n : Int)).tmod (n : Int) < (n : Int) := Int.tmod_lt_of_pos _ (by omega)
  exact ⟨((a.tmod (n : Int) + (n : Int)).tmod (n : Int)).toNat, by omega, by omega⟩
theorem xor_ne (c y : UInt8) (hy : y ≠ 0) : c ^^^ y ≠ c := by
  intro e
  apply hy
  have : c ^^^ (c ^^^ y) = c ^^^ c := by rw [e]
  rwa [← UInt8.xor_assoc, UInt8.xor_self, UInt8.zero_xor] at this
set_option maxRecDepth 100000 in
set_option maxHeartbeats 8000000 in
/-- One byte is turned. -/
theorem spoilt_yes (x : Lt) (a : Int) (y8 : UInt8) (w : World) (h : LAt w x) (m : May x.h x.es) (hy : y8 ≠ 0) : Calls Try.prog 7 #[ltV x, .int .i64 a, .int .u8 (y8.toNat : Int)] w fun e w' => e = .returned (.bool true) ∧ Below w.heap.size w w' := by
  obtain ⟨w1, HW, ten, h1, hb1, hlt1⟩ := box_of h
  have hE' := fun w' (hb : Below w1.heap.size w1 w') => enc_yes (h1.below hb) m
  have hpos := lmtB_pos x.h x.es
  have hle := lmtB_le h.hin h.ein m.1
  have hsame : ∀ s, GoodL s → x.said = (hd s, es s) → s = str (lmtB x.h x.es) := fun s g e => by
    simp only [Lt.said, Prod.mk.injEq] at e
    exact same_bytes g e.1.symm e.2.symm
  obtain ⟨L, hL⟩ : ∃ L, lmtB x.h x.es = L := ⟨_, rfl⟩
  rw [hL] at hsame hpos hle
  simp only [hL] at hE'
  obtain ⟨S, hS⟩ : ∃ S, str L = S := ⟨_, rfl⟩
  have hSz : S.size = L.length := by rw [← hS, str_size]
  have hSl : S.data.toList = L := by rw [← hS, str_list]
  simp only [hS] at hE'
  obtain ⟨P, hP, hidx⟩ := idx_any a S.size (by omega) (by omega)
  have hPL : P < L.length := by omega
  obtain ⟨L', hL'⟩ : ∃ L', L.set P (L[P] ^^^ y8) = L' := ⟨_, rfl⟩
  have hne' : L' ≠ L := fun e => by
    have h2 : L'[P]? = L[P]? := by rw [e]
    rw [← hL', List.getElem?_set_self hPL, List.getElem?_eq_getElem hPL] at h2
    exact xor_ne _ _ hy (Option.some.inj h2)
  have hdiff : ∀ y : Lt, GoodL (str L') → y.said = (hd (str L'), es (str L')) → x.said ≠ y.said := fun y g e e2 => by
    have h2 := hsame _ g (e2.trans e)
    have h3 : (str L').data.toList = (str L).data.toList := by rw [h2]
    rw [str_list, str_list] at h3
    exact hne' h3
  have hlen' : L'.length = S.size := by rw [← hL', List.length_set]; omega
  have hsz' : (str L').size ≤ 281474976710656 := by rw [str_size]; omega
  have hn0 : ((S.size : Int) == 0) = false := by rw [beq_eq_false_iff_ne]; omega
  have hy0 : ((y8.toNat : Int) == 0) = false := by
    simp only [beq_eq_false_iff_ne, ne_eq]
    intro e
    apply hy
    rw [← UInt8.toNat_inj]
    exact Int.ofNat.inj e
  obtain ⟨cP, hcP⟩ : ∃ cP, L[P] = cP := ⟨_, rfl⟩
  rw [hcP] at hL'
  have hxor := xor8 cP y8
  obtain ⟨v8, hv8⟩ : ∃ v, cP ^^^ y8 = v := ⟨_, rfl⟩
  rw [hv8] at hxor hL'
  have HD := Lib.hid (fun w' => dec_any (str L') hsz' w')
  have HDIFF := Lib.hid hdiff
  have HIDX := Lib.hid hidx
  have HPL := Lib.hid hPL
  have HP := Lib.hid hP
  have HCP := Lib.hid hcP
  have HL' := Lib.hid hL'
  have HSL := Lib.hid hSl
  have HSZ := Lib.hid hSz
  obtain ⟨⟨k, f, t, tm, ix, pv, cm, ok, d⟩, A, n, c, es⟩ := x
  have c0 := ten.c0
  have c1 := ten.c1
  have c2 := ten.c2
  have c3 := ten.c3
  have c4 := ten.c4
  have c5 := ten.c5
  have c6 := ten.c6
  have c7 := ten.c7
  have c8 := ten.c8
  have c9 := ten.c9
  rw [Nat.zero_add] at c1 c2 c3 c4 c5 c6 c7 c8 c9
  simp only [ltCs] at HW c0 c1 c2 c3 c4 c5 c6 c7 c8 c9
  unfold ltV at hE' ⊢
  simp only at hE' ⊢
  have HE := Lib.hid hE'
  have HX := Lib.hid h1
  have HB1 := Lib.hid hb1
  clear h h1 ten hE' m hpos hle hsame hL hS hSz hSl hP hL' hne' hdiff hlen' hsz' hcP hb1 hidx hy hv8
  go_enter Try.func7, Try.ntmps7
  go_wp2_with fail
  rw [HW.out]
  with_reducible refine (begun_true w1).mono ?_
  rintro e w2 ⟨rfl, hb2⟩
  have d0 := (hb2.cell (p := ⟨w.heap.size, 0, none⟩) hlt1).trans c0
  have d1 := (hb2.cell (p := ⟨w.heap.size, 1, none⟩) hlt1).trans c1
  have d2 := (hb2.cell (p := ⟨w.heap.size, 2, none⟩) hlt1).trans c2
  have d3 := (hb2.cell (p := ⟨w.heap.size, 3, none⟩) hlt1).trans c3
  have d4 := (hb2.cell (p := ⟨w.heap.size, 4, none⟩) hlt1).trans c4
  have d5 := (hb2.cell (p := ⟨w.heap.size, 5, none⟩) hlt1).trans c5
  have d6 := (hb2.cell (p := ⟨w.heap.size, 6, none⟩) hlt1).trans c6
  have d7 := (hb2.cell (p := ⟨w.heap.size, 7, none⟩) hlt1).trans c7
  have d8 := (hb2.cell (p := ⟨w.heap.size, 8, none⟩) hlt1).trans c8
  have d9 := (hb2.cell (p := ⟨w.heap.size, 9, none⟩) hlt1).trans c9
  have hlt2 := Nat.lt_of_lt_of_le hlt1 hb2.size
  clear c0 c1 c2 c3 c4 c5 c6 c7 c8 c9
  go_wp2_with fail
  with_reducible refine (HE.out _ hb2).mono ?_
  rintro e w3 ⟨rfl, hb3⟩
  have c0 := (hb3.cell (p := ⟨w.heap.size, 0, none⟩) hlt2).trans d0
  have c1 := (hb3.cell (p := ⟨w.heap.size, 1, none⟩) hlt2).trans d1
  have c2 := (hb3.cell (p := ⟨w.heap.size, 2, none⟩) hlt2).trans d2
  have c3 := (hb3.cell (p := ⟨w.heap.size, 3, none⟩) hlt2).trans d3
  have c4 := (hb3.cell (p := ⟨w.heap.size, 4, none⟩) hlt2).trans d4
  have c5 := (hb3.cell (p := ⟨w.heap.size, 5, none⟩) hlt2).trans d5
  have c6 := (hb3.cell (p := ⟨w.heap.size, 6, none⟩) hlt2).trans d6
  have c7 := (hb3.cell (p := ⟨w.heap.size, 7, none⟩) hlt2).trans d7
  have c8 := (hb3.cell (p := ⟨w.heap.size, 8, none⟩) hlt2).trans d8
  have c9 := (hb3.cell (p := ⟨w.heap.size, 9, none⟩) hlt2).trans d9
  clear d0 d1 d2 d3 d4 d5 d6 d7 d8 d9
  have hB3 := hb2.trans (hb3.mono hb2.size)
  have hlt3 := Nat.lt_of_lt_of_le hlt2 hb3.size
  obtain ⟨cc, w4, hcv, hby, hb4⟩ := bytes_of w3 S
  have hlt4 := Nat.lt_of_lt_of_le hlt3 hb4.size
  have hB4 := hB3.trans (hb4.mono hB3.size)
  rw [HSL.out] at hby
  obtain ⟨E, hEe⟩ : ∃ E, (wrap64 (a.tmod (S.size : Int) + (S.size : Int))).tmod (S.size : Int) = E := ⟨_, rfl⟩
  have hEP : E = (P : Int) := by rw [← hEe]; exact HIDX.out
  have hEt : E.toNat = P := by rw [hEP]; rfl
  have hE0 : 0 ≤ (wrap64 (a.tmod (S.size : Int) + (S.size : Int))).tmod (S.size : Int) := by rw [hEe, hEP]; omega
  have hE1 : (wrap64 (a.tmod (S.size : Int) + (S.size : Int))).tmod (S.size : Int) < (S.size : Int) := by rw [hEe, hEP]; have := HP.out; omega
  have hcE : w4.cell? ⟨w3.heap.size, ((wrap64 (a.tmod (S.size : Int) + (S.size : Int))).tmod (S.size : Int)).toNat, none⟩ = some (.int .u8 (cP.toNat : Int)) := by
    rw [hEe, hEt, hby.cell HPL.out, HCP.out]
  have hfE : w4.frozen? ⟨w3.heap.size, ((wrap64 (a.tmod (S.size : Int) + (S.size : Int))).tmod (S.size : Int)).toNat, none⟩ = false := by
    rw [hEe, hEt]
    exact hby.free HP.out
  have hlg := hby.lt
  have hset := hby.set HP.out v8
  rw [HL'.out, ← hEt, ← hEe] at hset
  have hbs : Below w3.heap.size w3 (w4.setCell ⟨w3.heap.size, ((wrap64 (a.tmod (S.size : Int) + (S.size : Int))).tmod (S.size : Int)).toNat, none⟩ (.int .u8 (v8.toNat : Int))) := hb4.setCell (Nat.le_refl _) _
  have hconv := run_string (P := Try.prog) 39 5 9 Try.underlying39 Try.underlying5 Try.underlying9 _ _ _ _ cc _ hset.reads
  have hstr : (⟨L'.toArray⟩ : ByteArray) = str L' := rfl
  rw [hstr] at hconv
  obtain ⟨w5, hw5⟩ : ∃ w5, w4.setCell ⟨w3.heap.size, ((wrap64 (a.tmod (S.size : Int) + (S.size : Int))).tmod (S.size : Int)).toNat, none⟩ (.int .u8 (v8.toNat : Int)) = w5 := ⟨_, rfl⟩
  have HW5 := Lib.hid hw5
  rw [hw5] at hbs
  have HBS := Lib.hid hbs
  have HEP := Lib.hid hEP
  have HEE := Lib.hid hEe
  clear hw5 hby hb2 hb3 hlt2 hset hbs hEe hEP hEt hB4 hb4 hlt4
  go_wp2_with fail
  rw [HW5.out]
  with_reducible refine (HD.out _).mono ?_
  rintro e w6 ⟨y, z, rfl, hy, hb6, hcy⟩
  have hb36 := HBS.out.trans (hb6.mono HBS.out.size)
  have d0 := (hb36.cell (p := ⟨w.heap.size, 0, none⟩) hlt3).trans c0
  have d1 := (hb36.cell (p := ⟨w.heap.size, 1, none⟩) hlt3).trans c1
  have d2 := (hb36.cell (p := ⟨w.heap.size, 2, none⟩) hlt3).trans c2
  have d3 := (hb36.cell (p := ⟨w.heap.size, 3, none⟩) hlt3).trans c3
  have d4 := (hb36.cell (p := ⟨w.heap.size, 4, none⟩) hlt3).trans c4
  have d5 := (hb36.cell (p := ⟨w.heap.size, 5, none⟩) hlt3).trans c5
  have d6 := (hb36.cell (p := ⟨w.heap.size, 6, none⟩) hlt3).trans c6
  have d7 := (hb36.cell (p := ⟨w.heap.size, 7, none⟩) hlt3).trans c7
  have d8 := (hb36.cell (p := ⟨w.heap.size, 8, none⟩) hlt3).trans c8
  have d9 := (hb36.cell (p := ⟨w.heap.size, 9, none⟩) hlt3).trans c9
  clear c0 c1 c2 c3 c4 c5 c6 c7 c8 c9
  have hlt6 := Nat.lt_of_lt_of_le hlt3 hb36.size
  have hB6 := hB3.trans (hb36.mono hB3.size)
  rcases hcy with ⟨g, rfl, hsaid⟩ | ⟨_, rfl, rfl⟩
  · have hnot := HDIFF.out y g hsaid
    have hmy : May y.h y.es := by
      have e2 := hsaid
      simp only [Lt.said, Prod.mk.injEq] at e2
      rw [e2.1, e2.2]
      exact g.2
    have teny := ten_new w6 y
    have hby : Below w6.heap.size w6 (w6.alloc (.cells (ltCs y).toArray 25)) := (Below.refl _ _).alloc (Nat.le_refl _) _
    have hlty : w6.heap.size < (w6.alloc (.cells (ltCs y).toArray 25)).heap.size := by simp
    obtain ⟨w7, hw7⟩ : ∃ w7, w6.alloc (.cells (ltCs y).toArray 25) = w7 := ⟨_, rfl⟩
    rw [hw7] at teny hby hlty
    have HY := hy.below hby
    have HX7 := HX.out.below (hB6.trans (hby.mono hB6.size))
    have hsame := same_any HX7 HY false (by simp [hnot])
    have hmay := fun w' (hb : Below w7.heap.size w7 w') => may_any (HY.below hb) true (by simp [hmy])
    have HB7 := Lib.hid (HB1.out.trans ((hB6.trans (hby.mono hB6.size)).mono HB1.out.size))
    obtain ⟨⟨ky, fy, ty, tmy, ixy, pvy, cmy, oky, dy⟩, Ay, ny, cy, esy⟩ := y
    have e0 := teny.c0
    have e1 := teny.c1
    have e2 := teny.c2
    have e3 := teny.c3
    have e4 := teny.c4
    have e5 := teny.c5
    have e6 := teny.c6
    have e7 := teny.c7
    have e8 := teny.c8
    have e9 := teny.c9
    rw [Nat.zero_add] at e1 e2 e3 e4 e5 e6 e7 e8 e9
    simp only [ltCs] at hw7 e0 e1 e2 e3 e4 e5 e6 e7 e8 e9
    unfold ltV at hsame hmay ⊢
    simp only at hsame hmay ⊢
    have HW7 := Lib.hid hw7
    have HSM := Lib.hid hsame
    have HM := Lib.hid hmay
    clear hw7 hsame hmay hmy hnot hsaid g teny hby hy HX7 HY hB6 hb36 hb6
    go_wp2_with fail
    rw [HW7.out]
    with_reducible refine HSM.out.mono ?_
    rintro e w8 ⟨rfl, hb8⟩
    have f0 := (hb8.cell (p := ⟨w6.heap.size, 0, none⟩) hlty).trans e0
    have f1 := (hb8.cell (p := ⟨w6.heap.size, 1, none⟩) hlty).trans e1
    have f2 := (hb8.cell (p := ⟨w6.heap.size, 2, none⟩) hlty).trans e2
    have f3 := (hb8.cell (p := ⟨w6.heap.size, 3, none⟩) hlty).trans e3
    have f4 := (hb8.cell (p := ⟨w6.heap.size, 4, none⟩) hlty).trans e4
    have f5 := (hb8.cell (p := ⟨w6.heap.size, 5, none⟩) hlty).trans e5
    have f6 := (hb8.cell (p := ⟨w6.heap.size, 6, none⟩) hlty).trans e6
    have f7 := (hb8.cell (p := ⟨w6.heap.size, 7, none⟩) hlty).trans e7
    have f8 := (hb8.cell (p := ⟨w6.heap.size, 8, none⟩) hlty).trans e8
    have f9 := (hb8.cell (p := ⟨w6.heap.size, 9, none⟩) hlty).trans e9
    clear e0 e1 e2 e3 e4 e5 e6 e7 e8 e9
    have hlt8 := Nat.lt_of_lt_of_le hlty hb8.size
    go_wp2_with fail
    with_reducible refine (HM.out _ hb8).mono ?_
    rintro e w9 ⟨rfl, hb9⟩
    go_wp2
    go_ret
    exact ⟨rfl, (HB7.out.trans (hb8.mono HB7.out.size)).trans (hb9.mono (HB7.out.trans (hb8.mono HB7.out.size)).size)⟩
  · have hbz : Below w6.heap.size w6 (w6.alloc (.cells (ltCs zeroL).toArray 25)) := (Below.refl _ _).alloc (Nat.le_refl _) _
    have HB7 : Hid (Below w.heap.size w (w6.alloc (.cells #[.int .i64 0, .int .i64 0, .int .i64 0, .int .u64 0, .int .u64 0, .int .u64 0, .int .u64 0, .bool false, .slice none 0 0, .string ⟨#[]⟩] 25))) := HB1.out.trans ((hB6.trans (hbz.mono hB6.size)).mono HB1.out.size)
    unfold ltV zeroL zeroH
    simp only
    clear hbz hb6 hb36 hB6
    go_wp2
    go_ret
    exact ⟨rfl, HB7.out⟩
theorem spoilt_walk (x : Lt) (a b : Int) (w : World) (h : LAt w x) (ha : -9223372036854775808 ≤ a ∧ a ≤ 9223372036854775807) (hb : 0 ≤ b ∧ b ≤ 255) : Calls Try.prog 7 #[ltV x, .int .i64 a, .int .u8 b] w fun e w' => e = .returned (.bool true) ∧ Below w.heap.size w w' := by
  by_cases m : May x.h x.es
  · by_cases h0 : b = 0
    · subst h0
      exact spoilt_zero x a w h m
    · have hv : b = ((UInt8.ofNat b.toNat).toNat : Int) := by rw [UInt8.toNat_ofNat']; omega
      rw [hv]
      refine spoilt_yes x a _ w h m fun e => h0 ?_
      rw [hv, e]
      rfl
  · exact spoilt_no x a b w h m
end Go.Proofs.Ytkimeggojcgacaa.LawE
