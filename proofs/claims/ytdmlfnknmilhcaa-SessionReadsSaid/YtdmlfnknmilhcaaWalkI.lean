/- What readRow answers, walked. No statement is proved here. -/
import Derived.Test.YtdmlfnknmilhcaaRdT
set_option linter.unusedVariables false
set_option linter.unusedSimpArgs false
namespace Go.Proofs.Ytdmlfnknmilhcaa.WalkI
open Go.RowKit Go.Proofs.Ytdmlfnknmilhcaa.Kit Go.Proofs.Ytdmlfnknmilhcaa.Rdr Go.Proofs.Ytdmlfnknmilhcaa.Ses Go.Proofs.Ytdmlfnknmilhcaa.Rws Go.Proofs.Ytdmlfnknmilhcaa.SesB Go.Proofs.Ytdmlfnknmilhcaa.Wtr Go.Proofs.Ytdmlfnknmilhcaa.WalkA Go.Proofs.Ytdmlfnknmilhcaa.RdT
open Go.Proofs.Ytdmlfnknmilhcaa.State (Only cell_at free_at lt_at set_at)
open Go.Proofs.Ytdmlfnknmilhcaa.PckWalkC (gotB gotB_lt)
open Go.Proofs.Ytdmlfnknmilhcaa.PckWalkE (upV)

/-- A block of a row's six cells. -/
structure Box6 (w : World) (r : Nat) (x : Rw) : Prop where
  blk : w.heap[r]? = some (.cells #[.int .u64 (x.id : Int), .int .u64 (x.used : Int), .int .u64 (x.seq : Int), .int .i64 x.y.err, .int .u64 (x.y.num : Int), .int .u64 (x.y.ext : Int)] 74 (0, 0))
section
variable {w w' : World} {r : Nat} {x : Rw}
theorem Box6.lt (h : Box6 w r x) : r < w.heap.size := lt_at h.blk
theorem Box6.c0 (h : Box6 w r x) : w.cell? ⟨r, 0, none⟩ = some (.int .u64 (x.id : Int)) := by rw [cell_at h.blk]; rfl
theorem Box6.c1 (h : Box6 w r x) : w.cell? ⟨r, 1, none⟩ = some (.int .u64 (x.used : Int)) := by rw [cell_at h.blk]; rfl
theorem Box6.c2 (h : Box6 w r x) : w.cell? ⟨r, 2, none⟩ = some (.int .u64 (x.seq : Int)) := by rw [cell_at h.blk]; rfl
theorem Box6.c3 (h : Box6 w r x) : w.cell? ⟨r, 3, none⟩ = some (.int .i64 x.y.err) := by rw [cell_at h.blk]; rfl
theorem Box6.c4 (h : Box6 w r x) : w.cell? ⟨r, 4, none⟩ = some (.int .u64 (x.y.num : Int)) := by rw [cell_at h.blk]; rfl
theorem Box6.c5 (h : Box6 w r x) : w.cell? ⟨r, 5, none⟩ = some (.int .u64 (x.y.ext : Int)) := by rw [cell_at h.blk]; rfl
theorem Box6.free (h : Box6 w r x) (i : Nat) : w.frozen? ⟨r, i, none⟩ = false := free_at h.blk i
theorem Box6.keep (h : Box6 w r x) {S : Nat → Prop} (k : Only S w w') (hr : ¬ S r) : Box6 w' r x := ⟨(k.block r h.lt hr).trans h.blk⟩
theorem Box6.below (h : Box6 w r x) (k : Below w.heap.size w w') : Box6 w' r x := ⟨(k.block r h.lt).trans h.blk⟩
theorem Box6.new (w : World) (x : Rw) : Box6 (w.alloc (.cells #[.int .u64 (x.id : Int), .int .u64 (x.used : Int), .int .u64 (x.seq : Int), .int .i64 x.y.err, .int .u64 (x.y.num : Int), .int .u64 (x.y.ext : Int)] 74)) w.heap.size x := ⟨heap_alloc_new w _⟩
theorem Box6.set3 (h : Box6 w r x) (y : Ry) : Box6 (((w.setCell ⟨r, 3, none⟩ (.int .i64 y.err)).setCell ⟨r, 4, none⟩ (.int .u64 (y.num : Int))).setCell ⟨r, 5, none⟩ (.int .u64 (y.ext : Int))) r ⟨x.id, x.used, x.seq, y⟩ ∧
    Only (fun q => q = r) w (((w.setCell ⟨r, 3, none⟩ (.int .i64 y.err)).setCell ⟨r, 4, none⟩ (.int .u64 (y.num : Int))).setCell ⟨r, 5, none⟩ (.int .u64 (y.ext : Int))) := by
  refine ⟨⟨?_⟩, only_s ((((Blocks.Only.refl (fun q => q = r) w).setCell (a := ⟨r, 3, none⟩) (.inr rfl) _).setCell (a := ⟨r, 4, none⟩) (.inr rfl) _).setCell (a := ⟨r, 5, none⟩) (.inr rfl) _)⟩
  rw [set_at (set_at (set_at h.blk _) _) _]
  rfl
theorem Box6.set6 (h : Box6 w r x) (z : Rw) : Box6 ((((((w.setCell ⟨r, 0, none⟩ (.int .u64 (z.id : Int))).setCell ⟨r, 1, none⟩ (.int .u64 (z.used : Int))).setCell ⟨r, 2, none⟩ (.int .u64 (z.seq : Int))).setCell ⟨r, 3, none⟩ (.int .i64 z.y.err)).setCell ⟨r, 4, none⟩ (.int .u64 (z.y.num : Int))).setCell ⟨r, 5, none⟩ (.int .u64 (z.y.ext : Int))) r z ∧
    Only (fun q => q = r) w ((((((w.setCell ⟨r, 0, none⟩ (.int .u64 (z.id : Int))).setCell ⟨r, 1, none⟩ (.int .u64 (z.used : Int))).setCell ⟨r, 2, none⟩ (.int .u64 (z.seq : Int))).setCell ⟨r, 3, none⟩ (.int .i64 z.y.err)).setCell ⟨r, 4, none⟩ (.int .u64 (z.y.num : Int))).setCell ⟨r, 5, none⟩ (.int .u64 (z.y.ext : Int))) := by
  refine ⟨⟨?_⟩, only_s (((((((Blocks.Only.refl (fun q => q = r) w).setCell (a := ⟨r, 0, none⟩) (.inr rfl) _).setCell (a := ⟨r, 1, none⟩) (.inr rfl) _).setCell (a := ⟨r, 2, none⟩) (.inr rfl) _).setCell (a := ⟨r, 3, none⟩) (.inr rfl) _).setCell (a := ⟨r, 4, none⟩) (.inr rfl) _).setCell (a := ⟨r, 5, none⟩) (.inr rfl) _)⟩
  rw [set_at (set_at (set_at (set_at (set_at (set_at h.blk _) _) _) _) _) _]
  rfl
end
section
variable {fn : Func} {p : Tmp} {w : World} {g : Nat} {x : Rw}
theorem res1 (h : fn.results = #[.cell p 74]) (tmps : Array Value) (hp : tmps.getD p undef = .pointer (some ⟨g, 0, none⟩)) (hx : Box6 w g x) : (results fn tmps).run Try.prog w = .ok (rwV x) w := by
  have hp' : tmps[p]?.getD undef = .pointer (some ⟨g, 0, none⟩) := by simpa using hp
  have hl := run_loadVar_row (P := Try.prog) w g 74 74 _ (0, 0) _ hx.blk Try.underlying74 rfl (by kernel_rfl)
  unfold rwV
  simp [results, h, hp', asAddr, Result.andThen, hl]
end
def zR0 : Rw := ⟨0, 0, 0, y0⟩
/-- A row's reads, by names. -/
theorem rw_named (r : Rd) (hs : r.s.size ≤ 281474976710656) : ∃ (r1 r2 r3 r4 r5 r6 : Rd) (a b c d e f : Nat), Hid (r.num = r1) ∧ Hid (r1.num = r2) ∧ Hid (r2.num = r3) ∧ Hid (r3.up 52 = r4) ∧ Hid (r4.num = r5) ∧ Hid (r5.num = r6) ∧
    Hid (gotB r.s = a) ∧ Hid (gotB r1.s = b) ∧ Hid (gotB r2.s = c) ∧ Hid (upV r3.s 52 = d) ∧ Hid (gotB r4.s = e) ∧ Hid (gotB r5.s = f) ∧
    r1.s.size ≤ 281474976710656 ∧ r2.s.size ≤ 281474976710656 ∧ r3.s.size ≤ 281474976710656 ∧ r4.s.size ≤ 281474976710656 ∧ r5.s.size ≤ 281474976710656 ∧ Hid (rRow r = ⟨a, b, c, ⟨(d : Nat), e, f⟩⟩) ∧ Hid (rRowR r = r6) := by
  have h1 := Rd.num_le r
  have h2 := Rd.num_le r.num
  have h3 := Rd.num_le r.num.num
  have h4 := Rd.up_le r.num.num.num 52
  have h5 := Rd.num_le (r.num.num.num.up 52)
  exact ⟨_, _, _, _, _, _, _, _, _, _, _, _, rfl, rfl, rfl, rfl, rfl, rfl, rfl, rfl, rfl, rfl, rfl, rfl, by omega, by omega, by omega, by omega, by omega, rfl, rfl⟩
set_option maxRecDepth 100000 in
set_option maxHeartbeats 4000000 in
theorem row_any {w0 w : World} {q : Nat} {r : Rd} (h : Rp w0 w q r) (hs : r.s.size ≤ 281474976710656) {x : Rw} {r' : Rd} (hx : Hid (rRow r = x)) (hr : Hid (rRowR r = r')) :
    Calls Try.prog 33 #[.pointer (some ⟨q, 0, none⟩)] w (Ran 79 w0 w q r' (rwV x)) := by
  obtain ⟨r1, r2, r3, r4, r5, r6, a, b, c, d, e, f, R1, R2, R3, R4, R5, R6, A1, A2, A3, A4, A5, A6, s1, s2, s3, s4, s5, HX, HRR⟩ := rw_named r hs
  have hq := h.lt
  have hbo : ∀ (W : World) o, Below W.heap.size W (W.alloc o) := fun W o => (Below.refl _ _).alloc (Nat.le_refl _) o
  have hzb : Box6 (w.alloc (.cells #[.int .u64 0, .int .u64 0, .int .u64 0, .int .i64 0, .int .u64 0, .int .u64 0] 74)) w.heap.size zR0 := Box6.new w zR0
  have ha := h.below (hbo w (.cells #[.int .u64 0, .int .u64 0, .int .u64 0, .int .i64 0, .int .u64 0, .int .u64 0] 74))
  have ho0 : Only (· = q) w (w.alloc (.cells #[.int .u64 0, .int .u64 0, .int .u64 0, .int .i64 0, .int .u64 0, .int .u64 0] 74)) := State.Only.of_below (hbo _ _)
  obtain ⟨wa, hwa⟩ : ∃ wa, w.alloc (.cells #[.int .u64 0, .int .u64 0, .int .u64 0, .int .i64 0, .int .u64 0, .int .u64 0] 74) = wa := ⟨_, rfl⟩
  rw [hwa] at hzb ha ho0
  obtain ⟨P, hP⟩ : ∃ P, w.heap.size = P := ⟨_, rfl⟩
  rw [hP] at hzb hq
  have HWA := Lib.hid hwa
  have HA := Lib.hid ha
  have HZ := Lib.hid hzb
  have HO := Lib.hid ho0
  have HX' : Hid (x = ⟨a, b, c, ⟨(d : Nat), e, f⟩⟩) := hx.out.symm.trans HX.out
  have HR' : Hid (r' = r6) := hr.out.symm.trans HRR.out
  clear h ha hzb ho0 hwa hx hr HX HRR
  go_enter Try.func33, Try.ntmps33
  go_wp2_with fail
  rw [HWA.out]
  with_reducible refine (rp_num HA.out hs A1 R1).mono ?_
  rintro e1 w1 ⟨rfl, h1, o1⟩
  have H1 := Lib.hid h1
  have HO1 := Lib.hid (HO.out.trans o1)
  have HZ1 := Lib.hid (HZ.out.keep o1 (fun e => by omega))
  clear h1 o1 HA HO HZ
  go_wp2_with fail
  with_reducible refine (rp_num H1.out s1 A2 R2).mono ?_
  rintro e1 w2 ⟨rfl, h1, o1⟩
  have H2 := Lib.hid h1
  have HO2 := Lib.hid (HO1.out.trans o1)
  have HZ2 := Lib.hid (HZ1.out.keep o1 (fun e => by omega))
  clear h1 o1 H1 HO1 HZ1
  go_wp2_with fail
  with_reducible refine (rp_num H2.out s2 A3 R3).mono ?_
  rintro e1 w3 ⟨rfl, h1, o1⟩
  have hO3 := HO2.out.trans o1
  have hZ3 := HZ2.out.keep o1 (fun e => by omega)
  have hb3 := hbo w3 (.cells #[.int .u64 (a : Int), .int .u64 (b : Int), .int .u64 (c : Int), .int .i64 0, .int .u64 0, .int .u64 0] 74)
  have hnb : Box6 (w3.alloc (.cells #[.int .u64 (a : Int), .int .u64 (b : Int), .int .u64 (c : Int), .int .i64 0, .int .u64 0, .int .u64 0] 74)) w3.heap.size ⟨a, b, c, y0⟩ := Box6.new w3 ⟨a, b, c, y0⟩
  have h4 := h1.below hb3
  have hO4 := hO3.trans (State.Only.of_below (S := (· = q)) hb3)
  have hZ4 := hZ3.below hb3
  have hPQ : P < w3.heap.size := hZ3.lt
  obtain ⟨w4, hw4⟩ : ∃ w4, w3.alloc (.cells #[.int .u64 (a : Int), .int .u64 (b : Int), .int .u64 (c : Int), .int .i64 0, .int .u64 0, .int .u64 0] 74) = w4 := ⟨_, rfl⟩
  obtain ⟨Q, hQ⟩ : ∃ Q, w3.heap.size = Q := ⟨_, rfl⟩
  rw [hw4] at hnb h4 hO4 hZ4
  rw [hQ] at hnb hPQ
  have HW4 := Lib.hid hw4
  have H4 := Lib.hid h4
  have HO4 := Lib.hid hO4
  have HZ4 := Lib.hid hZ4
  have HN4 := Lib.hid hnb
  clear h1 o1 hO3 hZ3 hb3 hnb h4 hO4 hZ4 hw4 H2 HO2 HZ2
  go_wp2_with fail
  rw [HW4.out]
  with_reducible refine (rp_up 52 H4.out s3 (by decide) A4 R4).mono ?_
  rintro e1 w5 ⟨rfl, h1, o1⟩
  have H5 := Lib.hid h1
  have HO5 := Lib.hid (HO4.out.trans o1)
  have HZ5 := Lib.hid (HZ4.out.keep o1 (fun e => by omega))
  have HN5 := Lib.hid (HN4.out.keep o1 (fun e => by omega))
  clear h1 o1 H4 HO4 HZ4 HN4
  go_wp2_with fail
  with_reducible refine (rp_num H5.out s4 A5 R5).mono ?_
  rintro e1 w6 ⟨rfl, h1, o1⟩
  have H6 := Lib.hid h1
  have HO6 := Lib.hid (HO5.out.trans o1)
  have HZ6 := Lib.hid (HZ5.out.keep o1 (fun e => by omega))
  have HN6 := Lib.hid (HN5.out.keep o1 (fun e => by omega))
  clear h1 o1 H5 HO5 HZ5 HN5
  go_wp2_with fail
  with_reducible refine (rp_num H6.out s5 A6 R6).mono ?_
  rintro e1 w7 ⟨rfl, h1, o1⟩
  have hO7 := HO6.out.trans o1
  have hZ7 := HZ6.out.keep o1 (fun e => by omega)
  have hN7 := HN6.out.keep o1 (fun e => by omega)
  obtain ⟨hS, oS⟩ := hN7.set3 ⟨(d : Nat), e, f⟩
  have hZ8 := hZ7.keep oS (fun e => by omega)
  obtain ⟨hT, oT⟩ := hZ8.set6 ⟨a, b, c, ⟨(d : Nat), e, f⟩⟩
  have n0 := hN7.c0
  have n1 := hN7.c1
  have n2 := hN7.c2
  have n3 := hN7.c3
  have n4 := hN7.c4
  have n5 := hN7.c5
  have nf3 := hN7.free 3
  have nf4 := hN7.free 4
  have nf5 := hN7.free 5
  have z0 := hZ7.c0
  have z1 := hZ7.c1
  have z2 := hZ7.c2
  have z3 := hZ7.c3
  have z4 := hZ7.c4
  have z5 := hZ7.c5
  have zf0 := hZ7.free 0
  have zf1 := hZ7.free 1
  have zf2 := hZ7.free 2
  have zf3 := hZ7.free 3
  have zf4 := hZ7.free 4
  have zf5 := hZ7.free 5
  have nlt := hN7.lt
  have zlt := hZ7.lt
  have hqP : q ≠ P ∧ q ≠ Q := ⟨by omega, by omega⟩
  have hpq : P ≠ Q := by omega
  have HT := Lib.hid hT
  have HOT : Hid (∀ W, Only (fun k => k = Q) w7 W → ∀ W', Only (fun k => k = P) W W' → Ran 79 w0 w q r' (rwV x) (.returned (rwV ⟨a, b, c, ⟨(d : Nat), e, f⟩⟩)) W') := by
    intro W k1 W' k2
    have hwP : w.heap.size = P := hP
    have hsz := hO7.size
    refine ⟨by rw [HX'.out], ?_, ?_⟩
    · rw [HR'.out]
      have hl := h1.low
      refine ⟨(h1.at_.keep k1 hqP.2).keep k2 hqP.1, hl, (h1.bel.trans ((k1.below h1.bel.size fun k hk => ?_))).trans (k2.below (Nat.le_trans h1.bel.size k1.size) fun k hk => ?_)⟩ <;> omega
    · exact only_s (((only_b hO7).trans' (only_b k1) (fun k hk => .inr (by omega))).trans' (only_b k2) (fun k hk => .inr (by omega)))
  have HOS := Lib.hid oS
  have HOTT := Lib.hid oT
  clear h1 o1 hO7 hZ7 hN7 hS oS hZ8 hT oT H6 HO6 HZ6 HN6
  simp only [zR0, y0] at z0 z1 z2 z3 z4 z5 n0 n1 n2 n3 n4 n5
  go_wp2
  refine bodyPost_ret (res1 (p := 2) rfl _ rfl HT.out) rfl ?_
  exact HOT.out _ HOS.out _ HOTT.out
end Go.Proofs.Ytdmlfnknmilhcaa.WalkI
