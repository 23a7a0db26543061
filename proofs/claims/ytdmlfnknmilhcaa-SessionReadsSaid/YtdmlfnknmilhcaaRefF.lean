/- What the document's Read answers, walked. No statement is proved here. -/
import Derived.Test.YtdmlfnknmilhcaaWalkK
import Derived.Test.YtdmlfnknmilhcaaAppD
import Derived.Deep.QuietTactic
set_option linter.unusedVariables false
set_option linter.unusedSimpArgs false
namespace Go.Proofs.Ytdmlfnknmilhcaa.RefF
open Go.RowKit Go.Proofs.Ytdmlfnknmilhcaa.Kit Go.Proofs.Ytdmlfnknmilhcaa.Rdr Go.Proofs.Ytdmlfnknmilhcaa.Ses Go.Proofs.Ytdmlfnknmilhcaa.Rws Go.Proofs.Ytdmlfnknmilhcaa.SesB Go.Proofs.Ytdmlfnknmilhcaa.Wtr Go.Proofs.Ytdmlfnknmilhcaa.WalkA Go.Proofs.Ytdmlfnknmilhcaa.RdT Go.Proofs.Ytdmlfnknmilhcaa.WalkI Go.Proofs.Ytdmlfnknmilhcaa.WalkJ Go.Proofs.Ytdmlfnknmilhcaa.WalkK
open Go.Proofs.Ytdmlfnknmilhcaa.PckWalkC (gotB gotB_lt)
open Go.Proofs.Ytdmlfnknmilhcaa.PckWalkE (upV)
open Go.Proofs.Ytdmlfnknmilhcaa.State (cell_at free_at lt_at set_at)

/-! ### The rows so far -/
def lst : Nat → List Rw → Nat
  | a, [] => a
  | _, r :: l => lst r.id l
theorem lst_snoc (x : Rw) : ∀ (a : Nat) (l : List Rw), lst a (l ++ [x]) = x.id
  | _, [] => rfl
  | _, r :: l => lst_snoc x r.id l
theorem sndL_snoc (now next : Nat) (x : Rw) : ∀ (a : Nat) (l : List Rw), sndL now next a (l ++ [x]) = (sndL now next a l && okRow now next (lst a l) x)
  | a, [] => by simp [sndL, lst]
  | a, r :: l => by
    show (okRow now next a r && sndL now next r.id (l ++ [x])) = (okRow now next a r && sndL now next r.id l && okRow now next (lst r.id l) x)
    rw [sndL_snoc now next x r.id l, Bool.and_assoc]
theorem lst_lt : ∀ (l : List Rw) (a : Nat), U a → (∀ x ∈ l, Fine x) → U (lst a l)
  | [], a, h, _ => h
  | r :: l, a, h, hf => lst_lt l r.id (hf r (by simp)).id fun x hx => hf x (by simp [hx])

/-! ### A row in a box -/
structure BoxD (w : World) (g : Nat) (a b c d e f : Value) : Prop where
  blk : w.heap[g]? = some (.cells #[a, b, c, d, e, f] 75 (0, 0))
section
variable {w w' : World} {g : Nat} {a b c d e f : Value}
theorem BoxD.lt (h : BoxD w g a b c d e f) : g < w.heap.size := lt_at h.blk
theorem BoxD.keep (h : BoxD w g a b c d e f) {S : Nat → Prop} (k : State.Only S w w') (hr : ¬ S g) : BoxD w' g a b c d e f := ⟨(k.block g h.lt hr).trans h.blk⟩
theorem BoxD.cs (h : BoxD w g a b c d e f) : w.cell? ⟨g, 0, none⟩ = some a ∧ w.cell? ⟨g, 1, none⟩ = some b ∧ w.cell? ⟨g, 2, none⟩ = some c ∧ w.cell? ⟨g, 3, none⟩ = some d ∧ w.cell? ⟨g, 4, none⟩ = some e ∧ w.cell? ⟨g, 5, none⟩ = some f :=
  ⟨cell_at h.blk 0, cell_at h.blk 1, cell_at h.blk 2, cell_at h.blk 3, cell_at h.blk 4, cell_at h.blk 5⟩
theorem BoxD.free (h : BoxD w g a b c d e f) (i : Nat) : w.frozen? ⟨g, i, none⟩ = false := free_at h.blk i
theorem only_g (w : World) (g i : Nat) (v : Value) : State.Only (fun k => k = g) w (w.setCell ⟨g, i, none⟩ v) := only_s ((Blocks.Only.refl (fun k => k = g) w).setCell (a := ⟨g, i, none⟩) (.inr rfl) v)
theorem BoxD.s1 (h : BoxD w g a b c d e f) (v : Value) : BoxD (w.setCell ⟨g, 1, none⟩ v) g a v c d e f := ⟨by rw [set_at h.blk]; rfl⟩
theorem BoxD.s2 (h : BoxD w g a b c d e f) (v : Value) : BoxD (w.setCell ⟨g, 2, none⟩ v) g a b v d e f := ⟨by rw [set_at h.blk]; rfl⟩
theorem BoxD.s3 (h : BoxD w g a b c d e f) (v : Value) : BoxD (w.setCell ⟨g, 3, none⟩ v) g a b c v e f := ⟨by rw [set_at h.blk]; rfl⟩
theorem BoxD.s4 (h : BoxD w g a b c d e f) (v : Value) : BoxD (w.setCell ⟨g, 4, none⟩ v) g a b c d v f := ⟨by rw [set_at h.blk]; rfl⟩
theorem BoxD.s5 (h : BoxD w g a b c d e f) (v : Value) : BoxD (w.setCell ⟨g, 5, none⟩ v) g a b c d e v := ⟨by rw [set_at h.blk]; rfl⟩
end
/-- A block of the call's own is written. -/
theorem Tk.own {TR TT E : TypeId} {w0 W0 W W' : World} {q p g : Nat} {v : Value} {m : Tb} {r : Rd} (d : Tk TR TT E w0 W0 W q p v m r) (o : State.Only (fun k => k = g) W W') (h0 : W0.heap.size ≤ g) (h1 : ¬ Mine p v g) : Tk TR TT E w0 W0 W' q p v m r := by
  have lq := d.lq
  have hsz := d.only.size
  refine ⟨⟨d.rd.at_.keep o fun e => by omega, d.rd.low, d.rd.bel.trans (o.below d.rd.bel.size fun k hk => by have := d.rd.low; omega)⟩, d.tb.keep (only_b o) fun k hk e => h1 (e ▸ hk), ?_, lq⟩
  exact ⟨o.os.trans d.only.os, o.tape.trans d.only.tape, o.output.trans d.only.output, Nat.le_trans hsz o.size, fun k hk hn => (o.block k (by omega) fun e => by omega).trans (d.only.block k hk hn)⟩
/-- The document's state in a round: the reader, the table, the box. -/
structure Rnd (w0 W0 W : World) (q p g : Nat) (v : Value) (m : Tb) (r : Rd) (a b c d e f : Value) : Prop where
  k : Tm w0 W0 W q p v m r
  x : BoxD W g a b c d e f
  g0 : W0.heap.size ≤ g
  g1 : ¬ Mine p v g
section
variable {w0 W0 W W' : World} {q p g : Nat} {v : Value} {m : Tb} {r r' : Rd} {a b c d e f : Value}
theorem Rnd.ran (h : Rnd w0 W0 W q p g v m r a b c d e f) (hr : Rds 49 w0 W' q r') (ho : State.Only (· = q) W W') : Rnd w0 W0 W' q p g v m r' a b c d e f :=
  ⟨h.k.ran hr ho, h.x.keep ho (fun e => by have := h.k.lq; have := h.g0; omega), h.g0, h.g1⟩
theorem Rnd.s1 (h : Rnd w0 W0 W q p g v m r a b c d e f) (u : Value) : Rnd w0 W0 (W.setCell ⟨g, 1, none⟩ u) q p g v m r a u c d e f := ⟨RefF.Tk.own h.k (only_g _ _ _ _) h.g0 h.g1, h.x.s1 u, h.g0, h.g1⟩
theorem Rnd.s2 (h : Rnd w0 W0 W q p g v m r a b c d e f) (u : Value) : Rnd w0 W0 (W.setCell ⟨g, 2, none⟩ u) q p g v m r a b u d e f := ⟨RefF.Tk.own h.k (only_g _ _ _ _) h.g0 h.g1, h.x.s2 u, h.g0, h.g1⟩
theorem Rnd.s3 (h : Rnd w0 W0 W q p g v m r a b c d e f) (u : Value) : Rnd w0 W0 (W.setCell ⟨g, 3, none⟩ u) q p g v m r a b c u e f := ⟨RefF.Tk.own h.k (only_g _ _ _ _) h.g0 h.g1, h.x.s3 u, h.g0, h.g1⟩
theorem Rnd.s4 (h : Rnd w0 W0 W q p g v m r a b c d e f) (u : Value) : Rnd w0 W0 (W.setCell ⟨g, 4, none⟩ u) q p g v m r a b c d u f := ⟨RefF.Tk.own h.k (only_g _ _ _ _) h.g0 h.g1, h.x.s4 u, h.g0, h.g1⟩
theorem Rnd.s5 (h : Rnd w0 W0 W q p g v m r a b c d e f) (u : Value) : Rnd w0 W0 (W.setCell ⟨g, 5, none⟩ u) q p g v m r a b c d e u := ⟨RefF.Tk.own h.k (only_g _ _ _ _) h.g0 h.g1, h.x.s5 u, h.g0, h.g1⟩
end
theorem tm_new {w0 W W1 : World} {q : Nat} {r : Rd} (hq : q < W.heap.size) (ho : State.Only (· = q) W W1) (h : Rm w0 W1 q r) (a b : Nat) :
    Tm w0 W (W1.alloc (.cells #[.int .u64 (a : Int), .int .u64 (b : Int), .slice none 0 0] 30)) q W1.heap.size (.slice none 0 0) ⟨a, b, []⟩ r := by
  have hb : Below W1.heap.size W1 (W1.alloc (.cells #[.int .u64 (a : Int), .int .u64 (b : Int), .slice none 0 0] 30)) := (Below.refl _ _).alloc (Nat.le_refl _) _
  exact ⟨h.below hb, ⟨ho.size, heap_alloc_new W1 _, World.ownsRow_nil _ _ _ _, by simp [Value.ownBlock]⟩, ho.trans (State.Only.of_below hb), hq⟩
set_option maxRecDepth 100000 in
set_option maxHeartbeats 16000000 in
theorem rread_any {w0 W : World} {q : Nat} {r : Rd} (h : Rm w0 W q r) (hs : r.s.size ≤ 281474976710656) {m : Tb} {ok : Bool} {r' : Rd} (hm : Hid (rTb r = m)) (hk : Hid (rOk r = ok)) (hr : Hid (rEnd r = r')) :
    Calls Try.prog 18 #[.pointer (some ⟨q, 0, none⟩)] W (ReadP 49 30 75 w0 W q m ok r') := by
  have hq := h.lt
  have hbo : ∀ (W : World) o, Below W.heap.size W (W.alloc o) := fun W o => (Below.refl _ _).alloc (Nat.le_refl _) o
  obtain ⟨a, ha⟩ : ∃ x, gotB r.s = x := ⟨_, rfl⟩
  obtain ⟨r1, h1⟩ : ∃ x, r.num = x := ⟨_, rfl⟩
  obtain ⟨b, hb⟩ : ∃ x, gotB r1.s = x := ⟨_, rfl⟩
  obtain ⟨r2, h2⟩ : ∃ x, r1.num = x := ⟨_, rfl⟩
  obtain ⟨n, hn⟩ : ∃ x, upV r2.s 16 = x := ⟨_, rfl⟩
  obtain ⟨rs, h3⟩ : ∃ x, r2.up 16 = x := ⟨_, rfl⟩
  have s1 : r1.s.size ≤ 281474976710656 := by rw [← h1]; exact Nat.le_trans (Rd.num_le r) hs
  have s2 : r2.s.size ≤ 281474976710656 := by rw [← h2]; exact Nat.le_trans (Rd.num_le r1) s1
  have s3 : rs.s.size ≤ 281474976710656 := by rw [← h3]; exact Nat.le_trans (Rd.up_le r2 16) s2
  have hN : rN r = n := by unfold rN; rw [h1, h2, hn]
  have hn16 : n ≤ 16 := by rw [← hN]; exact rN_le r
  have hr3 : r3 r = rs := by unfold RdT.r3; rw [h1, h2, h3]
  have hend : rAt n rs = r' := by rw [← hr.out]; unfold rEnd; rw [hN, hr3]
  have htb : (⟨a, b, rRows n rs⟩ : Tb) = m := by rw [← hm.out]; unfold rTb; rw [hN, hr3, ha, h1, hb]
  have hok : (!r'.bad && (decide (b ≠ 0) && sndL a b 0 (rRows n rs))) = ok := by rw [← hk.out]; unfold rOk; rw [hr.out, hm.out, ← htb]; rfl
  have hab : U a ∧ U b := by rw [← ha, ← hb]; exact ⟨gotB_lt _, gotB_lt _⟩
  obtain ⟨hUa, hUb⟩ := hab
  have A1 := Lib.hid ha
  have A2 := Lib.hid hb
  have A3 := Lib.hid hn
  have R1 := Lib.hid h1
  have R2 := Lib.hid h2
  have R3 := Lib.hid h3
  have HEND := Lib.hid hend
  have HTB := Lib.hid htb
  have HOK := Lib.hid hok
  have HH := Lib.hid h
  clear ha h1 hb h2 hn h3 hN hr3 hend htb hok h hm hk hr
  go_enter Try.func18, Try.ntmps18
  go_wp2_with fail
  with_reducible refine (rm_num HH.out hs A1 R1).mono ?_
  rintro e1 w1 ⟨rfl, k1, o1⟩
  have hT := tm_new hq o1 k1 a 0
  obtain ⟨w2, hw2⟩ : ∃ w2, w1.alloc (.cells #[.int .u64 (a : Int), .int .u64 0, .slice none 0 0] 30) = w2 := ⟨_, rfl⟩
  have hT' : Tm w0 W w2 q w1.heap.size (.slice none 0 0) ⟨a, 0, []⟩ r1 := by rw [← hw2]; exact hT
  obtain ⟨p, hp⟩ : ∃ p, w1.heap.size = p := ⟨_, rfl⟩
  rw [hp] at hT'
  have HT := Lib.hid hT'
  have HW2 := Lib.hid hw2
  clear k1 o1 hT hT' hw2
  go_wp2_with fail
  rw [HW2.out]
  with_reducible refine (rm_num HT.out.rd s1 A2 R2).mono ?_
  rintro e1 w3 ⟨rfl, k3, o3⟩
  have hD3 := HT.out.ran k3 o3
  have c1 := hD3.tb.c1
  have f1 := hD3.tb.free 1
  have hpl := hD3.tb.plt
  obtain ⟨hx4, hy4⟩ := hD3.tb.nexted b
  obtain ⟨v4, hD4⟩ : ∃ v4, Tm w0 W (w3.setCell ⟨p, 1, none⟩ (.int .u64 (b : Int))) q p v4 ⟨a, b, []⟩ r2 := hD3.left ⟨_, hx4, hy4.mono fun k _ hk => .inl hk, fun g hg => .inl hg⟩
  obtain ⟨w4, hw4⟩ : ∃ w4, w3.setCell ⟨p, 1, none⟩ (.int .u64 (b : Int)) = w4 := ⟨_, rfl⟩
  rw [hw4] at hD4
  have HD4 := Lib.hid hD4
  have HW4 := Lib.hid hw4
  clear k3 o3 hD3 hx4 hy4 hD4 hw4 HT HW2 hp
  go_wp2_with fail
  rw [HW4.out]
  with_reducible refine (rm_up 16 HD4.out.rd s2 (by decide) A3 R3).mono ?_
  rintro e1 w5 ⟨rfl, k5, o5⟩
  have HD5 := Lib.hid (HD4.out.ran k5 o5)
  clear k5 o5 HD4 HW4 c1 f1 hpl
  go_wp2_with fail
  go_loopw [5, 6, 7] (fun x y z wr => ∃ (j : Nat) (v : Value), j ≤ n ∧ x = .bool (sndL a b 0 (rRows j rs)) ∧ y = .int .u64 ((lst 0 (rRows j rs) : Nat) : Int) ∧ z = .int .i64 (j : Int) ∧ Hid (Tm w0 W wr q p v ⟨a, b, rRows j rs⟩ (rAt j rs))) (fun _ _ z _ => n - (intOf z).toNat)
  case atStart => exact ⟨0, v4, by omega, rfl, rfl, rfl, HD5.out⟩
  case round =>
    obtain ⟨j, v, hj, rfl, rfl, rfl, hD⟩ := hrel
    clear HD5
    by_cases hjn : j < n
    · have HJ := Lib.hid hjn
      have hsz : (rAt j rs).s.size ≤ 281474976710656 := Nat.le_trans (rAt_le _ _) s3
      have hlen := rRows_length j rs
      have hfine := rRows_fine j rs
      have HES : Hid (rRows (j + 1) rs = rRows j rs ++ [rRow (rAt j rs)]) := rfl
      have HAT : Hid (rAt (j + 1) rs = rRowR (rAt j rs)) := rfl
      obtain ⟨L, hL⟩ : ∃ L, rRows j rs = L := ⟨_, rfl⟩
      obtain ⟨rj, hrj⟩ : ∃ x, rAt j rs = x := ⟨_, rfl⟩
      rw [hL] at hlen hD HES hfine ⊢
      rw [hrj] at hsz hD HES HAT
      have hla := lst_lt L 0 (by decide) hfine
      obtain ⟨la, hlla⟩ : ∃ x, lst 0 L = x := ⟨_, rfl⟩
      obtain ⟨oj, hoj⟩ : ∃ x, sndL a b 0 L = x := ⟨_, rfl⟩
      rw [hlla] at hla ⊢
      rw [hoj]
      obtain ⟨ra, rb, rc, rd, re, rn, id, us, sq, ye, yn, yx, X1, X2, X3, X4, X5, X6, V1, V2, V3, V4, V5, V6, t1, t2, t3, t4, t5, HX, HRN⟩ := rw_named rj hsz
      have HSO : Hid (sndL a b 0 (rRows (j + 1) rs) = (oj && okRow a b la ⟨id, us, sq, ⟨(ye : Int), yn, yx⟩⟩)) := by
        have := sndL_snoc a b (rRow rj) 0 L
        rw [hlla, hoj, HX.out] at this
        rw [HES.out, HX.out]
        exact this
      have HLA : Hid (lst 0 (rRows (j + 1) rs) = id) := by rw [HES.out, HX.out]; exact lst_snoc _ _ _
      have hv0 : U id ∧ U us := by rw [← V1.out, ← V2.out]; exact ⟨gotB_lt _, gotB_lt _⟩
      have HD := hD
      have HLEN := Lib.hid hlen
      clear hD hL hrj hlla hoj hfine hlen
      go_wp2_with fail
      with_reducible refine (rm_num HD.out.rd hsz V1 X1).mono ?_
      rintro e1 w6 ⟨rfl, k6, o6⟩
      have hD6 := HD.out.ran k6 o6
      have hb7 := hbo w6 (.cells #[.int .u64 (id : Int), .int .u64 0, .int .u64 0, .int .i64 0, .int .u64 0, .int .u64 0] 75)
      have hR7 : Rnd w0 W (w6.alloc (.cells #[.int .u64 (id : Int), .int .u64 0, .int .u64 0, .int .i64 0, .int .u64 0, .int .u64 0] 75)) q p w6.heap.size v ⟨a, b, L⟩ ra (.int .u64 (id : Int)) (.int .u64 0) (.int .u64 0) (.int .i64 0) (.int .u64 0) (.int .u64 0) :=
        ⟨hD6.below hb7, ⟨heap_alloc_new w6 _⟩, hD6.only.size, fun e => by have := (hD6.tb.mine_lt e).2; omega⟩
      obtain ⟨w7, hw7⟩ : ∃ w7, w6.alloc (.cells #[.int .u64 (id : Int), .int .u64 0, .int .u64 0, .int .i64 0, .int .u64 0, .int .u64 0] 75) = w7 := ⟨_, rfl⟩
      obtain ⟨G, hG⟩ : ∃ G, w6.heap.size = G := ⟨_, rfl⟩
      rw [hw7, hG] at hR7
      have H7 := Lib.hid hR7
      have HW7 := Lib.hid hw7
      clear k6 o6 hD6 hb7 hR7 hw7 HD
      go_wp2_with fail
      rw [HW7.out]
      with_reducible refine (rm_num H7.out.k.rd t1 V2 X2).mono ?_
      rintro e1 w8 ⟨rfl, k8, o8⟩
      have h8 := H7.out.ran k8 o8
      obtain ⟨_, g1, _⟩ := h8.x.cs
      have gf := h8.x.free 1
      have gl := h8.x.lt
      have h9 := h8.s1 (.int .u64 (us : Int))
      obtain ⟨w9, hw9⟩ : ∃ w9, w8.setCell ⟨G, 1, none⟩ (.int .u64 (us : Int)) = w9 := ⟨_, rfl⟩
      rw [hw9] at h9
      have H9 := Lib.hid h9
      have HW9 := Lib.hid hw9
      clear k8 o8 h8 h9 hw9 H7 HW7
      go_wp2_with fail
      rw [HW9.out]
      with_reducible refine (rm_num H9.out.k.rd t2 V3 X3).mono ?_
      rintro e1 w8 ⟨rfl, k8, o8⟩
      have h8 := H9.out.ran k8 o8
      obtain ⟨_, _, g2, _⟩ := h8.x.cs
      have gf := h8.x.free 2
      have gl := h8.x.lt
      have h9 := h8.s2 (.int .u64 (sq : Int))
      obtain ⟨w10, hw9⟩ : ∃ w9, w8.setCell ⟨G, 2, none⟩ (.int .u64 (sq : Int)) = w9 := ⟨_, rfl⟩
      rw [hw9] at h9
      have H10 := Lib.hid h9
      have HW10 := Lib.hid hw9
      clear k8 o8 h8 h9 hw9 H9 HW9 g1
      go_wp2_with fail
      rw [HW10.out]
      with_reducible refine (rm_up 52 H10.out.k.rd t3 (by decide) V4 X4).mono ?_
      rintro e1 w8 ⟨rfl, k8, o8⟩
      have h8 := H10.out.ran k8 o8
      obtain ⟨_, _, _, g3, _⟩ := h8.x.cs
      have gf := h8.x.free 3
      have gl := h8.x.lt
      have h9 := h8.s3 (.int .i64 (ye : Int))
      obtain ⟨w11, hw9⟩ : ∃ w9, w8.setCell ⟨G, 3, none⟩ (.int .i64 (ye : Int)) = w9 := ⟨_, rfl⟩
      rw [hw9] at h9
      have H11 := Lib.hid h9
      have HW11 := Lib.hid hw9
      clear k8 o8 h8 h9 hw9 H10 HW10 g2
      go_wp2_with fail
      rw [HW11.out]
      with_reducible refine (rm_num H11.out.k.rd t4 V5 X5).mono ?_
      rintro e1 w8 ⟨rfl, k8, o8⟩
      have h8 := H11.out.ran k8 o8
      obtain ⟨_, _, _, _, g4, _⟩ := h8.x.cs
      have gf := h8.x.free 4
      have gl := h8.x.lt
      have h9 := h8.s4 (.int .u64 (yn : Int))
      obtain ⟨w12, hw9⟩ : ∃ w9, w8.setCell ⟨G, 4, none⟩ (.int .u64 (yn : Int)) = w9 := ⟨_, rfl⟩
      rw [hw9] at h9
      have H12 := Lib.hid h9
      have HW12 := Lib.hid hw9
      clear k8 o8 h8 h9 hw9 H11 HW11 g3
      go_wp2_with fail
      rw [HW12.out]
      with_reducible refine (rm_num H12.out.k.rd t5 V6 X6).mono ?_
      rintro e1 w8 ⟨rfl, k8, o8⟩
      have h8 := H12.out.ran k8 o8
      obtain ⟨_, _, _, _, _, g5⟩ := h8.x.cs
      have gf := h8.x.free 5
      have gl := h8.x.lt
      have h9 := h8.s5 (.int .u64 (yx : Int))
      obtain ⟨w13, hw9⟩ : ∃ w9, w8.setCell ⟨G, 5, none⟩ (.int .u64 (yx : Int)) = w9 := ⟨_, rfl⟩
      rw [hw9] at h9
      have H13 := Lib.hid h9
      have HW13 := Lib.hid hw9
      obtain ⟨i0, i1, i2, i3, i4, i5⟩ := h9.x.cs
      have il := h9.x.lt
      have j0 := h9.k.tb.c0
      have j1 := h9.k.tb.c1
      have j2 := h9.k.tb.c2
      have jl := h9.k.tb.plt
      simp only at j0 j1
      clear k8 o8 h8 h9 hw9 H12 HW12 g4
      have hB13 : ∀ k o, Below w13.heap.size w13 ((w13.drewN k).alloc o) := fun k o => (bdn (Below.refl _ _) k).alloc (Nat.le_refl _) o
      obtain ⟨A', c', hv, hnc, hcm, _⟩ := H13.out.k.tb.form
      simp only at hv hnc
      rw [HLEN.out] at hv hnc
      have j2' := j2
      rw [hv] at j2'
      have HV := Lib.hid hv
      have J2A : ∀ k o, ((w13.drewN k).alloc o).cell? ⟨p, 2, none⟩ = some (.slice A' j c') := fun k o => ((hB13 k o).cell (p := ⟨p, 2, none⟩) jl).trans j2'
      have JLA : ∀ k, p < (w13.drewN k).heap.size := fun k => jl
      have JNA : ∀ k, p ≠ (w13.drewN k).heap.size := fun k => Nat.ne_of_lt jl
      have HO : Hid (∀ k o, ((w13.drewN k).alloc o).ownsRow W.heap.size 75 6 (.slice A' j c') j (rcells L)) := fun k o => by
        have := (H13.out.k.tb.below (hB13 k o)).own
        rw [hv] at this
        simpa only [HLEN.out] using this
      have HNW : Hid (∀ k, RR ((w13.drewN k).alloc (.cells #[.int .u64 (id : Int), .int .u64 (us : Int), .int .u64 (sq : Int), .int .i64 (ye : Int), .int .u64 (yn : Int), .int .u64 (yx : Int)] 75)) (w13.heap.size + 1) (some ⟨w13.heap.size, 0, none⟩) 1 [⟨id, us, sq, ⟨(ye : Int), yn, yx⟩⟩]) := fun k => rw_new (w13.drewN k) ⟨id, us, sq, ⟨(ye : Int), yn, yx⟩⟩ 75
      have HBS : Hid (∀ k o, W.heap.size ≤ ((w13.drewN k).alloc o).heap.size) := fun k o => Nat.le_trans H13.out.k.only.size (hB13 k o).size
      have HFIN := Lib.hid (fun k o => WalkB.TAt.added (W := (w13.drewN k).alloc o) H13.out.k.tb HLEN.out ⟨id, us, sq, ⟨(ye : Int), yn, yx⟩⟩ (hB13 k o))
      obtain ⟨hv1, hv2⟩ := hv0
      have hcase : oj = false ∨ (oj = true ∧ id ≤ la) ∨ (oj = true ∧ la < id ∧ b ≤ id) ∨ (oj = true ∧ la < id ∧ id < b ∧ a < us) ∨ (oj = true ∧ la < id ∧ id < b ∧ us ≤ a ∧ 1000 < a - us) ∨ (oj = true ∧ la < id ∧ id < b ∧ us ≤ a ∧ a - us ≤ 1000) := by
        cases oj
        · exact .inl rfl
        · right
          simp only [true_and]
          omega
      clear hB13 hv j2
      rcases hcase with rfl | ⟨rfl, p1⟩ | ⟨rfl, p1, p2⟩ | ⟨rfl, p1, p2, p3⟩ | ⟨rfl, p1, p2, p3, p4⟩ | ⟨rfl, p1, p2, p3, p4⟩
      · have HRES : Hid ((false && okRow a b la ⟨id, us, sq, ⟨(ye : Int), yn, yx⟩⟩) = false) := Lib.hid rfl
        go_wp2_with fail
        rw [HW13.out]
        go_quiet (fail)
        go_wp2_with fail
        go_region_law (
           refine AppD.step_app (v := .slice A' j c') (xs := rcells L) _ rfl _ _ rfl W.heap.size rfl (HO.out _ _) rfl (HNW.out _) (rcells_one _) (by omega) (HBS.out _ _) ?_
           intro A7 c7 w14 hown7 hg7 hat7
           obtain ⟨q1, q2, q3, q4⟩ := HFIN.out _ _ A7 c7 w14 hown7 (by rw [HV.out]; exact hg7) (by rw [HV.out]; exact hat7)
           rw [HV.out] at q1
           have Q4 := Lib.hid q4
           clear q4 hown7 hg7 hat7)
        all_goals go_wp2
        all_goals obtain ⟨v', hv'⟩ := H13.out.k.left Q4.out
        all_goals refine ⟨⟨j + 1, v', HJ.out, ?_, by rw [HLA.out], by go_num, ?_⟩, by have := HJ.out; simp [intOf]; omega⟩
        all_goals first
          | (rw [HSO.out, HRES.out]; done)
          | (rw [HSO.out, HRES.out]; rfl)
          | (show Tm w0 W _ q p v' ⟨a, b, rRows (j + 1) rs⟩ (rAt (j + 1) rs)
             rw [HES.out, HAT.out, HX.out, HRN.out]
             exact hv')
      · have hno : okRow a b la ⟨id, us, sq, ⟨(ye : Int), yn, yx⟩⟩ = false := by
          cases hk : okRow a b la ⟨id, us, sq, ⟨(ye : Int), yn, yx⟩⟩ with
          | false => rfl
          | true => have hk' := (okRow_iff.1 hk).1; have hk2 : la < id := hk'; omega
        have HRES : Hid ((true && okRow a b la ⟨id, us, sq, ⟨(ye : Int), yn, yx⟩⟩) = false) := Lib.hid (by rw [hno]; rfl)
        clear hno
        have n1 : decide (la < id) = false := decide_eq_false (by omega)
        have m1 : decide ((la : Int) < (id : Int)) = false := decide_eq_false (by omega)
        have i11I : ¬ ((la : Int) < (id : Int)) := by omega
        go_wp2_with fail
        rw [HW13.out]
        go_quiet (fail)
        go_wp2_with fail
        go_region_law (
           refine AppD.step_app (v := .slice A' j c') (xs := rcells L) _ rfl _ _ rfl W.heap.size rfl (HO.out _ _) rfl (HNW.out _) (rcells_one _) (by omega) (HBS.out _ _) ?_
           intro A7 c7 w14 hown7 hg7 hat7
           obtain ⟨q1, q2, q3, q4⟩ := HFIN.out _ _ A7 c7 w14 hown7 (by rw [HV.out]; exact hg7) (by rw [HV.out]; exact hat7)
           rw [HV.out] at q1
           have Q4 := Lib.hid q4
           clear q4 hown7 hg7 hat7)
        all_goals go_wp2
        all_goals obtain ⟨v', hv'⟩ := H13.out.k.left Q4.out
        all_goals refine ⟨⟨j + 1, v', HJ.out, ?_, by rw [HLA.out], by go_num, ?_⟩, by have := HJ.out; simp [intOf]; omega⟩
        all_goals first
          | (rw [HSO.out, HRES.out]; done)
          | (rw [HSO.out, HRES.out]; rfl)
          | (show Tm w0 W _ q p v' ⟨a, b, rRows (j + 1) rs⟩ (rAt (j + 1) rs)
             rw [HES.out, HAT.out, HX.out, HRN.out]
             exact hv')
      · have hno : okRow a b la ⟨id, us, sq, ⟨(ye : Int), yn, yx⟩⟩ = false := by
          cases hk : okRow a b la ⟨id, us, sq, ⟨(ye : Int), yn, yx⟩⟩ with
          | false => rfl
          | true => have hk' := (okRow_iff.1 hk).2.1; have hk2 : id < b := hk'; omega
        have HRES : Hid ((true && okRow a b la ⟨id, us, sq, ⟨(ye : Int), yn, yx⟩⟩) = false) := Lib.hid (by rw [hno]; rfl)
        clear hno
        have n1 : decide (la < id) = true := decide_eq_true (by omega)
        have m1 : decide ((la : Int) < (id : Int)) = true := decide_eq_true (by omega)
        have i11I : ((la : Int) < (id : Int)) := by omega
        have n2 : decide (id < b) = false := decide_eq_false (by omega)
        have m2 : decide ((id : Int) < (b : Int)) = false := decide_eq_false (by omega)
        have i12I : ¬ ((id : Int) < (b : Int)) := by omega
        go_wp2_with fail
        rw [HW13.out]
        go_quiet (fail)
        go_wp2_with fail
        go_region_law (
           refine AppD.step_app (v := .slice A' j c') (xs := rcells L) _ rfl _ _ rfl W.heap.size rfl (HO.out _ _) rfl (HNW.out _) (rcells_one _) (by omega) (HBS.out _ _) ?_
           intro A7 c7 w14 hown7 hg7 hat7
           obtain ⟨q1, q2, q3, q4⟩ := HFIN.out _ _ A7 c7 w14 hown7 (by rw [HV.out]; exact hg7) (by rw [HV.out]; exact hat7)
           rw [HV.out] at q1
           have Q4 := Lib.hid q4
           clear q4 hown7 hg7 hat7)
        all_goals go_wp2
        all_goals obtain ⟨v', hv'⟩ := H13.out.k.left Q4.out
        all_goals refine ⟨⟨j + 1, v', HJ.out, ?_, by rw [HLA.out], by go_num, ?_⟩, by have := HJ.out; simp [intOf]; omega⟩
        all_goals first
          | (rw [HSO.out, HRES.out]; done)
          | (rw [HSO.out, HRES.out]; rfl)
          | (show Tm w0 W _ q p v' ⟨a, b, rRows (j + 1) rs⟩ (rAt (j + 1) rs)
             rw [HES.out, HAT.out, HX.out, HRN.out]
             exact hv')
      · have hno : okRow a b la ⟨id, us, sq, ⟨(ye : Int), yn, yx⟩⟩ = false := by
          cases hk : okRow a b la ⟨id, us, sq, ⟨(ye : Int), yn, yx⟩⟩ with
          | false => rfl
          | true => have hk' := (okRow_iff.1 hk).2.2.1; have hk2 : us ≤ a := hk'; omega
        have HRES : Hid ((true && okRow a b la ⟨id, us, sq, ⟨(ye : Int), yn, yx⟩⟩) = false) := Lib.hid (by rw [hno]; rfl)
        clear hno
        have n1 : decide (la < id) = true := decide_eq_true (by omega)
        have m1 : decide ((la : Int) < (id : Int)) = true := decide_eq_true (by omega)
        have i11I : ((la : Int) < (id : Int)) := by omega
        have n2 : decide (id < b) = true := decide_eq_true (by omega)
        have m2 : decide ((id : Int) < (b : Int)) = true := decide_eq_true (by omega)
        have i12I : ((id : Int) < (b : Int)) := by omega
        have n3 : decide (us ≤ a) = false := decide_eq_false (by omega)
        have m3 : decide ((us : Int) ≤ (a : Int)) = false := decide_eq_false (by omega)
        have i13I : ¬ ((us : Int) ≤ (a : Int)) := by omega
        go_wp2_with fail
        rw [HW13.out]
        go_quiet (fail)
        go_wp2_with fail
        go_region_law (
           refine AppD.step_app (v := .slice A' j c') (xs := rcells L) _ rfl _ _ rfl W.heap.size rfl (HO.out _ _) rfl (HNW.out _) (rcells_one _) (by omega) (HBS.out _ _) ?_
           intro A7 c7 w14 hown7 hg7 hat7
           obtain ⟨q1, q2, q3, q4⟩ := HFIN.out _ _ A7 c7 w14 hown7 (by rw [HV.out]; exact hg7) (by rw [HV.out]; exact hat7)
           rw [HV.out] at q1
           have Q4 := Lib.hid q4
           clear q4 hown7 hg7 hat7)
        all_goals go_wp2
        all_goals obtain ⟨v', hv'⟩ := H13.out.k.left Q4.out
        all_goals refine ⟨⟨j + 1, v', HJ.out, ?_, by rw [HLA.out], by go_num, ?_⟩, by have := HJ.out; simp [intOf]; omega⟩
        all_goals first
          | (rw [HSO.out, HRES.out]; done)
          | (rw [HSO.out, HRES.out]; rfl)
          | (show Tm w0 W _ q p v' ⟨a, b, rRows (j + 1) rs⟩ (rAt (j + 1) rs)
             rw [HES.out, HAT.out, HX.out, HRN.out]
             exact hv')
      · have hno : okRow a b la ⟨id, us, sq, ⟨(ye : Int), yn, yx⟩⟩ = false := by
          cases hk : okRow a b la ⟨id, us, sq, ⟨(ye : Int), yn, yx⟩⟩ with
          | false => rfl
          | true => have hk' := (okRow_iff.1 hk).2.2.2; have hk2 : a - us ≤ 1000 := hk'; omega
        have HRES : Hid ((true && okRow a b la ⟨id, us, sq, ⟨(ye : Int), yn, yx⟩⟩) = false) := Lib.hid (by rw [hno]; rfl)
        clear hno
        have n1 : decide (la < id) = true := decide_eq_true (by omega)
        have m1 : decide ((la : Int) < (id : Int)) = true := decide_eq_true (by omega)
        have i11I : ((la : Int) < (id : Int)) := by omega
        have n2 : decide (id < b) = true := decide_eq_true (by omega)
        have m2 : decide ((id : Int) < (b : Int)) = true := decide_eq_true (by omega)
        have i12I : ((id : Int) < (b : Int)) := by omega
        have n3 : decide (us ≤ a) = true := decide_eq_true (by omega)
        have m3 : decide ((us : Int) ≤ (a : Int)) = true := decide_eq_true (by omega)
        have i13I : ((us : Int) ≤ (a : Int)) := by omega
        have hw : IntKind.u64.wrap ((a : Int) - (us : Int)) = ((a - us : Nat) : Int) := by rw [show (a : Int) - (us : Int) = ((a - us : Nat) : Int) by omega]; exact IntWalk.u64_in _ ⟨by omega, by omega⟩
        obtain ⟨dd, hdd⟩ : ∃ d, a - us = d := ⟨_, rfl⟩
        rw [hdd] at hw p4
        have n4 : decide (dd ≤ 1000) = false := decide_eq_false (by omega)
        have m4 : decide ((dd : Int) ≤ 1000) = false := decide_eq_false (by omega)
        have i14I : ¬ ((dd : Int) ≤ 1000) := by omega
        go_wp2_with fail
        rw [HW13.out]
        go_quiet (fail)
        go_wp2_with fail
        go_region_law (
           refine AppD.step_app (v := .slice A' j c') (xs := rcells L) _ rfl _ _ rfl W.heap.size rfl (HO.out _ _) rfl (HNW.out _) (rcells_one _) (by omega) (HBS.out _ _) ?_
           intro A7 c7 w14 hown7 hg7 hat7
           obtain ⟨q1, q2, q3, q4⟩ := HFIN.out _ _ A7 c7 w14 hown7 (by rw [HV.out]; exact hg7) (by rw [HV.out]; exact hat7)
           rw [HV.out] at q1
           have Q4 := Lib.hid q4
           clear q4 hown7 hg7 hat7)
        all_goals go_wp2
        all_goals obtain ⟨v', hv'⟩ := H13.out.k.left Q4.out
        all_goals refine ⟨⟨j + 1, v', HJ.out, ?_, by rw [HLA.out], by go_num, ?_⟩, by have := HJ.out; simp [intOf]; omega⟩
        all_goals first
          | (rw [HSO.out, HRES.out]; done)
          | (rw [HSO.out, HRES.out]; rfl)
          | (show Tm w0 W _ q p v' ⟨a, b, rRows (j + 1) rs⟩ (rAt (j + 1) rs)
             rw [HES.out, HAT.out, HX.out, HRN.out]
             exact hv')
      · have HRES : Hid ((true && okRow a b la ⟨id, us, sq, ⟨(ye : Int), yn, yx⟩⟩) = true) := Lib.hid (by rw [okRow_iff.2 ⟨p1, p2, p3, p4⟩]; rfl)
        have n1 : decide (la < id) = true := decide_eq_true (by omega)
        have m1 : decide ((la : Int) < (id : Int)) = true := decide_eq_true (by omega)
        have i11I : ((la : Int) < (id : Int)) := by omega
        have n2 : decide (id < b) = true := decide_eq_true (by omega)
        have m2 : decide ((id : Int) < (b : Int)) = true := decide_eq_true (by omega)
        have i12I : ((id : Int) < (b : Int)) := by omega
        have n3 : decide (us ≤ a) = true := decide_eq_true (by omega)
        have m3 : decide ((us : Int) ≤ (a : Int)) = true := decide_eq_true (by omega)
        have i13I : ((us : Int) ≤ (a : Int)) := by omega
        have hw : IntKind.u64.wrap ((a : Int) - (us : Int)) = ((a - us : Nat) : Int) := by rw [show (a : Int) - (us : Int) = ((a - us : Nat) : Int) by omega]; exact IntWalk.u64_in _ ⟨by omega, by omega⟩
        obtain ⟨dd, hdd⟩ : ∃ d, a - us = d := ⟨_, rfl⟩
        rw [hdd] at hw p4
        have n4 : decide (dd ≤ 1000) = true := decide_eq_true (by omega)
        have m4 : decide ((dd : Int) ≤ 1000) = true := decide_eq_true (by omega)
        have i14I : ((dd : Int) ≤ 1000) := by omega
        go_wp2_with fail
        rw [HW13.out]
        go_quiet (fail)
        go_wp2_with fail
        go_region_law (
           refine AppD.step_app (v := .slice A' j c') (xs := rcells L) _ rfl _ _ rfl W.heap.size rfl (HO.out _ _) rfl (HNW.out _) (rcells_one _) (by omega) (HBS.out _ _) ?_
           intro A7 c7 w14 hown7 hg7 hat7
           obtain ⟨q1, q2, q3, q4⟩ := HFIN.out _ _ A7 c7 w14 hown7 (by rw [HV.out]; exact hg7) (by rw [HV.out]; exact hat7)
           rw [HV.out] at q1
           have Q4 := Lib.hid q4
           clear q4 hown7 hg7 hat7)
        all_goals go_wp2
        all_goals obtain ⟨v', hv'⟩ := H13.out.k.left Q4.out
        all_goals refine ⟨⟨j + 1, v', HJ.out, ?_, by rw [HLA.out], by go_num, ?_⟩, by have := HJ.out; simp [intOf]; omega⟩
        all_goals first
          | (rw [HSO.out, HRES.out]; done)
          | (rw [HSO.out, HRES.out]; rfl)
          | (show Tm w0 W _ q p v' ⟨a, b, rRows (j + 1) rs⟩ (rAt (j + 1) rs)
             rw [HES.out, HAT.out, HX.out, HRN.out]
             exact hv')
    · obtain rfl : j = n := by omega
      have hD' := hD.out
      rw [HEND.out] at hD'
      have htb := HTB.out
      rw [htb] at hD'
      have hok := HOK.out
      obtain ⟨sj, hsj⟩ : ∃ x, sndL a b 0 (rRows j rs) = x := ⟨_, rfl⟩
      rw [hsj] at hok ⊢
      obtain ⟨bd, hbd⟩ : ∃ x, r'.bad = x := ⟨_, rfl⟩
      rw [hbd] at hok
      have hfl : wr.cell? ⟨q, 1, none⟩ = some (.bool bd) := by rw [← hbd, cell_at hD'.rd.at_]; rfl
      have hql := hD'.rd.lt
      have j1 := hD'.tb.c1
      rw [← htb] at j1
      simp only at j1
      have jl := hD'.tb.plt
      have HD := Lib.hid hD'
      clear hD hD' hsj hbd htb
      cases bd with
      | true =>
        obtain rfl : ok = false := by rw [← hok]; rfl
        go_wp2
        go_ret
        exact ⟨HD.out.rd, HD.out.only, .inr ⟨rfl, rfl⟩⟩
      | false =>
        cases sj with
        | false =>
          obtain rfl : ok = false := by rw [← hok]; simp
          go_wp2
          go_ret
          exact ⟨HD.out.rd, HD.out.only, .inr ⟨rfl, rfl⟩⟩
        | true =>
          by_cases hb0 : b = 0
          · obtain rfl : ok = false := by rw [← hok, hb0]; rfl
            have hb0I : (b : Int) = 0 := by omega
            go_wp2
            go_ret
            exact ⟨HD.out.rd, HD.out.only, .inr ⟨rfl, rfl⟩⟩
          · obtain rfl : ok = true := by rw [← hok, decide_eq_true (show b ≠ 0 from hb0)]; rfl
            have hb0I : ¬ (b : Int) = 0 := by omega
            have hb0B : ((b : Int) == 0) = false := by simp; omega
            go_wp2
            go_ret
            exact ⟨HD.out.rd, HD.out.only, .inl ⟨rfl, p, v, rfl, HD.out.tb⟩⟩
end Go.Proofs.Ytdmlfnknmilhcaa.RefF
