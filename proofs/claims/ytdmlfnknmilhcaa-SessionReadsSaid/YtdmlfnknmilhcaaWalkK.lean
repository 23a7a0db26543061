/- What Read answers, walked. No statement is proved here. -/
import Derived.Test.YtdmlfnknmilhcaaWalkJ
import Derived.Test.YtdmlfnknmilhcaaWalkB
set_option linter.unusedVariables false
set_option linter.unusedSimpArgs false
namespace Go.Proofs.Ytdmlfnknmilhcaa.WalkK
open Go.RowKit Go.Proofs.Ytdmlfnknmilhcaa.Kit Go.Proofs.Ytdmlfnknmilhcaa.Rdr Go.Proofs.Ytdmlfnknmilhcaa.Ses Go.Proofs.Ytdmlfnknmilhcaa.Rws Go.Proofs.Ytdmlfnknmilhcaa.SesB Go.Proofs.Ytdmlfnknmilhcaa.Wtr Go.Proofs.Ytdmlfnknmilhcaa.WalkA Go.Proofs.Ytdmlfnknmilhcaa.RdT Go.Proofs.Ytdmlfnknmilhcaa.WalkI Go.Proofs.Ytdmlfnknmilhcaa.WalkJ
open Go.Proofs.Ytdmlfnknmilhcaa.PckWalkC (gotB gotB_lt)
open Go.Proofs.Ytdmlfnknmilhcaa.PckWalkE (upV)

/-- Is it a table? -/
def rOk (r : Rd) : Bool := !(rEnd r).bad && snd (rTb r)
/-- What Read leaves. -/
def ReadP (TR TT E : TypeId) (w0 W : World) (q : Nat) (m : Tb) (ok : Bool) (r' : Rd) (e : Ending) (W' : World) : Prop :=
  Rds TR w0 W' q r' ∧ State.Only (· = q) W W' ∧ ((ok = true ∧ ∃ p v, e = .returned (.pointer (some ⟨p, 0, none⟩)) ∧ TAt W.heap.size TT E W' p v m) ∨ (ok = false ∧ e = .returned (.pointer none)))
theorem tb_new {w0 W W1 : World} {q : Nat} {r : Rd} (hq : q < W.heap.size) (ho : State.Only (· = q) W W1) (h : Rp w0 W1 q r) (a b : Nat) :
    Tp w0 W (W1.alloc (.cells #[.int .u64 (a : Int), .int .u64 (b : Int), .slice none 0 0] 70)) q W1.heap.size (.slice none 0 0) ⟨a, b, []⟩ r := by
  have hb : Below W1.heap.size W1 (W1.alloc (.cells #[.int .u64 (a : Int), .int .u64 (b : Int), .slice none 0 0] 70)) := (Below.refl _ _).alloc (Nat.le_refl _) _
  exact ⟨h.below hb, ⟨ho.size, heap_alloc_new W1 _, World.ownsRow_nil _ _ _ _, by simp [Value.ownBlock]⟩, ho.trans (State.Only.of_below hb), hq⟩
set_option maxRecDepth 100000 in
set_option maxHeartbeats 8000000 in
theorem read_any {w0 W : World} {q : Nat} {r : Rd} (h : Rp w0 W q r) (hs : r.s.size ≤ 281474976710656) {m : Tb} {ok : Bool} {r' : Rd} (hm : Hid (rTb r = m)) (hk : Hid (rOk r = ok)) (hr : Hid (rEnd r = r')) :
    Calls Try.prog 17 #[.pointer (some ⟨q, 0, none⟩)] W (ReadP 79 70 74 w0 W q m ok r') := by
  have hq := h.lt
  have hbo : ∀ (W : World) o, Below W.heap.size W (W.alloc o) := fun W o => (Below.refl _ _).alloc (Nat.le_refl _) o
  obtain ⟨a, ha⟩ : ∃ x, gotB r.s = x := ⟨_, rfl⟩
  obtain ⟨r1, h1⟩ : ∃ x, r.num = x := ⟨_, rfl⟩
  obtain ⟨b, hb⟩ : ∃ x, gotB r1.s = x := ⟨_, rfl⟩
  obtain ⟨r2, h2⟩ : ∃ x, r1.num = x := ⟨_, rfl⟩
  obtain ⟨n, hn⟩ : ∃ x, upV r2.s 16 = x := ⟨_, rfl⟩
  obtain ⟨rs, h3⟩ : ∃ x, r2.up 16 = x := ⟨_, rfl⟩
  have s1 : r1.s.size ≤ 281474976710656 := by rw [← h1]; exact Nat.le_trans (Rd.num_le r) hs
  have s2 : r2.s.size ≤ 281474976710656 := by rw [← h2]; exact Nat.le_trans (Rd.num_le r1) s1
  have s3 : rs.s.size ≤ 281474976710656 := by rw [← h3]; exact Nat.le_trans (Rd.up_le r2 16) s2
  have hN : rN r = n := by unfold rN; rw [h1, h2, hn]
  have hn16 : n ≤ 16 := by rw [← hN]; exact rN_le r
  have hr3 : r3 r = rs := by unfold RdT.r3; rw [h1, h2, h3]
  have hend : rAt n rs = r' := by rw [← hr.out]; unfold rEnd; rw [hN, hr3]
  have htb : (⟨a, b, rRows n rs⟩ : Tb) = m := by rw [← hm.out]; unfold rTb; rw [hN, hr3, ha, h1, hb]
  have hok : (!r'.bad && snd m) = ok := by rw [← hk.out]; unfold rOk; rw [hr.out, hm.out]
  have hfine : ∀ x ∈ rRows n rs, Fine x := rRows_fine n rs
  have hab : U a ∧ U b := by rw [← ha, ← hb]; exact ⟨gotB_lt _, gotB_lt _⟩
  have A1 := Lib.hid ha
  have A2 := Lib.hid hb
  have A3 := Lib.hid hn
  have R1 := Lib.hid h1
  have R2 := Lib.hid h2
  have R3 := Lib.hid h3
  have HEND := Lib.hid hend
  have HTB := Lib.hid htb
  have HOK := Lib.hid hok
  have HF := Lib.hid hfine
  have HH := Lib.hid h
  clear ha h1 hb h2 hn h3 hN hr3 hend htb hok hfine h hm hk hr
  go_enter Try.func17, Try.ntmps17
  go_wp2_with fail
  with_reducible refine (rp_num HH.out hs A1 R1).mono ?_
  rintro e1 w1 ⟨rfl, k1, o1⟩
  go_wp2_with fail
  with_reducible refine (rp_num k1 s1 A2 R2).mono ?_
  rintro e1 w2 ⟨rfl, k2, o2⟩
  have hT := tb_new hq (o1.trans o2) k2 a b
  obtain ⟨w3, hw3⟩ : ∃ w3, w2.alloc (.cells #[.int .u64 (a : Int), .int .u64 (b : Int), .slice none 0 0] 70) = w3 := ⟨_, rfl⟩
  rw [hw3] at hT
  obtain ⟨p, hp⟩ : ∃ p, w2.heap.size = p := ⟨_, rfl⟩
  rw [hp] at hT
  have HT := Lib.hid hT
  have HW3 := Lib.hid hw3
  clear k1 o1 k2 o2 hT hw3
  go_wp2_with fail
  rw [HW3.out]
  with_reducible refine (rp_up 16 HT.out.rd s2 (by decide) A3 R3).mono ?_
  rintro e1 w4 ⟨rfl, k4, o4⟩
  have HT4 := Lib.hid (HT.out.ran k4 o4)
  clear k4 o4 HT HW3 hp
  go_wp2
  go_loopw [14] (fun x wr => ∃ (j : Nat) (v : Value), j ≤ n ∧ x = .int .i64 (j : Int) ∧ Hid (Tp w0 W wr q p v ⟨a, b, rRows j rs⟩ (rAt j rs))) (fun x _ => n - (intOf x).toNat)
  case atStart => exact ⟨0, _, by omega, rfl, HT4.out⟩
  case round =>
    obtain ⟨j, v, hj, rfl, hD⟩ := hrel
    clear HT4
    by_cases hjn : j < n
    · have HJ := Lib.hid hjn
      have hsz : (rAt j rs).s.size ≤ 281474976710656 := Nat.le_trans (rAt_le _ _) s3
      have HES : Hid (rRows (j + 1) rs = rRows j rs ++ [rRow (rAt j rs)]) := rfl
      have HAT : Hid (rAt (j + 1) rs = rRowR (rAt j rs)) := rfl
      have hlen := rRows_length j rs
      obtain ⟨L, hL⟩ : ∃ L, rRows j rs = L := ⟨_, rfl⟩
      obtain ⟨rj, hrj⟩ : ∃ x, rAt j rs = x := ⟨_, rfl⟩
      rw [hL] at hlen hD
      rw [hrj] at hsz hD
      have HES' : Hid (rRows (j + 1) rs = L ++ [rRow rj]) := by have := HES.out; rw [hL, hrj] at this; exact this
      have HAT' : Hid (rAt (j + 1) rs = rRowR rj) := by have := HAT.out; rw [hrj] at this; exact this
      obtain ⟨x, hx⟩ : ∃ x, rRow rj = x := ⟨_, rfl⟩
      obtain ⟨rn, hrn⟩ : ∃ x, rRowR rj = x := ⟨_, rfl⟩
      have HX := Lib.hid hx
      have HRN := Lib.hid hrn
      obtain ⟨A, c, hv, hnc, hcm, _⟩ := hD.out.tb.form
      simp only at hv hnc
      rw [hlen] at hv hnc
      subst hv
      have hd := hD.out.below ((Below.refl _ _).drew)
      have c2 := hD.out.tb.c2
      have d2 := hd.tb.c2
      have hplt := hD.out.tb.plt
      have HDD := Lib.hid hd
      have HLEN := Lib.hid hlen
      have hcall := Lib.hid (row_any hd.rd hsz HX HRN)
      clear hD hlen hL hrj hx hrn hd HES HAT
      obtain ⟨id, us, sq, ⟨ye, yn, yx⟩⟩ := x
      unfold rwV at hcall
      simp only at hcall
      go_wp2_with fail
      go_region_law (first
        | (refine AppP.step_app (v := .slice A j c) (xs := rcells L) _ rfl _ _ rfl W.heap.size rfl (HO.out _) rfl HNW.out (rcells_one _) (by omega) (HBS.out _) ?_
           intro A' c' w6 hown6 hg6 hat6
           obtain ⟨q1, q2, q3, q4⟩ := HFIN.out _ A' c' w6 hown6 hg6 hat6
           have Q4 := Lib.hid q4
           clear q4 hown6 hg6 hat6)
        | (go_simp
           go_at_call 33
           (with_reducible refine hcall.out.mono ?_)
           rintro e1 w5 ⟨rfl, k5, o5⟩
           have h5 := HDD.out.ran k5 o5
           have c25 : w5.cell? ⟨p, 2, none⟩ = some (.slice A j c) := h5.tb.c2
           have hp5 : p < w5.heap.size := h5.tb.plt
           have HB5 : Hid (∀ o, Below w5.heap.size w5 (w5.alloc o)) := fun o => (Below.refl _ _).alloc (Nat.le_refl _) o
           have HO : Hid (∀ o, (w5.alloc o).ownsRow W.heap.size 74 6 (.slice A j c) j (rcells L)) := fun o => by
             have := (h5.tb.below (HB5.out o)).own
             simpa only [HLEN.out] using this
           have HNW : Hid (RR (w5.alloc (.cells #[.int .u64 (id : Int), .int .u64 (us : Int), .int .u64 (sq : Int), .int .i64 ye, .int .u64 (yn : Int), .int .u64 (yx : Int)] 74)) (w5.heap.size + 1) (some ⟨w5.heap.size, 0, none⟩) 1 [⟨id, us, sq, ⟨ye, yn, yx⟩⟩]) := rw_new w5 ⟨id, us, sq, ⟨ye, yn, yx⟩⟩ 74
           have HBS : Hid (∀ o, W.heap.size ≤ (w5.alloc o).heap.size) := fun o => by have := h5.tb.base; simp; omega
           have HFIN := Lib.hid (fun o => WalkB.TAt.added (W := w5.alloc o) h5.tb HLEN.out ⟨id, us, sq, ⟨ye, yn, yx⟩⟩ (HB5.out o))
           have H5 := Lib.hid h5
           clear k5 o5 h5))
      all_goals go_wp2
      all_goals obtain ⟨v', hv'⟩ := H5.out.left Q4.out
      all_goals refine ⟨⟨j + 1, v', HJ.out, by go_num, ?_⟩, by have := HJ.out; simp [intOf]; omega⟩
      all_goals show Tp w0 W _ q p v' ⟨a, b, rRows (j + 1) rs⟩ (rAt (j + 1) rs)
      all_goals rw [HES'.out, HAT'.out, HX.out, HRN.out]
      all_goals exact hv'
    · obtain rfl : j = n := by omega
      rw [HEND.out] at hD
      rw [HTB.out] at hD
      obtain ⟨bd, hbd⟩ : ∃ x, r'.bad = x := ⟨_, rfl⟩
      obtain ⟨ps, hps⟩ : ∃ x, r'.s.size = x := ⟨_, rfl⟩
      have hok := HOK.out
      rw [hbd] at hok
      have HPS := Lib.hid hps
      have HBD : Hid ((!r'.bad) = !bd) := by rw [hbd]; exact Lib.hid rfl
      clear hbd hps
      go_wp2_with fail
      with_reducible refine (rp_left hD.out.rd HPS HBD).mono ?_
      rintro e1 w7 ⟨rfl, k7, o7⟩
      have hD7 := hD.out.ran k7 o7
      have HD7 := Lib.hid hD7
      clear k7 o7 hD hD7
      cases bd with
      | true =>
        obtain rfl : ok = false := hok.symm
        go_wp2
        go_ret
        exact ⟨HD7.out.rd, HD7.out.only, .inr ⟨rfl, rfl⟩⟩
      | false =>
        have hok' : snd m = ok := hok
        have hm1 : U m.now ∧ U m.next := by rw [← HTB.out]; exact hab
        have hm2 : ∀ x ∈ m.rows, Fine x := by rw [← HTB.out]; exact HF.out
        have HSND := Lib.hid (sound_any HD7.out.tb hm1 hm2 (Lib.hid hok'))
        clear hok hok'
        go_wp2_with fail
        with_reducible refine HSND.out.mono ?_
        rintro e1 w8 ⟨rfl, hb8⟩
        have HD8 := Lib.hid (HD7.out.below hb8)
        clear hb8 HD7 HSND
        cases ok with
        | true =>
          go_wp2
          go_ret
          exact ⟨HD8.out.rd, HD8.out.only, .inl ⟨rfl, p, v, rfl, HD8.out.tb⟩⟩
        | false =>
          go_wp2
          go_ret
          exact ⟨HD8.out.rd, HD8.out.only, .inr ⟨rfl, rfl⟩⟩
end Go.Proofs.Ytdmlfnknmilhcaa.WalkK
