/- What the document's Decode answers, walked. No statement is proved here. -/
import Derived.Test.YtkimeggojcgacaaWalkC
import Derived.Test.YtkimeggojcgacaaWalkE
set_option linter.unusedVariables false
set_option linter.unusedSimpArgs false
namespace Go.Proofs.Ytkimeggojcgacaa.WalkF
open Go.RowKit Go.Proofs.Ytkimeggojcgacaa.Kit Go.Proofs.Ytkimeggojcgacaa.Ltr Go.Proofs.Ytkimeggojcgacaa.Lmt Go.Proofs.Ytkimeggojcgacaa.Wr Go.Proofs.Ytkimeggojcgacaa.Dk Go.Proofs.Ytkimeggojcgacaa.WalkB Go.Proofs.Ytkimeggojcgacaa.WalkE
open Go.Proofs.Ytkimeggojcgacaa.WalkC (ent_new)
open Go.Proofs.Ytkimeggojcgacaa.App (wpList_app)
open Go.Proofs.Ytkimeggojcgacaa.State (RV cell_at free_at set_at lt_at)
open Go.Proofs.Ytkimeggojcgacaa.PckWalkC (gotB)
open Go.Proofs.Ytkimeggojcgacaa.PckWalkE (upV textV truth)
open Go.Proofs.Ytkimeggojcgacaa.PckWalkH (str str_size)

/-- An entry of it being read: the entry's own block. -/
structure Ek (w W : World) (q p : Nat) (h : Hd) (v : Value) (l : List Ent) (r : Rd) (g : Nat) (cs : List Value) : Prop where
  d : Dk 63 w W q p h v l r
  box : W.heap[g]? = some (.cells cs.toArray 47 (0, 0))
  pg : p < g
  vg : v.ownBlock ≠ some g
section
variable {w W W' : World} {q p g : Nat} {h : Hd} {v : Value} {l : List Ent} {r r' : Rd} {cs cs' : List Value}
theorem Ek.ran {x : Value} {e : Ending} (k : Ek w W q p h v l r g cs) (ho : Ran 63 w W q r' x e W') : e = .returned x ∧ Ek w W' q p h v l r' g cs := by
  have qp := k.d.qp
  have pg := k.pg
  exact ⟨ho.1, k.d.ran ho.2.1.at_ ho.2.2, (ho.2.2.block g (lt_at k.box) (by omega)).trans k.box, pg, k.vg⟩
theorem Ek.at_ (k : Ek w W q p h v l r g cs) (i : Nat) {u : Value} (hi : cs[i]? = some u) : W.cell? ⟨g, i, none⟩ = some u := by rw [cell_at k.box]; simpa using hi
theorem Ek.free (k : Ek w W q p h v l r g cs) (i : Nat) : W.frozen? ⟨g, i, none⟩ = false := free_at k.box i
theorem Ek.lt (k : Ek w W q p h v l r g cs) : g < W.heap.size := lt_at k.box
theorem Ek.set (k : Ek w W q p h v l r g cs) (i : Nat) (u : Value) (hi : cs.set i u = cs') : Ek w (W.setCell ⟨g, i, none⟩ u) q p h v l r g cs' := by
  have lq := k.d.lq
  have qp := k.d.qp
  have pg := k.pg
  have o : State.Only (fun b => b = g) W (W.setCell ⟨g, i, none⟩ u) := (State.Only.refl (fun b => b = g) W).setCell (a := ⟨g, i, none⟩) (.inr rfl) u
  refine ⟨⟨(o.block _ (lt_at k.d.res) (by omega)).trans k.d.res, k.d.rd.keep o (by omega), (o.block _ (lt_at k.d.box) (by omega)).trans k.d.box, own_keep o k.d.own fun b hb e => k.vg (e ▸ hb), lq, qp, k.d.bel.trans (o.below k.d.bel.size fun j hj => by rw [hj]; omega)⟩, ?_, pg, k.vg⟩
  rw [put_at i u k.box, hi]
theorem ek_new (d : Dk 63 w W q p h v l r) (cs : List Value) : Ek w (W.alloc (.cells cs.toArray 47)) q p h v l r W.heap.size cs := by
  have hb : Below W.heap.size W (W.alloc (.cells cs.toArray 47)) := (Below.refl _ _).alloc (Nat.le_refl _) _
  refine ⟨d.below hb, heap_alloc_new W _, d.lt, fun e => ?_⟩
  have := (d.own.lt _ e).2
  omega
theorem ek_num {m : Nat} (k : Ek w W q p h v l r g cs) (hs : r.s.size ≤ 281474976710656) (hg : Hid (gotB r.s = m)) (hr : Hid (r.num = r')) :
    Calls Try.prog 32 #[.pointer (some ⟨q, 0, none⟩)] W fun e W' => e = .returned (.int .u64 (m : Int)) ∧ Ek w W' q p h v l r' g cs :=
  (rm_num k.d.rds hs hg hr).mono fun _ _ o => k.ran o
theorem ek_up {n : Nat} (z : Int) (k : Ek w W q p h v l r g cs) (hs : r.s.size ≤ 281474976710656) (hk : z ≤ 9223372036854775807) (hn : Hid (upV r.s z = n)) (hr : Hid (r.up z = r')) :
    Calls Try.prog 31 #[.pointer (some ⟨q, 0, none⟩), .int .i64 z] W fun e W' => e = .returned (.int .i64 (n : Int)) ∧ Ek w W' q p h v l r' g cs :=
  (rm_up z k.d.rds hs hk hn hr).mono fun _ _ o => k.ran o
theorem ek_text {x : ByteArray} (z : Int) (k : Ek w W q p h v l r g cs) (hs : r.s.size ≤ 281474976710656) (hk : z ≤ 9223372036854775807) (hx : Hid (textV r.s z = x)) (hr : Hid (r.text z = r')) :
    Calls Try.prog 33 #[.pointer (some ⟨q, 0, none⟩), .int .i64 z] W fun e W' => e = .returned (.string x) ∧ Ek w W' q p h v l r' g cs :=
  (rm_text z k.d.rds hs hk hx hr).mono fun _ _ o => k.ran o
end

set_option maxRecDepth 100000 in
set_option maxHeartbeats 8000000 in
theorem rdec_any (s : ByteArray) (hs : s.size ≤ 281474976710656) (w : World) : Calls Try.prog 13 #[.string s] w (Dec s w) := by
  obtain ⟨r1, r2, r3, r4, r5, r6, r7, r8, r9, k, f, t, tm, ix, pv, cm, ok, n, N⟩ := named s
  have t1 : r1.s.size ≤ 281474976710656 := Nat.le_trans N.s1 hs
  have t2 : r2.s.size ≤ 281474976710656 := Nat.le_trans N.s2 hs
  have t3 : r3.s.size ≤ 281474976710656 := Nat.le_trans N.s3 hs
  have t4 : r4.s.size ≤ 281474976710656 := Nat.le_trans N.s4 hs
  have t5 : r5.s.size ≤ 281474976710656 := Nat.le_trans N.s5 hs
  have t6 : r6.s.size ≤ 281474976710656 := Nat.le_trans N.s6 hs
  have t7 : r7.s.size ≤ 281474976710656 := Nat.le_trans N.s7 hs
  have t8 : r8.s.size ≤ 281474976710656 := Nat.le_trans N.s8 hs
  have t9 : r9.s.size ≤ 281474976710656 := Nat.le_trans N.s9 hs
  have n8 := N.n8
  have hs0 : (q0 s).s.size ≤ 281474976710656 := hs
  obtain ⟨o, ho⟩ : ∃ o, upV r7.s 1 = o := ⟨_, rfl⟩
  have hok : (((o : Nat) : Int) == 1) = ok := by
    have h1 : decide (upV r7.s 1 = 1) = ok := N.xok.out
    rw [ho] at h1
    rw [← h1, Bool.eq_iff_iff]
    simp
    omega
  have HO := Lib.hid ho
  have hres := heap_alloc_new w (.cells zcs.toArray 25)
  have hba : Below w.heap.size w (w.alloc (.cells zcs.toArray 25)) := (Below.refl _ _).alloc (Nat.le_refl _) _
  have hla : w.heap.size < (w.alloc (.cells zcs.toArray 25)).heap.size := by simp
  obtain ⟨w1, hw1⟩ : ∃ w1, w.alloc (.cells zcs.toArray 25) = w1 := ⟨_, rfl⟩
  rw [hw1] at hres hba hla
  have HW1 : Hid (w.alloc (.cells #[.int .i64 0, .int .i64 0, .int .i64 0, .int .u64 0, .int .u64 0, .int .u64 0, .int .u64 0, .bool false, .slice none 0 0, .string ⟨#[]⟩] 25) = w1) := hw1
  have hR : Rm w1 (w1.alloc (.cells #[.string s, .bool false] 63)) w1.heap.size (q0 s) := ⟨heap_alloc_new w1 _, Nat.le_refl _, (Below.refl _ _).alloc (Nat.le_refl _) _⟩
  have hw1s : w1.heap.size = w.heap.size + 1 := by rw [← hw1]; simp
  obtain ⟨w2, hw2⟩ : ∃ w2, w1.alloc (.cells #[.string s, .bool false] 63) = w2 := ⟨_, rfl⟩
  rw [hw2] at hR
  obtain ⟨q, hq⟩ : ∃ q, w1.heap.size = q := ⟨_, rfl⟩
  rw [hq] at hR
  have HW2 := Lib.hid hw2
  have HQ := Lib.hid hq
  have HQ1 : Hid (w.heap.size + 1 = q) := by rw [← hq]; exact hw1s.symm
  have HN := Lib.hid N
  clear hw1 N hw2 hq hw1s ho
  go_enter Try.func13, Try.ntmps13
  go_wp2_with fail
  rw [HW1.out, HW2.out, HQ1.out]
  with_reducible refine (rm_up 9 hR hs0 (by decide) HN.out.xk HN.out.xr1).mono ?_
  rintro e w3 ⟨rfl, hR1, _⟩
  have D : Dk 63 w (w3.alloc (.cells #[.int .i64 (k : Int), .int .i64 0, .int .i64 0, .int .u64 0, .int .u64 0, .int .u64 0, .int .u64 0, .bool false, .slice none 0 0, .string ⟨#[]⟩] 25)) q w3.heap.size ⟨(k : Nat), 0, 0, 0, 0, 0, 0, false, ⟨#[]⟩⟩ (.slice none 0 0) [] r1 := dk_first (h := ⟨(k : Nat), 0, 0, 0, 0, 0, 0, false, ⟨#[]⟩⟩) hres hba hla hR1
  clear hR hR1
  go_wp2_with fail
  with_reducible refine (dkm_up 255 D t1 (by decide) HN.out.xf HN.out.xr2).mono ?_
  rintro e wa1 ⟨rfl, D1⟩
  generalize w3.heap.size = p at *
  have c1 := D1.at_ 1 rfl
  have fz := D1.free
  have hlt := D1.lt
  have D2 := D1.set (h' := ⟨(k : Nat), (f : Nat), 0, 0, 0, 0, 0, false, ⟨#[]⟩⟩) 1 (.int .i64 (f : Int)) rfl
  clear D D1
  go_wp2_with fail
  clear c1 fz hlt
  have D := D2
  clear D2
  with_reducible refine (dkm_up 255 D t2 (by decide) HN.out.xt HN.out.xr3).mono ?_
  rintro e wa2 ⟨rfl, D1⟩
  have c1 := D1.at_ 2 rfl
  have fz := D1.free
  have hlt := D1.lt
  have D2 := D1.set (h' := ⟨(k : Nat), (f : Nat), (t : Nat), 0, 0, 0, 0, false, ⟨#[]⟩⟩) 2 (.int .i64 (t : Int)) rfl
  clear D D1
  go_wp2_with fail
  clear c1 fz hlt
  have D := D2
  clear D2
  with_reducible refine (dkm_num D t3 HN.out.xtm HN.out.xr4).mono ?_
  rintro e wa3 ⟨rfl, D1⟩
  have c1 := D1.at_ 3 rfl
  have fz := D1.free
  have hlt := D1.lt
  have D2 := D1.set (h' := ⟨(k : Nat), (f : Nat), (t : Nat), (tm : Nat), 0, 0, 0, false, ⟨#[]⟩⟩) 3 (.int .u64 (tm : Int)) rfl
  clear D D1
  go_wp2_with fail
  clear c1 fz hlt
  have D := D2
  clear D2
  with_reducible refine (dkm_num D t4 HN.out.xix HN.out.xr5).mono ?_
  rintro e wa4 ⟨rfl, D1⟩
  have c1 := D1.at_ 4 rfl
  have fz := D1.free
  have hlt := D1.lt
  have D2 := D1.set (h' := ⟨(k : Nat), (f : Nat), (t : Nat), (tm : Nat), (ix : Nat), 0, 0, false, ⟨#[]⟩⟩) 4 (.int .u64 (ix : Int)) rfl
  clear D D1
  go_wp2_with fail
  clear c1 fz hlt
  have D := D2
  clear D2
  with_reducible refine (dkm_num D t5 HN.out.xpv HN.out.xr6).mono ?_
  rintro e wa5 ⟨rfl, D1⟩
  have c1 := D1.at_ 5 rfl
  have fz := D1.free
  have hlt := D1.lt
  have D2 := D1.set (h' := ⟨(k : Nat), (f : Nat), (t : Nat), (tm : Nat), (ix : Nat), (pv : Nat), 0, false, ⟨#[]⟩⟩) 5 (.int .u64 (pv : Int)) rfl
  clear D D1
  go_wp2_with fail
  clear c1 fz hlt
  have D := D2
  clear D2
  with_reducible refine (dkm_num D t6 HN.out.xcm HN.out.xr7).mono ?_
  rintro e wa6 ⟨rfl, D1⟩
  have c1 := D1.at_ 6 rfl
  have fz := D1.free
  have hlt := D1.lt
  have D2 := D1.set (h' := ⟨(k : Nat), (f : Nat), (t : Nat), (tm : Nat), (ix : Nat), (pv : Nat), (cm : Nat), false, ⟨#[]⟩⟩) 6 (.int .u64 (cm : Int)) rfl
  clear D D1
  go_wp2_with fail
  clear c1 fz hlt
  have D := D2
  clear D2
  with_reducible refine (dkm_up 1 D t7 (by decide) HO HN.out.xr8).mono ?_
  rintro e wa7 ⟨rfl, D1⟩
  have c1 := D1.at_ 7 rfl
  have fz := D1.free
  have hlt := D1.lt
  have D2 := D1.set (h' := ⟨(k : Nat), (f : Nat), (t : Nat), (tm : Nat), (ix : Nat), (pv : Nat), (cm : Nat), ok, ⟨#[]⟩⟩) 7 (.bool ok) rfl
  clear D D1
  go_wp2_with fail
  clear c1 fz hlt
  have D := D2
  clear D2
  with_reducible refine (dkm_up 8 D t8 (by decide) HN.out.xn HN.out.xr9).mono ?_
  rintro e w11 ⟨rfl, D9⟩
  clear D
  go_wp2
  go_loopw [7] (fun x wr => ∃ (j : Nat) (v : Value), j ≤ n ∧ x = .int .i64 (j : Int) ∧ Dk 63 w wr q p ⟨(k : Nat), (f : Nat), (t : Nat), (tm : Nat), (ix : Nat), (pv : Nat), (cm : Nat), ok, ⟨#[]⟩⟩ v (rEs j r9) (rAt j r9)) (fun x _ => n - (intOf x).toNat)
  case atStart => exact ⟨0, _, by omega, rfl, D9⟩
  case round =>
    obtain ⟨j, v, hj, rfl, D⟩ := hrel
    clear D9
    by_cases hjn : j < n
    · have HJ := Lib.hid hjn
      obtain ⟨A, c, hv, _, _, _⟩ := own_form D.own
      rw [rEs_length] at hv
      subst hv
      have hsz : (rAt j r9).s.size ≤ 281474976710656 := Nat.le_trans (rAt_le _ _) t9
      obtain ⟨rj, hrj⟩ : ∃ r, rAt j r9 = r := ⟨_, rfl⟩
      obtain ⟨ra, hra⟩ : ∃ r, rj.num = r := ⟨_, rfl⟩
      obtain ⟨rb, hrb⟩ : ∃ r, ra.num = r := ⟨_, rfl⟩
      obtain ⟨rc, hrc⟩ : ∃ r, rb.up 2 = r := ⟨_, rfl⟩
      obtain ⟨rd, hrd⟩ : ∃ r, rc.text 65536 = r := ⟨_, rfl⟩
      obtain ⟨m, hm⟩ : ∃ x, gotB rj.s = x := ⟨_, rfl⟩
      obtain ⟨i', hi'⟩ : ∃ x, gotB ra.s = x := ⟨_, rfl⟩
      obtain ⟨kd, hkd⟩ : ∃ x, upV rb.s 2 = x := ⟨_, rfl⟩
      obtain ⟨dt, hdt⟩ : ∃ x, textV rc.s 65536 = x := ⟨_, rfl⟩
      have sa : ra.s.size ≤ 281474976710656 := by rw [← hra, ← hrj]; exact Nat.le_trans (Rd.num_le _) hsz
      have sb : rb.s.size ≤ 281474976710656 := by rw [← hrb]; exact Nat.le_trans (Rd.num_le ra) sa
      have sc : rc.s.size ≤ 281474976710656 := by rw [← hrc]; exact Nat.le_trans (Rd.up_le rb 2) sb
      have HES : Hid (rEs (j + 1) r9 = rEs j r9 ++ [⟨(m : Nat), (i' : Nat), (kd : Nat), dt⟩]) := by
        show rEs j r9 ++ [rEnt (rAt j r9)] = _
        unfold rEnt
        rw [hrj, hra, hrb, hrc, hm, hi', hkd, hdt]
      have HAT : Hid (rAt (j + 1) r9 = rd) := by
        show rEntR (rAt j r9) = _
        unfold rEntR
        rw [hrj, hra, hrb, hrc, hrd]
      rw [hrj] at hsz D
      have HRA := Lib.hid hra
      have HRB := Lib.hid hrb
      have HRC := Lib.hid hrc
      have HRD := Lib.hid hrd
      have HM := Lib.hid hm
      have HI := Lib.hid hi'
      have HK := Lib.hid hkd
      have HD := Lib.hid hdt
      have hroom : (j + 1) * 40 ≤ 140737488355328 := by omega
      clear hrj hra hrb hrc hrd hm hi' hkd hdt
      go_wp2_with fail
      with_reducible refine (dkm_num D hsz HM HRA).mono ?_
      rintro e wA ⟨rfl, DA⟩
      have E0 : Ek w (wA.alloc (.cells #[.int .u64 (m : Int), .int .u64 0, .int .i64 0, .string ⟨#[]⟩] 47)) q p ⟨(k : Nat), (f : Nat), (t : Nat), (tm : Nat), (ix : Nat), (pv : Nat), (cm : Nat), ok, ⟨#[]⟩⟩ (.slice A j c) (rEs j r9) ra wA.heap.size [.int .u64 (m : Int), .int .u64 0, .int .i64 0, .string ⟨#[]⟩] := ek_new DA _
      clear D DA
      go_wp2_with fail
      with_reducible refine (ek_num E0 sa HI HRB).mono ?_
      rintro e wB ⟨rfl, E1⟩
      generalize wA.heap.size = g at *
      have c1 := E1.at_ 1 rfl
      have fz := E1.free
      have hlt := E1.lt
      have E2 := E1.set (cs' := [.int .u64 (m : Int), .int .u64 (i' : Int), .int .i64 0, .string ⟨#[]⟩]) 1 (.int .u64 (i' : Int)) rfl
      clear E0 E1
      go_wp2_with fail
      clear c1 fz hlt
      with_reducible refine (ek_up 2 E2 sb (by decide) HK HRC).mono ?_
      rintro e wC ⟨rfl, E3⟩
      have c1 := E3.at_ 2 rfl
      have fz := E3.free
      have hlt := E3.lt
      have E4 := E3.set (cs' := [.int .u64 (m : Int), .int .u64 (i' : Int), .int .i64 (kd : Int), .string ⟨#[]⟩]) 2 (.int .i64 (kd : Int)) rfl
      clear E2 E3
      go_wp2_with fail
      clear c1 fz hlt
      with_reducible refine (ek_text 65536 E4 sc (by decide) HD HRD).mono ?_
      rintro e wD ⟨rfl, E5⟩
      have c0 := E5.at_ 0 rfl
      have c1 := E5.at_ 1 rfl
      have c2 := E5.at_ 2 rfl
      have c3 := E5.at_ 3 rfl
      have c8 := E5.d.at_ 8 rfl
      have fz := E5.free
      have hlt := E5.lt
      have hltp := E5.d.lt
      have hpg := E5.pg
      have E6 := E5.set (cs' := [.int .u64 (m : Int), .int .u64 (i' : Int), .int .i64 (kd : Int), .string dt]) 3 (.string dt) rfl
      have y0 := E6.at_ 0 rfl
      have y1 := E6.at_ 1 rfl
      have y2 := E6.at_ 2 rfl
      have y3 := E6.at_ 3 rfl
      have y8 := E6.d.at_ 8 rfl
      have hba : ∀ o, Below (wD.setCell ⟨g, 3, none⟩ (.string dt)).heap.size (wD.setCell ⟨g, 3, none⟩ (.string dt)) ((wD.setCell ⟨g, 3, none⟩ (.string dt)).alloc o) := fun o => (Below.refl _ _).alloc (Nat.le_refl _) o
      have HOW : Hid (∀ o, ((wD.setCell ⟨g, 3, none⟩ (.string dt)).alloc o).ownsRow (p + 1) 47 4 (.slice A j c) j (ecells (rEs j r9))) := fun o => by
        have := (E6.d.below (hba o)).own
        rwa [rEs_length] at this
      have HNW : Hid (RE ((wD.setCell ⟨g, 3, none⟩ (.string dt)).alloc (.cells #[.int .u64 (m : Int), .int .u64 (i' : Int), .int .i64 (kd : Int), .string dt] 47)) (wD.heap.size + 1) (some ⟨wD.heap.size, 0, none⟩) 1 [⟨(m : Nat), (i' : Nat), (kd : Nat), dt⟩]) := by
        have := ent_new (wD.setCell ⟨g, 3, none⟩ (.string dt)) ⟨(m : Nat), (i' : Nat), (kd : Nat), dt⟩ 47
        have hsz : (wD.setCell ⟨g, 3, none⟩ (.string dt)).heap.size = wD.heap.size := by simp [World.setCell]
        rw [hsz] at this
        exact this
      have HBS : Hid (∀ o, p + 1 ≤ ((wD.setCell ⟨g, 3, none⟩ (.string dt)).alloc o).heap.size) := fun o => Nat.le_trans E6.d.lt (hba o).size
      have HD6 := Lib.hid E6.d
      clear E4 E5 E6 hba
      go_wp2_with (first
        | (at_builtin
           refine wpList_app _ rfl (.tmp 59) (.tmp 61) rfl (p + 1) rfl (HOW.out _) rfl HNW.out (ecells_one _) hroom (HBS.out _) ?_
           intro A' c' w7 hown7 hg7 hat7
           obtain ⟨hcell7, hfr7, hlt7, hD7⟩ := HD6.out.rowed (e := ⟨(m : Nat), (i' : Nat), (kd : Nat), dt⟩) hown7 (by rw [rEs_length]) rfl hg7
           have HD7 := Lib.hid hD7
           clear hD7 hat7 hg7 hown7))
      go_roundw
      case rel => exact ⟨j + 1, _, HJ.out, by go_num, by rw [HES.out, HAT.out]; exact HD7.out⟩
      case measure => have := HJ.out; simp [intOf]; omega
    · obtain rfl : j = n := by omega
      obtain ⟨rA, hrA⟩ : ∃ x, rAt j r9 = x := ⟨_, rfl⟩
      have hqA : qA s = rA := by unfold qA; rw [HN.out.hcnt, HN.out.hq9, hrA]
      have hes : es s = rEs j r9 := by unfold es; rw [HN.out.hcnt, HN.out.hq9]
      have hein : ∀ e ∈ rEs j r9, EIn e := fun e he => (rEs_in j r9 e he).1
      have hlen := rEs_length j r9
      obtain ⟨l, hl⟩ : ∃ x, rEs j r9 = x := ⟨_, rfl⟩
      rw [hl] at hes hein hlen D
      rw [hrA] at D
      obtain ⟨d, hd'⟩ : ∃ x, textV rA.s 65536 = x := ⟨_, rfl⟩
      obtain ⟨rB, hrB⟩ : ∃ x, rA.text 65536 = x := ⟨_, rfl⟩
      have hqB : qB s = rB := by unfold qB; rw [hqA, hrB]
      have hhd := HN.out.hhd
      rw [hqA, hd'] at hhd
      have hin := hd_in s
      rw [hhd] at hin
      have hA : rA.s.size ≤ 281474976710656 := by rw [← hrA]; exact Nat.le_trans (rAt_le _ _) t9
      have XD := Lib.hid hd'
      have XB := Lib.hid hrB
      have HQB := Lib.hid hqB
      have HES := Lib.hid hes
      have HHD := Lib.hid hhd
      have HEIN := Lib.hid hein
      have HLEN := Lib.hid hlen
      have HIN := Lib.hid hin
      clear hqA hes hein hlen hl hrA hd' hrB hqB hhd hin hjn
      go_wp2_with fail
      with_reducible refine (dkm_text 65536 D hA (by decide) XD XB).mono ?_
      rintro e w12 ⟨rfl, D1⟩
      have D2 := D1.set (h' := ⟨(k : Nat), (f : Nat), (t : Nat), (tm : Nat), (ix : Nat), (pv : Nat), (cm : Nat), ok, d⟩) 9 (.string d) rfl
      obtain ⟨A, c, hv, _, _, hre⟩ := own_form D2.own
      rw [HLEN.out] at hv hre
      subst hv
      have c0 := D1.at_ 0 rfl
      have c1 := D1.at_ 1 rfl
      have c2 := D1.at_ 2 rfl
      have c3 := D1.at_ 3 rfl
      have c4 := D1.at_ 4 rfl
      have c5 := D1.at_ 5 rfl
      have c6 := D1.at_ 6 rfl
      have c7 := D1.at_ 7 rfl
      have c8 := D1.at_ 8 rfl
      have c9 := D1.at_ 9 rfl
      have y0 := D2.at_ 0 rfl
      have y1 := D2.at_ 1 rfl
      have y2 := D2.at_ 2 rfl
      have y3 := D2.at_ 3 rfl
      have y4 := D2.at_ 4 rfl
      have y5 := D2.at_ 5 rfl
      have y6 := D2.at_ 6 rfl
      have y7 := D2.at_ 7 rfl
      have y8 := D2.at_ 8 rfl
      have y9 := D2.at_ 9 rfl
      have fz := D1.free
      have hlt := D1.lt
      have hla : LAt (w12.setCell ⟨p, 9, none⟩ (.string d)) ⟨⟨(k : Nat), (f : Nat), (t : Nat), (tm : Nat), (ix : Nat), (pv : Nat), (cm : Nat), ok, d⟩, A, j, c, l⟩ := ⟨hre, by show j ≤ _; omega, HIN.out, HEIN.out⟩
      obtain ⟨S, z, henc, hcase⟩ : ∃ S z, Calls Try.prog 10 #[ltV ⟨⟨(k : Nat), (f : Nat), (t : Nat), (tm : Nat), (ix : Nat), (pv : Nat), (cm : Nat), ok, d⟩, A, j, c, l⟩] (w12.setCell ⟨p, 9, none⟩ (.string d)) (Enc (w12.setCell ⟨p, 9, none⟩ (.string d)) S z) ∧ ((z = 0 ∧ S = str (lmtB (hd s) (es s)) ∧ May (hd s) (es s)) ∨ (z = 1 ∧ ¬ May (hd s) (es s))) := by
        rw [HHD.out, HES.out]
        by_cases hm : May ⟨(k : Nat), (f : Nat), (t : Nat), (tm : Nat), (ix : Nat), (pv : Nat), (cm : Nat), ok, d⟩ l
        · exact ⟨_, _, renc_yes hla hm, .inl ⟨rfl, rfl, hm⟩⟩
        · exact ⟨_, _, renc_no hla hm, .inr ⟨rfl, hm⟩⟩
      unfold ltV at henc
      simp only at henc
      have HENC := Lib.hid henc
      have HCASE := Lib.hid hcase
      have HD2 := Lib.hid D2
      clear hla henc hcase hre D1 D2 D
      go_wp2_with fail
      with_reducible refine HENC.out.mono ?_
      rintro e w13 ⟨rfl, hb13⟩
      have D4 := HD2.out.below hb13
      clear c0 c1 c2 c3 c4 c5 c6 c7 c8 c9 y0 y1 y2 y3 y4 y5 y6 y7 y8 y9 fz hlt hb13
      have c0 := D4.at_ 0 rfl
      have c1 := D4.at_ 1 rfl
      have c2 := D4.at_ 2 rfl
      have c3 := D4.at_ 3 rfl
      have c4 := D4.at_ 4 rfl
      have c5 := D4.at_ 5 rfl
      have c6 := D4.at_ 6 rfl
      have c7 := D4.at_ 7 rfl
      have c8 := D4.at_ 8 rfl
      have c9 := D4.at_ 9 rfl
      have y0 : w13.cell? ⟨w.heap.size, 0, none⟩ = some (.int .i64 0) := by rw [cell_at D4.res]; rfl
      have y1 : w13.cell? ⟨w.heap.size, 1, none⟩ = some (.int .i64 0) := by rw [cell_at D4.res]; rfl
      have y2 : w13.cell? ⟨w.heap.size, 2, none⟩ = some (.int .i64 0) := by rw [cell_at D4.res]; rfl
      have y3 : w13.cell? ⟨w.heap.size, 3, none⟩ = some (.int .u64 0) := by rw [cell_at D4.res]; rfl
      have y4 : w13.cell? ⟨w.heap.size, 4, none⟩ = some (.int .u64 0) := by rw [cell_at D4.res]; rfl
      have y5 : w13.cell? ⟨w.heap.size, 5, none⟩ = some (.int .u64 0) := by rw [cell_at D4.res]; rfl
      have y6 : w13.cell? ⟨w.heap.size, 6, none⟩ = some (.int .u64 0) := by rw [cell_at D4.res]; rfl
      have y7 : w13.cell? ⟨w.heap.size, 7, none⟩ = some (.bool false) := by rw [cell_at D4.res]; rfl
      have y8 : w13.cell? ⟨w.heap.size, 8, none⟩ = some (.slice none 0 0) := by rw [cell_at D4.res]; rfl
      have y9 : w13.cell? ⟨w.heap.size, 9, none⟩ = some (.string ⟨#[]⟩) := by rw [cell_at D4.res]; rfl
      have fy := fun i => free_at D4.res i
      have hly := lt_at D4.res
      have x0 : w13.cell? ⟨q, 0, none⟩ = some (.string rB.s) := D4.rd.left
      have x1 : w13.cell? ⟨q, 1, none⟩ = some (.bool rB.bad) := D4.rd.flag
      have hlq := lt_at D4.rd
      have hlp := D4.lt
      obtain ⟨sB, bB⟩ := rB
      simp only at x0 x1
      cases bB
      · by_cases hz : sB.size = 0
        · have hsB : sB = ByteArray.empty := by
            have e1 : sB.data.toList.length = 0 := by rw [← Lib.size_eq]; exact hz
            rw [← Go.Proofs.Ytkimeggojcgacaa.PckWalkH.str_back sB, List.eq_nil_of_length_eq_zero e1]
            rfl
          subst hsB
          have he : (ByteArray.empty.toList == []) = true := by rw [Lib.toList_data]; decide
          have hdone : (qB s).done = true := by rw [HQB.out]; rfl
          rcases HCASE.out with ⟨rfl, hS, hm⟩ | ⟨rfl, hm⟩
          · have hSs : S = s := hS.trans (back s hdone).symm
            subst hSs
            have hgood : GoodL S := ⟨hdone, hm⟩
            have HG := Lib.hid hgood
            obtain ⟨W', hW, hc, hbel, A2, c2', hv2, hre2⟩ := D4.ends (.int .i64 (k : Int)) (.int .i64 (f : Int)) (.int .i64 (t : Int)) (.int .u64 (tm : Int)) (.int .u64 (ix : Int)) (.int .u64 (pv : Int)) (.int .u64 (cm : Int)) (.bool ok) (.slice A j c) (.string d)
            have HWW := Lib.hid hW
            have HC := Lib.hid hc
            have HBL := Lib.hid hbel
            rw [HLEN.out] at hv2 hre2
            cases hv2
            have HRE := Lib.hid hre2
            clear hW hc hbel D4 hre2 hdone hm hgood hS
            go_wp2_with fail
            rw [HWW.out]
            refine bodyPost_ret (results_ct (p := 2) (u := 3) (ty := 25) rfl _ _ w.heap.size 25 _ (0, 0) _ rfl HC.out Try.underlying25 rfl (by kernel_rfl)) rfl ?_
            refine ⟨⟨⟨(k : Nat), (f : Nat), (t : Nat), (tm : Nat), (ix : Nat), (pv : Nat), (cm : Nat), ok, d⟩, A, j, c, l⟩, 0, rfl, ⟨HRE.out, by show j ≤ _; omega, HIN.out, HEIN.out⟩, HBL.out, .inl ⟨HG.out, rfl, ?_⟩⟩
            unfold Lt.said
            rw [HHD.out, HES.out]
          · have HM := Lib.hid hm
            clear hm hdone
            obtain ⟨W', hW, hc, hbel, _⟩ := D4.ends (.int .i64 0) (.int .i64 0) (.int .i64 0) (.int .u64 0) (.int .u64 0) (.int .u64 0) (.int .u64 0) (.bool false) (.slice none 0 0) (.string ⟨#[]⟩)
            have HWW := Lib.hid hW
            have HC := Lib.hid hc
            have HBL := Lib.hid hbel
            clear hW hc hbel D4
            go_wp2_with fail
            rw [HWW.out]
            refine bodyPost_ret (results_ct (p := 2) (u := 3) (ty := 25) rfl _ _ w.heap.size 25 _ (0, 0) _ rfl HC.out Try.underlying25 rfl (by kernel_rfl)) rfl ?_
            refine ⟨zeroL, 2, rfl, LAt.zero _, HBL.out, .inr ⟨fun g => HM.out g.2, rfl, rfl⟩⟩
        · have hemp : sB.toList.isEmpty = false := by
            rw [Lib.toList_data, List.isEmpty_eq_false_iff]
            intro e
            have := congrArg List.length e
            rw [← Lib.size_eq] at this
            exact hz this
          have heq : (sB.toList == []) = false := by
            cases hl : sB.toList with
            | nil => rw [hl] at hemp; cases hemp
            | cons a l => rfl
          have HZ := Lib.hid hz
          clear hz
          obtain ⟨W', hW, hc, hbel, _⟩ := D4.ends (.int .i64 0) (.int .i64 0) (.int .i64 0) (.int .u64 0) (.int .u64 0) (.int .u64 0) (.int .u64 0) (.bool false) (.slice none 0 0) (.string ⟨#[]⟩)
          have HWW := Lib.hid hW
          have HC := Lib.hid hc
          have HBL := Lib.hid hbel
          clear hW hc hbel D4
          go_wp2_with fail
          rw [HWW.out]
          refine bodyPost_ret (results_ct (p := 2) (u := 3) (ty := 25) rfl _ _ w.heap.size 25 _ (0, 0) _ rfl HC.out Try.underlying25 rfl (by kernel_rfl)) rfl ?_
          refine ⟨zeroL, 2, rfl, LAt.zero _, HBL.out, .inr ⟨fun g => by have := g.1; rw [HQB.out] at this; unfold Rd.done at this; simp only [Bool.not_false, Bool.and_true, decide_eq_true_eq] at this; exact HZ.out this, rfl, rfl⟩⟩
      · skip
        obtain ⟨W', hW, hc, hbel, _⟩ := D4.ends (.int .i64 0) (.int .i64 0) (.int .i64 0) (.int .u64 0) (.int .u64 0) (.int .u64 0) (.int .u64 0) (.bool false) (.slice none 0 0) (.string ⟨#[]⟩)
        have HWW := Lib.hid hW
        have HC := Lib.hid hc
        have HBL := Lib.hid hbel
        clear hW hc hbel D4
        go_wp2_with fail
        rw [HWW.out]
        refine bodyPost_ret (results_ct (p := 2) (u := 3) (ty := 25) rfl _ _ w.heap.size 25 _ (0, 0) _ rfl HC.out Try.underlying25 rfl (by kernel_rfl)) rfl ?_
        refine ⟨zeroL, 2, rfl, LAt.zero _, HBL.out, .inr ⟨fun g => by have := g.1; rw [HQB.out] at this; unfold Rd.done at this; simp at this, rfl, rfl⟩⟩
end Go.Proofs.Ytkimeggojcgacaa.WalkF
