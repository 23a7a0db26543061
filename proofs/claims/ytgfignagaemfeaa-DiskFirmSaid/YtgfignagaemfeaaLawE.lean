/- The walk of the statement that a disk that crashed has nothing soft. -/
import Derived.Test.YtgfignagaemfeaaLawD
namespace Go.Proofs.Ytgfignagaemfeaa.LawE
open Go.RowKit Go.Proofs.Ytgfignagaemfeaa.Kit Go.Proofs.Ytgfignagaemfeaa.Blocks Go.Proofs.Ytgfignagaemfeaa.Model Go.Proofs.Ytgfignagaemfeaa.Disk Go.Proofs.Ytgfignagaemfeaa.WalkA Go.Proofs.Ytgfignagaemfeaa.WalkC Go.Proofs.Ytgfignagaemfeaa.WalkD Go.Proofs.Ytgfignagaemfeaa.WalkI Go.Proofs.Ytgfignagaemfeaa.WalkJ Go.Proofs.Ytgfignagaemfeaa.Ref Go.Proofs.Ytgfignagaemfeaa.RefB Go.Proofs.Ytgfignagaemfeaa.RefF Go.Proofs.Ytgfignagaemfeaa.Ops Go.Proofs.Ytgfignagaemfeaa.Begun Go.Proofs.Ytgfignagaemfeaa.Both Go.Proofs.Ytgfignagaemfeaa.BothB Go.Proofs.Ytgfignagaemfeaa.Calls Go.Proofs.Ytgfignagaemfeaa.LawC Go.Proofs.Ytgfignagaemfeaa.Pre Go.Proofs.Ytgfignagaemfeaa.LawD

/-- A second crash changes nothing. -/
theorem crash_again (m : M) (keep other : List Int) : (m.crash keep).crash other = m.crash keep := by
  have h1 : (m.crash keep).left other = m.left keep := funext fun i => by simp [M.left, M.crash]
  simp only [M.crash, M.mk.injEq, true_and]
  refine ⟨h1, funext fun i => ?_⟩
  have h2 : M.left { room := m.room, fuel := -1, off := false, firm := m.left keep, soft := fun _ => [], there := fun i => m.there i && (!(m.left keep i).isEmpty || (m.soft i).isEmpty) } other i = m.left keep i := congrFun h1 i
  simp

/-- Two disks at one state, since a world. -/
structure ES (B : Nat) (w : World) (px py : Nat) (mx : M) (W : World) : Prop where
  x : Has B [] W px 16 mx
  y : Has B [] W py 16 mx
  since : Below w.heap.size w W
section
variable {B : Nat} {w W W' : World} {px py : Nat} {mx : M}
theorem ES.next (h : ES B w px py mx W) (k : Below W.heap.size W W') : ES B w px py mx W' := ⟨h.x.below k, h.y.below k, h.since.trans (k.mono h.since.size)⟩
theorem es_files {p : Nat} (hp : p = px ∨ p = py) (h : ES B w px py mx W) {n : Nat} (hn : Hid (mx.files.length = n)) : Calls Try.prog 20 #[.pointer (some ⟨p, 0, none⟩)] W fun e W' => ∃ A c, e = .returned (.slice A n c) ∧ FR A mx.files W' ∧ ES B w px py mx W' ∧ Below W.heap.size W W' := by
  have hd : Has B [] W p 16 mx := hp.elim (fun e => by rw [e]; exact h.x) (fun e => by rw [e]; exact h.y)
  refine (files_has hd).mono ?_
  rintro e W' ⟨v, rfl, hown, hb⟩
  obtain ⟨A, c, rfl, hr⟩ := q_made hown
  rw [hn.out]
  exact ⟨A, c, rfl, hr, h.next hb, hb⟩
theorem es_used {p : Nat} (hp : p = px ∨ p = py) (h : ES B w px py mx W) {u : Int} (hu : Hid ((mx.used : Int) = u)) : Calls Try.prog 16 #[.pointer (some ⟨p, 0, none⟩)] W fun e W' => e = .returned (.int .i64 u) ∧ ES B w px py mx W' ∧ Below W.heap.size W W' := by
  have hd : Has B [] W p 16 mx := hp.elim (fun e => by rw [e]; exact h.x) (fun e => by rw [e]; exact h.y)
  refine (used_has hd).mono ?_
  rintro e W' ⟨rfl, hb⟩
  rw [hu.out]
  exact ⟨rfl, h.next hb, hb⟩
theorem es_ints (h : ES B w px py mx W) {n : Nat} (hn : Hid (mx.files.length = n)) {A1 A2 : Option Addr} (c1 c2 : Nat) (h1 : FR A1 mx.files W) (h2 : FR A2 mx.files W) : Calls Try.prog 19 #[.slice A1 n c1, .slice A2 n c2] W fun e W' => e = .returned (.bool true) ∧ ES B w px py mx W' ∧ Below W.heap.size W W' := by
  have hl : mx.files.length ≤ 16 := filesTo_le mx 16
  rw [← hn.out]
  refine (ints_same A1 A2 c1 c2 mx.files W h1 h2 (by omega)).mono ?_
  rintro e W' ⟨rfl, hb⟩
  exact ⟨rfl, h.next hb, hb⟩
theorem es_read {p : Nat} (hp : p = px ∨ p = py) (i : Nat) (hi : i < 16) (h : ES B w px py mx W) {s : ByteArray} {f : Int} (hs : Hid (str (mx.read (i : Int)).1 = s)) (hf : Hid ((mx.read (i : Int)).2 = f)) :
    Calls Try.prog 13 #[.pointer (some ⟨p, 0, none⟩), .int .i64 (i : Int)] W fun e W' => e = .returned (.tuple #[.string s, .int .i64 f]) ∧ ES B w px py mx W' ∧ Below W.heap.size W W' := by
  have hd : Has B [] W p 16 mx := hp.elim (fun e => by rw [e]; exact h.x) (fun e => by rw [e]; exact h.y)
  refine (read_has (i : Int) hd (by omega) (by omega)).mono ?_
  intro e W' hg
  obtain ⟨rfl, hb⟩ := Got.lit hg hs hf
  exact ⟨rfl, h.next hb, hb⟩
end
/-- The disk behind some calls. -/
def Mid3 (w : World) (d : Value) (wr : World) : Prop := ∃ (p N : Nat) (M0 : M), d = .pointer (some ⟨p, 0, none⟩) ∧ Has w.heap.size [] wr p N M0 ∧ Below w.heap.size w wr

set_option maxRecDepth 100000 in
set_option maxHeartbeats 4000000 in
theorem firm_walk (a : Option Addr) (n cap : Nat) (L : List Cl) (ka : Option Addr) (kn kc : Nat) (keep : List Int) (oa : Option Addr) (on oc : Nat) (other : List Int) (w : World) (h : Holds w a n L) (hn : n ≤ cap) (_hc : cap ≤ 9223372036854775807)
    (hkeep : Reads w w.heap.size 1 ka kn (inums keep)) (hother : Reads w w.heap.size 1 oa on (inums other)) :
    Calls Try.prog 8 #[.slice a n cap, .slice ka kn kc, .slice oa on oc] w fun e w' => e = .returned (.bool true) ∧ Below w.heap.size w w' := by
  go_enter Try.func8, Try.ntmps8
  go_wp2_with fail
  refine (begun_true _).mono ?_
  rintro e w1 ⟨rfl, hb1⟩
  go_wp2_with fail
  refine (new_has (B := w.heap.size) 1048576 (by decide) hb1.size).mono ?_
  rintro e w2 ⟨p0, rfl, hD0, hp0, hb2⟩
  go_wp2_with fail
  refine (rnew_yes 1048576 _ (by decide)).mono ?_
  rintro e w3 ⟨q0, rfl, hq0, hR0, hb3⟩
  have hP0 : Pair w.heap.size [] w3 p0 q0 20 (M.new 1048576) := ⟨(hD0.beside hb3 hq0 hR0.lt).more (by omega), hR0, Nat.le_trans hb1.size (Nat.le_trans hb2.size hq0), by simp⟩
  have hbw : Below w.heap.size w w3 := (hb1.trans (hb2.mono hb1.size)).trans (hb3.mono (Nat.le_trans hb1.size hb2.size))
  clear hD0 hR0 hb1 hb2 hb3 hq0 hp0
  go_upto_block 0 with fail
  go_cut [7, 9, 11, 12, 13] from 34 to 57 (fun d _ _ _ _ wx => Mid3 w d wx)
  case first =>
    go_wp2_with fail
    go_loopw [7, 9, 34] (fun d m i wr => ∃ (k p q : Nat) (M0 : M), k ≤ n ∧ k ≤ 200 ∧ i = .int .i64 (k : Int) ∧ d = .pointer (some ⟨p, 0, none⟩) ∧ m = .pointer (some ⟨q, 0, none⟩) ∧ Pair w.heap.size [] wr p q (k + 20) M0 ∧ Below w.heap.size w wr) (fun _ _ i _ => n - (intOf i).toNat)
    case atStart => exact ⟨0, p0, q0, _, by omega, by omega, rfl, rfl, rfl, hP0, hbw⟩
    case round =>
      obtain ⟨k, p, q, m, hk, hkk, rfl, rfl, rfl, hP, hbel⟩ := hrel
      by_cases hkn : k < n
      · obtain ⟨c, b, o, hck, rfl, hblt, ⟨c0, c1, c2, c3, c4⟩, hkn2⟩ := h.at_ hbel k hkn
        have hsz := hbel.size
        have hbr : b < wr.heap.size := by omega
        have hss := hkn2.s1
        have hbal : Below wr.heap.size wr (wr.alloc (.cells c.cells 33)) := (Below.refl _ _).alloc (Nat.le_refl _) _
        have hB := hbel.trans (hbal.mono hsz)
        have hPd : Has w.heap.size [] (wr.alloc (.cells c.cells 33)) p (k + 20) m := (Pair.below hP hbal).d.fewer (by simp)
        by_cases h200 : k = 200
        · subst h200
          go_wp2
          go_meet
          case rel => exact ⟨_, _, _, rfl, hPd, hB⟩
        · have hk2 : ((k : Int) == 200) = false := by simp; omega
          by_cases hbig : 1000 < c.s.size
          · have hbI : (1000 : Int) < (c.s.size : Int) := by omega
            go_wp2
            go_meet
            case rel => exact ⟨_, _, _, rfl, hPd, hB⟩
          · have hP4 : Pair w.heap.size [] (wr.alloc (.cells c.cells 33)) p q (k + 20) m := Pair.below hP hbal
            have hli := hkn2.lies hB (by omega)
            obtain ⟨m', hm'⟩ : ∃ m', (M.call m c).2 = m' := ⟨_, rfl⟩
            have hboth := both_any hP4 hli (show k + 20 < 1000000 by omega) (by omega)
            rw [hm'] at hboth
            have HBO := Lib.hid hboth
            have hBs := hB.size
            clear hm' hboth hP hPd
            go_wp2_with fail
            refine HBO.out.mono ?_
            rintro e w5 ⟨p', q', rfl, hP5, k5⟩
            have hb5 := hB.trans (k5.below hBs)
            rw [show k + 20 + 1 = k + 1 + 20 by omega] at hP5
            go_wp2
            go_roundw
            case rel => exact ⟨k + 1, p', q', m', by omega, by omega, by go_num, rfl, rfl, hP5, hb5⟩
            case measure => simp [intOf]; omega
      · obtain rfl : k = n := by omega
        go_wp2
        go_meet
        case rel => exact ⟨_, _, _, rfl, hP.d.fewer (by simp), hbel⟩
  case rest =>
    obtain ⟨p, N, m, rfl, hd, hbel⟩ := hcut
    have hkw : Reads wc wc.heap.size 1 ka kn (inums keep) := (hkeep.below hbel).more hbel.size
    go_wp2_with fail
    refine (crash_has ka kn kc keep hd hkw).mono ?_
    rintro e w5 ⟨px, rfl, hx, _, _, hb5⟩
    have hbel5 := hbel.trans (hb5.mono hbel.size)
    have hot : Reads w5 w5.heap.size 1 oa on (inums other) := (hother.below hbel5).more hbel5.size
    go_wp2_with fail
    refine (crash_has oa on oc other hx hot).mono ?_
    rintro e w6 ⟨py, rfl, hy, hx6, _, hb6⟩
    rw [crash_again] at hy
    obtain ⟨mx, hmx⟩ : ∃ mx, m.crash keep = mx := ⟨_, rfl⟩
    have hon : mx.off = false := by rw [← hmx]; rfl
    rw [hmx] at hy hx6
    have hE : ES w.heap.size w px py mx w6 := ⟨hx6, hy, hbel5.trans (hb6.mono hbel5.size)⟩
    obtain ⟨fl, hfl⟩ : ∃ fl, mx.files.length = fl := ⟨_, rfl⟩
    have hfl16 : fl ≤ 16 := by rw [← hfl]; exact filesTo_le mx 16
    have HFL := Lib.hid hfl
    obtain ⟨u, hu⟩ : ∃ u : Int, (mx.used : Int) = u := ⟨_, rfl⟩
    have HU := Lib.hid hu
    have HON := Lib.hid hon
    clear hx hd hb5 hb6 hx6 hy hkw hot hmx hfl hon hbel hbel5 hu
    go_wp2_with fail
    refine (es_files (.inl rfl) hE HFL).mono ?_
    rintro e w7 ⟨A1, k1, rfl, hr1, hE7, hb7⟩
    go_wp2_with fail
    refine (es_files (.inr rfl) hE7 HFL).mono ?_
    rintro e w8 ⟨A2, k2, rfl, hr2, hE8, hb8⟩
    go_wp2_with fail
    refine (es_ints hE8 HFL k1 k2 (hr1.below hb8) hr2).mono ?_
    rintro e w9 ⟨rfl, hE9, hb9⟩
    go_wp2_with fail
    refine (es_used (.inl rfl) hE9 HU).mono ?_
    rintro e w10 ⟨rfl, hE10, hb10⟩
    go_wp2_with fail
    refine (es_used (.inr rfl) hE10 HU).mono ?_
    rintro e w11 ⟨rfl, hE11, hb11⟩
    go_wp2_with fail
    refine (es_files (.inl rfl) hE11 HFL).mono ?_
    rintro e w12 ⟨A3, k3, rfl, hr3, hE12, hb12⟩
    clear hr1 hr2 hE hE7 hE8 hE9 hE10 hE11 hb7 hb8 hb9 hb10 hb11 hb12
    go_wp2
    go_loopw [80] (fun i wr => ∃ k : Nat, k ≤ fl ∧ i = .int .i64 (k : Int) ∧ ES w.heap.size w px py mx wr ∧ FR A3 mx.files wr) (fun i _ => fl - (intOf i).toNat)
    case atStart => exact ⟨0, by omega, rfl, hE12, hr3⟩
    case round =>
      obtain ⟨k, hk, rfl, hE, hr⟩ := hrel
      by_cases hlt : k < fl
      · have hr' : Reads wr wr.heap.size 1 A3 fl (nums mx.files) := by rw [← HFL.out]; exact hr
        obtain ⟨b, o, j, rfl, hbl, hj, hcell⟩ := Reads.num hr' hlt
        obtain ⟨hj16, hjt⟩ := mem_files hj
        have r1 := read_on HON.out hj16 hjt
        obtain ⟨T, hT⟩ : ∃ T, str (mx.all j) = T := ⟨_, rfl⟩
        have HS : Hid (str (mx.read (j : Int)).1 = T) := Lib.hid (by rw [r1]; exact hT)
        have HE : Hid ((mx.read (j : Int)).2 = 0) := Lib.hid (by rw [r1])
        have hTT : (T.toList != T.toList) = false := by simp
        clear r1 hT hj hr'
        go_wp2_with fail
        refine (es_read (.inl rfl) j hj16 hE HS HE).mono ?_
        rintro e wA ⟨rfl, hEA, hbA⟩
        go_wp2_with fail
        refine (es_read (.inr rfl) j hj16 hEA HS HE).mono ?_
        rintro e wB ⟨rfl, hEB, hbB⟩
        have hrB := FR.below (FR.below hr hbA) hbB
        go_wp2
        go_roundw
        case rel => exact ⟨k + 1, by omega, by go_num, hEB, hrB⟩
        case measure => simp [intOf]; omega
      · obtain rfl : k = fl := by omega
        go_wp2
        go_ret
        exact ⟨rfl, hE.since⟩
end Go.Proofs.Ytgfignagaemfeaa.LawE
