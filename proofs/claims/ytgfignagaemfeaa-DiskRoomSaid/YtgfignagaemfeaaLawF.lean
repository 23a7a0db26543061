/- The walk of the statement that a disk takes as many bytes as it has room for, and not one more. -/
import Derived.Test.YtgfignagaemfeaaBegun
import Derived.Test.YtgfignagaemfeaaShelfR
namespace Go.Proofs.Ytgfignagaemfeaa.LawF
open Go.RowKit Go.Proofs.Ytgfignagaemfeaa.Kit Go.Proofs.Ytgfignagaemfeaa.Blocks Go.Proofs.Ytgfignagaemfeaa.Model Go.Proofs.Ytgfignagaemfeaa.Disk Go.Proofs.Ytgfignagaemfeaa.WalkC Go.Proofs.Ytgfignagaemfeaa.WalkD Go.Proofs.Ytgfignagaemfeaa.WalkJ Go.Proofs.Ytgfignagaemfeaa.Ops Go.Proofs.Ytgfignagaemfeaa.Begun

/-- A disk of room r, on, with fuel without end; so many bytes in all, in file 3, in file 4; is file 4 there? -/
structure Rm (r u a b : Nat) (t : Bool) (m : M) : Prop where
  room : m.room = r
  fuel : m.fuel = -1
  off : m.off = false
  used : m.used = u
  l3 : m.len 3 = a
  l4 : m.len 4 = b
  t4 : m.there 4 = t
theorem rm_new (r : Nat) : Rm r 0 0 0 false (M.new r) := ⟨rfl, rfl, rfl, rfl, rfl, rfl, rfl⟩
section
variable {r u a b : Nat} {t : Bool} {m : M} (h : Rm r u a b t m)
include h
theorem rm_burnt : m.burnt = m := by
  obtain ⟨_, hf, _⟩ := h
  simp only [M.burnt]
  rw [hf, if_neg (by decide), ← hf]
theorem app_full (n : Int) (hn : 0 ≤ n ∧ n < 16) (s : List UInt8) (hs : r < u + s.length) : (m.append n s).1 = 11 ∧ (m.append n s).2 = m := by
  unfold M.append
  rw [if_neg (by simpa using hn), if_neg (by rw [h.off]; decide), if_pos (by rw [h.room, h.used]; exact hs)]
  exact ⟨rfl, rfl⟩
theorem app3 (s : List UInt8) (hs : u + s.length ≤ r) : (m.append 3 s).1 = 0 ∧ Rm r (u + s.length) (a + s.length) b t (m.append 3 s).2 := by
  unfold M.append
  rw [if_neg (by decide), if_neg (by rw [h.off]; decide), if_neg (by rw [h.room, h.used]; omega), if_neg (by rw [h.fuel]; decide), rm_burnt h]
  have hu := used_set m (i := 3) (by decide) (m.firm 3) (m.soft 3 ++ s) true
  have hl : m.len 3 = (m.firm 3).length + (m.soft 3).length := rfl
  have e3 := h.l3
  have eu := h.used
  rw [List.length_append] at hu
  refine ⟨rfl, h.room, h.fuel, h.off, ?_, ?_, ?_, ?_⟩
  · show (m.set 3 (m.firm 3) (m.soft 3 ++ s) true).used = u + s.length
    omega
  · show (m.set 3 (m.firm 3) (m.soft 3 ++ s) true).len 3 = a + s.length
    rw [set_len, if_pos rfl, List.length_append]
    omega
  · show (m.set 3 (m.firm 3) (m.soft 3 ++ s) true).len 4 = b
    rw [set_len, if_neg (by decide)]
    exact h.l4
  · exact h.t4
theorem app4 (s : List UInt8) (hs : u + s.length ≤ r) : (m.append 4 s).1 = 0 ∧ Rm r (u + s.length) a (b + s.length) true (m.append 4 s).2 := by
  unfold M.append
  rw [if_neg (by decide), if_neg (by rw [h.off]; decide), if_neg (by rw [h.room, h.used]; omega), if_neg (by rw [h.fuel]; decide), rm_burnt h]
  have hu := used_set m (i := 4) (by decide) (m.firm 4) (m.soft 4 ++ s) true
  have hl : m.len 4 = (m.firm 4).length + (m.soft 4).length := rfl
  have e4 := h.l4
  have eu := h.used
  rw [List.length_append] at hu
  refine ⟨rfl, h.room, h.fuel, h.off, ?_, ?_, ?_, rfl⟩
  · show (m.set 4 (m.firm 4) (m.soft 4 ++ s) true).used = u + s.length
    omega
  · show (m.set 4 (m.firm 4) (m.soft 4 ++ s) true).len 3 = a
    rw [set_len, if_neg (by decide)]
    exact h.l3
  · show (m.set 4 (m.firm 4) (m.soft 4 ++ s) true).len 4 = b + s.length
    rw [set_len, if_pos rfl, List.length_append]
    omega
theorem rep_full (s : List UInt8) (hs : r + a < u + s.length) : (m.replace 3 s).1 = 11 ∧ (m.replace 3 s).2 = m := by
  unfold M.replace
  have e3 := h.l3
  rw [if_neg (by decide), if_neg (by rw [h.off]; decide), if_pos (by rw [h.room, h.used]; show r + m.len 3 < _; omega)]
  exact ⟨rfl, rfl⟩
theorem rep3 (s : List UInt8) (u' : Nat) (hs : u + s.length ≤ r + a) (hu' : u' + a = u + s.length) : (m.replace 3 s).1 = 0 ∧ Rm r u' s.length b t (m.replace 3 s).2 := by
  unfold M.replace
  have e3 := h.l3
  rw [if_neg (by decide), if_neg (by rw [h.off]; decide), if_neg (by rw [h.room, h.used]; show ¬ r + m.len 3 < _; omega), if_neg (by rw [h.fuel]; decide), rm_burnt h]
  have hu := used_set m (i := 3) (by decide) s [] true
  have eu := h.used
  simp only [List.length_nil] at hu
  refine ⟨rfl, h.room, h.fuel, h.off, ?_, ?_, ?_, ?_⟩
  · show (m.set 3 _ _ _).used = _
    omega
  · show (m.set 3 _ _ _).len 3 = _
    rw [set_len, if_pos rfl]
    rfl
  · show (m.set 3 _ _ _).len 4 = _
    rw [set_len, if_neg (by decide)]
    exact h.l4
  · exact h.t4
theorem rem4 (u' : Nat) (ht : t = true) (hu' : u' + b = u) : (m.remove 4).1 = 0 ∧ Rm r u' a 0 false (m.remove 4).2 := by
  unfold M.remove
  have hh : m.has 4 = true := by
    have := h.t4
    rw [ht] at this
    simp [M.has, this]
  rw [if_neg (by rw [h.off]; decide), if_neg (by rw [hh]; decide), if_neg (by rw [h.fuel]; decide), rm_burnt h]
  have hu := used_set m (i := 4) (by decide) [] [] false
  have eu := h.used
  have e4 := h.l4
  simp only [List.length_nil] at hu
  refine ⟨rfl, h.room, h.fuel, h.off, ?_, ?_, ?_, rfl⟩
  · show (m.set 4 _ _ _).used = _
    omega
  · show (m.set 4 _ _ _).len 3 = _
    rw [set_len, if_neg (by decide)]
    exact h.l3
  · show (m.set 4 _ _ _).len 4 = _
    rw [set_len, if_pos rfl]
    rfl
end
theorem rep_length (x : UInt8) : ∀ c : Nat, (Lib.repeatL [x] c).length = c := fun c => by
  have := Lib.repeatL_length [x] c
  simpa using this
/-- Copies of one byte. -/
def Copies (w : World) (c : Nat) (e : Ending) (w' : World) : Prop := ∃ S : ByteArray, e = .returned (.string S) ∧ S.data.toList.length = c ∧ Below w.heap.size w w'
theorem copies (x : UInt8) (z : Int) (c : Nat) (w : World) (hz : z = (c : Int)) (hc : c ≤ 100000) : Calls Try.prog 26 #[.string ⟨#[x]⟩, .int .i64 z] w (Copies w c) := by
  subst hz
  refine (ShelfR.repeat_any ⟨#[x]⟩ c w (by omega) (by show 1 * c ≤ _; omega)).mono ?_
  rintro e w' ⟨rfl, hb⟩
  exact ⟨_, rfl, by simpa using rep_length x c, hb⟩

section
variable {B : Nat} {w W : World} {p N : Nat} {m m' : M}
theorem d_append (n : Int) (S : ByteArray) (h : Has B [] W p N m) (hN : N < 1000000) {f : Int} (hf : (m.append n S.data.toList).1 = f) (hm : (m.append n S.data.toList).2 = m') :
    Calls Try.prog 25 #[.pointer (some ⟨p, 0, none⟩), .int .i64 n, .string S] W fun e W' => e = .returned (.int .i64 f) ∧ Has B [] W' p (N + 1) m' ∧ Keeps B [] W W' := by
  refine (append_has n S h hN).mono ?_
  intro e W' hd
  exact Done.lit hd (Lib.hid hf) (Lib.hid hm)
theorem d_replace (n : Int) (S : ByteArray) (h : Has B [] W p N m) (hN : N < 1000000) {f : Int} (hf : (m.replace n S.data.toList).1 = f) (hm : (m.replace n S.data.toList).2 = m') :
    Calls Try.prog 27 #[.pointer (some ⟨p, 0, none⟩), .int .i64 n, .string S] W fun e W' => e = .returned (.int .i64 f) ∧ Has B [] W' p (N + 1) m' ∧ Keeps B [] W W' := by
  refine (replace_has n S h hN).mono ?_
  intro e W' hd
  exact Done.lit hd (Lib.hid hf) (Lib.hid hm)
theorem d_remove (n : Int) (h : Has B [] W p N m) (h0 : -9223372036854775808 ≤ n) (h1 : n ≤ 9223372036854775807) {f : Int} (hf : (m.remove n).1 = f) (hm : (m.remove n).2 = m') :
    Calls Try.prog 28 #[.pointer (some ⟨p, 0, none⟩), .int .i64 n] W fun e W' => e = .returned (.int .i64 f) ∧ Has B [] W' p (N + 1) m' ∧ Keeps B [] W W' := by
  refine (remove_has n h h0 h1).mono ?_
  intro e W' hd
  exact Done.lit hd (Lib.hid hf) (Lib.hid hm)
theorem d_used (h : Has B [] W p N m) {u : Int} (hu : (m.used : Int) = u) : Calls Try.prog 16 #[.pointer (some ⟨p, 0, none⟩)] W fun e W' => e = .returned (.int .i64 u) ∧ Has B [] W' p N m ∧ Keeps B [] W W' := by
  refine (used_has h).mono ?_
  rintro e W' ⟨rfl, hb⟩
  rw [hu]
  exact ⟨rfl, h.below hb, Keeps.of_below hb⟩
end

set_option maxRecDepth 100000 in
set_option maxHeartbeats 1000000 in
theorem room_walk (a b : Int) (w : World) (_ha : (Lit.int .i64 a).wf = true) (_hb : (Lit.int .i64 b).wf = true) : Calls Try.prog 6 #[.int .i64 a, .int .i64 b] w fun e w' => e = .returned (.bool true) ∧ Below w.heap.size w w' := by
  have t1 := Int.tmod_lt_of_pos a (b := 500) (by decide)
  have t2 := Int.lt_tmod_of_pos a (b := 500) (by decide)
  have t3 := Int.tmod_lt_of_pos b (b := 600) (by decide)
  have t4 := Int.lt_tmod_of_pos b (b := 600) (by decide)
  obtain ⟨r, hN⟩ : ∃ r : Nat, (a.tmod 500 + 500) % 500 = (r : Int) := ⟨((a.tmod 500 + 500) % 500).toNat, by omega⟩
  obtain ⟨n, hZ⟩ : ∃ n : Nat, (b.tmod 600 + 600) % 600 = (n : Int) := ⟨((b.tmod 600 + 600) % 600).toNat, by omega⟩
  have hr : r < 500 := by omega
  have hn : n < 600 := by omega
  go_enter Try.func6, Try.ntmps6
  go_wp2_with fail
  refine (begun_true _).mono ?_
  rintro e w1 ⟨rfl, hb1⟩
  go_wp2_with fail
  refine (new_has (B := w.heap.size) r (by omega) hb1.size).mono ?_
  rintro e w2 ⟨p, rfl, h2, _, hb2⟩
  have hbw := hb1.trans (hb2.mono hb1.size)
  clear t1 t2 t3 t4 hb1 hb2
  have R2 := rm_new r
  have hfl : (M.new r).files.length = 0 := by simp [M.files, M.new]
  obtain ⟨m2, q2⟩ : ∃ m2, M.new r = m2 := ⟨_, rfl⟩
  rw [q2] at h2 R2 hfl
  clear q2
  go_wp2_with fail
  clear hN hZ
  refine (copies 97 (n : Int) n _ rfl (by omega)).mono ?_
  rintro e w3 ⟨S3, rfl, l3, hb3⟩
  have h3 := h2.below hb3
  have k3 : Keeps w.heap.size [] w2 w3 := Keeps.of_below hb3
  clear hb3
  by_cases hnr : r < n
  · have hx := app_full R2 3 (by decide) S3.data.toList (by omega)
    have hu2 : (m2.used : Int) = 0 := by rw [R2.used]; rfl
    have HX := Lib.hid hx
    have HU := Lib.hid hu2
    have HFL := Lib.hid hfl
    clear hx hu2 hfl l3
    go_wp2_with fail
    refine (d_append 3 S3 h3 (by omega) HX.out.1 HX.out.2).mono ?_
    rintro e w4 ⟨rfl, h4, k4⟩
    go_wp2_with fail
    refine (d_used h4 HU.out).mono ?_
    rintro e w5 ⟨rfl, h5, k5⟩
    go_wp2_with fail
    refine (files_has h5).mono ?_
    rintro e w6 ⟨v, rfl, hown, hb6⟩
    rw [HFL.out] at hown
    obtain ⟨A1, c1, rfl, _, _, _⟩ := own_form hown
    clear hown
    go_wp2
    go_ret
    exact ⟨rfl, hbw.trans ((((k3.trans k4).trans k5).trans (Keeps.of_below hb6)).below h2.low)⟩
  · have A3 := app3 R2 S3.data.toList (by omega)
    rw [l3, Nat.zero_add] at A3
    obtain ⟨m4, q4⟩ : ∃ m4, (m2.append 3 S3.data.toList).2 = m4 := ⟨_, rfl⟩
    rw [q4] at A3
    obtain ⟨a3, R4⟩ := A3
    have X := Lib.hid (And.intro a3 q4)
    have H4 := Lib.hid R4
    have hnr' : ¬ (r : Int) < (n : Int) := by omega
    have w1 : IntKind.i64.wrap ((r : Int) - (n : Int)) = (r : Int) - (n : Int) := IntWalk.i64_in _ (by omega)
    clear a3 q4 R4 l3 hfl R2
    go_wp2_with fail
    refine (d_append 3 S3 h3 (by omega) X.out.1 X.out.2).mono ?_
    rintro e w4 ⟨rfl, h4, k4⟩
    go_wp2_with fail
    refine (copies 98 _ (r - n + 1) _ (by omega) (by omega)).mono ?_
    rintro e w5 ⟨S5, rfl, l5, hb5⟩
    have h5 := h4.below hb5
    have X5 := Lib.hid (app_full H4.out 4 (by decide) S5.data.toList (by omega))
    clear l5
    go_wp2_with fail
    refine (d_append 4 S5 h5 (by omega) X5.out.1 X5.out.2).mono ?_
    rintro e w6 ⟨rfl, h6, k6⟩
    go_wp2_with fail
    refine (copies 98 _ (r - n) _ (by omega) (by omega)).mono ?_
    rintro e w7 ⟨S7, rfl, l7, hb7⟩
    have h7 := h6.below hb7
    have A7 := app4 H4.out S7.data.toList (by omega)
    rw [l7, Nat.zero_add, show n + (r - n) = r by omega] at A7
    obtain ⟨m8, q8⟩ : ∃ m8, (m4.append 4 S7.data.toList).2 = m8 := ⟨_, rfl⟩
    rw [q8] at A7
    have X7 := Lib.hid (And.intro A7.1 q8)
    have H8 := Lib.hid A7.2
    clear A7 q8 l7
    go_wp2_with fail
    refine (d_append 4 S7 h7 (by omega) X7.out.1 X7.out.2).mono ?_
    rintro e w8 ⟨rfl, h8, k8⟩
    go_wp2_with fail
    refine (copies 99 _ (n + 1) _ (by omega) (by omega)).mono ?_
    rintro e w9 ⟨S9, rfl, l9, hb9⟩
    have h9 := h8.below hb9
    have X9 := Lib.hid (rep_full H8.out S9.data.toList (by omega))
    clear l9
    go_wp2_with fail
    refine (d_replace 3 S9 h9 (by omega) X9.out.1 X9.out.2).mono ?_
    rintro e w10 ⟨rfl, h10, k10⟩
    go_wp2_with fail
    refine (copies 99 _ n _ rfl (by omega)).mono ?_
    rintro e w11 ⟨S11, rfl, l11, hb11⟩
    have h11 := h10.below hb11
    have A11 := rep3 H8.out S11.data.toList r (by omega) (by omega)
    rw [l11] at A11
    obtain ⟨m12, q12⟩ : ∃ m12, (m8.replace 3 S11.data.toList).2 = m12 := ⟨_, rfl⟩
    rw [q12] at A11
    have X11 := Lib.hid (And.intro A11.1 q12)
    have H12 := Lib.hid A11.2
    have U12 : Hid ((m12.used : Int) = (r : Int)) := Lib.hid (by rw [H12.out.used])
    clear A11 q12 l11
    go_wp2_with fail
    refine (d_replace 3 S11 h11 (by omega) X11.out.1 X11.out.2).mono ?_
    rintro e w12 ⟨rfl, h12, k12⟩
    go_wp2_with fail
    refine (d_used h12 U12.out).mono ?_
    rintro e w13 ⟨rfl, h13, k13⟩
    have A14 := rem4 H12.out n rfl (by omega)
    obtain ⟨m14, q14⟩ : ∃ m14, (m12.remove 4).2 = m14 := ⟨_, rfl⟩
    rw [q14] at A14
    have X14 := Lib.hid (And.intro A14.1 q14)
    have H14 := Lib.hid A14.2
    have U14 : Hid ((m14.used : Int) = (n : Int)) := Lib.hid (by rw [H14.out.used])
    clear A14 q14
    go_wp2_with fail
    refine (d_remove 4 h13 (by decide) (by decide) X14.out.1 X14.out.2).mono ?_
    rintro e w14 ⟨rfl, h14, k14⟩
    go_wp2_with fail
    refine (d_used h14 U14.out).mono ?_
    rintro e w15 ⟨rfl, h15, k15⟩
    go_wp2_with fail
    refine (copies 100 _ r _ rfl (by omega)).mono ?_
    rintro e w16 ⟨S16, rfl, l16, hb16⟩
    have h16 := h15.below hb16
    have A16 := rep3 H14.out S16.data.toList r (by omega) (by omega)
    have X16 := Lib.hid A16.1
    clear A16 l16
    go_wp2_with fail
    refine (d_replace 3 S16 h16 (by omega) X16.out rfl).mono ?_
    rintro e w17 ⟨rfl, h17, k17⟩
    go_wp2
    go_ret
    have K := (((((((((((((k3.trans k4).trans (Keeps.of_below hb5)).trans k6).trans (Keeps.of_below hb7)).trans k8).trans (Keeps.of_below hb9)).trans k10).trans (Keeps.of_below hb11)).trans k12).trans k13).trans k14).trans k15).trans (Keeps.of_below hb16)).trans k17
    exact ⟨rfl, hbw.trans (K.below h2.low)⟩
end Go.Proofs.Ytgfignagaemfeaa.LawF
