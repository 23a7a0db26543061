/- The walk of the statement that behind a crash each file is the beginning of what it was. -/
import Derived.Test.YtgfignagaemfeaaLawC
import Derived.Test.YtgfignagaemfeaaPre
import Derived.Test.YtgfignagaemfeaaLawB
import Derived.Deep.CutBlock
import Derived.Deep.DeepCutAuto
import Derived.Deep.LoopGhost
namespace Go.Proofs.Ytgfignagaemfeaa.LawD
open Go.RowKit Go.Proofs.Ytgfignagaemfeaa.Kit Go.Proofs.Ytgfignagaemfeaa.Blocks Go.Proofs.Ytgfignagaemfeaa.Model Go.Proofs.Ytgfignagaemfeaa.Disk Go.Proofs.Ytgfignagaemfeaa.WalkA Go.Proofs.Ytgfignagaemfeaa.WalkC Go.Proofs.Ytgfignagaemfeaa.WalkD Go.Proofs.Ytgfignagaemfeaa.WalkI Go.Proofs.Ytgfignagaemfeaa.WalkJ Go.Proofs.Ytgfignagaemfeaa.Ref Go.Proofs.Ytgfignagaemfeaa.RefB Go.Proofs.Ytgfignagaemfeaa.RefF Go.Proofs.Ytgfignagaemfeaa.Ops Go.Proofs.Ytgfignagaemfeaa.Begun Go.Proofs.Ytgfignagaemfeaa.Both Go.Proofs.Ytgfignagaemfeaa.BothB Go.Proofs.Ytgfignagaemfeaa.Calls Go.Proofs.Ytgfignagaemfeaa.LawC Go.Proofs.Ytgfignagaemfeaa.Pre

/-- The two disks behind some calls. -/
def Mid2 (w : World) (d m : Value) (wr : World) : Prop := ∃ (p q N : Nat) (M0 : M), d = .pointer (some ⟨p, 0, none⟩) ∧ m = .pointer (some ⟨q, 0, none⟩) ∧ Pair w.heap.size [] wr p q N M0 ∧ Live M0 ∧ Below w.heap.size w wr

/-- The disk, what is left of it, and the document's, since a world. -/
structure DS (B : Nat) (w : World) (p q px N : Nat) (m mx : M) (W : World) : Prop where
  d : Has B [q] W p N m
  x : Has B [q] W px 16 mx
  r : RefAt W q m
  since : Below w.heap.size w W
section
variable {B : Nat} {w W W' : World} {p q px N : Nat} {m mx : M}
theorem DS.next (h : DS B w p q px N m mx W) (k : Below W.heap.size W W') : DS B w p q px N m mx W' := ⟨h.d.below k, h.x.below k, h.r.below k, h.since.trans (k.mono h.since.size)⟩
theorem ds_read (i : Nat) (hi : i < 16) (h : DS B w p q px N m mx W) {s : ByteArray} {f : Int} (hs : Hid (str (m.read (i : Int)).1 = s)) (hf : Hid ((m.read (i : Int)).2 = f)) :
    Calls Try.prog 13 #[.pointer (some ⟨p, 0, none⟩), .int .i64 (i : Int)] W fun e W' => e = .returned (.tuple #[.string s, .int .i64 f]) ∧ DS B w p q px N m mx W' := by
  refine (read_has (i : Int) h.d (by omega) (by omega)).mono ?_
  intro e W' hg
  obtain ⟨rfl, hb⟩ := Got.lit hg hs hf
  exact ⟨rfl, h.next hb⟩
theorem ds_readx (i : Nat) (hi : i < 16) (h : DS B w p q px N m mx W) {s : ByteArray} {f : Int} (hs : Hid (str (mx.read (i : Int)).1 = s)) (hf : Hid ((mx.read (i : Int)).2 = f)) :
    Calls Try.prog 13 #[.pointer (some ⟨px, 0, none⟩), .int .i64 (i : Int)] W fun e W' => e = .returned (.tuple #[.string s, .int .i64 f]) ∧ DS B w p q px N m mx W' := by
  refine (read_has (i : Int) h.x (by omega) (by omega)).mono ?_
  intro e W' hg
  obtain ⟨rfl, hb⟩ := Got.lit hg hs hf
  exact ⟨rfl, h.next hb⟩
end
theorem read_on {m : M} (ho : m.off = false) {i : Nat} (hi : i < 16) (ht : m.there i = true) : m.read (i : Int) = (m.all i, 0) := by
  unfold M.read
  rw [if_neg (by rw [ho]; decide), has_nat m hi, ht, if_neg (by decide), Int.toNat_natCast]
theorem read_off {m : M} (ho : m.off = false) {i : Nat} (hi : i < 16) (ht : m.there i = false) : m.read (i : Int) = ([], 12) := by
  unfold M.read
  rw [if_neg (by rw [ho]; decide), has_nat m hi, ht, if_pos rfl]
theorem crash_all (m : M) (keep : List Int) (i : Nat) : (m.crash keep).all i = m.left keep i := by simp [M.all, M.crash]

set_option maxRecDepth 100000 in
set_option maxHeartbeats 4000000 in
theorem keeps_walk (a : Option Addr) (n cap : Nat) (L : List Cl) (ka : Option Addr) (kn kc : Nat) (keep : List Int) (w : World) (h : Holds w a n L) (hn : n ≤ cap) (_hc : cap ≤ 9223372036854775807) (hkeep : Reads w w.heap.size 1 ka kn (inums keep)) :
    Calls Try.prog 4 #[.slice a n cap, .slice ka kn kc] w fun e w' => e = .returned (.bool true) ∧ Below w.heap.size w w' := by
  go_enter Try.func4, Try.ntmps4
  go_wp2_with fail
  refine (begun_true _).mono ?_
  rintro e w1 ⟨rfl, hb1⟩
  go_wp2_with fail
  refine (new_has (B := w.heap.size) 1048576 (by decide) hb1.size).mono ?_
  rintro e w2 ⟨p0, rfl, hD0, hp0, hb2⟩
  go_wp2_with fail
  refine (rnew_yes 1048576 _ (by decide)).mono ?_
  rintro e w3 ⟨q0, rfl, hq0, hR0, hb3⟩
  have hP0 : Pair w.heap.size [] w3 p0 q0 20 (M.new 1048576) := ⟨(hD0.beside hb3 hq0 hR0.lt).more (by omega), hR0, Nat.le_trans hb1.size (Nat.le_trans hb2.size hq0), by simp⟩
  have hbw : Below w.heap.size w w3 := (hb1.trans (hb2.mono hb1.size)).trans (hb3.mono (Nat.le_trans hb1.size hb2.size))
  clear hD0 hR0 hb1 hb2 hb3 hq0 hp0
  go_upto_block 0 with fail
  go_cut [5, 7, 9, 10, 11] from 30 to 58 (fun d m _ _ _ wx => Mid2 w d m wx)
  case first =>
    go_wp2_with fail
    go_loopw [5, 7, 30] (fun d m i wr => ∃ (k p q : Nat) (M0 : M), k ≤ n ∧ k ≤ 200 ∧ i = .int .i64 (k : Int) ∧ d = .pointer (some ⟨p, 0, none⟩) ∧ m = .pointer (some ⟨q, 0, none⟩) ∧ Pair w.heap.size [] wr p q (k + 20) M0 ∧ Live M0 ∧ Below w.heap.size w wr) (fun _ _ i _ => n - (intOf i).toNat)
    case atStart => exact ⟨0, p0, q0, _, by omega, by omega, rfl, rfl, rfl, hP0, live_new _, hbw⟩
    case round =>
      obtain ⟨k, p, q, m, hk, hkk, rfl, rfl, rfl, hP, hlive, hbel⟩ := hrel
      by_cases hkn : k < n
      · obtain ⟨c, b, o, hck, rfl, hblt, ⟨c0, c1, c2, c3, c4⟩, hkn2⟩ := h.at_ hbel k hkn
        have hsz := hbel.size
        have hbr : b < wr.heap.size := by omega
        have hss := hkn2.s1
        have hbal : Below wr.heap.size wr (wr.alloc (.cells c.cells 33)) := (Below.refl _ _).alloc (Nat.le_refl _) _
        have hB := hbel.trans (hbal.mono hsz)
        by_cases h200 : k = 200
        · subst h200
          go_wp2
          go_meet
          case rel => exact ⟨_, _, _, _, rfl, rfl, Pair.below hP hbal, hlive, hB⟩
        · have hk2 : ((k : Int) == 200) = false := by simp; omega
          by_cases hbig : 1000 < c.s.size
          · have hbI : (1000 : Int) < (c.s.size : Int) := by omega
            go_wp2
            go_meet
            case rel => exact ⟨_, _, _, _, rfl, rfl, Pair.below hP hbal, hlive, hB⟩
          · by_cases hkd : 3 < c.kind
            · go_wp2
              go_meet
              case rel => exact ⟨_, _, _, _, rfl, rfl, Pair.below hP hbal, hlive, hB⟩
            · have hP4 : Pair w.heap.size [] (wr.alloc (.cells c.cells 33)) p q (k + 20) m := Pair.below hP hbal
              have hli := hkn2.lies hB (by omega)
              obtain ⟨m', hm'⟩ : ∃ m', (M.call m c).2 = m' := ⟨_, rfl⟩
              have hboth := both_any hP4 hli (show k + 20 < 1000000 by omega) (by omega)
              have hlv := live_call hlive c (by omega)
              rw [hm'] at hboth hlv
              have HBO := Lib.hid hboth
              have hBs := hB.size
              clear hm' hboth hP
              go_wp2_with fail
              refine HBO.out.mono ?_
              rintro e w5 ⟨p', q', rfl, hP5, k5⟩
              have hb5 := hB.trans (k5.below hBs)
              rw [show k + 20 + 1 = k + 1 + 20 by omega] at hP5
              go_wp2
              go_roundw
              case rel => exact ⟨k + 1, p', q', m', by omega, by omega, by go_num, rfl, rfl, hP5, hlv, hb5⟩
              case measure => simp [intOf]; omega
      · obtain rfl : k = n := by omega
        go_wp2
        go_meet
        case rel => exact ⟨_, _, _, _, rfl, rfl, hP, hlive, hbel⟩
  case rest =>
    obtain ⟨p, q, N, m, rfl, rfl, hP, hlive, hbel⟩ := hcut
    have hkw : Reads wc wc.heap.size 1 ka kn (inums keep) := (hkeep.below hbel).more hbel.size
    go_wp2_with fail
    refine (crash_has ka kn kc keep hP.d hkw).mono ?_
    rintro e w5 ⟨px, rfl, hx, hd, _, hb5⟩
    have hD5 : DS w.heap.size w p q px N m (m.crash keep) w5 := ⟨hd, hx, hP.r.below hb5, hbel.trans (hb5.mono hbel.size)⟩
    have g := hP.d.fine
    clear hP hd hx hb5 hkw
    go_wp2
    go_loopw [62] (fun i wr => ∃ k : Nat, k ≤ 16 ∧ i = .int .i64 (k : Int) ∧ DS w.heap.size w p q px N m (m.crash keep) wr) (fun i _ => 16 - (intOf i).toNat)
    case atStart => exact ⟨0, by omega, rfl, hD5⟩
    case round =>
      obtain ⟨k, hk, rfl, hD⟩ := hrel
      by_cases hlt : k < 16
      · by_cases ht : m.there k = false
        · have r1 := read_off hlive.off hlt ht
          have ht2 : (m.crash keep).there k = false := by simp [M.crash, ht]
          have r2 := read_off (m := m.crash keep) rfl hlt ht2
          have HS1 : Hid (str (m.read (k : Int)).1 = str []) := Lib.hid (by rw [r1])
          have HE1 : Hid ((m.read (k : Int)).2 = 12) := Lib.hid (by rw [r1])
          have HS2 : Hid (str ((m.crash keep).read (k : Int)).1 = str []) := Lib.hid (by rw [r2])
          have HE2 : Hid (((m.crash keep).read (k : Int)).2 = 12) := Lib.hid (by rw [r2])
          have hfn : m.firm k = [] := (g.gone k ht).1
          clear r1 r2 ht ht2
          go_wp2_with fail
          refine (ds_read k hlt hD HS1 HE1).mono ?_
          rintro e w6 ⟨rfl, hD6⟩
          go_wp2_with fail
          refine (ds_readx k hlt hD6 HS2 HE2).mono ?_
          rintro e w7 ⟨rfl, hD7⟩
          have hfc := hD7.r.firm hlt
          have hql := hD7.r.lt
          have hfs : str (m.firm k) = str [] := by rw [hfn]
          rw [hfs] at hfc
          have hfe : (!(str []).toList.isEmpty) = false := by rw [RefG.str_toList]; rfl
          clear hfs
          go_wp2
          go_roundw
          case rel => exact ⟨k + 1, by omega, by go_num, hD7⟩
          case measure => simp [intOf]; omega
        · have ht' : m.there k = true := by simpa using ht
          by_cases ht2 : (m.crash keep).there k = false
          · have r1 := read_on hlive.off hlt ht'
            have r2 := read_off (m := m.crash keep) rfl hlt ht2
            obtain ⟨S1, q1⟩ : ∃ S1, str (m.all k) = S1 := ⟨_, rfl⟩
            have HS1 : Hid (str (m.read (k : Int)).1 = S1) := Lib.hid (by rw [r1]; exact q1)
            have HE1 : Hid ((m.read (k : Int)).2 = 0) := Lib.hid (by rw [r1])
            have HS2 : Hid (str ((m.crash keep).read (k : Int)).1 = str []) := Lib.hid (by rw [r2])
            have HE2 : Hid (((m.crash keep).read (k : Int)).2 = 12) := Lib.hid (by rw [r2])
            have hfn : m.firm k = [] := by
              have h1 := (g.crash keep).gone k ht2
              have h2 : m.left keep k = [] := h1.1
              unfold M.left at h2
              exact (List.append_eq_nil_iff.1 h2).1
            clear r1 r2 ht ht' ht2 q1
            go_wp2_with fail
            refine (ds_read k hlt hD HS1 HE1).mono ?_
            rintro e w6 ⟨rfl, hD6⟩
            go_wp2_with fail
            refine (ds_readx k hlt hD6 HS2 HE2).mono ?_
            rintro e w7 ⟨rfl, hD7⟩
            have hfc := hD7.r.firm hlt
            have hql := hD7.r.lt
            have hfs : str (m.firm k) = str [] := by rw [hfn]
            rw [hfs] at hfc
            have hfe : (!(str []).toList.isEmpty) = false := by rw [RefG.str_toList]; rfl
            clear hfs
            go_wp2
            go_roundw
            case rel => exact ⟨k + 1, by omega, by go_num, hD7⟩
            case measure => simp [intOf]; omega
          · have r1 := read_on hlive.off hlt ht'
            have ht2' : (m.crash keep).there k = true := by simpa using ht2
            have r2 := read_on (m := m.crash keep) rfl hlt ht2'
            rw [crash_all] at r2
            have a1 := all_left m keep k
            have a2 := left_firm m keep k
            have l1 := all_le g k
            obtain ⟨S1, q1⟩ : ∃ S1, str (m.all k) = S1 := ⟨_, rfl⟩
            obtain ⟨T1, q2⟩ : ∃ T1, str (m.left keep k) = T1 := ⟨_, rfl⟩
            obtain ⟨F1, q3⟩ : ∃ F1, str (m.firm k) = F1 := ⟨_, rfl⟩
            have HS1 : Hid (str (m.read (k : Int)).1 = S1) := Lib.hid (by rw [r1]; exact q1)
            have HE1 : Hid ((m.read (k : Int)).2 = 0) := Lib.hid (by rw [r1])
            have HS2 : Hid (str ((m.crash keep).read (k : Int)).1 = T1) := Lib.hid (by rw [r2]; exact q2)
            have HE2 : Hid (((m.crash keep).read (k : Int)).2 = 0) := Lib.hid (by rw [r2])
            have HS1' : Hid (str (m.left keep k ++ (m.all k).drop (m.left keep k).length) = S1) := Lib.hid (by rw [a1]; exact q1)
            have HT1 : Hid (str (m.left keep k) = T1) := Lib.hid q2
            have HT1' : Hid (str (m.firm k ++ (m.soft k).take (M.kept keep k (m.soft k).length)) = T1) := Lib.hid (by rw [a2]; exact q2)
            have HF1 : Hid (str (m.firm k) = F1) := Lib.hid q3
            have hl1 : (m.left keep k).length + ((m.all k).drop (m.left keep k).length).length ≤ 281474976710656 := by rw [← List.length_append, a1]; omega
            have hl2 : (m.firm k).length + ((m.soft k).take (M.kept keep k (m.soft k).length)).length ≤ 281474976710656 := by
              rw [List.length_take]
              rw [all_length] at l1
              unfold M.len at l1
              omega
            have HL1 := Lib.hid hl1
            have HL2 := Lib.hid hl2
            clear r1 r2 ht ht' ht2 ht2' q1 q2 q3 a1 a2 l1 hl1 hl2
            go_wp2_with fail
            refine (ds_read k hlt hD HS1 HE1).mono ?_
            rintro e w6 ⟨rfl, hD6⟩
            go_wp2_with fail
            refine (ds_readx k hlt hD6 HS2 HE2).mono ?_
            rintro e w7 ⟨rfl, hD7⟩
            have hfc := hD7.r.firm hlt
            have hql := hD7.r.lt
            rw [HF1.out] at hfc
            go_wp2_with fail
            refine (prefix_hid _ _ _ HL1.out HS1' HT1).mono ?_
            rintro e w8 ⟨rfl, rfl⟩
            go_wp2_with fail
            refine (prefix_hid _ _ _ HL2.out HT1' HF1).mono ?_
            rintro e w9 ⟨rfl, rfl⟩
            go_wp2
            go_roundw
            case rel => exact ⟨k + 1, by omega, by go_num, hD7⟩
            case measure => simp [intOf]; omega
      · obtain rfl : k = 16 := by omega
        have HO : Hid ((m.crash keep).off = false) := Lib.hid rfl
        go_wp2_with fail
        refine (LawB.off_lit hD.x HO).mono ?_
        rintro e w6 ⟨rfl, rfl⟩
        go_wp2
        go_ret
        exact ⟨rfl, hD.since⟩
end Go.Proofs.Ytgfignagaemfeaa.LawD
