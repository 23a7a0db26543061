/- What Read answers, the program's and the document's, walked. No statement is proved here. -/
import Derived.Test.YthaepkpmpnofgaaHPln
import Derived.Test.YthaepkpmpnofgaaHWtr
import Derived.Test.YthaepkpmpnofgaaAppS
set_option linter.unusedVariables false
set_option linter.unusedSimpArgs false
namespace Go.Proofs.Ythaepkpmpnofgaa.PlnWalkD
open Go.RowKit Go.Proofs.Ythaepkpmpnofgaa.Kit Go.Proofs.Ythaepkpmpnofgaa.Rdr Go.Proofs.Ythaepkpmpnofgaa.Stq Go.Proofs.Ythaepkpmpnofgaa.Pln Go.Proofs.Ythaepkpmpnofgaa.Wtr
open Go.Proofs.Ythaepkpmpnofgaa.AppS (wpList_app)
open Go.Proofs.Ythaepkpmpnofgaa.State (RV cell_at free_at set_at lt_at)
open Go.Proofs.Ythaepkpmpnofgaa.PckWalkE (upV textV)

/-- Steps being read: the reader, the row of the steps so far, which is new. -/
structure Pk (T : TypeId) (w0 W0 W : World) (q : Nat) (v : Value) (l : List Sp) (r : Rd) : Prop where
  rd : Rds T w0 W q r
  own : W.ownsRow W0.heap.size 44 3 v l.length (scells l)
  only : State.Only (· = q) W0 W
  lq : q < W0.heap.size
section
variable {T : TypeId} {w0 W0 W W' : World} {q : Nat} {v : Value} {l : List Sp} {r r' : Rd}
theorem own_keep {S : Nat → Prop} {B n : Nat} {xs : List Value} (k : State.Only S W W') (hv : W.ownsRow B 44 3 v n xs) (hs : ∀ g, v.ownBlock = some g → ¬ S g) : W'.ownsRow B 44 3 v n xs := by
  refine ⟨hv.1, ?_⟩
  rcases hv.2 with hn | ⟨g, cap, cur, rfl, h1, hgg, hrest⟩
  · exact .inl hn
  · exact .inr ⟨g, cap, cur, rfl, h1, (k.block g (lt_at hgg) (hs g rfl)).trans hgg, hrest⟩
theorem pk_new (h : Rds T w0 W q r) : Pk T w0 W W q (.slice none 0 0) [] r := ⟨h, World.ownsRow_nil _ _ _ _, State.Only.refl _ _, h.lt⟩
/-- A call on the reader. -/
theorem Pk.ran (d : Pk T w0 W0 W q v l r) {x : Value} {e : Ending} (k : Ran T w0 W q r' x e W') : e = .returned x ∧ Pk T w0 W0 W' q v l r' := by
  have lq := d.lq
  refine ⟨k.1, k.2.1, own_keep k.2.2 d.own fun g hg => ?_, d.only.trans k.2.2, lq⟩
  have := (d.own.lt g hg).1
  omega
/-- A step is appended. -/
theorem Pk.rowed (d : Pk T w0 W0 W q v l r) {w1 : World} {v1 : Value} {e : Sp} {ob : Obj} {n : Nat} {xs : List Value} (hown : w1.ownsRow W0.heap.size 44 3 v1 n xs) (hn : n = l.length + 1) (hx : xs = scells l ++ scells [e]) (hg : (W.alloc ob).grownBy w1 v.ownBlock) :
    Pk T w0 W0 w1 q v1 (l ++ [e]) r := by
  subst hn hx
  have lq := d.lq
  have hrow : ∀ g, v.ownBlock = some g → W0.heap.size ≤ g := fun g hg => (d.own.lt g hg).1
  have hb : State.Only (fun g => v.ownBlock = some g) W w1 := ((State.Only.refl (fun g => v.ownBlock = some g) W).alloc ob).grown hg fun g hg => .inr hg
  have hsz := d.only.size
  refine ⟨⟨d.rd.at_.keep hb fun e => by have := hrow _ e; omega, d.rd.low, d.rd.bel.trans (hb.below d.rd.bel.size fun g hg => ?_)⟩, by simpa [scells_append] using hown, ?_, lq⟩
  · have := hrow g hg
    have := d.rd.low
    omega
  · exact ⟨hb.os.trans d.only.os, hb.tape.trans d.only.tape, hb.output.trans d.only.output, Nat.le_trans hsz hb.size, fun k hk hn => (hb.block k (by omega) fun e => by have := hrow k e; omega).trans (d.only.block k hk hn)⟩
/-- What Read leaves. -/
def RdP (T : TypeId) (w0 W : World) (q : Nat) (l : List Sp) (r' : Rd) (e : Ending) (W' : World) : Prop :=
  ∃ v, e = .returned v ∧ W'.ownsRow W.heap.size 44 3 v l.length (scells l) ∧ Rds T w0 W' q r' ∧ State.Only (· = q) W W'
theorem RdP.slice {e : Ending} (h : RdP T w0 W q l r' e W') : ∃ A c, e = .returned (.slice A l.length c) ∧ RS W' W'.heap.size A l.length l ∧ Rds T w0 W' q r' ∧ State.Only (· = q) W W' := by
  obtain ⟨v, he, hown, hr, ho⟩ := h
  obtain ⟨A, c, rfl, _, _, hre⟩ := own_form hown
  exact ⟨A, c, he, hre, hr, ho⟩
end
section
variable {w0 W0 W : World} {q : Nat} {v : Value} {l : List Sp} {r r' : Rd}
theorem pkp_up {n : Nat} (k : Int) (d : Pk 96 w0 W0 W q v l r) (hs : r.s.size ≤ 9223372036854775807) (hk : k ≤ 9223372036854775807) (hn : Hid (upV r.s k = n)) (hr : Hid (r.up k = r')) :
    Calls Try.prog 33 #[.pointer (some ⟨q, 0, none⟩), .int .i64 k] W fun e W' => e = .returned (.int .i64 (n : Int)) ∧ Pk 96 w0 W0 W' q v l r' :=
  (rp_up k d.rd hs hk hn hr).mono fun _ _ k => d.ran k
theorem pkp_text {x : ByteArray} (k : Int) (d : Pk 96 w0 W0 W q v l r) (hs : r.s.size ≤ 9223372036854775807) (hk : k ≤ 281474976710656) (hx : Hid (textV r.s k = x)) (hr : Hid (r.text k = r')) :
    Calls Try.prog 59 #[.pointer (some ⟨q, 0, none⟩), .int .i64 k] W fun e W' => e = .returned (.string x) ∧ Pk 96 w0 W0 W' q v l r' :=
  (rp_text k d.rd hs hk hx hr).mono fun _ _ k => d.ran k
theorem pkp_left {n : Nat} {b : Bool} (d : Pk 96 w0 W0 W q v l r) (hn : Hid (r.s.size = n)) (hb : Hid ((!r.bad) = b)) :
    Calls Try.prog 47 #[.pointer (some ⟨q, 0, none⟩)] W fun e W' => e = .returned (.tuple #[.int .i64 (n : Int), .bool b]) ∧ Pk 96 w0 W0 W' q v l r :=
  (rp_left d.rd hn hb).mono fun _ _ k => d.ran k
end
/-- A step's reads, by names. -/
theorem sp_named (rj : Rd) (hs : rj.s.size ≤ 9223372036854775807) : ∃ (ra rb rc : Rd) (a g : Nat) (t : ByteArray), Hid (rj.up 3 = ra) ∧ Hid (ra.text 16 = rb) ∧ Hid (rb.up 9 = rc) ∧ Hid (upV rj.s 3 = a) ∧ Hid (textV ra.s 16 = t) ∧ Hid (upV rb.s 9 = g) ∧ ra.s.size ≤ 9223372036854775807 ∧ rb.s.size ≤ 9223372036854775807 ∧ Hid (rSp rj = ⟨(a : Nat), t, (g : Nat)⟩) ∧ Hid (rSpR rj = rc) :=
  ⟨_, _, _, _, _, _, rfl, rfl, rfl, rfl, rfl, rfl, Nat.le_trans (Rd.up_le rj 3) hs, Nat.le_trans (Rd.text_le _ 16) (Nat.le_trans (Rd.up_le rj 3) hs), rfl, rfl⟩

set_option maxRecDepth 100000 in
set_option maxHeartbeats 4000000 in
theorem read_any {w0 W : World} {q : Nat} {r : Rd} (h : Rp w0 W q r) (hs : r.s.size ≤ 9223372036854775807) {l' : List Sp} {r' : Rd} (hl : Hid (rPlan r = l')) (hr : Hid (rEnd r = r')) :
    Calls Try.prog 35 #[.pointer (some ⟨q, 0, none⟩)] W (RdP 96 w0 W q l' r') := by
  obtain ⟨n, hn⟩ : ∃ n, upV r.s 64 = n := ⟨_, rfl⟩
  obtain ⟨r1, h1⟩ : ∃ x, r.up 64 = x := ⟨_, rfl⟩
  have hN : rN r = n := hn
  have hn64 : n ≤ 64 := by rw [← hN]; exact rN_le r
  have hs1 : r1.s.size ≤ 9223372036854775807 := by rw [← h1]; exact Nat.le_trans (Rd.up_le r 64) hs
  have hend : rAt n r1 = r' := by rw [← hr.out, ← h1, ← hN]; rfl
  have hpl : (if (rAt n r1).bad then [] else rSps n r1) = l' := by rw [← hl.out]; unfold rPlan rEnd; rw [hN, h1]
  have HN := Lib.hid hn
  have H1 := Lib.hid h1
  have HEND := Lib.hid hend
  have HPL := Lib.hid hpl
  have D0 := pk_new h
  clear hn h1 hN hend hpl hl hr h
  go_enter Try.func35, Try.ntmps35
  go_wp2_with fail
  with_reducible refine (pkp_up 64 D0 hs (by decide) HN H1).mono ?_
  rintro e w1 ⟨rfl, D1⟩
  clear D0
  go_wp2
  go_loopw [3, 8] (fun s x wr => ∃ (j : Nat) (v : Value), j ≤ n ∧ s = v ∧ x = .int .i64 (j : Int) ∧ Pk 96 w0 W wr q v (rSps j r1) (rAt j r1)) (fun _ x _ => n - (intOf x).toNat)
  case atStart => exact ⟨0, _, by omega, rfl, rfl, D1⟩
  case round =>
    obtain ⟨j, v, hj, rfl, rfl, D⟩ := hrel
    clear D1
    by_cases hjn : j < n
    · have HJ := Lib.hid hjn
      obtain ⟨A, c, hv, _, _, _⟩ := own_form D.own
      rw [rSps_length] at hv
      subst hv
      have hsz : (rAt j r1).s.size ≤ 9223372036854775807 := Nat.le_trans (rAt_le _ _) hs1
      have HES : rSps (j + 1) r1 = rSps j r1 ++ [rSp (rAt j r1)] := rfl
      have HAT : rAt (j + 1) r1 = rSpR (rAt j r1) := rfl
      obtain ⟨rj, hrj⟩ : ∃ r, rAt j r1 = r := ⟨_, rfl⟩
      rw [hrj] at hsz HES HAT D
      obtain ⟨ra, rb, rc, a, g, t, XA, XB, XC, YA, YT, YG, sa, sb, ZS, ZR⟩ := sp_named rj hsz
      rw [ZS.out] at HES
      rw [ZR.out] at HAT
      have HES := Lib.hid HES
      have HAT := Lib.hid HAT
      have hroom : (j + 1) * 32 ≤ 140737488355328 := by omega
      clear hrj
      go_wp2_with fail
      with_reducible refine (pkp_up 3 D hsz (by decide) YA XA).mono ?_
      rintro e wA ⟨rfl, DA⟩
      clear D
      go_wp2_with fail
      with_reducible refine (pkp_text 16 DA sa (by decide) YT XB).mono ?_
      rintro e wB ⟨rfl, DB⟩
      clear DA
      go_wp2_with fail
      with_reducible refine (pkp_up 9 DB sb (by decide) YG XC).mono ?_
      rintro e wC ⟨rfl, DC⟩
      clear DB
      have hba : ∀ o, Below wC.heap.size wC (wC.alloc o) := fun o => (Below.refl _ _).alloc (Nat.le_refl _) o
      have HOW : Hid (∀ o, (wC.alloc o).ownsRow W.heap.size 44 3 (.slice A j c) j (scells (rSps j r1))) := fun o => by
        have := own_keep (State.Only.of_below (hba o)) DC.own (fun _ _ e => e)
        rwa [rSps_length] at this
      have HNW : Hid (RS (wC.alloc (.cells #[.int .i64 (a : Int), .string t, .int .i64 (g : Int)] 44)) (wC.heap.size + 1) (some ⟨wC.heap.size, 0, none⟩) 1 [⟨(a : Nat), t, (g : Nat)⟩]) := sp_new wC ⟨(a : Nat), t, (g : Nat)⟩ 44
      have HBS : Hid (∀ o, W.heap.size ≤ (wC.alloc o).heap.size) := fun o => Nat.le_trans DC.only.size (hba o).size
      have HDC := Lib.hid DC
      clear DC hba
      go_wp2_with (first
        | (at_builtin
           refine wpList_app _ rfl (.tmp 10) (.tmp 18) rfl _ rfl (HOW.out _) rfl HNW.out (scells_one _) hroom (HBS.out _) ?_
           intro A' c' w7 hown7 hg7 hat7
           have HD7 := Lib.hid (HDC.out.rowed (e := ⟨(a : Nat), t, (g : Nat)⟩) hown7 (by rw [rSps_length]) rfl hg7)
           clear hat7 hg7 hown7))
      go_roundw
      case rel => exact ⟨j + 1, _, HJ.out, rfl, by go_num, by rw [HES.out, HAT.out]; exact HD7.out⟩
      case measure => have := HJ.out; simp [intOf]; omega
    · obtain rfl : j = n := by omega
      have hend := HEND.out
      have hpl := HPL.out
      rw [hend] at hpl D
      obtain ⟨m, hm⟩ : ∃ m, r'.s.size = m := ⟨_, rfl⟩
      obtain ⟨b, hb⟩ : ∃ b, r'.bad = b := ⟨_, rfl⟩
      have hb' : (!r'.bad) = !b := by rw [hb]
      rw [hb] at hpl
      have HM := Lib.hid hm
      have HB := Lib.hid hb'
      have HPL := Lib.hid hpl
      clear hend hpl hm hb hb'
      go_wp2_with fail
      with_reducible refine (pkp_left D HM HB).mono ?_
      rintro e w2 ⟨rfl, D2⟩
      clear D
      cases b
      · go_wp2
        go_ret
        have e1 : rSps j r1 = l' := HPL.out
        refine ⟨_, rfl, ?_, D2.rd, D2.only⟩
        rw [← e1]
        exact D2.own
      · go_wp2
        go_ret
        have e1 : ([] : List Sp) = l' := HPL.out
        refine ⟨_, rfl, ?_, D2.rd, D2.only⟩
        rw [← e1]
        exact World.ownsRow_nil _ _ _ _

end Go.Proofs.Ythaepkpmpnofgaa.PlnWalkD
