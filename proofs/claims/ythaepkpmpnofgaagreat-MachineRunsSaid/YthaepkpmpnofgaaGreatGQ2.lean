/- What Write lays, and what the document's Bytes are, walked. No statement is proved here. -/
import Derived.Test.YthaepkpmpnofgaaGreatGN
import Derived.Test.YthaepkpmpnofgaaGreatHWtr
import Derived.Test.YthaepkpmpnofgaaGreatHAppS
import Derived.BigRegion
import Derived.BigQuiet
import Derived.Deep.QuietTactic
set_option linter.unusedVariables false
set_option linter.unusedSimpArgs false
namespace Go.Proofs.YthaepkpmpnofgaaGreat.PlnWalkD
open Go.RowKit Go.Proofs.YthaepkpmpnofgaaGreat.Kit Go.Proofs.YthaepkpmpnofgaaGreat.Rdr Go.Proofs.YthaepkpmpnofgaaGreat.Stq Go.Proofs.YthaepkpmpnofgaaGreat.Pln Go.Proofs.YthaepkpmpnofgaaGreat.Wtr
open Go.Proofs.YthaepkpmpnofgaaGreat.AppS (wpList_app)
open Go.Proofs.YthaepkpmpnofgaaGreat.State (RV cell_at free_at set_at lt_at)
open Go.Proofs.YthaepkpmpnofgaaGreat.PckWalkE (upV textV)

/-- Steps being read: the reader, the row of the steps so far, which is new. -/
structure Pk (T : TypeId) (w0 W0 W : World) (q : Nat) (v : Value) (l : List Sp) (r : Rd) : Prop where
  rd : Rds T w0 W q r
  own : W.ownsRow W0.heap.size 67 3 v l.length (scells l)
  only : State.Only (· = q) W0 W
  lq : q < W0.heap.size
section
variable {T : TypeId} {w0 W0 W W' : World} {q : Nat} {v : Value} {l : List Sp} {r r' : Rd}
theorem own_keep {S : Nat → Prop} {B n : Nat} {xs : List Value} (k : State.Only S W W') (hv : W.ownsRow B 67 3 v n xs) (hs : ∀ g, v.ownBlock = some g → ¬ S g) : W'.ownsRow B 67 3 v n xs := by
  refine ⟨hv.1, ?_⟩
  rcases hv.2 with hn | ⟨g, cap, cur, rfl, h1, hgg, hrest⟩
  · exact .inl hn
  · exact .inr ⟨g, cap, cur, rfl, h1, (k.block g (lt_at hgg) (hs g rfl)).trans hgg, hrest⟩
theorem pk_new (h : Rds T w0 W q r) : Pk T w0 W W q (.slice none 0 0) [] r := ⟨h, World.ownsRow_nil _ _ _ _, State.Only.refl _ _, h.lt⟩
/-- A call on the reader. -/
theorem Pk.ran (d : Pk T w0 W0 W q v l r) {x : Value} {e : Ending} (k : Ran T w0 W q r' x e W') : e = .returned x ∧ Pk T w0 W0 W' q v l r' := by
  have lq := d.lq
  refine ⟨k.1, k.2.1, own_keep k.2.2 d.own fun g hg => ?_, d.only.trans k.2.2, lq⟩
  have := (d.own.lt g hg).1
  omega
/-- A step is appended. -/
theorem Pk.rowed (d : Pk T w0 W0 W q v l r) {w1 : World} {v1 : Value} {e : Sp} {ob : Obj} {n : Nat} {xs : List Value} (hown : w1.ownsRow W0.heap.size 67 3 v1 n xs) (hn : n = l.length + 1) (hx : xs = scells l ++ scells [e]) (hg : (W.alloc ob).grownBy w1 v.ownBlock) :
    Pk T w0 W0 w1 q v1 (l ++ [e]) r := by
  subst hn hx
  have lq := d.lq
  have hrow : ∀ g, v.ownBlock = some g → W0.heap.size ≤ g := fun g hg => (d.own.lt g hg).1
  have hb : State.Only (fun g => v.ownBlock = some g) W w1 := ((State.Only.refl (fun g => v.ownBlock = some g) W).alloc ob).grown hg fun g hg => .inr hg
  have hsz := d.only.size
  refine ⟨⟨d.rd.at_.keep hb fun e => by have := hrow _ e; omega, d.rd.low, d.rd.bel.trans (hb.below d.rd.bel.size fun g hg => ?_)⟩, by simpa [scells_append] using hown, ?_, lq⟩
  · have := hrow g hg
    have := d.rd.low
    omega
  · exact ⟨hb.os.trans d.only.os, hb.tape.trans d.only.tape, hb.output.trans d.only.output, Nat.le_trans hsz hb.size, fun k hk hn => (hb.block k (by omega) fun e => by have := hrow k e; omega).trans (d.only.block k hk hn)⟩
/-- What Read leaves. -/
def RdP (T : TypeId) (w0 W : World) (q : Nat) (l : List Sp) (r' : Rd) (e : Ending) (W' : World) : Prop :=
  ∃ v, e = .returned v ∧ W'.ownsRow W.heap.size 67 3 v l.length (scells l) ∧ Rds T w0 W' q r' ∧ State.Only (· = q) W W'
theorem RdP.slice {e : Ending} (h : RdP T w0 W q l r' e W') : ∃ A c, e = .returned (.slice A l.length c) ∧ RS W' W'.heap.size A l.length l ∧ Rds T w0 W' q r' ∧ State.Only (· = q) W W' := by
  obtain ⟨v, he, hown, hr, ho⟩ := h
  obtain ⟨A, c, rfl, _, _, hre⟩ := own_form hown
  exact ⟨A, c, he, hre, hr, ho⟩
end
section
variable {w0 W0 W : World} {q : Nat} {v : Value} {l : List Sp} {r r' : Rd}
theorem pkp_up {n : Nat} (k : Int) (d : Pk 131 w0 W0 W q v l r) (hs : r.s.size ≤ 9223372036854775807) (hk : k ≤ 9223372036854775807) (hn : Hid (upV r.s k = n)) (hr : Hid (r.up k = r')) :
    Calls Tryz.prog 61 #[.pointer (some ⟨q, 0, none⟩), .int .i64 k] W fun e W' => e = .returned (.int .i64 (n : Int)) ∧ Pk 131 w0 W0 W' q v l r' :=
  (rp_up k d.rd hs hk hn hr).mono fun _ _ k => d.ran k
theorem pkp_text {x : ByteArray} (k : Int) (d : Pk 131 w0 W0 W q v l r) (hs : r.s.size ≤ 9223372036854775807) (hk : k ≤ 281474976710656) (hx : Hid (textV r.s k = x)) (hr : Hid (r.text k = r')) :
    Calls Tryz.prog 94 #[.pointer (some ⟨q, 0, none⟩), .int .i64 k] W fun e W' => e = .returned (.string x) ∧ Pk 131 w0 W0 W' q v l r' :=
  (rp_text k d.rd hs hk hx hr).mono fun _ _ k => d.ran k
theorem pkp_left {n : Nat} {b : Bool} (d : Pk 131 w0 W0 W q v l r) (hn : Hid (r.s.size = n)) (hb : Hid ((!r.bad) = b)) :
    Calls Tryz.prog 81 #[.pointer (some ⟨q, 0, none⟩)] W fun e W' => e = .returned (.tuple #[.int .i64 (n : Int), .bool b]) ∧ Pk 131 w0 W0 W' q v l r :=
  (rp_left d.rd hn hb).mono fun _ _ k => d.ran k
theorem pkm_up {n : Nat} (k : Int) (d : Pk 95 w0 W0 W q v l r) (hs : r.s.size ≤ 9223372036854775807) (hk : k ≤ 9223372036854775807) (hn : Hid (upV r.s k = n)) (hr : Hid (r.up k = r')) :
    Calls Tryz.prog 44 #[.pointer (some ⟨q, 0, none⟩), .int .i64 k] W fun e W' => e = .returned (.int .i64 (n : Int)) ∧ Pk 95 w0 W0 W' q v l r' :=
  (rm_up k d.rd hs hk hn hr).mono fun _ _ k => d.ran k
theorem pkm_text {x : ByteArray} (k : Int) (d : Pk 95 w0 W0 W q v l r) (hs : r.s.size ≤ 9223372036854775807) (hk : k ≤ 281474976710656) (hx : Hid (textV r.s k = x)) (hr : Hid (r.text k = r')) :
    Calls Tryz.prog 85 #[.pointer (some ⟨q, 0, none⟩), .int .i64 k] W fun e W' => e = .returned (.string x) ∧ Pk 95 w0 W0 W' q v l r' :=
  (rm_text k d.rd hs hk hx hr).mono fun _ _ k => d.ran k
end
/-- A step's reads, by names. -/
theorem sp_named (rj : Rd) (hs : rj.s.size ≤ 9223372036854775807) : ∃ (ra rb rc : Rd) (a g : Nat) (t : ByteArray), Hid (rj.up 3 = ra) ∧ Hid (ra.text 16 = rb) ∧ Hid (rb.up 9 = rc) ∧ Hid (upV rj.s 3 = a) ∧ Hid (textV ra.s 16 = t) ∧ Hid (upV rb.s 9 = g) ∧ ra.s.size ≤ 9223372036854775807 ∧ rb.s.size ≤ 9223372036854775807 ∧ Hid (rSp rj = ⟨(a : Nat), t, (g : Nat)⟩) ∧ Hid (rSpR rj = rc) :=
  ⟨_, _, _, _, _, _, rfl, rfl, rfl, rfl, rfl, rfl, Nat.le_trans (Rd.up_le rj 3) hs, Nat.le_trans (Rd.text_le _ 16) (Nat.le_trans (Rd.up_le rj 3) hs), rfl, rfl⟩

set_option maxRecDepth 100000 in
set_option maxHeartbeats 4000000 in
theorem read_any {w0 W : World} {q : Nat} {r : Rd} (h : Rp w0 W q r) (hs : r.s.size ≤ 9223372036854775807) {l' : List Sp} {r' : Rd} (hl : Hid (rPlan r = l')) (hr : Hid (rEnd r = r')) :
    Calls Tryz.prog 63 #[.pointer (some ⟨q, 0, none⟩)] W (RdP 131 w0 W q l' r') := by
  obtain ⟨n, hn⟩ : ∃ n, upV r.s 64 = n := ⟨_, rfl⟩
  obtain ⟨r1, h1⟩ : ∃ x, r.up 64 = x := ⟨_, rfl⟩
  have hN : rN r = n := hn
  have hn64 : n ≤ 64 := by rw [← hN]; exact rN_le r
  have hs1 : r1.s.size ≤ 9223372036854775807 := by rw [← h1]; exact Nat.le_trans (Rd.up_le r 64) hs
  have hend : rAt n r1 = r' := by rw [← hr.out, ← h1, ← hN]; rfl
  have hpl : (if (rAt n r1).bad then [] else rSps n r1) = l' := by rw [← hl.out]; unfold rPlan rEnd; rw [hN, h1]
  have HN := Lib.hid hn
  have H1 := Lib.hid h1
  have HEND := Lib.hid hend
  have HPL := Lib.hid hpl
  have D0 := pk_new h
  clear hn h1 hN hend hpl hl hr h
  go_enter Tryz.func63, Tryz.ntmps63
  go_wp2_with fail
  with_reducible refine (pkp_up 64 D0 hs (by decide) HN H1).mono ?_
  rintro e w1 ⟨rfl, D1⟩
  clear D0
  go_wp2
  go_loopw [3, 8] (fun s x wr => ∃ (j : Nat) (v : Value), j ≤ n ∧ s = v ∧ x = .int .i64 (j : Int) ∧ Pk 131 w0 W wr q v (rSps j r1) (rAt j r1)) (fun _ x _ => n - (intOf x).toNat)
  case atStart => exact ⟨0, _, by omega, rfl, rfl, D1⟩
  case round =>
    obtain ⟨j, v, hj, rfl, rfl, D⟩ := hrel
    clear D1
    by_cases hjn : j < n
    · have HJ := Lib.hid hjn
      obtain ⟨A, c, hv, _, _, _⟩ := own_form D.own
      rw [rSps_length] at hv
      subst hv
      have hsz : (rAt j r1).s.size ≤ 9223372036854775807 := Nat.le_trans (rAt_le _ _) hs1
      have HES : rSps (j + 1) r1 = rSps j r1 ++ [rSp (rAt j r1)] := rfl
      have HAT : rAt (j + 1) r1 = rSpR (rAt j r1) := rfl
      obtain ⟨rj, hrj⟩ : ∃ r, rAt j r1 = r := ⟨_, rfl⟩
      rw [hrj] at hsz HES HAT D
      obtain ⟨ra, rb, rc, a, g, t, XA, XB, XC, YA, YT, YG, sa, sb, ZS, ZR⟩ := sp_named rj hsz
      rw [ZS.out] at HES
      rw [ZR.out] at HAT
      have HES := Lib.hid HES
      have HAT := Lib.hid HAT
      have hroom : (j + 1) * 32 ≤ 140737488355328 := by omega
      clear hrj
      go_wp2_with fail
      with_reducible refine (pkp_up 3 D hsz (by decide) YA XA).mono ?_
      rintro e wA ⟨rfl, DA⟩
      clear D
      go_wp2_with fail
      with_reducible refine (pkp_text 16 DA sa (by decide) YT XB).mono ?_
      rintro e wB ⟨rfl, DB⟩
      clear DA
      go_wp2_with fail
      with_reducible refine (pkp_up 9 DB sb (by decide) YG XC).mono ?_
      rintro e wC ⟨rfl, DC⟩
      clear DB
      have hba : ∀ o, Below wC.heap.size wC (wC.alloc o) := fun o => (Below.refl _ _).alloc (Nat.le_refl _) o
      have HOW : Hid (∀ o, (wC.alloc o).ownsRow W.heap.size 67 3 (.slice A j c) j (scells (rSps j r1))) := fun o => by
        have := own_keep (State.Only.of_below (hba o)) DC.own (fun _ _ e => e)
        rwa [rSps_length] at this
      have HNW : Hid (RS (wC.alloc (.cells #[.int .i64 (a : Int), .string t, .int .i64 (g : Int)] 67)) (wC.heap.size + 1) (some ⟨wC.heap.size, 0, none⟩) 1 [⟨(a : Nat), t, (g : Nat)⟩]) := sp_new wC ⟨(a : Nat), t, (g : Nat)⟩ 67
      have HBS : Hid (∀ o, W.heap.size ≤ (wC.alloc o).heap.size) := fun o => Nat.le_trans DC.only.size (hba o).size
      have HDC := Lib.hid DC
      clear DC hba
      go_wp2_with (first
        | (at_builtin
           refine wpList_app _ rfl (.tmp 10) (.tmp 18) rfl _ rfl (HOW.out _) rfl HNW.out (scells_one _) hroom (HBS.out _) ?_
           intro A' c' w7 hown7 hg7 hat7
           have HD7 := Lib.hid (HDC.out.rowed (e := ⟨(a : Nat), t, (g : Nat)⟩) hown7 (by rw [rSps_length]) rfl hg7)
           clear hat7 hg7 hown7))
      go_roundw
      case rel => exact ⟨j + 1, _, HJ.out, rfl, by go_num, by rw [HES.out, HAT.out]; exact HD7.out⟩
      case measure => have := HJ.out; simp [intOf]; omega
    · obtain rfl : j = n := by omega
      have hend := HEND.out
      have hpl := HPL.out
      rw [hend] at hpl D
      obtain ⟨m, hm⟩ : ∃ m, r'.s.size = m := ⟨_, rfl⟩
      obtain ⟨b, hb⟩ : ∃ b, r'.bad = b := ⟨_, rfl⟩
      have hb' : (!r'.bad) = !b := by rw [hb]
      rw [hb] at hpl
      have HM := Lib.hid hm
      have HB := Lib.hid hb'
      have HPL := Lib.hid hpl
      clear hend hpl hm hb hb'
      go_wp2_with fail
      with_reducible refine (pkp_left D HM HB).mono ?_
      rintro e w2 ⟨rfl, D2⟩
      clear D
      cases b
      · go_wp2
        go_ret
        have e1 : rSps j r1 = l' := HPL.out
        refine ⟨_, rfl, ?_, D2.rd, D2.only⟩
        rw [← e1]
        exact D2.own
      · go_wp2
        go_ret
        have e1 : ([] : List Sp) = l' := HPL.out
        refine ⟨_, rfl, ?_, D2.rd, D2.only⟩
        rw [← e1]
        exact World.ownsRow_nil _ _ _ _

set_option maxRecDepth 100000 in
set_option maxHeartbeats 4000000 in
theorem rread_any {w0 W : World} {q : Nat} {r : Rd} (h : Rm w0 W q r) (hs : r.s.size ≤ 9223372036854775807) {l' : List Sp} {r' : Rd} (hl : Hid (rPlan r = l')) (hr : Hid (rEnd r = r')) :
    Calls Tryz.prog 47 #[.pointer (some ⟨q, 0, none⟩)] W (RdP 95 w0 W q l' r') := by
  obtain ⟨n, hn⟩ : ∃ n, upV r.s 64 = n := ⟨_, rfl⟩
  obtain ⟨r1, h1⟩ : ∃ x, r.up 64 = x := ⟨_, rfl⟩
  have hN : rN r = n := hn
  have hn64 : n ≤ 64 := by rw [← hN]; exact rN_le r
  have hs1 : r1.s.size ≤ 9223372036854775807 := by rw [← h1]; exact Nat.le_trans (Rd.up_le r 64) hs
  have hend : rAt n r1 = r' := by rw [← hr.out, ← h1, ← hN]; rfl
  have hpl : (if (rAt n r1).bad then [] else rSps n r1) = l' := by rw [← hl.out]; unfold rPlan rEnd; rw [hN, h1]
  have HN := Lib.hid hn
  have H1 := Lib.hid h1
  have HEND := Lib.hid hend
  have HPL := Lib.hid hpl
  have D0 := pk_new h
  clear hn h1 hN hend hpl hl hr h
  go_enter Tryz.func47, Tryz.ntmps47
  go_wp2_with fail
  with_reducible refine (pkm_up 64 D0 hs (by decide) HN H1).mono ?_
  rintro e w1 ⟨rfl, D1⟩
  clear D0
  go_wp2
  go_loopw [3, 5] (fun s x wr => ∃ (j : Nat) (v : Value), j ≤ n ∧ s = v ∧ x = .int .i64 (j : Int) ∧ Pk 95 w0 W wr q v (rSps j r1) (rAt j r1)) (fun _ x _ => n - (intOf x).toNat)
  case atStart => exact ⟨0, _, by omega, rfl, rfl, D1⟩
  case round =>
    obtain ⟨j, v, hj, rfl, rfl, D⟩ := hrel
    clear D1
    by_cases hjn : j < n
    · have HJ := Lib.hid hjn
      obtain ⟨A, c, hv, _, _, _⟩ := own_form D.own
      rw [rSps_length] at hv
      subst hv
      have hsz : (rAt j r1).s.size ≤ 9223372036854775807 := Nat.le_trans (rAt_le _ _) hs1
      have HES : rSps (j + 1) r1 = rSps j r1 ++ [rSp (rAt j r1)] := rfl
      have HAT : rAt (j + 1) r1 = rSpR (rAt j r1) := rfl
      obtain ⟨rj, hrj⟩ : ∃ r, rAt j r1 = r := ⟨_, rfl⟩
      rw [hrj] at hsz HES HAT D
      obtain ⟨ra, rb, rc, a, g, t, XA, XB, XC, YA, YT, YG, sa, sb, ZS, ZR⟩ := sp_named rj hsz
      rw [ZS.out] at HES
      rw [ZR.out] at HAT
      have HES := Lib.hid HES
      have HAT := Lib.hid HAT
      have hroom : (j + 1) * 32 ≤ 140737488355328 := by omega
      clear hrj
      go_wp2_with fail
      with_reducible refine (pkm_up 3 D hsz (by decide) YA XA).mono ?_
      rintro e wA ⟨rfl, DA⟩
      clear D
      go_wp2_with fail
      with_reducible refine (pkm_text 16 DA sa (by decide) YT XB).mono ?_
      rintro e wB ⟨rfl, DB⟩
      clear DA
      go_wp2_with fail
      with_reducible refine (pkm_up 9 DB sb (by decide) YG XC).mono ?_
      rintro e wC ⟨rfl, DC⟩
      clear DB
      have hba : ∀ o, Below wC.heap.size wC (wC.alloc o) := fun o => (Below.refl _ _).alloc (Nat.le_refl _) o
      have HOW : Hid (∀ o, (wC.alloc o).ownsRow W.heap.size 67 3 (.slice A j c) j (scells (rSps j r1))) := fun o => by
        have := own_keep (State.Only.of_below (hba o)) DC.own (fun _ _ e => e)
        rwa [rSps_length] at this
      have HNW : Hid (RS (wC.alloc (.cells #[.int .i64 (a : Int), .string t, .int .i64 (g : Int)] 67)) (wC.heap.size + 1) (some ⟨wC.heap.size, 0, none⟩) 1 [⟨(a : Nat), t, (g : Nat)⟩]) := sp_new wC ⟨(a : Nat), t, (g : Nat)⟩ 67
      have HBS : Hid (∀ o, W.heap.size ≤ (wC.alloc o).heap.size) := fun o => Nat.le_trans DC.only.size (hba o).size
      have HDC := Lib.hid DC
      clear DC hba
      go_wp2_with (first
        | (at_builtin
           refine wpList_app _ rfl (.tmp 22) (.tmp 27) rfl _ rfl (HOW.out _) rfl HNW.out (scells_one _) hroom (HBS.out _) ?_
           intro A' c' w7 hown7 hg7 hat7
           have HD7 := Lib.hid (HDC.out.rowed (e := ⟨(a : Nat), t, (g : Nat)⟩) hown7 (by rw [rSps_length]) rfl hg7)
           clear hat7 hg7 hown7))
      go_roundw
      case rel => exact ⟨j + 1, _, HJ.out, rfl, by go_num, by rw [HES.out, HAT.out]; exact HD7.out⟩
      case measure => have := HJ.out; simp [intOf]; omega
    · obtain rfl : j = n := by omega
      have hend := HEND.out
      have hpl := HPL.out
      rw [hend] at hpl D
      obtain ⟨b, hb⟩ : ∃ b, r'.bad = b := ⟨_, rfl⟩
      have hflag := D.rd.at_.flag
      rw [hb] at hpl hflag
      have hlt := D.rd.lt
      have HPL := Lib.hid hpl
      clear hend hpl hb
      cases b
      · go_wp2
        go_ret
        have e1 : rSps j r1 = l' := HPL.out
        refine ⟨_, rfl, ?_, D.rd, D.only⟩
        rw [← e1]
        exact D.own
      · go_wp2
        go_ret
        have e1 : ([] : List Sp) = l' := HPL.out
        refine ⟨_, rfl, ?_, D.rd, D.only⟩
        rw [← e1]
        exact World.ownsRow_nil _ _ _ _
end Go.Proofs.YthaepkpmpnofgaaGreat.PlnWalkD
set_option linter.unusedVariables false
set_option linter.unusedSimpArgs false
namespace Go.Proofs.YthaepkpmpnofgaaGreat.PlnWalkC
open Go.RowKit Go.Proofs.YthaepkpmpnofgaaGreat.Kit Go.Proofs.YthaepkpmpnofgaaGreat.Rdr Go.Proofs.YthaepkpmpnofgaaGreat.Stq Go.Proofs.YthaepkpmpnofgaaGreat.Pln Go.Proofs.YthaepkpmpnofgaaGreat.Wtr
open Go.Proofs.YthaepkpmpnofgaaGreat.Num (num)
open Go.Proofs.YthaepkpmpnofgaaGreat.State (cell_at free_at lt_at)
open Go.Proofs.YthaepkpmpnofgaaGreat.PckWalkB (text bit)
open Go.Proofs.YthaepkpmpnofgaaGreat.PckWalkH (str str_size str_append)

theorem wrap_u (n : Nat) (h : n < 18446744073709551616) : IntKind.u64.wrap (n : Int) = (n : Int) := by rw [IntKind.wrap_u64]; omega

set_option maxRecDepth 100000 in
set_option maxHeartbeats 4000000 in
/-- The steps lie in a world ahead of the writer. -/
theorem write_any {w0 W : World} {p : Nat} {l0 l' : List UInt8} (h : Wrt w0 W p l0) {A : Option Addr} {n c : Nat} {l : List Sp} (hr : RS w0 w0.heap.size A n l) (hb : l0.length + nms l + n * 27 ≤ 140737488000000) (hl : Hid (l0 ++ planB l = l')) :
    Calls Tryz.prog 87 #[.pointer (some ⟨p, 0, none⟩), .slice A n c] W fun e W' => e = .returned (.tuple #[]) ∧ Wrt w0 W' p l' := by
  have hlen := RS.len hr
  have b0 : n < 18446744073709551616 := by omega
  have h63 : n ≤ 9223372036854775807 := by omega
  have z0 := wrap_u n b0
  obtain ⟨l1, e1⟩ : ∃ a, l0 ++ num n = a := ⟨_, rfl⟩
  have s1 : l1.length ≤ l0.length + 9 := by rw [← e1, List.length_append]; have := num9 b0; omega
  have HALL : Hid (l1 ++ spsB l = l') := by
    have e2 : l1 ++ spsB l = l' := by rw [← hl.out, ← e1]; unfold planB; rw [hlen, List.append_assoc]
    exact e2
  have E1 := Lib.hid e1
  have HLEN := Lib.hid hlen
  clear e1 hl hlen
  go_enter Tryz.func87, Tryz.ntmps87
  go_wp2_with fail
  with_reducible refine (wrt_num n h b0 (by omega) E1).mono ?_
  rintro e w1 ⟨rfl, h1⟩
  clear h
  go_wp2
  go_loopw [13] (fun x wr => ∃ j : Nat, j ≤ n ∧ x = .int .i64 (j : Int) ∧ Wrt w0 wr p (l1 ++ spsB (l.take j))) (fun x _ => n - (intOf x).toNat)
  case atStart => exact ⟨0, by omega, rfl, by simpa [spsB] using h1⟩
  case round =>
    obtain ⟨j, hj, rfl, hW⟩ := hrel
    by_cases hjn : j < n
    · have HJ := Lib.hid hjn
      obtain ⟨bk, o, e, rfl, hbl, hej, hthree⟩ := RS.at_ hr hjn
      have hfr := Three.below hthree hW.bel hbl
      have y0 := hfr.c0
      have y1 := hfr.c1
      have y2 := hfr.c2
      have htake := spsB_take hej
      have hnm := nms_at hej
      have hlj := spsB_le (l.take j) (by have := nms_take l j; omega)
      have hltj : (l.take j).length ≤ j := by rw [List.length_take]; omega
      obtain ⟨pt, nm, bg⟩ := e
      simp only at y0 y1 y2 hnm
      have v1 := u64_lt pt
      have v3 := u64_lt bg
      have z1 := u64_wrap pt
      have z3 := u64_wrap bg
      have hspb : spB ⟨pt, nm, bg⟩ = num (u64 pt) ++ (text nm ++ num (u64 bg)) := rfl
      obtain ⟨m1, hm1⟩ : ∃ m, u64 pt = m := ⟨_, rfl⟩
      obtain ⟨m3, hm3⟩ : ∃ m, u64 bg = m := ⟨_, rfl⟩
      rw [hm1] at v1 z1 hspb
      rw [hm3] at v3 z3 hspb
      obtain ⟨a0, x0⟩ : ∃ a, l1 ++ spsB (l.take j) = a := ⟨_, rfl⟩
      have q0 : a0.length ≤ l0.length + 9 + nms (l.take j) + j * 27 := by rw [← x0, List.length_append]; omega
      obtain ⟨a1, x1⟩ : ∃ a, a0 ++ num m1 = a := ⟨_, rfl⟩
      obtain ⟨a2, x2⟩ : ∃ a, a1 ++ text nm = a := ⟨_, rfl⟩
      obtain ⟨a3, x3⟩ : ∃ a, a2 ++ num m3 = a := ⟨_, rfl⟩
      have q1 : a1.length ≤ a0.length + 9 := by rw [← x1, List.length_append]; have := num9 v1; omega
      have q2 : a2.length ≤ a0.length + 18 + nm.size := by rw [← x2, List.length_append]; have := text_length nm (by omega); omega
      have r0 : a0.length ≤ 140737488355000 := by omega
      have r1 : a1.length + nm.size ≤ 140737488355000 := by omega
      have r2 : a2.length ≤ 140737488355000 := by omega
      have hA3 : Hid (l1 ++ spsB (l.take (j + 1)) = a3) := by
        have e1 : l1 ++ spsB (l.take (j + 1)) = a3 := by
          rw [htake, ← List.append_assoc, x0, ← x3, ← x2, ← x1, hspb]
          simp [List.append_assoc]
        exact e1
      rw [x0] at hW
      have X1 := Lib.hid x1
      have X2 := Lib.hid x2
      have X3 := Lib.hid x3
      have hK := (wrk_new hW (.cells #[.int .i64 pt, .string nm, .int .i64 bg] 67)).drew
      have t0 := hK.cell 0
      have t1 := hK.cell 1
      have t2 := hK.cell 2
      clear hfr hthree hej htake hlj x0 x1 x2 x3 hltj h1 hm1 hm3 hspb hnm q0 q1 q2 hb s1
      go_wp2_with fail
      go_region_held3 (fun w' => w'.cell? ⟨wr.heap.size, 0, none⟩ = some (.int .i64 pt) ∧ w'.cell? ⟨wr.heap.size, 1, none⟩ = some (.string nm) ∧ w'.cell? ⟨wr.heap.size, 2, none⟩ = some (.int .i64 bg))
        (first
          | exact ⟨t0, t1, t2⟩
          | exact ⟨hWC.cell 0, hWC.cell 1, hWC.cell 2⟩
          | exact ⟨hWB.cell 0, hWB.cell 1, hWB.cell 2⟩
          | exact ⟨hWA.cell 0, hWA.cell 1, hWA.cell 2⟩)
        (first
          | (go_at_call 49
             (with_reducible refine (wrk_num m1 hK v1 r0 X1).mono ?_)
             rintro e wA ⟨rfl, hWA⟩)
          | (go_at_call 110
             (with_reducible refine (wrk_text nm hWA r1 X2).mono ?_)
             rintro e wB ⟨rfl, hWB⟩)
          | (go_at_call 49
             (with_reducible refine (wrk_num m3 hWB v3 r2 X3).mono ?_)
             rintro e wC ⟨rfl, hWC⟩))
      have hWE := hWC.wrt
      rw [← hA3.out] at hWE
      clear hWC hWB hWA hK t0 t1 t2
      go_wp2
      go_roundw
      case rel => exact ⟨j + 1, HJ.out, by go_num, hWE⟩
      case measure => have := HJ.out; simp [intOf]; omega
    · obtain rfl : j = n := by omega
      have hall : l.take j = l := by rw [List.take_of_length_le (by rw [HLEN.out]; exact Nat.le_refl _)]
      rw [hall, HALL.out] at hW
      go_wp2
      go_end0
      exact ⟨rfl, hW⟩

/-! ### The document's -/
theorem rnum_hid (x : Nat) (w : World) (hx : x < 18446744073709551616) {F : ByteArray} (hF : Hid (str (num x) = F)) :
    Calls Tryz.prog 78 #[.int .u64 (x : Int)] w fun e w' => e = .returned (.string F) ∧ Below w.heap.size w w' :=
  (PckWalkH.num_any x w hx).mono fun _ _ k => ⟨by rw [← hF.out]; exact k.1, k.2⟩
theorem rtext_hid (s : ByteArray) (w : World) (hs : s.size ≤ 140737488355000) {F : ByteArray} (hF : Hid (str (text s) = F)) :
    Calls Tryz.prog 91 #[.string s] w fun e w' => e = .returned (.string F) ∧ Below w.heap.size w w' :=
  (PckWalkH.text_any s w hs).mono fun _ _ k => ⟨by rw [← hF.out]; exact k.1, k.2⟩
set_option maxRecDepth 100000 in
set_option maxHeartbeats 4000000 in
theorem bytes_any {w : World} {A : Option Addr} {n c : Nat} {l : List Sp} (hr : RS w w.heap.size A n l) (hb : nms l + n * 27 ≤ 140737488000000) {S : ByteArray} (hS : Hid (str (planB l) = S)) :
    Calls Tryz.prog 59 #[.slice A n c] w fun e w' => e = .returned (.string S) ∧ Below w.heap.size w w' := by
  have hlen := RS.len hr
  have b0 : n < 18446744073709551616 := by omega
  have h63 : n ≤ 9223372036854775807 := by omega
  have z0 := wrap_u n b0
  obtain ⟨F, hF⟩ : ∃ F, str (num n) = F := ⟨_, rfl⟩
  have hFs : F = str (num n ++ spsB (l.take 0)) := by rw [← hF]; simp [spsB]
  have HF := Lib.hid hF
  have HFS := Lib.hid hFs
  have HALL : Hid (str (num n ++ spsB l) = S) := by
    have e2 : str (num n ++ spsB l) = S := by rw [← hS.out]; unfold planB; rw [hlen]
    exact e2
  have HLEN := Lib.hid hlen
  have h9 := num9 b0
  clear hlen hF hFs hS
  go_enter Tryz.func59, Tryz.ntmps59
  go_wp2_with fail
  with_reducible refine (rnum_hid n _ b0 HF).mono ?_
  rintro e w1 ⟨rfl, h1⟩
  go_wp2
  go_loopw [3, 4] (fun s x wr => ∃ j : Nat, j ≤ n ∧ x = .int .i64 (j : Int) ∧ s = .string (str (num n ++ spsB (l.take j))) ∧ Below w.heap.size w wr) (fun _ x _ => n - (intOf x).toNat)
  case atStart => exact ⟨0, by omega, rfl, by rw [HFS.out], h1⟩
  case round =>
    obtain ⟨j, hj, rfl, rfl, hbel⟩ := hrel
    clear h1
    by_cases hjn : j < n
    · have HJ := Lib.hid hjn
      obtain ⟨bk, o, e, rfl, hbl, hej, hthree⟩ := RS.at_ hr hjn
      have hfr := Three.below hthree hbel hbl
      have y0 := hfr.c0
      have y1 := hfr.c1
      have y2 := hfr.c2
      have htake := spsB_take hej
      have hnm := nms_at hej
      have hlj := spsB_le (l.take j) (by have := nms_take l j; omega)
      have hltj : (l.take j).length ≤ j := by rw [List.length_take]; omega
      obtain ⟨pt, nm, bg⟩ := e
      simp only at y0 y1 y2 hnm
      have v1 := u64_lt pt
      have v3 := u64_lt bg
      have z1 := u64_wrap pt
      have z3 := u64_wrap bg
      have hspb : spB ⟨pt, nm, bg⟩ = num (u64 pt) ++ (text nm ++ num (u64 bg)) := rfl
      obtain ⟨m1, hm1⟩ : ∃ m, u64 pt = m := ⟨_, rfl⟩
      obtain ⟨m3, hm3⟩ : ∃ m, u64 bg = m := ⟨_, rfl⟩
      rw [hm1] at v1 z1 hspb
      rw [hm3] at v3 z3 hspb
      obtain ⟨P, hP⟩ : ∃ P, str (num n ++ spsB (l.take j)) = P := ⟨_, rfl⟩
      obtain ⟨F1, hF1⟩ : ∃ F, str (num m1) = F := ⟨_, rfl⟩
      obtain ⟨F2, hF2⟩ : ∃ F, str (text nm) = F := ⟨_, rfl⟩
      obtain ⟨F3, hF3⟩ : ∃ F, str (num m3) = F := ⟨_, rfl⟩
      have hPs : P.size ≤ 140737488000009 := by rw [← hP, str_size, List.length_append]; omega
      have hs1 : F1.size ≤ 9 := by rw [← hF1, str_size]; exact num9 v1
      have hs3 : F3.size ≤ 9 := by rw [← hF3, str_size]; exact num9 v3
      have hs2 : F2.size ≤ 140737488000009 := by rw [← hF2, str_size]; have := text_length nm (by omega); omega
      have hn2 : nm.size ≤ 140737488355000 := by omega
      have u1 : ¬ 9223372036854775807 < F1.size + F2.size := by omega
      have u2 : ¬ 9223372036854775807 < F1.size + F2.size + F3.size := by omega
      have u4 : ¬ 9223372036854775807 < P.size + (F1.size + F2.size + F3.size) := by omega
      have HN : Hid (P ++ (F1 ++ F2 ++ F3) = str (num n ++ spsB (l.take (j + 1)))) := by
        have e1 : P ++ (F1 ++ F2 ++ F3) = str (num n ++ spsB (l.take (j + 1))) := by
          rw [← hP, ← hF1, ← hF2, ← hF3, str_append, str_append, str_append, htake, hspb]
          simp [List.append_assoc]
        exact e1
      have HF1 := Lib.hid hF1
      have HF2 := Lib.hid hF2
      have HF3 := Lib.hid hF3
      have hlt : bk < wr.heap.size := Nat.lt_of_lt_of_le hbl hbel.size
      have hji : (j : Int) < (n : Int) := by omega
      have hj0 : (0 : Int) ≤ (j : Int) := by omega
      rw [hP]
      clear hfr hthree hej htake hlj hltj hP hF1 hF2 hF3 hm1 hm3 hspb hnm hPs hs1 hs2 hs3 hb h9
      go_wp2_with fail
      go_region_held3 (fun w' => w'.cell? ⟨bk, o + j * 3, none⟩ = some (.int .i64 pt) ∧ w'.cell? ⟨bk, o + j * 3 + 1, none⟩ = some (.string nm) ∧ w'.cell? ⟨bk, o + j * 3 + 2, none⟩ = some (.int .i64 bg))
        (first
          | exact ⟨y0, y1, y2⟩
          | exact ⟨(hbC.cell (p := ⟨bk, o + j * 3, none⟩) hlt).trans y0, (hbC.cell (p := ⟨bk, o + j * 3 + 1, none⟩) hlt).trans y1, (hbC.cell (p := ⟨bk, o + j * 3 + 2, none⟩) hlt).trans y2⟩
          | exact ⟨(hbB.cell (p := ⟨bk, o + j * 3, none⟩) hlt).trans y0, (hbB.cell (p := ⟨bk, o + j * 3 + 1, none⟩) hlt).trans y1, (hbB.cell (p := ⟨bk, o + j * 3 + 2, none⟩) hlt).trans y2⟩
          | exact ⟨(hbA.cell (p := ⟨bk, o + j * 3, none⟩) hlt).trans y0, (hbA.cell (p := ⟨bk, o + j * 3 + 1, none⟩) hlt).trans y1, (hbA.cell (p := ⟨bk, o + j * 3 + 2, none⟩) hlt).trans y2⟩)
        (first
          | (go_at_call 78
             (with_reducible refine (rnum_hid m1 _ v1 HF1).mono ?_)
             rintro e wA ⟨rfl, hA⟩
             have hbA : Below wr.heap.size wr wA := ((Below.refl _ wr).drew).trans hA)
          | (go_at_call 91
             (with_reducible refine (rtext_hid nm _ hn2 HF2).mono ?_)
             rintro e wB ⟨rfl, hB⟩
             have hbB : Below wr.heap.size wr wB := hbA.trans (hB.mono hbA.size))
          | (go_at_call 78
             (with_reducible refine (rnum_hid m3 _ v3 HF3).mono ?_)
             rintro e wC ⟨rfl, hC⟩
             have hbC : Below wr.heap.size wr wC := hbB.trans (hC.mono hbB.size)))
      have HBN : Hid (Below w.heap.size w wC) := hbel.trans (hbC.mono hbel.size)
      clear hbC hbB hbA
      go_wp2
      go_roundw
      case rel => exact ⟨j + 1, HJ.out, by go_num, by rw [HN.out], HBN.out⟩
      case measure => have := HJ.out; simp [intOf]; omega
    · obtain rfl : j = n := by omega
      have hall : l.take j = l := List.take_of_length_le (by rw [HLEN.out]; exact Nat.le_refl _)
      rw [hall, HALL.out]
      go_wp2
      go_ret
      exact ⟨rfl, hbel⟩
end Go.Proofs.YthaepkpmpnofgaaGreat.PlnWalkC
