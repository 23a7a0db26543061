/- What the document's Add leaves, walked. -/
import Derived.Test.YtndehdnffajigaaRefE
set_option linter.unusedVariables false
namespace Go.Proofs.Ytndehdnffajigaa.RefF
open Go.RowKit Go.Proofs.Ytndehdnffajigaa.Kit Go.Proofs.Ytndehdnffajigaa.Blocks Go.Proofs.Ytndehdnffajigaa.Rlog Go.Proofs.Ytndehdnffajigaa.Ents Go.Proofs.Ytndehdnffajigaa.LogAt Go.Proofs.Ytndehdnffajigaa.App Go.Proofs.Ytndehdnffajigaa.WalkA Go.Proofs.Ytndehdnffajigaa.WalkB Go.Proofs.Ytndehdnffajigaa.WalkC Go.Proofs.Ytndehdnffajigaa.WalkD Go.Proofs.Ytndehdnffajigaa.WalkF Go.Proofs.Ytndehdnffajigaa.WalkG Go.Proofs.Ytndehdnffajigaa.WalkH Go.Proofs.Ytndehdnffajigaa.RefB Go.Proofs.Ytndehdnffajigaa.RefC

section
variable {B p : Nat} {v : Value} {g : G} {w : World} (h : LR B w p v g) (f : Fine g) (t : Nat) (kind : Int) (d : ByteArray)
include h f
variable (ht : t < 18446744073709551616) (k0 : -9223372036854775808 ≤ kind) (k1 : kind ≤ 9223372036854775807) (hd : d.size ≤ 9223372036854775807)
include ht k0 k1 hd
set_option maxHeartbeats 1000000 in
theorem radd_bad {q : Nat} (hq : q = ((last g).1 + 1) % 18446744073709551616) (hm : may ⟨t, q, kind, d⟩ (last g).1 (last g).2 = false) : Calls Try.prog 33 #[.pointer (some ⟨p, 0, none⟩), .int .u64 (t : Int), .int .i64 kind, .string d] w (Adds 73 B w p v ((noEnt, 1), g)) := by
  have hba : Below w.heap.size w (w.alloc (.cells #[.int .u64 0, .int .u64 0, .int .i64 0, .string .empty] 47)) := (Below.refl _ _).alloc (Nat.le_refl _) _
  have hla := rlast_any (h.below hba)
  have hlb := f.last_b.1
  have hbe : EntB ⟨t, q, kind, d⟩ := ⟨ht, by show q < _; omega, k0, k1, hd⟩
  have hlie := fun w => rmay_any (i := (last g).1) (t := (last g).2) hbe w hlb hq
  rw [hm] at hlie
  unfold entV at hlie
  simp only at hlie
  have hw : IntKind.u64.wrap (((last g).1 : Int) + 1) = (q : Int) := by rw [hq]; exact wrap_succ hlb
  obtain ⟨I, hI⟩ : ∃ I, (last g).1 = I := ⟨_, rfl⟩
  obtain ⟨L, hL⟩ : ∃ L, (last g).2 = L := ⟨_, rfl⟩
  rw [hI] at hla hw
  rw [hL] at hla hlie
  have HLa := Lib.hid hla
  have HLie := Lib.hid hlie
  have HB := Lib.hid hba
  have HC := Lib.hid (Box4.new w (.int .u64 0) (.int .u64 0) (.int .i64 0) (.string .empty) 47)
  have H := Lib.hid h
  clear hla hL hba h hlie hI hlb hm f hq hbe
  go_enter Try.func33, Try.ntmps33
  go_wp2_with fail
  refine HLa.out.mono ?_
  rintro e w1 ⟨rfl, hb1⟩
  have hs1 : w.heap.size + 1 ≤ w1.heap.size := by have := hb1.size; simpa using this
  go_wp2_with fail
  refine (HLie.out _).mono ?_
  rintro e w2 ⟨rfl, hb2⟩
  have hb12 : Below w1.heap.size w1 w2 := ((Below.refl _ _).alloc (Nat.le_refl _) _).trans (hb2.mono (by simp))
  have hx := (HC.out.below hb1).below hb12
  have c0 := hx.c0
  have c1 := hx.c1
  have c2 := hx.c2
  have c3 := hx.c3
  have f0 := hx.free 0
  have f1 := hx.free 1
  have f2 := hx.free 2
  have f3 := hx.free 3
  have hlt := hx.lt
  have HX := Lib.hid hx
  have HB1 : Hid (Below w.heap.size w w2) := Lib.hid ((HB.out.trans (hb1.mono (by simp))).trans (hb12.mono (by omega)))
  clear hx hb1 hb2 hb12
  go_wp2
  have hs := HX.out.set (.int .u64 0) (.int .u64 0) (.int .i64 0) (.string .empty)
  refine bodyPost_ret (results_row_tmp (p := 8) (u := 9) (ty := 47) rfl _ _ w.heap.size 47 _ (0, 0) _ rfl hs.1.blk Try.underlying47 rfl (by kernel_rfl)) rfl ?_
  exact ⟨rfl, LeftL.of_below H.out (HB1.out.trans (hs.2.below (by have := HX.out.lt; omega) fun q hq => by rw [hq]; exact Nat.le_refl _))⟩
set_option maxHeartbeats 2000000 in
theorem radd_ok {q : Nat} (hq : q = ((last g).1 + 1) % 18446744073709551616) (hm : may ⟨t, q, kind, d⟩ (last g).1 (last g).2 = true) (hroom : (g.es.length + 1) * 40 ≤ 140737488355328) :
    Calls Try.prog 33 #[.pointer (some ⟨p, 0, none⟩), .int .u64 (t : Int), .int .i64 kind, .string d] w (Adds 73 B w p v ((⟨t, q, kind, d⟩, 0), { g with es := g.es ++ [⟨t, q, kind, d⟩] })) := by
  have hba : Below w.heap.size w (w.alloc (.cells #[.int .u64 0, .int .u64 0, .int .i64 0, .string .empty] 47)) := (Below.refl _ _).alloc (Nat.le_refl _) _
  have hla := rlast_any (h.below hba)
  have hlb := f.last_b.1
  have hbe : EntB ⟨t, q, kind, d⟩ := ⟨ht, by show q < _; omega, k0, k1, hd⟩
  have hlie := fun w => rmay_any (i := (last g).1) (t := (last g).2) hbe w hlb hq
  rw [hm] at hlie
  obtain ⟨ne, hne0⟩ : ∃ ne : Ent, ⟨t, q, kind, d⟩ = ne := ⟨_, rfl⟩
  have hnt : ne = ⟨t, q, kind, d⟩ := hne0.symm
  rw [hne0]
  unfold entV at hlie
  simp only at hlie
  have hw : IntKind.u64.wrap (((last g).1 : Int) + 1) = (q : Int) := by rw [hq]; exact wrap_succ hlb
  obtain ⟨I, hI⟩ : ∃ I, (last g).1 = I := ⟨_, rfl⟩
  obtain ⟨L, hL⟩ : ∃ L, (last g).2 = L := ⟨_, rfl⟩
  rw [hI] at hla hw
  rw [hL] at hla hlie
  have HLa := Lib.hid hla
  have HLie := Lib.hid hlie
  have HB := Lib.hid hba
  have HC := Lib.hid (Box4.new w (.int .u64 0) (.int .u64 0) (.int .i64 0) (.string .empty) 47)
  have H := Lib.hid h
  have HE : Hid (entCs ne = [.int .u64 (t : Int), .int .u64 (q : Int), .int .i64 kind, .string d]) := by show _ = _; rw [hnt]; rfl
  have HNT := Lib.hid hnt
  clear hla hL hba h hlie hI hlb hm f hnt hne0 hq hbe
  go_enter Try.func33, Try.ntmps33
  go_wp2_with fail
  refine HLa.out.mono ?_
  rintro e w1 ⟨rfl, hb1⟩
  have hs1 : w.heap.size + 1 ≤ w1.heap.size := by have := hb1.size; simpa using this
  have hy := Box4.new w1 (.int .u64 (t : Int)) (.int .u64 (q : Int)) (.int .i64 kind) (.string d) 47
  have HY := Lib.hid hy
  clear hy
  go_wp2_with fail
  refine (HLie.out _).mono ?_
  rintro e w2 ⟨rfl, hb2⟩
  have hb12 : Below w1.heap.size w1 w2 := ((Below.refl _ _).alloc (Nat.le_refl _) _).trans (hb2.mono (by simp))
  have hx := (HC.out.below hb1).below hb12
  have hz := HY.out.below hb2
  have hB2 : Below w.heap.size w w2 := (HB.out.trans (hb1.mono (by simp))).trans (hb12.mono (by omega))
  have h2 := H.out.below hB2
  have e0 := hz.c0
  have e1 := hz.c1
  have e2 := hz.c2
  have e3 := hz.c3
  have hd4 : w2.cell? ⟨p, 4, none⟩ = some v := h2.c4
  have hlt2 := h2.lt
  have hltz := hz.lt
  have hown : ∀ o, (w2.alloc o).drew.ownsRow B 47 4 v g.es.length (ecells g.es) := fun o => ((h2.below ((Below.refl _ _).alloc (Nat.le_refl _) o)).drew).own
  have hnews : RE (w2.alloc (.cells #[.int .u64 (t : Int), .int .u64 (q : Int), .int .i64 kind, .string d] 47)).drew (w2.heap.size + 1) (some ⟨w2.heap.size, 0, none⟩) 1 [ne] := by
    have := Reads.drew (ent_new w2 ne 47)
    rwa [HE.out] at this
  obtain ⟨A, c, rfl, _, _, _⟩ := h2.form
  have hbase : ∀ o, B ≤ (w2.alloc o).drew.heap.size := fun o => by have := h2.base; simp; omega
  have HX := Lib.hid hx
  have HZ := Lib.hid hz
  have HB2 := Lib.hid hB2
  have H2 := Lib.hid h2
  have HO := Lib.hid hown
  have HN := Lib.hid hnews
  have HBS := Lib.hid hbase
  clear hx hz hB2 h2 hb1 hb2 hb12 hown hnews hbase
  go_wp2_with fail
  go_region_law (first
    | (refine step_app (v := .slice A g.es.length c) _ rfl _ _ rfl B rfl (HO.out _) rfl HN.out (ecells_one _) hroom (HBS.out _) ?_
       intro A' c' w3 hown3 hg3 hat3
       have ho3 := ((Only.refl (fun q => (Value.slice A g.es.length c).ownBlock = some q) w2).alloc _).drew.grown hg3 (fun q hq => .inr hq)
       have hat' : ∀ q, (Value.slice A' (g.es.length + 1) c').ownBlock = some q → (Value.slice A g.es.length c).ownBlock = some q ∨ w2.heap.size ≤ q := fun q hq => by
         rcases hat3 with e | e
         · exact .inl (e ▸ hq)
         · rw [hq] at e; cases e; exact .inr (by simp)
       obtain ⟨hcell3, hfr3, hleft⟩ := H2.out.rowed (es := g.es ++ [ne]) ho3 hown3 (by simp) (by rw [ecells_append]) hat'
       have hlt3 : p < w3.heap.size := Nat.lt_of_lt_of_le hlt2 ho3.size
       have HO3 := Lib.hid ho3
       have HL := Lib.hid hleft
       clear hleft hat' hat3 hg3 hown3 ho3))
  all_goals
    generalize w3.setCell ⟨p, 4, none⟩ _ = w5 at HL ⊢
    have hol : Only (Foot p (.slice A g.es.length c)) w2 w5 := by obtain ⟨v', h', o', f'⟩ := HL.out; exact o'
    have hz5 := HZ.out.keep hol (fun e => by have := (H.out.foot_lt e).2; omega)
    have hx5 := HX.out.keep hol (fun e => by have := (H.out.foot_lt e).2; omega)
    have q0 := hz5.c0
    have q1 := hz5.c1
    have q2 := hz5.c2
    have q3 := hz5.c3
    have c0 := hx5.c0
    have c1 := hx5.c1
    have c2 := hx5.c2
    have c3 := hx5.c3
    have f0 := hx5.free 0
    have f1 := hx5.free 1
    have f2 := hx5.free 2
    have f3 := hx5.free 3
    have hltx := hx5.lt
    have hltz5 := hz5.lt
    have HX5 := Lib.hid hx5
    clear hx5 hz5 hol
    go_wp2
    have hs := HX5.out.set (.int .u64 (t : Int)) (.int .u64 (q : Int)) (.int .i64 kind) (.string d)
    refine bodyPost_ret (results_row_tmp (p := 8) (u := 9) (ty := 47) rfl _ _ w.heap.size 47 _ (0, 0) _ rfl hs.1.blk Try.underlying47 rfl (by kernel_rfl)) rfl ?_
    exact ⟨by rw [HNT.out]; rfl, LeftL.boxed H.out HB2.out HL.out (Nat.le_refl _) (by have := HX.out.lt; exact this) hs.2⟩
/-- Whatever is to be added. -/
theorem radd_any (hroom : (g.es.length + 1) * 40 ≤ 140737488355328) : Calls Try.prog 33 #[.pointer (some ⟨p, 0, none⟩), .int .u64 (t : Int), .int .i64 kind, .string d] w (Adds 73 B w p v (add g t kind d)) := by
  have hlb := f.last_b.1
  unfold Rlog.add addOk
  by_cases hl : (last g).1 = 18446744073709551615
  · rw [decide_eq_false (by simpa using hl), Bool.false_and, if_neg (by simp)]
    exact radd_bad h f t kind d ht k0 k1 hd (q := 0) (by rw [hl]) (by unfold may; rw [decide_eq_false (by simp)]; rfl)
  · have hq : (last g).1 + 1 = ((last g).1 + 1) % 18446744073709551616 := by omega
    rw [decide_eq_true hl, Bool.true_and]
    cases hm : may (new g t kind d) (last g).1 (last g).2 with
    | true => rw [if_pos rfl]; exact radd_ok h f t kind d ht k0 k1 hd hq hm hroom
    | false => rw [if_neg (by simp)]; exact radd_bad h f t kind d ht k0 k1 hd hq hm
end
end Go.Proofs.Ytndehdnffajigaa.RefF
