/- What the program's Add leaves, walked. -/
import Derived.Test.YtdbmpfongfiagaaRlgWalkG
set_option linter.unusedVariables false
namespace Go.Proofs.Ytdbmpfongfiagaa.RlgWalkH
open Go.RowKit Go.Proofs.Ytdbmpfongfiagaa.Kit Go.Proofs.Ytdbmpfongfiagaa.Blocks Go.Proofs.Ytdbmpfongfiagaa.Rlog Go.Proofs.Ytdbmpfongfiagaa.Ents Go.Proofs.Ytdbmpfongfiagaa.LogAt Go.Proofs.Ytdbmpfongfiagaa.App Go.Proofs.Ytdbmpfongfiagaa.RlgWalkA Go.Proofs.Ytdbmpfongfiagaa.RlgWalkB Go.Proofs.Ytdbmpfongfiagaa.RlgWalkC Go.Proofs.Ytdbmpfongfiagaa.RlgWalkD Go.Proofs.Ytdbmpfongfiagaa.RlgWalkE Go.Proofs.Ytdbmpfongfiagaa.RlgWalkF Go.Proofs.Ytdbmpfongfiagaa.RlgWalkG

/-- Two results, the first one in a block that is known whole. -/
theorem results_row_tmp {P : Program} {fn : Func} {p u : Tmp} {ty : TypeId} (h : fn.results = #[.cell p ty, .tmp u]) (tmps : Array Value) (w : World) (g : Nat) (t : TypeId) (cs : Array Value) (fr : Nat × Nat) (d : TypeDesc)
    (hp : tmps.getD p undef = .pointer (some ⟨g, 0, none⟩)) (hg : w.heap[g]? = some (.cells cs t fr))
    (hu : P.underlying ty = some d) (hd : (match d with | .struct _ | .array _ _ => true | _ => false) = true) (hi : (P.info? ty).map (·.size) = some cs.size) :
    (results fn tmps).run P w = .ok (.tuple #[.agg cs, tmps.getD u undef]) w := by
  have hp' : tmps[p]?.getD undef = .pointer (some ⟨g, 0, none⟩) := by simpa using hp
  simp [results, h, hp', asAddr, Result.andThen, run_loadVar_row w g t ty cs fr d hg hu hd hi]
/-- What a call that adds an entry leaves. -/
def Adds (T : TypeId) (B : Nat) (w : World) (p : Nat) (v : Value) (r : (Ent × Int) × G) (e : Ending) (w' : World) : Prop :=
  e = .returned (.tuple #[entV r.1.1, .int .i64 r.1.2]) ∧ LeftL T B w p v r.2 w'
/-- One new entry. -/
theorem ent_new (w : World) (e : Ent) (t : TypeId) : RE (w.alloc (.cells (entCs e).toArray t)) (w.heap.size + 1) (some ⟨w.heap.size, 0, none⟩) 1 [e] := by
  refine ⟨by rw [ecells_length]; rfl, fun _ => ⟨_, rfl, Nat.lt_succ_self _, fun j x hj => ?_⟩⟩
  rw [ecells_one_ent] at hj
  rw [Addr.add_lit, Nat.zero_add, cell_of_row _ _ j _ t (0, 0) (heap_alloc_new w _)]
  simpa using hj
/-- A block of four cells. -/
structure Box4 (w : World) (r : Nat) (a b c d : Value) (T : TypeId) : Prop where
  blk : w.heap[r]? = some (.cells #[a, b, c, d] T (0, 0))
section
variable {w w' : World} {r : Nat} {a b c d : Value} {T : TypeId}
theorem Box4.lt (h : Box4 w r a b c d T) : r < w.heap.size := lt_at h.blk
theorem Box4.c0 (h : Box4 w r a b c d T) : w.cell? ⟨r, 0, none⟩ = some a := by rw [cell_at h.blk]; rfl
theorem Box4.c1 (h : Box4 w r a b c d T) : w.cell? ⟨r, 1, none⟩ = some b := by rw [cell_at h.blk]; rfl
theorem Box4.c2 (h : Box4 w r a b c d T) : w.cell? ⟨r, 2, none⟩ = some c := by rw [cell_at h.blk]; rfl
theorem Box4.c3 (h : Box4 w r a b c d T) : w.cell? ⟨r, 3, none⟩ = some d := by rw [cell_at h.blk]; rfl
theorem Box4.free (h : Box4 w r a b c d T) (i : Nat) : w.frozen? ⟨r, i, none⟩ = false := free_at h.blk i
theorem Box4.keep (h : Box4 w r a b c d T) {S : Nat → Prop} (k : Only S w w') (hr : ¬ S r) : Box4 w' r a b c d T := ⟨k.heap h.blk hr⟩
theorem Box4.below (h : Box4 w r a b c d T) (k : Below w.heap.size w w') : Box4 w' r a b c d T := ⟨(k.block r h.lt).trans h.blk⟩
theorem Box4.new (w : World) (a b c d : Value) (T : TypeId) : Box4 (w.alloc (.cells #[a, b, c, d] T)) w.heap.size a b c d T := ⟨heap_alloc_new w _⟩
theorem Box4.set (h : Box4 w r a b c d T) (a' b' c' d' : Value) : Box4 ((((w.setCell ⟨r, 0, none⟩ a').setCell ⟨r, 1, none⟩ b').setCell ⟨r, 2, none⟩ c').setCell ⟨r, 3, none⟩ d') r a' b' c' d' T ∧
    Only (fun q => q = r) w ((((w.setCell ⟨r, 0, none⟩ a').setCell ⟨r, 1, none⟩ b').setCell ⟨r, 2, none⟩ c').setCell ⟨r, 3, none⟩ d') := by
  refine ⟨⟨?_⟩, ((((Only.refl (fun q => q = r) w).setCell (a := ⟨r, 0, none⟩) (.inr rfl) _).setCell (a := ⟨r, 1, none⟩) (.inr rfl) _).setCell (a := ⟨r, 2, none⟩) (.inr rfl) _).setCell (a := ⟨r, 3, none⟩) (.inr rfl) _⟩
  rw [set_at (set_at (set_at (set_at h.blk _) _) _) _]
  rfl
end
section
variable {B p : Nat} {v : Value} {g : G} {w : World} (h : LP B w p v g) (f : Fine g) (t : Nat) (kind : Int) (d : ByteArray)
include h f
set_option maxRecDepth 100000 in
theorem add_full (hl : (last g).1 = 18446744073709551615) : Calls Try.prog 65 #[.pointer (some ⟨p, 0, none⟩), .int .u64 (t : Int), .int .i64 kind, .string d] w (Adds 61 B w p v ((noEnt, 1), g)) := by
  have hba : Below w.heap.size w (w.alloc (.cells #[.int .u64 0, .int .u64 0, .int .i64 0, .string .empty] 57)) := (Below.refl _ _).alloc (Nat.le_refl _) _
  have hla := last_any (h.below hba) f
  rw [hl] at hla
  obtain ⟨L, hL⟩ : ∃ L, (last g).2 = L := ⟨_, rfl⟩
  rw [hL] at hla
  have HLa := Lib.hid hla
  have HB := Lib.hid hba
  have HC := Lib.hid (Box4.new w (.int .u64 0) (.int .u64 0) (.int .i64 0) (.string .empty) 57)
  have H := Lib.hid h
  clear hla hL hl hba h
  go_enter Try.func65, Try.ntmps65
  go_wp2_with fail
  refine HLa.out.mono ?_
  rintro e w1 ⟨rfl, hb1⟩
  have hx := HC.out.below hb1
  have c0 := hx.c0
  have c1 := hx.c1
  have c2 := hx.c2
  have c3 := hx.c3
  have f0 := hx.free 0
  have f1 := hx.free 1
  have f2 := hx.free 2
  have f3 := hx.free 3
  have hlt := hx.lt
  have HX := Lib.hid hx
  have HB1 := Lib.hid hb1
  clear hx hb1
  go_wp2
  have hs := HX.out.set (.int .u64 0) (.int .u64 0) (.int .i64 0) (.string .empty)
  refine bodyPost_ret (results_row_tmp (p := 8) (u := 9) (ty := 57) rfl _ _ w.heap.size 57 _ (0, 0) _ rfl hs.1.blk Try.underlying57 rfl (by kernel_rfl)) rfl ?_
  exact ⟨rfl, LeftL.of_below H.out ((HB.out.trans (HB1.out.mono (by simp))).trans (hs.2.below (by have := HX.out.lt; omega) fun q hq => by rw [hq]; exact Nat.le_refl _))⟩
section
variable (ht : t < 18446744073709551616) (k0 : -9223372036854775808 ≤ kind) (k1 : kind ≤ 9223372036854775807) (hd : d.size ≤ 9223372036854775807)
include ht k0 k1 hd
omit h in
theorem new_b (hl : (last g).1 ≠ 18446744073709551615) : EntB (new g t kind d) := ⟨ht, by have := f.last_b.1; simp only [new]; omega, k0, k1, hd⟩
set_option maxRecDepth 100000 in
set_option maxHeartbeats 1000000 in
theorem add_bad (hl : (last g).1 ≠ 18446744073709551615) (hm : may (new g t kind d) (last g).1 (last g).2 = false) : Calls Try.prog 65 #[.pointer (some ⟨p, 0, none⟩), .int .u64 (t : Int), .int .i64 kind, .string d] w (Adds 61 B w p v ((noEnt, 1), g)) := by
  have hba : Below w.heap.size w (w.alloc (.cells #[.int .u64 0, .int .u64 0, .int .i64 0, .string .empty] 57)) := (Below.refl _ _).alloc (Nat.le_refl _) _
  have hla := last_any (h.below hba) f
  have hlb := f.last_b.1
  have hlie := fun w => lie_any (i := (last g).1) (t := (last g).2) (new_b f t kind d ht k0 k1 hd hl) w
  rw [hm] at hlie
  unfold new entV at hlie
  simp only at hlie
  have hw : IntKind.u64.wrap (((last g).1 : Int) + 1) = (((last g).1 + 1 : Nat) : Int) := by rw [show ((last g).1 : Int) + 1 = (((last g).1 + 1 : Nat) : Int) by omega]; exact IntWalk.u64_in _ (by omega)
  have hne : (((last g).1 : Int) == 18446744073709551615) = false := by simp; omega
  obtain ⟨I, hI⟩ : ∃ I, (last g).1 = I := ⟨_, rfl⟩
  obtain ⟨L, hL⟩ : ∃ L, (last g).2 = L := ⟨_, rfl⟩
  obtain ⟨J, hJ⟩ : ∃ J, (last g).1 + 1 = J := ⟨_, rfl⟩
  rw [hJ] at hlie hw
  rw [hI] at hla hlie hw hne
  rw [hL] at hla hlie
  have HLa := Lib.hid hla
  have HLie := Lib.hid hlie
  have HB := Lib.hid hba
  have HC := Lib.hid (Box4.new w (.int .u64 0) (.int .u64 0) (.int .i64 0) (.string .empty) 57)
  have H := Lib.hid h
  clear hla hL hl hba h hlie hI hJ hlb hm f
  go_enter Try.func65, Try.ntmps65
  go_wp2_with fail
  refine HLa.out.mono ?_
  rintro e w1 ⟨rfl, hb1⟩
  have hs1 : w.heap.size + 1 ≤ w1.heap.size := by have := hb1.size; simpa using this
  go_wp2_with fail
  refine (HLie.out _).mono ?_
  rintro e w2 ⟨rfl, hb2⟩
  have hb12 : Below w1.heap.size w1 w2 := ((Below.refl _ _).alloc (Nat.le_refl _) _).trans (hb2.mono (by simp))
  have hx := (HC.out.below hb1).below hb12
  have c0 := hx.c0
  have c1 := hx.c1
  have c2 := hx.c2
  have c3 := hx.c3
  have f0 := hx.free 0
  have f1 := hx.free 1
  have f2 := hx.free 2
  have f3 := hx.free 3
  have hlt := hx.lt
  have HX := Lib.hid hx
  have HB1 : Hid (Below w.heap.size w w2) := Lib.hid ((HB.out.trans (hb1.mono (by simp))).trans (hb12.mono (by omega)))
  clear hx hb1 hb2 hb12
  go_wp2
  have hs := HX.out.set (.int .u64 0) (.int .u64 0) (.int .i64 0) (.string .empty)
  refine bodyPost_ret (results_row_tmp (p := 8) (u := 9) (ty := 57) rfl _ _ w.heap.size 57 _ (0, 0) _ rfl hs.1.blk Try.underlying57 rfl (by kernel_rfl)) rfl ?_
  exact ⟨rfl, LeftL.of_below H.out (HB1.out.trans (hs.2.below (by have := HX.out.lt; omega) fun q hq => by rw [hq]; exact Nat.le_refl _))⟩
set_option maxRecDepth 100000 in
set_option maxHeartbeats 2000000 in
theorem add_ok (hl : (last g).1 ≠ 18446744073709551615) (hm : may (new g t kind d) (last g).1 (last g).2 = true) (hroom : (g.es.length + 1) * 40 ≤ 140737488355328) : Calls Try.prog 65 #[.pointer (some ⟨p, 0, none⟩), .int .u64 (t : Int), .int .i64 kind, .string d] w (Adds 61 B w p v ((new g t kind d, 0), { g with es := g.es ++ [new g t kind d] })) := by
  have hba : Below w.heap.size w (w.alloc (.cells #[.int .u64 0, .int .u64 0, .int .i64 0, .string .empty] 57)) := (Below.refl _ _).alloc (Nat.le_refl _) _
  have hla := last_any (h.below hba) f
  have hlb := f.last_b.1
  have hlie := fun w => lie_any (i := (last g).1) (t := (last g).2) (new_b f t kind d ht k0 k1 hd hl) w
  rw [hm] at hlie
  obtain ⟨ne, hne0⟩ : ∃ ne, new g t kind d = ne := ⟨_, rfl⟩
  have hnt : ne = ⟨t, (last g).1 + 1, kind, d⟩ := hne0.symm
  rw [hne0] at hlie ⊢
  unfold entV at hlie
  have hw : IntKind.u64.wrap (((last g).1 : Int) + 1) = (((last g).1 + 1 : Nat) : Int) := by rw [show ((last g).1 : Int) + 1 = (((last g).1 + 1 : Nat) : Int) by omega]; exact IntWalk.u64_in _ (by omega)
  have hne : (((last g).1 : Int) == 18446744073709551615) = false := by simp; omega
  obtain ⟨I, hI⟩ : ∃ I, (last g).1 = I := ⟨_, rfl⟩
  obtain ⟨L, hL⟩ : ∃ L, (last g).2 = L := ⟨_, rfl⟩
  obtain ⟨J, hJ⟩ : ∃ J, (last g).1 + 1 = J := ⟨_, rfl⟩
  rw [hJ] at hnt hw
  rw [hnt] at hlie
  simp only at hlie
  rw [hI] at hla hlie hw hne
  rw [hL] at hla hlie
  have HLa := Lib.hid hla
  have HLie := Lib.hid hlie
  have HB := Lib.hid hba
  have HC := Lib.hid (Box4.new w (.int .u64 0) (.int .u64 0) (.int .i64 0) (.string .empty) 57)
  have H := Lib.hid h
  have HE : Hid (entCs ne = [.int .u64 (t : Int), .int .u64 (J : Int), .int .i64 kind, .string d]) := by show _ = _; rw [hnt]; rfl
  have HNT := Lib.hid hnt
  clear hla hL hl hba h hlie hI hJ hlb hm f hnt hne0
  go_enter Try.func65, Try.ntmps65
  go_wp2_with fail
  refine HLa.out.mono ?_
  rintro e w1 ⟨rfl, hb1⟩
  have hs1 : w.heap.size + 1 ≤ w1.heap.size := by have := hb1.size; simpa using this
  have hy := Box4.new w1 (.int .u64 (t : Int)) (.int .u64 (J : Int)) (.int .i64 kind) (.string d) 57
  have HY := Lib.hid hy
  clear hy
  go_wp2_with fail
  refine (HLie.out _).mono ?_
  rintro e w2 ⟨rfl, hb2⟩
  have hb12 : Below w1.heap.size w1 w2 := ((Below.refl _ _).alloc (Nat.le_refl _) _).trans (hb2.mono (by simp))
  have hx := (HC.out.below hb1).below hb12
  have hz := HY.out.below hb2
  have hB2 : Below w.heap.size w w2 := (HB.out.trans (hb1.mono (by simp))).trans (hb12.mono (by omega))
  have h2 := H.out.below hB2
  have e0 := hz.c0
  have e1 := hz.c1
  have e2 := hz.c2
  have e3 := hz.c3
  have hd4 : w2.cell? ⟨p, 4, none⟩ = some v := h2.c4
  have hlt2 := h2.lt
  have hltz := hz.lt
  have hown : ∀ o, (w2.alloc o).drew.ownsRow B 57 4 v g.es.length (ecells g.es) := fun o => ((h2.below ((Below.refl _ _).alloc (Nat.le_refl _) o)).drew).own
  have hnews : RE (w2.alloc (.cells #[.int .u64 (t : Int), .int .u64 (J : Int), .int .i64 kind, .string d] 57)).drew (w2.heap.size + 1) (some ⟨w2.heap.size, 0, none⟩) 1 [ne] := by
    have := Reads.drew (ent_new w2 ne 57)
    rwa [HE.out] at this
  obtain ⟨A, c, rfl, _, _, _⟩ := h2.form
  have hbase : ∀ o, B ≤ (w2.alloc o).drew.heap.size := fun o => by have := h2.base; simp; omega
  have HX := Lib.hid hx
  have HZ := Lib.hid hz
  have HB2 := Lib.hid hB2
  have H2 := Lib.hid h2
  have HO := Lib.hid hown
  have HN := Lib.hid hnews
  have HBS := Lib.hid hbase
  clear hx hz hB2 h2 hb1 hb2 hb12 hown hnews hbase
  go_wp2_with fail
  go_region_law (first
    | (refine step_app (v := .slice A g.es.length c) _ rfl _ _ rfl B rfl (HO.out _) rfl HN.out (ecells_one _) hroom (HBS.out _) ?_
       intro A' c' w3 hown3 hg3 hat3
       have ho3 := ((Only.refl (fun q => (Value.slice A g.es.length c).ownBlock = some q) w2).alloc _).drew.grown hg3 (fun q hq => .inr hq)
       have hat' : ∀ q, (Value.slice A' (g.es.length + 1) c').ownBlock = some q → (Value.slice A g.es.length c).ownBlock = some q ∨ w2.heap.size ≤ q := fun q hq => by
         rcases hat3 with e | e
         · exact .inl (e ▸ hq)
         · rw [hq] at e; cases e; exact .inr (by simp)
       obtain ⟨hcell3, hfr3, hleft⟩ := H2.out.rowed (es := g.es ++ [ne]) ho3 hown3 (by simp) (by rw [ecells_append]) hat'
       have hlt3 : p < w3.heap.size := Nat.lt_of_lt_of_le hlt2 ho3.size
       have HO3 := Lib.hid ho3
       have HL := Lib.hid hleft
       clear hleft hat' hat3 hg3 hown3 ho3))
  all_goals
    generalize w3.setCell ⟨p, 4, none⟩ _ = w5 at HL ⊢
    have hol : Only (Foot p (.slice A g.es.length c)) w2 w5 := by obtain ⟨v', h', o', f'⟩ := HL.out; exact o'
    have hz5 := HZ.out.keep hol (fun e => by have := (H.out.foot_lt e).2; omega)
    have hx5 := HX.out.keep hol (fun e => by have := (H.out.foot_lt e).2; omega)
    have q0 := hz5.c0
    have q1 := hz5.c1
    have q2 := hz5.c2
    have q3 := hz5.c3
    have c0 := hx5.c0
    have c1 := hx5.c1
    have c2 := hx5.c2
    have c3 := hx5.c3
    have f0 := hx5.free 0
    have f1 := hx5.free 1
    have f2 := hx5.free 2
    have f3 := hx5.free 3
    have hltx := hx5.lt
    have hltz5 := hz5.lt
    have HX5 := Lib.hid hx5
    clear hx5 hz5 hol
    go_wp2
    have hs := HX5.out.set (.int .u64 (t : Int)) (.int .u64 (J : Int)) (.int .i64 kind) (.string d)
    refine bodyPost_ret (results_row_tmp (p := 8) (u := 9) (ty := 57) rfl _ _ w.heap.size 57 _ (0, 0) _ rfl hs.1.blk Try.underlying57 rfl (by kernel_rfl)) rfl ?_
    exact ⟨by rw [HNT.out]; rfl, LeftL.boxed H.out HB2.out HL.out (Nat.le_refl _) (by have := HX.out.lt; exact this) hs.2⟩
/-- Whatever is to be added. -/
theorem add_any (hroom : (g.es.length + 1) * 40 ≤ 140737488355328) : Calls Try.prog 65 #[.pointer (some ⟨p, 0, none⟩), .int .u64 (t : Int), .int .i64 kind, .string d] w (Adds 61 B w p v (add g t kind d)) := by
  unfold Rlog.add addOk
  by_cases hl : (last g).1 = 18446744073709551615
  · rw [decide_eq_false (by simpa using hl), Bool.false_and, if_neg (by simp)]
    exact add_full h f t kind d hl
  · rw [decide_eq_true hl, Bool.true_and]
    cases hm : may (new g t kind d) (last g).1 (last g).2 with
    | true => rw [if_pos rfl]; exact add_ok h f t kind d ht k0 k1 hd hl hm hroom
    | false => rw [if_neg (by simp)]; exact add_bad h f t kind d ht k0 k1 hd hl hm
end
end
end Go.Proofs.Ytdbmpfongfiagaa.RlgWalkH
