/- What the document's Tick leaves, walked. -/
import Derived.Test.YtecejikolgkihaaRSet
set_option linter.unusedVariables false
namespace Go.Proofs.Ytecejikolgkihaa.RTick
open Go.RowKit Go.Proofs.Ytecejikolgkihaa.Kit Go.Proofs.Ytecejikolgkihaa.Blocks Go.Proofs.Ytecejikolgkihaa.Whl Go.Proofs.Ytecejikolgkihaa.Tms Go.Proofs.Ytecejikolgkihaa.WalkG Go.Proofs.Ytecejikolgkihaa.Sol Go.Proofs.Ytecejikolgkihaa.RMem Go.Proofs.Ytecejikolgkihaa.RDrop Go.Proofs.Ytecejikolgkihaa.RStop

/-- The list, its first p elements having been looked at. -/
def cur (T : Nat) (D : List Tm) (p : Nat) : List Tm := leftk T D p ++ D.drop p
theorem cur_length (T : Nat) (D : List Tm) (p : Nat) : (cur T D p).length = (leftk T D p).length + (D.length - p) := by simp [cur]
theorem cur_get {T p : Nat} {D : List Tm} {t : Tm} (h : D[p]? = some t) : (cur T D p)[(leftk T D p).length]? = some t := by
  unfold cur
  rw [List.getElem?_append_right (Nat.le_refl _), Nat.sub_self, List.getElem?_drop, Nat.add_zero, h]
theorem cur_due {T p : Nat} {D : List Tm} {t : Tm} (h : D[p]? = some t) (e : t.2 = T) : (cur T D p).eraseIdx (leftk T D p).length = cur T D (p + 1) := by
  obtain ⟨hp, rfl⟩ := List.getElem?_eq_some_iff.1 h
  unfold cur
  rw [(duek_yes h e).2, List.drop_eq_getElem_cons hp, List.eraseIdx_append_of_length_le (Nat.le_refl _), Nat.sub_self, List.eraseIdx_cons_zero]
theorem cur_left {T p : Nat} {D : List Tm} {t : Tm} (h : D[p]? = some t) (e : t.2 ≠ T) : cur T D (p + 1) = cur T D p ∧ (leftk T D (p + 1)).length = (leftk T D p).length + 1 := by
  obtain ⟨hp, rfl⟩ := List.getElem?_eq_some_iff.1 h
  unfold cur
  rw [(duek_no h e).2, List.drop_eq_getElem_cons hp]
  simp
theorem cur_end (now : Nat) (D : List Tm) : cur (now + 1) D D.length = left now D := by simp [cur, leftk, left]
theorem due_end (now : Nat) (D : List Tm) : duek (now + 1) D D.length = dueD now D := by simp [duek, dueD]
theorem due_len (T : Nat) (D : List Tm) (p : Nat) : (duek T D p).length ≤ D.length := by
  unfold duek
  rw [List.length_map]
  refine Nat.le_trans (List.length_filter_le _ _) ?_
  rw [List.length_take]
  omega
theorem left_len (T : Nat) (D : List Tm) (p : Nat) : (leftk T D p).length ≤ D.length := by
  unfold leftk
  refine Nat.le_trans (List.length_filter_le _ _) ?_
  rw [List.length_take]
  omega
/-- How long the row of numbers is. -/
def mlen (q : Nat) (w : World) : Nat := match w.cell? ⟨q, 1, none⟩ with | some v => lenOf v | none => 0
theorem mlen_eq {B : Nat} {w : World} {q : Nat} {va vb : Value} {now : Nat} {D : List Tm} (h : RAt B w q va vb now D) : mlen q w = D.length := by
  obtain ⟨A, c, hv, _⟩ := own_form h.ids
  unfold mlen
  rw [h.c1, hv]
  rfl
def TMid (B : Nat) (w1 : World) (q : Nat) (va vb : Value) (T : Nat) (D : List Tm) (p : Nat) (v : Value) (wr : World) : Prop :=
  ∃ va' vb', RAt B wr q va' vb' T (cur T D p) ∧ Only (FootR q va vb) w1 wr ∧ (∀ g, FootR q va' vb' g → FootR q va vb g ∨ w1.heap.size ≤ g) ∧
    wr.ownsRow w1.heap.size 3 1 v (duek T D p).length (ivals (duek T D p)) ∧ ∀ g, v.ownBlock = some g → ¬ FootR q va' vb' g
/-- What Tick leaves. -/
def TickR (B : Nat) (w : World) (q : Nat) (va vb : Value) (now : Nat) (D : List Tm) (e : Ending) (w' : World) : Prop :=
  ∃ v, e = .returned v ∧ w'.ownsRow w.heap.size 3 1 v (dueD now D).length (ivals (dueD now D)) ∧ LeftR B w q va vb (now + 1) (left now D) w'
section
variable {B : Nat} {w : World} {q : Nat} {va vb : Value} {now : Nat} {D : List Tm}
set_option maxRecDepth 100000 in
set_option maxHeartbeats 8000000 in
theorem tick_R (h : RAt B w q va vb now D) (hfew : D.length ≤ 64) (hn : now < 4611686018427387904) (hd : ∀ t ∈ D, t.2 < 18446744073709551616) :
    Calls Try.prog 17 #[.pointer (some ⟨q, 0, none⟩)] w (TickR B w q va vb now D) := by
  obtain ⟨T, hT⟩ : ∃ T, now + 1 = T := ⟨_, rfl⟩
  have hw0 : IntKind.u64.wrap ((now : Int) + 1) = (T : Int) := by rw [show (now : Int) + 1 = (T : Int) by omega]; exact IntWalk.u64_in _ (by omega)
  have c0 := h.c0
  have f0 := h.free 0
  have hql := h.qlt
  obtain ⟨ht1, ho1⟩ := h.timed T
  have H := Lib.hid h
  have HT1 := Lib.hid ht1
  have HO1 := Lib.hid ho1
  have HT := Lib.hid hT
  obtain ⟨n, hnn⟩ : ∃ n, D.length = n := ⟨_, rfl⟩
  have HN := Lib.hid hnn
  have hn64 : n ≤ 64 := by omega
  obtain ⟨i0, hi0, hi1, hi2, hi3⟩ := info_parts infoI
  clear h ht1 ho1 hT hnn
  go_enter Try.func17, Try.ntmps17
  go_wp2
  obtain ⟨w1, hw1⟩ : ∃ w1, w.setCell ⟨q, 0, none⟩ (.int .u64 (T : Int)) = w1 := ⟨_, rfl⟩
  have ht1 := HT1.out
  have ho1 := HO1.out
  rw [hw1] at ht1 ho1 ⊢
  have H1 := Lib.hid ht1
  have HO := Lib.hid ho1
  clear hw1 HT1 HO1 ht1 ho1
  go_loopw [3, 4] (fun v i wr => ∃ p : Nat, p ≤ n ∧ i = .int .i64 ((leftk T D p).length : Int) ∧ Hid (TMid B w1 q va vb T D p v wr)) (fun _ i wr => mlen q wr - (intOf i).toNat)
  case atStart => exact ⟨0, by omega, rfl, ⟨va, vb, H1.out, Only.refl _ _, fun _ hg => .inl hg, World.ownsRow_nil _ _ _ _, fun g hg => by simp [Value.ownBlock] at hg⟩⟩
  case round =>
    obtain ⟨p, hp, rfl, hmid⟩ := hrel
    obtain ⟨va', vb', hr, ho, hf, hown, hoff⟩ := hmid.out
    have hml := mlen_eq hr
    have k0 := hr.c0
    have k1 := hr.c1
    have k2 := hr.c2
    have hql' := hr.qlt
    obtain ⟨A, c, hva, hc1, hc2, hrd⟩ := own_form hr.ids
    obtain ⟨A', c', hvb, hc3, hc4, hrd'⟩ := own_form hr.dues
    obtain ⟨i, hi⟩ : ∃ i, (leftk T D p).length = i := ⟨_, rfl⟩
    obtain ⟨L, hL⟩ : ∃ L, (cur T D p).length = L := ⟨_, rfl⟩
    have hLi : L = i + (n - p) := by rw [← hL, ← hi, ← HN.out]; exact cur_length T D p
    have hi64 : i ≤ 64 := by have := left_len T D p; have := HN.out; omega
    rw [hL] at hva hvb hrd hrd' hml
    rw [hva] at k1
    rw [hvb] at k2
    rw [hi]
    have HR := Lib.hid hr
    have HO2 := Lib.hid ho
    have HF := Lib.hid hf
    have HOw := Lib.hid hown
    have HOff := Lib.hid hoff
    have HML := Lib.hid hml
    have HI := Lib.hid hi
    have HL := Lib.hid hL
    by_cases hlt : p < n
    · obtain ⟨t, ht⟩ : ∃ t, D[p]? = some t := ⟨_, List.getElem?_eq_getElem (by rw [HN.out]; exact hlt)⟩
      have hcg := cur_get (T := T) ht
      rw [hi] at hcg
      have hiL : i < L := by omega
      have hiLI : (i : Int) < (L : Int) := by omega
      have hi0' : (0 : Int) ≤ (i : Int) := by omega
      obtain ⟨ad, u, rfl, hbl, hx, hcc⟩ := hrd.at_ hiL
      have hs := hrd.spot (by omega)
      rw [idv_get hcg] at hx
      cases hx
      rw [hs, Addr.add_lit] at hcc
      obtain ⟨b, o, hbo⟩ : ∃ b o, ad = ⟨b, o, none⟩ := ⟨_, _, hs⟩
      subst hbo
      obtain ⟨ad', u', rfl, hbl', hx', hcc'⟩ := hrd'.at_ hiL
      have hs' := hrd'.spot (by omega)
      rw [duv_get hcg] at hx'
      cases hx'
      rw [hs', Addr.add_lit] at hcc'
      obtain ⟨b', o', hbo'⟩ : ∃ b o, ad' = ⟨b, o, none⟩ := ⟨_, _, hs'⟩
      subst hbo'
      simp only at hcc hcc' hbl hbl'
      obtain ⟨id, d⟩ := t
      have HTt := Lib.hid ht
      simp only at hcc hcc'
      have hmx : Try.prog.follows .mixedOrders = true := by kernel_rfl
      clear hr ho hf hown hoff hml hi hL hrd hrd' hs hs' ht hcg hva hvb hmid
      by_cases he : d = T
      · subst he
        have heB : ((d : Int) == (d : Int)) = true := by simp
        obtain ⟨m, hm⟩ : ∃ m, (duek d D p).length = m := ⟨_, rfl⟩
        have hm64 : m ≤ 64 := by have := due_len d D p; have := HN.out; omega
        have hown' := HOw.out
        rw [hm] at hown'
        have HM := Lib.hid hm
        have hownA : ∀ o1, (wr.drew.alloc o1).ownsRow w1.heap.size 3 1 u3 m (ivals (duek d D p)) := fun o1 => ((Only.refl (fun _ => False) wr).alloc o1).own hown' (by simp)
        have hnews : Reads (wr.drew.alloc (.cells #[.int .i64 id] 3)) (wr.heap.size + 1) 1 (some ⟨wr.heap.size, 0, none⟩) 1 [.int .i64 id] := reads_one wr (.int .i64 id) 3
        have HOA := Lib.hid hownA
        have HNw := Lib.hid hnews
        have hsz1 : w1.heap.size ≤ wr.heap.size := HO2.out.size
        have hm1 : m + 1 ≤ maxLen := by unfold maxLen; omega
        have hs1 : (m + 1) * 8 ≤ 140737488355328 := by omega
        have hbs : ∀ o : Obj, w1.heap.size ≤ (wr.drew.alloc o).heap.size := fun o => by show w1.heap.size ≤ (wr.alloc o).heap.size; simp; omega
        clear hm hown' hownA hnews
        go_wp2
        go_region
        all_goals
          go_wp2_with
            (at_builtin
             refine wpList_append_any _ rfl (.tmp 31) (.tmp 39) _ rfl w1.heap.size 3 i0 _ 1 8 Try.underlying28 hi0 hi1 hi2 hi3 rfl (by decide) u3 m (ivals (duek d D p)) rfl (HOA.out _)
               (wr.heap.size + 1) _ 1 1 [.int .i64 id] rfl HNw.out (by simp [Value.oneCell']) hm1 hs1 (hbs _) ?_
             intro v2 w2 hown2 hg2 hat2)
          have o2 : Only (fun g => u3.ownBlock = some g) wr w2 := (((Only.refl (fun g => u3.ownBlock = some g) wr).drew).alloc _).grown hg2 fun g e => .inr e
          have hr2 := HR.out.keep o2 fun g hg e => HOff.out g e hg
          have hoff2 : ∀ g, v2.ownBlock = some g → ¬ FootR q va' vb' g := fun g hg hf' => by
            rcases hat2 with e | e
            · exact HOff.out g (e ▸ hg) hf'
            · rw [hg] at e
              have h1 : g < wr.heap.size := (HR.out.foot_lt hf').2
              have h2 : wr.heap.size ≤ g := by
                rw [Option.some.inj e]
                show wr.heap.size ≤ (wr.alloc (.cells #[.int .i64 id] 3)).heap.size
                rw [World.size_alloc]
                exact Nat.le_succ _
              omega
          have hdr := drop_any hr2 (i := i) (by rw [HL.out]; exact hiL) (by rw [HL.out]; omega)
          have hcd := cur_due (T := d) HTt.out rfl
          rw [HI.out] at hcd
          rw [hcd] at hdr
          have HDr := Lib.hid hdr
          have HO3 := Lib.hid o2
          have HOff2 := Lib.hid hoff2
          have HOw2 := Lib.hid hown2
          clear hdr hcd hr2 o2 hoff2 hown2 hg2 hat2
          with_reducible refine HDr.out.mono ?_
          rintro e w4 ⟨⟨v4, rfl⟩, va4, vb4, hr4, ho4, hf4⟩
          have HR4 := Lib.hid hr4
          have HO4 := Lib.hid ho4
          have HF4 := Lib.hid hf4
          clear hr4 ho4 hf4
          go_wp2
          obtain ⟨y1, y2⟩ := duek_yes (T := d) HTt.out rfl
          refine ⟨⟨p + 1, by omega, by rw [y2, HI.out], va4, vb4, HR4.out, ?_, ?_, ?_, ?_⟩, ?_⟩
          · exact (HO2.out.trans' HO3.out fun g hg => .inr (HOw.out.lt g hg).1).trans' HO4.out fun g hg => HF.out g hg
          · intro g hg
            rcases HF4.out g hg with e | e
            · exact HF.out g e
            · exact .inr (Nat.le_trans hsz1 (Nat.le_trans HO3.out.size e))
          · rw [y1]
            exact HO4.out.own (own_cast HOw2.out (by simp [HM.out]) (by simp [ivals])) fun g hg e => HOff2.out g hg e
          · intro g hg hf'
            rcases HF4.out g hf' with e | e
            · exact HOff2.out g hg e
            · have := (HOw2.out.lt g hg).2
              omega
          · have e1 := mlen_eq HR4.out
            have e2 := cur_length d D (p + 1)
            rw [y2, HI.out, HN.out] at e2
            rw [e1, HML.out]
            simp only [intOf, Int.toNat_natCast]
            omega
      · have heB : ((d : Int) == (T : Int)) = false := by simp; omega
        go_wp2
        go_region
        all_goals go_wp2
        all_goals
          obtain ⟨x1, x2⟩ := cur_left (T := T) HTt.out he
          obtain ⟨y1, y2⟩ := duek_no (T := T) HTt.out he
          have od : Only (fun _ => False) wr wr.drew := (Only.refl _ wr).drew
          refine ⟨⟨p + 1, by omega, by rw [x2, HI.out]; simp, va', vb', by rw [x1]; exact HR.out.keep od (by simp), HO2.out.drew, HF.out, by rw [y1]; exact od.own HOw.out (by simp), HOff.out⟩, ?_⟩
          have e1 : mlen q wr.drew = mlen q wr := rfl
          rw [e1, HML.out]
          simp only [intOf]
          omega
    · obtain rfl : p = n := by omega
      have hLi' : L = i := by omega
      subst hLi'
      have e1 : cur T D p = left now D := by rw [← HT.out, ← HN.out]; exact cur_end now D
      have e2 : duek T D p = dueD now D := by rw [← HT.out, ← HN.out]; exact due_end now D
      have hr' := HR.out
      have hown' := HOw.out
      rw [e1] at hr'
      rw [e2] at hown'
      have HR' := Lib.hid hr'
      have HOw' := Lib.hid hown'
      clear hr' hown' e1 e2 hr ho hf hown hoff hml hrd hrd' hva hvb hmid hi hL hLi
      go_wp2
      go_ret
      refine ⟨_, rfl, own_base HOw'.out HO.out.size, va', vb', by rw [HT.out]; exact HR'.out, ?_, ?_⟩
      · exact (HO.out.mono fun g _ hg => .inl hg).trans' HO2.out fun g hg => .inl hg
      · intro g hg
        rcases HF.out g hg with e | e
        · exact .inl e
        · exact .inr (Nat.le_trans HO.out.size e)
end
end Go.Proofs.Ytecejikolgkihaa.RTick
