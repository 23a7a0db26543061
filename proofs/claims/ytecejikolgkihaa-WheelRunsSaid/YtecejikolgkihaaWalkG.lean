/- What Tick leaves, walked. -/
import Derived.Test.YtecejikolgkihaaWalkF
set_option linter.unusedVariables false
namespace Go.Proofs.Ytecejikolgkihaa.WalkG
open Go.RowKit Go.Proofs.Ytecejikolgkihaa.Kit Go.Proofs.Ytecejikolgkihaa.Blocks Go.Proofs.Ytecejikolgkihaa.Whl Go.Proofs.Ytecejikolgkihaa.Tms Go.Proofs.Ytecejikolgkihaa.WAt Go.Proofs.Ytecejikolgkihaa.WalkA Go.Proofs.Ytecejikolgkihaa.WalkB Go.Proofs.Ytecejikolgkihaa.App Go.Proofs.Ytecejikolgkihaa.Seq

def ivals (l : List Int) : List Value := l.map fun z => .int .i64 z
theorem ivals_length (l : List Int) : (ivals l).length = l.length := by simp [ivals]
theorem ivals_one (l : List Int) : ∀ u ∈ ivals l, u.oneCell' = true := by
  intro u hu
  obtain ⟨_, _, rfl⟩ := List.mem_map.1 hu
  rfl
/-- The numbers of those of the first ones that are due at T. -/
def duek (T : Nat) (L : List Tm) (k : Nat) : List Int := ((L.take k).filter fun t => t.2 == T).map (·.1)
def leftk (T : Nat) (L : List Tm) (k : Nat) : List Tm := (L.take k).filter fun t => t.2 != T
theorem duek_yes {T k : Nat} {L : List Tm} {t : Tm} (h : L[k]? = some t) (e : t.2 = T) : duek T L (k + 1) = duek T L k ++ [t.1] ∧ leftk T L (k + 1) = leftk T L k := by
  unfold duek leftk
  rw [take_snoc L k t h]
  simp [List.filter_append, e]
theorem duek_no {T k : Nat} {L : List Tm} {t : Tm} (h : L[k]? = some t) (e : t.2 ≠ T) : duek T L (k + 1) = duek T L k ∧ leftk T L (k + 1) = leftk T L k ++ [t] := by
  unfold duek leftk
  rw [take_snoc L k t h]
  simp [List.filter_append, e]
/-- Within the loop. -/
def Mid (B : Nat) (w1 : World) (x : Fx) (vs1 : Nat → Value) (T : Nat) (f1 : Nat → List Tm) (L : List Tm) (k : Nat) (v : Value) (wr : World) : Prop :=
  ∃ vsr, WAt B wr x vsr T (lay T f1 (leftk T L k)) ∧ Only (Foot x vs1) w1 wr ∧ (∀ g, Foot x vsr g → Foot x vs1 g ∨ w1.heap.size ≤ g) ∧
    wr.ownsRow w1.heap.size 3 1 v (duek T L k).length (ivals (duek T L k)) ∧ ∀ g, v.ownBlock = some g → ¬ Foot x vsr g
/-- What Tick leaves. -/
def TickIs (B : Nat) (w : World) (x : Fx) (vs : Nat → Value) (T : Nat) (f1 : Nat → List Tm) (L : List Tm) (e : Ending) (w' : World) : Prop :=
  ∃ v vs', e = .returned v ∧ w'.ownsRow w.heap.size 3 1 v (duek T L L.length).length (ivals (duek T L L.length)) ∧ WAt B w' x vs' T (lay T f1 (leftk T L L.length)) ∧ Only (Foot x vs) w w' ∧
    (∀ g, Foot x vs' g → Foot x vs g ∨ w.heap.size ≤ g) ∧ ∀ g, v.ownBlock = some g → ¬ Foot x vs' g

theorem reads_off {S : Nat → Prop} {w w' : World} {A : Option Addr} {D size n : Nat} {xs : List Value} (hr : Reads w D size A n xs) (hD : D ≤ w.heap.size) (k : Only S w w') (hoff : 0 < n → ∀ ad, A = some ad → ¬ S ad.block) : Reads w' D size A n xs :=
  ⟨hr.1, fun hn => by
    obtain ⟨ad, e, hb, hc⟩ := hr.2 hn
    exact ⟨ad, e, hb, fun j u hu => (k.cell (by rw [block_of_add]; omega) (by rw [block_of_add]; exact hoff hn ad e)).trans (hc j u hu)⟩⟩
theorem off_row {B : Nat} {w : World} {x : Fx} {vs : Nat → Value} {now : Nat} {f : Nat → List Tm} (h : WAt B w x vs now f) {k n c : Nat} {A : Option Addr} (hk : k < 449) (hv : vs k = .slice A n c) (hn : (f k).length = n) :
    0 < n → ∀ ad, A = some ad → ¬ Foot x (upd vs k (.slice none 0 0)) ad.block := by
  intro h0 ad e hf
  have hob : (vs k).ownBlock = some ad.block := by
    have := (h.own k hk).2
    rw [hv, hn] at this
    rcases this with ⟨_, h1⟩ | ⟨g, cap, cur, h1, _⟩
    · omega
    · rw [hv, h1]
      injection h1 with h2
      rw [e] at h2
      cases h2
      rfl
  rcases hf with hf | ⟨j, hj, hf⟩
  · exact h.off k _ hk hob hf
  · by_cases ej : j = k
    · subst ej; rw [upd_self] at hf; cases hf
    · rw [upd_ne _ _ ej] at hf
      exact ej (h.sep j k _ hj hk hf hob)
theorem tick_nil (w : World) : Calls Try.prog 16 #[.pointer none] w fun e w' => e = .returned (.slice none 0 0) ∧ Below w.heap.size w w' := by
  go_enter Try.func16, Try.ntmps16
  go_wp2
  go_ret
  exact ⟨rfl, Below.refl _ _⟩
section
variable {B : Nat} {w : World} {x : Fx} {vs : Nat → Value} {now : Nat} {f : Nat → List Tm}
set_option maxRecDepth 100000 in
set_option maxHeartbeats 4000000 in
theorem tick_any (h : WAt B w x vs now f) (hn : now + 1 < 18446744073709551616) (hfew : ∀ k, k < 449 → (f k).length ≤ 1099511627776) (hd : ∀ t ∈ f (plc now (now + 1)), t.2 < 18446744073709551616) :
    Calls Try.prog 16 #[.pointer (some ⟨x.p, 0, none⟩)] w (TickIs B w x vs (now + 1) (put f (plc now (now + 1)) []) (f (plc now (now + 1)))) := by
  obtain ⟨T, hT⟩ : ∃ T, now + 1 = T := ⟨_, rfl⟩
  have hplc := plc_lt now (now + 1)
  obtain ⟨k0, hk0⟩ : ∃ k0, plc now (now + 1) = k0 := ⟨_, rfl⟩
  have hlist := list_any (d := now + 1) h (by omega) hn
  rw [hk0] at hd hplc hlist ⊢
  obtain ⟨sb, so, hsp⟩ := spot_form x k0
  rw [hsp, hT] at hlist
  rw [hT]
  have hw0 : IntKind.u64.wrap ((now : Int) + 1) = (T : Int) := by rw [show (now : Int) + 1 = (T : Int) by omega]; exact IntWalk.u64_in _ (by omega)
  have c0 := h.c0
  have hplt := h.plt
  have H := Lib.hid h
  have HL := Lib.hid hlist
  have HSP := Lib.hid hsp
  have HT := Lib.hid hT
  clear h hlist hsp hT hk0
  go_enter Try.func16, Try.ntmps16
  go_wp2_with fail
  refine HL.out.mono ?_
  rintro e w0 ⟨rfl, hb0⟩
  have h0 := H.out.below hb0
  obtain ⟨A, c, hv, hc1, hc2, hrt⟩ := h0.form hplc
  obtain ⟨hcell, hfr, h1, ho1, hf1⟩ := h0.rowed hplc (l := []) (Only.refl _ w0) (World.ownsRow_nil w0 B 52 2) rfl rfl (fun q hq => by simp [Value.ownBlock] at hq)
  rw [hv, HSP.out] at hcell
  rw [HSP.out] at hfr h1 ho1
  have hslt : sb < w0.heap.size := by have := h0.fix_lt (spot_fix x k0); rw [HSP.out] at this; exact this
  obtain ⟨h2, ho2, hfr2⟩ := h1.timed T
  have d0 := h1.c0
  have hplt1 := h1.plt
  obtain ⟨n, hnn⟩ : ∃ n, (f k0).length = n := ⟨_, rfl⟩
  have hn40 : n ≤ 1099511627776 := by rw [← hnn]; exact hfew _ hplc
  rw [hnn] at hv hcell hc1 hrt
  have hfrp : w0.frozen? ⟨x.p, 0, none⟩ = false := free_at h0.head 0
  have H0 := Lib.hid h0
  have H1 := Lib.hid h1
  have H2 := Lib.hid h2
  have HO1 := Lib.hid ho1
  have HO2 := Lib.hid ho2
  have HF1 := Lib.hid hf1
  have HV := Lib.hid hv
  have HNN := Lib.hid hnn
  have HRT := Lib.hid hrt
  have HB0 := Lib.hid hb0
  clear h0 h1 h2 ho1 ho2 hf1 hv hnn hrt hb0
  go_wp2
  obtain ⟨w1, hw1⟩ : ∃ w1, (w0.setCell ⟨sb, so, none⟩ (.slice none 0 0)).setCell ⟨x.p, 0, none⟩ (.int .u64 (T : Int)) = w1 := ⟨_, rfl⟩
  have hof : Only (Fix x) w0 w1 := by
    rw [← hw1]
    have hfx : Fix x sb := by have := spot_fix x k0; rw [HSP.out] at this; exact this
    exact ((Only.refl (Fix x) w0).setCell (a := ⟨sb, so, none⟩) (.inr hfx) _).setCell (a := ⟨x.p, 0, none⟩) (.inr (.inl rfl)) _
  have hrt1 : RT w1 w0.heap.size A n (f k0) := reads_off HRT.out (Nat.le_refl _) hof fun hn0 ad e hf => off_row H0.out hplc HV.out HNN.out hn0 ad e (.inl hf)
  have ho1 : Only (Foot x vs) w0 w1 := hof.mono fun q _ hq => .inl hq
  have h2 := H2.out
  rw [hw1] at h2 ⊢
  have H2' := Lib.hid h2
  have HRT1 := Lib.hid hrt1
  have HO := Lib.hid ho1
  have HOff := Lib.hid (off_row H0.out hplc HV.out HNN.out)
  have hsz1 : w0.heap.size ≤ w1.heap.size := ho1.size
  clear hw1 H1 H2 HO1 HO2 hof hrt1 ho1 h2 hcell hfr hfr2 hfrp d0 hplt1
  go_loopw [5, 31] (fun v i wr => ∃ k : Nat, k ≤ n ∧ i = .int .i64 (k : Int) ∧ Hid (Mid B w1 x (upd vs k0 (.slice none 0 0)) T (put f k0 []) (f k0) k v wr)) (fun _ i _ => n - (intOf i).toNat)
  case atStart => exact ⟨0, by omega, rfl, ⟨_, H2'.out, Only.refl _ _, fun _ hg => .inl hg, World.ownsRow_nil _ _ _ _, fun g hg => by simp [Value.ownBlock] at hg⟩⟩
  case round =>
    obtain ⟨k, hk, rfl, hmid⟩ := hrel
    by_cases hlt : k < n
    · obtain ⟨vsr, hw, ho, hf, hown, hoffv⟩ := hmid.out
      have hrr : RT wr w0.heap.size A n (f k0) := reads_off HRT1.out hsz1 ho HOff.out
      obtain ⟨b', o', ⟨id, d⟩, hA, hb', he, ⟨y0, y1⟩⟩ := RT.at_ hrr hlt
      subst hA
      have hsz : w1.heap.size ≤ wr.heap.size := ho.size
      have hb2 : b' < wr.heap.size := by omega
      simp only at y0 y1
      have hnow := hw.c0
      have hpl := hw.plt
      have hd1 : d < 18446744073709551616 := hd _ (List.mem_of_getElem? he)
      have HE := Lib.hid he
      by_cases hdT : d = T
      · subst hdT
        have hD := duek_yes he rfl
        have hwb := hw.below ((Below.refl _ wr).alloc (Nat.le_refl _) (.cells #[.int .i64 id, .int .u64 (d : Int)] 52))
        have HWb := Lib.hid hwb
        have hnw : (wr.alloc (.cells #[.int .i64 id, .int .u64 (d : Int)] 52)).cell? ⟨x.p, 0, none⟩ = some (.int .u64 (d : Int)) := hwb.c0
        obtain ⟨m, hm⟩ : ∃ m, (duek d (f k0) k).length = m := ⟨_, rfl⟩
        have HD := Lib.hid hD
        have HF := Lib.hid hf
        have HO2 := Lib.hid ho
        have HOff2 := Lib.hid hoffv
        have HM2 := Lib.hid hm
        have hmn : m ≤ n := by
          rw [← hm]
          unfold duek
          rw [List.length_map]
          refine Nat.le_trans (List.length_filter_le _ _) ?_
          rw [List.length_take]
          omega
        rw [hm] at hown
        have HOw := Lib.hid hown
        have HW := Lib.hid hw
        clear hD hf ho hoffv hm hown hw hwb he hmid
        have hownA : ∀ o1 o2, ((wr.alloc o1).alloc o2).drew.ownsRow w1.heap.size 3 1 _ m (ivals (duek d (f k0) k)) := fun o1 o2 => (HOw.out.alloc o1).alloc o2
        have hone : ∀ o1, Reads ((wr.alloc o1).alloc (.cells #[.int .i64 id] 3)).drew (wr.heap.size + 1 + 1) 1 (some ⟨wr.heap.size + 1, 0, none⟩) 1 [.int .i64 id] := fun o1 => by
          have := reads_one (wr.alloc o1) (.int .i64 id) 3
          rw [World.size_alloc] at this
          exact this
        have HOA := Lib.hid hownA
        have HON := Lib.hid hone
        clear hownA hone
        obtain ⟨i0, hi0, hi1, hi2, hi3⟩ := info_parts infoI
        have hm1 : m + 1 ≤ maxLen := by unfold maxLen; omega
        have hs1 : (m + 1) * 8 ≤ 140737488355328 := by omega
        have hBo : ∀ o1 o2 : Obj, w1.heap.size ≤ ((wr.alloc o1).alloc o2).drew.heap.size := fun o1 o2 => by simp; omega
        go_wp2
        go_region
        go_wp2_with
          (at_builtin
           refine wpList_append_any _ rfl (.tmp 42) (.tmp 45) _ rfl w1.heap.size 3 i0 _ 1 8 Try.underlying28 hi0 hi1 hi2 hi3 rfl (by decide) u5 m (ivals (duek d (f k0) k)) rfl (HOA.out _ _)
             (wr.heap.size + 1 + 1) _ 1 1 [.int .i64 id] rfl (HON.out _) (by simp [Value.oneCell']) hm1 hs1 (hBo _ _) ?_
           intro v2 w2 hown2 hg2 hat2)
        have o2 : Only (fun q => u5.ownBlock = some q) wr w2 := (((Only.refl (fun q => u5.ownBlock = some q) wr).alloc _).alloc _).drew.grown hg2 fun g e => .inr e
        refine ⟨⟨k + 1, by omega, by simp, vsr, ?_, ?_, HF.out, ?_, ?_⟩, by simp [intOf]; omega⟩
        · rw [HD.out.2]
          exact WAt.keep HW.out o2 fun q hq e => HOff2.out q e hq
        · exact HO2.out.trans' o2 fun q hq => .inr (HOw.out.lt q hq).1
        · rw [HD.out.1]
          exact own_cast hown2 (by simp [HM2.out]) (by simp [ivals])
        · intro g hg hf'
          rcases hat2 with e | e
          · exact HOff2.out g (e ▸ hg) hf'
          · rw [hg] at e
            have := (HW.out.foot_lt hf').2
            cases e
            simp at this
            omega
      · have hD := duek_no he hdT
        have hne : ((d : Int) == (T : Int)) = false := by simp; omega
        have hwb := hw.below ((Below.refl _ wr).alloc (Nat.le_refl _) (.cells #[.int .i64 id, .int .u64 (d : Int)] 52))
        have hnw : (wr.alloc (.cells #[.int .i64 id, .int .u64 (d : Int)] 52)).cell? ⟨x.p, 0, none⟩ = some (.int .u64 (T : Int)) := hwb.c0
        have hT64 : T < 18446744073709551616 := by have := HT.out; omega
        have hlay := lay_any hwb.drew hT64 (id, d) hd1 (by
          rw [lay_at]
          dsimp only
          have h1 : (put f k0 [] (plc T d)).length ≤ 1099511627776 := by
            unfold put
            split
            · simp
            · exact hfew _ (plc_lt T d)
          have h2 : ((leftk T (f k0) k).filter fun t => plc T t.2 == plc T d).length ≤ 1099511627776 := by
            refine Nat.le_trans (List.length_filter_le _ _) ?_
            unfold leftk
            refine Nat.le_trans (List.length_filter_le _ _) ?_
            rw [List.length_take]
            have := hfew k0 hplc
            omega
          rw [List.length_append]
          omega)
        unfold tmV at hlay
        rw [← lay_snoc] at hlay
        have HLay := Lib.hid hlay
        have HWb := Lib.hid hwb
        have HD := Lib.hid hD
        have HF := Lib.hid hf
        have HO2 := Lib.hid ho
        have HOff2 := Lib.hid hoffv
        have HOw := Lib.hid hown
        have HW := Lib.hid hw
        clear hD hf ho hoffv hown hw hwb he hmid hlay
        go_wp2
        go_region
        go_wp2_with fail
        with_reducible refine HLay.out.mono ?_
        rintro e w2 ⟨⟨v0, rfl⟩, vs2, hw2, ho2, hf2⟩
        have hu : ∀ g, u5.ownBlock = some g → w1.heap.size ≤ g ∧ g < wr.heap.size := fun g hg => HOw.out.lt g hg
        have o2 : Only (Foot x vsr) wr w2 := ((Only.refl (Foot x vsr) wr).alloc _).drew.trans ho2
        have HW2 := Lib.hid hw2
        have HF2 := Lib.hid hf2
        have HO3 := Lib.hid o2
        clear hw2 ho2 hf2 o2
        go_wp2
        refine ⟨⟨k + 1, by omega, by simp, vs2, ?_, ?_, ?_, ?_, ?_⟩, by simp [intOf]; omega⟩
        · rw [HD.out.2]
          exact HW2.out
        · exact HO2.out.trans' HO3.out HF.out
        · intro g hg
          rcases HF2.out g hg with h1 | h1
          · exact HF.out g h1
          · exact .inr (Nat.le_trans hsz (by simp at h1; omega))
        · rw [HD.out.1]
          exact HO3.out.own HOw.out fun g hg e => HOff2.out g hg e
        · intro g hg hf'
          rcases HF2.out g hf' with h1 | h1
          · exact HOff2.out g hg h1
          · have := (hu g hg).2
            simp at h1
            omega
    · obtain rfl : k = n := by omega
      obtain ⟨vsr, hw, ho, hf, hown, hoffv⟩ := hmid.out
      have HW := Lib.hid hw
      have HOw := Lib.hid hown
      have HF := Lib.hid hf
      have HO2 := Lib.hid ho
      have HOffv := Lib.hid hoffv
      clear hw ho hf hown hoffv
      go_wp2
      go_ret
      have hl : (f k0).length = k := HNN.out
      obtain ⟨ho3, hf3⟩ : Only (Foot x vs) w wr ∧ ∀ g, Foot x vsr g → Foot x vs g ∨ w.heap.size ≤ g := by
        have k1 : LeftW B w x vs T (lay T (put f k0 []) (leftk T (f k0) k)) wr := LeftW.afterBelow HB0.out (LeftW.then HO.out (fun g hg => HF1.out g hg) ⟨vsr, HW.out, HO2.out, HF.out⟩)
        have k2 : Only (Foot x vs) w wr := by obtain ⟨_, _, k, _⟩ := k1; exact k
        refine ⟨k2, fun g hg => ?_⟩
        rcases HF.out g hg with h1 | h1
        · rcases HF1.out g h1 with h2 | h2
          · exact .inl h2
          · exact .inr (Nat.le_trans HB0.out.size h2)
        · exact .inr (Nat.le_trans HB0.out.size (Nat.le_trans hsz1 h1))
      refine ⟨_, vsr, rfl, ?_, by rw [hl]; exact HW.out, ho3, hf3, HOffv.out⟩
      rw [hl]; exact own_base HOw.out (by have := HB0.out.size; omega)
end
end Go.Proofs.Ytecejikolgkihaa.WalkG
