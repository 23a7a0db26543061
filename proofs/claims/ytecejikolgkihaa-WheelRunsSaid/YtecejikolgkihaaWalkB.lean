/- What lay and soonest leave, walked. -/
import Derived.Test.YtecejikolgkihaaWalkA
import Derived.Test.YtecejikolgkihaaApp
import Derived.Lib.MinMax
set_option linter.unusedVariables false
namespace Go.Proofs.Ytecejikolgkihaa.WalkB
open Go.RowKit Go.Proofs.Ytecejikolgkihaa.Kit Go.Proofs.Ytecejikolgkihaa.Blocks Go.Proofs.Ytecejikolgkihaa.Whl Go.Proofs.Ytecejikolgkihaa.Tms Go.Proofs.Ytecejikolgkihaa.WAt Go.Proofs.Ytecejikolgkihaa.App Go.Proofs.Ytecejikolgkihaa.WalkA

/-- A timer by value. -/
def tmV (t : Tm) : Value := .agg #[.int .i64 t.1, .int .u64 (t.2 : Int)]
section
variable {B : Nat} {w : World} {x : Fx} {vs : Nat → Value} {now : Nat} {f : Nat → List Tm}
theorem spot_form (x : Fx) (k : Nat) : ∃ b o, spot x k = ⟨b, o, none⟩ := by
  unfold spot
  split
  · exact ⟨_, _, rfl⟩
  · split
    · exact ⟨_, _, rfl⟩
    · split <;> exact ⟨_, _, rfl⟩
set_option maxRecDepth 100000 in
set_option maxHeartbeats 2000000 in
theorem lay_any (h : WAt B w x vs now f) (hn : now < 18446744073709551616) (t : Tm) (hd : t.2 < 18446744073709551616) (hroom : ((f (plc now t.2)).length + 1) * 16 ≤ 140737488355328) :
    Calls Try.prog 23 #[.pointer (some ⟨x.p, 0, none⟩), tmV t] w fun e w' => (∃ v, e = .returned v) ∧ LeftW B w x vs now (put f (plc now t.2) (f (plc now t.2) ++ [t])) w' := by
  obtain ⟨id, d⟩ := t
  simp only at hd hroom ⊢
  have hba : Below w.heap.size w (w.alloc (.cells #[.int .i64 id, .int .u64 (d : Int)] 52)) := (Below.refl _ _).alloc (Nat.le_refl _) _
  have hlist := list_any (h.below hba) hn hd
  have hplc := plc_lt now d
  obtain ⟨k, hk⟩ : ∃ k, plc now d = k := ⟨_, rfl⟩
  rw [hk] at hlist hplc hroom ⊢
  obtain ⟨sb, so, hsp⟩ := spot_form x k
  rw [hsp] at hlist
  have HL := Lib.hid hlist
  have H := Lib.hid h
  have HSP := Lib.hid hsp
  have HBA := Lib.hid hba
  have hxb := heap_alloc_new w (.cells #[.int .i64 id, .int .u64 (d : Int)] 52)
  have HX := Lib.hid hxb
  clear hlist h hsp hk hba hxb
  unfold tmV
  go_enter Try.func23, Try.ntmps23
  go_wp2_with fail
  refine HL.out.mono ?_
  rintro e w2 ⟨rfl, hb2⟩
  have hB2 : Below w.heap.size w w2 := HBA.out.trans (hb2.mono HBA.out.size)
  have h2 := H.out.below hB2
  have hx2 := (hb2.block w.heap.size (by simp)).trans HX.out
  have y0 : w2.cell? ⟨w.heap.size, 0, none⟩ = some (.int .i64 id) := by rw [cell_at hx2]; rfl
  have y1 : w2.cell? ⟨w.heap.size, 1, none⟩ = some (.int .u64 (d : Int)) := by rw [cell_at hx2]; rfl
  have hlx := lt_at hx2
  have hd4 : w2.cell? ⟨sb, so, none⟩ = some (vs k) := by rw [← HSP.out]; exact h2.cell hplc
  have hsb : sb < w2.heap.size := by have := h2.fix_lt (spot_fix x k); rw [HSP.out] at this; exact this
  obtain ⟨A, c, hv, _, _, _⟩ := h2.form hplc
  have hown : ∀ o, (w2.alloc o).drew.ownsRow B 52 2 (.slice A (f k).length c) (f k).length (tcells (f k)) := fun o => by rw [← hv]; exact ((h2.below ((Below.refl _ _).alloc (Nat.le_refl _) o)).drew).own k hplc
  have hnews : RT (w2.alloc (.cells #[.int .i64 id, .int .u64 (d : Int)] 52)).drew (w2.heap.size + 1) (some ⟨w2.heap.size, 0, none⟩) 1 [(id, d)] := Reads.drew (tm_new w2 (id, d) 52)
  have hbase : ∀ o, B ≤ (w2.alloc o).drew.heap.size := fun o => by have := h2.base; simp; omega
  rw [hv] at hd4
  have H2 := Lib.hid h2
  have HO := Lib.hid hown
  have HN := Lib.hid hnews
  have HBS := Lib.hid hbase
  have HB2 := Lib.hid hB2
  obtain ⟨n, hnn⟩ : ∃ n, (f k).length = n := ⟨_, rfl⟩
  rw [hnn] at hd4 hroom hv
  have HV := Lib.hid hv
  have HNN := Lib.hid hnn
  have HO' : Hid (∀ o, (w2.alloc o).drew.ownsRow B 52 2 (.slice A n c) n (tcells (f k))) := Lib.hid fun o => by have := HO.out o; rw [HNN.out] at this; exact this
  clear h2 hb2 hB2 hown hnews hbase hv hx2 hnn HO
  go_wp2_with fail
  go_region_law (first
    | (refine step_app (v := .slice A n c) _ rfl _ _ rfl B rfl (HO'.out _) rfl HN.out (tcells_one _) hroom (HBS.out _) ?_
       intro A' c' w3 hown3 hg3 hat3
       have ho3 := ((Only.refl (fun q => (Value.slice A n c).ownBlock = some q) w2).alloc _).drew.grown hg3 (fun q hq => .inr hq)
       have hat' : ∀ q, (Value.slice A' (n + 1) c').ownBlock = some q → (Value.slice A n c).ownBlock = some q ∨ w2.heap.size ≤ q := fun q hq => by
         rcases hat3 with e | e
         · exact .inl (e ▸ hq)
         · rw [hq] at e; cases e; exact .inr (by simp)
       rw [← HV.out] at ho3 hat'
       obtain ⟨hcell3, hfr3, hleft, ho5, hf5⟩ := H2.out.rowed hplc (l := f k ++ [(id, d)]) ho3 hown3 (by simp [HNN.out]) (by rw [tcells_append]) hat'
       rw [HSP.out] at hcell3 hfr3 hleft ho5
       have hlt3 : sb < w3.heap.size := Nat.lt_of_lt_of_le hsb ho3.size
       rw [HV.out] at hcell3
       have HO3 := Lib.hid ho3
       have HLf := Lib.hid hleft
       have HO5 := Lib.hid ho5
       have HF5 := Lib.hid hf5
       clear hleft hat' hat3 hg3 hown3 ho3 ho5 hf5))
  all_goals go_wp2
  all_goals go_end0
  all_goals exact ⟨⟨_, rfl⟩, LeftW.afterBelow HB2.out ⟨_, HLf.out, HO5.out, HF5.out⟩⟩
end

/-! ### soonest -/
def least (a : Nat) (l : List Tm) : Nat := l.foldl (fun m t => min m t.2) a
theorem least_snoc (a : Nat) (l : List Tm) (t : Tm) : least a (l ++ [t]) = min (least a l) t.2 := by simp [least]
theorem least_min (a b : Nat) (l : List Tm) : least (min a b) l = min a (least b l) := by
  induction l generalizing b with
  | nil => rfl
  | cons t l ih => show least (min (min a b) t.2) l = min a (least (min b t.2) l); rw [Nat.min_assoc, ih]
theorem least_soon (t : Tm) (l : List Tm) : least t.2 (t :: l) = soon (t :: l) := by
  show least (min t.2 t.2) l = _
  rw [Nat.min_self]
  induction l generalizing t with
  | nil => rfl
  | cons u l ih => show least (min t.2 u.2) l = _; rw [least_min, ih]; rfl
section
variable {w : World} {D n c : Nat} {A : Option Addr} {l : List Tm}
set_option maxRecDepth 100000 in
theorem soonest_any (hr : RT w D A n l) (hD : D ≤ w.heap.size) (hn : 0 < n) (h63 : n ≤ 9223372036854775807) :
    Calls Try.prog 30 #[.slice A n c] w fun e w' => e = .returned (.int .u64 (soon l : Int)) ∧ Below w.heap.size w w' := by
  have hl := RT.len hr
  obtain ⟨b, o, ⟨id0, d0⟩, rfl, hb, he, ⟨z0, z1⟩⟩ := RT.at_ hr hn
  simp only [Nat.zero_mul, Nat.add_zero] at z0 z1
  have hlo : l = (id0, d0) :: l.drop 1 := by
    cases l with
    | nil => simp at he
    | cons a l => simp at he; subst he; rfl
  have HLO := Lib.hid hlo
  have HR := Lib.hid hr
  have HLn := Lib.hid hl
  clear hlo he hr hl
  go_enter Try.func30, Try.ntmps30
  go_wp2
  go_loopw [3, 12] (fun u i wr => ∃ k m : Nat, k ≤ n ∧ i = .int .i64 (k : Int) ∧ u = .int .u64 (m : Int) ∧ Hid (m = least d0 (l.take k)) ∧ Below w.heap.size w wr) (fun _ i _ => n - (intOf i).toNat)
  case atStart => exact ⟨0, d0, by omega, rfl, rfl, rfl, Below.refl _ _⟩
  case round =>
    obtain ⟨k, m, hk, rfl, rfl, hm, hbw⟩ := hrel
    by_cases hlt : k < n
    · have hrr := (Kit.Reads.below (HR.out.more hD) hbw)
      obtain ⟨b', o', ⟨id, d⟩, hA, hb', he, ⟨y0, y1⟩⟩ := RT.at_ hrr hlt
      cases hA
      have hb2 : b < wr.heap.size := by have := hbw.size; omega
      have HT := Lib.hid (take_snoc l k _ he)
      have HE := Lib.hid he
      simp only at y0 y1
      obtain ⟨m', hm'⟩ : ∃ m', min m d = m' := ⟨_, rfl⟩
      have hmin : ∀ w ts t, (Builtin.min_ ts t #[.int .u64 (m : Int), .int .u64 (d : Int)]).run Try.prog w = .ok (.int .u64 (m' : Int)) w := fun w ts t => by
        rw [Lib.run_min_ints, ← hm']
        congr 2
        omega
      have HM' := Lib.hid hm'
      clear hrr he hm'
      go_wp2
      go_roundw
      case rel => exact ⟨k + 1, m', by omega, by simp, rfl, by show _ = _; rw [HT.out, least_snoc, ← hm.out, HM'.out], hbw.alloc hbw.size _⟩
      case measure => simp [intOf]; omega
    · obtain rfl : k = n := by omega
      have : m = soon l := by
        have h1 := hm.out
        rw [List.take_of_length_le (by rw [HLn.out]; exact Nat.le_refl _)] at h1
        rw [h1, HLO.out, ← least_soon]
      subst this
      go_wp2
      go_ret
      exact ⟨rfl, hbw⟩
end
end Go.Proofs.Ytecejikolgkihaa.WalkB
