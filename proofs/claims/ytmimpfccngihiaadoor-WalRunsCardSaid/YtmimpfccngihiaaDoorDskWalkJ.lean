/- What Clone and Crash leave, walked. -/
import Derived.Test.YtmimpfccngihiaaDoorDskWalkI
import Derived.Lib.MinMax
import Derived.Lib.SliceRun
namespace Go.Proofs.YtmimpfccngihiaaDoor.DskWalkJ
open Go.RowKit Go.Proofs.YtmimpfccngihiaaDoor.Kit Go.Proofs.YtmimpfccngihiaaDoor.Blocks Go.Proofs.YtmimpfccngihiaaDoor.Keys Go.Proofs.YtmimpfccngihiaaDoor.Model Go.Proofs.YtmimpfccngihiaaDoor.Disk Go.Proofs.YtmimpfccngihiaaDoor.DskWalkA Go.Proofs.YtmimpfccngihiaaDoor.DskWalkB Go.Proofs.YtmimpfccngihiaaDoor.DskWalkC Go.Proofs.YtmimpfccngihiaaDoor.DskWalkD Go.Proofs.YtmimpfccngihiaaDoor.DskWalkE Go.Proofs.YtmimpfccngihiaaDoor.DskWalkI

/-- What Clone leaves. -/
def Cloned (w : World) (l : List UInt8) (e : Ending) (w' : World) : Prop :=
  ∃ A c, e = .returned (.slice A l.length c) ∧ Row w' w.heap.size 5 (.slice A l.length c) l.length (vals l) ∧ Below w.heap.size w w'
set_option maxRecDepth 100000 in
set_option maxHeartbeats 1000000 in
theorem clone_any (A : Option Addr) (n c : Nat) (l : List UInt8) (w : World) (hr : Reads w w.heap.size 1 A n (vals l)) (hn : n ≤ 1048576) :
    Calls Tryd.prog 54 #[.slice A n c] w (Cloned w l) := by
  have hl := reads_len hr
  have qT : ∀ w, (binOp .eql 65 (.slice A n c) (.slice none 0 0)).run Tryd.prog w = .ok (.bool A.isNone) w := fun w => Go.Lib.run_eql_slice_nil w _ _ _ _ _ _ _ Tryd.underlying65
  cases A with
  | none =>
    have hn0 : n = 0 := by
      rcases Nat.eq_zero_or_pos n with h0 | h0
      · exact h0
      · obtain ⟨ad, h', _⟩ := hr.2 h0
        cases h'
    have hl0 : l = [] := List.eq_nil_of_length_eq_zero (by omega)
    subst hl0
    clear hl hn hr
    subst hn0
    go_enter Tryd.func54, Tryd.ntmps54
    go_wp2
    go_ret
    exact ⟨none, 0, rfl, row_nil _ _ _, Below.refl _ _⟩
  | some a =>
    obtain ⟨i0, hi0, hz0, hz1, hz2⟩ := info_parts info8
    have hm1 : 0 + n ≤ maxLen := by unfold maxLen; omega
    have hs1 : (0 + n) * 1 ≤ 140737488355328 := by omega
    have hBo : ∀ o, w.heap.size ≤ (w.alloc o).heap.size := fun o => by simp
    have hra : ∀ o, Reads (w.alloc o) w.heap.size 1 (some a) n (vals l) := fun o => hr.alloc (Nat.le_refl _) o
    have hown0 : (w.alloc (.cells #[] 5)).ownsRow w.heap.size 5 1 (.slice (some ⟨w.heap.size, 0, none⟩) 0 0) 0 [] :=
      ⟨rfl, .inr ⟨w.heap.size, 0, #[], rfl, Nat.le_refl _, heap_alloc_new w _, Nat.le_refl _, Nat.zero_le _, rfl, rfl⟩⟩
    have HL := Lib.hid hl
    clear hl
    go_enter Tryd.func54, Tryd.ntmps54
    go_wp2_with (first
      | (at_builtin
         refine wpList_append_any _ rfl (.tmp 5) (.tmp 6) _ rfl w.heap.size 5 i0 _ 1 1 Tryd.underlying65 hi0 hz0 hz1 hz2 rfl (by decide) _ 0 [] rfl hown0
           w.heap.size (some a) n c (vals l) rfl (hra _) (vals_one _) hm1 hs1 (hBo _) ?_
         intro v' w1 hown1 hg1 hat1))
    go_ret
    obtain ⟨A', c', rfl, _, _, _⟩ := own_form hown1
    have hr1 := own_cast hown1 (show 0 + n = l.length by have := HL.out; omega) (List.nil_append _)
    have hb1 : Below w.heap.size w w1 := ((Below.refl _ _).alloc (Nat.le_refl _) _).grown hg1 (by simp) (own_lt hown0)
    rw [show 0 + n = l.length by have := HL.out; omega] at hr1 ⊢
    exact ⟨A', c', rfl, Row.of_own hr1, hb1⟩

/-! ### Crash -/
def inums (l : List Int) : List Value := l.map (Value.int .i64)
theorem inums_length (l : List Int) : (inums l).length = l.length := by simp [inums]
theorem Reads.inum {w : World} {B n k : Nat} {A : Option Addr} {l : List Int} (h : Reads w B 1 A n (inums l)) (hk : k < n) : ∃ b o, A = some ⟨b, o, none⟩ ∧ b < B ∧ w.cell? ⟨b, o + k, none⟩ = some (.int .i64 (l.getD k 0)) := by
  obtain ⟨ad, u, rfl, hb, hx, hc⟩ := h.at_ hk
  have hs := h.spot (by omega)
  have hl : k < l.length := by have := h.len; rw [inums_length] at this; omega
  simp only [inums, List.getElem?_map, List.getElem?_eq_getElem hl, Option.map_some, Option.some.injEq] at hx
  subst hx
  refine ⟨ad.block, ad.off, by rw [← hs], hb, ?_⟩
  rw [hs, Addr.add_lit] at hc
  rw [hc]
  simp [List.getElem?_eq_getElem hl]
/-- While files are laid into the new disk: so many are done; of what there was in w1 only its own block is written. -/
def Mid (w1 : World) (po k : Nat) (o : M) (wr : World) : Prop := ∃ A c mb x, DV wr po k o A c mb x none ∧ (∀ q, Foot po mb A q → q = po ∨ w1.heap.size ≤ q) ∧ Only (fun q => q = po) w1 wr
theorem run_upto (A : Option Addr) (n c k : Nat) (hk : k ≤ c) (w : World) : (Instr.slice 65 (.slice A n c) none (some (.int .i64 (k : Int))) none).run Tryd.prog w = .ok (.slice A k c) w := by
  have ht' : Tryd.prog.underlying 65 = some (.slice (Tryd.prog.elem 65)) := by kernel_rfl
  rw [run_slice_h w 65 _ _ _ ht' .i64 _ (by omega) (by omega)]
  have hz : ∀ w, (Go.sizeOf (Tryd.prog.elem 65)).run Tryd.prog w = .ok 1 w := fun _ => by kernel_rfl
  rw [hz]
  cases A <;> simp [Result.andThen, sliced, Kit.add_zero]
/-- What is kept of a file. -/
theorem kept_at (m : M) (keep : List Int) (j : Nat) (h : j < keep.length) : ((m.firm j).length : Int) + min (max (keep.getD j 0) 0) ((m.soft j).length : Int) = ((m.left keep j).length : Int) := by
  rw [left_length]
  unfold M.kept
  rw [if_pos h]
  omega
theorem kept_past (m : M) (keep : List Int) (j : Nat) (h : ¬ j < keep.length) : (m.left keep j).length = (m.firm j).length := by
  rw [left_length]
  unfold M.kept
  rw [if_neg h]
  omega
theorem Mid.skip {w1 wr W : World} {po k : Nat} {o : M} (h : Mid w1 po k o wr) (hb : Below wr.heap.size wr W) : Mid w1 po (k + 1) o W := by
  obtain ⟨A, c, mb, x, hD, hf, ho⟩ := h
  exact ⟨A, c, mb, x, (hD.below hb).more (by omega), hf, ho.trans (Only.of_below hb)⟩
theorem Mid.put {w1 wr W w3 : World} {po k : Nat} {o o' : M} {A : Nat → Option Addr} {mb : Option Nat} {A1 : Option Addr} {e : Ending} (hf : ∀ q, Foot po mb A q → q = po ∨ w1.heap.size ≤ q) (ho : Only (fun q => q = po) w1 wr) (hb : Below wr.heap.size wr W)
    (hA : ∀ y, A1 = some y → wr.heap.size ≤ y.block) (hL : Laid W po (k + 1) o' A mb A1 e w3) (hfr : o = o') : Mid w1 po (k + 1) o w3 := by
  subst hfr
  obtain ⟨_, A', c', mb', x', h5, ho5, hf5⟩ := hL
  have hs1 := ho.size
  have hs2 := hb.size
  refine ⟨A', c', mb', x', h5, fun q hq => ?_, (ho.trans (Only.of_below hb)).trans' ho5 fun q hq => hf q hq⟩
  rcases hf5 q hq with h1 | h1 | ⟨y, hy, rfl⟩
  · exact hf q h1
  · exact .inr (by omega)
  · exact .inr (by have := hA y hy; omega)
section
variable {w : World} {p N : Nat} {m : M} {A : Nat → Option Addr} {c : Nat → Nat} {mb : Option Nat} {x : Int}
set_option maxRecDepth 100000 in
set_option maxHeartbeats 2000000 in
theorem crash_any (KA : Option Addr) (kn kc : Nat) (keep : List Int) (h : DV w p N m A c mb x none) (g : Fine m) (hk : Reads w w.heap.size 1 KA kn (inums keep)) :
    Calls Tryd.prog 28 #[.pointer (some ⟨p, 0, none⟩), .slice KA kn kc] w fun e w' => e = .returned (.pointer (some ⟨w.heap.size, 0, none⟩)) ∧ Fresh w 16 (m.crash keep) w.heap.size w' := by
  have hkl : keep.length = kn := by have := hk.len; rwa [inums_length] at this
  obtain ⟨_, hb0, A0, c0, mb0, x0, h0, hf0⟩ := fresh_new w m.room
  have hd0 := h.below hb0
  have hc0 := h.c0
  have hlt := h.lt
  go_enter Tryd.func28, Tryd.ntmps28
  go_wp2_with fail
  refine (files_any hd0).mono ?_
  rintro e w1 ⟨v, rfl, hown, hb1⟩
  have hln : m.files.length ≤ 16 := filesTo_le m 16
  obtain ⟨n, hn⟩ : ∃ n, m.files.length = n := ⟨_, rfl⟩
  rw [hn] at hown hln
  have hrw := own_lt hown
  obtain ⟨FA, fc, rfl, _, _, hr⟩ := own_form hown
  have HN := Lib.hid hn
  have hs1 := hb1.size
  have hs0 : (w.alloc (.cells #[.int .i64 (m.room : Int), .int .i64 (-1), .bool false, .map none] 79)).heap.size = w.heap.size + 1 := by simp
  have hmid0 : Mid w1 w.heap.size 0 (many m keep (m.files.take 0)) w1 := ⟨A0, c0, mb0, x0, h0.below hb1, fun q hq => by
    have h1 := hf0 q hq
    have h2 := h0.foot_lt hq
    omega, Only.refl _ _⟩
  have HS0 := Lib.hid hs0
  have HKL := Lib.hid hkl
  clear hown hn h0 hf0 hs0 hkl
  go_wp2
  go_loopw [22] (fun i wr => ∃ k : Nat, k ≤ n ∧ i = .int .i64 (k : Int) ∧ Mid w1 w.heap.size k (many m keep (m.files.take k)) wr) (fun i _ => n - (intOf i).toNat)
  case atStart => exact ⟨0, by omega, rfl, hmid0⟩
  case round =>
    obtain ⟨k, hkn, rfl, hmid⟩ := hrel
    by_cases hlk : k < n
    · obtain ⟨A', c', mb', x', hD, hfD, ho⟩ := hmid
      have hpo := hD.lt
      have hsw := ho.size
      have how : Only (fun q => q = w.heap.size) w wr := (Only.of_below (hb0.trans (hb1.mono hb0.size))).trans ho
      have hd := h.keep how (fun q hq => by have := h.foot_lt hq; omega)
      have hkr := how.reads hk (Nat.le_refl _) (fun q hq => by omega)
      have hfr : Reads wr w1.heap.size 1 FA n (nums m.files) := by
        refine ⟨hr.1, fun hn => ?_⟩
        obtain ⟨ad, e, hb, hcc⟩ := hr.2 hn
        refine ⟨ad, e, hb, fun j u hu => (ho.cell (by rw [block_of_add]; exact hb) ?_).trans (hcc j u hu)⟩
        rw [block_of_add]
        have h1 := hrw ad.block (by rw [e]; rfl)
        rw [HS0.out] at h1
        omega
      obtain ⟨b, o, j, rfl, hbl, hj, hcell⟩ := Reads.num hfr hlk
      obtain ⟨hj16, hjt⟩ := mem_files hj
      have hrun := look_one hd g (Below.refl _ _) (n := (j : Int)) (by omega)
      simp only [Int.toNat_natCast] at hrun
      have hc3 := hd.c3
      have hpl := hd.lt
      have hrow := hd.own j (by simp)
      have hmt := many_take m keep m.files k j hj
      have hall := all_le g j
      have hlt2 := left_take m keep j
      have hLF : (((m.all j).length : Nat) : Int) - ((m.firm j).length : Int) = ((m.soft j).length : Int) := by simp only [M.all, List.length_append]; omega
      have hkat := kept_at m keep j
      have hkpa := kept_past m keep j
      have hKL : (m.left keep j).length ≤ (m.all j).length := by rw [left_length, all_length]; have := kept_le keep j (m.soft j).length; unfold M.len; omega
      have hlc : (m.all j).length ≤ c j := by
        rcases hrow.2 with ⟨_, h0⟩ | ⟨g, cap, cur, fz, hv, _, _, _, h1, _⟩
        · omega
        · simp only [sv, Value.slice.injEq] at hv
          omega
      have hcl : ∀ W, Below wr.heap.size wr W → Calls Tryd.prog 54 #[.slice (A j) (m.left keep j).length (c j)] W (Cloned W (m.left keep j)) := fun W hW => by
        refine clone_any (A j) _ (c j) (m.left keep j) W ?_ (by omega)
        have h1 := Reads.of_row ((hd.below hW).own j (by simp))
        have h2 := h1.bytes_upto hKL
        rwa [← hlt2] at h2
      have hsK : stands m keep j = (decide (0 < (m.left keep j).length) || decide ((m.soft j).length = 0)) := by
        unfold stands
        congr 1
        · cases m.left keep j <;> simp
        · cases m.soft j <;> simp
      obtain ⟨fa, hfa⟩ : ∃ fa, A j = fa := ⟨_, rfl⟩
      obtain ⟨fcc, hfc⟩ : ∃ fcc, c j = fcc := ⟨_, rfl⟩
      obtain ⟨L, hL⟩ : ∃ L, (m.all j).length = L := ⟨_, rfl⟩
      obtain ⟨F, hF⟩ : ∃ F, (m.firm j).length = F := ⟨_, rfl⟩
      obtain ⟨S, hS⟩ : ∃ S, (m.soft j).length = S := ⟨_, rfl⟩
      obtain ⟨K, hK⟩ : ∃ K, (m.left keep j).length = K := ⟨_, rfl⟩
      rw [hfa, hfc, hL, hF] at hrun
      rw [hL, hF, hS] at hLF
      rw [hF, hS, hK] at hkat
      rw [hF, hK] at hkpa
      rw [hK, hL] at hKL
      rw [hfc, hL] at hlc
      rw [hL] at hall
      rw [hfa, hfc, hK] at hcl
      rw [hK, hS] at hsK
      have hup := run_upto fa L fcc K (by omega)
      have HMT := Lib.hid hmt
      have HK := Lib.hid hK
      have HCL := Lib.hid hcl
      have HSK := Lib.hid hsK
      have HROW := Lib.hid hrow
      have hbal : ∀ o, Below wr.heap.size wr (wr.alloc o) := fun o => (Below.refl _ _).alloc (Nat.le_refl _) o
      clear hmt hlt2 hfa hfc hL hF hS hK hcl hrow hj hsK
      by_cases hjk : j < kn
      · obtain ⟨kb, ko, rfl, hkb, hkc⟩ := Reads.inum hkr hjk
        have hkb' : kb < wr.heap.size := by have := how.size; omega
        have hkat' := hkat (by rw [HKL.out]; exact hjk)
        clear hkat hkpa
        obtain ⟨kx, hkx⟩ : ∃ kx, keep.getD j 0 = kx := ⟨_, rfl⟩
        rw [hkx] at hkc hkat'
        clear hkx
        obtain ⟨K0, hK0⟩ : ∃ K0, min (max kx 0) (S : Int) = K0 := ⟨_, rfl⟩
        rw [hK0] at hkat'
        by_cases hK1 : 0 < K
        · have hst := HSK.out
          rw [decide_eq_true hK1, Bool.true_or] at hst
          have hmt := HMT.out
          unfold one at hmt
          rw [if_pos hst] at hmt
          have HMT := Lib.hid hmt
          clear hmt hst
          go_wp2_with fail
          refine (HCL.out _ (hbal _)).mono ?_
          rintro e W2 ⟨A1, cc1, rfl, hrow1, hb2⟩
          have hbW := (hbal _).trans (hb2.mono (by simp))
          have hsW := hbW.size
          have hr1 : Row W2 (w.heap.size + 1) 5 (.slice A1 (m.left keep j ++ []).length cc1) (m.left keep j ++ []).length (vals (m.left keep j ++ [])) := by
            rw [List.append_nil]
            exact hrow1.lower (by simp; omega)
          have hA1 : ∀ y, A1 = some y → wr.heap.size ≤ y.block := fun y hy => by
            have h1 := (hrow1.lt y.block (by rw [hy]; rfl)).1
            simp at h1
            omega
          have hlen : (m.left keep j).length = (m.left keep j ++ []).length := by rw [List.append_nil]
          have HLEN := Lib.hid hlen
          have HR1 := Lib.hid hr1
          clear hrow1 hr1 hlen
          go_wp2_with fail
          refine (put_any (hD.below hbW) (by omega) j hj16 (fun j hj => by cases hj) (m.left keep j) [] A1 cc1 HR1.out ?_ _ _ _ rfl ?_ HLEN.out).mono ?_
          · intro y hy j' z _ hz
            have h1 := hA1 y hy
            have h2 := (hD.rows j' z hz).2
            omega
          · rw [HK.out]
          · rintro e w3 hL3
            have hM := Mid.put hfD ho hbW hA1 hL3 HMT.out
            obtain ⟨rfl, _⟩ := hL3
            go_wp2
            go_roundw
            case rel => exact ⟨k + 1, by omega, by go_num, hM⟩
            case measure => simp [intOf]; omega
        · by_cases hS0 : S = 0
          · have hst := HSK.out
            rw [decide_eq_true hS0, Bool.or_true] at hst
            have hSb : ((S : Int) == 0) = true := by simp [hS0]
            have HSZ := Lib.hid hS0
            clear hS0
            have hmt := HMT.out
            unfold one at hmt
            rw [if_pos hst] at hmt
            have HMT := Lib.hid hmt
            clear hmt hst
            go_wp2_with fail
            refine (HCL.out _ (hbal _)).mono ?_
            rintro e W2 ⟨A1, cc1, rfl, hrow1, hb2⟩
            have hbW := (hbal _).trans (hb2.mono (by simp))
            have hsW := hbW.size
            have hr1 : Row W2 (w.heap.size + 1) 5 (.slice A1 (m.left keep j ++ []).length cc1) (m.left keep j ++ []).length (vals (m.left keep j ++ [])) := by
              rw [List.append_nil]
              exact hrow1.lower (by simp; omega)
            have hA1 : ∀ y, A1 = some y → wr.heap.size ≤ y.block := fun y hy => by
              have h1 := (hrow1.lt y.block (by rw [hy]; rfl)).1
              simp at h1
              omega
            have hlen : (m.left keep j).length = (m.left keep j ++ []).length := by rw [List.append_nil]
            have HLEN := Lib.hid hlen
            have HR1 := Lib.hid hr1
            clear hrow1 hr1 hlen
            go_wp2_with fail
            refine (put_any (hD.below hbW) (by omega) j hj16 (fun j hj => by cases hj) (m.left keep j) [] A1 cc1 HR1.out ?_ _ _ _ rfl ?_ HLEN.out).mono ?_
            · intro y hy j' z _ hz
              have h1 := hA1 y hy
              have h2 := (hD.rows j' z hz).2
              omega
            · rw [HK.out]
            · rintro e w3 hL3
              have hM := Mid.put hfD ho hbW hA1 hL3 HMT.out
              obtain ⟨rfl, _⟩ := hL3
              go_wp2
              go_roundw
              case rel => exact ⟨k + 1, by omega, by go_num, hM⟩
              case measure => simp [intOf]; omega
          · have hst := HSK.out
            rw [decide_eq_false hS0, decide_eq_false hK1] at hst
            have hSb : ((S : Int) == 0) = false := by simpa using hS0
            have hmt := HMT.out
            unfold one at hmt
            rw [if_neg (by rw [hst]; decide)] at hmt
            have HMT := Lib.hid hmt
            clear hmt hst hS0
            go_wp2_with fail
            go_roundw
            case rel => exact ⟨k + 1, by omega, by go_num, by rw [HMT.out]; exact Mid.skip ⟨_, _, _, _, hD, hfD, ho⟩ (hbal _)⟩
            case measure => simp [intOf]; omega
      · have hFK := hkpa (by rw [HKL.out]; exact hjk)
        clear hkat hkpa
        subst hFK
        by_cases hK1 : 0 < K
        · have hst := HSK.out
          rw [decide_eq_true hK1, Bool.true_or] at hst
          have hmt := HMT.out
          unfold one at hmt
          rw [if_pos hst] at hmt
          have HMT := Lib.hid hmt
          clear hmt hst
          go_wp2_with fail
          refine (HCL.out _ (hbal _)).mono ?_
          rintro e W2 ⟨A1, cc1, rfl, hrow1, hb2⟩
          have hbW := (hbal _).trans (hb2.mono (by simp))
          have hsW := hbW.size
          have hr1 : Row W2 (w.heap.size + 1) 5 (.slice A1 (m.left keep j ++ []).length cc1) (m.left keep j ++ []).length (vals (m.left keep j ++ [])) := by
            rw [List.append_nil]
            exact hrow1.lower (by simp; omega)
          have hA1 : ∀ y, A1 = some y → wr.heap.size ≤ y.block := fun y hy => by
            have h1 := (hrow1.lt y.block (by rw [hy]; rfl)).1
            simp at h1
            omega
          have hlen : (m.left keep j).length = (m.left keep j ++ []).length := by rw [List.append_nil]
          have HLEN := Lib.hid hlen
          have HR1 := Lib.hid hr1
          clear hrow1 hr1 hlen
          go_wp2_with fail
          refine (put_any (hD.below hbW) (by omega) j hj16 (fun j hj => by cases hj) (m.left keep j) [] A1 cc1 HR1.out ?_ _ _ _ rfl ?_ HLEN.out).mono ?_
          · intro y hy j' z _ hz
            have h1 := hA1 y hy
            have h2 := (hD.rows j' z hz).2
            omega
          · rw [HK.out]
          · rintro e w3 hL3
            have hM := Mid.put hfD ho hbW hA1 hL3 HMT.out
            obtain ⟨rfl, _⟩ := hL3
            go_wp2
            go_roundw
            case rel => exact ⟨k + 1, by omega, by go_num, hM⟩
            case measure => simp [intOf]; omega
        · by_cases hS0 : S = 0
          · have hst := HSK.out
            rw [decide_eq_true hS0, Bool.or_true] at hst
            have hSb : ((S : Int) == 0) = true := by simp [hS0]
            have HSZ := Lib.hid hS0
            clear hS0
            have hmt := HMT.out
            unfold one at hmt
            rw [if_pos hst] at hmt
            have HMT := Lib.hid hmt
            clear hmt hst
            go_wp2_with fail
            refine (HCL.out _ (hbal _)).mono ?_
            rintro e W2 ⟨A1, cc1, rfl, hrow1, hb2⟩
            have hbW := (hbal _).trans (hb2.mono (by simp))
            have hsW := hbW.size
            have hr1 : Row W2 (w.heap.size + 1) 5 (.slice A1 (m.left keep j ++ []).length cc1) (m.left keep j ++ []).length (vals (m.left keep j ++ [])) := by
              rw [List.append_nil]
              exact hrow1.lower (by simp; omega)
            have hA1 : ∀ y, A1 = some y → wr.heap.size ≤ y.block := fun y hy => by
              have h1 := (hrow1.lt y.block (by rw [hy]; rfl)).1
              simp at h1
              omega
            have hlen : (m.left keep j).length = (m.left keep j ++ []).length := by rw [List.append_nil]
            have HLEN := Lib.hid hlen
            have HR1 := Lib.hid hr1
            clear hrow1 hr1 hlen
            go_wp2_with fail
            refine (put_any (hD.below hbW) (by omega) j hj16 (fun j hj => by cases hj) (m.left keep j) [] A1 cc1 HR1.out ?_ _ _ _ rfl ?_ HLEN.out).mono ?_
            · intro y hy j' z _ hz
              have h1 := hA1 y hy
              have h2 := (hD.rows j' z hz).2
              omega
            · rw [HK.out]
            · rintro e w3 hL3
              have hM := Mid.put hfD ho hbW hA1 hL3 HMT.out
              obtain ⟨rfl, _⟩ := hL3
              go_wp2
              go_roundw
              case rel => exact ⟨k + 1, by omega, by go_num, hM⟩
              case measure => simp [intOf]; omega
          · have hst := HSK.out
            rw [decide_eq_false hS0, decide_eq_false hK1] at hst
            have hSb : ((S : Int) == 0) = false := by simpa using hS0
            have hmt := HMT.out
            unfold one at hmt
            rw [if_neg (by rw [hst]; decide)] at hmt
            have HMT := Lib.hid hmt
            clear hmt hst hS0
            go_wp2_with fail
            go_roundw
            case rel => exact ⟨k + 1, by omega, by go_num, by rw [HMT.out]; exact Mid.skip ⟨_, _, _, _, hD, hfD, ho⟩ (hbal _)⟩
            case measure => simp [intOf]; omega
    · obtain rfl : k = n := by omega
      have ht : m.files.take k = m.files := List.take_of_length_le (by rw [HN.out]; exact Nat.le_refl _)
      rw [ht, many_files g] at hmid
      clear ht
      go_wp2
      go_ret
      obtain ⟨A', c', mb', x', h', hf', ho'⟩ := hmid
      have hsz0 := hb0.size
      have hsz1 : w.heap.size ≤ w1.heap.size := Nat.le_trans hsz0 hs1
      refine ⟨rfl, Nat.le_refl _, (hb0.trans (hb1.mono hsz0)).trans (ho'.below hsz1 (fun q hq => by omega)), A', c', mb', x', h'.more hln, fun q hq => ?_⟩
      have := hf' q hq
      omega
end
end Go.Proofs.YtmimpfccngihiaaDoor.DskWalkJ
