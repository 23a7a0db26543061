/- What the document's Crash leaves, walked. -/
import Derived.Test.YtmimpfccngihiaaDoorRefF
namespace Go.Proofs.YtmimpfccngihiaaDoor.RefG
open Go.RowKit Go.Proofs.YtmimpfccngihiaaDoor.Kit Go.Proofs.YtmimpfccngihiaaDoor.Blocks Go.Proofs.YtmimpfccngihiaaDoor.Model Go.Proofs.YtmimpfccngihiaaDoor.DskWalkA Go.Proofs.YtmimpfccngihiaaDoor.DskWalkC Go.Proofs.YtmimpfccngihiaaDoor.DskWalkD Go.Proofs.YtmimpfccngihiaaDoor.DskWalkJ Go.Proofs.YtmimpfccngihiaaDoor.Ref Go.Proofs.YtmimpfccngihiaaDoor.RefB Go.Proofs.YtmimpfccngihiaaDoor.RefC

/-- The disk that is left, its first k files done. -/
def upTo (m : M) (keep : List Int) (k : Nat) : M :=
  { room := m.room, fuel := -1, off := false, firm := fun j => if j < k then m.left keep j else [], soft := fun _ => [], there := fun j => if j < k then (m.crash keep).there j else false }
theorem upTo_zero (m : M) (keep : List Int) : upTo m keep 0 = M.new m.room := by simp [upTo, M.new]
theorem upTo_succ (m : M) (keep : List Int) (k : Nat) : upTo m keep (k + 1) = (upTo m keep k).set k (m.left keep k) [] ((m.crash keep).there k) := by
  simp only [upTo, M.set, M.mk.injEq, true_and]
  refine ⟨funext fun j => ?_, funext fun j => by split <;> rfl, funext fun j => ?_⟩
  · by_cases h : j = k
    · subst h; simp
    · simp only [h, if_false]
      by_cases h2 : j < k
      · simp [h2, show j < k + 1 by omega]
      · simp [h2, show ¬ j < k + 1 by omega]
  · by_cases h : j = k
    · subst h; simp
    · simp only [h, if_false]
      by_cases h2 : j < k
      · simp [h2, show j < k + 1 by omega]
      · simp [h2, show ¬ j < k + 1 by omega]
theorem upTo_all {m : M} (g : Fine m) (keep : List Int) : upTo m keep 16 = m.crash keep := by
  have g' := g.crash keep
  have e1 : (upTo m keep 16).firm = (m.crash keep).firm := funext fun j => by
    simp only [upTo]
    split
    · rfl
    · exact ((g'.gone j (g'.far j (by omega))).1).symm
  have e2 : (upTo m keep 16).there = (m.crash keep).there := funext fun j => by
    simp only [upTo]
    split
    · rfl
    · exact (g'.far j (by omega)).symm
  have e3 : upTo m keep 16 = { m.crash keep with firm := (upTo m keep 16).firm, there := (upTo m keep 16).there } := rfl
  rw [e3, e1, e2]
theorem str_toList (l : List UInt8) : (str l).toList = l := by rw [Lib.toList_data]; rfl
theorem cut_str (l : List UInt8) (k : Nat) (z : Int) (hz : z = (k : Int)) (hk : k ≤ l.length) (w : World) : (Instr.slice 9 (.string (str l)) none (some (.int .i64 z)) none).run Tryd.prog w = .ok (.string (str (l.take k))) w := by
  subst hz
  rw [run_slice_string_h w 9 _ Tryd.underlying9 .i64 _ (by omega) (by rw [str_size]; omega)]
  congr 2
  apply ByteArray.ext
  simp [str]
section
variable {w : World} {q : Nat} {m : M}
set_option maxRecDepth 100000 in
set_option maxHeartbeats 4000000 in
theorem rcrash_any (KA : Option Addr) (kn kc : Nat) (keep : List Int) (h : RefAt w q m) (g : Fine m) (hk : Reads w w.heap.size 1 KA kn (inums keep)) :
    Calls Tryd.prog 30 #[.pointer (some ⟨q, 0, none⟩), .slice KA kn kc] w fun e w' => ∃ q', e = .returned (.pointer (some ⟨q', 0, none⟩)) ∧ RefAt w' q' (m.crash keep) ∧ w.heap.size ≤ q' ∧ Below w.heap.size w w' := by
  have hkl : keep.length = kn := by have := hk.len; rwa [inums_length] at this
  have hrm := h.room
  have hlt := h.lt
  obtain ⟨w0, hw0⟩ : ∃ w0, w.alloc (.cells (refCells (M.new m.room)) 47) = w0 := ⟨_, rfl⟩
  have hr0 : RefAt w0 w.heap.size (upTo m keep 0) := by rw [upTo_zero, ← hw0]; exact heap_alloc_new w _
  have hb0 : Below w.heap.size w w0 := by rw [← hw0]; exact (Below.refl _ _).alloc (Nat.le_refl _) _
  have HW := Lib.hid hw0
  have HKL := Lib.hid hkl
  clear hw0 hkl
  go_enter Tryd.func30, Tryd.ntmps30
  go_wp2
  go_loopw [6] (fun i wr => ∃ k : Nat, k ≤ 16 ∧ i = .int .i64 (k : Int) ∧ RefAt wr w.heap.size (upTo m keep k) ∧ Only (fun b => b = w.heap.size) w0 wr) (fun i _ => 16 - (intOf i).toNat)
  case atStart =>
    have e := HW.out
    subst e
    exact ⟨0, by omega, rfl, hr0, Only.refl _ _⟩
  case round =>
    obtain ⟨k, hk16, rfl, hR, ho⟩ := hrel
    by_cases hlk : k < 16
    · have hbr : Only (fun b => b = w.heap.size) w wr := (Only.of_below hb0).trans ho
      have hm : RefAt wr q m := hbr.heap h (by omega)
      have hkr := hbr.reads hk (Nat.le_refl _) (fun b hb => by omega)
      have hf := hm.firm hlk
      have hs := hm.soft hlk
      have ht := hm.there hlk
      have hRf := hR.firm hlk
      have hRt := hR.there hlk
      have hff := hR.free k
      have hft := hR.free (32 + k)
      have hql := hm.lt
      have hRl := hR.lt
      have hqn : ¬ q = w.heap.size := by omega
      have hqn' : ¬ w.heap.size = q := by omega
      have hKl := kept_le keep k (m.soft k).length
      obtain ⟨K, hK⟩ : ∃ K, M.kept keep k (m.soft k).length = K := ⟨_, rfl⟩
      rw [hK] at hKl
      have hcat : str (m.firm k) ++ str ((m.soft k).take K) = str (m.left keep k) := by rw [str_append]; unfold M.left; rw [hK]
      have hsz : (str (m.firm k)).size + (str ((m.soft k).take K)).size ≤ 1048576 := by
        have h1 := all_le g k
        rw [all_length] at h1
        unfold M.len at h1
        rw [str_size, str_size, List.length_take]
        omega
      have hcut := fun (z : Int) (hz : z = (K : Int)) => cut_str (m.soft k) K z hz hKl
      have hbs : (str (m.soft k)).size = (m.soft k).length := str_size _
      have hthere : (m.crash keep).there k = (m.there k && (!(m.left keep k).isEmpty || (m.soft k).isEmpty)) := rfl
      have hfl : (str (m.left keep k)).toList = m.left keep k := str_toList _
      have hsl : (str (m.soft k)).toList = m.soft k := str_toList _
      have hsucc := upTo_succ m keep k
      have hkdef : k < keep.length → max 0 (min (keep.getD k 0) ((m.soft k).length : Int)) = (K : Int) := fun hh => by
        rw [← hK]; unfold M.kept; rw [if_pos hh]; omega
      have hkdef0 : ¬ k < keep.length → K = 0 := fun hh => by
        rw [← hK]; unfold M.kept; rw [if_neg hh]
      obtain ⟨a, ha⟩ : ∃ a, str (m.firm k) = a := ⟨_, rfl⟩
      obtain ⟨b, hb⟩ : ∃ b, str (m.soft k) = b := ⟨_, rfl⟩
      obtain ⟨bk, hbk⟩ : ∃ bk, str ((m.soft k).take K) = bk := ⟨_, rfl⟩
      obtain ⟨f, hfn⟩ : ∃ f, str (m.left keep k) = f := ⟨_, rfl⟩
      obtain ⟨t, htt⟩ : ∃ t, m.there k = t := ⟨_, rfl⟩
      obtain ⟨T, hTT⟩ : ∃ T, (m.crash keep).there k = T := ⟨_, rfl⟩
      rw [ha, hbk, hfn] at hcat
      rw [ha, hbk] at hsz
      rw [hb, hbk] at hcut
      rw [ha] at hf
      rw [hb] at hs hbs hsl
      rw [htt] at ht hthere
      rw [hTT] at hthere hsucc
      rw [hfn] at hfl
      rw [← hbs] at hkdef
      have hnb : ¬ 9223372036854775807 < a.size + bk.size := by omega
      have hR1 := fun W (hW : RefAt W w.heap.size (upTo m keep k)) => RefAt.setThere (RefAt.setFirm hW hlk (m.left keep k)) hlk T
      rw [hfn] at hR1
      have HR1 := Lib.hid hR1
      have HSU := Lib.hid hsucc
      have HTH := Lib.hid hthere
      have hk0 : (0 : Int) ≤ (k : Int) := by omega
      have hk1 : (k : Int) < 16 := by omega
      have hz0 : (0 : Int) ≤ (K : Int) := by omega
      have hz1 : (K : Int) ≤ (b.size : Int) := by omega
      clear hR1 hsucc hthere ha hb hbk hfn htt hTT hK hm hKl hbr
      have hle : (m.left keep k).isEmpty = f.toList.isEmpty := by rw [hfl]
      have hlb : (m.soft k).isEmpty = b.toList.isEmpty := by rw [hsl]
      have HTH' : Hid (T = (t && (!f.toList.isEmpty || b.toList.isEmpty))) := Lib.hid (by rw [← hle, ← hlb]; exact HTH.out)
      clear hfl hsl hle hlb HTH hbs hsz
      by_cases hjk : k < kn
      · obtain ⟨kb, ko, rfl, hkb, hkc⟩ := Reads.inum hkr hjk
        have hkb' : kb < wr.heap.size := by have := ho.size; have := hb0.size; omega
        have hkn0 : (k : Int) < (kn : Int) := by omega
        have hkd := hkdef (by rw [HKL.out]; exact hjk)
        clear hkdef hkdef0 hkr
        obtain ⟨kx, hkx⟩ : ∃ kx, keep.getD k 0 = kx := ⟨_, rfl⟩
        rw [hkx] at hkc hkd
        have hcutK := hcut (K : Int) rfl
        clear hkx hcut
        by_cases htt : t = false
        · subst htt
          obtain rfl : T = false := HTH'.out
          go_wp2_with fail
          go_quiet (fail)
          all_goals go_wp2_with fail
          all_goals go_region
          all_goals go_wp2_with fail
          all_goals go_region
          all_goals go_wp2
          all_goals
            have hRd : RefAt (wr.drewN (nq + 1)) w.heap.size (upTo m keep k) := hR
            have h4 := RefAt.drew (HR1.out _ hRd)
            rw [set_set, set_firm, set_soft] at h4
            have hsf : (upTo m keep k).soft k = [] := rfl
            rw [hsf, ← HSU.out] at h4
            have ho5 := ho.trans (((Only.drewN (Only.refl (fun b => b = w.heap.size) wr) (nq + 1)).trans ((only_set (wr.drewN (nq + 1)) w.heap.size k (.string f)).trans (only_set _ w.heap.size (32 + k) (.bool false)))).drew)
            clear hRd hsf
            go_roundw
            case rel => exact ⟨k + 1, by omega, by go_num, h4, ho5⟩
            case measure => simp [intOf]; omega
        · obtain rfl : t = true := by simpa using htt
          clear htt
          by_cases hfe : f.toList.isEmpty = false
          · obtain rfl : T = true := by rw [HTH'.out, hfe]; rfl
            have hfe2 : (!f.toList.isEmpty) = true := by rw [hfe]; rfl
            go_wp2_with fail
            go_quiet (fail)
            all_goals go_wp2_with fail
            all_goals go_region
            all_goals go_wp2_with fail
            all_goals go_region
            all_goals go_wp2
            all_goals
              have hRd : RefAt (wr.drewN (nq + 1)) w.heap.size (upTo m keep k) := hR
              have h4 := RefAt.drew (HR1.out _ hRd)
              rw [set_set, set_firm, set_soft] at h4
              have hsf : (upTo m keep k).soft k = [] := rfl
              rw [hsf, ← HSU.out] at h4
              have ho5 := ho.trans (((Only.drewN (Only.refl (fun b => b = w.heap.size) wr) (nq + 1)).trans ((only_set (wr.drewN (nq + 1)) w.heap.size k (.string f)).trans (only_set _ w.heap.size (32 + k) (.bool true)))).drew)
              clear hRd hsf
              go_roundw
              case rel => exact ⟨k + 1, by omega, by go_num, h4, ho5⟩
              case measure => simp [intOf]; omega
          · have hfe1 : f.toList.isEmpty = true := by simpa using hfe
            clear hfe
            by_cases hbe : b.toList.isEmpty = true
            · obtain rfl : T = true := by rw [HTH'.out, hfe1, hbe]; rfl
              have hfe2 : (!f.toList.isEmpty) = false := by rw [hfe1]; rfl
              go_wp2_with fail
              go_quiet (fail)
              all_goals go_wp2_with fail
              all_goals go_region
              all_goals go_wp2_with fail
              all_goals go_region
              all_goals go_wp2
              all_goals
                have hRd : RefAt (wr.drewN (nq + 1)) w.heap.size (upTo m keep k) := hR
                have h4 := RefAt.drew (HR1.out _ hRd)
                rw [set_set, set_firm, set_soft] at h4
                have hsf : (upTo m keep k).soft k = [] := rfl
                rw [hsf, ← HSU.out] at h4
                have ho5 := ho.trans (((Only.drewN (Only.refl (fun b => b = w.heap.size) wr) (nq + 1)).trans ((only_set (wr.drewN (nq + 1)) w.heap.size k (.string f)).trans (only_set _ w.heap.size (32 + k) (.bool true)))).drew)
                clear hRd hsf
                go_roundw
                case rel => exact ⟨k + 1, by omega, by go_num, h4, ho5⟩
                case measure => simp [intOf]; omega
            · have hbe1 : b.toList.isEmpty = false := by simpa using hbe
              clear hbe
              obtain rfl : T = false := by rw [HTH'.out, hfe1, hbe1]; rfl
              have hfe2 : (!f.toList.isEmpty) = false := by rw [hfe1]; rfl
              go_wp2_with fail
              go_quiet (fail)
              all_goals go_wp2_with fail
              all_goals go_region
              all_goals go_wp2_with fail
              all_goals go_region
              all_goals go_wp2
              all_goals
                have hRd : RefAt (wr.drewN (nq + 1)) w.heap.size (upTo m keep k) := hR
                have h4 := RefAt.drew (HR1.out _ hRd)
                rw [set_set, set_firm, set_soft] at h4
                have hsf : (upTo m keep k).soft k = [] := rfl
                rw [hsf, ← HSU.out] at h4
                have ho5 := ho.trans (((Only.drewN (Only.refl (fun b => b = w.heap.size) wr) (nq + 1)).trans ((only_set (wr.drewN (nq + 1)) w.heap.size k (.string f)).trans (only_set _ w.heap.size (32 + k) (.bool false)))).drew)
                clear hRd hsf
                go_roundw
                case rel => exact ⟨k + 1, by omega, by go_num, h4, ho5⟩
                case measure => simp [intOf]; omega
      · have hkd := hkdef0 (by rw [HKL.out]; exact hjk)
        have hcutK := hcut 0 (by rw [hkd]; rfl)
        have hkn0 : ¬ (k : Int) < (kn : Int) := by omega
        clear hkdef hkdef0 hkr hcut
        subst hkd
        clear hz0 hz1
        by_cases htt : t = false
        · subst htt
          obtain rfl : T = false := HTH'.out
          go_wp2_with fail
          go_region
          all_goals go_wp2_with fail
          all_goals go_region
          all_goals go_wp2
          all_goals
            have hRd : RefAt wr.drew w.heap.size (upTo m keep k) := hR
            have h4 := RefAt.drew (HR1.out _ hRd)
            rw [set_set, set_firm, set_soft] at h4
            have hsf : (upTo m keep k).soft k = [] := rfl
            rw [hsf, ← HSU.out] at h4
            have ho5 := ho.trans (((Only.drew (Only.refl (fun b => b = w.heap.size) wr)).trans ((only_set wr.drew w.heap.size k (.string f)).trans (only_set _ w.heap.size (32 + k) (.bool false)))).drew)
            clear hRd hsf
            go_roundw
            case rel => exact ⟨k + 1, by omega, by go_num, h4, ho5⟩
            case measure => simp [intOf]; omega
        · obtain rfl : t = true := by simpa using htt
          clear htt
          by_cases hfe : f.toList.isEmpty = false
          · obtain rfl : T = true := by rw [HTH'.out, hfe]; rfl
            have hfe2 : (!f.toList.isEmpty) = true := by rw [hfe]; rfl
            go_wp2_with fail
            go_region
            all_goals go_wp2_with fail
            all_goals go_region
            all_goals go_wp2
            all_goals
              have hRd : RefAt wr.drew w.heap.size (upTo m keep k) := hR
              have h4 := RefAt.drew (HR1.out _ hRd)
              rw [set_set, set_firm, set_soft] at h4
              have hsf : (upTo m keep k).soft k = [] := rfl
              rw [hsf, ← HSU.out] at h4
              have ho5 := ho.trans (((Only.drew (Only.refl (fun b => b = w.heap.size) wr)).trans ((only_set wr.drew w.heap.size k (.string f)).trans (only_set _ w.heap.size (32 + k) (.bool true)))).drew)
              clear hRd hsf
              go_roundw
              case rel => exact ⟨k + 1, by omega, by go_num, h4, ho5⟩
              case measure => simp [intOf]; omega
          · have hfe1 : f.toList.isEmpty = true := by simpa using hfe
            clear hfe
            by_cases hbe : b.toList.isEmpty = true
            · obtain rfl : T = true := by rw [HTH'.out, hfe1, hbe]; rfl
              have hfe2 : (!f.toList.isEmpty) = false := by rw [hfe1]; rfl
              go_wp2_with fail
              go_region
              all_goals go_wp2_with fail
              all_goals go_region
              all_goals go_wp2
              all_goals
                have hRd : RefAt wr.drew w.heap.size (upTo m keep k) := hR
                have h4 := RefAt.drew (HR1.out _ hRd)
                rw [set_set, set_firm, set_soft] at h4
                have hsf : (upTo m keep k).soft k = [] := rfl
                rw [hsf, ← HSU.out] at h4
                have ho5 := ho.trans (((Only.drew (Only.refl (fun b => b = w.heap.size) wr)).trans ((only_set wr.drew w.heap.size k (.string f)).trans (only_set _ w.heap.size (32 + k) (.bool true)))).drew)
                clear hRd hsf
                go_roundw
                case rel => exact ⟨k + 1, by omega, by go_num, h4, ho5⟩
                case measure => simp [intOf]; omega
            · have hbe1 : b.toList.isEmpty = false := by simpa using hbe
              clear hbe
              obtain rfl : T = false := by rw [HTH'.out, hfe1, hbe1]; rfl
              have hfe2 : (!f.toList.isEmpty) = false := by rw [hfe1]; rfl
              go_wp2_with fail
              go_region
              all_goals go_wp2_with fail
              all_goals go_region
              all_goals go_wp2
              all_goals
                have hRd : RefAt wr.drew w.heap.size (upTo m keep k) := hR
                have h4 := RefAt.drew (HR1.out _ hRd)
                rw [set_set, set_firm, set_soft] at h4
                have hsf : (upTo m keep k).soft k = [] := rfl
                rw [hsf, ← HSU.out] at h4
                have ho5 := ho.trans (((Only.drew (Only.refl (fun b => b = w.heap.size) wr)).trans ((only_set wr.drew w.heap.size k (.string f)).trans (only_set _ w.heap.size (32 + k) (.bool false)))).drew)
                clear hRd hsf
                go_roundw
                case rel => exact ⟨k + 1, by omega, by go_num, h4, ho5⟩
                case measure => simp [intOf]; omega
    · obtain rfl : k = 16 := by omega
      rw [upTo_all g] at hR
      go_wp2
      go_ret
      exact ⟨_, rfl, hR, Nat.le_refl _, hb0.trans (ho.below hb0.size (fun b hb => by omega))⟩
end
end Go.Proofs.YtmimpfccngihiaaDoor.RefG
