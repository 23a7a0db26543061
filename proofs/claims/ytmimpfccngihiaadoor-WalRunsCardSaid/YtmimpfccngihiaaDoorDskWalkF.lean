/- What Append leaves, walked. -/
import Derived.Test.YtmimpfccngihiaaDoorDskWalkE
namespace Go.Proofs.YtmimpfccngihiaaDoor.DskWalkF
open Go.RowKit Go.Proofs.YtmimpfccngihiaaDoor.Kit Go.Proofs.YtmimpfccngihiaaDoor.Blocks Go.Proofs.YtmimpfccngihiaaDoor.Keys Go.Proofs.YtmimpfccngihiaaDoor.Model Go.Proofs.YtmimpfccngihiaaDoor.Disk Go.Proofs.YtmimpfccngihiaaDoor.DskWalkA Go.Proofs.YtmimpfccngihiaaDoor.DskWalkB Go.Proofs.YtmimpfccngihiaaDoor.DskWalkC Go.Proofs.YtmimpfccngihiaaDoor.DskWalkD Go.Proofs.YtmimpfccngihiaaDoor.DskWalkE

section
variable {w : World} {p N : Nat} {m : M} {A : Nat → Option Addr} {c : Nat → Nat} {mb : Option Nat} {x : Int}
set_option maxRecDepth 100000 in
set_option maxHeartbeats 1000000 in
theorem append_ok (i : Nat) (s : ByteArray) (h : DV w p N m A c mb x none) (g : Fine m) (hN : N < 1000000) (hi16 : i < 16) (hoff : m.off = false) (hf : ¬ m.room < m.used + s.size) (h0 : ¬ m.fuel = 0) :
    Calls Tryd.prog 33 #[.pointer (some ⟨p, 0, none⟩), .int .i64 (i : Int), .string s] w (LeavesD w p (N + 1) (0, m.burnt.set i (m.firm i) (m.soft i ++ s.data.toList) true) A mb) := by
  obtain ⟨i0, hi0, hz0, hz1, hz2⟩ := info_parts info8
  have HO := Lib.hid hoff
  have H0 := Lib.hid h0
  have hgt : ¬ (m.room : Int) - (m.used : Int) < (s.size : Int) := by omega
  have hgb : decide ((m.room : Int) - (m.used : Int) < (s.size : Int)) = false := decide_eq_false hgt
  have hrm := g.room
  have hlu := len_le_used m (i := i) (by omega)
  have hlen : m.len i + s.size ≤ 1048576 := by omega
  have hn : 0 ≤ (i : Int) ∧ (i : Int) < 16 := by omega
  have HN := Lib.hid hn
  clear hoff hf h0 hlu hrm hn
  go_enter Tryd.func33, Tryd.ntmps33
  go_wp2_with fail
  refine (file_yes (i : Int) _ HN.out).mono ?_
  rintro e w1 ⟨rfl, rfl⟩
  go_wp2_with fail
  refine (off_hid false h HO).mono ?_
  rintro e w1 ⟨rfl, rfl⟩
  go_wp2_with fail
  refine (free_any h g).mono ?_
  rintro e w1 ⟨rfl, hb1⟩
  go_wp2_with fail
  refine (step_wet (h.below hb1) H0.out).mono ?_
  rintro e w2 ⟨rfl, x2, h2, ho2⟩
  have hrun := look_one h2 g.burnt (Below.refl _ _) (n := (i : Int)) HN.out
  have hb : m.burnt.all i = m.all i := rfl
  have hb2 : m.burnt.firm i = m.firm i := rfl
  simp only [Int.toNat_natCast, hb, hb2, all_length] at hrun
  have hc3 := h2.c3
  have hpl := h2.lt
  have hown := h2.own i (by simp)
  simp only [sv, hb, all_length] at hown
  obtain ⟨L, hL⟩ : ∃ L, m.len i = L := ⟨_, rfl⟩
  obtain ⟨F, hF⟩ : ∃ F, (m.firm i).length = F := ⟨_, rfl⟩
  obtain ⟨a, ha⟩ : ∃ a, A i = a := ⟨_, rfl⟩
  obtain ⟨k, hk⟩ : ∃ k, c i = k := ⟨_, rfl⟩
  rw [hL, hF, ha, hk] at hrun
  rw [hL, ha, hk] at hown
  rw [hL] at hlen
  have HL := Lib.hid hL
  have HF := Lib.hid hF
  have HA := Lib.hid ha
  have HK := Lib.hid hk
  have hsv : sv m.burnt A c i = .slice a L k := by
    have e : m.burnt.all i = m.all i := rfl
    simp only [sv, e, all_length, hL, ha, hk]
  have HSV := Lib.hid hsv
  have hxs : vals (m.all i) ++ vals s.data.toList = vals (m.burnt.firm i ++ (m.burnt.soft i ++ s.data.toList)) := by rw [← List.append_assoc, vals_append]; rfl
  have hxl : L + s.size = (m.burnt.firm i ++ (m.burnt.soft i ++ s.data.toList)).length := by
    rw [← hL, ← List.append_assoc, List.length_append, ← all_length]
    rfl
  have HXS := Lib.hid hxs
  have HXL := Lib.hid hxl
  clear hL hF ha hk hb hb2 hsv hxs hxl
  have hm1 : L + s.size ≤ maxLen := by unfold maxLen; omega
  have hs1 : L + s.size ≤ 140737488355328 := by omega
  have hB : ∀ o, p + 1 ≤ (w2.alloc o).heap.size := fun o => by simp; omega
  go_wp2_with (first
    | (at_builtin
       refine wpList_append_row _ rfl (.tmp 28) (.tmp 29) _ _ rfl (p + 1) 5 i0 Tryd.underlying65 Tryd.underlying9 hi0 hz0 hz1 hz2 (.slice a L k) L (vals (m.all i)) rfl (hown.alloc _) s rfl hm1 hs1 (hB _) ?_
       intro A1 c1 w3 hown3 hg3 hat3
       have hg' : (w2.alloc (.cells #[.slice a L k, .int .i64 (F : Int)] 82)).grownBy w3 (sv m.burnt A c i).ownBlock := by rw [HSV.out]; exact hg3
       have hat' : (Value.slice A1 (L + s.size) c1).ownBlock = (sv m.burnt A c i).ownBlock ∨ (Value.slice A1 (L + s.size) c1).ownBlock = some (w2.alloc (.cells #[.slice a L k, .int .i64 (F : Int)] 82)).heap.size := by rw [HSV.out]; exact hat3
       obtain ⟨hF3, h4, hown4, ho4, hnew4⟩ := grown_file h2 hown3 HXL.out HXS.out rfl hg' hat'
       have hc30 : w3.cell? ⟨w2.heap.size, 0, none⟩ = some (.slice a L k) := by rw [cell_at hF3]; rfl
       have hc31 : w3.cell? ⟨w2.heap.size, 1, none⟩ = some (.int .i64 (F : Int)) := by rw [cell_at hF3]; rfl
       have hf30 := free_at hF3 0
       have hlt3 := lt_at hF3
       clear hg' hat' hown3 hg3 hat3 hF3))
  refine (put_any h4 hN i hi16 (fun j hj => by cases hj; rfl) _ _ A1 c1 hown4 ?_ _ _ _ rfl ?_ ?_).mono ?_
  · intro y hy j z hj hz
    rcases hnew4 y hy with ⟨z', hz', e⟩ | e
    · rw [← e]
      exact h2.apart i j z' z (fun e => hj e.symm) hz' hz
    · have := (h2.rows j z hz).2
      omega
  · rw [← HF.out]; rfl
  · exact HXL.out
  · rintro e w5 ⟨rfl, A', c', mb', x', h5, ho5, hf5⟩
    have hsz := ho4.size
    have hs2 := ho2.size
    have hs1 := hb1.size
    go_wp2
    go_ret
    refine ⟨rfl, A', c', mb', x', h5, (Only.of_below hb1).trans ((ho2.mono fun q _ hq => .inl hq).trans ((ho4.mono fun q _ hq => .inr (.inr ⟨i, hq⟩)).trans ho5)), fun q hq => ?_⟩
    rcases hf5 q hq with h1 | h1 | ⟨y, hy, rfl⟩
    · exact .inl h1
    · exact .inr (by omega)
    · rcases hnew4 y hy with ⟨z, hz, e⟩ | e
      · exact .inl (.inr (.inr ⟨i, z, hz, e⟩))
      · exact .inr (by omega)

theorem append_any (n : Int) (s : ByteArray) (h : DV w p N m A c mb x none) (g : Fine m) (hN : N < 1000000) :
    Calls Tryd.prog 33 #[.pointer (some ⟨p, 0, none⟩), .int .i64 n, .string s] w (LeavesD w p (N + 1) (m.append n s.data.toList) A mb) := by
  have hs : s.data.toList.length = s.size := by rw [Lib.size_eq]
  unfold M.append
  rw [hs]
  by_cases hn : 0 ≤ n ∧ n < 16
  · rw [if_neg (by simpa using hn)]
    by_cases hoff : m.off = true
    · rw [if_pos hoff]
      exact append_off n s h hn hoff
    · rw [if_neg hoff]
      have hoff' : m.off = false := by simpa using hoff
      by_cases hf : m.room < m.used + s.size
      · rw [if_pos hf]
        exact append_full n s h g hn hoff' hf
      · rw [if_neg hf]
        by_cases h0 : m.fuel = 0
        · rw [if_pos h0]
          exact append_dry n s h g hn hoff' hf h0
        · rw [if_neg h0]
          have hi := append_ok n.toNat s h g hN (by omega) hoff' hf h0
          rwa [show ((n.toNat : Nat) : Int) = n by omega] at hi
  · rw [if_pos hn]
    exact append_no n s h hn
end
end Go.Proofs.YtmimpfccngihiaaDoor.DskWalkF
