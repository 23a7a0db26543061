/- What HasPrefix leaves where it says yes, walked; and two facts on a crash. -/
import Derived.Test.YtgfignagaemfeaaCalls
namespace Go.Proofs.Ytgfignagaemfeaa.Pre
open Go.RowKit Go.Proofs.Ytgfignagaemfeaa.Kit Go.Proofs.Ytgfignagaemfeaa.Blocks Go.Proofs.Ytgfignagaemfeaa.Model Go.Proofs.Ytgfignagaemfeaa.Disk Go.Proofs.Ytgfignagaemfeaa.WalkC Go.Proofs.Ytgfignagaemfeaa.RefB Go.Proofs.Ytgfignagaemfeaa.RefG Go.Proofs.Ytgfignagaemfeaa.Both

theorem prefix_lite (x y : List UInt8) (w : World) (hl : x.length + y.length ≤ 281474976710656) : Calls Try.prog 39 #[.string (str (x ++ y)), .string (str x)] w fun e w' => e = .returned (.bool true) ∧ w = w' := by
  have hcut := fun w => cut_str (x ++ y) x.length ((str x).size : Int) (by rw [str_size]) (by simp) w
  rw [List.take_left] at hcut
  have hsz : (str x).size ≤ (str (x ++ y)).size := by rw [str_size, str_size, List.length_append]; omega
  have hm : (str (x ++ y)).size ≤ 281474976710656 := by rw [str_size, List.length_append]; exact hl
  have heq : ((str x).toList == (str x).toList) = true := by simp
  obtain ⟨a, ha⟩ : ∃ a, str (x ++ y) = a := ⟨_, rfl⟩
  obtain ⟨b, hb⟩ : ∃ b, str x = b := ⟨_, rfl⟩
  rw [ha, hb] at hcut hsz
  rw [ha] at hm
  rw [hb] at heq
  rw [ha, hb]
  clear ha hb
  go_enter Try.func39, Try.ntmps39
  go_wp2
  go_ret
  exact ⟨rfl, rfl⟩
theorem prefix_yes (x y : List UInt8) (w : World) (hl : x.length + y.length ≤ 281474976710656) : Calls Try.prog 23 #[.string (str (x ++ y)), .string (str x)] w fun e w' => e = .returned (.bool true) ∧ w = w' := by
  have h := prefix_lite x y w hl
  have H := Lib.hid h
  clear h
  go_enter Try.func23, Try.ntmps23
  go_wp2_with fail
  refine H.out.mono ?_
  rintro e w1 ⟨rfl, rfl⟩
  go_wp2
  go_ret
  exact ⟨rfl, rfl⟩
theorem prefix_hid (x y : List UInt8) (w : World) (hl : x.length + y.length ≤ 281474976710656) {a b : ByteArray} (ha : Hid (str (x ++ y) = a)) (hb : Hid (str x = b)) : Calls Try.prog 23 #[.string a, .string b] w fun e w' => e = .returned (.bool true) ∧ w = w' := by
  have := prefix_yes x y w hl
  rwa [ha.out, hb.out] at this

/-- A disk that is on and has fuel without end. -/
structure Live (m : M) : Prop where
  off : m.off = false
  fuel : m.fuel = -1
theorem live_new (r : Nat) : Live (M.new r) := ⟨rfl, rfl⟩
theorem live_set {m : M} (h : Live m) (i : Nat) (a b : List UInt8) (t : Bool) : Live (m.burnt.set i a b t) := ⟨h.off, by simp only [M.set, M.burnt]; rw [h.fuel]; rfl⟩
theorem live_call {m : M} (h : Live m) (c : Cl) (hk : c.kind ≤ 3) : Live (M.call m c).2 := by
  have hf : ¬ m.fuel = 0 := by rw [h.fuel]; decide
  have ho : ¬ m.off = true := by rw [h.off]; decide
  unfold M.call
  by_cases h0 : c.kind = 0
  · rw [if_pos h0]
    unfold M.append
    (repeat' split) <;> first | exact h | exact live_set h _ _ _ _ | (exfalso; simp_all)
  rw [if_neg h0]
  by_cases h1 : c.kind = 1
  · rw [if_pos h1]
    unfold M.sync
    (repeat' split) <;> first | exact h | exact live_set h _ _ _ _ | (exfalso; simp_all)
  rw [if_neg h1]
  by_cases h2 : c.kind = 2
  · rw [if_pos h2]
    unfold M.replace
    (repeat' split) <;> first | exact h | exact live_set h _ _ _ _ | (exfalso; simp_all)
  rw [if_neg h2]
  by_cases h3 : c.kind = 3
  · rw [if_pos h3]
    unfold M.remove
    (repeat' split) <;> first | exact h | exact live_set h _ _ _ _ | (exfalso; simp_all)
  rw [if_neg h3]
  rw [if_neg (by omega), if_neg (by omega)]
  exact h
/-- What is left of a file is the beginning of what it was. -/
theorem all_left (m : M) (keep : List Int) (i : Nat) : m.left keep i ++ (m.all i).drop (m.left keep i).length = m.all i := by
  conv => lhs; arg 1; rw [left_take]
  rw [List.take_append_drop]
theorem left_firm (m : M) (keep : List Int) (i : Nat) : m.firm i ++ (m.soft i).take (M.kept keep i (m.soft i).length) = m.left keep i := rfl
end Go.Proofs.Ytgfignagaemfeaa.Pre
