/- Plain mathematics of layer 5: frames and what is scanned of them. No program's text; no statement is proved here. -/
import Derived.Test.YtamncdpeklbhlaaGreatDoorStuff
import Derived.Test.YtamncdpeklbhlaaGreatDoorCrc
set_option linter.unusedVariables false
set_option linter.unusedSimpArgs false
namespace Go.Proofs.YtamncdpeklbhlaaGreatDoor.Wal
open Go.Proofs.YtamncdpeklbhlaaGreatDoor.Stuff Go.Proofs.YtamncdpeklbhlaaGreatDoor.Crc

/-- A sum's four bytes, the highest first. -/
def four (x : Nat) : List UInt8 := [UInt8.ofNat (x / 16777216), UInt8.ofNat (x / 65536), UInt8.ofNat (x / 256), UInt8.ofNat x]
theorem four_length (x : Nat) : (four x).length = 4 := rfl
/-- A number of its bytes, the highest first. -/
def num : Nat → List UInt8 → Nat
  | s, [] => s
  | s, c :: l => num (s * 256 + c.toNat) l
theorem num_append : ∀ (a b : List UInt8) (s : Nat), num s (a ++ b) = num (num s a) b
  | [], _, _ => rfl
  | _ :: a, b, _ => num_append a b _
theorem num_lt : ∀ (l : List UInt8) (s k : Nat), s < 256 ^ k → num s l < 256 ^ (k + l.length)
  | [], _, _, h => h
  | c :: l, s, k, h => by
    have hc := c.toNat_lt
    have h2 : s * 256 + c.toNat < 256 ^ (k + 1) := by rw [Nat.pow_succ]; omega
    have := num_lt l _ (k + 1) h2
    simp only [List.length_cons]
    rw [show k + (l.length + 1) = k + 1 + l.length by omega]
    exact this
theorem num_four (l : List UInt8) (h : l.length = 4) (x : Nat) (hx : x < 2 ^ 32) : num 0 l = x ↔ l = four x := by
  match l, h with
  | [a, b, c, d], _ =>
    have ha := a.toNat_lt; have hb := b.toNat_lt; have hc := c.toNat_lt; have hd := d.toNat_lt
    constructor
    · intro e
      simp only [num] at e
      have e1 : a.toNat = x / 16777216 := by omega
      have e2 : b.toNat = x / 65536 % 256 := by omega
      have e3 : c.toNat = x / 256 % 256 := by omega
      have e4 : d.toNat = x % 256 := by omega
      unfold four
      have q : ∀ (u : UInt8) (y : Nat), u.toNat = y % 256 → u = UInt8.ofNat y := fun u y h => by
        apply UInt8.toNat_inj.1; rw [h]; simp
      rw [q a (x / 16777216) (by omega), q b (x / 65536) e2, q c (x / 256) e3, q d x e4]
    · intro e
      unfold four at e
      simp only [List.cons.injEq, and_true] at e
      obtain ⟨rfl, rfl, rfl, rfl⟩ := e
      simp only [num, UInt8.toNat_ofNat']
      omega

/-- The frame of a record. -/
noncomputable def body (l : List UInt8) : List UInt8 := encode (l ++ four (add 0 l))
noncomputable def frame (l : List UInt8) : List UInt8 := body l ++ [0]
theorem body_free (l : List UInt8) : Free (body l) := (free_iff _).2 fun c hc => encode_free _ c hc
theorem body_length (l : List UInt8) : 254 * (body l).length ≤ 255 * l.length + 1274 := by
  have h := encode_short (l ++ four (add 0 l))
  simp only [List.length_append, four_length] at h
  unfold body
  omega
theorem frame_length (l : List UInt8) : (frame l).length = (body l).length + 1 := by simp [frame]
theorem frame_short (l : List UInt8) : 254 * (frame l).length ≤ 255 * l.length + 1528 := by have := body_length l; rw [frame_length]; omega

/-- The record of what stands ahead of a zero, if there is one. -/
noncomputable def unframe (l : List UInt8) : Option (List UInt8) :=
  match unstuff l with
  | none => none
  | some b => if 4 ≤ b.length ∧ b.length ≤ 65540 ∧ b.drop (b.length - 4) = four (add 0 (b.take (b.length - 4))) then some (b.take (b.length - 4)) else none
theorem unframe_none {l : List UInt8} (h : unstuff l = none) : unframe l = none := by simp [unframe, h]
theorem unframe_some {l b : List UInt8} (h : unstuff l = some b) :
    unframe l = if 4 ≤ b.length ∧ b.length ≤ 65540 ∧ b.drop (b.length - 4) = four (add 0 (b.take (b.length - 4))) then some (b.take (b.length - 4)) else none := by simp [unframe, h]
theorem unframe_body (x : List UInt8) (h : x.length ≤ 65536) : unframe (body x) = some x := by
  rw [unframe_some (show unstuff (body x) = _ from back _)]
  have h1 : (x ++ four (add 0 x)).length - 4 = x.length := by simp [four_length]
  have h2 : (x ++ four (add 0 x)).take x.length = x := by simp
  have h3 : (x ++ four (add 0 x)).drop x.length = four (add 0 x) := by simp
  rw [h1, h2, h3, if_pos ⟨by simp [four_length], by simp [four_length]; omega, rfl⟩]
/-- The document's own way: the record's frame is laid again. -/
theorem again {l b : List UInt8} (h : unstuff l = some b) : frame (b.take (b.length - 4)) = l ++ [0] ↔ b.drop (b.length - 4) = four (add 0 (b.take (b.length - 4))) := by
  have h1 := one l b h
  constructor
  · intro e
    have e2 : body (b.take (b.length - 4)) = l := by unfold frame at e; exact List.append_cancel_right e
    have e3 := back (b.take (b.length - 4) ++ four (add 0 (b.take (b.length - 4))))
    have e4 : encode (b.take (b.length - 4) ++ four (add 0 (b.take (b.length - 4)))) = l := e2
    rw [e4, h] at e3
    have e5 : b = b.take (b.length - 4) ++ four (add 0 (b.take (b.length - 4))) := Option.some.inj e3
    have e6 := congrArg (List.drop (b.length - 4)) e5
    rw [e6, List.drop_append]
    simp
  · intro e
    unfold frame body
    rw [← e, List.take_append_drop, h1]

/-! ### Scanning -/
noncomputable def scan (l : List UInt8) : List (List UInt8) × Nat :=
  if h : zl l < l.length then
    match unframe (l.take (zl l)) with
    | none => ([], 0)
    | some x => (x :: (scan (l.drop (zl l + 1))).1, zl l + 1 + (scan (l.drop (zl l + 1))).2)
  else ([], 0)
termination_by l.length
decreasing_by all_goals (simp only [List.length_drop]; omega)
theorem scan_end (l : List UInt8) (h : zl l = l.length) : scan l = ([], 0) := by rw [scan, dif_neg (by omega)]
theorem scan_bad (l : List UInt8) (h : unframe (l.take (zl l)) = none) : scan l = ([], 0) := by
  rw [scan]
  split
  · rw [h]
  · rfl
theorem scan_good (l x : List UInt8) (h0 : zl l < l.length) (h : unframe (l.take (zl l)) = some x) : scan l = (x :: (scan (l.drop (zl l + 1))).1, zl l + 1 + (scan (l.drop (zl l + 1))).2) := by
  conv => lhs; rw [scan]
  rw [dif_pos h0, h]
theorem scan_le (l : List UInt8) : (scan l).2 ≤ l.length := by
  induction hn : l.length using Nat.strongRecOn generalizing l with
  | _ n ih =>
    by_cases h0 : zl l < l.length
    · cases h : unframe (l.take (zl l)) with
      | none => rw [scan_bad l h]; simp
      | some x =>
        rw [scan_good l x h0 h]
        have := ih (l.drop (zl l + 1)).length (by simp only [List.length_drop]; omega) _ rfl
        simp only [List.length_drop] at this ⊢
        omega
    · rw [scan_end l (by have := zl_le l; omega)]; simp
theorem scan_many (l : List UInt8) : (scan l).1.length ≤ l.length := by
  induction hn : l.length using Nat.strongRecOn generalizing l with
  | _ n ih =>
    by_cases h0 : zl l < l.length
    · cases h : unframe (l.take (zl l)) with
      | none => rw [scan_bad l h]; simp
      | some x =>
        rw [scan_good l x h0 h]
        have := ih (l.drop (zl l + 1)).length (by simp only [List.length_drop]; omega) _ rfl
        simp only [List.length_drop, List.length_cons] at this ⊢
        omega
    · rw [scan_end l (by have := zl_le l; omega)]; simp
theorem scan_frame (x r : List UInt8) (h : x.length ≤ 65536) : scan (frame x ++ r) = (x :: (scan r).1, (frame x).length + (scan r).2) := by
  have e : frame x ++ r = body x ++ 0 :: r := by simp [frame]
  have hz : zl (body x ++ 0 :: r) = (body x).length := by rw [zl_append _ _ (body_free x), zl_zero]; simp
  have ht : (body x ++ 0 :: r).take (body x).length = body x := by simp
  have hd : (body x ++ 0 :: r).drop ((body x).length + 1) = r := by simp [List.drop_append]
  rw [e, scan_good _ x (by rw [hz]; simp) (by rw [hz, ht]; exact unframe_body x h), hz, hd, frame_length]
/-- Frames, one behind the other. -/
noncomputable def frames : List (List UInt8) → List UInt8
  | [] => []
  | x :: l => frame x ++ frames l
theorem frames_append : ∀ (a b : List (List UInt8)), frames (a ++ b) = frames a ++ frames b
  | [], _ => rfl
  | x :: a, b => by simp only [List.cons_append, frames, frames_append a b, List.append_assoc]
theorem frames_snoc (a : List (List UInt8)) (x : List UInt8) : frames (a ++ [x]) = frames a ++ frame x := by rw [frames_append]; simp [frames]
/-- How many bytes texts have. -/
def weigh : List (List UInt8) → Nat
  | [] => 0
  | x :: l => x.length + weigh l
theorem weigh_append : ∀ (a b : List (List UInt8)), weigh (a ++ b) = weigh a + weigh b
  | [], _ => by simp [weigh]
  | x :: a, b => by simp only [List.cons_append, weigh, weigh_append a b]; omega
theorem weigh_mem : ∀ {l : List (List UInt8)} {x : List UInt8}, x ∈ l → x.length ≤ weigh l
  | y :: l, x, h => by
    simp only [weigh]
    rcases List.mem_cons.1 h with rfl | h
    · omega
    · have := weigh_mem h; omega
theorem frames_short : ∀ l : List (List UInt8), 254 * (frames l).length ≤ 255 * weigh l + 1528 * l.length
  | [] => by simp [frames, weigh]
  | x :: l => by
    have h1 := frame_short x
    have h2 := frames_short l
    simp only [frames, weigh, List.length_append, List.length_cons]
    omega
/-- Of texts, each is a record. -/
def Recs (l : List (List UInt8)) : Prop := ∀ x ∈ l, x.length ≤ 65536
instance (l : List (List UInt8)) : Decidable (Recs l) := inferInstanceAs (Decidable (∀ x ∈ l, x.length ≤ 65536))
theorem Recs.append {a b : List (List UInt8)} (h : Recs a) (k : Recs b) : Recs (a ++ b) := fun x hx => by
  rcases List.mem_append.1 hx with h1 | h1
  · exact h x h1
  · exact k x h1
theorem scan_frames : ∀ (l : List (List UInt8)) (r : List UInt8), Recs l → scan (frames l ++ r) = (l ++ (scan r).1, (frames l).length + (scan r).2)
  | [], r, _ => by simp [frames]
  | x :: l, r, h => by
    have h1 := scan_frames l r fun y hy => h y (List.mem_cons_of_mem _ hy)
    rw [frames, List.append_assoc, scan_frame x _ (h x (by simp)), h1]
    simp only [List.cons_append, List.length_append]
    rw [Nat.add_assoc]
theorem scan_all (l : List (List UInt8)) (h : Recs l) : scan (frames l) = (l, (frames l).length) := by
  have := scan_frames l [] h
  rw [List.append_nil, scan_end [] rfl] at this
  simpa using this
/-- Of so many bytes of frames how many are whole. -/
noncomputable def cut : List (List UInt8) → Nat → Nat
  | [], _ => 0
  | x :: l, n => if (frame x).length ≤ n then 1 + cut l (n - (frame x).length) else 0
theorem cut_le : ∀ (l : List (List UInt8)) (n : Nat), cut l n ≤ l.length
  | [], _ => Nat.le_refl _
  | x :: l, n => by
    unfold cut
    split
    · have := cut_le l (n - (frame x).length); simp only [List.length_cons]; omega
    · omega
theorem scan_take : ∀ (l : List (List UInt8)) (n : Nat), Recs l → scan ((frames l).take n) = (l.take (cut l n), (frames (l.take (cut l n))).length)
  | [], n, _ => by simp [frames, cut, scan_end [] rfl]
  | x :: l, n, h => by
    by_cases hn : (frame x).length ≤ n
    · have h1 := scan_take l (n - (frame x).length) fun y hy => h y (List.mem_cons_of_mem _ hy)
      have e : (frames (x :: l)).take n = frame x ++ (frames l).take (n - (frame x).length) := by
        rw [frames, List.take_append, List.take_of_length_le hn]
      have hc : cut (x :: l) n = 1 + cut l (n - (frame x).length) := if_pos hn
      rw [e, scan_frame x _ (h x (by simp)), h1, hc, Nat.add_comm 1, List.take_succ_cons]
      simp only [frames, List.length_append]
    · have hc : cut (x :: l) n = 0 := if_neg hn
      have hl : (frame x).length = (body x).length + 1 := frame_length x
      have e : (frames (x :: l)).take n = (body x).take n := by
        rw [frames, frame, List.append_assoc, List.take_append_of_le_length (by omega)]
      have hf : Free ((body x).take n) := (free_iff _).2 fun c hc => (free_iff _).1 (body_free x) c (List.mem_of_mem_take hc)
      rw [e, scan_end _ hf, hc]
      simp [frames]
theorem cut_in : ∀ (l : List (List UInt8)) (n i : Nat), i < cut l n → (frames (l.take (i + 1))).length ≤ n
  | [], n, i, h => by simp [cut] at h
  | x :: l, n, i, h => by
    unfold cut at h
    split at h
    · rename_i hn
      cases i with
      | zero => simp [frames]; omega
      | succ i =>
        have := cut_in l (n - (frame x).length) i (by omega)
        simp only [List.take_succ_cons, frames, List.length_append] at this ⊢
        omega
    · omega
theorem cut_out : ∀ (l : List (List UInt8)) (n : Nat), cut l n < l.length → n < (frames (l.take (cut l n + 1))).length
  | [], n, h => by simp [cut] at h
  | x :: l, n, h => by
    by_cases hn : (frame x).length ≤ n
    · have hc : cut (x :: l) n = 1 + cut l (n - (frame x).length) := if_pos hn
      rw [hc] at h ⊢
      have := cut_out l (n - (frame x).length) (by simp only [List.length_cons] at h; omega)
      rw [show 1 + cut l (n - (frame x).length) + 1 = (cut l (n - (frame x).length) + 1) + 1 by omega, List.take_succ_cons]
      simp only [frames, List.length_append]
      omega
    · have hc : cut (x :: l) n = 0 := if_neg hn
      rw [hc]
      simp [frames]
      omega
theorem cut_all : ∀ (l : List (List UInt8)) (n : Nat) (a : List (List UInt8)), cut (a ++ l) ((frames a).length + n) = a.length + cut l n
  | l, n, [] => by simp [frames]
  | l, n, x :: a => by
    have := cut_all l n a
    simp only [List.cons_append, cut, frames, List.length_append, List.length_cons]
    rw [if_pos (by omega), show (frame x).length + (frames a).length + n - (frame x).length = (frames a).length + n by omega, this]
    omega
end Go.Proofs.YtamncdpeklbhlaaGreatDoor.Wal
