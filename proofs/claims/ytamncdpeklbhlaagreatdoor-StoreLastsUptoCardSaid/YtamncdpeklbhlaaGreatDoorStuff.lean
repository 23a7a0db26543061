/- Plain functions on lists of bytes for the pieces of layer 1, and what is true of them: encoded and decoded back, one encoding, joined texts, lengths. No program is named here. -/
import Derived.Lib.Bytealg
namespace Go.Proofs.YtamncdpeklbhlaaGreatDoor.Stuff

/-- How many bytes ahead of the first zero. -/
def zl : List UInt8 → Nat
  | [] => 0
  | c :: r => if c = 0 then 0 else zl r + 1

theorem zl_le (l : List UInt8) : zl l ≤ l.length := by
  induction l with
  | nil => simp [zl]
  | cons c r ih => unfold zl; split <;> simp <;> omega

theorem zl_take (l : List UInt8) (k : Nat) : zl (l.take k) = min (zl l) k := by
  induction l generalizing k with
  | nil => simp [zl]
  | cons c r ih =>
    cases k with
    | zero => simp [zl]
    | succ k =>
      simp only [List.take_succ_cons, zl]
      split
      · simp
      · rw [ih]; omega

/-- The library's search finds the first zero. -/
theorem index_zl (l : List UInt8) : Lib.indexByte l 0 = if zl l < l.length then (zl l : Int) else -1 := by
  induction l with
  | nil => simp [Lib.indexByte, zl]
  | cons c r ih =>
    unfold Lib.indexByte zl
    by_cases hc : c = 0
    · simp [hc]
    · rw [ih]
      by_cases h : zl r < r.length
      · have : ¬ ((zl r : Int) == -1) = true := by simp
        simp [hc, h, this]
      · simp [hc, h]

theorem zl_get (l : List UInt8) (h : zl l < l.length) : l[zl l] = 0 := by
  induction l with
  | nil => simp at h
  | cons c r ih =>
    by_cases hc : c = 0
    · simp [zl, hc]
    · have h' : zl r < r.length := by simp [zl, hc] at h; omega
      have e : zl (c :: r) = zl r + 1 := by simp [zl, hc]
      simp only [e, List.getElem_cons_succ]
      exact ih h'

theorem zl_front (l : List UInt8) (k : Nat) (h : k < zl l) (hk : k < l.length) : l[k] ≠ 0 := by
  induction l generalizing k with
  | nil => simp at hk
  | cons c r ih =>
    by_cases hc : c = 0
    · simp [zl, hc] at h
    · have e : zl (c :: r) = zl r + 1 := by simp [zl, hc]
      cases k with
      | zero => simpa using hc
      | succ k => simpa using ih k (by omega) (by simpa using hk)

/-- No zero in it. -/
def Free (l : List UInt8) : Prop := zl l = l.length
theorem free_iff (l : List UInt8) : Free l ↔ ∀ c ∈ l, c ≠ 0 := by
  unfold Free
  induction l with
  | nil => simp [zl]
  | cons c r ih =>
    by_cases hc : c = 0
    · simp [zl, hc]
    · simp [zl, hc, ih]
theorem free_take (l : List UInt8) (k : Nat) (h : k ≤ zl l) : Free (l.take k) := by
  unfold Free
  rw [zl_take, List.length_take]
  have := zl_le l
  omega
theorem zl_append (a b : List UInt8) (h : Free a) : zl (a ++ b) = a.length + zl b := by
  have h' := (free_iff a).1 h
  clear h
  induction a with
  | nil => simp
  | cons c r ih =>
    have hc : c ≠ 0 := h' c (List.mem_cons_self ..)
    simp only [List.cons_append, zl, hc, if_false, List.length_cons]
    rw [ih fun x hx => h' x (List.mem_cons_of_mem _ hx)]
    omega
theorem zl_zero (b : List UInt8) : zl (0 :: b) = 0 := by simp [zl]

/-- The encoding, piece by piece. -/
def encode (l : List UInt8) : List UInt8 :=
  if 254 ≤ zl l then 255 :: (l.take 254 ++ encode (l.drop 254))
  else if zl l = l.length then UInt8.ofNat (zl l + 1) :: l
  else UInt8.ofNat (zl l + 1) :: (l.take (zl l) ++ encode (l.drop (zl l + 1)))
termination_by l.length
decreasing_by
  · have := zl_le l
    simp only [List.length_drop]; omega
  · have := zl_le l
    simp only [List.length_drop]; omega

theorem encode_full (l : List UInt8) (h : 254 ≤ zl l) : encode l = 255 :: (l.take 254 ++ encode (l.drop 254)) := by
  rw [encode, if_pos h]
theorem encode_last (l : List UInt8) (h : zl l < 254) (h2 : zl l = l.length) : encode l = UInt8.ofNat (zl l + 1) :: l := by
  rw [encode, if_neg (by omega), if_pos h2]
theorem encode_zero (l : List UInt8) (h : zl l < 254) (h2 : zl l < l.length) : encode l = UInt8.ofNat (zl l + 1) :: (l.take (zl l) ++ encode (l.drop (zl l + 1))) := by
  rw [encode, if_neg (by omega), if_neg (by omega)]

/-- The three ways of an encoding. -/
theorem threeWays (l : List UInt8) : 254 ≤ zl l ∨ (zl l < 254 ∧ zl l = l.length) ∨ (zl l < 254 ∧ zl l < l.length) := by
  have := zl_le l
  omega

theorem encode_longer (l : List UInt8) : l.length < (encode l).length := by
  rcases threeWays l with h | ⟨h, h2⟩ | ⟨h, h2⟩
  · rw [encode_full l h]
    have := zl_le l
    have ih := encode_longer (l.drop 254)
    simp only [List.length_cons, List.length_append, List.length_take, List.length_drop] at ih ⊢
    omega
  · rw [encode_last l h h2]; simp
  · rw [encode_zero l h h2]
    have ih := encode_longer (l.drop (zl l + 1))
    simp only [List.length_cons, List.length_append, List.length_take, List.length_drop] at ih ⊢
    omega
termination_by l.length
decreasing_by all_goals (simp only [List.length_drop]; have := zl_le l; omega)

theorem encode_short (l : List UInt8) : (encode l).length ≤ l.length + l.length / 254 + 1 := by
  rcases threeWays l with h | ⟨h, h2⟩ | ⟨h, h2⟩
  · rw [encode_full l h]
    have := zl_le l
    have ih := encode_short (l.drop 254)
    simp only [List.length_cons, List.length_append, List.length_take, List.length_drop] at ih ⊢
    omega
  · rw [encode_last l h h2]; simp
  · rw [encode_zero l h h2]
    have ih := encode_short (l.drop (zl l + 1))
    simp only [List.length_cons, List.length_append, List.length_take, List.length_drop] at ih ⊢
    omega
termination_by l.length
decreasing_by all_goals (simp only [List.length_drop]; have := zl_le l; omega)

theorem ofNat_ne (n : Nat) (h : n < 254) : UInt8.ofNat (n + 1) ≠ 0 := by
  intro e
  have := congrArg UInt8.toNat e
  simp at this
  omega
theorem ofNat_toNat (n : Nat) (h : n < 255) : (UInt8.ofNat (n + 1)).toNat = n + 1 := by
  simp
  omega

theorem encode_free (l : List UInt8) : ∀ c ∈ encode l, c ≠ 0 := by
  intro c hc
  rcases threeWays l with h | ⟨h, h2⟩ | ⟨h, h2⟩
  · rw [encode_full l h] at hc
    rcases List.mem_cons.1 hc with rfl | hc
    · decide
    · rcases List.mem_append.1 hc with hc | hc
      · exact (free_iff _).1 (free_take l 254 h) c hc
      · exact encode_free (l.drop 254) c hc
  · rw [encode_last l h h2] at hc
    rcases List.mem_cons.1 hc with rfl | hc
    · exact ofNat_ne _ h
    · exact (free_iff l).1 h2 c hc
  · rw [encode_zero l h h2] at hc
    rcases List.mem_cons.1 hc with rfl | hc
    · exact ofNat_ne _ h
    · rcases List.mem_append.1 hc with hc | hc
      · exact (free_iff _).1 (free_take l _ (Nat.le_refl _)) c hc
      · exact encode_free (l.drop (zl l + 1)) c hc
termination_by l.length
decreasing_by all_goals (simp only [List.length_drop]; have := zl_le l; omega)

/-- The piece at the front: its length; 0, if none stands there. -/
def piece : List UInt8 → Nat
  | [] => 0
  | c :: r => if c = 0 then 0 else if r.length + 1 < c.toNat then 0 else if zl (r.take (c.toNat - 1)) < c.toNat - 1 then 0 else c.toNat

theorem piece_cons (c : UInt8) (r : List UInt8) : piece (c :: r) = if c = 0 then 0 else if r.length + 1 < c.toNat then 0 else if zl (r.take (c.toNat - 1)) < c.toNat - 1 then 0 else c.toNat := rfl

theorem piece_le (l : List UInt8) : piece l ≤ l.length ∧ piece l ≤ 255 := by
  cases l with
  | nil => simp [piece]
  | cons c r =>
    have := c.toNat_lt
    unfold piece
    simp only [List.length_cons]
    split
    · omega
    · split
      · omega
      · split <;> omega

theorem drop_lt (l : List UInt8) (h : piece l ≠ 0) : (l.drop (piece l)).length < l.length := by
  have := piece_le l
  rw [List.length_drop]
  omega

/-- What is encoded so. -/
def unstuff (l : List UInt8) : Option (List UInt8) :=
  if piece l = 0 then none
  else if piece l = 255 then (unstuff (l.drop (piece l))).map ((l.take (piece l)).drop 1 ++ ·)
  else if l.length ≤ piece l then some ((l.take (piece l)).drop 1)
  else (unstuff (l.drop (piece l))).map fun r => (l.take (piece l)).drop 1 ++ 0 :: r
termination_by l.length
decreasing_by all_goals exact drop_lt l ‹_›

theorem decode_none (l : List UInt8) (h : piece l = 0) : unstuff l = none := by rw [unstuff, if_pos h]
theorem decode_full (l : List UInt8) (h : piece l = 255) : unstuff l = (unstuff (l.drop (piece l))).map ((l.take (piece l)).drop 1 ++ ·) := by
  rw [unstuff, if_neg (by omega), if_pos h]
theorem decode_last (l : List UInt8) (h : piece l ≠ 0) (h2 : piece l ≠ 255) (h3 : l.length = piece l) : unstuff l = some ((l.take (piece l)).drop 1) := by
  rw [unstuff, if_neg h, if_neg h2, if_pos (by omega)]
theorem decode_zero (l : List UInt8) (h : piece l ≠ 0) (h2 : piece l ≠ 255) (h3 : piece l < l.length) : unstuff l = (unstuff (l.drop (piece l))).map fun r => (l.take (piece l)).drop 1 ++ 0 :: r := by
  rw [unstuff, if_neg h, if_neg h2, if_neg (by omega)]

/-- A piece that is laid is the one that is found. -/
theorem piece_laid (p r : List UInt8) (hp : Free p) (h : p.length < 255) : piece (UInt8.ofNat (p.length + 1) :: (p ++ r)) = p.length + 1 := by
  have e := ofNat_toNat p.length h
  have hne : UInt8.ofNat (p.length + 1) ≠ 0 := by
    intro h0
    rw [h0] at e
    simp at e
  rw [piece_cons, if_neg hne, e, if_neg (by simp)]
  have : zl ((p ++ r).take (p.length + 1 - 1)) = p.length := by
    simp only [Nat.add_sub_cancel, List.take_left']
    exact hp
  rw [if_neg (by omega)]

/-- THERE AND BACK. -/
theorem back (l : List UInt8) : unstuff (encode l) = some l := by
  rcases threeWays l with h | ⟨h, h2⟩ | ⟨h, h2⟩
  · have hz := zl_le l
    have hl : (l.take 254).length = 254 := by rw [List.length_take]; omega
    have hp := piece_laid (l.take 254) (encode (l.drop 254)) (free_take l 254 h) (by omega)
    rw [hl] at hp
    have hc : (UInt8.ofNat (254 + 1)) = 255 := rfl
    rw [hc] at hp
    rw [encode_full l h, decode_full _ hp, hp]
    have ih := back (l.drop 254)
    have e1 : ((255 : UInt8) :: (l.take 254 ++ encode (l.drop 254))).drop (254 + 1) = encode (l.drop 254) := by
      simp only [List.drop_succ_cons]
      rw [List.drop_append_of_le_length (by omega), List.drop_of_length_le (by omega), List.nil_append]
    have e2 : (((255 : UInt8) :: (l.take 254 ++ encode (l.drop 254))).take (254 + 1)).drop 1 = l.take 254 := by
      simp only [List.take_succ_cons, List.drop_succ_cons, List.drop_zero]
      rw [List.take_append_of_le_length (by omega), List.take_of_length_le (by omega)]
    rw [e1, e2, ih]
    simp [List.take_append_drop]
  · have hp := piece_laid l [] h2 (by omega)
    rw [List.append_nil, ← h2] at hp
    rw [encode_last l h h2, decode_last _ (by omega) (by omega) (by simp only [List.length_cons]; omega), hp]
    simp only [List.take_succ_cons, List.drop_succ_cons, List.drop_zero]
    rw [List.take_of_length_le (by omega)]
  · have hz := zl_le l
    have hl : (l.take (zl l)).length = zl l := by rw [List.length_take]; omega
    have hp := piece_laid (l.take (zl l)) (encode (l.drop (zl l + 1))) (free_take l _ (Nat.le_refl _)) (by omega)
    rw [hl] at hp
    have hlong := encode_longer (l.drop (zl l + 1))
    rw [encode_zero l h h2, decode_zero _ (by omega) (by omega) (by simp only [List.length_cons, List.length_append]; omega), hp]
    have ih := back (l.drop (zl l + 1))
    have e1 : (UInt8.ofNat (zl l + 1) :: (l.take (zl l) ++ encode (l.drop (zl l + 1)))).drop (zl l + 1) = encode (l.drop (zl l + 1)) := by
      simp only [List.drop_succ_cons]
      rw [List.drop_append_of_le_length (by omega), List.drop_of_length_le (by omega), List.nil_append]
    have e2 : ((UInt8.ofNat (zl l + 1) :: (l.take (zl l) ++ encode (l.drop (zl l + 1)))).take (zl l + 1)).drop 1 = l.take (zl l) := by
      simp only [List.take_succ_cons, List.drop_succ_cons, List.drop_zero]
      rw [List.take_append_of_le_length (by omega), List.take_of_length_le (by omega)]
    rw [e1, e2, ih]
    simp only [Option.map_some, Option.some.injEq]
    rw [show (0 : UInt8) = l[zl l] from (zl_get l h2).symm, ← List.drop_eq_getElem_cons h2, List.take_append_drop]
termination_by l.length
decreasing_by all_goals (simp only [List.length_drop]; have := zl_le l; omega)

/-- What a piece says of its bytes. -/
theorem piece_form (l : List UInt8) (h : piece l ≠ 0) : ∃ c r, l = c :: r ∧ c.toNat = piece l ∧ Free (r.take (piece l - 1)) ∧ piece l - 1 ≤ r.length := by
  cases l with
  | nil => simp [piece] at h
  | cons c r =>
    have hp : piece (c :: r) = c.toNat ∧ ¬ r.length + 1 < c.toNat ∧ ¬ zl (r.take (c.toNat - 1)) < c.toNat - 1 := by
      rw [piece_cons] at h ⊢
      by_cases h1 : c = 0
      · rw [if_pos h1] at h
        exact absurd rfl h
      · by_cases h2 : r.length + 1 < c.toNat
        · rw [if_neg h1, if_pos h2] at h
          exact absurd rfl h
        · by_cases h3 : zl (r.take (c.toNat - 1)) < c.toNat - 1
          · rw [if_neg h1, if_neg h2, if_pos h3] at h
            exact absurd rfl h
          · rw [if_neg h1, if_neg h2, if_neg h3]
            exact ⟨rfl, h2, h3⟩
    obtain ⟨e, h2, h3⟩ := hp
    refine ⟨c, r, rfl, e.symm, ?_, by omega⟩
    rw [e]
    unfold Free
    have := zl_le (r.take (c.toNat - 1))
    have hl : (r.take (c.toNat - 1)).length = c.toNat - 1 := by rw [List.length_take]; omega
    omega

theorem encode_of_free (p r : List UInt8) (hp : Free p) (h : p.length < 254) : encode (p ++ 0 :: r) = UInt8.ofNat (p.length + 1) :: (p ++ encode r) := by
  have hz : zl (p ++ 0 :: r) = p.length := by rw [zl_append p _ hp, zl_zero]; omega
  rw [encode_zero _ (by omega) (by rw [hz]; simp), hz]
  have e1 : (p ++ 0 :: r).take p.length = p := by simp
  have e2 : (p ++ 0 :: r).drop (p.length + 1) = r := by
    rw [List.drop_append, List.drop_of_length_le (by omega)]
    simp
  rw [e1, e2]
theorem encode_of_last (p : List UInt8) (hp : Free p) (h : p.length < 254) : encode p = UInt8.ofNat (p.length + 1) :: p := by
  have hz : zl p = p.length := hp
  rw [encode_last p (by omega) hz, hz]
theorem encode_of_full (p r : List UInt8) (hp : Free p) (h : p.length = 254) : encode (p ++ r) = 255 :: (p ++ encode r) := by
  have hz := zl_append p r hp
  rw [encode_full _ (by omega)]
  congr 2
  · rw [← h]; simp
  · rw [← h]; simp

/-- ONE ENCODING. -/
theorem one (l r : List UInt8) (h : unstuff l = some r) : encode r = l := by
  have h0 : piece l ≠ 0 := fun e => by rw [decode_none l e] at h; cases h
  obtain ⟨c, t, hl, hc, hf, hle⟩ := piece_form l h0
  have hb := (piece_le l).2
  have hcc : UInt8.ofNat (piece l - 1 + 1) = c := by
    rw [show piece l - 1 + 1 = c.toNat by omega]; simp
  have hlen : l.length = t.length + 1 := by rw [hl]; rfl
  have htl : (t.take (piece l - 1)).length = piece l - 1 := by rw [List.length_take]; omega
  have hbody : (l.take (piece l)).drop 1 = t.take (piece l - 1) := by
    rw [hl] at h0 ⊢
    obtain ⟨k, hk⟩ : ∃ k, piece (c :: t) = k + 1 := ⟨piece (c :: t) - 1, by omega⟩
    rw [hk]; simp
  have htail : l.drop (piece l) = t.drop (piece l - 1) := by
    rw [hl] at h0 ⊢
    obtain ⟨k, hk⟩ : ∃ k, piece (c :: t) = k + 1 := ⟨piece (c :: t) - 1, by omega⟩
    rw [hk]; simp
  by_cases h255 : piece l = 255
  · rw [decode_full l h255, Option.map_eq_some_iff] at h
    obtain ⟨r', hr', rfl⟩ := h
    have ih := one (l.drop (piece l)) r' hr'
    rw [hbody, encode_of_full _ _ hf (by omega), ih, htail, List.take_append_drop]
    rw [← hcc, h255] at hl
    exact hl.symm
  · by_cases hlast : l.length = piece l
    · rw [decode_last l h0 h255 hlast] at h
      cases h
      rw [hbody, encode_of_last _ hf (by omega), htl, hcc, List.take_of_length_le (by omega)]
      exact hl.symm
    · have hlt : piece l < l.length := by have := (piece_le l).1; omega
      rw [decode_zero l h0 h255 hlt, Option.map_eq_some_iff] at h
      obtain ⟨r', hr', rfl⟩ := h
      have ih := one (l.drop (piece l)) r' hr'
      rw [hbody, encode_of_free _ _ hf (by omega), ih, htail, List.take_append_drop, htl, hcc]
      exact hl.symm
termination_by l.length
decreasing_by all_goals exact drop_lt l h0

/-- TWO TEXTS WITH A ZERO BETWEEN. -/
theorem joins (a b : List UInt8) : encode (a ++ 0 :: b) = encode a ++ encode b := by
  have hz := zl_le a
  rcases threeWays a with h | ⟨h, h2⟩ | ⟨h, h2⟩
  · have e : a = a.take 254 ++ a.drop 254 := (List.take_append_drop 254 a).symm
    have hl : (a.take 254).length = 254 := by rw [List.length_take]; omega
    have ih := joins (a.drop 254) b
    rw [encode_full a h]
    conv => lhs; rw [e, List.append_assoc]
    rw [encode_of_full _ _ (free_take a 254 h) hl, ih]
    simp
  · rw [encode_of_free a b h2 (by omega), encode_of_last a h2 (by omega)]
    simp
  · have hl : (a.take (zl a)).length = zl a := by rw [List.length_take]; omega
    have e : a = a.take (zl a) ++ 0 :: a.drop (zl a + 1) := by
      rw [show (0 : UInt8) = a[zl a] from (zl_get a h2).symm, ← List.drop_eq_getElem_cons h2, List.take_append_drop]
    have ih := joins (a.drop (zl a + 1)) b
    rw [encode_zero a h h2]
    conv => lhs; rw [e, List.append_assoc, List.cons_append]
    rw [encode_of_free _ _ (free_take a _ (Nat.le_refl _)) (by omega), ih, hl]
    simp
termination_by a.length
decreasing_by all_goals (simp only [List.length_drop]; omega)

/-- The document's answer, read piece by piece: 'full': nothing stands ahead of the next piece. -/
def plain (first full : Bool) (l : List UInt8) : Option (List UInt8 × Bool) :=
  if l.length = 0 then some ([], !first)
  else if piece l = 0 then none
  else (plain false (decide (piece l = 255)) (l.drop (piece l))).map fun x => ((if !first && !full then [0] else []) ++ (l.take (piece l)).drop 1 ++ x.1, x.2)
termination_by l.length
decreasing_by exact drop_lt l ‹_›

theorem plain_end (first full : Bool) (l : List UInt8) (h : l.length = 0) : plain first full l = some ([], !first) := by rw [plain, if_pos h]
theorem plain_none (first full : Bool) (l : List UInt8) (h0 : l.length ≠ 0) (h : piece l = 0) : plain first full l = none := by rw [plain, if_neg h0, if_pos h]
theorem plain_more (first full : Bool) (l : List UInt8) (h : piece l ≠ 0) : plain first full l =
    (plain false (decide (piece l = 255)) (l.drop (piece l))).map fun x => ((if !first && !full then [0] else []) ++ (l.take (piece l)).drop 1 ++ x.1, x.2) := by
  have := piece_le l
  rw [plain, if_neg (by omega), if_neg h]

/-- What is decoded the plain reading has, too. -/
theorem plain_of (first full : Bool) (l r : List UInt8) (h : unstuff l = some r) : plain first full l = some ((if !first && !full then [0] else []) ++ r, true) := by
  have h0 : piece l ≠ 0 := fun e => by rw [decode_none l e] at h; cases h
  rw [plain_more first full l h0]
  by_cases h255 : piece l = 255
  · rw [decode_full l h255, Option.map_eq_some_iff] at h
    obtain ⟨r', hr', rfl⟩ := h
    rw [plain_of _ _ _ _ hr']
    simp [h255]
  · by_cases hlast : l.length = piece l
    · rw [decode_last l h0 h255 hlast] at h
      cases h
      rw [plain_end _ _ _ (by rw [List.length_drop]; omega)]
      simp
    · have hlt : piece l < l.length := by have := (piece_le l).1; omega
      rw [decode_zero l h0 h255 hlt, Option.map_eq_some_iff] at h
      obtain ⟨r', hr', rfl⟩ := h
      rw [plain_of _ _ _ _ hr']
      simp [h255]
termination_by l.length
decreasing_by all_goals exact drop_lt l h0

/-- What the plain reading gives is no longer than what it read. -/
theorem plain_short (first full : Bool) (l r : List UInt8) (b : Bool) (h : plain first full l = some (r, b)) : r.length ≤ l.length := by
  by_cases hl : l.length = 0
  · rw [plain_end _ _ _ hl] at h
    cases h
    simp
  · by_cases h0 : piece l = 0
    · rw [plain_none _ _ _ hl h0] at h
      cases h
    · rw [plain_more _ _ _ h0, Option.map_eq_some_iff] at h
      obtain ⟨⟨r', b'⟩, hr', he⟩ := h
      have ih := plain_short _ _ _ _ _ hr'
      simp only [Prod.mk.injEq] at he
      obtain ⟨rfl, rfl⟩ := he
      have := piece_le l
      simp only [List.length_append, List.length_drop, List.length_take] at ih ⊢
      split <;> simp <;> omega
termination_by l.length
decreasing_by exact drop_lt l h0

/-- The document's own decoding: read plainly, then encoded again and held against what was read. -/
def refDecode (l : List UInt8) : Option (List UInt8) :=
  match plain true true l with
  | some (r, true) => if encode r = l then some r else none
  | _ => none

theorem refDecode_eq (l : List UInt8) : refDecode l = unstuff l := by
  cases hd : unstuff l with
  | some r =>
    have h := plain_of true true l r hd
    have h1 := one l r hd
    simp at h
    simp [refDecode, h, h1]
  | none =>
    unfold refDecode
    split
    · rename_i r hr
      split
      · rename_i he
        rw [← he, back] at hd
        cases hd
      · rfl
    · rfl

theorem decode_short (l r : List UInt8) (h : unstuff l = some r) : r.length < l.length := by
  have := one l r h
  rw [← this]
  exact encode_longer r

end Go.Proofs.YtamncdpeklbhlaaGreatDoor.Stuff
