/- A net alone: what each call answers, by what its letters say; walked. No statement is proved here. -/
import Derived.Test.YtfcdaelbbcfgjaaWalkG
set_option linter.unusedVariables false
namespace Go.Proofs.Ytfcdaelbbcfgjaa.Sol
open Go.RowKit Go.Proofs.Ytfcdaelbbcfgjaa.Kit Go.Proofs.Ytfcdaelbbcfgjaa.Blocks Go.Proofs.Ytfcdaelbbcfgjaa.Ltr Go.Proofs.Ytfcdaelbbcfgjaa.NAt Go.Proofs.Ytfcdaelbbcfgjaa.App Go.Proofs.Ytfcdaelbbcfgjaa.WalkA Go.Proofs.Ytfcdaelbbcfgjaa.WalkB Go.Proofs.Ytfcdaelbbcfgjaa.WalkC Go.Proofs.Ytfcdaelbbcfgjaa.WalkD Go.Proofs.Ytfcdaelbbcfgjaa.WalkE Go.Proofs.Ytfcdaelbbcfgjaa.WalkF Go.Proofs.Ytfcdaelbbcfgjaa.WalkG

/-- What a letter says. -/
abbrev Sd := Hd × List Ent
/-- A net whose letters say D. -/
def Ws (B : Nat) (w : World) (p : Nat) (D : List Sd) (lost : Nat) : Prop := ∃ v E L, NAt B 54 E w p v L lost ∧ L.map Lt.said = D
/-- A letter by value whose entries lie somewhere. -/
def Lies (w : World) (x : Lt) (d : Sd) : Prop := x.said = d ∧ ∃ E, Fit w E x
section
variable {B : Nat} {w w' : World} {p lost : Nat} {D : List Sd} {L L' : List Lt} {v : Value} {E E' : Nat → Prop}
theorem Ws.below (h : Ws B w p D lost) (k : Below w.heap.size w w') : Ws B w' p D lost := by
  obtain ⟨v, E, L, h, e⟩ := h
  exact ⟨v, E, L, h.below k, e⟩
theorem Ws.base (h : Ws B w p D lost) : B ≤ w.heap.size := by
  obtain ⟨v, E, L, h, e⟩ := h
  exact h.base
theorem left_W {lost' : Nat} (h : NAt B 54 E w p v L lost) (k : LeftN B 54 E E' w p v L' lost' w') : Ws B w' p (L'.map Lt.said) lost' ∧ Below B w w' := by
  obtain ⟨v', h', o, _⟩ := k
  exact ⟨⟨v', E', L', h', rfl⟩, o.below h.base fun g hg => (h.mine_lt hg).1⟩
theorem new_W (B : Nat) (w : World) (hB : B ≤ w.heap.size) : Calls Try.prog 10 #[] w fun e w' => ∃ p, e = .returned (.pointer (some ⟨p, 0, none⟩)) ∧ Ws B w' p [] 0 ∧ Below w.heap.size w w' := by
  refine (new_any B w hB).mono ?_
  rintro e w' ⟨p, rfl, h, hb, _⟩
  exact ⟨p, rfl, ⟨_, _, _, h, rfl⟩, hb⟩
theorem send_W {x : Lt} {d : Sd} (h : Ws B w p D lost) (hroom : D.length < 256) (hx : Lies w x d) :
    Calls Try.prog 11 #[.pointer (some ⟨p, 0, none⟩), ltV x] w fun e w' => e = .returned (.bool true) ∧ Ws B w' p (D ++ [d]) lost ∧ Below B w w' := by
  obtain ⟨v, E, L, h, rfl⟩ := h
  obtain ⟨rfl, E0, hx⟩ := hx
  rw [List.length_map] at hroom
  refine (send_room h hroom hx).mono ?_
  rintro e w' ⟨rfl, E', A, c, hl⟩
  obtain ⟨h1, h2⟩ := left_W h hl
  exact ⟨rfl, by rw [List.map_append] at h1; exact h1, h2⟩
theorem send_F {x : Lt} (h : Ws B w p D lost) (hfull : 256 ≤ D.length) (hlost : lost < 4611686018427387904) :
    Calls Try.prog 11 #[.pointer (some ⟨p, 0, none⟩), ltV x] w fun e w' => e = .returned (.bool false) ∧ Ws B w' p D (lost + 1) ∧ Below B w w' := by
  obtain ⟨v, E, L, h, rfl⟩ := h
  rw [List.length_map] at hfull
  refine (send_full h hfull hlost).mono ?_
  rintro e w' ⟨rfl, hl⟩
  exact ⟨rfl, left_W h hl⟩
theorem take_N (h : Ws B w p [] lost) (i : Int) :
    Calls Try.prog 13 #[.pointer (some ⟨p, 0, none⟩), .int .i64 i] w fun e w' => e = .returned (.tuple #[ltV zeroL, .bool false]) ∧ Ws B w' p [] lost ∧ Below B w w' := by
  obtain ⟨v, E, L, h, e⟩ := h
  obtain rfl := List.map_eq_nil_iff.1 e
  refine (take_none h i).mono ?_
  rintro e w' ⟨rfl, hb⟩
  exact ⟨rfl, ⟨v, E, [], h.below hb, rfl⟩, hb.mono h.base⟩
theorem map_erase {α β : Type} (f : α → β) (l : List α) (k : Nat) : (l.eraseIdx k).map f = (l.map f).eraseIdx k := by
  rw [List.eraseIdx_eq_take_drop_succ, List.eraseIdx_eq_take_drop_succ, List.map_append, List.map_take, List.map_drop]
theorem take_W (h : Ws B w p D lost) (hn : 0 < D.length) (hfew : D.length ≤ 256) (i : Int) :
    Calls Try.prog 13 #[.pointer (some ⟨p, 0, none⟩), .int .i64 i] w fun e w' =>
      ∃ x d, D[plc i D.length]? = some d ∧ Lies w' x d ∧ e = .returned (.tuple #[ltV x, .bool true]) ∧ Ws B w' p (D.eraseIdx (plc i D.length)) lost ∧ Below B w w' := by
  obtain ⟨v, E, L, h, rfl⟩ := h
  rw [List.length_map] at hn hfew ⊢
  refine (take_any h hn hfew i).mono ?_
  rintro e w' ⟨x, hx, rfl, hl⟩
  obtain ⟨h1, h2⟩ := left_W h hl
  rw [map_erase] at h1
  have hf := h.fit x (List.mem_of_getElem? hx)
  obtain ⟨v', _, o, _⟩ := hl
  refine ⟨x, x.said, by rw [List.getElem?_map, hx]; rfl, ⟨rfl, E, hf.keep o fun g hg hm => ?_⟩, rfl, h1, h2⟩
  rcases hm with e | e
  · exact (h.off g hg).1 e
  · exact (h.off g hg).2.1 e
theorem lose_N (h : Ws B w p [] lost) (i : Int) :
    Calls Try.prog 16 #[.pointer (some ⟨p, 0, none⟩), .int .i64 i] w fun e w' => e = .returned (.bool false) ∧ Ws B w' p [] lost ∧ Below B w w' := by
  obtain ⟨v, E, L, h, e⟩ := h
  obtain rfl := List.map_eq_nil_iff.1 e
  refine (lose_none h i).mono ?_
  rintro e w' ⟨rfl, hb⟩
  exact ⟨rfl, ⟨v, E, [], h.below hb, rfl⟩, hb.mono h.base⟩
theorem lose_W (h : Ws B w p D lost) (hn : 0 < D.length) (hfew : D.length ≤ 256) (hlost : lost < 4611686018427387904) (i : Int) :
    Calls Try.prog 16 #[.pointer (some ⟨p, 0, none⟩), .int .i64 i] w fun e w' => e = .returned (.bool true) ∧ Ws B w' p (D.eraseIdx (plc i D.length)) (lost + 1) ∧ Below B w w' := by
  obtain ⟨v, E, L, h, rfl⟩ := h
  rw [List.length_map] at hn hfew ⊢
  refine (lose_any h hn hfew hlost i).mono ?_
  rintro e w' ⟨rfl, hl⟩
  obtain ⟨h1, h2⟩ := left_W h hl
  rw [map_erase] at h1
  exact ⟨rfl, h1, h2⟩
theorem double_N (h : Ws B w p [] lost) (i : Int) :
    Calls Try.prog 18 #[.pointer (some ⟨p, 0, none⟩), .int .i64 i] w fun e w' => e = .returned (.bool false) ∧ Ws B w' p [] lost ∧ Below B w w' := by
  obtain ⟨v, E, L, h, e⟩ := h
  obtain rfl := List.map_eq_nil_iff.1 e
  refine (double_none h i).mono ?_
  rintro e w' ⟨rfl, hb⟩
  exact ⟨rfl, ⟨v, E, [], h.below hb, rfl⟩, hb.mono h.base⟩
theorem double_F (h : Ws B w p D lost) (hfull : D.length = 256) (hlost : lost < 4611686018427387904) (i : Int) :
    Calls Try.prog 18 #[.pointer (some ⟨p, 0, none⟩), .int .i64 i] w fun e w' => e = .returned (.bool false) ∧ Ws B w' p D (lost + 1) ∧ Below B w w' := by
  obtain ⟨v, E, L, h, rfl⟩ := h
  rw [List.length_map] at hfull
  refine (double_full h hfull hlost i).mono ?_
  rintro e w' ⟨rfl, hl⟩
  exact ⟨rfl, left_W h hl⟩
theorem double_W (h : Ws B w p D lost) (hn : 0 < D.length) (hroom : D.length < 256) (i : Int) :
    Calls Try.prog 18 #[.pointer (some ⟨p, 0, none⟩), .int .i64 i] w fun e w' => ∃ d, D[plc i D.length]? = some d ∧ e = .returned (.bool true) ∧ Ws B w' p (D ++ [d]) lost ∧ Below B w w' := by
  obtain ⟨v, E, L, h, rfl⟩ := h
  rw [List.length_map] at hn hroom ⊢
  refine (double_any h hn hroom i).mono ?_
  rintro e w' ⟨rfl, x, E', A, c, hx, hl⟩
  obtain ⟨h1, h2⟩ := left_W h hl
  rw [List.map_append] at h1
  refine ⟨x.said, ?_, rfl, h1, h2⟩
  rw [List.getElem?_map, hx]
  rfl
theorem count_W (h : Ws B w p D lost) :
    Calls Try.prog 19 #[.pointer (some ⟨p, 0, none⟩)] w fun e w' => e = .returned (.tuple #[.int .i64 (D.length : Int), .int .i64 (lost : Int)]) ∧ Ws B w' p D lost ∧ Below w.heap.size w w' := by
  obtain ⟨v, E, L, h, rfl⟩ := h
  refine (count_any h).mono ?_
  rintro e w' ⟨rfl, hb⟩
  exact ⟨by rw [List.length_map], ⟨v, E, L, h.below hb, rfl⟩, hb⟩
theorem all_W (h : Ws B w p D lost) (hfew : D.length ≤ 256) :
    Calls Try.prog 21 #[.pointer (some ⟨p, 0, none⟩)] w fun e w' => (∃ A c, e = .returned (.slice A D.length c)) ∧ Ws B w' p D lost ∧ Below w.heap.size w w' := by
  obtain ⟨v, E, L, h, rfl⟩ := h
  rw [List.length_map] at hfew ⊢
  refine (all_any h hfew).mono ?_
  rintro e w' ⟨A, c, M, rfl, hc, hb⟩
  exact ⟨⟨A, c, rfl⟩, ⟨v, E, L, h.below hb, rfl⟩, hb⟩
/-- A letter of two numbers. -/
def lit (k ix : Int) : Sd := (⟨k, 0, 0, 0, ix, 0, 0, false, ⟨#[]⟩⟩, [])
theorem empty_fit (w : World) (E : Nat → Prop) (h : Hd) : Fit w E ⟨h, none, 0, 0, []⟩ := ⟨RE.nil _ _ _, Nat.le_refl _, Nat.zero_le _, Nat.zero_le _, fun ad e hn => by cases e⟩
theorem lit_lies (w : World) (k ix : Int) : Lies w ⟨⟨k, 0, 0, 0, ix, 0, 0, false, ⟨#[]⟩⟩, none, 0, 0, []⟩ (lit k ix) := ⟨rfl, fun _ => False, empty_fit w _ _⟩
theorem send_lit (h : Ws B w p D lost) (hroom : D.length < 256) (k ix : Int) :
    Calls Try.prog 11 #[.pointer (some ⟨p, 0, none⟩), .agg #[.int .i64 k, .int .i64 0, .int .i64 0, .int .u64 0, .int .u64 ix, .int .u64 0, .int .u64 0, .bool false, .slice none 0 0, .string ⟨#[]⟩]] w fun e w' =>
      e = .returned (.bool true) ∧ Ws B w' p (D ++ [lit k ix]) lost ∧ Below B w w' := by
  have h1 := send_W (x := ⟨⟨k, 0, 0, 0, ix, 0, 0, false, ⟨#[]⟩⟩, none, 0, 0, []⟩) h hroom (lit_lies w k ix)
  unfold ltV at h1
  simp only at h1
  exact h1
theorem send_litF (h : Ws B w p D lost) (hfull : 256 ≤ D.length) (hlost : lost < 4611686018427387904) (k ix : Int) :
    Calls Try.prog 11 #[.pointer (some ⟨p, 0, none⟩), .agg #[.int .i64 k, .int .i64 0, .int .i64 0, .int .u64 0, .int .u64 ix, .int .u64 0, .int .u64 0, .bool false, .slice none 0 0, .string ⟨#[]⟩]] w fun e w' =>
      e = .returned (.bool false) ∧ Ws B w' p D (lost + 1) ∧ Below B w w' := by
  have h1 := send_F (x := ⟨⟨k, 0, 0, 0, ix, 0, 0, false, ⟨#[]⟩⟩, none, 0, 0, []⟩) h hfull hlost
  unfold ltV at h1
  simp only at h1
  exact h1
end
end Go.Proofs.Ytfcdaelbbcfgjaa.Sol
