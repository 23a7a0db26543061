/- What Free leaves, walked; then Append, Sync, Replace and Remove. -/
import Derived.Test.YtmimpfccngihiaaDoorDskWalkD
import Derived.Deep.RegionHeld3
namespace Go.Proofs.YtmimpfccngihiaaDoor.DskWalkE
open Go.RowKit Go.Proofs.YtmimpfccngihiaaDoor.Kit Go.Proofs.YtmimpfccngihiaaDoor.Blocks Go.Proofs.YtmimpfccngihiaaDoor.Keys Go.Proofs.YtmimpfccngihiaaDoor.Model Go.Proofs.YtmimpfccngihiaaDoor.Disk Go.Proofs.YtmimpfccngihiaaDoor.DskWalkA Go.Proofs.YtmimpfccngihiaaDoor.DskWalkB Go.Proofs.YtmimpfccngihiaaDoor.DskWalkC Go.Proofs.YtmimpfccngihiaaDoor.DskWalkD

set_option maxRecDepth 100000 in
theorem free_nil (w : World) : Calls Tryd.prog 42 #[.pointer none] w (TellsD w 0) := by
  go_enter Tryd.func42, Tryd.ntmps42
  go_wp2
  go_ret
  exact ⟨rfl, Below.refl _ _⟩
section
variable {w : World} {p N : Nat} {m : M} {A : Nat → Option Addr} {c : Nat → Nat} {mb : Option Nat} {x : Int}
set_option maxRecDepth 100000 in
theorem free_any (h : DV w p N m A c mb x none) (g : Fine m) : Calls Tryd.prog 42 #[.pointer (some ⟨p, 0, none⟩)] w (TellsD w ((m.room : Int) - (m.used : Int))) := by
  have hc0 := h.c0
  have hlt := h.lt
  have hu := g.used
  have hr := g.room
  have hused := used_any h.drew g
  have hw1 : IntKind.i64.wrap ((m.room : Int) - (m.used : Int)) = (m.room : Int) - (m.used : Int) := IntWalk.i64_in _ (by omega)
  obtain ⟨R, hR⟩ : ∃ R, m.room = R := ⟨_, rfl⟩
  obtain ⟨U, hU⟩ : ∃ U, m.used = U := ⟨_, rfl⟩
  rw [hR] at hc0 hr hu
  rw [hR, hU] at hw1 ⊢
  rw [hU] at hused hu
  have HU := Lib.hid hused
  clear hused hR hU
  go_enter Tryd.func42, Tryd.ntmps42
  go_wp2_with fail
  go_region_held3 (fun w' => w'.cell? ⟨p, 0, none⟩ = some (.int .i64 (R : Int)))
    (first
      | exact hc0
      | exact (hBb.cell (p := ⟨p, 0, none⟩) hlt).trans hc0)
    (first
      | (go_at_call 32
         refine HU.out.mono ?_
         rintro e wA ⟨rfl, hBb⟩))
  all_goals go_wp2
  all_goals go_ret
  all_goals exact ⟨rfl, ((Below.refl w.heap.size w).drew).trans hBb⟩
end

/-! ### What a call that changes a disk leaves -/
def LeavesD (w : World) (p N : Nat) (r : Int × M) (A : Nat → Option Addr) (mb : Option Nat) (e : Ending) (w' : World) : Prop := e = .returned (.int .i64 r.1) ∧ After w p N r.2 A mb w'
section
variable {w w1 w2 w3 w' : World} {p N : Nat} {m : M} {A : Nat → Option Addr} {c : Nat → Nat} {mb : Option Nat} {x : Int}
theorem After.still (h : DV w p N m A c mb x none) (hb : Below w.heap.size w w') : After w p (N + 1) m A mb w' :=
  ⟨A, c, mb, x, (h.below hb).more (by omega), Only.of_below hb, fun q hq => .inl hq⟩
theorem After.dry {m' : M} (hb : Below w.heap.size w w1) (k : Turned w1 p N m' A c mb none w') : After w p (N + 1) m' A mb w' := by
  obtain ⟨x', h', ho⟩ := k
  exact ⟨A, c, mb, x', h'.more (by omega), (Only.of_below hb).trans (ho.mono fun q _ hq => .inl hq), fun q hq => .inl hq⟩
theorem keepBut {i : Nat} (h : DV w p N m A c mb x (some i)) {S : Nat → Prop} (k : Only S w w') (hp : ¬ S p) (hm : ∀ b, mb = some b → ¬ S b) (hr : ∀ j a, j ≠ i → A j = some a → ¬ S a.block) : DV w' p N m A c mb x (some i) where
  cell := k.heap h.cell hp
  fuel := h.fuel
  lo := h.lo
  hi := h.hi
  map := h.map.keep fun b hb => k.block b (h.foot_lt (.inr (.inl hb))) (hm b hb)
  mapp := h.mapp
  own := fun j hj => k.row (h.own j hj) fun g hg => by
    obtain ⟨a, ha, rfl⟩ := own_block m A c j g hg
    exact hr j a (fun e => hj (by rw [e])) ha
  nil := h.nil
  apart := h.apart
  rows := fun j a ha => by have := h.rows j a ha; have := k.size; omega
theorem blk_of {a : Option Addr} {n k g : Nat} (h : (Value.slice a n k).ownBlock = some g) : ∃ y, a = some y ∧ y.block = g := by
  cases a with
  | none => cases h
  | some y => exact ⟨y, rfl, by simpa [Value.ownBlock] using h⟩

/-- A file's slice has grown; the new slice is stored into the cell of the file's copy. -/
theorem grown_file (h : DV w p N m A c mb x none) {i : Nat} {sl : Value} {fl : Int} {s : List UInt8} {A1 : Option Addr} {L1 c1 n1 : Nat} {xs : List Value}
    (hown : Row w3 (p + 1) 5 (.slice A1 L1 c1) n1 xs) (hn : n1 = (m.firm i ++ (m.soft i ++ s)).length) (hx : xs = vals (m.firm i ++ (m.soft i ++ s))) (hL : L1 = n1)
    (hg : (w.alloc (.cells #[sl, .int .i64 fl] 82)).grownBy w3 (sv m A c i).ownBlock)
    (hat : (Value.slice A1 L1 c1).ownBlock = (sv m A c i).ownBlock ∨ (Value.slice A1 L1 c1).ownBlock = some (w.alloc (.cells #[sl, .int .i64 fl] 82)).heap.size) :
    w3.heap[w.heap.size]? = some (.cells #[sl, .int .i64 fl] 82 (0, 0)) ∧ DV (w3.setCell ⟨w.heap.size, 0, none⟩ (.slice A1 L1 c1)) p N m A c mb x (some i) ∧
      Row (w3.setCell ⟨w.heap.size, 0, none⟩ (.slice A1 L1 c1)) (p + 1) 5 (.slice A1 (m.firm i ++ (m.soft i ++ s)).length c1) (m.firm i ++ (m.soft i ++ s)).length (vals (m.firm i ++ (m.soft i ++ s))) ∧
      Only (fun q => ∃ y, A i = some y ∧ y.block = q) w (w3.setCell ⟨w.heap.size, 0, none⟩ (.slice A1 L1 c1)) ∧
      ∀ y, A1 = some y → (∃ z, A i = some z ∧ z.block = y.block) ∨ w.heap.size ≤ y.block := by
  subst hL hn hx
  have hlt : ∀ g, (sv m A c i).ownBlock = some g → ∃ z, A i = some z ∧ z.block = g := own_block m A c i
  have hF : w3.heap[w.heap.size]? = some (.cells #[sl, .int .i64 fl] 82 (0, 0)) := by
    rw [hg.block w.heap.size (by simp) fun e => ?_]
    · exact heap_alloc_new w _
    · obtain ⟨z, hz, hzb⟩ := hlt _ e.symm
      have := (h.rows i z hz).2
      omega
  have ho : Only (fun q => ∃ y, A i = some y ∧ y.block = q) w (w3.setCell ⟨w.heap.size, 0, none⟩ (.slice A1 (m.firm i ++ (m.soft i ++ s)).length c1)) :=
    (((Only.refl (fun q => ∃ y, A i = some y ∧ y.block = q) w).alloc _).grown hg (fun g e => .inr (hlt g e))).setCell (a := ⟨w.heap.size, 0, none⟩) (.inl (Nat.le_refl _)) _
  have hnew : ∀ y, A1 = some y → (∃ z, A i = some z ∧ z.block = y.block) ∨ w.heap.size + 1 ≤ y.block := by
    intro y hy
    subst hy
    rcases hat with e | e
    · obtain ⟨z, hz, hzb⟩ := hlt y.block (by rw [← e]; rfl)
      exact .inl ⟨z, hz, hzb⟩
    · simp only [Value.ownBlock, Option.some.injEq] at e
      rw [e]
      right
      simp
  refine ⟨hF, ?_, ?_, ho, fun y hy => (hnew y hy).imp id (by omega)⟩
  · refine keepBut (h.but i) ho ?_ ?_ ?_
    · rintro ⟨y, hy, e⟩
      have := (h.rows i y hy).1
      omega
    · rintro b hb ⟨y, hy, e⟩
      exact foot_row h hy b hb (by simp) e
    · rintro j a hj ha ⟨y, hy, e⟩
      exact h.apart i j y a (by omega) hy ha e
  · refine (only_set w3 w.heap.size 0 _).row hown fun g hgg => ?_
    obtain ⟨y, hy, rfl⟩ := blk_of hgg
    rcases hnew y hy with ⟨z, hz, hzb⟩ | hy'
    · have := (h.rows i z hz).2
      omega
    · omega
theorem info8 : (Tryd.prog.info? 5).map (fun i => (i.zero, i.size, i.bytes)) = some (some (.int .u8 0), 1, 1) := by kernel_rfl

set_option maxRecDepth 100000 in
theorem append_no (n : Int) (s : ByteArray) (h : DV w p N m A c mb x none) (hn : ¬ (0 ≤ n ∧ n < 16)) :
    Calls Tryd.prog 33 #[.pointer (some ⟨p, 0, none⟩), .int .i64 n, .string s] w (LeavesD w p (N + 1) (1, m) A mb) := by
  go_enter Tryd.func33, Tryd.ntmps33
  go_wp2_with fail
  refine (file_no n _ hn).mono ?_
  rintro e w1 ⟨rfl, rfl⟩
  go_wp2
  go_ret
  exact ⟨rfl, After.still h (Below.refl _ _)⟩
set_option maxRecDepth 100000 in
theorem append_off (n : Int) (s : ByteArray) (h : DV w p N m A c mb x none) (hn : 0 ≤ n ∧ n < 16) (hoff : m.off = true) :
    Calls Tryd.prog 33 #[.pointer (some ⟨p, 0, none⟩), .int .i64 n, .string s] w (LeavesD w p (N + 1) (10, m) A mb) := by
  have HO := Lib.hid hoff
  clear hoff
  go_enter Tryd.func33, Tryd.ntmps33
  go_wp2_with fail
  refine (file_yes n _ hn).mono ?_
  rintro e w1 ⟨rfl, rfl⟩
  go_wp2_with fail
  refine (off_hid true h HO).mono ?_
  rintro e w1 ⟨rfl, rfl⟩
  go_wp2
  go_ret
  exact ⟨rfl, After.still h (Below.refl _ _)⟩
set_option maxRecDepth 100000 in
theorem append_full (n : Int) (s : ByteArray) (h : DV w p N m A c mb x none) (g : Fine m) (hn : 0 ≤ n ∧ n < 16) (hoff : m.off = false) (hf : m.room < m.used + s.size) :
    Calls Tryd.prog 33 #[.pointer (some ⟨p, 0, none⟩), .int .i64 n, .string s] w (LeavesD w p (N + 1) (11, m) A mb) := by
  have HO := Lib.hid hoff
  have hgt : (m.room : Int) - (m.used : Int) < (s.size : Int) := by omega
  have hgb : decide ((m.room : Int) - (m.used : Int) < (s.size : Int)) = true := decide_eq_true hgt
  clear hoff hf
  go_enter Tryd.func33, Tryd.ntmps33
  go_wp2_with fail
  refine (file_yes n _ hn).mono ?_
  rintro e w1 ⟨rfl, rfl⟩
  go_wp2_with fail
  refine (off_hid false h HO).mono ?_
  rintro e w1 ⟨rfl, rfl⟩
  go_wp2_with fail
  refine (free_any h g).mono ?_
  rintro e w1 ⟨rfl, hb1⟩
  go_wp2
  go_ret
  exact ⟨rfl, After.still h hb1⟩
set_option maxRecDepth 100000 in
theorem append_dry (n : Int) (s : ByteArray) (h : DV w p N m A c mb x none) (g : Fine m) (hn : 0 ≤ n ∧ n < 16) (hoff : m.off = false) (hf : ¬ m.room < m.used + s.size) (h0 : m.fuel = 0) :
    Calls Tryd.prog 33 #[.pointer (some ⟨p, 0, none⟩), .int .i64 n, .string s] w (LeavesD w p (N + 1) (10, m.dead) A mb) := by
  have HO := Lib.hid hoff
  have H0 := Lib.hid h0
  have hgt : ¬ (m.room : Int) - (m.used : Int) < (s.size : Int) := by omega
  have hgb : decide ((m.room : Int) - (m.used : Int) < (s.size : Int)) = false := decide_eq_false hgt
  clear hoff hf h0
  go_enter Tryd.func33, Tryd.ntmps33
  go_wp2_with fail
  refine (file_yes n _ hn).mono ?_
  rintro e w1 ⟨rfl, rfl⟩
  go_wp2_with fail
  refine (off_hid false h HO).mono ?_
  rintro e w1 ⟨rfl, rfl⟩
  go_wp2_with fail
  refine (free_any h g).mono ?_
  rintro e w1 ⟨rfl, hb1⟩
  go_wp2_with fail
  refine (step_dry (h.below hb1) H0.out).mono ?_
  rintro e w2 ⟨rfl, ht⟩
  go_wp2
  go_ret
  exact ⟨rfl, After.dry hb1 ht⟩
end
end Go.Proofs.YtmimpfccngihiaaDoor.DskWalkE
