/- What find and Read leave, walked. -/
import Derived.Test.YtamncdpeklbhlaaGreatDoorDskWalkB
namespace Go.Proofs.YtamncdpeklbhlaaGreatDoor.DskWalkC
open Go.RowKit Go.Proofs.YtamncdpeklbhlaaGreatDoor.Kit Go.Proofs.YtamncdpeklbhlaaGreatDoor.Blocks Go.Proofs.YtamncdpeklbhlaaGreatDoor.Keys Go.Proofs.YtamncdpeklbhlaaGreatDoor.Model Go.Proofs.YtamncdpeklbhlaaGreatDoor.Disk Go.Proofs.YtamncdpeklbhlaaGreatDoor.DskWalkA

theorem map_below {w w' : World} {p N : Nat} {m : M} {A : Nat → Option Addr} {c : Nat → Nat} {mb : Option Nat} {x : Int} {e : Option Nat} (h : DV w p N m A c mb x e) (hb : Below w.heap.size w w') : MapV Tryz.prog 3 w' mb N (ent m A c) := (h.below hb).map
/-- m[n], ok, in a later world. -/
theorem look_yes {w w' : World} {p N : Nat} {m : M} {A : Nat → Option Addr} {c : Nat → Nat} {mb : Option Nat} {x : Int} {e : Option Nat} (h : DV w p N m A c mb x e) (hb : Below w.heap.size w w') {n : Int} (hn : m.has n = true) :
    (Instr.lookup 84 (.map mb) (.int .i64 n) true).run Tryz.prog w' = .ok (.tuple #[.agg #[.slice (A n.toNat) (m.all n.toNat).length (c n.toNat), .int .i64 ((m.firm n.toNat).length : Int)], .bool true]) w' := by
  have hr := (has_in hn).1
  have := (map_below h hb).look Tryz.underlying3 Tryz.underlying84 (zero_file w') (i := n) (by omega) (by omega) true
  rw [this, ent_yes hn]
  rfl
theorem look_no {w w' : World} {p N : Nat} {m : M} {A : Nat → Option Addr} {c : Nat → Nat} {mb : Option Nat} {x : Int} {e : Option Nat} (h : DV w p N m A c mb x e) (hb : Below w.heap.size w w') {n : Int} (h0 : -9223372036854775808 ≤ n) (h1 : n ≤ 9223372036854775807) (hn : m.has n = false) :
    (Instr.lookup 84 (.map mb) (.int .i64 n) true).run Tryz.prog w' = .ok (.tuple #[.agg #[.slice none 0 0, .int .i64 0], .bool false]) w' := by
  have := (map_below h hb).look Tryz.underlying3 Tryz.underlying84 (zero_file w') (i := n) h0 h1 true
  rw [this, ent_no hn]
  rfl
/-- m[n] at a file's number. -/
theorem look_one {w w' : World} {p N : Nat} {m : M} {A : Nat → Option Addr} {c : Nat → Nat} {mb : Option Nat} {x : Int} {e : Option Nat} (h : DV w p N m A c mb x e) (g : Fine m) (hb : Below w.heap.size w w') {n : Int} (hn : 0 ≤ n ∧ n < 16) :
    (Instr.lookup 84 (.map mb) (.int .i64 n) false).run Tryz.prog w' = .ok (.agg #[.slice (A n.toNat) (m.all n.toNat).length (c n.toNat), .int .i64 ((m.firm n.toNat).length : Int)]) w' := by
  have := (map_below h hb).look Tryz.underlying3 Tryz.underlying84 (zero_file w') (i := n) (by omega) (by omega) false
  rw [this, look_in h g hn]
  rfl

/-- What find leaves: a file and an error's number. -/
def Found (w : World) (v : Value) (k : Int) (f : Int) (e : Ending) (w' : World) : Prop := e = .returned (.tuple #[.agg #[v, .int .i64 k], .int .i64 f]) ∧ Below w.heap.size w w'

set_option maxRecDepth 100000 in
theorem find_nil (n : Int) (w : World) : Calls Tryz.prog 53 #[.pointer none, .int .i64 n] w (Found w (.slice none 0 0) 0 10) := by
  go_enter Tryz.func53, Tryz.ntmps53
  go_wp2_with fail
  refine (off_nil _).mono ?_
  rintro e w' ⟨rfl, rfl⟩
  go_wp2
  exact bodyPost_ret (v := .tuple #[.agg #[.slice none 0 0, .int .i64 0], .int .i64 10]) (by simp [results, Tryz.results53, go_sem]) rfl ⟨rfl, (Below.refl _ _).alloc (Nat.le_refl _) _⟩

section
variable {w : World} {p N : Nat} {m : M} {A : Nat → Option Addr} {c : Nat → Nat} {mb : Option Nat} {x : Int}
set_option maxRecDepth 100000 in
theorem find_off (n : Int) (h : DV w p N m A c mb x none) (hoff : m.off = true) : Calls Tryz.prog 53 #[.pointer (some ⟨p, 0, none⟩), .int .i64 n] w (Found w (.slice none 0 0) 0 10) := by
  go_enter Tryz.func53, Tryz.ntmps53
  go_wp2_with fail
  refine (off_hid true (h.below ((Below.refl _ _).alloc (Nat.le_refl _) _)) (Lib.hid hoff)).mono ?_
  rintro e w' ⟨rfl, rfl⟩
  go_wp2
  exact bodyPost_ret (v := .tuple #[.agg #[.slice none 0 0, .int .i64 0], .int .i64 10]) (by simp [results, Tryz.results53, go_sem]) rfl ⟨rfl, (Below.refl _ _).alloc (Nat.le_refl _) _⟩
set_option maxRecDepth 100000 in
theorem find_none (n : Int) (h : DV w p N m A c mb x none) (hoff : m.off = false) (hn : m.has n = false) (h0 : -9223372036854775808 ≤ n) (h1 : n ≤ 9223372036854775807) :
    Calls Tryz.prog 53 #[.pointer (some ⟨p, 0, none⟩), .int .i64 n] w (Found w (.slice none 0 0) 0 12) := by
  have hal : ∀ o, Below w.heap.size w (w.alloc o) := fun o => (Below.refl _ _).alloc (Nat.le_refl _) o
  have hh := h.below (hal (.cells #[.slice none 0 0, .int .i64 0] 113))
  have hrun := look_no h (hal (.cells #[.slice none 0 0, .int .i64 0] 113)) h0 h1 hn
  have HO := Lib.hid hoff
  have hc3 := h.c3
  have hlt := h.lt
  clear hoff hn hal
  go_enter Tryz.func53, Tryz.ntmps53
  go_wp2_with fail
  refine (off_hid false hh HO).mono ?_
  rintro e w' ⟨rfl, rfl⟩
  go_wp2
  exact bodyPost_ret (v := .tuple #[.agg #[.slice none 0 0, .int .i64 0], .int .i64 12]) (by simp [results, Tryz.results53, go_sem]) rfl ⟨rfl, (((Below.refl _ _).alloc (Nat.le_refl _) _).alloc (by simp) _)⟩
set_option maxRecDepth 100000 in
theorem find_yes (n : Int) (h : DV w p N m A c mb x none) (hoff : m.off = false) (hn : m.has n = true) :
    Calls Tryz.prog 53 #[.pointer (some ⟨p, 0, none⟩), .int .i64 n] w (Found w (.slice (A n.toNat) (m.all n.toNat).length (c n.toNat)) ((m.firm n.toNat).length : Int) 0) := by
  have hal : ∀ o, Below w.heap.size w (w.alloc o) := fun o => (Below.refl _ _).alloc (Nat.le_refl _) o
  have hh := h.below (hal (.cells #[.slice none 0 0, .int .i64 0] 113))
  have hrun := look_yes h (hal (.cells #[.slice none 0 0, .int .i64 0] 113)) hn
  have HO := Lib.hid hoff
  have hc3 := h.c3
  have hlt := h.lt
  obtain ⟨L, hL⟩ : ∃ L, (m.all n.toNat).length = L := ⟨_, rfl⟩
  obtain ⟨F, hF⟩ : ∃ F, (m.firm n.toNat).length = F := ⟨_, rfl⟩
  obtain ⟨a, ha⟩ : ∃ a, A n.toNat = a := ⟨_, rfl⟩
  obtain ⟨k, hk⟩ : ∃ k, c n.toNat = k := ⟨_, rfl⟩
  rw [hL, hF, ha, hk] at hrun
  rw [hL, hF, ha, hk]
  clear hoff hn hal hL hF ha hk
  go_enter Tryz.func53, Tryz.ntmps53
  go_wp2_with fail
  refine (off_hid false hh HO).mono ?_
  rintro e w' ⟨rfl, rfl⟩
  go_wp2
  exact bodyPost_ret (v := .tuple #[.agg #[.slice a L k, .int .i64 (F : Int)], .int .i64 0]) (by simp [results, Tryz.results53, go_sem]) rfl ⟨rfl, (((Below.refl _ _).alloc (Nat.le_refl _) _).alloc (by simp) _)⟩
end

def str (l : List UInt8) : ByteArray := ⟨l.toArray⟩
/-- What Read leaves: bytes and an error's number. -/
def Got (w : World) (l : List UInt8) (f : Int) (e : Ending) (w' : World) : Prop := e = .returned (.tuple #[.string (str l), .int .i64 f]) ∧ Below w.heap.size w w'
theorem str_slice {w w' : World} {p N : Nat} {m : M} {A : Nat → Option Addr} {c : Nat → Nat} {mb : Option Nat} {x : Int} (h : DV w p N m A c mb x none) (hb : Below w.heap.size w w') (i : Nat) :
    (convert 111 9 (.slice (A i) (m.all i).length (c i))).run Tryz.prog w' = .ok (.string (str (m.all i))) w' := by
  have ho := (h.below hb).own i (by simp)
  exact run_string (P := Tryz.prog) 111 5 9 Tryz.underlying111 Tryz.underlying5 Tryz.underlying9 w' _ (A i) (m.all i).length (c i) (m.all i) (Reads.of_row ho)
theorem str_nil (w' : World) : (convert 111 9 (.slice none 0 0)).run Tryz.prog w' = .ok (.string (str [])) w' :=
  run_string (P := Tryz.prog) 111 5 9 Tryz.underlying111 Tryz.underlying5 Tryz.underlying9 w' w'.heap.size none 0 0 [] Reads.none_
set_option maxRecDepth 100000 in
theorem read_nil (n : Int) (w : World) : Calls Tryz.prog 18 #[.pointer none, .int .i64 n] w (Got w [] 10) := by
  have hconv := str_nil
  go_enter Tryz.func18, Tryz.ntmps18
  go_wp2_with fail
  refine (find_nil n _).mono ?_
  rintro e w1 ⟨rfl, hb1⟩
  go_wp2
  go_ret2
  exact ⟨rfl, (hb1.alloc hb1.size _)⟩
section
variable {w : World} {p N : Nat} {m : M} {A : Nat → Option Addr} {c : Nat → Nat} {mb : Option Nat} {x : Int}
set_option maxRecDepth 100000 in
theorem read_any (n : Int) (h : DV w p N m A c mb x none) (h0 : -9223372036854775808 ≤ n) (h1 : n ≤ 9223372036854775807) :
    Calls Tryz.prog 18 #[.pointer (some ⟨p, 0, none⟩), .int .i64 n] w (Got w (m.read n).1 (m.read n).2) := by
  cases hoff : m.off with
  | true =>
    have hr : m.read n = ([], 10) := by simp [M.read, hoff]
    rw [hr]
    have hconv := str_nil
    go_enter Tryz.func18, Tryz.ntmps18
    go_wp2_with fail
    refine (find_off n h hoff).mono ?_
    rintro e w1 ⟨rfl, hb1⟩
    go_wp2
    go_ret2
    exact ⟨rfl, (hb1.alloc hb1.size _)⟩
  | false =>
    cases hn : m.has n with
    | false =>
      have hr : m.read n = ([], 12) := by simp [M.read, hoff, hn]
      rw [hr]
      have hconv := str_nil
      go_enter Tryz.func18, Tryz.ntmps18
      go_wp2_with fail
      refine (find_none n h hoff hn h0 h1).mono ?_
      rintro e w1 ⟨rfl, hb1⟩
      go_wp2
      go_ret2
      exact ⟨rfl, (hb1.alloc hb1.size _)⟩
    | true =>
      have hr : m.read n = (m.all n.toNat, 0) := by simp [M.read, hoff, hn]
      rw [hr]
      have hconv : ∀ w1 o, Below w.heap.size w w1 → (convert 111 9 (.slice (A n.toNat) (m.all n.toNat).length (c n.toNat))).run Tryz.prog (w1.alloc o) = .ok (.string (str (m.all n.toNat))) (w1.alloc o) :=
        fun w1 o hb => str_slice h (hb.alloc hb.size o) n.toNat
      have hfind := find_yes n h hoff hn
      have HC := Lib.hid hconv
      obtain ⟨l, hl⟩ : ∃ l, m.all n.toNat = l := ⟨_, rfl⟩
      rw [hl] at HC hfind ⊢
      clear hr hconv hoff hn hl
      go_enter Tryz.func18, Tryz.ntmps18
      go_wp2_with fail
      refine hfind.mono ?_
      rintro e w1 ⟨rfl, hb1⟩
      have hcv := HC.out w1 (.cells #[.slice (A n.toNat) l.length (c n.toNat), .int .i64 ((m.firm n.toNat).length : Int)] 113) hb1
      go_wp2
      go_ret2
      exact ⟨rfl, (hb1.alloc hb1.size _)⟩
end
end Go.Proofs.YtamncdpeklbhlaaGreatDoor.DskWalkC
