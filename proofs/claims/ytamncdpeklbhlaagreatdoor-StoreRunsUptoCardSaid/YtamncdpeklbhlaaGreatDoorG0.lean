/- The calls on a disk, told of a disk whose blocks lie from B on and are none of a list; what else there is stays. -/
import Derived.Test.YtamncdpeklbhlaaGreatDoorDskWalkC
import Derived.Deep.RegionHeld3
import Derived.Lib.MinMax
import Derived.Lib.SliceRun
namespace Go.Proofs.YtamncdpeklbhlaaGreatDoor.DskWalkD
open Go.RowKit Go.Proofs.YtamncdpeklbhlaaGreatDoor.Kit Go.Proofs.YtamncdpeklbhlaaGreatDoor.Blocks Go.Proofs.YtamncdpeklbhlaaGreatDoor.Keys Go.Proofs.YtamncdpeklbhlaaGreatDoor.Model Go.Proofs.YtamncdpeklbhlaaGreatDoor.Disk Go.Proofs.YtamncdpeklbhlaaGreatDoor.DskWalkA Go.Proofs.YtamncdpeklbhlaaGreatDoor.DskWalkC

/-- Numbers as cells. -/
def nums (l : List Nat) : List Value := l.map fun (i : Nat) => Value.int .i64 (i : Int)
theorem nums_length (l : List Nat) : (nums l).length = l.length := by simp [nums]
def filesTo (m : M) (k : Nat) : List Nat := (List.range k).filter m.there
theorem filesTo_yes (m : M) (k : Nat) (h : m.there k = true) : filesTo m (k + 1) = filesTo m k ++ [k] := by simp [filesTo, List.range_succ, List.filter_append, h]
theorem filesTo_no (m : M) (k : Nat) (h : m.there k = false) : filesTo m (k + 1) = filesTo m k := by simp [filesTo, List.range_succ, List.filter_append, h]
theorem filesTo_le (m : M) (k : Nat) : (filesTo m k).length ≤ k := by
  have := List.length_filter_le m.there (List.range k)
  simpa [filesTo] using this
theorem info3 : (Tryz.prog.info? 3).map (fun i => (i.zero, i.size, i.bytes)) = some (some (.int .i64 0), 1, 8) := by kernel_rfl
theorem has_nat (m : M) {k : Nat} (hk : k < 16) : m.has (k : Int) = m.there k := by
  unfold M.has
  rw [show decide (0 ≤ (k : Int) ∧ (k : Int) < 16) = true from decide_eq_true (by omega)]
  simp

/-- What a call that makes numbers leaves. -/
def MadeN (w : World) (l : List Nat) (e : Ending) (w' : World) : Prop :=
  ∃ v, e = .returned v ∧ w'.ownsRow w.heap.size 3 1 v l.length (nums l) ∧ Below w.heap.size w w'

set_option maxRecDepth 100000 in
theorem files_nil (w : World) : Calls Tryz.prog 67 #[.pointer none] w (MadeN w []) := by
  go_enter Tryz.func67, Tryz.ntmps67
  go_wp2
  go_ret
  exact ⟨.slice none 0 0, rfl, ⟨rfl, .inl ⟨rfl, rfl⟩⟩, Below.refl _ _⟩

section
variable {w : World} {p N : Nat} {m : M} {A : Nat → Option Addr} {c : Nat → Nat} {mb : Option Nat} {x : Int}
set_option maxRecDepth 100000 in
set_option maxHeartbeats 1000000 in
theorem files_any (h : DV w p N m A c mb x none) : Calls Tryz.prog 67 #[.pointer (some ⟨p, 0, none⟩)] w (MadeN w m.files) := by
  obtain ⟨i0, hi0, hz0, hz1, hz2⟩ := info_parts info3
  go_enter Tryz.func67, Tryz.ntmps67
  go_wp2
  go_loopw [3, 9] (fun v i wr => ∃ k : Nat, k ≤ 16 ∧ i = .int .i64 (k : Int) ∧ wr.ownsRow w.heap.size 3 1 v (filesTo m k).length (nums (filesTo m k)) ∧ Below w.heap.size w wr) (fun _ i _ => 16 - (intOf i).toNat)
  case atStart => exact ⟨0, by omega, rfl, ⟨rfl, .inl ⟨rfl, rfl⟩⟩, Below.refl _ _⟩
  case round =>
    obtain ⟨k, hk, rfl, hown, hbel⟩ := hrel
    by_cases hlt : k < 16
    · have hhr := h.below hbel
      have hc3 := hhr.c3
      have hpl := hhr.lt
      have hll := filesTo_le m k
      have hsz := hbel.size
      cases ht : m.there k with
      | true =>
        have hrun := look_yes h hbel (n := (k : Int)) (by rw [has_nat m hlt]; exact ht)
        have hs := filesTo_yes m k ht
        have HS := Lib.hid hs
        clear hs
        obtain ⟨n, hn⟩ : ∃ n, (filesTo m k).length = n := ⟨_, rfl⟩
        rw [hn] at hll hown
        have HN := Lib.hid hn
        clear hn
        have hm1 : n + 1 ≤ maxLen := by unfold maxLen; omega
        have hs1 : (n + 1) * 8 ≤ 140737488355328 := by omega
        clear ht
        obtain ⟨fa, hfa⟩ : ∃ fa, A k = fa := ⟨_, rfl⟩
        obtain ⟨fc, hfc⟩ : ∃ fc, c k = fc := ⟨_, rfl⟩
        obtain ⟨fl, hfl⟩ : ∃ fl, (m.all k).length = fl := ⟨_, rfl⟩
        obtain ⟨ff, hff⟩ : ∃ ff, (m.firm k).length = ff := ⟨_, rfl⟩
        simp only [Int.toNat_natCast, hfa, hfc, hfl, hff] at hrun
        clear hfa hfc hfl hff
        have hR : ∀ o u, Reads ((wr.alloc o).alloc (.cells #[u] 3)) (wr.heap.size + 2) 1 (some ⟨wr.heap.size + 1, 0, none⟩) 1 [u] := fun o u => by have := reads_one (wr.alloc o) u 3; simpa using this
        have hBo : ∀ o o', w.heap.size ≤ ((wr.alloc o).alloc o').heap.size := fun o o' => by simp; omega
        go_wp2_with (first
          | (at_builtin
             refine wpList_append_any _ rfl (.tmp 22) (.tmp 24) _ rfl w.heap.size 3 i0 _ 1 8 Tryz.underlying80 hi0 hz0 hz1 hz2 rfl (by decide) _ n (nums (filesTo m k)) rfl ((hown.alloc _).alloc _)
               _ _ 1 1 [.int .i64 (k : Int)] rfl (hR _ _) (by simp [Value.oneCell']) hm1 hs1 (hBo _ _) ?_
             intro v' w1 hown1 hg1 hat1))
        have hb1 : Below w.heap.size w w1 := ((hbel.alloc hsz _).alloc (by simp; omega) _).grown hg1 (by simp; omega) (own_lt hown)
        go_wp2
        go_roundw
        case rel => exact ⟨k + 1, by omega, by go_num, own_cast hown1 (by rw [HS.out, List.length_append, HN.out]; rfl) (by rw [HS.out]; simp [nums]), hb1⟩
        case measure => simp [intOf]; omega
      | false =>
        have hrun := look_no h hbel (n := (k : Int)) (by omega) (by omega) (by rw [has_nat m hlt]; exact ht)
        have hs := filesTo_no m k ht
        have HS := Lib.hid hs
        clear hs ht
        go_wp2
        go_roundw
        case rel => exact ⟨k + 1, by omega, by go_num, by rw [HS.out]; exact hown.alloc _, hbel.alloc hsz _⟩
        case measure => simp [intOf]; omega
    · obtain rfl : k = 16 := by omega
      go_wp2
      go_ret
      exact ⟨_, rfl, hown, hbel⟩
end

theorem Reads.num {w : World} {B n k : Nat} {A : Option Addr} {l : List Nat} (h : Reads w B 1 A n (nums l)) (hk : k < n) : ∃ b o j, A = some ⟨b, o, none⟩ ∧ b < B ∧ l[k]? = some j ∧ w.cell? ⟨b, o + k, none⟩ = some (.int .i64 (j : Int)) := by
  obtain ⟨ad, u, rfl, hb, hx, hc⟩ := h.at_ hk
  have hs := h.spot (by omega)
  have hl : k < l.length := by have := h.len; rw [nums_length] at this; omega
  simp only [nums, List.getElem?_map, List.getElem?_eq_getElem hl, Option.map_some, Option.some.injEq] at hx
  subst hx
  refine ⟨ad.block, ad.off, l[k], by rw [← hs], hb, List.getElem?_eq_getElem hl, ?_⟩
  rw [hs, Addr.add_lit] at hc
  exact hc
def sumLen (m : M) (l : List Nat) : Nat := (l.map m.len).sum
theorem sumLen_snoc (m : M) (l : List Nat) (j : Nat) : sumLen m (l ++ [j]) = sumLen m l + m.len j := by simp [sumLen]
theorem sumLen_take (m : M) (l : List Nat) (k j : Nat) (h : l[k]? = some j) : sumLen m (l.take (k + 1)) = sumLen m (l.take k) + m.len j := by
  obtain ⟨hk, rfl⟩ := List.getElem?_eq_some_iff.1 h
  rw [List.take_succ_eq_append_getElem hk, sumLen_snoc]
theorem sumLen_le (m : M) (l : List Nat) (k : Nat) : sumLen m (l.take k) ≤ sumLen m l := by
  conv => rhs; rw [← List.take_append_drop k l]
  simp only [sumLen, List.map_append, List.sum_append]
  omega
theorem sumLen_files {m : M} (g : Fine m) : ∀ k, sumLen m (filesTo m k) = m.usedTo k
  | 0 => rfl
  | k + 1 => by
    cases h : m.there k with
    | true => rw [filesTo_yes m k h, sumLen_snoc, sumLen_files g k]; rfl
    | false =>
      rw [filesTo_no m k h, sumLen_files g k]
      have := len_gone g h
      simp only [M.usedTo]
      omega
theorem mem_files {m : M} {k j : Nat} (h : m.files[k]? = some j) : j < 16 ∧ m.there j = true := by
  have := List.mem_of_getElem? h
  simpa [M.files] using this

/-- f.data. -/
theorem field0 (w : World) (a : Option Addr) (n c : Nat) (k : Int) : (Instr.field 113 (.agg #[.slice a n c, .int .i64 k]) 0).run Tryz.prog w = .ok (.slice a n c) w := by kernel_rfl
/-- What Used and Free leave. -/
def TellsD (w : World) (n : Int) (e : Ending) (w' : World) : Prop := e = .returned (.int .i64 n) ∧ Below w.heap.size w w'
set_option maxRecDepth 100000 in
theorem used_nil (w : World) : Calls Tryz.prog 96 #[.pointer none] w (TellsD w 0) := by
  go_enter Tryz.func96, Tryz.ntmps96
  go_wp2_with fail
  refine (files_nil _).mono ?_
  rintro e w1 ⟨v, rfl, hown, hb⟩
  obtain ⟨A1, c1, rfl, _, _, _⟩ := own_form hown
  clear hown
  go_wp2
  go_loop [3, 9] (fun s i => s = .int .i64 0 ∧ i = .int .i64 0) (fun _ _ => 0)
  case atStart => exact ⟨rfl, rfl⟩
  case round =>
    obtain ⟨rfl, rfl⟩ := hrel
    go_wp2
    go_ret
    exact ⟨rfl, hb⟩

section
variable {w : World} {p N : Nat} {m : M} {A : Nat → Option Addr} {c : Nat → Nat} {mb : Option Nat} {x : Int}
set_option maxRecDepth 100000 in
set_option maxHeartbeats 1000000 in
theorem used_any (h : DV w p N m A c mb x none) (g : Fine m) : Calls Tryz.prog 96 #[.pointer (some ⟨p, 0, none⟩)] w (TellsD w (m.used : Int)) := by
  have hsum : sumLen m m.files = m.used := sumLen_files g 16
  have hu := g.used
  have hroom := g.room
  have HU := Lib.hid hsum
  clear hsum
  go_enter Tryz.func96, Tryz.ntmps96
  go_wp2_with fail
  refine (files_any h).mono ?_
  rintro e w1 ⟨v, rfl, hown, hb⟩
  have hln : m.files.length ≤ 16 := filesTo_le m 16
  obtain ⟨n, hn⟩ : ∃ n, m.files.length = n := ⟨_, rfl⟩
  rw [hn] at hown hln
  obtain ⟨A1, c1, rfl, _, _, hr⟩ := own_form hown
  have HN := Lib.hid hn
  have hfd := field0
  have hh := h.below hb
  have hc3 := hh.c3
  have hpl := hh.lt
  clear hown hn
  go_wp2
  go_loop [3, 9] (fun s i => ∃ k : Nat, k ≤ n ∧ s = .int .i64 (sumLen m (m.files.take k) : Nat) ∧ i = .int .i64 (k : Int)) (fun _ i => n - (intOf i).toNat)
  case atStart => exact ⟨0, by omega, rfl, rfl⟩
  case round =>
    obtain ⟨k, hk, rfl, rfl⟩ := hrel
    by_cases hlt : k < n
    · obtain ⟨b, o, j, rfl, hbl, hj, hcell⟩ := Reads.num hr hlt
      have hjm := mem_files hj
      have hrun := look_one h g hb (n := (j : Int)) (by omega)
      simp only [Int.toNat_natCast, all_length] at hrun
      have hst := sumLen_take m m.files k j hj
      have hle := sumLen_le m m.files (k + 1)
      have hlu : sumLen m (m.files.take k) + m.len j ≤ 1048576 := by have := HU.out; omega
      have HS := Lib.hid hst
      obtain ⟨L, hL⟩ : ∃ L, m.len j = L := ⟨_, rfl⟩
      rw [hL] at hrun hlu HS
      obtain ⟨T, hT⟩ : ∃ T, sumLen m (m.files.take k) = T := ⟨_, rfl⟩
      rw [hT] at hlu HS ⊢
      clear hst hle hjm hj hL hT
      go_wp2
      go_round
      case rel => exact ⟨k + 1, by omega, by rw [HS.out]; go_num, by go_num⟩
      case measure => simp [intOf]; omega
    · obtain rfl : k = n := by omega
      have ht : m.files.take k = m.files := List.take_of_length_le (by rw [HN.out]; exact Nat.le_refl _)
      rw [ht, HU.out]
      clear ht
      go_wp2
      go_ret
      exact ⟨rfl, hb⟩
end
end Go.Proofs.YtamncdpeklbhlaaGreatDoor.DskWalkD
namespace Go.Proofs.YtamncdpeklbhlaaGreatDoor.DskWalkE
open Go.RowKit Go.Proofs.YtamncdpeklbhlaaGreatDoor.Kit Go.Proofs.YtamncdpeklbhlaaGreatDoor.Blocks Go.Proofs.YtamncdpeklbhlaaGreatDoor.Keys Go.Proofs.YtamncdpeklbhlaaGreatDoor.Model Go.Proofs.YtamncdpeklbhlaaGreatDoor.Disk Go.Proofs.YtamncdpeklbhlaaGreatDoor.DskWalkA Go.Proofs.YtamncdpeklbhlaaGreatDoor.DskWalkB Go.Proofs.YtamncdpeklbhlaaGreatDoor.DskWalkC Go.Proofs.YtamncdpeklbhlaaGreatDoor.DskWalkD

set_option maxRecDepth 100000 in
theorem free_nil (w : World) : Calls Tryz.prog 59 #[.pointer none] w (TellsD w 0) := by
  go_enter Tryz.func59, Tryz.ntmps59
  go_wp2
  go_ret
  exact ⟨rfl, Below.refl _ _⟩
section
variable {w : World} {p N : Nat} {m : M} {A : Nat → Option Addr} {c : Nat → Nat} {mb : Option Nat} {x : Int}
set_option maxRecDepth 100000 in
theorem free_any (h : DV w p N m A c mb x none) (g : Fine m) : Calls Tryz.prog 59 #[.pointer (some ⟨p, 0, none⟩)] w (TellsD w ((m.room : Int) - (m.used : Int))) := by
  have hc0 := h.c0
  have hlt := h.lt
  have hu := g.used
  have hr := g.room
  have hused := used_any h.drew g
  have hw1 : IntKind.i64.wrap ((m.room : Int) - (m.used : Int)) = (m.room : Int) - (m.used : Int) := IntWalk.i64_in _ (by omega)
  obtain ⟨R, hR⟩ : ∃ R, m.room = R := ⟨_, rfl⟩
  obtain ⟨U, hU⟩ : ∃ U, m.used = U := ⟨_, rfl⟩
  rw [hR] at hc0 hr hu
  rw [hR, hU] at hw1 ⊢
  rw [hU] at hused hu
  have HU := Lib.hid hused
  clear hused hR hU
  go_enter Tryz.func59, Tryz.ntmps59
  go_wp2_with fail
  go_region_held3 (fun w' => w'.cell? ⟨p, 0, none⟩ = some (.int .i64 (R : Int)))
    (first
      | exact hc0
      | exact (hBb.cell (p := ⟨p, 0, none⟩) hlt).trans hc0)
    (first
      | (go_at_call 96
         refine HU.out.mono ?_
         rintro e wA ⟨rfl, hBb⟩))
  all_goals go_wp2
  all_goals go_ret
  all_goals exact ⟨rfl, ((Below.refl w.heap.size w).drew).trans hBb⟩
end

/-! ### What a call that changes a disk leaves -/
def LeavesD (w : World) (p N : Nat) (r : Int × M) (A : Nat → Option Addr) (mb : Option Nat) (e : Ending) (w' : World) : Prop := e = .returned (.int .i64 r.1) ∧ After w p N r.2 A mb w'
section
variable {w w1 w2 w3 w' : World} {p N : Nat} {m : M} {A : Nat → Option Addr} {c : Nat → Nat} {mb : Option Nat} {x : Int}
theorem After.still (h : DV w p N m A c mb x none) (hb : Below w.heap.size w w') : After w p (N + 1) m A mb w' :=
  ⟨A, c, mb, x, (h.below hb).more (by omega), Only.of_below hb, fun q hq => .inl hq⟩
theorem After.dry {m' : M} (hb : Below w.heap.size w w1) (k : Turned w1 p N m' A c mb none w') : After w p (N + 1) m' A mb w' := by
  obtain ⟨x', h', ho⟩ := k
  exact ⟨A, c, mb, x', h'.more (by omega), (Only.of_below hb).trans (ho.mono fun q _ hq => .inl hq), fun q hq => .inl hq⟩
theorem keepBut {i : Nat} (h : DV w p N m A c mb x (some i)) {S : Nat → Prop} (k : Only S w w') (hp : ¬ S p) (hm : ∀ b, mb = some b → ¬ S b) (hr : ∀ j a, j ≠ i → A j = some a → ¬ S a.block) : DV w' p N m A c mb x (some i) where
  cell := k.heap h.cell hp
  fuel := h.fuel
  lo := h.lo
  hi := h.hi
  map := h.map.keep fun b hb => k.block b (h.foot_lt (.inr (.inl hb))) (hm b hb)
  mapp := h.mapp
  own := fun j hj => k.row (h.own j hj) fun g hg => by
    obtain ⟨a, ha, rfl⟩ := own_block m A c j g hg
    exact hr j a (fun e => hj (by rw [e])) ha
  nil := h.nil
  apart := h.apart
  rows := fun j a ha => by have := h.rows j a ha; have := k.size; omega
theorem blk_of {a : Option Addr} {n k g : Nat} (h : (Value.slice a n k).ownBlock = some g) : ∃ y, a = some y ∧ y.block = g := by
  cases a with
  | none => cases h
  | some y => exact ⟨y, rfl, by simpa [Value.ownBlock] using h⟩

/-- A file's slice has grown; the new slice is stored into the cell of the file's copy. -/
theorem grown_file (h : DV w p N m A c mb x none) {i : Nat} {sl : Value} {fl : Int} {s : List UInt8} {A1 : Option Addr} {L1 c1 n1 : Nat} {xs : List Value}
    (hown : Row w3 (p + 1) 5 (.slice A1 L1 c1) n1 xs) (hn : n1 = (m.firm i ++ (m.soft i ++ s)).length) (hx : xs = vals (m.firm i ++ (m.soft i ++ s))) (hL : L1 = n1)
    (hg : (w.alloc (.cells #[sl, .int .i64 fl] 113)).grownBy w3 (sv m A c i).ownBlock)
    (hat : (Value.slice A1 L1 c1).ownBlock = (sv m A c i).ownBlock ∨ (Value.slice A1 L1 c1).ownBlock = some (w.alloc (.cells #[sl, .int .i64 fl] 113)).heap.size) :
    w3.heap[w.heap.size]? = some (.cells #[sl, .int .i64 fl] 113 (0, 0)) ∧ DV (w3.setCell ⟨w.heap.size, 0, none⟩ (.slice A1 L1 c1)) p N m A c mb x (some i) ∧
      Row (w3.setCell ⟨w.heap.size, 0, none⟩ (.slice A1 L1 c1)) (p + 1) 5 (.slice A1 (m.firm i ++ (m.soft i ++ s)).length c1) (m.firm i ++ (m.soft i ++ s)).length (vals (m.firm i ++ (m.soft i ++ s))) ∧
      Only (fun q => ∃ y, A i = some y ∧ y.block = q) w (w3.setCell ⟨w.heap.size, 0, none⟩ (.slice A1 L1 c1)) ∧
      ∀ y, A1 = some y → (∃ z, A i = some z ∧ z.block = y.block) ∨ w.heap.size ≤ y.block := by
  subst hL hn hx
  have hlt : ∀ g, (sv m A c i).ownBlock = some g → ∃ z, A i = some z ∧ z.block = g := own_block m A c i
  have hF : w3.heap[w.heap.size]? = some (.cells #[sl, .int .i64 fl] 113 (0, 0)) := by
    rw [hg.block w.heap.size (by simp) fun e => ?_]
    · exact heap_alloc_new w _
    · obtain ⟨z, hz, hzb⟩ := hlt _ e.symm
      have := (h.rows i z hz).2
      omega
  have ho : Only (fun q => ∃ y, A i = some y ∧ y.block = q) w (w3.setCell ⟨w.heap.size, 0, none⟩ (.slice A1 (m.firm i ++ (m.soft i ++ s)).length c1)) :=
    (((Only.refl (fun q => ∃ y, A i = some y ∧ y.block = q) w).alloc _).grown hg (fun g e => .inr (hlt g e))).setCell (a := ⟨w.heap.size, 0, none⟩) (.inl (Nat.le_refl _)) _
  have hnew : ∀ y, A1 = some y → (∃ z, A i = some z ∧ z.block = y.block) ∨ w.heap.size + 1 ≤ y.block := by
    intro y hy
    subst hy
    rcases hat with e | e
    · obtain ⟨z, hz, hzb⟩ := hlt y.block (by rw [← e]; rfl)
      exact .inl ⟨z, hz, hzb⟩
    · simp only [Value.ownBlock, Option.some.injEq] at e
      rw [e]
      right
      simp
  refine ⟨hF, ?_, ?_, ho, fun y hy => (hnew y hy).imp id (by omega)⟩
  · refine keepBut (h.but i) ho ?_ ?_ ?_
    · rintro ⟨y, hy, e⟩
      have := (h.rows i y hy).1
      omega
    · rintro b hb ⟨y, hy, e⟩
      exact foot_row h hy b hb (by simp) e
    · rintro j a hj ha ⟨y, hy, e⟩
      exact h.apart i j y a (by omega) hy ha e
  · refine (only_set w3 w.heap.size 0 _).row hown fun g hgg => ?_
    obtain ⟨y, hy, rfl⟩ := blk_of hgg
    rcases hnew y hy with ⟨z, hz, hzb⟩ | hy'
    · have := (h.rows i z hz).2
      omega
    · omega
theorem info8 : (Tryz.prog.info? 5).map (fun i => (i.zero, i.size, i.bytes)) = some (some (.int .u8 0), 1, 1) := by kernel_rfl

set_option maxRecDepth 100000 in
theorem append_no (n : Int) (s : ByteArray) (h : DV w p N m A c mb x none) (hn : ¬ (0 ≤ n ∧ n < 16)) :
    Calls Tryz.prog 92 #[.pointer (some ⟨p, 0, none⟩), .int .i64 n, .string s] w (LeavesD w p (N + 1) (1, m) A mb) := by
  go_enter Tryz.func92, Tryz.ntmps92
  go_wp2_with fail
  refine (file_no n _ hn).mono ?_
  rintro e w1 ⟨rfl, rfl⟩
  go_wp2
  go_ret
  exact ⟨rfl, After.still h (Below.refl _ _)⟩
set_option maxRecDepth 100000 in
theorem append_off (n : Int) (s : ByteArray) (h : DV w p N m A c mb x none) (hn : 0 ≤ n ∧ n < 16) (hoff : m.off = true) :
    Calls Tryz.prog 92 #[.pointer (some ⟨p, 0, none⟩), .int .i64 n, .string s] w (LeavesD w p (N + 1) (10, m) A mb) := by
  have HO := Lib.hid hoff
  clear hoff
  go_enter Tryz.func92, Tryz.ntmps92
  go_wp2_with fail
  refine (file_yes n _ hn).mono ?_
  rintro e w1 ⟨rfl, rfl⟩
  go_wp2_with fail
  refine (off_hid true h HO).mono ?_
  rintro e w1 ⟨rfl, rfl⟩
  go_wp2
  go_ret
  exact ⟨rfl, After.still h (Below.refl _ _)⟩
set_option maxRecDepth 100000 in
theorem append_full (n : Int) (s : ByteArray) (h : DV w p N m A c mb x none) (g : Fine m) (hn : 0 ≤ n ∧ n < 16) (hoff : m.off = false) (hf : m.room < m.used + s.size) :
    Calls Tryz.prog 92 #[.pointer (some ⟨p, 0, none⟩), .int .i64 n, .string s] w (LeavesD w p (N + 1) (11, m) A mb) := by
  have HO := Lib.hid hoff
  have hgt : (m.room : Int) - (m.used : Int) < (s.size : Int) := by omega
  have hgb : decide ((m.room : Int) - (m.used : Int) < (s.size : Int)) = true := decide_eq_true hgt
  clear hoff hf
  go_enter Tryz.func92, Tryz.ntmps92
  go_wp2_with fail
  refine (file_yes n _ hn).mono ?_
  rintro e w1 ⟨rfl, rfl⟩
  go_wp2_with fail
  refine (off_hid false h HO).mono ?_
  rintro e w1 ⟨rfl, rfl⟩
  go_wp2_with fail
  refine (free_any h g).mono ?_
  rintro e w1 ⟨rfl, hb1⟩
  go_wp2
  go_ret
  exact ⟨rfl, After.still h hb1⟩
set_option maxRecDepth 100000 in
theorem append_dry (n : Int) (s : ByteArray) (h : DV w p N m A c mb x none) (g : Fine m) (hn : 0 ≤ n ∧ n < 16) (hoff : m.off = false) (hf : ¬ m.room < m.used + s.size) (h0 : m.fuel = 0) :
    Calls Tryz.prog 92 #[.pointer (some ⟨p, 0, none⟩), .int .i64 n, .string s] w (LeavesD w p (N + 1) (10, m.dead) A mb) := by
  have HO := Lib.hid hoff
  have H0 := Lib.hid h0
  have hgt : ¬ (m.room : Int) - (m.used : Int) < (s.size : Int) := by omega
  have hgb : decide ((m.room : Int) - (m.used : Int) < (s.size : Int)) = false := decide_eq_false hgt
  clear hoff hf h0
  go_enter Tryz.func92, Tryz.ntmps92
  go_wp2_with fail
  refine (file_yes n _ hn).mono ?_
  rintro e w1 ⟨rfl, rfl⟩
  go_wp2_with fail
  refine (off_hid false h HO).mono ?_
  rintro e w1 ⟨rfl, rfl⟩
  go_wp2_with fail
  refine (free_any h g).mono ?_
  rintro e w1 ⟨rfl, hb1⟩
  go_wp2_with fail
  refine (step_dry (h.below hb1) H0.out).mono ?_
  rintro e w2 ⟨rfl, ht⟩
  go_wp2
  go_ret
  exact ⟨rfl, After.dry hb1 ht⟩
end
end Go.Proofs.YtamncdpeklbhlaaGreatDoor.DskWalkE
namespace Go.Proofs.YtamncdpeklbhlaaGreatDoor.DskWalkF
open Go.RowKit Go.Proofs.YtamncdpeklbhlaaGreatDoor.Kit Go.Proofs.YtamncdpeklbhlaaGreatDoor.Blocks Go.Proofs.YtamncdpeklbhlaaGreatDoor.Keys Go.Proofs.YtamncdpeklbhlaaGreatDoor.Model Go.Proofs.YtamncdpeklbhlaaGreatDoor.Disk Go.Proofs.YtamncdpeklbhlaaGreatDoor.DskWalkA Go.Proofs.YtamncdpeklbhlaaGreatDoor.DskWalkB Go.Proofs.YtamncdpeklbhlaaGreatDoor.DskWalkC Go.Proofs.YtamncdpeklbhlaaGreatDoor.DskWalkD Go.Proofs.YtamncdpeklbhlaaGreatDoor.DskWalkE

section
variable {w : World} {p N : Nat} {m : M} {A : Nat → Option Addr} {c : Nat → Nat} {mb : Option Nat} {x : Int}
set_option maxRecDepth 100000 in
set_option maxHeartbeats 1000000 in
theorem append_ok (i : Nat) (s : ByteArray) (h : DV w p N m A c mb x none) (g : Fine m) (hN : N < 1000000) (hi16 : i < 16) (hoff : m.off = false) (hf : ¬ m.room < m.used + s.size) (h0 : ¬ m.fuel = 0) :
    Calls Tryz.prog 92 #[.pointer (some ⟨p, 0, none⟩), .int .i64 (i : Int), .string s] w (LeavesD w p (N + 1) (0, m.burnt.set i (m.firm i) (m.soft i ++ s.data.toList) true) A mb) := by
  obtain ⟨i0, hi0, hz0, hz1, hz2⟩ := info_parts info8
  have HO := Lib.hid hoff
  have H0 := Lib.hid h0
  have hgt : ¬ (m.room : Int) - (m.used : Int) < (s.size : Int) := by omega
  have hgb : decide ((m.room : Int) - (m.used : Int) < (s.size : Int)) = false := decide_eq_false hgt
  have hrm := g.room
  have hlu := len_le_used m (i := i) (by omega)
  have hlen : m.len i + s.size ≤ 1048576 := by omega
  have hn : 0 ≤ (i : Int) ∧ (i : Int) < 16 := by omega
  have HN := Lib.hid hn
  clear hoff hf h0 hlu hrm hn
  go_enter Tryz.func92, Tryz.ntmps92
  go_wp2_with fail
  refine (file_yes (i : Int) _ HN.out).mono ?_
  rintro e w1 ⟨rfl, rfl⟩
  go_wp2_with fail
  refine (off_hid false h HO).mono ?_
  rintro e w1 ⟨rfl, rfl⟩
  go_wp2_with fail
  refine (free_any h g).mono ?_
  rintro e w1 ⟨rfl, hb1⟩
  go_wp2_with fail
  refine (step_wet (h.below hb1) H0.out).mono ?_
  rintro e w2 ⟨rfl, x2, h2, ho2⟩
  have hrun := look_one h2 g.burnt (Below.refl _ _) (n := (i : Int)) HN.out
  have hb : m.burnt.all i = m.all i := rfl
  have hb2 : m.burnt.firm i = m.firm i := rfl
  simp only [Int.toNat_natCast, hb, hb2, all_length] at hrun
  have hc3 := h2.c3
  have hpl := h2.lt
  have hown := h2.own i (by simp)
  simp only [sv, hb, all_length] at hown
  obtain ⟨L, hL⟩ : ∃ L, m.len i = L := ⟨_, rfl⟩
  obtain ⟨F, hF⟩ : ∃ F, (m.firm i).length = F := ⟨_, rfl⟩
  obtain ⟨a, ha⟩ : ∃ a, A i = a := ⟨_, rfl⟩
  obtain ⟨k, hk⟩ : ∃ k, c i = k := ⟨_, rfl⟩
  rw [hL, hF, ha, hk] at hrun
  rw [hL, ha, hk] at hown
  rw [hL] at hlen
  have HL := Lib.hid hL
  have HF := Lib.hid hF
  have HA := Lib.hid ha
  have HK := Lib.hid hk
  have hsv : sv m.burnt A c i = .slice a L k := by
    have e : m.burnt.all i = m.all i := rfl
    simp only [sv, e, all_length, hL, ha, hk]
  have HSV := Lib.hid hsv
  have hxs : vals (m.all i) ++ vals s.data.toList = vals (m.burnt.firm i ++ (m.burnt.soft i ++ s.data.toList)) := by rw [← List.append_assoc, vals_append]; rfl
  have hxl : L + s.size = (m.burnt.firm i ++ (m.burnt.soft i ++ s.data.toList)).length := by
    rw [← hL, ← List.append_assoc, List.length_append, ← all_length]
    rfl
  have HXS := Lib.hid hxs
  have HXL := Lib.hid hxl
  clear hL hF ha hk hb hb2 hsv hxs hxl
  have hm1 : L + s.size ≤ maxLen := by unfold maxLen; omega
  have hs1 : L + s.size ≤ 140737488355328 := by omega
  have hB : ∀ o, p + 1 ≤ (w2.alloc o).heap.size := fun o => by simp; omega
  go_wp2_with (first
    | (at_builtin
       refine wpList_append_row _ rfl (.tmp 28) (.tmp 29) _ _ rfl (p + 1) 5 i0 Tryz.underlying111 Tryz.underlying9 hi0 hz0 hz1 hz2 (.slice a L k) L (vals (m.all i)) rfl (hown.alloc _) s rfl hm1 hs1 (hB _) ?_
       intro A1 c1 w3 hown3 hg3 hat3
       have hg' : (w2.alloc (.cells #[.slice a L k, .int .i64 (F : Int)] 113)).grownBy w3 (sv m.burnt A c i).ownBlock := by rw [HSV.out]; exact hg3
       have hat' : (Value.slice A1 (L + s.size) c1).ownBlock = (sv m.burnt A c i).ownBlock ∨ (Value.slice A1 (L + s.size) c1).ownBlock = some (w2.alloc (.cells #[.slice a L k, .int .i64 (F : Int)] 113)).heap.size := by rw [HSV.out]; exact hat3
       obtain ⟨hF3, h4, hown4, ho4, hnew4⟩ := grown_file h2 hown3 HXL.out HXS.out rfl hg' hat'
       have hc30 : w3.cell? ⟨w2.heap.size, 0, none⟩ = some (.slice a L k) := by rw [cell_at hF3]; rfl
       have hc31 : w3.cell? ⟨w2.heap.size, 1, none⟩ = some (.int .i64 (F : Int)) := by rw [cell_at hF3]; rfl
       have hf30 := free_at hF3 0
       have hlt3 := lt_at hF3
       clear hg' hat' hown3 hg3 hat3 hF3))
  refine (put_any h4 hN i hi16 (fun j hj => by cases hj; rfl) _ _ A1 c1 hown4 ?_ _ _ _ rfl ?_ ?_).mono ?_
  · intro y hy j z hj hz
    rcases hnew4 y hy with ⟨z', hz', e⟩ | e
    · rw [← e]
      exact h2.apart i j z' z (fun e => hj e.symm) hz' hz
    · have := (h2.rows j z hz).2
      omega
  · rw [← HF.out]; rfl
  · exact HXL.out
  · rintro e w5 ⟨rfl, A', c', mb', x', h5, ho5, hf5⟩
    have hsz := ho4.size
    have hs2 := ho2.size
    have hs1 := hb1.size
    go_wp2
    go_ret
    refine ⟨rfl, A', c', mb', x', h5, (Only.of_below hb1).trans ((ho2.mono fun q _ hq => .inl hq).trans ((ho4.mono fun q _ hq => .inr (.inr ⟨i, hq⟩)).trans ho5)), fun q hq => ?_⟩
    rcases hf5 q hq with h1 | h1 | ⟨y, hy, rfl⟩
    · exact .inl h1
    · exact .inr (by omega)
    · rcases hnew4 y hy with ⟨z, hz, e⟩ | e
      · exact .inl (.inr (.inr ⟨i, z, hz, e⟩))
      · exact .inr (by omega)

theorem append_any (n : Int) (s : ByteArray) (h : DV w p N m A c mb x none) (g : Fine m) (hN : N < 1000000) :
    Calls Tryz.prog 92 #[.pointer (some ⟨p, 0, none⟩), .int .i64 n, .string s] w (LeavesD w p (N + 1) (m.append n s.data.toList) A mb) := by
  have hs : s.data.toList.length = s.size := by rw [Lib.size_eq]
  unfold M.append
  rw [hs]
  by_cases hn : 0 ≤ n ∧ n < 16
  · rw [if_neg (by simpa using hn)]
    by_cases hoff : m.off = true
    · rw [if_pos hoff]
      exact append_off n s h hn hoff
    · rw [if_neg hoff]
      have hoff' : m.off = false := by simpa using hoff
      by_cases hf : m.room < m.used + s.size
      · rw [if_pos hf]
        exact append_full n s h g hn hoff' hf
      · rw [if_neg hf]
        by_cases h0 : m.fuel = 0
        · rw [if_pos h0]
          exact append_dry n s h g hn hoff' hf h0
        · rw [if_neg h0]
          have hi := append_ok n.toNat s h g hN (by omega) hoff' hf h0
          rwa [show ((n.toNat : Nat) : Int) = n by omega] at hi
  · rw [if_pos hn]
    exact append_no n s h hn
end
end Go.Proofs.YtamncdpeklbhlaaGreatDoor.DskWalkF
namespace Go.Proofs.YtamncdpeklbhlaaGreatDoor.DskWalkG
open Go.RowKit Go.Proofs.YtamncdpeklbhlaaGreatDoor.Kit Go.Proofs.YtamncdpeklbhlaaGreatDoor.Blocks Go.Proofs.YtamncdpeklbhlaaGreatDoor.Keys Go.Proofs.YtamncdpeklbhlaaGreatDoor.Model Go.Proofs.YtamncdpeklbhlaaGreatDoor.Disk Go.Proofs.YtamncdpeklbhlaaGreatDoor.DskWalkA Go.Proofs.YtamncdpeklbhlaaGreatDoor.DskWalkB Go.Proofs.YtamncdpeklbhlaaGreatDoor.DskWalkC Go.Proofs.YtamncdpeklbhlaaGreatDoor.DskWalkD Go.Proofs.YtamncdpeklbhlaaGreatDoor.DskWalkE

section
variable {w : World} {p N : Nat} {m : M} {A : Nat → Option Addr} {c : Nat → Nat} {mb : Option Nat} {x : Int}
set_option maxRecDepth 100000 in
theorem sync_off (n : Int) (h : DV w p N m A c mb x none) (hoff : m.off = true) :
    Calls Tryz.prog 70 #[.pointer (some ⟨p, 0, none⟩), .int .i64 n] w (LeavesD w p (N + 1) (10, m) A mb) := by
  go_enter Tryz.func70, Tryz.ntmps70
  go_wp2_with fail
  refine (find_off n h hoff).mono ?_
  rintro e w1 ⟨rfl, hb1⟩
  go_wp2
  go_ret
  exact ⟨rfl, After.still h (hb1.alloc hb1.size _)⟩
set_option maxRecDepth 100000 in
theorem sync_none (n : Int) (h : DV w p N m A c mb x none) (hoff : m.off = false) (hn : m.has n = false) (h0 : -9223372036854775808 ≤ n) (h1 : n ≤ 9223372036854775807) :
    Calls Tryz.prog 70 #[.pointer (some ⟨p, 0, none⟩), .int .i64 n] w (LeavesD w p (N + 1) (12, m) A mb) := by
  go_enter Tryz.func70, Tryz.ntmps70
  go_wp2_with fail
  refine (find_none n h hoff hn h0 h1).mono ?_
  rintro e w1 ⟨rfl, hb1⟩
  go_wp2
  go_ret
  exact ⟨rfl, After.still h (hb1.alloc hb1.size _)⟩
set_option maxRecDepth 100000 in
theorem sync_dry (n : Int) (h : DV w p N m A c mb x none) (hoff : m.off = false) (hn : m.has n = true) (hf : m.fuel = 0) :
    Calls Tryz.prog 70 #[.pointer (some ⟨p, 0, none⟩), .int .i64 n] w (LeavesD w p (N + 1) (10, m.dead) A mb) := by
  have H0 := Lib.hid hf
  have hfind := find_yes n h hoff hn
  clear hf hoff hn
  go_enter Tryz.func70, Tryz.ntmps70
  go_wp2_with fail
  refine hfind.mono ?_
  rintro e w1 ⟨rfl, hb1⟩
  go_wp2_with fail
  refine (step_dry (h.below (hb1.alloc hb1.size _)) H0.out).mono ?_
  rintro e w2 ⟨rfl, ht⟩
  go_wp2
  go_ret
  exact ⟨rfl, After.dry (hb1.alloc hb1.size _) ht⟩
set_option maxRecDepth 100000 in
set_option maxHeartbeats 1000000 in
theorem sync_ok (i : Nat) (h : DV w p N m A c mb x none) (hN : N < 1000000) (hi16 : i < 16) (hoff : m.off = false) (hn : m.has (i : Int) = true) (hf : ¬ m.fuel = 0) :
    Calls Tryz.prog 70 #[.pointer (some ⟨p, 0, none⟩), .int .i64 (i : Int)] w (LeavesD w p (N + 1) (0, m.burnt.set i (m.all i) [] true) A mb) := by
  have H0 := Lib.hid hf
  have hfind := find_yes (i : Int) h hoff hn
  simp only [Int.toNat_natCast] at hfind
  obtain ⟨L, hL⟩ : ∃ L, (m.all i).length = L := ⟨_, rfl⟩
  obtain ⟨a, ha⟩ : ∃ a, A i = a := ⟨_, rfl⟩
  obtain ⟨k, hk⟩ : ∃ k, c i = k := ⟨_, rfl⟩
  obtain ⟨fl, hfl⟩ : ∃ fl : Int, ((m.firm i).length : Int) = fl := ⟨_, rfl⟩
  rw [hL, ha, hk, hfl] at hfind
  have HL := Lib.hid hL
  have HA := Lib.hid ha
  have HK := Lib.hid hk
  clear hf hoff hn hL ha hk hfl
  go_enter Tryz.func70, Tryz.ntmps70
  go_wp2_with fail
  refine hfind.mono ?_
  rintro e w1 ⟨rfl, hb1⟩
  go_wp2_with fail
  have hb2 := hb1.alloc hb1.size (.cells #[.slice a L k, .int .i64 fl] 113)
  have hF1 := heap_alloc_new w1 (.cells #[.slice a L k, .int .i64 fl] 113)
  have hs1 := hb1.size
  have hpl := h.lt
  refine (step_wet (h.below hb2) H0.out).mono ?_
  rintro e w2 ⟨rfl, x2, h2, ho2⟩
  have hF2 : w2.heap[w1.heap.size]? = some (.cells #[.slice a L k, .int .i64 fl] 113 (0, 0)) := ho2.heap hF1 (by omega)
  have hc20 : w2.cell? ⟨w1.heap.size, 0, none⟩ = some (.slice a L k) := by rw [cell_at hF2]; rfl
  have hc21 : w2.cell? ⟨w1.heap.size, 1, none⟩ = some (.int .i64 fl) := by rw [cell_at hF2]; rfl
  have hf21 := free_at hF2 1
  have hlt2 := lt_at hF2
  have ho3 := only_set w2 w1.heap.size 1 (.int .i64 (L : Int))
  have h3 := h2.keep ho3 (fun q hq => by have := h.foot_lt hq; omega)
  have hown3 := h3.own i (by simp)
  have HO := Lib.hid ho3
  clear hF1 hF2 ho3
  go_wp2_with fail
  refine (put_any h3 hN i hi16 (fun j hj => by cases hj) (m.all i) [] a k ?_ ?_ _ _ _ rfl ?_ ?_).mono ?_
  · rw [List.append_nil, ← HA.out, ← HK.out]
    exact hown3
  · intro y hy j z hj hz
    rw [← HA.out] at hy
    exact h3.apart i j y z (by omega) hy hz
  · rw [HL.out]
  · rw [List.append_nil, HL.out]
  · rintro e w5 ⟨rfl, A', c', mb', x', h5, ho5, hf5⟩
    have ho3 := HO.out
    have hs3 := ho3.size
    have hs2 := ho2.size
    have hs0 := hb2.size
    go_wp2
    go_ret
    refine ⟨rfl, A', c', mb', x', h5, (((Only.of_below hb2).trans' ho2 fun q hq => .inl (.inl hq)).trans' ho3 fun q hq => .inr (by omega)).trans' ho5 fun q hq => .inl hq, fun q hq => ?_⟩
    rcases hf5 q hq with h1 | h1 | ⟨y, hy, rfl⟩
    · exact .inl h1
    · exact .inr (by omega)
    · exact .inl (.inr (.inr ⟨i, y, by rw [HA.out]; exact hy, rfl⟩))
theorem sync_any (n : Int) (h : DV w p N m A c mb x none) (hN : N < 1000000) (h0 : -9223372036854775808 ≤ n) (h1 : n ≤ 9223372036854775807) :
    Calls Tryz.prog 70 #[.pointer (some ⟨p, 0, none⟩), .int .i64 n] w (LeavesD w p (N + 1) (m.sync n) A mb) := by
  unfold M.sync
  by_cases hoff : m.off = true
  · rw [if_pos hoff]
    exact sync_off n h hoff
  · rw [if_neg hoff]
    have hoff' : m.off = false := by simpa using hoff
    by_cases hn : m.has n = false
    · rw [if_pos hn]
      exact sync_none n h hoff' hn h0 h1
    · rw [if_neg hn]
      have hn' : m.has n = true := by simpa using hn
      by_cases hf : m.fuel = 0
      · rw [if_pos hf]
        exact sync_dry n h hoff' hn' hf
      · rw [if_neg hf]
        have hin := (has_in hn').1
        have hni : ((n.toNat : Nat) : Int) = n := by omega
        have := sync_ok n.toNat h hN (by omega) hoff' (by rw [hni]; exact hn') hf
        rwa [hni] at this

/-! ### Remove -/
end
end Go.Proofs.YtamncdpeklbhlaaGreatDoor.DskWalkG
namespace Go.Proofs.YtamncdpeklbhlaaGreatDoor.DskWalkH
open Go.RowKit Go.Proofs.YtamncdpeklbhlaaGreatDoor.Kit Go.Proofs.YtamncdpeklbhlaaGreatDoor.Blocks Go.Proofs.YtamncdpeklbhlaaGreatDoor.Keys Go.Proofs.YtamncdpeklbhlaaGreatDoor.Model Go.Proofs.YtamncdpeklbhlaaGreatDoor.Disk Go.Proofs.YtamncdpeklbhlaaGreatDoor.DskWalkA Go.Proofs.YtamncdpeklbhlaaGreatDoor.DskWalkB Go.Proofs.YtamncdpeklbhlaaGreatDoor.DskWalkC Go.Proofs.YtamncdpeklbhlaaGreatDoor.DskWalkD Go.Proofs.YtamncdpeklbhlaaGreatDoor.DskWalkE

section
variable {w : World} {p N : Nat} {m : M} {A : Nat → Option Addr} {c : Nat → Nat} {mb : Option Nat} {x : Int}
set_option maxRecDepth 100000 in
theorem replace_no (n : Int) (s : ByteArray) (h : DV w p N m A c mb x none) (hn : ¬ (0 ≤ n ∧ n < 16)) :
    Calls Tryz.prog 22 #[.pointer (some ⟨p, 0, none⟩), .int .i64 n, .string s] w (LeavesD w p (N + 1) (1, m) A mb) := by
  go_enter Tryz.func22, Tryz.ntmps22
  go_wp2_with fail
  refine (file_no n _ hn).mono ?_
  rintro e w1 ⟨rfl, rfl⟩
  go_wp2
  go_ret
  exact ⟨rfl, After.still h (Below.refl _ _)⟩
set_option maxRecDepth 100000 in
theorem replace_off (n : Int) (s : ByteArray) (h : DV w p N m A c mb x none) (hn : 0 ≤ n ∧ n < 16) (hoff : m.off = true) :
    Calls Tryz.prog 22 #[.pointer (some ⟨p, 0, none⟩), .int .i64 n, .string s] w (LeavesD w p (N + 1) (10, m) A mb) := by
  have HO := Lib.hid hoff
  clear hoff
  go_enter Tryz.func22, Tryz.ntmps22
  go_wp2_with fail
  refine (file_yes n _ hn).mono ?_
  rintro e w1 ⟨rfl, rfl⟩
  go_wp2_with fail
  refine (off_hid true h HO).mono ?_
  rintro e w1 ⟨rfl, rfl⟩
  go_wp2
  go_ret
  exact ⟨rfl, After.still h (Below.refl _ _)⟩
set_option maxRecDepth 100000 in
set_option maxHeartbeats 1000000 in
theorem replace_full (i : Nat) (s : ByteArray) (h : DV w p N m A c mb x none) (g : Fine m) (hi : i < 16) (hoff : m.off = false) (hf : m.room + m.len i < m.used + s.size) :
    Calls Tryz.prog 22 #[.pointer (some ⟨p, 0, none⟩), .int .i64 (i : Int), .string s] w (LeavesD w p (N + 1) (11, m) A mb) := by
  have HO := Lib.hid hoff
  have hr := g.room
  have hu := g.used
  have hl := len_le_used m hi
  have hgb : decide ((m.room : Int) - (m.used : Int) + (m.len i : Int) < (s.size : Int)) = true := decide_eq_true (by omega)
  have hw1 : IntKind.i64.wrap ((m.room : Int) - (m.used : Int) + (m.len i : Int)) = (m.room : Int) - (m.used : Int) + (m.len i : Int) := IntWalk.i64_in _ (by omega)
  have hc3 := h.c3
  have hlt := h.lt
  have hfree := free_any h.drew g
  have hrun0 := look_one h g ((Below.refl w.heap.size w).drew) (n := (i : Int)) (by omega)
  have hrunA : ∀ wA, Below w.heap.size w wA → (Instr.lookup 84 (.map mb) (.int .i64 (i : Int)) false).run Tryz.prog wA = .ok (.agg #[.slice (A i) (m.len i) (c i), .int .i64 ((m.firm i).length : Int)]) wA := fun wA hb => by
    have := look_one h g hb (n := (i : Int)) (by omega)
    simpa only [Int.toNat_natCast, all_length] using this
  simp only [Int.toNat_natCast, all_length] at hrun0
  have hfd := field0
  obtain ⟨R, hR⟩ : ∃ R : Int, (m.room : Int) - (m.used : Int) = R := ⟨_, rfl⟩
  obtain ⟨L, hL⟩ : ∃ L, m.len i = L := ⟨_, rfl⟩
  rw [hR] at hgb hw1 hfree
  rw [hL] at hgb hw1 hrun0 hrunA
  have HF := Lib.hid hfree
  have HR := Lib.hid hrunA
  have HG := Lib.hid hgb
  clear hfree hR hL hf hr hu hl hoff hrunA hgb
  have hn : 0 ≤ (i : Int) ∧ (i : Int) < 16 := by omega
  have HN := Lib.hid hn
  clear hn
  go_enter Tryz.func22, Tryz.ntmps22
  go_wp2_with fail
  refine (file_yes (i : Int) _ HN.out).mono ?_
  rintro e w1 ⟨rfl, rfl⟩
  go_wp2_with fail
  refine (off_hid false h HO).mono ?_
  rintro e w1 ⟨rfl, rfl⟩
  go_wp2_with fail
  go_region_held3 (fun w' => w'.cell? ⟨p, 3, none⟩ = some (.map mb) ∧ (Instr.lookup 84 (.map mb) (.int .i64 (i : Int)) false).run Tryz.prog w' = .ok (.agg #[.slice (A i) L (c i), .int .i64 ((m.firm i).length : Int)]) w')
    (first
      | exact ⟨hc3, hrun0⟩
      | exact ⟨(hBb.cell (p := ⟨p, 3, none⟩) hlt).trans hc3, HR.out _ (((Below.refl w.heap.size w).drew).trans hBb)⟩)
    (first
      | (go_at_call 59
         refine HF.out.mono ?_
         rintro e wA ⟨rfl, hBb⟩))
  all_goals have hgt := of_decide_eq_true HG.out
  all_goals go_wp2
  all_goals go_ret
  all_goals exact ⟨rfl, After.still h (((Below.refl w.heap.size w).drew).trans hBb)⟩
set_option maxRecDepth 100000 in
set_option maxHeartbeats 1000000 in
theorem replace_dry (i : Nat) (s : ByteArray) (h : DV w p N m A c mb x none) (g : Fine m) (hi : i < 16) (hoff : m.off = false) (hf : ¬ m.room + m.len i < m.used + s.size) (h0 : m.fuel = 0) :
    Calls Tryz.prog 22 #[.pointer (some ⟨p, 0, none⟩), .int .i64 (i : Int), .string s] w (LeavesD w p (N + 1) (10, m.dead) A mb) := by
  have H0 := Lib.hid h0
  clear h0
  have HO := Lib.hid hoff
  have hr := g.room
  have hu := g.used
  have hl := len_le_used m hi
  have hgb : decide ((m.room : Int) - (m.used : Int) + (m.len i : Int) < (s.size : Int)) = false := decide_eq_false (by omega)
  have hw1 : IntKind.i64.wrap ((m.room : Int) - (m.used : Int) + (m.len i : Int)) = (m.room : Int) - (m.used : Int) + (m.len i : Int) := IntWalk.i64_in _ (by omega)
  have hc3 := h.c3
  have hlt := h.lt
  have hfree := free_any h.drew g
  have hrun0 := look_one h g ((Below.refl w.heap.size w).drew) (n := (i : Int)) (by omega)
  have hrunA : ∀ wA, Below w.heap.size w wA → (Instr.lookup 84 (.map mb) (.int .i64 (i : Int)) false).run Tryz.prog wA = .ok (.agg #[.slice (A i) (m.len i) (c i), .int .i64 ((m.firm i).length : Int)]) wA := fun wA hb => by
    have := look_one h g hb (n := (i : Int)) (by omega)
    simpa only [Int.toNat_natCast, all_length] using this
  simp only [Int.toNat_natCast, all_length] at hrun0
  have hfd := field0
  obtain ⟨R, hR⟩ : ∃ R : Int, (m.room : Int) - (m.used : Int) = R := ⟨_, rfl⟩
  obtain ⟨L, hL⟩ : ∃ L, m.len i = L := ⟨_, rfl⟩
  rw [hR] at hgb hw1 hfree
  rw [hL] at hgb hw1 hrun0 hrunA
  have HF := Lib.hid hfree
  have HR := Lib.hid hrunA
  have HG := Lib.hid hgb
  clear hfree hR hL hf hr hu hl hoff hrunA hgb
  have hn : 0 ≤ (i : Int) ∧ (i : Int) < 16 := by omega
  have HN := Lib.hid hn
  clear hn
  go_enter Tryz.func22, Tryz.ntmps22
  go_wp2_with fail
  refine (file_yes (i : Int) _ HN.out).mono ?_
  rintro e w1 ⟨rfl, rfl⟩
  go_wp2_with fail
  refine (off_hid false h HO).mono ?_
  rintro e w1 ⟨rfl, rfl⟩
  go_wp2_with fail
  go_region_held3 (fun w' => w'.cell? ⟨p, 3, none⟩ = some (.map mb) ∧ (Instr.lookup 84 (.map mb) (.int .i64 (i : Int)) false).run Tryz.prog w' = .ok (.agg #[.slice (A i) L (c i), .int .i64 ((m.firm i).length : Int)]) w')
    (first
      | exact ⟨hc3, hrun0⟩
      | exact ⟨(hBb.cell (p := ⟨p, 3, none⟩) hlt).trans hc3, HR.out _ (((Below.refl w.heap.size w).drew).trans hBb)⟩)
    (first
      | (go_at_call 59
         refine HF.out.mono ?_
         rintro e wA ⟨rfl, hBb⟩))
  all_goals have hgt := of_decide_eq_false HG.out
  all_goals go_wp2_with fail
  all_goals have hb1 := ((Below.refl w.heap.size w).drew).trans hBb
  all_goals (refine (step_dry (h.below hb1) H0.out).mono ?_)
  all_goals rintro e w2 ⟨rfl, ht⟩
  all_goals go_wp2
  all_goals go_ret
  all_goals exact ⟨rfl, After.dry hb1 ht⟩
set_option maxRecDepth 100000 in
set_option maxHeartbeats 1000000 in
theorem replace_ok (i : Nat) (s : ByteArray) (h : DV w p N m A c mb x none) (g : Fine m) (hN : N < 1000000) (hi : i < 16) (hoff : m.off = false) (hf : ¬ m.room + m.len i < m.used + s.size) (h0 : ¬ m.fuel = 0) :
    Calls Tryz.prog 22 #[.pointer (some ⟨p, 0, none⟩), .int .i64 (i : Int), .string s] w (LeavesD w p (N + 1) (0, m.burnt.set i s.data.toList [] true) A mb) := by
  have H0 := Lib.hid h0
  clear h0
  have hsl : s.size ≤ 2097152 := by have := g.room; have := len_le_used m hi; have := g.used; omega
  have hi16 := Lib.hid hi
  have HO := Lib.hid hoff
  have hr := g.room
  have hu := g.used
  have hl := len_le_used m hi
  have hgb : decide ((m.room : Int) - (m.used : Int) + (m.len i : Int) < (s.size : Int)) = false := decide_eq_false (by omega)
  have hw1 : IntKind.i64.wrap ((m.room : Int) - (m.used : Int) + (m.len i : Int)) = (m.room : Int) - (m.used : Int) + (m.len i : Int) := IntWalk.i64_in _ (by omega)
  have hc3 := h.c3
  have hlt := h.lt
  have hfree := free_any h.drew g
  have hrun0 := look_one h g ((Below.refl w.heap.size w).drew) (n := (i : Int)) (by omega)
  have hrunA : ∀ wA, Below w.heap.size w wA → (Instr.lookup 84 (.map mb) (.int .i64 (i : Int)) false).run Tryz.prog wA = .ok (.agg #[.slice (A i) (m.len i) (c i), .int .i64 ((m.firm i).length : Int)]) wA := fun wA hb => by
    have := look_one h g hb (n := (i : Int)) (by omega)
    simpa only [Int.toNat_natCast, all_length] using this
  simp only [Int.toNat_natCast, all_length] at hrun0
  have hfd := field0
  obtain ⟨R, hR⟩ : ∃ R : Int, (m.room : Int) - (m.used : Int) = R := ⟨_, rfl⟩
  obtain ⟨L, hL⟩ : ∃ L, m.len i = L := ⟨_, rfl⟩
  rw [hR] at hgb hw1 hfree
  rw [hL] at hgb hw1 hrun0 hrunA
  have HF := Lib.hid hfree
  have HR := Lib.hid hrunA
  have HG := Lib.hid hgb
  clear hfree hR hL hf hr hu hl hoff hrunA hgb
  have hn : 0 ≤ (i : Int) ∧ (i : Int) < 16 := by omega
  have HN := Lib.hid hn
  clear hn
  go_enter Tryz.func22, Tryz.ntmps22
  go_wp2_with fail
  refine (file_yes (i : Int) _ HN.out).mono ?_
  rintro e w1 ⟨rfl, rfl⟩
  go_wp2_with fail
  refine (off_hid false h HO).mono ?_
  rintro e w1 ⟨rfl, rfl⟩
  go_wp2_with fail
  go_region_held3 (fun w' => w'.cell? ⟨p, 3, none⟩ = some (.map mb) ∧ (Instr.lookup 84 (.map mb) (.int .i64 (i : Int)) false).run Tryz.prog w' = .ok (.agg #[.slice (A i) L (c i), .int .i64 ((m.firm i).length : Int)]) w')
    (first
      | exact ⟨hc3, hrun0⟩
      | exact ⟨(hBb.cell (p := ⟨p, 3, none⟩) hlt).trans hc3, HR.out _ (((Below.refl w.heap.size w).drew).trans hBb)⟩)
    (first
      | (go_at_call 59
         refine HF.out.mono ?_
         rintro e wA ⟨rfl, hBb⟩))
  all_goals have hgt := of_decide_eq_false HG.out
  all_goals go_wp2_with fail
  all_goals have hb1 := ((Below.refl w.heap.size w).drew).trans hBb
  all_goals (refine (step_wet (h.below hb1) H0.out).mono ?_)
  all_goals rintro e w2 ⟨rfl, x2, h2, ho2⟩
  all_goals have hpl := h2.lt
  all_goals obtain ⟨c1, w3, hcv, hrow, hb3⟩ := run_bytes_of (P := Tryz.prog) w2 9 111 5 s Tryz.underlying9 Tryz.underlying111 Tryz.underlying5 (by unfold maxLen; omega) (p + 1) (by omega)
  all_goals have HROW := Lib.hid hrow
  all_goals clear hrow
  all_goals go_wp2_with fail
  all_goals have hi' := hi16.out
  all_goals (refine (put_any (h2.below hb3) hN i hi' (fun j hj => by cases hj) s.data.toList [] (some ⟨w2.heap.size, 0, none⟩) c1 ?_ ?_ _ _ _ rfl ?_ ?_).mono ?_)
  all_goals first
    | (rw [List.append_nil, ← Lib.size_eq]; exact HROW.out)
    | (intro y hy j z hj hz; cases hy; have := (h2.rows j z hz).2; simp only []; omega)
    | (rw [← Lib.size_eq])
    | (rw [List.append_nil, ← Lib.size_eq])
    | skip
  all_goals rintro e w5 ⟨rfl, A', c', mb', x', h5, ho5, hf5⟩
  all_goals have hs1 := hb1.size
  all_goals have hs2 := ho2.size
  all_goals have hs3 := hb3.size
  all_goals go_wp2
  all_goals go_ret
  all_goals (refine ⟨rfl, A', c', mb', x', h5, (((Only.of_below hb1).trans' ho2 fun q hq => .inl (.inl hq)).trans (Only.of_below hb3)).trans' ho5 fun q hq => .inl hq, fun q hq => ?_⟩)
  all_goals (rcases hf5 q hq with h1 | h1 | ⟨y, hy, rfl⟩)
  all_goals first
    | exact .inl h1
    | exact .inr (by omega)
    | (cases hy; exact .inr (by simp only []; omega))
theorem replace_any (n : Int) (s : ByteArray) (h : DV w p N m A c mb x none) (g : Fine m) (hN : N < 1000000) :
    Calls Tryz.prog 22 #[.pointer (some ⟨p, 0, none⟩), .int .i64 n, .string s] w (LeavesD w p (N + 1) (m.replace n s.data.toList) A mb) := by
  have hs : s.data.toList.length = s.size := by rw [Lib.size_eq]
  unfold M.replace
  rw [hs]
  by_cases hn : 0 ≤ n ∧ n < 16
  · rw [if_neg (by simpa using hn)]
    have hni : ((n.toNat : Nat) : Int) = n := by omega
    by_cases hoff : m.off = true
    · rw [if_pos hoff]
      exact replace_off n s h hn hoff
    · rw [if_neg hoff]
      have hoff' : m.off = false := by simpa using hoff
      by_cases hf : m.room + m.len n.toNat < m.used + s.size
      · rw [if_pos hf]
        have := replace_full n.toNat s h g (by omega) hoff' hf
        rwa [hni] at this
      · rw [if_neg hf]
        by_cases h0 : m.fuel = 0
        · rw [if_pos h0]
          have := replace_dry n.toNat s h g (by omega) hoff' hf h0
          rwa [hni] at this
        · rw [if_neg h0]
          have := replace_ok n.toNat s h g hN (by omega) hoff' hf h0
          rwa [hni] at this
  · rw [if_pos hn]
    exact replace_no n s h hn
end
end Go.Proofs.YtamncdpeklbhlaaGreatDoor.DskWalkH
namespace Go.Proofs.YtamncdpeklbhlaaGreatDoor.DskWalkI
open Go.RowKit Go.Proofs.YtamncdpeklbhlaaGreatDoor.Kit Go.Proofs.YtamncdpeklbhlaaGreatDoor.Blocks Go.Proofs.YtamncdpeklbhlaaGreatDoor.Keys Go.Proofs.YtamncdpeklbhlaaGreatDoor.Model Go.Proofs.YtamncdpeklbhlaaGreatDoor.Disk Go.Proofs.YtamncdpeklbhlaaGreatDoor.DskWalkA Go.Proofs.YtamncdpeklbhlaaGreatDoor.DskWalkB Go.Proofs.YtamncdpeklbhlaaGreatDoor.DskWalkC Go.Proofs.YtamncdpeklbhlaaGreatDoor.DskWalkD Go.Proofs.YtamncdpeklbhlaaGreatDoor.DskWalkE

set_option maxRecDepth 100000 in
theorem new_no (r : Int) (w : World) (h : ¬ (0 ≤ r ∧ r ≤ 1048576)) : Calls Tryz.prog 8 #[.int .i64 r] w fun e w' => e = .returned (.tuple #[.pointer none, .int .i64 1]) ∧ w = w' := by
  by_cases h0 : r < 0
  · clear h
    go_enter Tryz.func8, Tryz.ntmps8
    go_wp2
    go_ret2
    exact ⟨rfl, rfl⟩
  · have h1 : 1048576 < r := by omega
    clear h
    go_enter Tryz.func8, Tryz.ntmps8
    go_wp2
    go_ret2
    exact ⟨rfl, rfl⟩
/-- What a call leaves that makes a disk. -/
def Fresh (w : World) (N : Nat) (m : M) (p : Nat) (w' : World) : Prop := w.heap.size ≤ p ∧ Below w.heap.size w w' ∧ ∃ A c mb x, DV w' p N m A c mb x none ∧ ∀ q, Foot p mb A q → w.heap.size ≤ q
def MadeD (w : World) (N : Nat) (m : M) (e : Ending) (w' : World) : Prop := ∃ p, e = .returned (.tuple #[.pointer (some ⟨p, 0, none⟩), .int .i64 0]) ∧ Fresh w N m p w'
theorem fresh_new (w : World) (r : Nat) : Fresh w 0 (M.new r) w.heap.size (w.alloc (.cells #[.int .i64 (r : Int), .int .i64 (-1), .bool false, .map none] 86)) := by
  refine ⟨Nat.le_refl _, (Below.refl _ _).alloc (Nat.le_refl _) _, fun _ => none, fun _ => 0, none, -1, ⟨heap_alloc_new w _, rfl, by omega, by omega, fun i => ?_, by simp, fun i _ => row_nil _ _ _, fun _ _ => ⟨rfl, rfl⟩, by simp, by simp⟩, ?_⟩
  · exact ent_no (by simp [M.has, M.new])
  · rintro q (rfl | h | ⟨i, a, h, _⟩)
    · exact Nat.le_refl _
    · cases h
    · cases h
set_option maxRecDepth 100000 in
theorem new_yes (r : Nat) (w : World) (h : r ≤ 1048576) : Calls Tryz.prog 8 #[.int .i64 (r : Int)] w (MadeD w 0 (M.new r)) := by
  have h1 : (r : Int) ≤ 1048576 := by omega
  have hf := fresh_new w r
  have HF := Lib.hid hf
  clear h hf
  go_enter Tryz.func8, Tryz.ntmps8
  go_wp2
  go_ret2
  exact ⟨_, rfl, HF.out⟩

/-! ### A disk that is none -/
set_option maxRecDepth 100000 in
theorem append_nil_no (n : Int) (s : ByteArray) (w : World) (hn : ¬ (0 ≤ n ∧ n < 16)) : Calls Tryz.prog 92 #[.pointer none, .int .i64 n, .string s] w fun e w' => e = .returned (.int .i64 1) ∧ w = w' := by
  go_enter Tryz.func92, Tryz.ntmps92
  go_wp2_with fail
  refine (file_no n _ hn).mono ?_
  rintro e w1 ⟨rfl, rfl⟩
  go_wp2
  go_ret
  exact ⟨rfl, rfl⟩
set_option maxRecDepth 100000 in
theorem append_nil_yes (n : Int) (s : ByteArray) (w : World) (hn : 0 ≤ n ∧ n < 16) : Calls Tryz.prog 92 #[.pointer none, .int .i64 n, .string s] w fun e w' => e = .returned (.int .i64 10) ∧ w = w' := by
  go_enter Tryz.func92, Tryz.ntmps92
  go_wp2_with fail
  refine (file_yes n _ hn).mono ?_
  rintro e w1 ⟨rfl, rfl⟩
  go_wp2_with fail
  refine (off_nil _).mono ?_
  rintro e w1 ⟨rfl, rfl⟩
  go_wp2
  go_ret
  exact ⟨rfl, rfl⟩
set_option maxRecDepth 100000 in
theorem replace_nil_no (n : Int) (s : ByteArray) (w : World) (hn : ¬ (0 ≤ n ∧ n < 16)) : Calls Tryz.prog 22 #[.pointer none, .int .i64 n, .string s] w fun e w' => e = .returned (.int .i64 1) ∧ w = w' := by
  go_enter Tryz.func22, Tryz.ntmps22
  go_wp2_with fail
  refine (file_no n _ hn).mono ?_
  rintro e w1 ⟨rfl, rfl⟩
  go_wp2
  go_ret
  exact ⟨rfl, rfl⟩
set_option maxRecDepth 100000 in
theorem replace_nil_yes (n : Int) (s : ByteArray) (w : World) (hn : 0 ≤ n ∧ n < 16) : Calls Tryz.prog 22 #[.pointer none, .int .i64 n, .string s] w fun e w' => e = .returned (.int .i64 10) ∧ w = w' := by
  go_enter Tryz.func22, Tryz.ntmps22
  go_wp2_with fail
  refine (file_yes n _ hn).mono ?_
  rintro e w1 ⟨rfl, rfl⟩
  go_wp2_with fail
  refine (off_nil _).mono ?_
  rintro e w1 ⟨rfl, rfl⟩
  go_wp2
  go_ret
  exact ⟨rfl, rfl⟩
set_option maxRecDepth 100000 in
theorem sync_nil (n : Int) (w : World) : Calls Tryz.prog 70 #[.pointer none, .int .i64 n] w (TellsD w 10) := by
  go_enter Tryz.func70, Tryz.ntmps70
  go_wp2_with fail
  refine (find_nil n _).mono ?_
  rintro e w1 ⟨rfl, hb1⟩
  go_wp2
  go_ret
  exact ⟨rfl, hb1.alloc hb1.size _⟩
set_option maxRecDepth 100000 in
theorem crash_nil (v : Value) (w : World) : Calls Tryz.prog 27 #[.pointer none, v] w fun e w' => e = .returned (.pointer none) ∧ w = w' := by
  go_enter Tryz.func27, Tryz.ntmps27
  go_wp2
  go_ret
  exact ⟨rfl, rfl⟩
end Go.Proofs.YtamncdpeklbhlaaGreatDoor.DskWalkI
namespace Go.Proofs.YtamncdpeklbhlaaGreatDoor.DskWalkJ
open Go.RowKit Go.Proofs.YtamncdpeklbhlaaGreatDoor.Kit Go.Proofs.YtamncdpeklbhlaaGreatDoor.Blocks Go.Proofs.YtamncdpeklbhlaaGreatDoor.Keys Go.Proofs.YtamncdpeklbhlaaGreatDoor.Model Go.Proofs.YtamncdpeklbhlaaGreatDoor.Disk Go.Proofs.YtamncdpeklbhlaaGreatDoor.DskWalkA Go.Proofs.YtamncdpeklbhlaaGreatDoor.DskWalkB Go.Proofs.YtamncdpeklbhlaaGreatDoor.DskWalkC Go.Proofs.YtamncdpeklbhlaaGreatDoor.DskWalkD Go.Proofs.YtamncdpeklbhlaaGreatDoor.DskWalkE Go.Proofs.YtamncdpeklbhlaaGreatDoor.DskWalkI

/-- What Clone leaves. -/
def Cloned (w : World) (l : List UInt8) (e : Ending) (w' : World) : Prop :=
  ∃ A c, e = .returned (.slice A l.length c) ∧ Row w' w.heap.size 5 (.slice A l.length c) l.length (vals l) ∧ Below w.heap.size w w'
set_option maxRecDepth 100000 in
set_option maxHeartbeats 1000000 in
theorem clone_any (A : Option Addr) (n c : Nat) (l : List UInt8) (w : World) (hr : Reads w w.heap.size 1 A n (vals l)) (hn : n ≤ 1048576) :
    Calls Tryz.prog 68 #[.slice A n c] w (Cloned w l) := by
  have hl := reads_len hr
  have qT : ∀ w, (binOp .eql 111 (.slice A n c) (.slice none 0 0)).run Tryz.prog w = .ok (.bool A.isNone) w := fun w => Go.Lib.run_eql_slice_nil w _ _ _ _ _ _ _ Tryz.underlying111
  cases A with
  | none =>
    have hn0 : n = 0 := by
      rcases Nat.eq_zero_or_pos n with h0 | h0
      · exact h0
      · obtain ⟨ad, h', _⟩ := hr.2 h0
        cases h'
    have hl0 : l = [] := List.eq_nil_of_length_eq_zero (by omega)
    subst hl0
    clear hl hn hr
    subst hn0
    go_enter Tryz.func68, Tryz.ntmps68
    go_wp2
    go_ret
    exact ⟨none, 0, rfl, row_nil _ _ _, Below.refl _ _⟩
  | some a =>
    obtain ⟨i0, hi0, hz0, hz1, hz2⟩ := info_parts info8
    have hm1 : 0 + n ≤ maxLen := by unfold maxLen; omega
    have hs1 : (0 + n) * 1 ≤ 140737488355328 := by omega
    have hBo : ∀ o, w.heap.size ≤ (w.alloc o).heap.size := fun o => by simp
    have hra : ∀ o, Reads (w.alloc o) w.heap.size 1 (some a) n (vals l) := fun o => hr.alloc (Nat.le_refl _) o
    have hown0 : (w.alloc (.cells #[] 5)).ownsRow w.heap.size 5 1 (.slice (some ⟨w.heap.size, 0, none⟩) 0 0) 0 [] :=
      ⟨rfl, .inr ⟨w.heap.size, 0, #[], rfl, Nat.le_refl _, heap_alloc_new w _, Nat.le_refl _, Nat.zero_le _, rfl, rfl⟩⟩
    have HL := Lib.hid hl
    clear hl
    go_enter Tryz.func68, Tryz.ntmps68
    go_wp2_with (first
      | (at_builtin
         refine wpList_append_any _ rfl (.tmp 5) (.tmp 6) _ rfl w.heap.size 5 i0 _ 1 1 Tryz.underlying111 hi0 hz0 hz1 hz2 rfl (by decide) _ 0 [] rfl hown0
           w.heap.size (some a) n c (vals l) rfl (hra _) (vals_one _) hm1 hs1 (hBo _) ?_
         intro v' w1 hown1 hg1 hat1))
    go_ret
    obtain ⟨A', c', rfl, _, _, _⟩ := own_form hown1
    have hr1 := own_cast hown1 (show 0 + n = l.length by have := HL.out; omega) (List.nil_append _)
    have hb1 : Below w.heap.size w w1 := ((Below.refl _ _).alloc (Nat.le_refl _) _).grown hg1 (by simp) (own_lt hown0)
    rw [show 0 + n = l.length by have := HL.out; omega] at hr1 ⊢
    exact ⟨A', c', rfl, Row.of_own hr1, hb1⟩

/-! ### Crash -/
def inums (l : List Int) : List Value := l.map (Value.int .i64)
theorem inums_length (l : List Int) : (inums l).length = l.length := by simp [inums]
theorem Reads.inum {w : World} {B n k : Nat} {A : Option Addr} {l : List Int} (h : Reads w B 1 A n (inums l)) (hk : k < n) : ∃ b o, A = some ⟨b, o, none⟩ ∧ b < B ∧ w.cell? ⟨b, o + k, none⟩ = some (.int .i64 (l.getD k 0)) := by
  obtain ⟨ad, u, rfl, hb, hx, hc⟩ := h.at_ hk
  have hs := h.spot (by omega)
  have hl : k < l.length := by have := h.len; rw [inums_length] at this; omega
  simp only [inums, List.getElem?_map, List.getElem?_eq_getElem hl, Option.map_some, Option.some.injEq] at hx
  subst hx
  refine ⟨ad.block, ad.off, by rw [← hs], hb, ?_⟩
  rw [hs, Addr.add_lit] at hc
  rw [hc]
  simp [List.getElem?_eq_getElem hl]
/-- While files are laid into the new disk: so many are done; of what there was in w1 only its own block is written. -/
def Mid (w1 : World) (po k : Nat) (o : M) (wr : World) : Prop := ∃ A c mb x, DV wr po k o A c mb x none ∧ (∀ q, Foot po mb A q → q = po ∨ w1.heap.size ≤ q) ∧ Only (fun q => q = po) w1 wr
theorem run_upto (A : Option Addr) (n c k : Nat) (hk : k ≤ c) (w : World) : (Instr.slice 111 (.slice A n c) none (some (.int .i64 (k : Int))) none).run Tryz.prog w = .ok (.slice A k c) w := by
  have ht' : Tryz.prog.underlying 111 = some (.slice (Tryz.prog.elem 111)) := by kernel_rfl
  rw [run_slice_h w 111 _ _ _ ht' .i64 _ (by omega) (by omega)]
  have hz : ∀ w, (Go.sizeOf (Tryz.prog.elem 111)).run Tryz.prog w = .ok 1 w := fun _ => by kernel_rfl
  rw [hz]
  cases A <;> simp [Result.andThen, sliced, Kit.add_zero]
/-- What is kept of a file. -/
theorem kept_at (m : M) (keep : List Int) (j : Nat) (h : j < keep.length) : ((m.firm j).length : Int) + min (max (keep.getD j 0) 0) ((m.soft j).length : Int) = ((m.left keep j).length : Int) := by
  rw [left_length]
  unfold M.kept
  rw [if_pos h]
  omega
theorem kept_past (m : M) (keep : List Int) (j : Nat) (h : ¬ j < keep.length) : (m.left keep j).length = (m.firm j).length := by
  rw [left_length]
  unfold M.kept
  rw [if_neg h]
  omega
theorem Mid.skip {w1 wr W : World} {po k : Nat} {o : M} (h : Mid w1 po k o wr) (hb : Below wr.heap.size wr W) : Mid w1 po (k + 1) o W := by
  obtain ⟨A, c, mb, x, hD, hf, ho⟩ := h
  exact ⟨A, c, mb, x, (hD.below hb).more (by omega), hf, ho.trans (Only.of_below hb)⟩
theorem Mid.put {w1 wr W w3 : World} {po k : Nat} {o o' : M} {A : Nat → Option Addr} {mb : Option Nat} {A1 : Option Addr} {e : Ending} (hf : ∀ q, Foot po mb A q → q = po ∨ w1.heap.size ≤ q) (ho : Only (fun q => q = po) w1 wr) (hb : Below wr.heap.size wr W)
    (hA : ∀ y, A1 = some y → wr.heap.size ≤ y.block) (hL : Laid W po (k + 1) o' A mb A1 e w3) (hfr : o = o') : Mid w1 po (k + 1) o w3 := by
  subst hfr
  obtain ⟨_, A', c', mb', x', h5, ho5, hf5⟩ := hL
  have hs1 := ho.size
  have hs2 := hb.size
  refine ⟨A', c', mb', x', h5, fun q hq => ?_, (ho.trans (Only.of_below hb)).trans' ho5 fun q hq => hf q hq⟩
  rcases hf5 q hq with h1 | h1 | ⟨y, hy, rfl⟩
  · exact hf q h1
  · exact .inr (by omega)
  · exact .inr (by have := hA y hy; omega)
section
variable {w : World} {p N : Nat} {m : M} {A : Nat → Option Addr} {c : Nat → Nat} {mb : Option Nat} {x : Int}
set_option maxRecDepth 100000 in
set_option maxHeartbeats 2000000 in
theorem crash_any (KA : Option Addr) (kn kc : Nat) (keep : List Int) (h : DV w p N m A c mb x none) (g : Fine m) (hk : Reads w w.heap.size 1 KA kn (inums keep)) :
    Calls Tryz.prog 27 #[.pointer (some ⟨p, 0, none⟩), .slice KA kn kc] w fun e w' => e = .returned (.pointer (some ⟨w.heap.size, 0, none⟩)) ∧ Fresh w 16 (m.crash keep) w.heap.size w' := by
  have hkl : keep.length = kn := by have := hk.len; rwa [inums_length] at this
  obtain ⟨_, hb0, A0, c0, mb0, x0, h0, hf0⟩ := fresh_new w m.room
  have hd0 := h.below hb0
  have hc0 := h.c0
  have hlt := h.lt
  go_enter Tryz.func27, Tryz.ntmps27
  go_wp2_with fail
  refine (files_any hd0).mono ?_
  rintro e w1 ⟨v, rfl, hown, hb1⟩
  have hln : m.files.length ≤ 16 := filesTo_le m 16
  obtain ⟨n, hn⟩ : ∃ n, m.files.length = n := ⟨_, rfl⟩
  rw [hn] at hown hln
  have hrw := own_lt hown
  obtain ⟨FA, fc, rfl, _, _, hr⟩ := own_form hown
  have HN := Lib.hid hn
  have hs1 := hb1.size
  have hs0 : (w.alloc (.cells #[.int .i64 (m.room : Int), .int .i64 (-1), .bool false, .map none] 86)).heap.size = w.heap.size + 1 := by simp
  have hmid0 : Mid w1 w.heap.size 0 (many m keep (m.files.take 0)) w1 := ⟨A0, c0, mb0, x0, h0.below hb1, fun q hq => by
    have h1 := hf0 q hq
    have h2 := h0.foot_lt hq
    omega, Only.refl _ _⟩
  have HS0 := Lib.hid hs0
  have HKL := Lib.hid hkl
  clear hown hn h0 hf0 hs0 hkl
  go_wp2
  go_loopw [22] (fun i wr => ∃ k : Nat, k ≤ n ∧ i = .int .i64 (k : Int) ∧ Mid w1 w.heap.size k (many m keep (m.files.take k)) wr) (fun i _ => n - (intOf i).toNat)
  case atStart => exact ⟨0, by omega, rfl, hmid0⟩
  case round =>
    obtain ⟨k, hkn, rfl, hmid⟩ := hrel
    by_cases hlk : k < n
    · obtain ⟨A', c', mb', x', hD, hfD, ho⟩ := hmid
      have hpo := hD.lt
      have hsw := ho.size
      have how : Only (fun q => q = w.heap.size) w wr := (Only.of_below (hb0.trans (hb1.mono hb0.size))).trans ho
      have hd := h.keep how (fun q hq => by have := h.foot_lt hq; omega)
      have hkr := how.reads hk (Nat.le_refl _) (fun q hq => by omega)
      have hfr : Reads wr w1.heap.size 1 FA n (nums m.files) := by
        refine ⟨hr.1, fun hn => ?_⟩
        obtain ⟨ad, e, hb, hcc⟩ := hr.2 hn
        refine ⟨ad, e, hb, fun j u hu => (ho.cell (by rw [block_of_add]; exact hb) ?_).trans (hcc j u hu)⟩
        rw [block_of_add]
        have h1 := hrw ad.block (by rw [e]; rfl)
        rw [HS0.out] at h1
        omega
      obtain ⟨b, o, j, rfl, hbl, hj, hcell⟩ := Reads.num hfr hlk
      obtain ⟨hj16, hjt⟩ := mem_files hj
      have hrun := look_one hd g (Below.refl _ _) (n := (j : Int)) (by omega)
      simp only [Int.toNat_natCast] at hrun
      have hc3 := hd.c3
      have hpl := hd.lt
      have hrow := hd.own j (by simp)
      have hmt := many_take m keep m.files k j hj
      have hall := all_le g j
      have hlt2 := left_take m keep j
      have hLF : (((m.all j).length : Nat) : Int) - ((m.firm j).length : Int) = ((m.soft j).length : Int) := by simp only [M.all, List.length_append]; omega
      have hkat := kept_at m keep j
      have hkpa := kept_past m keep j
      have hKL : (m.left keep j).length ≤ (m.all j).length := by rw [left_length, all_length]; have := kept_le keep j (m.soft j).length; unfold M.len; omega
      have hlc : (m.all j).length ≤ c j := by
        rcases hrow.2 with ⟨_, h0⟩ | ⟨g, cap, cur, fz, hv, _, _, _, h1, _⟩
        · omega
        · simp only [sv, Value.slice.injEq] at hv
          omega
      have hcl : ∀ W, Below wr.heap.size wr W → Calls Tryz.prog 68 #[.slice (A j) (m.left keep j).length (c j)] W (Cloned W (m.left keep j)) := fun W hW => by
        refine clone_any (A j) _ (c j) (m.left keep j) W ?_ (by omega)
        have h1 := Reads.of_row ((hd.below hW).own j (by simp))
        have h2 := h1.bytes_upto hKL
        rwa [← hlt2] at h2
      have hsK : stands m keep j = (decide (0 < (m.left keep j).length) || decide ((m.soft j).length = 0)) := by
        unfold stands
        congr 1
        · cases m.left keep j <;> simp
        · cases m.soft j <;> simp
      obtain ⟨fa, hfa⟩ : ∃ fa, A j = fa := ⟨_, rfl⟩
      obtain ⟨fcc, hfc⟩ : ∃ fcc, c j = fcc := ⟨_, rfl⟩
      obtain ⟨L, hL⟩ : ∃ L, (m.all j).length = L := ⟨_, rfl⟩
      obtain ⟨F, hF⟩ : ∃ F, (m.firm j).length = F := ⟨_, rfl⟩
      obtain ⟨S, hS⟩ : ∃ S, (m.soft j).length = S := ⟨_, rfl⟩
      obtain ⟨K, hK⟩ : ∃ K, (m.left keep j).length = K := ⟨_, rfl⟩
      rw [hfa, hfc, hL, hF] at hrun
      rw [hL, hF, hS] at hLF
      rw [hF, hS, hK] at hkat
      rw [hF, hK] at hkpa
      rw [hK, hL] at hKL
      rw [hfc, hL] at hlc
      rw [hL] at hall
      rw [hfa, hfc, hK] at hcl
      rw [hK, hS] at hsK
      have hup := run_upto fa L fcc K (by omega)
      have HMT := Lib.hid hmt
      have HK := Lib.hid hK
      have HCL := Lib.hid hcl
      have HSK := Lib.hid hsK
      have HROW := Lib.hid hrow
      have hbal : ∀ o, Below wr.heap.size wr (wr.alloc o) := fun o => (Below.refl _ _).alloc (Nat.le_refl _) o
      clear hmt hlt2 hfa hfc hL hF hS hK hcl hrow hj hsK
      by_cases hjk : j < kn
      · obtain ⟨kb, ko, rfl, hkb, hkc⟩ := Reads.inum hkr hjk
        have hkb' : kb < wr.heap.size := by have := how.size; omega
        have hkat' := hkat (by rw [HKL.out]; exact hjk)
        clear hkat hkpa
        obtain ⟨kx, hkx⟩ : ∃ kx, keep.getD j 0 = kx := ⟨_, rfl⟩
        rw [hkx] at hkc hkat'
        clear hkx
        obtain ⟨K0, hK0⟩ : ∃ K0, min (max kx 0) (S : Int) = K0 := ⟨_, rfl⟩
        rw [hK0] at hkat'
        by_cases hK1 : 0 < K
        · have hst := HSK.out
          rw [decide_eq_true hK1, Bool.true_or] at hst
          have hmt := HMT.out
          unfold one at hmt
          rw [if_pos hst] at hmt
          have HMT := Lib.hid hmt
          clear hmt hst
          go_wp2_with fail
          refine (HCL.out _ (hbal _)).mono ?_
          rintro e W2 ⟨A1, cc1, rfl, hrow1, hb2⟩
          have hbW := (hbal _).trans (hb2.mono (by simp))
          have hsW := hbW.size
          have hr1 : Row W2 (w.heap.size + 1) 5 (.slice A1 (m.left keep j ++ []).length cc1) (m.left keep j ++ []).length (vals (m.left keep j ++ [])) := by
            rw [List.append_nil]
            exact hrow1.lower (by simp; omega)
          have hA1 : ∀ y, A1 = some y → wr.heap.size ≤ y.block := fun y hy => by
            have h1 := (hrow1.lt y.block (by rw [hy]; rfl)).1
            simp at h1
            omega
          have hlen : (m.left keep j).length = (m.left keep j ++ []).length := by rw [List.append_nil]
          have HLEN := Lib.hid hlen
          have HR1 := Lib.hid hr1
          clear hrow1 hr1 hlen
          go_wp2_with fail
          refine (put_any (hD.below hbW) (by omega) j hj16 (fun j hj => by cases hj) (m.left keep j) [] A1 cc1 HR1.out ?_ _ _ _ rfl ?_ HLEN.out).mono ?_
          · intro y hy j' z _ hz
            have h1 := hA1 y hy
            have h2 := (hD.rows j' z hz).2
            omega
          · rw [HK.out]
          · rintro e w3 hL3
            have hM := Mid.put hfD ho hbW hA1 hL3 HMT.out
            obtain ⟨rfl, _⟩ := hL3
            go_wp2
            go_roundw
            case rel => exact ⟨k + 1, by omega, by go_num, hM⟩
            case measure => simp [intOf]; omega
        · by_cases hS0 : S = 0
          · have hst := HSK.out
            rw [decide_eq_true hS0, Bool.or_true] at hst
            have hSb : ((S : Int) == 0) = true := by simp [hS0]
            have HSZ := Lib.hid hS0
            clear hS0
            have hmt := HMT.out
            unfold one at hmt
            rw [if_pos hst] at hmt
            have HMT := Lib.hid hmt
            clear hmt hst
            go_wp2_with fail
            refine (HCL.out _ (hbal _)).mono ?_
            rintro e W2 ⟨A1, cc1, rfl, hrow1, hb2⟩
            have hbW := (hbal _).trans (hb2.mono (by simp))
            have hsW := hbW.size
            have hr1 : Row W2 (w.heap.size + 1) 5 (.slice A1 (m.left keep j ++ []).length cc1) (m.left keep j ++ []).length (vals (m.left keep j ++ [])) := by
              rw [List.append_nil]
              exact hrow1.lower (by simp; omega)
            have hA1 : ∀ y, A1 = some y → wr.heap.size ≤ y.block := fun y hy => by
              have h1 := (hrow1.lt y.block (by rw [hy]; rfl)).1
              simp at h1
              omega
            have hlen : (m.left keep j).length = (m.left keep j ++ []).length := by rw [List.append_nil]
            have HLEN := Lib.hid hlen
            have HR1 := Lib.hid hr1
            clear hrow1 hr1 hlen
            go_wp2_with fail
            refine (put_any (hD.below hbW) (by omega) j hj16 (fun j hj => by cases hj) (m.left keep j) [] A1 cc1 HR1.out ?_ _ _ _ rfl ?_ HLEN.out).mono ?_
            · intro y hy j' z _ hz
              have h1 := hA1 y hy
              have h2 := (hD.rows j' z hz).2
              omega
            · rw [HK.out]
            · rintro e w3 hL3
              have hM := Mid.put hfD ho hbW hA1 hL3 HMT.out
              obtain ⟨rfl, _⟩ := hL3
              go_wp2
              go_roundw
              case rel => exact ⟨k + 1, by omega, by go_num, hM⟩
              case measure => simp [intOf]; omega
          · have hst := HSK.out
            rw [decide_eq_false hS0, decide_eq_false hK1] at hst
            have hSb : ((S : Int) == 0) = false := by simpa using hS0
            have hmt := HMT.out
            unfold one at hmt
            rw [if_neg (by rw [hst]; decide)] at hmt
            have HMT := Lib.hid hmt
            clear hmt hst hS0
            go_wp2_with fail
            go_roundw
            case rel => exact ⟨k + 1, by omega, by go_num, by rw [HMT.out]; exact Mid.skip ⟨_, _, _, _, hD, hfD, ho⟩ (hbal _)⟩
            case measure => simp [intOf]; omega
      · have hFK := hkpa (by rw [HKL.out]; exact hjk)
        clear hkat hkpa
        subst hFK
        by_cases hK1 : 0 < K
        · have hst := HSK.out
          rw [decide_eq_true hK1, Bool.true_or] at hst
          have hmt := HMT.out
          unfold one at hmt
          rw [if_pos hst] at hmt
          have HMT := Lib.hid hmt
          clear hmt hst
          go_wp2_with fail
          refine (HCL.out _ (hbal _)).mono ?_
          rintro e W2 ⟨A1, cc1, rfl, hrow1, hb2⟩
          have hbW := (hbal _).trans (hb2.mono (by simp))
          have hsW := hbW.size
          have hr1 : Row W2 (w.heap.size + 1) 5 (.slice A1 (m.left keep j ++ []).length cc1) (m.left keep j ++ []).length (vals (m.left keep j ++ [])) := by
            rw [List.append_nil]
            exact hrow1.lower (by simp; omega)
          have hA1 : ∀ y, A1 = some y → wr.heap.size ≤ y.block := fun y hy => by
            have h1 := (hrow1.lt y.block (by rw [hy]; rfl)).1
            simp at h1
            omega
          have hlen : (m.left keep j).length = (m.left keep j ++ []).length := by rw [List.append_nil]
          have HLEN := Lib.hid hlen
          have HR1 := Lib.hid hr1
          clear hrow1 hr1 hlen
          go_wp2_with fail
          refine (put_any (hD.below hbW) (by omega) j hj16 (fun j hj => by cases hj) (m.left keep j) [] A1 cc1 HR1.out ?_ _ _ _ rfl ?_ HLEN.out).mono ?_
          · intro y hy j' z _ hz
            have h1 := hA1 y hy
            have h2 := (hD.rows j' z hz).2
            omega
          · rw [HK.out]
          · rintro e w3 hL3
            have hM := Mid.put hfD ho hbW hA1 hL3 HMT.out
            obtain ⟨rfl, _⟩ := hL3
            go_wp2
            go_roundw
            case rel => exact ⟨k + 1, by omega, by go_num, hM⟩
            case measure => simp [intOf]; omega
        · by_cases hS0 : S = 0
          · have hst := HSK.out
            rw [decide_eq_true hS0, Bool.or_true] at hst
            have hSb : ((S : Int) == 0) = true := by simp [hS0]
            have HSZ := Lib.hid hS0
            clear hS0
            have hmt := HMT.out
            unfold one at hmt
            rw [if_pos hst] at hmt
            have HMT := Lib.hid hmt
            clear hmt hst
            go_wp2_with fail
            refine (HCL.out _ (hbal _)).mono ?_
            rintro e W2 ⟨A1, cc1, rfl, hrow1, hb2⟩
            have hbW := (hbal _).trans (hb2.mono (by simp))
            have hsW := hbW.size
            have hr1 : Row W2 (w.heap.size + 1) 5 (.slice A1 (m.left keep j ++ []).length cc1) (m.left keep j ++ []).length (vals (m.left keep j ++ [])) := by
              rw [List.append_nil]
              exact hrow1.lower (by simp; omega)
            have hA1 : ∀ y, A1 = some y → wr.heap.size ≤ y.block := fun y hy => by
              have h1 := (hrow1.lt y.block (by rw [hy]; rfl)).1
              simp at h1
              omega
            have hlen : (m.left keep j).length = (m.left keep j ++ []).length := by rw [List.append_nil]
            have HLEN := Lib.hid hlen
            have HR1 := Lib.hid hr1
            clear hrow1 hr1 hlen
            go_wp2_with fail
            refine (put_any (hD.below hbW) (by omega) j hj16 (fun j hj => by cases hj) (m.left keep j) [] A1 cc1 HR1.out ?_ _ _ _ rfl ?_ HLEN.out).mono ?_
            · intro y hy j' z _ hz
              have h1 := hA1 y hy
              have h2 := (hD.rows j' z hz).2
              omega
            · rw [HK.out]
            · rintro e w3 hL3
              have hM := Mid.put hfD ho hbW hA1 hL3 HMT.out
              obtain ⟨rfl, _⟩ := hL3
              go_wp2
              go_roundw
              case rel => exact ⟨k + 1, by omega, by go_num, hM⟩
              case measure => simp [intOf]; omega
          · have hst := HSK.out
            rw [decide_eq_false hS0, decide_eq_false hK1] at hst
            have hSb : ((S : Int) == 0) = false := by simpa using hS0
            have hmt := HMT.out
            unfold one at hmt
            rw [if_neg (by rw [hst]; decide)] at hmt
            have HMT := Lib.hid hmt
            clear hmt hst hS0
            go_wp2_with fail
            go_roundw
            case rel => exact ⟨k + 1, by omega, by go_num, by rw [HMT.out]; exact Mid.skip ⟨_, _, _, _, hD, hfD, ho⟩ (hbal _)⟩
            case measure => simp [intOf]; omega
    · obtain rfl : k = n := by omega
      have ht : m.files.take k = m.files := List.take_of_length_le (by rw [HN.out]; exact Nat.le_refl _)
      rw [ht, many_files g] at hmid
      clear ht
      go_wp2
      go_ret
      obtain ⟨A', c', mb', x', h', hf', ho'⟩ := hmid
      have hsz0 := hb0.size
      have hsz1 : w.heap.size ≤ w1.heap.size := Nat.le_trans hsz0 hs1
      refine ⟨rfl, Nat.le_refl _, (hb0.trans (hb1.mono hsz0)).trans (ho'.below hsz1 (fun q hq => by omega)), A', c', mb', x', h'.more hln, fun q hq => ?_⟩
      have := hf' q hq
      omega
end
end Go.Proofs.YtamncdpeklbhlaaGreatDoor.DskWalkJ
namespace Go.Proofs.YtamncdpeklbhlaaGreatDoor.Ops
open Go.RowKit Go.Proofs.YtamncdpeklbhlaaGreatDoor.Kit Go.Proofs.YtamncdpeklbhlaaGreatDoor.Blocks Go.Proofs.YtamncdpeklbhlaaGreatDoor.Keys Go.Proofs.YtamncdpeklbhlaaGreatDoor.Model Go.Proofs.YtamncdpeklbhlaaGreatDoor.Disk Go.Proofs.YtamncdpeklbhlaaGreatDoor.DskWalkA Go.Proofs.YtamncdpeklbhlaaGreatDoor.DskWalkB Go.Proofs.YtamncdpeklbhlaaGreatDoor.DskWalkC Go.Proofs.YtamncdpeklbhlaaGreatDoor.DskWalkD Go.Proofs.YtamncdpeklbhlaaGreatDoor.DskWalkE Go.Proofs.YtamncdpeklbhlaaGreatDoor.DskWalkF Go.Proofs.YtamncdpeklbhlaaGreatDoor.DskWalkG Go.Proofs.YtamncdpeklbhlaaGreatDoor.DskWalkH Go.Proofs.YtamncdpeklbhlaaGreatDoor.DskWalkI Go.Proofs.YtamncdpeklbhlaaGreatDoor.DskWalkJ

/-- Block p is the disk m; its blocks lie from B on and are none of L. -/
structure Has (B : Nat) (L : List Nat) (w : World) (p N : Nat) (m : M) : Prop where
  fine : Fine m
  low : B ≤ w.heap.size
  old : ∀ b ∈ L, b < w.heap.size
  disk : ∃ A c mb x, DV w p N m A c mb x none ∧ ∀ q, Foot p mb A q → B ≤ q ∧ q ∉ L
/-- What lies below B, and what is of L, is as it was. -/
def Keeps (B : Nat) (L : List Nat) (w w' : World) : Prop := Only (fun q => B ≤ q ∧ q ∉ L) w w'

section
variable {B : Nat} {L L' : List Nat} {w w' w'' : World} {p N : Nat} {m m' : M}
theorem Keeps.refl (B : Nat) (L : List Nat) (w : World) : Keeps B L w w := Only.refl _ w
theorem Keeps.trans (h : Keeps B L w w') (k : Keeps B L w' w'') : Keeps B L w w'' := Only.trans h k
theorem Keeps.of_below (h : Below w.heap.size w w') : Keeps B L w w' := Only.of_below h
theorem Keeps.below (h : Keeps B L w w') (hB : B ≤ w.heap.size) : Below B w w' := Only.below h hB fun _ hq => hq.1
theorem Keeps.fewer (h : Keeps B L w w') (hs : ∀ q, q ∈ L' → q ∈ L) : Keeps B L' w w' := Only.mono h fun q _ hq => ⟨hq.1, fun e => hq.2 (hs q e)⟩
theorem Keeps.heap (h : Keeps B L w w') {b : Nat} {o : Obj} (hb : w.heap[b]? = some o) (hm : b < B ∨ b ∈ L) : w'.heap[b]? = some o := Only.heap h hb fun e => hm.elim (fun h1 => by omega) e.2
theorem Keeps.size (h : Keeps B L w w') : w.heap.size ≤ w'.heap.size := Only.size h
theorem Has.below (h : Has B L w p N m) (k : Below w.heap.size w w') : Has B L w' p N m := by
  obtain ⟨A, c, mb, x, hD, hF⟩ := h.disk
  exact ⟨h.fine, Nat.le_trans h.low k.size, fun b hb => Nat.lt_of_lt_of_le (h.old b hb) k.size, A, c, mb, x, hD.below k, hF⟩
theorem Has.more (h : Has B L w p N m) {N' : Nat} (hn : N ≤ N') : Has B L w p N' m := by
  obtain ⟨A, c, mb, x, hD, hF⟩ := h.disk
  exact ⟨h.fine, h.low, h.old, A, c, mb, x, hD.more hn, hF⟩
theorem Has.fewer (h : Has B L w p N m) (hs : ∀ q, q ∈ L' → q ∈ L) : Has B L' w p N m := by
  obtain ⟨A, c, mb, x, hD, hF⟩ := h.disk
  exact ⟨h.fine, h.low, fun b hb => h.old b (hs b hb), A, c, mb, x, hD, fun q hq => ⟨(hF q hq).1, fun e => (hF q hq).2 (hs q e)⟩⟩
/-- A block that came behind the disk's is none of its. -/
theorem Has.beside (h : Has B L w p N m) (k : Below w.heap.size w w') {b : Nat} (h0 : w.heap.size ≤ b) (h1 : b < w'.heap.size) : Has B (b :: L) w' p N m := by
  obtain ⟨A, c, mb, x, hD, hF⟩ := h.disk
  refine ⟨h.fine, Nat.le_trans h.low k.size, fun b' hb => ?_, A, c, mb, x, hD.below k, fun q hq => ⟨(hF q hq).1, fun e => ?_⟩⟩
  · rcases List.mem_cons.1 hb with rfl | hb
    · exact h1
    · exact Nat.lt_of_lt_of_le (h.old b' hb) k.size
  · rcases List.mem_cons.1 e with rfl | e
    · have := hD.foot_lt hq; omega
    · exact (hF q hq).2 e
/-- A disk stays where the blocks beside another's are kept. -/
theorem Has.lt (h : Has B L w p N m) : p < w.heap.size ∧ B ≤ p ∧ p ∉ L := by
  obtain ⟨A, c, mb, x, hD, hF⟩ := h.disk
  exact ⟨hD.lt, (hF p (.inl rfl)).1, (hF p (.inl rfl)).2⟩
theorem Has.after {A : Nat → Option Addr} {mb : Option Nat} (h : Has B L w p N m) (hF : ∀ q, Foot p mb A q → B ≤ q ∧ q ∉ L) (g : Fine m') (k : After w p N m' A mb w') : Has B L w' p N m' ∧ Keeps B L w w' := by
  obtain ⟨A', c', mb', x', hD, ho, hf⟩ := k
  refine ⟨⟨g, Nat.le_trans h.low ho.size, fun b hb => Nat.lt_of_lt_of_le (h.old b hb) ho.size, A', c', mb', x', hD, fun q hq => ?_⟩, ho.mono fun q _ hq => hF q hq⟩
  rcases hf q hq with h1 | h1
  · exact hF q h1
  · exact ⟨Nat.le_trans h.low h1, fun e => by have := h.old q e; omega⟩
theorem Has.turned {A : Nat → Option Addr} {c : Nat → Nat} {mb : Option Nat} (h : Has B L w p N m) (hF : ∀ q, Foot p mb A q → B ≤ q ∧ q ∉ L) (g : Fine m') {x' : Int} (hD : DV w' p N m' A c mb x' none) (ho : Only (fun q => q = p) w w') : Has B L w' p N m' ∧ Keeps B L w w' :=
  ⟨⟨g, Nat.le_trans h.low ho.size, fun b hb => Nat.lt_of_lt_of_le (h.old b hb) ho.size, A, c, mb, x', hD, hF⟩, ho.mono fun q _ hq => hF q (.inl hq)⟩

/-- What a call leaves that changes a disk. -/
def Done (B : Nat) (L : List Nat) (w : World) (p N : Nat) (r : Int × M) (e : Ending) (w' : World) : Prop := e = .returned (.int .i64 r.1) ∧ Has B L w' p N r.2 ∧ Keeps B L w w'
theorem append_has (n : Int) (s : ByteArray) (h : Has B L w p N m) (hN : N < 1000000) :
    Calls Tryz.prog 92 #[.pointer (some ⟨p, 0, none⟩), .int .i64 n, .string s] w (Done B L w p (N + 1) (m.append n s.data.toList)) := by
  obtain ⟨A, c, mb, x, hD, hF⟩ := h.disk
  refine (append_any n s hD h.fine hN).mono ?_
  rintro e w' ⟨rfl, ha⟩
  obtain ⟨h1, h2⟩ := (h.more (Nat.le_succ N)).after hF (h.fine.append n s.data.toList) ha
  exact ⟨rfl, h1, h2⟩
theorem sync_has (n : Int) (h : Has B L w p N m) (hN : N < 1000000) (h0 : -9223372036854775808 ≤ n) (h1 : n ≤ 9223372036854775807) :
    Calls Tryz.prog 70 #[.pointer (some ⟨p, 0, none⟩), .int .i64 n] w (Done B L w p (N + 1) (m.sync n)) := by
  obtain ⟨A, c, mb, x, hD, hF⟩ := h.disk
  refine (sync_any n hD hN h0 h1).mono ?_
  rintro e w' ⟨rfl, ha⟩
  obtain ⟨h1, h2⟩ := (h.more (Nat.le_succ N)).after hF (h.fine.sync n) ha
  exact ⟨rfl, h1, h2⟩
theorem replace_has (n : Int) (s : ByteArray) (h : Has B L w p N m) (hN : N < 1000000) :
    Calls Tryz.prog 22 #[.pointer (some ⟨p, 0, none⟩), .int .i64 n, .string s] w (Done B L w p (N + 1) (m.replace n s.data.toList)) := by
  obtain ⟨A, c, mb, x, hD, hF⟩ := h.disk
  refine (replace_any n s hD h.fine hN).mono ?_
  rintro e w' ⟨rfl, ha⟩
  obtain ⟨h1, h2⟩ := (h.more (Nat.le_succ N)).after hF (h.fine.replace n s.data.toList) ha
  exact ⟨rfl, h1, h2⟩
theorem fuel_has (n : Int) (h : Has B L w p N m) (h0 : -9223372036854775808 ≤ n) (h1 : n ≤ 9223372036854775807) :
    Calls Tryz.prog 10 #[.pointer (some ⟨p, 0, none⟩), .int .i64 n] w fun e w' => e = .returned (.tuple #[]) ∧ Has B L w' p N (m.fuelled n) ∧ Keeps B L w w' := by
  obtain ⟨A, c, mb, x, hD, hF⟩ := h.disk
  refine (fuel_any n hD h0 h1).mono ?_
  rintro e w' ⟨rfl, hD', ho⟩
  obtain ⟨h1, h2⟩ := h.turned hF (h.fine.fuelled h1) hD' ho
  exact ⟨rfl, h1, h2⟩
theorem off_has (h : Has B L w p N m) : Calls Tryz.prog 58 #[.pointer (some ⟨p, 0, none⟩)] w fun e w' => e = .returned (.bool m.off) ∧ w = w' := by
  obtain ⟨A, c, mb, x, hD, hF⟩ := h.disk
  exact off_any hD
theorem files_has (h : Has B L w p N m) : Calls Tryz.prog 67 #[.pointer (some ⟨p, 0, none⟩)] w (MadeN w m.files) := by
  obtain ⟨A, c, mb, x, hD, hF⟩ := h.disk
  exact files_any hD
theorem used_has (h : Has B L w p N m) : Calls Tryz.prog 96 #[.pointer (some ⟨p, 0, none⟩)] w (TellsD w (m.used : Int)) := by
  obtain ⟨A, c, mb, x, hD, hF⟩ := h.disk
  exact used_any hD h.fine
theorem free_has (h : Has B L w p N m) : Calls Tryz.prog 59 #[.pointer (some ⟨p, 0, none⟩)] w (TellsD w ((m.room : Int) - (m.used : Int))) := by
  obtain ⟨A, c, mb, x, hD, hF⟩ := h.disk
  exact free_any hD h.fine
theorem read_has (n : Int) (h : Has B L w p N m) (h0 : -9223372036854775808 ≤ n) (h1 : n ≤ 9223372036854775807) :
    Calls Tryz.prog 18 #[.pointer (some ⟨p, 0, none⟩), .int .i64 n] w (Got w (m.read n).1 (m.read n).2) := by
  obtain ⟨A, c, mb, x, hD, hF⟩ := h.disk
  exact read_any n hD h0 h1
/-- A new disk, in a world where the other one stays. -/
theorem fresh_has {p' N' : Nat} (h : Has B L w p N m) (g : Fine m') (k : Fresh w N' m' p' w') : Has B L w' p' N' m' ∧ Has B L w' p N m ∧ Below w.heap.size w w' := by
  obtain ⟨hp, hb, A, c, mb, x, hD, hF⟩ := k
  refine ⟨⟨g, Nat.le_trans h.low hb.size, fun b hb' => Nat.lt_of_lt_of_le (h.old b hb') hb.size, A, c, mb, x, hD, fun q hq => ?_⟩, h.below hb, hb⟩
  have := hF q hq
  exact ⟨Nat.le_trans h.low this, fun e => by have := h.old q e; omega⟩
theorem first_has {p' N' : Nat} (hB : B ≤ w.heap.size) (g : Fine m') (k : Fresh w N' m' p' w') : Has B [] w' p' N' m' ∧ Below w.heap.size w w' := by
  obtain ⟨hp, hb, A, c, mb, x, hD, hF⟩ := k
  exact ⟨⟨g, Nat.le_trans hB hb.size, by simp, A, c, mb, x, hD, fun q hq => ⟨Nat.le_trans hB (hF q hq), by simp⟩⟩, hb⟩
theorem crash_has (KA : Option Addr) (kn kc : Nat) (keep : List Int) (h : Has B L w p N m) (hk : Reads w w.heap.size 1 KA kn (inums keep)) :
    Calls Tryz.prog 27 #[.pointer (some ⟨p, 0, none⟩), .slice KA kn kc] w fun e w' => ∃ p', e = .returned (.pointer (some ⟨p', 0, none⟩)) ∧ Has B L w' p' 16 (m.crash keep) ∧ Has B L w' p N m ∧ w.heap.size ≤ p' ∧ Below w.heap.size w w' := by
  obtain ⟨A, c, mb, x, hD, hF⟩ := h.disk
  refine (crash_any KA kn kc keep hD h.fine hk).mono ?_
  rintro e w' ⟨rfl, hf⟩
  obtain ⟨h1, h2, h3⟩ := fresh_has h (h.fine.crash keep) hf
  exact ⟨_, rfl, h1, h2, Nat.le_refl _, h3⟩
theorem new_has (r : Nat) (hr : r ≤ 1048576) (hB : B ≤ w.heap.size) :
    Calls Tryz.prog 8 #[.int .i64 (r : Int)] w fun e w' => ∃ p, e = .returned (.tuple #[.pointer (some ⟨p, 0, none⟩), .int .i64 0]) ∧ Has B [] w' p 0 (M.new r) ∧ w.heap.size ≤ p ∧ Below w.heap.size w w' := by
  refine (new_yes r w hr).mono ?_
  rintro e w' ⟨p, rfl, hf⟩
  obtain ⟨h1, h2⟩ := first_has hB (Fine.new hr) hf
  exact ⟨p, rfl, h1, hf.1, h2⟩
end
end Go.Proofs.YtamncdpeklbhlaaGreatDoor.Ops
