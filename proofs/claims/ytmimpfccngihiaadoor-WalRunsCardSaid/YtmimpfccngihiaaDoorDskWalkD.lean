/- What Files, Used and Free leave, walked. -/
import Derived.Test.YtmimpfccngihiaaDoorDskWalkC
namespace Go.Proofs.YtmimpfccngihiaaDoor.DskWalkD
open Go.RowKit Go.Proofs.YtmimpfccngihiaaDoor.Kit Go.Proofs.YtmimpfccngihiaaDoor.Blocks Go.Proofs.YtmimpfccngihiaaDoor.Keys Go.Proofs.YtmimpfccngihiaaDoor.Model Go.Proofs.YtmimpfccngihiaaDoor.Disk Go.Proofs.YtmimpfccngihiaaDoor.DskWalkA Go.Proofs.YtmimpfccngihiaaDoor.DskWalkC

/-- Numbers as cells. -/
def nums (l : List Nat) : List Value := l.map fun (i : Nat) => Value.int .i64 (i : Int)
theorem nums_length (l : List Nat) : (nums l).length = l.length := by simp [nums]
def filesTo (m : M) (k : Nat) : List Nat := (List.range k).filter m.there
theorem filesTo_yes (m : M) (k : Nat) (h : m.there k = true) : filesTo m (k + 1) = filesTo m k ++ [k] := by simp [filesTo, List.range_succ, List.filter_append, h]
theorem filesTo_no (m : M) (k : Nat) (h : m.there k = false) : filesTo m (k + 1) = filesTo m k := by simp [filesTo, List.range_succ, List.filter_append, h]
theorem filesTo_le (m : M) (k : Nat) : (filesTo m k).length ≤ k := by
  have := List.length_filter_le m.there (List.range k)
  simpa [filesTo] using this
theorem info3 : (Tryd.prog.info? 3).map (fun i => (i.zero, i.size, i.bytes)) = some (some (.int .i64 0), 1, 8) := by kernel_rfl
theorem has_nat (m : M) {k : Nat} (hk : k < 16) : m.has (k : Int) = m.there k := by
  unfold M.has
  rw [show decide (0 ≤ (k : Int) ∧ (k : Int) < 16) = true from decide_eq_true (by omega)]
  simp

/-- What a call that makes numbers leaves. -/
def MadeN (w : World) (l : List Nat) (e : Ending) (w' : World) : Prop :=
  ∃ v, e = .returned v ∧ w'.ownsRow w.heap.size 3 1 v l.length (nums l) ∧ Below w.heap.size w w'

set_option maxRecDepth 100000 in
theorem files_nil (w : World) : Calls Tryd.prog 53 #[.pointer none] w (MadeN w []) := by
  go_enter Tryd.func53, Tryd.ntmps53
  go_wp2
  go_ret
  exact ⟨.slice none 0 0, rfl, ⟨rfl, .inl ⟨rfl, rfl⟩⟩, Below.refl _ _⟩

section
variable {w : World} {p N : Nat} {m : M} {A : Nat → Option Addr} {c : Nat → Nat} {mb : Option Nat} {x : Int}
set_option maxRecDepth 100000 in
set_option maxHeartbeats 1000000 in
theorem files_any (h : DV w p N m A c mb x none) : Calls Tryd.prog 53 #[.pointer (some ⟨p, 0, none⟩)] w (MadeN w m.files) := by
  obtain ⟨i0, hi0, hz0, hz1, hz2⟩ := info_parts info3
  go_enter Tryd.func53, Tryd.ntmps53
  go_wp2
  go_loopw [3, 9] (fun v i wr => ∃ k : Nat, k ≤ 16 ∧ i = .int .i64 (k : Int) ∧ wr.ownsRow w.heap.size 3 1 v (filesTo m k).length (nums (filesTo m k)) ∧ Below w.heap.size w wr) (fun _ i _ => 16 - (intOf i).toNat)
  case atStart => exact ⟨0, by omega, rfl, ⟨rfl, .inl ⟨rfl, rfl⟩⟩, Below.refl _ _⟩
  case round =>
    obtain ⟨k, hk, rfl, hown, hbel⟩ := hrel
    by_cases hlt : k < 16
    · have hhr := h.below hbel
      have hc3 := hhr.c3
      have hpl := hhr.lt
      have hll := filesTo_le m k
      have hsz := hbel.size
      cases ht : m.there k with
      | true =>
        have hrun := look_yes h hbel (n := (k : Int)) (by rw [has_nat m hlt]; exact ht)
        have hs := filesTo_yes m k ht
        have HS := Lib.hid hs
        clear hs
        obtain ⟨n, hn⟩ : ∃ n, (filesTo m k).length = n := ⟨_, rfl⟩
        rw [hn] at hll hown
        have HN := Lib.hid hn
        clear hn
        have hm1 : n + 1 ≤ maxLen := by unfold maxLen; omega
        have hs1 : (n + 1) * 8 ≤ 140737488355328 := by omega
        clear ht
        obtain ⟨fa, hfa⟩ : ∃ fa, A k = fa := ⟨_, rfl⟩
        obtain ⟨fc, hfc⟩ : ∃ fc, c k = fc := ⟨_, rfl⟩
        obtain ⟨fl, hfl⟩ : ∃ fl, (m.all k).length = fl := ⟨_, rfl⟩
        obtain ⟨ff, hff⟩ : ∃ ff, (m.firm k).length = ff := ⟨_, rfl⟩
        simp only [Int.toNat_natCast, hfa, hfc, hfl, hff] at hrun
        clear hfa hfc hfl hff
        have hR : ∀ o u, Reads ((wr.alloc o).alloc (.cells #[u] 3)) (wr.heap.size + 2) 1 (some ⟨wr.heap.size + 1, 0, none⟩) 1 [u] := fun o u => by have := reads_one (wr.alloc o) u 3; simpa using this
        have hBo : ∀ o o', w.heap.size ≤ ((wr.alloc o).alloc o').heap.size := fun o o' => by simp; omega
        go_wp2_with (first
          | (at_builtin
             refine wpList_append_any _ rfl (.tmp 22) (.tmp 24) _ rfl w.heap.size 3 i0 _ 1 8 Tryd.underlying30 hi0 hz0 hz1 hz2 rfl (by decide) _ n (nums (filesTo m k)) rfl ((hown.alloc _).alloc _)
               _ _ 1 1 [.int .i64 (k : Int)] rfl (hR _ _) (by simp [Value.oneCell']) hm1 hs1 (hBo _ _) ?_
             intro v' w1 hown1 hg1 hat1))
        have hb1 : Below w.heap.size w w1 := ((hbel.alloc hsz _).alloc (by simp; omega) _).grown hg1 (by simp; omega) (own_lt hown)
        go_wp2
        go_roundw
        case rel => exact ⟨k + 1, by omega, by go_num, own_cast hown1 (by rw [HS.out, List.length_append, HN.out]; rfl) (by rw [HS.out]; simp [nums]), hb1⟩
        case measure => simp [intOf]; omega
      | false =>
        have hrun := look_no h hbel (n := (k : Int)) (by omega) (by omega) (by rw [has_nat m hlt]; exact ht)
        have hs := filesTo_no m k ht
        have HS := Lib.hid hs
        clear hs ht
        go_wp2
        go_roundw
        case rel => exact ⟨k + 1, by omega, by go_num, by rw [HS.out]; exact hown.alloc _, hbel.alloc hsz _⟩
        case measure => simp [intOf]; omega
    · obtain rfl : k = 16 := by omega
      go_wp2
      go_ret
      exact ⟨_, rfl, hown, hbel⟩
end

theorem Reads.num {w : World} {B n k : Nat} {A : Option Addr} {l : List Nat} (h : Reads w B 1 A n (nums l)) (hk : k < n) : ∃ b o j, A = some ⟨b, o, none⟩ ∧ b < B ∧ l[k]? = some j ∧ w.cell? ⟨b, o + k, none⟩ = some (.int .i64 (j : Int)) := by
  obtain ⟨ad, u, rfl, hb, hx, hc⟩ := h.at_ hk
  have hs := h.spot (by omega)
  have hl : k < l.length := by have := h.len; rw [nums_length] at this; omega
  simp only [nums, List.getElem?_map, List.getElem?_eq_getElem hl, Option.map_some, Option.some.injEq] at hx
  subst hx
  refine ⟨ad.block, ad.off, l[k], by rw [← hs], hb, List.getElem?_eq_getElem hl, ?_⟩
  rw [hs, Addr.add_lit] at hc
  exact hc
def sumLen (m : M) (l : List Nat) : Nat := (l.map m.len).sum
theorem sumLen_snoc (m : M) (l : List Nat) (j : Nat) : sumLen m (l ++ [j]) = sumLen m l + m.len j := by simp [sumLen]
theorem sumLen_take (m : M) (l : List Nat) (k j : Nat) (h : l[k]? = some j) : sumLen m (l.take (k + 1)) = sumLen m (l.take k) + m.len j := by
  obtain ⟨hk, rfl⟩ := List.getElem?_eq_some_iff.1 h
  rw [List.take_succ_eq_append_getElem hk, sumLen_snoc]
theorem sumLen_le (m : M) (l : List Nat) (k : Nat) : sumLen m (l.take k) ≤ sumLen m l := by
  conv => rhs; rw [← List.take_append_drop k l]
  simp only [sumLen, List.map_append, List.sum_append]
  omega
theorem sumLen_files {m : M} (g : Fine m) : ∀ k, sumLen m (filesTo m k) = m.usedTo k
  | 0 => rfl
  | k + 1 => by
    cases h : m.there k with
    | true => rw [filesTo_yes m k h, sumLen_snoc, sumLen_files g k]; rfl
    | false =>
      rw [filesTo_no m k h, sumLen_files g k]
      have := len_gone g h
      simp only [M.usedTo]
      omega
theorem mem_files {m : M} {k j : Nat} (h : m.files[k]? = some j) : j < 16 ∧ m.there j = true := by
  have := List.mem_of_getElem? h
  simpa [M.files] using this

/-- f.data. -/
theorem field0 (w : World) (a : Option Addr) (n c : Nat) (k : Int) : (Instr.field 82 (.agg #[.slice a n c, .int .i64 k]) 0).run Tryd.prog w = .ok (.slice a n c) w := by kernel_rfl
/-- What Used and Free leave. -/
def TellsD (w : World) (n : Int) (e : Ending) (w' : World) : Prop := e = .returned (.int .i64 n) ∧ Below w.heap.size w w'
set_option maxRecDepth 100000 in
theorem used_nil (w : World) : Calls Tryd.prog 32 #[.pointer none] w (TellsD w 0) := by
  go_enter Tryd.func32, Tryd.ntmps32
  go_wp2_with fail
  refine (files_nil _).mono ?_
  rintro e w1 ⟨v, rfl, hown, hb⟩
  obtain ⟨A1, c1, rfl, _, _, _⟩ := own_form hown
  clear hown
  go_wp2
  go_loop [3, 9] (fun s i => s = .int .i64 0 ∧ i = .int .i64 0) (fun _ _ => 0)
  case atStart => exact ⟨rfl, rfl⟩
  case round =>
    obtain ⟨rfl, rfl⟩ := hrel
    go_wp2
    go_ret
    exact ⟨rfl, hb⟩

section
variable {w : World} {p N : Nat} {m : M} {A : Nat → Option Addr} {c : Nat → Nat} {mb : Option Nat} {x : Int}
set_option maxRecDepth 100000 in
set_option maxHeartbeats 1000000 in
theorem used_any (h : DV w p N m A c mb x none) (g : Fine m) : Calls Tryd.prog 32 #[.pointer (some ⟨p, 0, none⟩)] w (TellsD w (m.used : Int)) := by
  have hsum : sumLen m m.files = m.used := sumLen_files g 16
  have hu := g.used
  have hroom := g.room
  have HU := Lib.hid hsum
  clear hsum
  go_enter Tryd.func32, Tryd.ntmps32
  go_wp2_with fail
  refine (files_any h).mono ?_
  rintro e w1 ⟨v, rfl, hown, hb⟩
  have hln : m.files.length ≤ 16 := filesTo_le m 16
  obtain ⟨n, hn⟩ : ∃ n, m.files.length = n := ⟨_, rfl⟩
  rw [hn] at hown hln
  obtain ⟨A1, c1, rfl, _, _, hr⟩ := own_form hown
  have HN := Lib.hid hn
  have hfd := field0
  have hh := h.below hb
  have hc3 := hh.c3
  have hpl := hh.lt
  clear hown hn
  go_wp2
  go_loop [3, 9] (fun s i => ∃ k : Nat, k ≤ n ∧ s = .int .i64 (sumLen m (m.files.take k) : Nat) ∧ i = .int .i64 (k : Int)) (fun _ i => n - (intOf i).toNat)
  case atStart => exact ⟨0, by omega, rfl, rfl⟩
  case round =>
    obtain ⟨k, hk, rfl, rfl⟩ := hrel
    by_cases hlt : k < n
    · obtain ⟨b, o, j, rfl, hbl, hj, hcell⟩ := Reads.num hr hlt
      have hjm := mem_files hj
      have hrun := look_one h g hb (n := (j : Int)) (by omega)
      simp only [Int.toNat_natCast, all_length] at hrun
      have hst := sumLen_take m m.files k j hj
      have hle := sumLen_le m m.files (k + 1)
      have hlu : sumLen m (m.files.take k) + m.len j ≤ 1048576 := by have := HU.out; omega
      have HS := Lib.hid hst
      obtain ⟨L, hL⟩ : ∃ L, m.len j = L := ⟨_, rfl⟩
      rw [hL] at hrun hlu HS
      obtain ⟨T, hT⟩ : ∃ T, sumLen m (m.files.take k) = T := ⟨_, rfl⟩
      rw [hT] at hlu HS ⊢
      clear hst hle hjm hj hL hT
      go_wp2
      go_round
      case rel => exact ⟨k + 1, by omega, by rw [HS.out]; go_num, by go_num⟩
      case measure => simp [intOf]; omega
    · obtain rfl : k = n := by omega
      have ht : m.files.take k = m.files := List.take_of_length_le (by rw [HN.out]; exact Nat.le_refl _)
      rw [ht, HU.out]
      clear ht
      go_wp2
      go_ret
      exact ⟨rfl, hb⟩
end
end Go.Proofs.YtmimpfccngihiaaDoor.DskWalkD
