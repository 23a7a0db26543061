/- What New leaves, walked. -/
import Derived.Test.YtecejikolgkihaaWalkG
set_option linter.unusedVariables false
namespace Go.Proofs.Ytecejikolgkihaa.WalkH
open Go.RowKit Go.Proofs.Ytecejikolgkihaa.Kit Go.Proofs.Ytecejikolgkihaa.Blocks Go.Proofs.Ytecejikolgkihaa.Whl Go.Proofs.Ytecejikolgkihaa.Tms Go.Proofs.Ytecejikolgkihaa.WAt

/-- How many places each ring has. -/
def sz (k : Nat) : Nat := if k = 0 then 64 else if k = 1 then 128 else 256
theorem sz_le (k : Nat) : sz k ≤ 256 := by unfold sz; split <;> (try split) <;> omega
theorem sizes_any (w : World) : Calls Try.prog 22 #[] w fun e w' => e = .returned (.slice (some ⟨w.heap.size, 0, none⟩) 3 3) ∧ w' = w.alloc (.cells #[.int .i64 64, .int .i64 128, .int .i64 256] 3) := by
  go_enter Try.func22, Try.ntmps22
  go_wp2
  go_ret
  exact ⟨rfl, rfl⟩
/-- A ring without timers. -/
def nils (n : Nat) : Array Value := madeCells #[.slice none 0 0] (n * 1)
theorem nils_row (n o : Nat) : nils n = row (fun _ => .slice none 0 0) o n := by
  unfold nils row madeCells
  apply Array.ext
  · simp
  · intro i h1 h2
    simp [Nat.mod_one]
theorem make_ring (m : Nat) (hm : m ≤ 256) (w : World) : (Instr.makeSlice 49 (.int .i64 (m : Int)) (.int .i64 (m : Int))).run Try.prog w = .ok (.slice (some ⟨w.heap.size, 0, none⟩) m m) (w.alloc (.cells (nils m) 46)) := by
  obtain ⟨i0, hi0, hz0, hz1, hz2⟩ := info_parts infoL
  have hr := run_make (P := Try.prog) w 49 46 i0 _ Try.underlying49 hi0 hz0 .i64 .i64 m m (by omega) (Int.le_refl _) (by rw [hz2]; omega) (by omega)
  simp only [Int.toNat_natCast] at hr
  rw [hr, hz1]
  rfl

/-- The rings that lie already. -/
structure Rings (B : Nat) (w : World) (p s k : Nat) (v : Value) (rs : List Nat) : Prop where
  len : rs.length = k
  head : w.heap[p]? = some (.cells #[.int .u64 0, v, .slice none 0 0] 48 (0, 0))
  sizes : w.heap[s]? = some (.cells #[.int .i64 64, .int .i64 128, .int .i64 256] 3 (0, 0))
  own : w.ownsRow B 49 1 v k (rs.mapIdx fun i r => .slice (some ⟨r, 0, none⟩) (sz i) (sz i))
  ring : ∀ (i r : Nat), rs[i]? = some r → w.heap[r]? = some (.cells (nils (sz i)) 46 (0, 0))
  low : B ≤ p ∧ ∀ r ∈ rs, B ≤ r
  uniq : rs.Nodup ∧ p ∉ rs ∧ s ∉ rs ∧ s ≠ p
  off : ∀ g, v.ownBlock = some g → g ≠ p ∧ g ≠ s ∧ g ∉ rs

section
variable {B n m c : Nat} {A : Option Addr} {v : Value} {xs news : List Value}
theorem step_ring {ops : Array Oper} {o : Oper} {a : Act} {K : Act → World → Prop} {Q : Exit → Act → World → Prop} {E : Prop} (w : World) (hgd : o.guard = none) (s x : Operand) 
    (ho : o.op = .call { callee := .builtin .append, args := #[s, x], argTypes := #[45, 45] })
    (base : Nat) (hs : a.eval s = v) (hown : w.ownsRow base 49 1 v n xs) (hx : a.eval x = .slice A m c) (hr : Reads w B 1 A m news) (h1 : ∀ u ∈ news, u.oneCell' = true) (hb : (n + m) * 24 ≤ 140737488355328) (hbase : base ≤ w.heap.size)
    (h : ∀ A' c' w', w'.ownsRow base 49 1 (.slice A' (n + m) c') (n + m) (xs ++ news) → w.grownBy w' v.ownBlock → ((Value.slice A' (n + m) c').ownBlock = v.ownBlock ∨ (Value.slice A' (n + m) c').ownBlock = some w.heap.size) → K (a.put o.dst (.slice A' (n + m) c')) w') :
    if Region.wanted o (yielded ops a.tmps) = true then Oper.wp Try.prog o a w K Q else E := by
  have hw : Region.wanted o (yielded ops a.tmps) = true := by simp [Region.wanted, hgd]
  rw [if_pos hw]
  obtain ⟨i0, hi0, hz0, hz1, hz2⟩ := info_parts infoR
  exact wp_append_any w s x 45 ho base 49 i0 _ 1 24 Try.underlying45 hi0 hz0 hz1 hz2 rfl (by decide) v n xs hs hown B A m c news hx hr h1 (by unfold maxLen; omega) hb hbase fun v' w' h1 h2 h3 => by
    obtain ⟨A', c', rfl, _, _, _⟩ := own_form h1
    exact h A' c' w' h1 h2 h3
end
theorem sz_cell {w : World} {s : Nat} (h : w.heap[s]? = some (.cells #[.int .i64 64, .int .i64 128, .int .i64 256] 3 (0, 0))) {k : Nat} (hk : k < 3) : w.cell? ⟨s, k, none⟩ = some (.int .i64 (sz k : Int)) := by
  rw [cell_at h]
  match k, hk with
  | 0, _ => rfl
  | 1, _ => rfl
  | 2, _ => rfl
/-- One ring more. -/
theorem Rings.more {B : Nat} {w w2 : World} {p s k : Nat} {v v2 : Value} {rs : List Nat} (h : Rings B w p s k v rs) (hB : B ≤ w.heap.size) {o2 : Obj}
    (hown : w2.ownsRow B 49 1 v2 (k + 1) ((rs.mapIdx fun i r => .slice (some ⟨r, 0, none⟩) (sz i) (sz i)) ++ [.slice (some ⟨w.heap.size, 0, none⟩) (sz k) (sz k)]))
    (hg : ((w.alloc (.cells (nils (sz k)) 46)).alloc o2).drew.grownBy w2 v.ownBlock) (hat : v2.ownBlock = v.ownBlock ∨ v2.ownBlock = some ((w.alloc (.cells (nils (sz k)) 46)).alloc o2).drew.heap.size) :
    w2.cell? ⟨p, 1, none⟩ = some v ∧ w2.frozen? ⟨p, 1, none⟩ = false ∧ Rings B (w2.setCell ⟨p, 1, none⟩ v2) p s (k + 1) v2 (rs ++ [w.heap.size]) ∧ (Below B w w2 → Below B w (w2.setCell ⟨p, 1, none⟩ v2)) ∧ p < w2.heap.size ∧ Below B w w2 := by
  have hp := lt_at h.head
  have hsl := lt_at h.sizes
  have hrl : ∀ r ∈ rs, r < w.heap.size := fun r hr => by
    obtain ⟨i, hi, e⟩ := List.mem_iff_getElem.1 hr
    exact lt_at (h.ring i r (by rw [List.getElem?_eq_getElem hi, e]))
  have o : Only (fun q => v.ownBlock = some q) w w2 := (((Only.refl (fun q => v.ownBlock = some q) w).alloc _).alloc _).drew.grown hg fun g e => .inr e
  have hnp : ¬ v.ownBlock = some p := fun e => (h.off p e).1 rfl
  have h1 := o.heap h.head hnp
  have hset : Only (fun q => q = p) w2 (w2.setCell ⟨p, 1, none⟩ v2) := (Only.refl (fun q => q = p) w2).setCell (a := ⟨p, 1, none⟩) (.inr rfl) v2
  have hnew : w2.heap[w.heap.size]? = some (.cells (nils (sz k)) 46 (0, 0)) := by
    rw [hg.block w.heap.size (by simp; omega) (fun e => by have := (h.own.lt _ e.symm).2; omega)]
    show ((w.alloc _).alloc o2).heap[w.heap.size]? = _
    rw [Below.heap_alloc _ _ _ (by simp), heap_alloc_new]
  have hv2 : ∀ g, v2.ownBlock = some g → v.ownBlock = some g ∨ g = w.heap.size + 1 + 1 := fun g hg => by
    rcases hat with e | e
    · exact .inl (e ▸ hg)
    · rw [hg] at e; cases e; exact .inr (by show ((w.alloc _).alloc o2).heap.size = _; simp)
  have hv2' : ∀ g, v2.ownBlock = some g → g ≠ p ∧ g ≠ s ∧ g ∉ rs ∧ g ≠ w.heap.size := fun g hg => by
    rcases hv2 g hg with e | e
    · have := h.off g e
      have := (h.own.lt g e).2
      exact ⟨by omega, by omega, (h.off g e).2.2, by omega⟩
    · exact ⟨by omega, by omega, fun hr => by have := hrl g hr; omega, by omega⟩
  have hbel : Below B w w2 := o.below hB fun q hq => (h.own.lt q hq).1
  refine ⟨by rw [cell_at h1]; rfl, free_at h1 1, ⟨by simp [h.len], by rw [set_at h1]; rfl, hset.heap (o.heap h.sizes fun e => (h.off s e).2.1 rfl) h.uniq.2.2.2, hset.own ?_ fun g hg e => (hv2' g hg).1 e, ?_, ⟨h.low.1, ?_⟩, ⟨?_, ?_, ?_, h.uniq.2.2.2⟩, ?_⟩, ?_, ?_, hbel⟩
  · refine own_cast hown rfl ?_
    rw [List.mapIdx_append]
    simp [h.len]
  · intro i r hi
    by_cases hik : i < k
    · rw [List.getElem?_append_left (by rw [h.len]; exact hik)] at hi
      have hr := List.mem_of_getElem? hi
      exact hset.heap (o.heap (h.ring i r hi) fun e => (h.off r e).2.2 hr) fun e => h.uniq.2.1 (e ▸ hr)
    · have : i = k := by
        have := (List.getElem?_eq_some_iff.1 hi).1
        simp [h.len] at this
        omega
      subst this
      rw [List.getElem?_append_right (by rw [h.len]; exact Nat.le_refl _), h.len, Nat.sub_self] at hi
      cases hi
      exact hset.heap hnew (by show w.heap.size ≠ p; omega)
  · intro r hr
    rcases List.mem_append.1 hr with hr | hr
    · exact h.low.2 r hr
    · simp at hr; omega
  · rw [List.nodup_append]
    refine ⟨h.uniq.1, by simp, ?_⟩
    intro a ha b hb e
    simp at hb
    have := hrl a ha
    omega
  · intro hr
    rcases List.mem_append.1 hr with hr | hr
    · exact h.uniq.2.1 hr
    · simp at hr; omega
  · intro hr
    rcases List.mem_append.1 hr with hr | hr
    · exact h.uniq.2.2.1 hr
    · simp at hr; omega
  · intro g hg
    have := hv2' g hg
    refine ⟨this.1, this.2.1, fun hr => ?_⟩
    rcases List.mem_append.1 hr with hr | hr
    · exact this.2.2.1 hr
    · simp at hr; exact this.2.2.2 hr
  · exact fun hb => hb.setCell (p := ⟨p, 1, none⟩) h.low.1 _
  · exact Nat.lt_of_lt_of_le hp o.size
/-- Three rings are a wheel. -/
theorem Rings.wheel {B : Nat} {w : World} {p s : Nat} {v : Value} {rs : List Nat} (h : Rings B w p s 3 v rs) : ∃ x vs, x.p = p ∧ WAt B w x vs 0 (fun _ => []) := by
  obtain ⟨a, b, d, rfl⟩ : ∃ a b d, rs = [a, b, d] := by
    have := h.len
    match rs, this with
    | [a, b, d], _ => exact ⟨a, b, d, rfl⟩
  rcases h.own.2 with ⟨_, h0⟩ | ⟨R, c, cur, rfl, hbR, hR, hnc, hcm, hcs, htake⟩
  · omega
  have hoff := h.off R rfl
  have hu := h.uniq
  simp only [List.nodup_cons, List.mem_cons, List.not_mem_nil, or_false, not_or, List.nodup_nil, and_true] at hu hoff
  have hcell : ∀ (i : Nat) (u : Value), (([a, b, d] : List Nat).mapIdx fun i r => Value.slice (some ⟨r, 0, none⟩) (sz i) (sz i))[i]? = some u → cur[i]? = some u := fun i u hu => by
    rw [← htake, List.getElem?_take] at hu
    split at hu
    · simpa using hu
    · cases hu
  refine ⟨⟨p, R, c, a, b, d⟩, fun _ => .slice none 0 0, rfl, ⟨?_, ⟨cur, hR, hcell 0 _ rfl, hcell 1 _ rfl, hcell 2 _ rfl⟩, ?_, ?_, ?_, fun k _ => World.ownsRow_nil w B _ 2, ?_, ?_, ?_, ?_⟩⟩
  · exact h.head
  · have := h.ring 0 a rfl
    rwa [nils_row _ 0] at this
  · have := h.ring 1 b rfl
    rwa [nils_row _ 64] at this
  · have := h.ring 2 d rfl
    rwa [nils_row _ 192] at this
  · intro j k g _ _ e; simp [Value.ownBlock] at e
  · intro k g _ e; simp [Value.ownBlock] at e
  · simp only
    omega
  · intro g hg
    have hl := h.low
    rcases hg with e | e | e | e | e
    · rw [show g = p from e]; exact hl.1
    · rw [show g = R from e]; exact hbR
    · rw [show g = a from e]; exact hl.2 a (by simp)
    · rw [show g = b from e]; exact hl.2 b (by simp)
    · rw [show g = d from e]; exact hl.2 d (by simp)
set_option maxRecDepth 100000 in
set_option maxHeartbeats 4000000 in
theorem new_any (w : World) : Calls Try.prog 10 #[] w fun e w' => ∃ x vs, e = .returned (.pointer (some ⟨x.p, 0, none⟩)) ∧ WAt w.heap.size w' x vs 0 (fun _ => []) ∧ Below w.heap.size w w' := by
  have hs := fun w => sizes_any w
  have HS := Lib.hid hs
  clear hs
  go_enter Try.func10, Try.ntmps10
  go_wp2_with fail
  with_reducible refine (HS.out _).mono ?_
  rintro e w1 ⟨rfl, rfl⟩
  go_wp2
  obtain ⟨w1, hw1⟩ : ∃ w1, (w.alloc (.cells #[.int .u64 0, .slice none 0 0, .slice none 0 0] 48)).alloc (.cells #[.int .i64 64, .int .i64 128, .int .i64 256] 3) = w1 := ⟨_, rfl⟩
  have hR : Rings w.heap.size w1 w.heap.size (w.heap.size + 1) 0 (.slice none 0 0) [] := by
    rw [← hw1]
    refine ⟨rfl, ?_, ?_, World.ownsRow_nil _ _ _ _, by intro i r e; simp at e, ⟨Nat.le_refl _, by simp⟩, ⟨by simp, by simp, by simp, by omega⟩, by intro g e; simp [Value.ownBlock] at e⟩
    · rw [Below.heap_alloc _ _ _ (by simp), heap_alloc_new]
    · have := heap_alloc_new (w.alloc (.cells #[.int .u64 0, .slice none 0 0, .slice none 0 0] 48)) (.cells #[.int .i64 64, .int .i64 128, .int .i64 256] 3)
      rwa [World.size_alloc] at this
  have hB1 : Below w.heap.size w w1 := by rw [← hw1]; exact ((Below.refl _ w).alloc (Nat.le_refl _) _).alloc (by simp) _
  rw [hw1]
  clear hw1
  go_loopw [8] (fun i wr => ∃ (k : Nat) (v : Value) (rs : List Nat), k ≤ 3 ∧ i = .int .i64 (k : Int) ∧ Hid (Rings w.heap.size wr w.heap.size (w.heap.size + 1) k v rs) ∧ Below w.heap.size w wr) (fun i _ => 3 - (intOf i).toNat)
  case atStart => exact ⟨0, _, [], by omega, rfl, hR, hB1⟩
  case round =>
    obtain ⟨k, v, rs, hk, rfl, hr, hb⟩ := hrel
    by_cases hlt : k < 3
    · have hcs := sz_cell hr.out.sizes hlt
      have hc1 : wr.cell? ⟨w.heap.size, 1, none⟩ = some v := by rw [cell_at hr.out.head]; rfl
      have hl1 := lt_at hr.out.head
      have hsm := sz_le k
      have hmore := fun v2 w2 => hr.out.more (v2 := v2) (w2 := w2) hb.size (o2 := .cells #[.slice (some ⟨wr.heap.size, 0, none⟩) (sz k) (sz k)] 49)
      obtain ⟨m, hm⟩ : ∃ m, sz k = m := ⟨_, rfl⟩
      rw [hm] at hcs hsm hmore
      have hmk := make_ring m hsm
      have hown : ∀ o1 o2, ((wr.alloc o1).alloc o2).drew.ownsRow w.heap.size 49 1 v k _ := fun o1 o2 => (hr.out.own.alloc o1).alloc o2
      have hnews : ∀ o1, Reads ((wr.alloc o1).alloc (.cells #[.slice (some ⟨wr.heap.size, 0, none⟩) m m] 49)).drew (wr.heap.size + 1 + 1) 1 (some ⟨wr.heap.size + 1, 0, none⟩) 1 [.slice (some ⟨wr.heap.size, 0, none⟩) m m] := fun o1 => by
        have := reads_one (wr.alloc o1) (.slice (some ⟨wr.heap.size, 0, none⟩) m m) 49
        rw [World.size_alloc] at this
        exact this
      have hbs : ∀ o1 o2 : Obj, w.heap.size ≤ ((wr.alloc o1).alloc o2).drew.heap.size := fun o1 o2 => by have := hb.size; simp; omega
      have HO := Lib.hid hown
      have HN := Lib.hid hnews
      have HMo := Lib.hid hmore
      have HMK := Lib.hid hmk
      have HBs := Lib.hid hbs
      clear hown hnews hmore hm hbs
      go_wp2
      go_region_law (first
        | (refine step_ring _ rfl _ _ rfl w.heap.size rfl (HO.out _ _) rfl (HN.out _) (by simp [Value.oneCell']) (by omega) (HBs.out _ _) ?_
           intro A2 c2 w2 hown2 hg2 hat2
           obtain ⟨q1, q2, q3, q4, q5, q6⟩ := HMo.out (.slice A2 (k + 1) c2) w2 hown2 hg2 hat2
           have Q3 := Lib.hid q3
           have Q4 := Lib.hid q4
           have Q6 := Lib.hid q6
           clear q3 q4 q6 hown2 hg2 hat2))
      all_goals go_wp2
      all_goals go_roundw
      all_goals first
        | exact ⟨k + 1, _, _, by omega, by simp, Q3, hb.trans (Q4.out Q6.out)⟩
        | (simp [intOf]; omega)
    · obtain rfl : k = 3 := by omega
      obtain ⟨x, vs, hx, hw⟩ := hr.out.wheel
      have HX := Lib.hid hx
      have HW := Lib.hid hw
      clear hw hx
      go_wp2
      go_ret
      exact ⟨x, vs, by rw [HX.out]; rfl, HW.out, hb⟩
end Go.Proofs.Ytecejikolgkihaa.WalkH
