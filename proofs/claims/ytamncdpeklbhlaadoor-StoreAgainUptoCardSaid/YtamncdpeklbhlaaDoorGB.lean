/- slices.Delete at a list's end, walked; a store with its log and its disk in memory. -/
import Derived.Test.YtamncdpeklbhlaaDoorGA
import Derived.BigQuiet
import Derived.Deep.QuietTactic
import Derived.BigRegion
import Derived.Deep.RegionHeld3
import Derived.Deep.CutRange
import Derived.Deep.CutBlock
import Derived.Lib.SliceRun
set_option linter.unusedVariables false
set_option linter.unusedSimpArgs false
namespace Go.Proofs.YtamncdpeklbhlaaDoor.Cut
open Go.RowKit Go.Proofs.YtamncdpeklbhlaaDoor.Kit Go.Proofs.YtamncdpeklbhlaaDoor.Blocks Go.Proofs.YtamncdpeklbhlaaDoor.Rlog Go.Proofs.YtamncdpeklbhlaaDoor.Sto Go.Proofs.YtamncdpeklbhlaaDoor.Ents Go.Proofs.YtamncdpeklbhlaaDoor.Hold Go.Proofs.YtamncdpeklbhlaaDoor.RlgWalkC

theorem while_split (p : Ent → Bool) : ∀ (l : List Ent) (k : Nat), k ≤ l.length → (∀ j e, j < k → l[j]? = some e → p e = true) → (∀ e, l[k]? = some e → p e = false) → l.takeWhile p = l.take k
  | [], k, h, _, _ => by simp
  | e :: l, 0, _, _, h => by
    have := h e rfl
    simp [this]
  | e :: l, k + 1, hk, h1, h2 => by
    have h0 := h1 0 e (by omega) rfl
    rw [List.takeWhile_cons_of_pos h0, List.take_succ_cons, while_split p l k (by simp at hk; omega) (fun j e' hj he => h1 (j + 1) e' (by omega) (by simpa using he)) (fun e' he => h2 e' (by simpa using he))]

/-- The closure's answer. -/
theorem cut1_any (e : Ent) (b : Nat) (i : Nat) (w : World) (hc : w.cell? ⟨b, 0, none⟩ = some (.int .u64 (i : Int))) (hb : b < w.heap.size) :
    Calls Tryd.prog 72 #[.agg #[.int .u64 (e.term : Int), .int .u64 (e.idx : Int), .int .i64 e.kind, .string e.data], .pointer (some ⟨b, 0, none⟩)] w fun x w' => x = .returned (.bool (!below i e)) ∧ Below w.heap.size w w' := by
  have hba : Below w.heap.size w (w.alloc (.cells #[.int .u64 (e.term : Int), .int .u64 (e.idx : Int), .int .i64 e.kind, .string e.data] 55)) := (Below.refl _ _).alloc (Nat.le_refl _) _
  have hx : decide (i ≤ e.idx) = !below i e := by
    unfold below
    by_cases h : e.idx < i <;> simp [h] <;> omega
  obtain ⟨r, hr⟩ : ∃ r, (!below i e) = r := ⟨_, rfl⟩
  rw [hr] at hx ⊢
  obtain ⟨tm, ix, kd, d⟩ := e
  simp only at *
  clear hr
  go_enter Tryd.func72, Tryd.ntmps72
  go_wp2
  go_ret
  exact ⟨rfl, hba⟩

set_option maxRecDepth 100000 in
set_option maxHeartbeats 1000000 in
theorem index_any (A : Option Addr) (n c : Nat) (l : List Ent) (b i : Nat) (w : World) (hr : RE w w.heap.size A n l) (h63 : n ≤ 9223372036854775807) (hc : w.cell? ⟨b, 0, none⟩ = some (.int .u64 (i : Int))) (hb : b < w.heap.size) :
    Calls Tryd.prog 71 #[.slice A n c, .func (.func 72) #[] #[.pointer (some ⟨b, 0, none⟩)]] w fun x w' =>
      ∃ k, k ≤ n ∧ l.takeWhile (below i) = l.take k ∧ x = .returned (.int .i64 (if k < n then (k : Int) else -1)) ∧ Below w.heap.size w w' := by
  have hn := RE.len hr
  have HN := Lib.hid hn
  clear hn
  go_enter Tryd.func71, Tryd.ntmps71
  go_wp2_with fail
  go_loopw [8] (fun s wr => ∃ k : Nat, k ≤ n ∧ s = .int .i64 (k : Int) ∧ Hid (∀ j e, j < k → l[j]? = some e → below i e = true) ∧ Below w.heap.size w wr) (fun s _ => n - (intOf s).toNat)
  case atStart => exact ⟨0, by omega, rfl, fun j e hj => absurd hj (by omega), Below.refl _ _⟩
  case round =>
    obtain ⟨k, hk, rfl, HA, hbel⟩ := hrel
    have hsz := hbel.size
    by_cases hkn : k < n
    · obtain ⟨bb, o, e, rfl, hbl, hek, hfour⟩ := RE.at_ hr hkn
      have hfr := Four.below hfour hbel hbl
      have c0 := hfr.c0
      have c1 := hfr.c1
      have c2 := hfr.c2
      have c3 := hfr.c3
      have hcl := fun w' (hb' : Below w.heap.size w w') => cut1_any e b i w' ((hb'.cell (p := ⟨b, 0, none⟩) hb).trans hc) (Nat.lt_of_lt_of_le hb hb'.size)
      cases hbe : below i e with
      | true =>
        rw [hbe] at hcl
        have HCL := Lib.hid hcl
        have HNX : Hid (∀ j e, j < k + 1 → l[j]? = some e → below i e = true) := fun j e' hj he' => by
          by_cases h : j < k
          · exact HA.out j e' h he'
          · obtain rfl : j = k := by omega
            rw [hek] at he'
            cases he'
            exact hbe
        obtain ⟨tm, ix, kd, d⟩ := e
        simp only at *
        clear hcl hbe hek hfour hfr HA
        go_wp2_with fail
        refine (HCL.out _ hbel).mono ?_
        rintro x w1 ⟨rfl, hb1⟩
        go_wp2
        go_roundw
        case rel => exact ⟨k + 1, by omega, by go_num, HNX, hbel.trans (hb1.mono hsz)⟩
        case measure => simp [intOf]; omega
      | false =>
        rw [hbe] at hcl
        have HCL := Lib.hid hcl
        have HW : Hid (l.takeWhile (below i) = l.take k) := while_split _ l k (by rw [HN.out]; omega) HA.out (fun e' he' => by rw [hek] at he'; cases he'; exact hbe)
        obtain ⟨tm, ix, kd, d⟩ := e
        simp only at *
        clear hcl hbe hek hfour hfr HA
        go_wp2_with fail
        refine (HCL.out _ hbel).mono ?_
        rintro x w1 ⟨rfl, hb1⟩
        go_wp2
        go_ret
        exact ⟨k, by omega, HW.out, by rw [if_pos hkn]; rfl, hbel.trans (hb1.mono hsz)⟩
    · obtain rfl : k = n := by omega
      have HW : Hid (l.takeWhile (below i) = l.take k) := while_split _ l k (by rw [HN.out]; omega) HA.out (fun e' he' => by have := (List.getElem?_eq_some_iff.1 he').1; have := HN.out; omega)
      clear HA
      go_wp2
      go_ret
      exact ⟨k, Nat.le_refl _, HW.out, by rw [if_neg hkn]; rfl, hbel⟩

/-- A cut. -/
theorem cut_any {B : Nat} {w : World} {p : Nat} {s : Sta} {v : Value} (h : Hold 37 B w p (pre s) v s.es) (i : Nat) :
    Calls Tryd.prog 48 #[.pointer (some ⟨p, 0, none⟩), .int .u64 (i : Int)] w fun e w' => e = .returned (.tuple #[]) ∧ ∃ v', Hold 37 B w' p (pre s) v' (sayCut s i).es ∧ Only (Foot p v) w w' := by
  have hB := h.base
  have hlt := h.lt
  obtain ⟨A, c, rfl, hnc, hcm, hr⟩ := h.form
  have hba : Below w.heap.size w (w.alloc (.cells #[.int .u64 (i : Int)] 30)) := (Below.refl _ _).alloc (Nat.le_refl _) _
  have hcb := heap_alloc_new w (.cells #[.int .u64 (i : Int)] 30)
  have hlb : w.heap.size < (w.alloc (.cells #[.int .u64 (i : Int)] 30)).heap.size := lt_at hcb
  have c0 : (w.alloc (.cells #[.int .u64 (i : Int)] 30)).cell? ⟨w.heap.size, 0, none⟩ = some (.int .u64 (i : Int)) := by rw [cell_at hcb]; rfl
  have hh := h.below hba
  have d6 : (w.alloc (.cells #[.int .u64 (i : Int)] 30)).cell? ⟨p, 6, none⟩ = some (.slice A s.es.length c) := hh.at_ 6 rfl
  have hix := index_any A s.es.length c s.es w.heap.size i _ ((Kit.Reads.below hr hba).more hba.size) (by omega) c0 hlb
  obtain ⟨n, hn⟩ : ∃ n, s.es.length = n := ⟨_, rfl⟩
  have HH := Lib.hid h
  have HN := Lib.hid hn
  rw [hn] at hix d6 hnc
  have HIX := Lib.hid hix
  clear hix hn hr hcb h
  go_enter Tryd.func48, Tryd.ntmps48
  go_wp2_with fail
  refine HIX.out.mono ?_
  rintro e w1 ⟨k, hk, hw, rfl, hb1⟩
  have hB1 : Below w.heap.size w w1 := hba.trans (hb1.mono hba.size)
  have h1 := HH.out.below hB1
  by_cases hkn : k < n
  · rw [if_pos hkn]
    have e6 : w1.cell? ⟨p, 6, none⟩ = some (.slice A n c) := by rw [← HN.out]; exact h1.at_ 6 rfl
    have f6 := h1.free 6
    have hlt1 := h1.lt
    have hown : w1.ownsRow B 55 4 (.slice A k c) k (ecells (s.es.take k)) := own_take (by have := h1.own; rwa [HN.out] at this) (by omega)
    have hl : (s.es.take k).length = k := by rw [List.length_take, HN.out]; omega
    obtain ⟨_, _, hh2, ho2⟩ := h1.rowed (w1 := w1) (es' := s.es.take k) (Only.refl _ _) hown hl.symm rfl (fun q hq => .inl (by cases A <;> exact hq)) (i := 6) rfl
    have HH2 := Lib.hid hh2
    have HO2 := Lib.hid ho2
    have hkc : k ≤ c := by omega
    have hki : (0 : Int) ≤ (k : Int) := by omega
    have HW := Lib.hid hw
    have H1 := Lib.hid h1
    clear hh2 ho2 hown hl hw h1
    go_wp2_with fail
    go_end0
    refine ⟨rfl, .slice A k c, ?_, (Only.of_below hB1).trans (by have := HO2.out; rwa [HN.out] at this)⟩
    have : (sayCut s i).es = s.es.take k := HW.out
    rw [this]
    exact HH2.out
  · rw [if_neg hkn]
    go_wp2
    go_end0
    refine ⟨rfl, .slice A n c, ?_, Only.of_below hB1⟩
    have : (sayCut s i).es = s.es := by
      have h3 : (sayCut s i).es = s.es.take k := hw
      rw [h3, List.take_of_length_le (by rw [HN.out]; omega)]
    rw [this]
    rw [HN.out] at h1
    exact h1
end Go.Proofs.YtamncdpeklbhlaaDoor.Cut
set_option linter.unusedVariables false
set_option linter.unusedSimpArgs false
namespace Go.Proofs.YtamncdpeklbhlaaDoor.Ahe
open Go.RowKit Go.Proofs.YtamncdpeklbhlaaDoor.Kit Go.Proofs.YtamncdpeklbhlaaDoor.Blocks Go.Proofs.YtamncdpeklbhlaaDoor.Rlog Go.Proofs.YtamncdpeklbhlaaDoor.Sto Go.Proofs.YtamncdpeklbhlaaDoor.Sav Go.Proofs.YtamncdpeklbhlaaDoor.Ents Go.Proofs.YtamncdpeklbhlaaDoor.Hold Go.Proofs.YtamncdpeklbhlaaDoor.Few Go.Proofs.YtamncdpeklbhlaaDoor.Cut Go.Proofs.YtamncdpeklbhlaaDoor.RlgWalkB Go.Proofs.YtamncdpeklbhlaaDoor.RlgWalkC

/-- Block t is a store: its log is block b, its state is s, its entries' slice is v. -/
abbrev StoAt (B : Nat) (w : World) (t b : Nat) (s : Sta) (v : Value) : Prop := Hold 67 B w t (.pointer (some ⟨b, 0, none⟩) :: pre s) v s.es
section
variable {B : Nat} {w : World} {t b : Nat} {s : Sta} {v : Value}
set_option maxRecDepth 100000 in
set_option maxHeartbeats 1000000 in
theorem state_any (h : StoAt B w t b s v) (h63 : s.es.length * 40 ≤ 140737488355328) : Calls Tryd.prog 12 #[.pointer (some ⟨t, 0, none⟩)] w (Few.Gives w s) := by
  obtain ⟨A, c, rfl, _, _, hr⟩ := h.form
  have hba : Below w.heap.size w (w.alloc (.cells #[.int .u64 0, .int .i64 0, .int .u64 0, .int .u64 0, .int .u64 0, .string ⟨#[]⟩, .slice none 0 0] 37)) := (Below.refl _ _).alloc (Nat.le_refl _) _
  have hcz := heap_alloc_new w (.cells #[.int .u64 0, .int .i64 0, .int .u64 0, .int .u64 0, .int .u64 0, .string ⟨#[]⟩, .slice none 0 0] 37)
  have h0 := h.below hba
  have hcp := copied_any s A s.es.length c _ ((Kit.Reads.below hr hba).more hba.size) h63
  have c1 := h0.at_ 1 rfl
  have c2 := h0.at_ 2 rfl
  have c3 := h0.at_ 3 rfl
  have c4 := h0.at_ 4 rfl
  have c5 := h0.at_ 5 rfl
  have c6 := h0.at_ 6 rfl
  have c7 := h0.at_ 7 rfl
  have hlt := h.lt
  obtain ⟨n, hn⟩ : ∃ n, s.es.length = n := ⟨_, rfl⟩
  unfold Few.Gives staV at hcp ⊢
  obtain ⟨tm, vt, ⟨ix, st, cf, d⟩, es⟩ := s
  simp only at *
  rw [hn] at hcp c7 ⊢
  have HCP := Lib.hid hcp
  have HCZ := Lib.hid hcz
  have HBA := Lib.hid hba
  have HN := Lib.hid hn
  clear hcp hcz hba h0 h hr hn
  go_enter Tryd.func12, Tryd.ntmps12
  go_wp2_with fail
  refine HCP.out.mono ?_
  rintro e w1 ⟨A', c', rfl, hown, hb1⟩
  have hcz1 := (hb1.block w.heap.size (lt_at HCZ.out)).trans HCZ.out
  have z0 : w1.cell? ⟨w.heap.size, 0, none⟩ = some (.int .u64 0) := by rw [cell_at hcz1]; rfl
  have z1 : w1.cell? ⟨w.heap.size, 1, none⟩ = some (.int .i64 0) := by rw [cell_at hcz1]; rfl
  have z2 : w1.cell? ⟨w.heap.size, 2, none⟩ = some (.int .u64 0) := by rw [cell_at hcz1]; rfl
  have z3 : w1.cell? ⟨w.heap.size, 3, none⟩ = some (.int .u64 0) := by rw [cell_at hcz1]; rfl
  have z4 : w1.cell? ⟨w.heap.size, 4, none⟩ = some (.int .u64 0) := by rw [cell_at hcz1]; rfl
  have z5 : w1.cell? ⟨w.heap.size, 5, none⟩ = some (.string ⟨#[]⟩) := by rw [cell_at hcz1]; rfl
  have z6 : w1.cell? ⟨w.heap.size, 6, none⟩ = some (.slice none 0 0) := by rw [cell_at hcz1]; rfl
  have g0 := free_at hcz1 0
  have g1 := free_at hcz1 1
  have g2 := free_at hcz1 2
  have g3 := free_at hcz1 3
  have g4 := free_at hcz1 4
  have g5 := free_at hcz1 5
  have g6 := free_at hcz1 6
  have hlt1 := lt_at hcz1
  have HZ1 := Lib.hid hcz1
  have HOwn := Lib.hid hown
  have HB1 := Lib.hid (HBA.out.trans (hb1.mono HBA.out.size))
  clear hcz1 hown hb1
  go_wp2_with fail
  obtain ⟨hblk, o2⟩ := set7 HZ1.out rfl (.int .u64 (tm : Int)) (.int .i64 vt) (.int .u64 (ix : Int)) (.int .u64 (st : Int)) (.int .u64 (cf : Int)) (.string d) (.slice A' n c')
  refine bodyPost_ret (results_cell_row (p := 2) (ty := 37) rfl _ _ w.heap.size 37 _ (0, 0) _ rfl hblk Tryd.underlying37 rfl (by kernel_rfl)) rfl ?_
  have hne : ∀ q, (Value.slice A' n c').ownBlock = some q → q ≠ w.heap.size := fun q hq e => by have := (HOwn.out.lt q hq).1; have := lt_at HCZ.out; omega
  exact ⟨A', c', rfl, own_base (o2.own HOwn.out hne) HBA.out.size, HB1.out.trans (o2.below HB1.out.size fun k hk => by omega)⟩
set_option maxRecDepth 100000 in
theorem state_none (w : World) : Calls Tryd.prog 12 #[.pointer none] w fun e w' => e = .returned (staV ⟨0, 0, ⟨0, 0, 0, ⟨#[]⟩⟩, []⟩ none 0 0) ∧ Below w.heap.size w w' := by
  have hba : Below w.heap.size w (w.alloc (.cells #[.int .u64 0, .int .i64 0, .int .u64 0, .int .u64 0, .int .u64 0, .string ⟨#[]⟩, .slice none 0 0] 37)) := (Below.refl _ _).alloc (Nat.le_refl _) _
  have hcz := heap_alloc_new w (.cells #[.int .u64 0, .int .i64 0, .int .u64 0, .int .u64 0, .int .u64 0, .string ⟨#[]⟩, .slice none 0 0] 37)
  have HCZ := Lib.hid hcz
  clear hcz
  go_enter Tryd.func12, Tryd.ntmps12
  go_wp2_with fail
  refine bodyPost_ret (results_cell_row (p := 2) (ty := 37) rfl _ _ w.heap.size 37 _ (0, 0) _ rfl HCZ.out Tryd.underlying37 rfl (by kernel_rfl)) rfl ?_
  exact ⟨rfl, hba⟩
end

/-- The slice of what stays. -/
def Stays (w : World) (s : Sta) (l : List Ent) (A : Option Addr) (c : Nat) (e : Ending) (w' : World) : Prop := ∃ k, k ≤ s.es.length ∧ stayE s l = s.es.take k ∧ e = .returned (.slice A k c) ∧ Below w.heap.size w w'
theorem ahead_nil {B : Nat} {w : World} {t b : Nat} {s : Sta} {A : Option Addr} {c : Nat} (h : StoAt B w t b s (.slice A s.es.length c)) (Al : Option Addr) (cl : Nat) :
    Calls Tryd.prog 27 #[.pointer (some ⟨t, 0, none⟩), .slice Al 0 cl] w (Stays w s [] A c) := by
  have c7 := h.at_ 7 rfl
  have hlt := h.lt
  have h63 : s.es.length ≤ 9223372036854775807 := by obtain ⟨A', c', he, h1, h2, _⟩ := h.form; omega
  obtain ⟨n, hn⟩ : ∃ n, s.es.length = n := ⟨_, rfl⟩
  rw [hn] at c7 h63
  have HN := Lib.hid hn
  clear hn h
  go_enter Tryd.func27, Tryd.ntmps27
  go_wp2_with fail
  go_loopw [5] (fun v wr => v = .slice A n c ∧ Below w.heap.size w wr) (fun _ _ => 1)
  case atStart => exact ⟨rfl, Below.refl _ _⟩
  case round =>
    obtain ⟨rfl, hbel⟩ := hrel
    have hg : decide ((0 : Int) < 0) = false := by decide
    go_wp2_with fail
    go_quiet (fail)
    go_wp2
    go_ret
    exact ⟨n, by rw [HN.out]; exact Nat.le_refl _, by rw [List.take_of_length_le (by rw [HN.out]; exact Nat.le_refl _)]; rfl, rfl, below_drewN hbel _⟩

theorem stay_of {s : Sta} (hc : chained s.es s.snap.idx s.snap.term = true) {e0 : Ent} {r : List Ent} {k : Nat} (hk : k ≤ s.es.length) (h1 : ∀ j e, k ≤ j → s.es[j]? = some e → e0.idx ≤ e.idx) (h2 : k = 0 ∨ ∃ e, s.es[k - 1]? = some e ∧ e.idx < e0.idx) : stayE s (e0 :: r) = s.es.take k := by
  refine while_split _ s.es k hk (fun j e hj he => ?_) (fun e he => ?_)
  · rcases h2 with h2 | ⟨e', he', hlt⟩
    · omega
    · have a := (follow_at hc he).1
      have b := (follow_at hc he').1
      exact decide_eq_true (by omega)
  · have := h1 k e (Nat.le_refl _) he
    exact decide_eq_false (by omega)
theorem sub_one {k m : Nat} (h : m + 1 = k) (h63 : k ≤ 9223372036854775807) : IntKind.i64.wrap ((k : Int) - 1) = (m : Int) ∧ wrap64 ((k : Int) - 1) = (m : Int) := by
  rw [IntKind.wrap_i64]
  unfold wrap64
  omega
set_option maxRecDepth 100000 in
set_option maxHeartbeats 2000000 in
theorem ahead_some {B : Nat} {w : World} {t b : Nat} {s : Sta} {A : Option Addr} {c : Nat} (h : StoAt B w t b s (.slice A s.es.length c)) (hch : chained s.es s.snap.idx s.snap.term = true) (Al : Option Addr) (nl cl : Nat) (e0 : Ent) (l : List Ent) (hl : RE w w.heap.size Al nl (e0 :: l)) (hnl : nl ≤ 9223372036854775807) :
    Calls Tryd.prog 27 #[.pointer (some ⟨t, 0, none⟩), .slice Al nl cl] w (Stays w s (e0 :: l) A c) := by
  have c7 := h.at_ 7 rfl
  have hlt := h.lt
  have hr : RE w w.heap.size A s.es.length s.es ∧ s.es.length ≤ c ∧ c ≤ 9223372036854775807 := by obtain ⟨A', c', he, h1, h2, h3⟩ := h.form; cases he; exact ⟨h3, h1, h2⟩
  obtain ⟨hr, hnc, hcm⟩ := hr
  have hln := RE.len hl
  have hnl0 : 0 < nl := by rw [← hln]; simp
  have hnli : decide ((0 : Int) < (nl : Int)) = true := decide_eq_true (by omega)
  have hnl1 : (0 : Int) < (nl : Int) := by omega
  obtain ⟨bl, ol, e0', rfl, hbl, he0, hf0⟩ := RE.at_ hl hnl0
  cases he0
  rw [Nat.zero_mul, Nat.add_zero] at hf0
  have i0 := hf0.c1
  obtain ⟨I, hI⟩ : ∃ I, e0.idx = I := ⟨_, rfl⟩
  rw [hI] at i0
  have HI := Lib.hid hI
  obtain ⟨n, hn⟩ : ∃ n, s.es.length = n := ⟨_, rfl⟩
  rw [hn] at c7 hnc hr
  have HN := Lib.hid hn
  have HCH := Lib.hid hch
  clear hn h hch hln hf0 hI
  go_enter Tryd.func27, Tryd.ntmps27
  go_wp2_with fail
  go_loopw [5] (fun v wr => ∃ k : Nat, k ≤ n ∧ v = .slice A k c ∧ Hid (∀ j e, k ≤ j → s.es[j]? = some e → e0.idx ≤ e.idx) ∧ Below w.heap.size w wr) (fun v _ => match v with | .slice _ k _ => k | _ => 0)
  case atStart => exact ⟨n, Nat.le_refl _, rfl, fun j e hj he => by have := (List.getElem?_eq_some_iff.1 he).1; have := HN.out; omega, Below.refl _ _⟩
  case round =>
    obtain ⟨k, hk, rfl, HA, hbel⟩ := hrel
    have j0 : wr.cell? ⟨bl, ol + 1, none⟩ = some (.int .u64 (I : Int)) := (hbel.cell (p := ⟨bl, ol + 1, none⟩) hbl).trans i0
    by_cases hk0 : k = 0
    · subst hk0
      have hg : decide ((0 : Int) < 0) = false := by decide
      have HS : Hid (stayE s (e0 :: l) = s.es.take 0) := stay_of HCH.out (Nat.zero_le _) HA.out (.inl rfl)
      go_wp2_with fail
      go_quiet (fail)
      go_wp2
      go_ret
      exact ⟨0, Nat.zero_le _, HS.out, rfl, below_drewN hbel _⟩
    · obtain ⟨m, hm⟩ : ∃ m, m + 1 = k := ⟨k - 1, by omega⟩
      obtain ⟨bb, o, e, rfl, hbb, hek, hfour⟩ := RE.at_ (RE.first hr hk) (k := m) (by omega)
      rw [List.getElem?_take, if_pos (by omega)] at hek
      have hfr := Four.below hfour hbel hbb
      have d1 := hfr.c1
      have hki : decide ((0 : Int) < (k : Int)) = true := decide_eq_true (by omega)
      have hk1 : (0 : Int) < (k : Int) := by omega
      have hk2 : decide (0 < k) = true := decide_eq_true (by omega)
      have hk3 : 0 < k := by omega
      obtain ⟨q1, q2⟩ := sub_one hm (by omega)
      have hm0 : (0 : Int) ≤ (m : Int) := by omega
      have hmk : (m : Int) < (k : Int) := by omega
      by_cases hge : e0.idx ≤ e.idx
      · have hge' : decide (I ≤ e.idx) = true := decide_eq_true (by rw [← HI.out]; exact hge)
        have hgi : decide ((I : Int) ≤ (e.idx : Int)) = true := decide_eq_true (by rw [← HI.out]; omega)
        have HNX : Hid (∀ j e, m ≤ j → s.es[j]? = some e → e0.idx ≤ e.idx) := fun j e' hj he' => by
          by_cases h : k ≤ j
          · exact HA.out j e' h he'
          · obtain rfl : j = m := by omega
            rw [hek] at he'
            cases he'
            exact hge
        obtain ⟨tm, ix, kd, d⟩ := e
        simp only at *
        clear hek hfour hfr HA hge
        have hmn : m ≤ n := by omega
        have hmc : m ≤ c := by omega
        go_wp2_with fail
        go_quiet (fail)
        go_wp2
        go_roundw
        case rel => exact ⟨m, hmn, rfl, HNX, below_drewN hbel _⟩
        case measure => simp; omega
      · have hge' : decide (I ≤ e.idx) = false := decide_eq_false (by rw [← HI.out]; exact hge)
        have hgi : decide ((I : Int) ≤ (e.idx : Int)) = false := decide_eq_false (by rw [← HI.out]; omega)
        have HS : Hid (stayE s (e0 :: l) = s.es.take k) := stay_of HCH.out (by rw [HN.out]; exact hk) HA.out (.inr ⟨e, by rw [← hm, Nat.add_sub_cancel]; exact hek, by omega⟩)
        obtain ⟨tm, ix, kd, d⟩ := e
        simp only at *
        clear hek hfour hfr HA hge
        go_wp2_with fail
        go_quiet (fail)
        go_wp2
        go_ret
        exact ⟨k, by rw [HN.out]; exact hk, HS.out, rfl, below_drewN hbel _⟩
end Go.Proofs.YtamncdpeklbhlaaDoor.Ahe
set_option linter.unusedVariables false
set_option linter.unusedSimpArgs false
namespace Go.Proofs.YtamncdpeklbhlaaDoor.Fol
open Go.RowKit Go.Proofs.YtamncdpeklbhlaaDoor.Kit Go.Proofs.YtamncdpeklbhlaaDoor.Blocks Go.Proofs.YtamncdpeklbhlaaDoor.Rlog Go.Proofs.YtamncdpeklbhlaaDoor.Sto Go.Proofs.YtamncdpeklbhlaaDoor.Sav Go.Proofs.YtamncdpeklbhlaaDoor.Ents Go.Proofs.YtamncdpeklbhlaaDoor.Hold Go.Proofs.YtamncdpeklbhlaaDoor.Few Go.Proofs.YtamncdpeklbhlaaDoor.Cut Go.Proofs.YtamncdpeklbhlaaDoor.Ahe Go.Proofs.YtamncdpeklbhlaaDoor.RlgWalkB Go.Proofs.YtamncdpeklbhlaaDoor.RlgWalkC
section
variable {B : Nat} {w : World} {t b : Nat} {s : Sta} {A : Option Addr} {c : Nat}

theorem ahead_any (h : StoAt B w t b s (.slice A s.es.length c)) (hr : right s = true) (Al : Option Addr) (nl cl : Nat) (l : List Ent) (hl : RE w w.heap.size Al nl l) (hnl : nl ≤ 9223372036854775807) :
    Calls Tryd.prog 27 #[.pointer (some ⟨t, 0, none⟩), .slice Al nl cl] w (Stays w s l A c) := by
  cases l with
  | nil =>
    obtain rfl : nl = 0 := (RE.len hl).symm
    exact ahead_nil h Al cl
  | cons e l => exact ahead_some h (right_iff.1 hr).1.2 Al nl cl e l hl hnl

set_option maxRecDepth 100000 in
set_option maxHeartbeats 2000000 in
theorem follow_none (h : StoAt B w t b s (.slice A s.es.length c)) (hs : StaB s) (Al : Option Addr) (nl cl : Nat) (l : List Ent) (hl : RE w w.heap.size Al nl l) (hlb : ∀ e ∈ l, EntB e) (h40 : nl * 40 ≤ 140737488355328) (hk : stayE s l = s.es.take 0) :
    Calls Tryd.prog 29 #[.pointer (some ⟨t, 0, none⟩), .slice A 0 c, .slice Al nl cl] w (Few.TellsB w (okB (behindS s l) l)) := by
  have c3 := h.at_ 3 rfl
  have c4 := h.at_ 4 rfl
  have c5 := h.at_ 5 rfl
  have c6 := h.at_ 6 rfl
  have hlt := h.lt
  have hb : behindS s l = s.snap := by unfold behindS; rw [hk, List.take_zero, lasts_nil]
  rw [hb]
  obtain ⟨r, hr⟩ : ∃ r, okB s.snap l = r := ⟨_, rfl⟩
  rw [hr]
  have hR := Lib.hid hr
  have hsn := hs.snap
  have hba : Below w.heap.size w (w.alloc (.cells #[.int .u64 (s.snap.idx : Int), .int .u64 (s.snap.term : Int), .int .u64 (s.snap.cfg : Int), .string s.snap.data] 34)) := (Below.refl _ _).alloc (Nat.le_refl _) _
  have hck := check_hid hsn Al nl cl _ ((Kit.Reads.below hl hba).more hba.size) hlb h40 hR
  obtain ⟨tm, vt, ⟨ix, st, cf, d⟩, es⟩ := s
  simp only at *
  have HCK := Lib.hid hck
  clear hck h hs hb hr hR hsn hk hl
  go_enter Tryd.func29, Tryd.ntmps29
  go_wp2_with fail
  refine HCK.out.mono ?_
  rintro e w1 ⟨a, rfl, hb1⟩
  cases r <;>
  · go_wp2
    go_ret
    exact ⟨rfl, hba.trans (hb1.mono hba.size)⟩
set_option maxRecDepth 100000 in
set_option maxHeartbeats 4000000 in
theorem follow_some (h : StoAt B w t b s (.slice A s.es.length c)) (hs : StaB s) (Al : Option Addr) (nl cl : Nat) (l : List Ent) (hl : RE w w.heap.size Al nl l) (hlb : ∀ e ∈ l, EntB e) (h40 : nl * 40 ≤ 140737488355328) (k m : Nat) (hm : m + 1 = k) (hkn : k ≤ s.es.length) (hk : stayE s l = s.es.take k) :
    Calls Tryd.prog 29 #[.pointer (some ⟨t, 0, none⟩), .slice A k c, .slice Al nl cl] w (Few.TellsB w (okB (behindS s l) l)) := by
  have c3 := h.at_ 3 rfl
  have c4 := h.at_ 4 rfl
  have c5 := h.at_ 5 rfl
  have c6 := h.at_ 6 rfl
  have hlt := h.lt
  have hr : RE w w.heap.size A s.es.length s.es ∧ s.es.length ≤ c ∧ c ≤ 9223372036854775807 := by obtain ⟨A', c', he, h1, h2, h3⟩ := h.form; cases he; exact ⟨h3, h1, h2⟩
  obtain ⟨hr, hnc, hcm⟩ := hr
  obtain ⟨bb, o, e, rfl, hbb, hek, hf⟩ := RE.at_ (RE.first hr hkn) (k := m) (by omega)
  rw [List.getElem?_take, if_pos (by omega)] at hek
  have d0 := hf.c0
  have d1 := hf.c1
  have hb : behindS s l = ⟨e.idx, e.term, s.snap.cfg, s.snap.data⟩ := by
    unfold behindS
    have := lasts_take s.es s.snap.idx s.snap.term m e hek
    rw [hm] at this
    rw [hk, this]
  have heb := hs.ents e (List.mem_of_getElem? hek)
  have hsb : SnapB ⟨e.idx, e.term, s.snap.cfg, s.snap.data⟩ := ⟨heb.idx, heb.term, hs.snap.cfg⟩
  rw [hb]
  obtain ⟨r, hro⟩ : ∃ r, okB ⟨e.idx, e.term, s.snap.cfg, s.snap.data⟩ l = r := ⟨_, rfl⟩
  rw [hro]
  have hR := Lib.hid hro
  have hck := fun W (hb : Below w.heap.size w W) => check_hid hsb Al nl cl W ((Kit.Reads.below hl hb).more hb.size) hlb h40 hR
  obtain ⟨q1, q2⟩ := sub_one hm (by omega)
  have hk2 : decide (0 < k) = true := decide_eq_true (by omega)
  have hk3 : 0 < k := by omega
  have hm0 : (0 : Int) ≤ (m : Int) := by omega
  have hmk : (m : Int) < (k : Int) := by omega
  obtain ⟨tm, vt, ⟨ix, st, cf, d⟩, es⟩ := s
  obtain ⟨etm, eix, ekd, ed⟩ := e
  simp only at *
  have HCK := Lib.hid hck
  have hba : Below w.heap.size w (w.alloc (.cells #[.int .u64 (ix : Int), .int .u64 (st : Int), .int .u64 (cf : Int), .string d] 34)) := (Below.refl _ _).alloc (Nat.le_refl _) _
  have hcb := heap_alloc_new w (.cells #[.int .u64 (ix : Int), .int .u64 (st : Int), .int .u64 (cf : Int), .string d] 34)
  obtain ⟨w0, hw0⟩ : ∃ w0, w.alloc (.cells #[.int .u64 (ix : Int), .int .u64 (st : Int), .int .u64 (cf : Int), .string d] 34) = w0 := ⟨_, rfl⟩
  have x0 : w0.cell? ⟨w.heap.size, 0, none⟩ = some (.int .u64 (ix : Int)) := by rw [← hw0, cell_at hcb]; rfl
  have x1 : w0.cell? ⟨w.heap.size, 1, none⟩ = some (.int .u64 (st : Int)) := by rw [← hw0, cell_at hcb]; rfl
  have x2 : w0.cell? ⟨w.heap.size, 2, none⟩ = some (.int .u64 (cf : Int)) := by rw [← hw0, cell_at hcb]; rfl
  have x3 : w0.cell? ⟨w.heap.size, 3, none⟩ = some (.string d) := by rw [← hw0, cell_at hcb]; rfl
  rw [hw0] at hcb hba
  have y0 := free_at hcb 0
  have y1 := free_at hcb 1
  have hltb : w.heap.size < w0.heap.size := lt_at hcb
  have hneb : ¬ bb = w.heap.size := by omega
  have e0 : w0.cell? ⟨bb, o + m * 4, none⟩ = some (.int .u64 (etm : Int)) := (hba.cell (p := ⟨bb, o + m * 4, none⟩) hbb).trans d0
  have e1 : w0.cell? ⟨bb, o + m * 4 + 1, none⟩ = some (.int .u64 (eix : Int)) := (hba.cell (p := ⟨bb, o + m * 4 + 1, none⟩) hbb).trans d1
  have o2 : Only (fun q => q = w.heap.size) w0 ((w0.setCell ⟨w.heap.size, 0, none⟩ (.int .u64 (eix : Int))).setCell ⟨w.heap.size, 1, none⟩ (.int .u64 (etm : Int))) := ((Only.refl (fun q => q = w.heap.size) w0).setCell (a := ⟨w.heap.size, 0, none⟩) (.inr rfl) _).setCell (a := ⟨w.heap.size, 1, none⟩) (.inr rfl) _
  have hb2 : Below w.heap.size w ((w0.setCell ⟨w.heap.size, 0, none⟩ (.int .u64 (eix : Int))).setCell ⟨w.heap.size, 1, none⟩ (.int .u64 (etm : Int))).drew := (hba.trans (o2.below hba.size fun k hk => by omega)).drew
  have HW0 := Lib.hid hw0
  have HB2 := Lib.hid hb2
  clear hck h hs hb hr hR hsb hk hl hek hf heb hro hcb hw0 o2 hb2
  go_enter Tryd.func29, Tryd.ntmps29
  go_wp2_with fail
  rw [HW0.out]
  go_region
  all_goals
    go_wp2_with fail
    refine (HCK.out _ HB2.out).mono ?_
    rintro e w1 ⟨a, rfl, hb1⟩
    have hB1 := HB2.out.trans (hb1.mono HB2.out.size)
    cases r <;>
    · go_wp2
      go_ret
      exact ⟨rfl, hB1⟩
theorem follow_any (h : StoAt B w t b s (.slice A s.es.length c)) (hs : StaB s) (Al : Option Addr) (nl cl : Nat) (l : List Ent) (hl : RE w w.heap.size Al nl l) (hlb : ∀ e ∈ l, EntB e) (h40 : nl * 40 ≤ 140737488355328) (k : Nat) (hkn : k ≤ s.es.length) (hk : stayE s l = s.es.take k) :
    Calls Tryd.prog 29 #[.pointer (some ⟨t, 0, none⟩), .slice A k c, .slice Al nl cl] w (Few.TellsB w (okB (behindS s l) l)) := by
  cases k with
  | zero => exact follow_none h hs Al nl cl l hl hlb h40 hk
  | succ m => exact follow_some h hs Al nl cl l hl hlb h40 (m + 1) m rfl hkn hk
end
end Go.Proofs.YtamncdpeklbhlaaDoor.Fol
set_option linter.unusedVariables false
set_option linter.unusedSimpArgs false
namespace Go.Proofs.YtamncdpeklbhlaaDoor.Rec
open Go.RowKit Go.Proofs.YtamncdpeklbhlaaDoor.Kit Go.Proofs.YtamncdpeklbhlaaDoor.Blocks Go.Proofs.YtamncdpeklbhlaaDoor.Rlog Go.Proofs.YtamncdpeklbhlaaDoor.Sto Go.Proofs.YtamncdpeklbhlaaDoor.Sav Go.Proofs.YtamncdpeklbhlaaDoor.Ents
open Go.Proofs.YtamncdpeklbhlaaDoor.Num (num)
open Go.Proofs.YtamncdpeklbhlaaDoor.State (WV)
open Go.Proofs.YtamncdpeklbhlaaDoor.PckWalkB (text)
open Go.Proofs.YtamncdpeklbhlaaDoor.PckWalkH (str)

/-- A writer that came behind a world, with what it laid. -/
structure Wrt (w0 W : World) (p : Nat) (l : List UInt8) : Prop where
  ex : ∃ v, WV W p v l
  low : w0.heap.size ≤ p
  bel : Below w0.heap.size w0 W
section
variable {w0 W W' : World} {p : Nat} {l : List UInt8}
theorem Wrt.cell (h : Wrt w0 W p l) {a : Addr} {v : Value} (hc : w0.cell? a = some v) (ha : a.block < w0.heap.size) : W.cell? a = some v := (h.bel.cell (p := a) ha).trans hc
theorem Wrt.drew (h : Wrt w0 W p l) : Wrt w0 W.drew p l := by
  obtain ⟨v, hv⟩ := h.ex
  exact ⟨⟨v, hv.below ((Below.refl _ _).drew)⟩, h.low, h.bel.drew⟩
theorem Wrt.next (h : Wrt w0 W p l) {l' : List UInt8} {v : Value} (hv : WV W p v l) {e : Ending} (k : State.Wrote p v.ownBlock l' W e W') : e = .returned (.pointer (some ⟨p, 0, none⟩)) ∧ Wrt w0 W' p l' := by
  obtain ⟨rfl, v', h1, h2⟩ := k
  have hl := h.low
  have hlt := hv.lt
  refine ⟨rfl, ⟨v', h1⟩, hl, h.bel.trans (h2.below h.bel.size hl fun g hg => ?_)⟩
  have := (hv.row g hg).1
  omega
theorem wrt_num {l' : List UInt8} (x : Nat) (h : Wrt w0 W p l) (hx : x < 18446744073709551616) (hl : l.length ≤ 140737488355000) (he : Hid (l ++ num x = l')) :
    Calls Tryd.prog 52 #[.pointer (some ⟨p, 0, none⟩), .int .u64 (x : Int)] W fun e W' => e = .returned (.pointer (some ⟨p, 0, none⟩)) ∧ Wrt w0 W' p l' := by
  obtain ⟨v, hv⟩ := h.ex
  refine (PckWalkA.num_any p v l x W hv hx hl).mono ?_
  intro e W' k
  rw [he.out] at k
  exact h.next hv k
theorem wrt_text {l' : List UInt8} (s : ByteArray) (h : Wrt w0 W p l) (hl : l.length + s.size ≤ 140737488355000) (he : Hid (l ++ text s = l')) :
    Calls Tryd.prog 54 #[.pointer (some ⟨p, 0, none⟩), .string s] W fun e W' => e = .returned (.pointer (some ⟨p, 0, none⟩)) ∧ Wrt w0 W' p l' := by
  obtain ⟨v, hv⟩ := h.ex
  refine (PckWalkB.text_any p v l s W hv hl).mono ?_
  intro e W' k
  rw [he.out] at k
  exact h.next hv k
theorem wrt_bytes {s : ByteArray} (h : Wrt w0 W p l) (he : Hid (str l = s)) :
    Calls Tryd.prog 53 #[.pointer (some ⟨p, 0, none⟩)] W fun e W' => e = .returned (.string s) ∧ Wrt w0 W' p l := by
  obtain ⟨v, hv⟩ := h.ex
  refine (PckWalkB.bytes_any p v l W hv).mono ?_
  rintro e W' ⟨rfl, rfl⟩
  refine ⟨?_, h⟩
  rw [← he.out]
  rfl
end
theorem saying_any (k : Nat) (z : Int) (hz : z = (k : Int)) (w0 w : World) (hb : Below w0.heap.size w0 w) (hk : k < 18446744073709551616) {l : List UInt8} (he : Hid (num k = l)) :
    Calls Tryd.prog 51 #[.int .u64 z] w fun e w' => ∃ p, e = .returned (.pointer (some ⟨p, 0, none⟩)) ∧ Wrt w0 w' p l := by
  have hwv : WV (w.alloc (.cells #[.slice none 0 0] 132)) w.heap.size (.slice none 0 0) [] := ⟨heap_alloc_new w _, World.ownsRow_nil _ _ _ _⟩
  have hba : Below w.heap.size w (w.alloc (.cells #[.slice none 0 0] 132)) := (Below.refl _ _).alloc (Nat.le_refl _) _
  have hW : Wrt w0 (w.alloc (.cells #[.slice none 0 0] 132)) w.heap.size [] := ⟨⟨_, hwv⟩, hb.size, hb.trans (hba.mono hb.size)⟩
  have HE : Hid ([] ++ num k = l) := he
  subst hz
  go_enter Tryd.func51, Tryd.ntmps51
  go_wp2_with fail
  refine (wrt_num k hW hk (by simp) HE).mono ?_
  rintro e w1 ⟨rfl, h1⟩
  go_wp2
  go_ret
  exact ⟨_, rfl, h1⟩

/-- What a record's function answers. -/
def Said (w : World) (l : List UInt8) (e : Ending) (w' : World) : Prop := e = .returned (.string (str l)) ∧ Below w.heap.size w w'
theorem cut_rec (i : Nat) (w : World) (hi : i < 18446744073709551616) : Calls Tryd.prog 57 #[.int .u64 (i : Int)] w (Said w (recCut i)) := by
  obtain ⟨l1, h1⟩ : ∃ l1, num 3 = l1 := ⟨_, rfl⟩
  obtain ⟨l2, h2⟩ : ∃ l2, l1 ++ num i = l2 := ⟨_, rfl⟩
  obtain ⟨s, hs⟩ : ∃ s, str l2 = s := ⟨_, rfl⟩
  have hl1 : l1.length ≤ 2 := by rw [← h1]; exact num_small (by decide)
  have hR : recCut i = l2 := by rw [← h2, ← h1]; rfl
  unfold Said
  rw [hR, hs]
  have H1 := Lib.hid h1
  have H2 := Lib.hid h2
  have HS := Lib.hid hs
  clear hR h1 h2 hs
  have hsay := saying_any 3 3 rfl w w (Below.refl _ _) (by decide) H1
  go_enter Tryd.func57, Tryd.ntmps57
  go_wp2_with fail
  refine hsay.mono ?_
  rintro e w1 ⟨p, rfl, hW1⟩
  go_wp2_with fail
  refine (wrt_num i hW1 hi (by omega) H2).mono ?_
  rintro e w2 ⟨rfl, hW2⟩
  go_wp2_with fail
  refine (wrt_bytes hW2 HS).mono ?_
  rintro e w3 ⟨rfl, hW3⟩
  go_wp2
  go_ret
  exact ⟨rfl, hW3.bel⟩

theorem wrap_uns (z : Int) : IntKind.u64.wrap z = (uns z : Int) := by
  unfold uns
  rw [IntKind.wrap_u64]
  omega
theorem wrap_vote {v : Int} (h0 : -9223372036854775808 ≤ v) (h1 : v ≤ 9223372036854775807) : IntKind.u64.wrap (IntKind.i64.wrap (v + 1)) = (uns (v + 1) : Int) := by
  rw [wrap_uns]
  unfold uns
  rw [IntKind.wrap_i64]
  omega

set_option maxRecDepth 100000 in
set_option maxHeartbeats 2000000 in
theorem hard_rec (t : Nat) (v : Int) (w : World) (ht : t < 18446744073709551616) (hv0 : -9223372036854775808 ≤ v) (hv1 : v ≤ 9223372036854775807) :
    Calls Tryd.prog 22 #[.agg #[.int .u64 (t : Int), .int .i64 v]] w (Said w (recHard t v)) := by
  obtain ⟨l1, h1⟩ : ∃ l1, num 1 = l1 := ⟨_, rfl⟩
  obtain ⟨l2, h2⟩ : ∃ l2, l1 ++ num t = l2 := ⟨_, rfl⟩
  obtain ⟨u, hu⟩ : ∃ u, uns (v + 1) = u := ⟨_, rfl⟩
  have hul : u < 18446744073709551616 := by rw [← hu]; exact uns_lt _
  obtain ⟨l3, h3⟩ : ∃ l3, l2 ++ num u = l3 := ⟨_, rfl⟩
  obtain ⟨s, hs⟩ : ∃ s, str l3 = s := ⟨_, rfl⟩
  have hl1 : l1.length ≤ 2 := by rw [← h1]; exact num_small (by decide)
  have hl2 : l2.length ≤ 11 := by rw [← h2, List.length_append]; have := num9 ht; omega
  have hR : recHard t v = l3 := by rw [← h3, ← h2, ← h1, ← hu, List.append_assoc]; rfl
  unfold Said
  rw [hR, hs]
  have hz := wrap_vote hv0 hv1
  rw [hu] at hz
  obtain ⟨z, hz1⟩ : ∃ z, IntKind.i64.wrap (v + 1) = z := ⟨_, rfl⟩
  have hz2 : wrap64 (v + 1) = z := by rw [← hz1, IntKind.wrap_i64]; unfold wrap64; omega
  rw [hz1] at hz
  have H1 := Lib.hid h1
  have H2 := Lib.hid h2
  have H3 := Lib.hid h3
  have HS := Lib.hid hs
  clear hR h1 h2 h3 hs hu
  have hba : Below w.heap.size w (w.alloc (.cells #[.int .u64 (t : Int), .int .i64 v] 32)) := (Below.refl _ _).alloc (Nat.le_refl _) _
  have hcb := heap_alloc_new w (.cells #[.int .u64 (t : Int), .int .i64 v] 32)
  have hlt : w.heap.size < (w.alloc (.cells #[.int .u64 (t : Int), .int .i64 v] 32)).heap.size := lt_at hcb
  have c0 : (w.alloc (.cells #[.int .u64 (t : Int), .int .i64 v] 32)).cell? ⟨w.heap.size, 0, none⟩ = some (.int .u64 (t : Int)) := by rw [cell_at hcb]; rfl
  have c1 : (w.alloc (.cells #[.int .u64 (t : Int), .int .i64 v] 32)).cell? ⟨w.heap.size, 1, none⟩ = some (.int .i64 v) := by rw [cell_at hcb]; rfl
  go_enter Tryd.func22, Tryd.ntmps22
  go_wp2_with fail
  go_region_held3 (fun w' => w'.cell? ⟨w.heap.size, 0, none⟩ = some (.int .u64 (t : Int)) ∧ w'.cell? ⟨w.heap.size, 1, none⟩ = some (.int .i64 v))
    (first
      | exact ⟨c0, c1⟩
      | exact ⟨hWD.cell c0 hlt, hWD.cell c1 hlt⟩
      | exact ⟨hWC.cell c0 hlt, hWC.cell c1 hlt⟩
      | exact ⟨hWB.cell c0 hlt, hWB.cell c1 hlt⟩
      | exact ⟨hWA.cell c0 hlt, hWA.cell c1 hlt⟩)
    (first
      | (go_at_call 51
         (with_reducible refine (saying_any 1 1 rfl (w.alloc (.cells #[.int .u64 (t : Int), .int .i64 v] 32)) _ ((Below.refl _ _).drew) (by decide) H1).mono ?_)
         rintro e wA ⟨p, rfl, hWA⟩)
      | (go_at_call 52
         (with_reducible refine (wrt_num t hWA ht (by omega) H2).mono ?_)
         rintro e wB ⟨rfl, hWB⟩)
      | (go_at_call 52
         (with_reducible refine (wrt_num u hWB hul (by omega) H3).mono ?_)
         rintro e wC ⟨rfl, hWC⟩)
      | (go_at_call 53
         (with_reducible refine (wrt_bytes hWC HS).mono ?_)
         rintro e wD ⟨rfl, hWD⟩))
  all_goals go_wp2
  all_goals go_ret
  all_goals exact ⟨rfl, hba.trans (hWD.bel.mono hba.size)⟩

set_option maxRecDepth 100000 in
set_option maxHeartbeats 4000000 in
theorem ent_rec (e : Ent) (w : World) (he : EntB e) (hd : e.data.size ≤ 140737488350000) :
    Calls Tryd.prog 24 #[.agg #[.int .u64 (e.term : Int), .int .u64 (e.idx : Int), .int .i64 e.kind, .string e.data]] w (Said w (recEnt e)) := by
  have ht := he.term
  have hi := he.idx
  obtain ⟨l1, h1⟩ : ∃ l1, num 2 = l1 := ⟨_, rfl⟩
  obtain ⟨l2, h2⟩ : ∃ l2, l1 ++ num e.term = l2 := ⟨_, rfl⟩
  obtain ⟨l3, h3⟩ : ∃ l3, l2 ++ num e.idx = l3 := ⟨_, rfl⟩
  obtain ⟨u, hu⟩ : ∃ u, uns e.kind = u := ⟨_, rfl⟩
  have hul : u < 18446744073709551616 := by rw [← hu]; exact uns_lt _
  have hz := wrap_uns e.kind
  rw [hu] at hz
  obtain ⟨l4, h4⟩ : ∃ l4, l3 ++ num u = l4 := ⟨_, rfl⟩
  obtain ⟨l5, h5⟩ : ∃ l5, l4 ++ text e.data = l5 := ⟨_, rfl⟩
  obtain ⟨s, hs⟩ : ∃ s, str l5 = s := ⟨_, rfl⟩
  have hl1 : l1.length ≤ 2 := by rw [← h1]; exact num_small (by decide)
  have hl2 : l2.length ≤ 11 := by rw [← h2, List.length_append]; have := num9 ht; omega
  have hl3 : l3.length ≤ 20 := by rw [← h3, List.length_append]; have := num9 hi; omega
  have hl4 : l4.length ≤ 29 := by rw [← h4, List.length_append]; have := num9 hul; omega
  have hR : recEnt e = l5 := by rw [← h5, ← h4, ← h3, ← h2, ← h1, ← hu]; simp only [recEnt, List.append_assoc]
  unfold Said
  rw [hR, hs]
  obtain ⟨tm, ix, kd, d⟩ := e
  simp only at *
  have H1 := Lib.hid h1
  have H2 := Lib.hid h2
  have H3 := Lib.hid h3
  have H4 := Lib.hid h4
  have H5 := Lib.hid h5
  have HS := Lib.hid hs
  clear hR h1 h2 h3 h4 h5 hs hu he
  have hba : Below w.heap.size w (w.alloc (.cells #[.int .u64 (tm : Int), .int .u64 (ix : Int), .int .i64 kd, .string d] 55)) := (Below.refl _ _).alloc (Nat.le_refl _) _
  have hcb := heap_alloc_new w (.cells #[.int .u64 (tm : Int), .int .u64 (ix : Int), .int .i64 kd, .string d] 55)
  have hlt : w.heap.size < (w.alloc (.cells #[.int .u64 (tm : Int), .int .u64 (ix : Int), .int .i64 kd, .string d] 55)).heap.size := lt_at hcb
  obtain ⟨w0, hw0⟩ : ∃ w0, w.alloc (.cells #[.int .u64 (tm : Int), .int .u64 (ix : Int), .int .i64 kd, .string d] 55) = w0 := ⟨_, rfl⟩
  have c0 : w0.cell? ⟨w.heap.size, 0, none⟩ = some (.int .u64 (tm : Int)) := by rw [← hw0, cell_at hcb]; rfl
  have c1 : w0.cell? ⟨w.heap.size, 1, none⟩ = some (.int .u64 (ix : Int)) := by rw [← hw0, cell_at hcb]; rfl
  have c2 : w0.cell? ⟨w.heap.size, 2, none⟩ = some (.int .i64 kd) := by rw [← hw0, cell_at hcb]; rfl
  have c3 : w0.cell? ⟨w.heap.size, 3, none⟩ = some (.string d) := by rw [← hw0, cell_at hcb]; rfl
  rw [hw0] at hba hlt
  have HW0 := Lib.hid hw0
  clear hcb hw0
  go_enter Tryd.func24, Tryd.ntmps24
  go_wp2_with fail
  rw [HW0.out]
  go_region_held3 (fun w' => w'.cell? ⟨w.heap.size, 0, none⟩ = some (.int .u64 (tm : Int)) ∧ w'.cell? ⟨w.heap.size, 1, none⟩ = some (.int .u64 (ix : Int)) ∧ w'.cell? ⟨w.heap.size, 2, none⟩ = some (.int .i64 kd) ∧ w'.cell? ⟨w.heap.size, 3, none⟩ = some (.string d))
    (first
      | exact ⟨c0, c1, c2, c3⟩
      | exact ⟨hWF.cell c0 hlt, hWF.cell c1 hlt, hWF.cell c2 hlt, hWF.cell c3 hlt⟩
      | exact ⟨hWE.cell c0 hlt, hWE.cell c1 hlt, hWE.cell c2 hlt, hWE.cell c3 hlt⟩
      | exact ⟨hWD.cell c0 hlt, hWD.cell c1 hlt, hWD.cell c2 hlt, hWD.cell c3 hlt⟩
      | exact ⟨hWC.cell c0 hlt, hWC.cell c1 hlt, hWC.cell c2 hlt, hWC.cell c3 hlt⟩
      | exact ⟨hWB.cell c0 hlt, hWB.cell c1 hlt, hWB.cell c2 hlt, hWB.cell c3 hlt⟩
      | exact ⟨hWA.cell c0 hlt, hWA.cell c1 hlt, hWA.cell c2 hlt, hWA.cell c3 hlt⟩)
    (first
      | (go_at_call 51
         (with_reducible refine (saying_any 2 2 rfl w0 _ ((Below.refl _ _).drew) (by decide) H1).mono ?_)
         rintro e wA ⟨p, rfl, hWA⟩)
      | (go_at_call 52
         (with_reducible refine (wrt_num tm hWA ht (by omega) H2).mono ?_)
         rintro e wB ⟨rfl, hWB⟩)
      | (go_at_call 52
         (with_reducible refine (wrt_num ix hWB hi (by omega) H3).mono ?_)
         rintro e wC ⟨rfl, hWC⟩)
      | (go_at_call 52
         (with_reducible refine (wrt_num u hWC hul (by omega) H4).mono ?_)
         rintro e wD ⟨rfl, hWD⟩)
      | (go_at_call 54
         (with_reducible refine (wrt_text d hWD (by omega) H5).mono ?_)
         rintro e wE ⟨rfl, hWE⟩)
      | (go_at_call 53
         (with_reducible refine (wrt_bytes hWE HS).mono ?_)
         rintro e wF ⟨rfl, hWF⟩))
  all_goals go_wp2
  all_goals go_ret
  all_goals exact ⟨rfl, hba.trans (hWF.bel.mono hba.size)⟩

set_option maxRecDepth 100000 in
set_option maxHeartbeats 4000000 in
theorem snap_rec (e : Snap) (w : World) (he : SnapB e) (hd : e.data.size ≤ 140737488350000) :
    Calls Tryd.prog 23 #[.agg #[.int .u64 (e.idx : Int), .int .u64 (e.term : Int), .int .u64 (e.cfg : Int), .string e.data]] w (Said w (recSnap e)) := by
  have ht := he.idx
  have hi := he.term
  have hul := he.cfg
  obtain ⟨l1, h1⟩ : ∃ l1, num 4 = l1 := ⟨_, rfl⟩
  obtain ⟨l2, h2⟩ : ∃ l2, l1 ++ num e.idx = l2 := ⟨_, rfl⟩
  obtain ⟨l3, h3⟩ : ∃ l3, l2 ++ num e.term = l3 := ⟨_, rfl⟩
  obtain ⟨l4, h4⟩ : ∃ l4, l3 ++ num e.cfg = l4 := ⟨_, rfl⟩
  obtain ⟨l5, h5⟩ : ∃ l5, l4 ++ text e.data = l5 := ⟨_, rfl⟩
  obtain ⟨s, hs⟩ : ∃ s, str l5 = s := ⟨_, rfl⟩
  have hl1 : l1.length ≤ 2 := by rw [← h1]; exact num_small (by decide)
  have hl2 : l2.length ≤ 11 := by rw [← h2, List.length_append]; have := num9 ht; omega
  have hl3 : l3.length ≤ 20 := by rw [← h3, List.length_append]; have := num9 hi; omega
  have hl4 : l4.length ≤ 29 := by rw [← h4, List.length_append]; have := num9 hul; omega
  have hR : recSnap e = l5 := by rw [← h5, ← h4, ← h3, ← h2, ← h1]; simp only [recSnap, List.append_assoc]
  unfold Said
  rw [hR, hs]
  obtain ⟨tm, ix, kd, d⟩ := e
  simp only at *
  have H1 := Lib.hid h1
  have H2 := Lib.hid h2
  have H3 := Lib.hid h3
  have H4 := Lib.hid h4
  have H5 := Lib.hid h5
  have HS := Lib.hid hs
  clear hR h1 h2 h3 h4 h5 hs he
  have hba : Below w.heap.size w (w.alloc (.cells #[.int .u64 (tm : Int), .int .u64 (ix : Int), .int .u64 (kd : Int), .string d] 34)) := (Below.refl _ _).alloc (Nat.le_refl _) _
  have hcb := heap_alloc_new w (.cells #[.int .u64 (tm : Int), .int .u64 (ix : Int), .int .u64 (kd : Int), .string d] 34)
  have hlt : w.heap.size < (w.alloc (.cells #[.int .u64 (tm : Int), .int .u64 (ix : Int), .int .u64 (kd : Int), .string d] 34)).heap.size := lt_at hcb
  obtain ⟨w0, hw0⟩ : ∃ w0, w.alloc (.cells #[.int .u64 (tm : Int), .int .u64 (ix : Int), .int .u64 (kd : Int), .string d] 34) = w0 := ⟨_, rfl⟩
  have c0 : w0.cell? ⟨w.heap.size, 0, none⟩ = some (.int .u64 (tm : Int)) := by rw [← hw0, cell_at hcb]; rfl
  have c1 : w0.cell? ⟨w.heap.size, 1, none⟩ = some (.int .u64 (ix : Int)) := by rw [← hw0, cell_at hcb]; rfl
  have c2 : w0.cell? ⟨w.heap.size, 2, none⟩ = some (.int .u64 (kd : Int)) := by rw [← hw0, cell_at hcb]; rfl
  have c3 : w0.cell? ⟨w.heap.size, 3, none⟩ = some (.string d) := by rw [← hw0, cell_at hcb]; rfl
  rw [hw0] at hba hlt
  have HW0 := Lib.hid hw0
  clear hcb hw0
  go_enter Tryd.func23, Tryd.ntmps23
  go_wp2_with fail
  rw [HW0.out]
  go_region_held3 (fun w' => w'.cell? ⟨w.heap.size, 0, none⟩ = some (.int .u64 (tm : Int)) ∧ w'.cell? ⟨w.heap.size, 1, none⟩ = some (.int .u64 (ix : Int)) ∧ w'.cell? ⟨w.heap.size, 2, none⟩ = some (.int .u64 (kd : Int)) ∧ w'.cell? ⟨w.heap.size, 3, none⟩ = some (.string d))
    (first
      | exact ⟨c0, c1, c2, c3⟩
      | exact ⟨hWF.cell c0 hlt, hWF.cell c1 hlt, hWF.cell c2 hlt, hWF.cell c3 hlt⟩
      | exact ⟨hWE.cell c0 hlt, hWE.cell c1 hlt, hWE.cell c2 hlt, hWE.cell c3 hlt⟩
      | exact ⟨hWD.cell c0 hlt, hWD.cell c1 hlt, hWD.cell c2 hlt, hWD.cell c3 hlt⟩
      | exact ⟨hWC.cell c0 hlt, hWC.cell c1 hlt, hWC.cell c2 hlt, hWC.cell c3 hlt⟩
      | exact ⟨hWB.cell c0 hlt, hWB.cell c1 hlt, hWB.cell c2 hlt, hWB.cell c3 hlt⟩
      | exact ⟨hWA.cell c0 hlt, hWA.cell c1 hlt, hWA.cell c2 hlt, hWA.cell c3 hlt⟩)
    (first
      | (go_at_call 51
         (with_reducible refine (saying_any 4 4 rfl w0 _ ((Below.refl _ _).drew) (by decide) H1).mono ?_)
         rintro e wA ⟨p, rfl, hWA⟩)
      | (go_at_call 52
         (with_reducible refine (wrt_num tm hWA ht (by omega) H2).mono ?_)
         rintro e wB ⟨rfl, hWB⟩)
      | (go_at_call 52
         (with_reducible refine (wrt_num ix hWB hi (by omega) H3).mono ?_)
         rintro e wC ⟨rfl, hWC⟩)
      | (go_at_call 52
         (with_reducible refine (wrt_num kd hWC hul (by omega) H4).mono ?_)
         rintro e wD ⟨rfl, hWD⟩)
      | (go_at_call 54
         (with_reducible refine (wrt_text d hWD (by omega) H5).mono ?_)
         rintro e wE ⟨rfl, hWE⟩)
      | (go_at_call 53
         (with_reducible refine (wrt_bytes hWE HS).mono ?_)
         rintro e wF ⟨rfl, hWF⟩))
  all_goals go_wp2
  all_goals go_ret
  all_goals exact ⟨rfl, hba.trans (hWF.bel.mono hba.size)⟩
end Go.Proofs.YtamncdpeklbhlaaDoor.Rec
set_option linter.unusedVariables false
set_option linter.unusedSimpArgs false
namespace Go.Proofs.YtamncdpeklbhlaaDoor.Chg
open Go.RowKit Go.Proofs.YtamncdpeklbhlaaDoor.Kit Go.Proofs.YtamncdpeklbhlaaDoor.Blocks Go.Proofs.YtamncdpeklbhlaaDoor.Rlog Go.Proofs.YtamncdpeklbhlaaDoor.Sto Go.Proofs.YtamncdpeklbhlaaDoor.Sav Go.Proofs.YtamncdpeklbhlaaDoor.Ents Go.Proofs.YtamncdpeklbhlaaDoor.Hold Go.Proofs.YtamncdpeklbhlaaDoor.Few Go.Proofs.YtamncdpeklbhlaaDoor.Cut Go.Proofs.YtamncdpeklbhlaaDoor.Ahe Go.Proofs.YtamncdpeklbhlaaDoor.Fol Go.Proofs.YtamncdpeklbhlaaDoor.RlgWalkB Go.Proofs.YtamncdpeklbhlaaDoor.RlgWalkC Go.Proofs.YtamncdpeklbhlaaDoor.ScA
open Go.Proofs.YtamncdpeklbhlaaDoor.PckWalkH (str)

/-- A row of records under way. -/
def Mid (w : World) (L : List (List UInt8)) (v : Value) (W : World) : Prop := ∃ A c, v = .slice A L.length c ∧ W.ownsRow w.heap.size 9 1 (.slice A L.length c) L.length (strs L) ∧ Below w.heap.size w W
theorem Mid.below {w W W' : World} {L : List (List UInt8)} {v : Value} (h : Mid w L v W) (k : Below W.heap.size W W') : Mid w L v W' := by
  obtain ⟨A, c, he, h1, h2⟩ := h
  exact ⟨A, c, he, own_below h1 k, h2.trans (k.mono h2.size)⟩
/-- One record more. -/
theorem wpList_rec {ops : Array Oper} {rest : List Oper} {o : Oper} {a : Act} {Q : Exit → Act → World → Prop} {w w0 : World} {L : List (List UInt8)} {x : List UInt8} {X : ByteArray} {A : Option Addr} {c n : Nat} (s y : Operand) (hgd : o.guard = none)
    (ho : o.op = .call { callee := .builtin .append, args := #[s, y], argTypes := #[61, 61] }) {wc : World} (hwc : wc = w.alloc (.cells #[.string X] 9))
    (hn : Hid (L.length = n)) (hm : w.ownsRow w0.heap.size 9 1 (.slice A n c) n (strs L)) (hB : Below w0.heap.size w0 w) (hs : a.eval s = .slice A n c) (hy : a.eval y = .slice (some ⟨w.heap.size, 0, none⟩) 1 1) (hX : Hid (str x = X)) (hb : n ≤ 2000000)
    (h : ∀ A' c' w', Mid w0 (L ++ [x]) (.slice A' (n + 1) c') w' → wpList Tryd.prog ops Q rest (a.put o.dst (.slice A' (n + 1) c')) w') : wpList Tryd.prog ops Q (o :: rest) a wc := by
  obtain ⟨i0, hi0, hz0, hz1, hz2⟩ := info_parts info9
  subst hwc
  have hba : Below w.heap.size w (w.alloc (.cells #[.string X] 9)) := (Below.refl _ _).alloc (Nat.le_refl _) _
  have hB2 := hB.trans (hba.mono hB.size)
  refine wpList_append_any _ hgd s y _ ho w0.heap.size 9 i0 _ 1 16 Tryd.underlying61 hi0 hz0 hz1 hz2 rfl (by decide) _ n (strs L) hs (own_below hm hba)
    (w.heap.size + 1) _ 1 1 [.string X] hy (reads_one w (.string X) 9) (by simp [Value.oneCell']) (by unfold maxLen; omega) (by omega) hB2.size ?_
  intro v' w' hown hg hat
  obtain ⟨A', c', rfl, _, _, _⟩ := own_form hown
  refine h A' c' w' ⟨A', c', by rw [List.length_append, hn.out]; rfl, ?_, hB2.grown hg hB2.size (own_lt (own_below hm hba))⟩
  have e : (L ++ [x]).length = n + 1 := by rw [List.length_append, hn.out]; rfl
  have e2 : strs (L ++ [x]) = strs L ++ [.string X] := by rw [strs_append, ← hX.out]; rfl
  rw [e, e2]
  exact hown
theorem neq_hard (a b c d : Int) (w : World) : (binOp .neq 32 (.agg #[.int .u64 a, .int .i64 b]) (.agg #[.int .u64 c, .int .i64 d])).run Tryd.prog w = .ok (.bool (!(a == c && b == d))) w := by
  by_cases h1 : a = c <;> by_cases h2 : b = d <;> simp [binOp, Op.equal, Op.maxDepth, go_sem, h1, h2]
theorem rec_hard (t : Nat) (v : Int) (W : World) {X : ByteArray} (ht : t < 18446744073709551616) (hv0 : -9223372036854775808 ≤ v) (hv1 : v ≤ 9223372036854775807) (hX : Hid (str (recHard t v) = X)) :
    Calls Tryd.prog 22 #[.agg #[.int .u64 (t : Int), .int .i64 v]] W fun e w' => e = .returned (.string X) ∧ Below W.heap.size W w' := by
  have := Rec.hard_rec t v W ht hv0 hv1
  unfold Rec.Said at this
  rwa [hX.out] at this
theorem rec_cut (i : Nat) (W : World) {X : ByteArray} (hi : i < 18446744073709551616) (hX : Hid (str (recCut i) = X)) :
    Calls Tryd.prog 57 #[.int .u64 (i : Int)] W fun e w' => e = .returned (.string X) ∧ Below W.heap.size W w' := by
  have := Rec.cut_rec i W hi
  unfold Rec.Said at this
  rwa [hX.out] at this
theorem rec_ent (x : Ent) (W : World) {X : ByteArray} (hb : EntB x) (hd : x.data.size ≤ 32768) (hX : Hid (str (recEnt x) = X)) :
    Calls Tryd.prog 24 #[.agg #[.int .u64 (x.term : Int), .int .u64 (x.idx : Int), .int .i64 x.kind, .string x.data]] W fun e w' => e = .returned (.string X) ∧ Below W.heap.size W w' := by
  have := Rec.ent_rec x W hb (by omega)
  unfold Rec.Said at this
  rwa [hX.out] at this
theorem map_snoc {l : List Ent} {k : Nat} {e : Ent} (h : l[k]? = some e) : (l.take (k + 1)).map recEnt = (l.take k).map recEnt ++ [recEnt e] := by rw [take_snoc l k e h]; simp

/-- What changes answers. -/
def Outs (w : World) (L : List (List UInt8)) (e : Ending) (W : World) : Prop := ∃ v, e = .returned v ∧ Mid w L v W
set_option maxRecDepth 100000 in
set_option maxHeartbeats 8000000 in
theorem changes_any {B : Nat} {w : World} {t b : Nat} {s : Sta} {A : Option Addr} {c : Nat} (h : StoAt B w t b s (.slice A s.es.length c)) (tm : Nat) (vt : Int) (k : Nat) (Al : Option Addr) (nl cl : Nat) (l : List Ent) (hl : RE w w.heap.size Al nl l) (hlb : ∀ e ∈ l, EntB e) (hls : ∀ e ∈ l, e.data.size ≤ 32768)
    (hnl : nl ≤ 1000000) (ht : tm < 18446744073709551616) (hv0 : -9223372036854775808 ≤ vt) (hv1 : vt ≤ 9223372036854775807) (hkn : k ≤ s.es.length) (hk : stayE s l = s.es.take k) :
    Calls Tryd.prog 30 #[.pointer (some ⟨t, 0, none⟩), .agg #[.int .u64 (tm : Int), .int .i64 vt], .slice A k c, .slice Al nl cl] w (Outs w (hards s tm vt ++ (pcuts s l ++ l.map recEnt))) := by
  have hh := h
  have hlt := h.lt
  have hln := RE.len hl
  have hcap : s.es.length ≤ 9223372036854775807 := by obtain ⟨A', c', he, h1, h2, _⟩ := h.form; omega
  have hba : Below w.heap.size w (w.alloc (.cells #[.int .u64 (tm : Int), .int .i64 vt] 32)) := (Below.refl _ _).alloc (Nat.le_refl _) _
  have hcb := heap_alloc_new w (.cells #[.int .u64 (tm : Int), .int .i64 vt] 32)
  obtain ⟨w0, hw0⟩ : ∃ w0, w.alloc (.cells #[.int .u64 (tm : Int), .int .i64 vt] 32) = w0 := ⟨_, rfl⟩
  rw [hw0] at hba hcb
  have x0 : w0.cell? ⟨w.heap.size, 0, none⟩ = some (.int .u64 (tm : Int)) := by rw [cell_at hcb]; rfl
  have x1 : w0.cell? ⟨w.heap.size, 1, none⟩ = some (.int .i64 vt) := by rw [cell_at hcb]; rfl
  have hltb : w.heap.size < w0.heap.size := lt_at hcb
  have h0 := h.below hba
  have c1 := h0.at_ 1 rfl
  have c2 := h0.at_ 2 rfl
  have HW0 := Lib.hid hw0
  have HCB := Lib.hid hcb
  have HBA := Lib.hid hba
  have HH := Lib.hid hh
  have HL := Lib.hid hl
  have HLN := Lib.hid hln
  obtain ⟨n, hn⟩ : ∃ n, s.es.length = n := ⟨_, rfl⟩
  have HN := Lib.hid hn
  rw [hn] at hkn hcap
  obtain ⟨T, hT⟩ : ∃ T, s.term = T := ⟨_, rfl⟩
  obtain ⟨V, hV⟩ : ∃ V, s.vote = V := ⟨_, rfl⟩
  rw [hT] at c1
  rw [hV] at c2
  have hneq := fun W => neq_hard (tm : Int) vt (T : Int) V W
  obtain ⟨q, hq⟩ : ∃ q, (!((tm : Int) == (T : Int) && vt == V)) = q := ⟨_, rfl⟩
  rw [hq] at hneq
  have HQ : Hid (q = true ↔ ¬ (tm = T ∧ vt = V)) := by
    have : q = true ↔ ¬ (tm = T ∧ vt = V) := by
      rw [← hq]
      by_cases e1 : tm = T <;> by_cases e2 : vt = V <;> simp [e1, e2]
      omega
    exact this
  have HT := Lib.hid hT
  have HV := Lib.hid hV
  have HK := Lib.hid hk
  have HLB := Lib.hid hlb
  have HLS := Lib.hid hls
  clear hw0 hcb hh h h0 hl hln hn hT hV hq hk hlb hls
  go_enter Tryd.func30, Tryd.ntmps30
  go_wp2_with fail
  rw [HW0.out]
  go_quiet (fail)
  have hbq := below_drewN (Below.refl w0.heap.size w0) nq
  generalize w0.drewN nq = wq at hbq ⊢
  have y0 : wq.cell? ⟨w.heap.size, 0, none⟩ = some (.int .u64 (tm : Int)) := (hbq.cell (p := ⟨w.heap.size, 0, none⟩) hltb).trans x0
  have y1 : wq.cell? ⟨w.heap.size, 1, none⟩ = some (.int .i64 vt) := (hbq.cell (p := ⟨w.heap.size, 1, none⟩) hltb).trans x1
  go_upto_if 18 with fail
  go_cut [9] from 19 to 23 (fun v wx => Mid w0 (hards s tm vt) v wx)
  case first =>
    cases q with
    | false =>
      have HE : Hid (hards s tm vt = []) := if_pos (by rw [HT.out, HV.out]; exact Classical.byContradiction fun e => by have := HQ.out.2 e; cases this)
      go_wp2_with fail
      go_meet
      rw [HE.out]
      exact ⟨none, 0, rfl, World.ownsRow_nil _ _ _ _, hbq⟩
    | true =>
      have HE : Hid (hards s tm vt = [recHard tm vt]) := if_neg (by rw [HT.out, HV.out]; exact HQ.out.1 rfl)
      obtain ⟨X, hX⟩ : ∃ X, str (recHard tm vt) = X := ⟨_, rfl⟩
      have HX := Lib.hid hX
      clear hX
      go_wp2_with fail
      refine (rec_hard tm vt _ ht hv0 hv1 HX).mono ?_
      rintro e w1 ⟨rfl, hb1⟩
      have hB1 := hbq.trans (hb1.mono hbq.size)
      have hn0 : Hid (([] : List (List UInt8)).length = 0) := rfl
      have hrow : w1.ownsRow w0.heap.size 9 1 (.slice none 0 0) 0 (strs []) := World.ownsRow_nil _ _ _ _
      go_wp2_with
        (at_builtin
         refine wpList_rec (.tmp 19) (.tmp 22) rfl rfl rfl hn0 hrow hB1 rfl rfl HX (by decide) ?_
         intro A1 c1 w2 hm2)
      go_meet
      rw [HE.out]
      exact hm2
  case rest =>
    obtain ⟨A1, c1, rfl, hrow1, hB1⟩ := hcut
    obtain ⟨n1, hn1⟩ : ∃ n1, (hards s tm vt).length = n1 := ⟨_, rfl⟩
    have hn1b : n1 ≤ 1 := by rw [← hn1]; exact hards_len _ _ _
    rw [hn1] at hrow1 ⊢
    have HN1 := Lib.hid hn1
    have hb2 := HBA.out.trans (hB1.mono HBA.out.size)
    have h2 := HH.out.below hb2
    have c7 := h2.at_ 7 rfl
    rw [HN.out] at c7
    have hlt2 := h2.lt
    have HB1 := Lib.hid hB1
    have HR1 := Lib.hid hrow1
    obtain ⟨q2, hki⟩ : ∃ q2, decide (k < n) = q2 := ⟨_, rfl⟩
    clear hn1 h2 hrow1 hB1
    go_upto_if 32 with fail
    go_cut [9] from 33 to 40 (fun v wx => Mid w0 (hards s tm vt ++ pcuts s l) v wx)
    case first =>
      have hsl : (stayE s l).length = k := by rw [HK.out, List.length_take, HN.out]; omega
      cases q2 with
      | true =>
        have hkn2 : k < n := of_decide_eq_true hki
        have hnl0 : 0 < nl := by
          rcases Nat.eq_zero_or_pos nl with h0 | h0
          · have hl0 : l = [] := List.eq_nil_of_length_eq_zero (by rw [HLN.out, h0])
            subst hl0
            have : (stayE s []).length = n := HN.out
            omega
          · exact h0
        obtain ⟨bl, ol, e0, rfl, hbl, he0, hf0⟩ := RE.at_ HL.out hnl0
        rw [Nat.zero_mul, Nat.add_zero] at hf0
        have i0 : wc.cell? ⟨bl, ol + 1, none⟩ = some (.int .u64 (e0.idx : Int)) := (hb2.cell (p := ⟨bl, ol + 1, none⟩) hbl).trans hf0.c1
        have heb := (HLB.out e0 (List.mem_of_getElem? he0)).idx
        have hnl1 : (0 : Int) < (nl : Int) := by omega
        have HP : Hid (pcuts s l = [recCut e0.idx]) := by
          have : pcuts s l = [recCut e0.idx] := by
            match l, he0, hsl with
            | x :: r, he0, hsl =>
              simp only [List.getElem?_cons_zero, Option.some.injEq] at he0
              subst he0
              unfold pcuts
              simp only
              rw [hsl, if_pos (by rw [HN.out]; exact hkn2)]
          exact this
        obtain ⟨X, hX⟩ : ∃ X, str (recCut e0.idx) = X := ⟨_, rfl⟩
        have HX := Lib.hid hX
        obtain ⟨ix, hix⟩ : ∃ ix, e0.idx = ix := ⟨_, rfl⟩
        rw [hix] at HX HP heb i0
        clear hX he0 hf0 hix hsl
        go_wp2_with fail
        refine (rec_cut ix _ heb HX).mono ?_
        rintro e w1 ⟨rfl, hb1⟩
        have hR := own_below HR1.out hb1
        have hB := HB1.out.trans (hb1.mono HB1.out.size)
        go_wp2_with
          (at_builtin
           refine wpList_rec (.tmp 33) (.tmp 39) rfl rfl rfl HN1 hR hB rfl rfl HX (by omega) ?_
           intro A2 c2 w2 hm2)
        go_meet
        rw [HP.out]
        exact hm2
      | false =>
        have hkn2 : ¬ k < n := of_decide_eq_false hki
        have HP : Hid (pcuts s l = []) := by
          have : pcuts s l = [] := by
            cases l with
            | nil => rfl
            | cons e0 r =>
              unfold pcuts
              simp only
              rw [hsl, if_neg (by rw [HN.out]; exact hkn2)]
          exact this
        clear hsl
        go_wp2_with fail
        go_meet
        rw [HP.out, List.append_nil]
        exact ⟨A1, c1, by rw [HN1.out], by rw [HN1.out]; exact HR1.out, HB1.out⟩
    case rest =>
      obtain ⟨L0, hL0⟩ : ∃ L0, hards s tm vt ++ pcuts s l = L0 := ⟨_, rfl⟩
      have hL0n : L0.length ≤ 2 := by
        rw [← hL0, List.length_append]
        have h1 := hards_len s tm vt
        have h2 : (pcuts s l).length ≤ 1 := by
          cases l with
          | nil => simp [pcuts]
          | cons e r => unfold pcuts; simp only; split <;> simp
        omega
      rw [hL0] at hcut
      have HL0 := Lib.hid hL0
      have HC := Lib.hid hcut
      have hbc := hb2
      clear hL0 hcut
      go_wp2_with fail
      go_loopw [9, 43] (fun v i wr => ∃ j : Nat, j ≤ nl ∧ i = .int .i64 (j : Int) ∧ Mid w0 (L0 ++ (l.take j).map recEnt) v wr) (fun _ i _ => nl - (intOf i).toNat)
      case atStart => exact ⟨0, Nat.zero_le _, rfl, by rw [List.take_zero, List.map_nil, List.append_nil]; exact HC.out⟩
      case round =>
        obtain ⟨j, hj, rfl, hmid⟩ := hrel
        obtain ⟨A2, c2, rfl, hrow2, hB2⟩ := hmid
        obtain ⟨n2, hn2⟩ : ∃ n2, (L0 ++ (l.take j).map recEnt).length = n2 := ⟨_, rfl⟩
        have hn2b : n2 ≤ 1000002 := by
          rw [← hn2, List.length_append, List.length_map, List.length_take]
          omega
        rw [hn2] at hrow2 ⊢
        have HN2 := Lib.hid hn2
        have hsz2 := hB2.size
        have hb3 := HBA.out.trans (hB2.mono HBA.out.size)
        by_cases hjn : j < nl
        · obtain ⟨bl, ol, x, rfl, hbl, hx, hf⟩ := RE.at_ HL.out hjn
          have hfr := Four.below hf hb3 hbl
          have e0 := hfr.c0
          have e1 := hfr.c1
          have e2 := hfr.c2
          have e3 := hfr.c3
          have hxm := List.mem_of_getElem? hx
          obtain ⟨X, hX⟩ : ∃ X, str (recEnt x) = X := ⟨_, rfl⟩
          have HX := Lib.hid hX
          have hrec := fun W => rec_ent x W (HLB.out x hxm) (HLS.out x hxm) HX
          have HSN := Lib.hid (map_snoc hx)
          have hba2 : Below wr.heap.size wr (wr.alloc (.cells #[.int .u64 (x.term : Int), .int .u64 (x.idx : Int), .int .i64 x.kind, .string x.data] 55)) := (Below.refl _ _).alloc (Nat.le_refl _) _
          have hR2 := own_below hrow2 hba2
          have hB3 := hB2.trans (hba2.mono hsz2)
          obtain ⟨tm', ix, kd, d⟩ := x
          simp only at *
          have HRec := Lib.hid hrec
          clear hrec hX hxm hx hf hfr hn2 hrow2
          go_wp2_with fail
          refine (HRec.out _).mono ?_
          rintro e w1 ⟨rfl, hb1⟩
          have hR3 := own_below hR2 hb1
          have hB4 := hB3.trans (hb1.mono hB3.size)
          go_wp2_with
            (at_builtin
             refine wpList_rec (.tmp 47) (.tmp 50) rfl rfl rfl HN2 hR3 hB4 rfl rfl HX (by omega) ?_
             intro A3 c3 w2 hm2)
          go_roundw
          case rel => exact ⟨j + 1, by omega, by go_num, by rw [HSN.out, ← List.append_assoc]; exact hm2⟩
          case measure => simp [intOf]; omega
        · obtain rfl : j = nl := by omega
          have hall : l.take j = l := List.take_of_length_le (by rw [HLN.out]; exact Nat.le_refl _)
          rw [hall] at hrow2 HN2
          have HR2 := Lib.hid hrow2
          clear hrow2 hall hn2
          go_wp2
          go_ret
          refine ⟨_, rfl, A2, c2, ?_, ?_, HBA.out.trans (hB2.mono HBA.out.size)⟩
          · rw [← List.append_assoc, HL0.out, HN2.out]
            rfl
          · rw [← List.append_assoc, HL0.out, HN2.out]
            exact own_base HR2.out HBA.out.size
end Go.Proofs.YtamncdpeklbhlaaDoor.Chg
set_option linter.unusedVariables false
set_option linter.unusedSimpArgs false
namespace Go.Proofs.YtamncdpeklbhlaaDoor.LogC
open Go.RowKit Go.Proofs.YtamncdpeklbhlaaDoor.Kit Go.Proofs.YtamncdpeklbhlaaDoor.Blocks Go.Proofs.YtamncdpeklbhlaaDoor.SumB Go.Proofs.YtamncdpeklbhlaaDoor.Wal Go.Proofs.YtamncdpeklbhlaaDoor.FrA Go.Proofs.YtamncdpeklbhlaaDoor.FrC Go.Proofs.YtamncdpeklbhlaaDoor.ScA Go.Proofs.YtamncdpeklbhlaaDoor.ScB Go.Proofs.YtamncdpeklbhlaaDoor.Frm Go.Proofs.YtamncdpeklbhlaaDoor.Model Go.Proofs.YtamncdpeklbhlaaDoor.Disk Go.Proofs.YtamncdpeklbhlaaDoor.Ops Go.Proofs.YtamncdpeklbhlaaDoor.Log
open Go.Proofs.YtamncdpeklbhlaaDoor.DskWalkC (str Got)
open Go.Proofs.YtamncdpeklbhlaaDoor.Model.M
section
variable {B : Nat} {L : List Nat} {w w' : World} {b p N : Nat} {m : M} {n : Int}
/-- A log and its disk. -/
structure LS (B : Nat) (L : List Nat) (w : World) (b p N : Nat) (n : Int) (m : M) (W : World) : Prop where
  log : LogAt W b p n
  disk : Has B L W p N m
  kept : Keeps B L w W
theorem LS.drew {W : World} (h : LS B L w b p N n m W) : LS B L w b p N n m W.drew := ⟨h.log, h.disk.below ((Below.refl _ _).drew), Only.drew h.kept⟩
theorem LS.next {W W' : World} (h : LS B L w b p N n m W) (k : Below W.heap.size W W') : LS B L w b p N n m W' := ⟨h.log.below k, h.disk.below k, h.kept.trans (Keeps.of_below k)⟩

theorem ls_append {W : World} {m' : M} {r : Int} (s : ByteArray) (h : LS B L w b p N n m W) (hN : N < 1000000) (hb : b ∈ L) (hr : Hid ((m.append n s.data.toList).1 = r)) (hm : Hid ((m.append n s.data.toList).2 = m')) :
    Calls Tryd.prog 58 #[.pointer (some ⟨p, 0, none⟩), .int .i64 n, .string s] W fun e W' => e = .returned (.int .i64 r) ∧ LS B L w b p (N + 1) n m' W' := by
  refine (append_has n s h.disk hN).mono ?_
  intro e W' hd
  obtain ⟨rfl, h1, k1⟩ := Done.lit hd hr hm
  exact ⟨rfl, h.log.keeps k1 hb, h1, h.kept.trans k1⟩
theorem ls_replace {W : World} {m' : M} {r : Int} (s : ByteArray) (h : LS B L w b p N n m W) (hN : N < 1000000) (hb : b ∈ L) (hr : Hid ((m.replace n s.data.toList).1 = r)) (hm : Hid ((m.replace n s.data.toList).2 = m')) :
    Calls Tryd.prog 41 #[.pointer (some ⟨p, 0, none⟩), .int .i64 n, .string s] W fun e W' => e = .returned (.int .i64 r) ∧ LS B L w b p (N + 1) n m' W' := by
  refine (replace_has n s h.disk hN).mono ?_
  intro e W' hd
  obtain ⟨rfl, h1, k1⟩ := Done.lit hd hr hm
  exact ⟨rfl, h.log.keeps k1 hb, h1, h.kept.trans k1⟩
theorem ls_sync {W : World} {m' : M} {r : Int} (h : LS B L w b p N n m W) (hN : N < 1000000) (hb : b ∈ L) (h0 : -9223372036854775808 ≤ n) (h1 : n ≤ 9223372036854775807) (hr : Hid ((m.sync n).1 = r)) (hm : Hid ((m.sync n).2 = m')) :
    Calls Tryd.prog 43 #[.pointer (some ⟨p, 0, none⟩), .int .i64 n] W fun e W' => e = .returned (.int .i64 r) ∧ LS B L w b p (N + 1) n m' W' := by
  refine (sync_has n h.disk hN h0 h1).mono ?_
  intro e W' hd
  obtain ⟨rfl, h1, k1⟩ := Done.lit hd hr hm
  exact ⟨rfl, h.log.keeps k1 hb, h1, h.kept.trans k1⟩

/-- What Append and Anew leave. -/
def Wrote (B : Nat) (L : List Nat) (w : World) (b p N : Nat) (n : Int) (r : Int × M) (e : Ending) (w' : World) : Prop := e = .returned (.int .i64 r.1) ∧ LS B L w b p N n r.2 w'

set_option maxRecDepth 100000 in
theorem append_none (a : Option Addr) (k c : Nat) (w : World) :
    Calls Tryd.prog 31 #[.pointer none, .slice a k c] w fun e w' => e = .returned (.int .i64 10) ∧ w = w' := by
  go_enter Tryd.func31, Tryd.ntmps31
  go_wp2
  go_ret
  exact ⟨rfl, rfl⟩
set_option maxRecDepth 100000 in
theorem anew_none (a : Option Addr) (k c : Nat) (w : World) :
    Calls Tryd.prog 25 #[.pointer none, .slice a k c] w fun e w' => e = .returned (.int .i64 10) ∧ w = w' := by
  go_enter Tryd.func25, Tryd.ntmps25
  go_wp2
  go_ret
  exact ⟨rfl, rfl⟩

set_option maxRecDepth 100000 in
set_option maxHeartbeats 4000000 in
theorem append_any (A : Option Addr) (k c : Nat) (l : List (List UInt8)) (hlog : LogAt w b p n) (h : Has B L w p N m) (hb : b ∈ L) (hl : RS w A k l) (ht : Tab w) (hk : k ≤ 1000000) (hN : N < 900000) (h0 : -9223372036854775808 ≤ n) (h1 : n ≤ 9223372036854775807) :
    Calls Tryd.prog 31 #[.pointer (some ⟨b, 0, none⟩), .slice A k c] w (Wrote B L w b p (N + 2) n (wappend m n l)) := by
  have hf := frames_any A k c l w hl ht hk
  have hS0 : LS B L w b p N n m w := ⟨hlog, h, Keeps.refl _ _ _⟩
  by_cases hr : Recs l
  · rw [framed_ok hr] at hf
    obtain ⟨S, hS⟩ : ∃ S, str (frames l) = S := ⟨_, rfl⟩
    have hSl : S.data.toList = frames l := by rw [← hS]; rfl
    obtain ⟨r1, hr1⟩ : ∃ r1, (m.append n S.data.toList).1 = r1 := ⟨_, rfl⟩
    obtain ⟨m1, hm1⟩ : ∃ m1, (m.append n S.data.toList).2 = m1 := ⟨_, rfl⟩
    have hw : wappend m n l = if r1 = 0 then m1.sync n else (r1, m1) := by
      unfold wappend
      rw [if_pos hr, ← hSl, ← hr1, ← hm1]
    rw [hw]
    rw [show str (frames l, (0 : Int)).1 = S from hS] at hf
    have HF := Lib.hid hf
    have HR1 := Lib.hid hr1
    have HM1 := Lib.hid hm1
    clear hf hS hSl hr1 hm1 hw hr
    by_cases hz : r1 = 0
    · subst hz
      rw [if_pos rfl]
      obtain ⟨r2, hr2⟩ : ∃ r2, (m1.sync n).1 = r2 := ⟨_, rfl⟩
      obtain ⟨m2, hm2⟩ : ∃ m2, (m1.sync n).2 = m2 := ⟨_, rfl⟩
      have e : m1.sync n = (r2, m2) := by rw [← hr2, ← hm2]
      rw [e]
      have HR2 := Lib.hid hr2
      have HM2 := Lib.hid hm2
      clear hr2 hm2 e
      go_enter Tryd.func31, Tryd.ntmps31
      go_wp2_with fail
      refine HF.out.mono ?_
      rintro e w1 ⟨rfl, hb1⟩
      have hS1 := (hS0.next hb1).drew
      go_wp2_with fail
      go_region_held3 (fun w' => w'.cell? ⟨b, 0, none⟩ = some (.pointer (some ⟨p, 0, none⟩)) ∧ w'.cell? ⟨b, 1, none⟩ = some (.int .i64 n))
        (first | exact ⟨hS2.log.disk, hS2.log.file⟩ | exact ⟨hS1.log.disk, hS1.log.file⟩)
        ((go_at_call 58
          refine (ls_append S hS1 (by omega) hb HR1 HM1).mono ?_
          rintro e w2 ⟨rfl, hS2⟩))
      all_goals
        have hS3 := hS2.drew
        go_wp2_with fail
        go_region_held3 (fun w' => w'.cell? ⟨b, 0, none⟩ = some (.pointer (some ⟨p, 0, none⟩)) ∧ w'.cell? ⟨b, 1, none⟩ = some (.int .i64 n))
          (first | exact ⟨hS4.log.disk, hS4.log.file⟩ | exact ⟨hS3.log.disk, hS3.log.file⟩)
          ((go_at_call 43
            refine (ls_sync hS3 (by omega) hb h0 h1 HR2 HM2).mono ?_
            rintro e w4 ⟨rfl, hS4⟩))
      all_goals go_wp2
      all_goals go_ret
      all_goals exact ⟨rfl, hS4⟩
    · rw [if_neg hz]
      have hzi : (r1 != 0) = true := bne_iff_ne.2 hz
      go_enter Tryd.func31, Tryd.ntmps31
      go_wp2_with fail
      refine HF.out.mono ?_
      rintro e w1 ⟨rfl, hb1⟩
      have hS1 := (hS0.next hb1).drew
      go_wp2_with fail
      go_region_held3 (fun w' => w'.cell? ⟨b, 0, none⟩ = some (.pointer (some ⟨p, 0, none⟩)) ∧ w'.cell? ⟨b, 1, none⟩ = some (.int .i64 n))
        (first | exact ⟨hS2.log.disk, hS2.log.file⟩ | exact ⟨hS1.log.disk, hS1.log.file⟩)
        ((go_at_call 58
          refine (ls_append S hS1 (by omega) hb HR1 HM1).mono ?_
          rintro e w2 ⟨rfl, hS2⟩))
      all_goals go_wp2
      all_goals go_ret
      all_goals exact ⟨rfl, hS2.log, hS2.disk.more (by omega), hS2.kept⟩
  · rw [framed_long hr] at hf
    have hw : wappend m n l = (3, m) := if_neg hr
    rw [hw]
    have HF := Lib.hid hf
    clear hf hw hr
    go_enter Tryd.func31, Tryd.ntmps31
    go_wp2_with fail
    refine HF.out.mono ?_
    rintro e w1 ⟨rfl, hb1⟩
    have hS1 := hS0.next hb1
    go_wp2
    go_ret
    exact ⟨rfl, hS1.log, hS1.disk.more (by omega), hS1.kept⟩

set_option maxRecDepth 100000 in
set_option maxHeartbeats 4000000 in
theorem anew_any (A : Option Addr) (k c : Nat) (l : List (List UInt8)) (hlog : LogAt w b p n) (h : Has B L w p N m) (hb : b ∈ L) (hl : RS w A k l) (ht : Tab w) (hk : k ≤ 1000000) (hN : N < 900000) :
    Calls Tryd.prog 25 #[.pointer (some ⟨b, 0, none⟩), .slice A k c] w (Wrote B L w b p (N + 2) n (wanew m n l)) := by
  have hf := frames_any A k c l w hl ht hk
  have hS0 : LS B L w b p N n m w := ⟨hlog, h, Keeps.refl _ _ _⟩
  by_cases hr : Recs l
  · rw [framed_ok hr] at hf
    obtain ⟨S, hS⟩ : ∃ S, str (frames l) = S := ⟨_, rfl⟩
    have hSl : S.data.toList = frames l := by rw [← hS]; rfl
    obtain ⟨r1, hr1⟩ : ∃ r1, (m.replace n S.data.toList).1 = r1 := ⟨_, rfl⟩
    obtain ⟨m1, hm1⟩ : ∃ m1, (m.replace n S.data.toList).2 = m1 := ⟨_, rfl⟩
    have hw : wanew m n l = (r1, m1) := by
      unfold wanew
      rw [if_pos hr, ← hSl, ← hr1, ← hm1]
    rw [hw]
    rw [show str (frames l, (0 : Int)).1 = S from hS] at hf
    have HF := Lib.hid hf
    have HR1 := Lib.hid hr1
    have HM1 := Lib.hid hm1
    clear hf hS hSl hr1 hm1 hw hr
    go_enter Tryd.func25, Tryd.ntmps25
    go_wp2_with fail
    refine HF.out.mono ?_
    rintro e w1 ⟨rfl, hb1⟩
    have hS1 := (hS0.next hb1).drew
    go_wp2_with fail
    go_region_held3 (fun w' => w'.cell? ⟨b, 0, none⟩ = some (.pointer (some ⟨p, 0, none⟩)) ∧ w'.cell? ⟨b, 1, none⟩ = some (.int .i64 n))
      (first | exact ⟨hS2.log.disk, hS2.log.file⟩ | exact ⟨hS1.log.disk, hS1.log.file⟩)
      ((go_at_call 41
        refine (ls_replace S hS1 (by omega) hb HR1 HM1).mono ?_
        rintro e w2 ⟨rfl, hS2⟩))
    all_goals go_wp2
    all_goals go_ret
    all_goals exact ⟨rfl, hS2.log, hS2.disk.more (by omega), hS2.kept⟩
  · rw [framed_long hr] at hf
    have hw : wanew m n l = (3, m) := if_neg hr
    rw [hw]
    have HF := Lib.hid hf
    clear hf hw hr
    go_enter Tryd.func25, Tryd.ntmps25
    go_wp2_with fail
    refine HF.out.mono ?_
    rintro e w1 ⟨rfl, hb1⟩
    have hS1 := hS0.next hb1
    go_wp2
    go_ret
    exact ⟨rfl, hS1.log, hS1.disk.more (by omega), hS1.kept⟩
end
end Go.Proofs.YtamncdpeklbhlaaDoor.LogC
set_option linter.unusedVariables false
set_option linter.unusedSimpArgs false
namespace Go.Proofs.YtamncdpeklbhlaaDoor.Take
open Go.RowKit Go.Proofs.YtamncdpeklbhlaaDoor.Kit Go.Proofs.YtamncdpeklbhlaaDoor.Blocks Go.Proofs.YtamncdpeklbhlaaDoor.Rlog Go.Proofs.YtamncdpeklbhlaaDoor.Sto Go.Proofs.YtamncdpeklbhlaaDoor.Ents Go.Proofs.YtamncdpeklbhlaaDoor.Hold Go.Proofs.YtamncdpeklbhlaaDoor.Cut
open Go.Proofs.YtamncdpeklbhlaaDoor.PckWalkC (gotB restB frontB gotB_lt)
open Go.Proofs.YtamncdpeklbhlaaDoor.PckWalkE (upV upR upB textV textR textB)
open Go.Proofs.YtamncdpeklbhlaaDoor.App (step_app)

/-- What a take leaves. -/
def Took (B p : Nat) (w : World) (r : Sta × Bool) (e : Ending) (w' : World) : Prop := e = .returned (.bool r.2) ∧ ∃ v', Hold 37 B w' p (pre r.1) v' r.1.es ∧ Below B w w'
theorem ent_new (w : World) (e : Ent) (t : TypeId) : RE (w.alloc (.cells (entCs e).toArray t)) (w.heap.size + 1) (some ⟨w.heap.size, 0, none⟩) 1 [e] := by
  refine ⟨by rw [ecells_length]; rfl, fun _ => ⟨_, rfl, Nat.lt_succ_self _, fun j x hj => ?_⟩⟩
  rw [ecells_one_ent] at hj
  rw [Addr.add_lit, Nat.zero_add, cell_of_row _ _ j _ t (0, 0) (heap_alloc_new w _)]
  simpa using hj
/-- A row of entries lies in no block of another type. -/
theorem own_ne {w : World} {B n b : Nat} {v : Value} {xs : List Value} {cs : Array Value} {fr : Nat × Nat} {T E : TypeId} (hown : w.ownsRow B E 4 v n xs) (hb : w.heap[b]? = some (.cells cs T fr)) (hT : T ≠ E) : v.ownBlock ≠ some b := by
  intro e
  rcases hown.2 with ⟨rfl, _⟩ | ⟨g, cap, cur, rfl, _, hg, _⟩
  · cases e
  · simp only [Value.ownBlock, Option.some.injEq] at e
    subst e
    rw [hg] at hb
    cases hb
    exact hT rfl
/-- The reader is asked in the end. -/
theorem done_keep {T : TypeId} {B : Nat} {W : World} {p q : Nat} {ps : List Value} {v : Value} {es : List Ent} {r : Rd} {d : Bool} (hH : Hold T B W p ps v es) (hR : State.RV 122 W q r.s r.bad) (hpq : p ≠ q) (hB : B ≤ q) (hd : Hid (r.done = d)) :
    Calls Tryd.prog 49 #[.pointer (some ⟨q, 0, none⟩)] W fun e W' => e = .returned (.bool d) ∧ Hold T B W' p ps v es ∧ Below B W W' := by
  refine (PckWalkE.done_any q r.s r.bad W hR).mono ?_
  rintro e W' ⟨he, _, ho⟩
  have ho' : Only (fun k => k = q) W W' := ⟨ho.os, ho.tape, ho.output, ho.size, ho.block⟩
  have hne := own_ne hH.own hR (by decide)
  refine ⟨he.trans ?_, hH.keep ho' fun k hk e => ?_, ho'.below hH.base fun k hk => by rw [hk]; exact hB⟩
  · rw [← hd.out]; rfl
  · rcases hk with rfl | hk
    · exact hpq e
    · rw [e] at hk; exact hne hk
section
variable {B : Nat} {w : World} {p : Nat} {s : Sta} {v : Value} (h : Hold 37 B w p (pre s) v s.es) (b : ByteArray) (hb : b.size ≤ 281474976710656)
include h hb
theorem take_none (h1 : kind b ≠ 1) (h2 : kind b ≠ 2) (h3 : kind b ≠ 3) (h4 : kind b ≠ 4) : Calls Tryd.prog 20 #[.pointer (some ⟨p, 0, none⟩), .string b] w (Took B p w (say s b)) := by
  obtain ⟨k, hk⟩ : ∃ k, kind b = k := ⟨_, rfl⟩
  have hs : say s b = (s, false) := by unfold say; rw [if_neg h1, if_neg h2, if_neg h3, if_neg h4]
  rw [hk] at h1 h2 h3 h4
  have n1 : ((k : Int) == 1) = false := by simp; omega
  have n2 : ((k : Int) == 2) = false := by simp; omega
  have n3 : ((k : Int) == 3) = false := by simp; omega
  have n4 : ((k : Int) == 4) = false := by simp; omega
  have HK : Hid (gotB (rd0 b).s = k) := hk
  obtain ⟨r1, hr1⟩ : ∃ r1, (rd0 b).num = r1 := ⟨_, rfl⟩
  have HR1 := Lib.hid hr1
  have hB := h.base
  have HH := Lib.hid h
  rw [hs]
  clear hk h1 h2 h3 h4 hs hr1 h
  go_enter Tryd.func20, Tryd.ntmps20
  go_wp2_with fail
  refine (from_rds b w).mono ?_
  rintro e w1 ⟨q, rfl, hR⟩
  go_wp2_with fail
  refine (rds_num hR hb HK HR1).mono ?_
  rintro e w2 ⟨rfl, hR2⟩
  go_wp2
  go_ret
  exact ⟨rfl, v, HH.out.below hR2.bel, hR2.bel.mono hB⟩
theorem take_cut (h3 : kind b = 3) : Calls Tryd.prog 20 #[.pointer (some ⟨p, 0, none⟩), .string b] w (Took B p w (say s b)) := by
  obtain ⟨k, hk⟩ : ∃ k, kind b = k := ⟨_, rfl⟩
  have hs : say s b = (sayCut s (gotB (rd1 b).s), (rd2 b).done) := by unfold say; rw [if_neg (by rw [h3]; decide), if_neg (by rw [h3]; decide), if_pos h3]
  rw [hk] at h3
  have n1 : ((k : Int) == 1) = false := by simp; omega
  have n2 : ((k : Int) == 2) = false := by simp; omega
  have n3 : ((k : Int) == 3) = true := by simp; omega
  have HK : Hid (gotB (rd0 b).s = k) := hk
  obtain ⟨r1, hr1⟩ : ∃ r1, rd1 b = r1 := ⟨_, rfl⟩
  obtain ⟨i, hi⟩ : ∃ i, gotB (rd1 b).s = i := ⟨_, rfl⟩
  obtain ⟨r2, hr2⟩ : ∃ r2, rd2 b = r2 := ⟨_, rfl⟩
  obtain ⟨d, hd⟩ : ∃ d, (rd2 b).done = d := ⟨_, rfl⟩
  have hz1 : r1.s.size ≤ 281474976710656 := by rw [← hr1]; exact Nat.le_trans (rd1_size b) hb
  rw [hi, hd] at hs
  have HR1 : Hid ((rd0 b).num = r1) := hr1
  have HR2 : Hid (r1.num = r2) := by rw [← hr1]; exact hr2
  have HI : Hid (gotB r1.s = i) := by rw [← hr1]; exact hi
  have HD : Hid (r2.done = d) := by rw [← hr2]; exact hd
  have hB := h.base
  have hlt := h.lt
  have HH := Lib.hid h
  rw [hs]
  clear hk h3 hs hr1 hr2 hi hd h
  go_enter Tryd.func20, Tryd.ntmps20
  go_wp2_with fail
  refine (from_rds b w).mono ?_
  rintro e w1 ⟨q, rfl, hR⟩
  go_wp2_with fail
  refine (rds_num hR hb HK HR1).mono ?_
  rintro e w2 ⟨rfl, hR2⟩
  go_wp2_with fail
  refine (rds_num hR2 hz1 HI HR2).mono ?_
  rintro e w3 ⟨rfl, hR3⟩
  have h3 := HH.out.below hR3.bel
  have hq := hR3.low
  have hc : w.heap.size ≤ w3.heap.size := hR3.bel.size
  have hcut := cut_any h3 i
  have HC := Lib.hid hcut
  clear hcut h3
  go_wp2_with fail
  refine HC.out.mono ?_
  rintro e w4 ⟨rfl, v', h4, ho4⟩
  have hp : p ≠ q := by have := hR3.low; omega
  have hqf : ¬ Foot p v q := fun e => by have := (HH.out.foot_lt e).2; have := hR3.low; omega
  have hB4 : Below B w w4 := (hR3.bel.mono hB).trans (ho4.below (Nat.le_trans hB hR3.bel.size) fun k hk => (HH.out.foot_lt hk).1)
  go_wp2_with fail
  refine (done_keep h4 (ho4.heap hR3.at_ hqf) hp (Nat.le_trans hB hR3.low) HD).mono ?_
  rintro e w5 ⟨rfl, h5, hb5⟩
  go_wp2
  go_ret
  exact ⟨rfl, v', h5, hB4.trans hb5⟩
theorem take_hard (h1 : kind b = 1) : Calls Tryd.prog 20 #[.pointer (some ⟨p, 0, none⟩), .string b] w (Took B p w (say s b)) := by
  obtain ⟨k, hk⟩ : ∃ k, kind b = k := ⟨_, rfl⟩
  have hs : say s b = (sayHard s b, ((rd2 b).up 7).done) := by unfold say; rw [if_pos h1]
  rw [hk] at h1
  have n1 : ((k : Int) == 1) = true := by simp; omega
  have HK : Hid (gotB (rd0 b).s = k) := hk
  obtain ⟨r1, hr1⟩ : ∃ r1, rd1 b = r1 := ⟨_, rfl⟩
  obtain ⟨t, ht⟩ : ∃ t, gotB (rd1 b).s = t := ⟨_, rfl⟩
  obtain ⟨r2, hr2⟩ : ∃ r2, rd2 b = r2 := ⟨_, rfl⟩
  obtain ⟨u, hu⟩ : ∃ u, upV (rd2 b).s 7 = u := ⟨_, rfl⟩
  have hul : (u : Int) ≤ 7 := by rw [← hu]; exact upV_le (by decide)
  obtain ⟨r3, hr3⟩ : ∃ r3, (rd2 b).up 7 = r3 := ⟨_, rfl⟩
  obtain ⟨d, hd⟩ : ∃ d, ((rd2 b).up 7).done = d := ⟨_, rfl⟩
  have hz1 : r1.s.size ≤ 281474976710656 := by rw [← hr1]; exact Nat.le_trans (rd1_size b) hb
  have hz2 : r2.s.size ≤ 281474976710656 := by rw [← hr2]; exact Nat.le_trans (rd2_size b) hb
  have hsy : sayHard s b = { s with term := t, vote := (u : Int) - 1 } := by unfold sayHard; rw [ht, hu]
  rw [hd, hsy] at hs
  have HR1 : Hid ((rd0 b).num = r1) := hr1
  have HR2 : Hid (r1.num = r2) := by rw [← hr1]; exact hr2
  have HR3 : Hid (r2.up 7 = r3) := by rw [← hr2]; exact hr3
  have HT : Hid (gotB r1.s = t) := by rw [← hr1]; exact ht
  have HU : Hid (upV r2.s 7 = u) := by rw [← hr2]; exact hu
  have HD : Hid (r3.done = d) := by rw [← hr3]; exact hd
  have hB := h.base
  have hlt := h.lt
  have HH := Lib.hid h
  rw [hs]
  clear hk h1 hs hr1 hr2 hr3 ht hu hd hsy h
  go_enter Tryd.func20, Tryd.ntmps20
  go_wp2_with fail
  refine (from_rds b w).mono ?_
  rintro e w1 ⟨q, rfl, hR⟩
  go_wp2_with fail
  refine (rds_num hR hb HK HR1).mono ?_
  rintro e w2 ⟨rfl, hR2⟩
  go_wp2_with fail
  refine (rds_num hR2 hz1 HT HR2).mono ?_
  rintro e w3 ⟨rfl, hR3⟩
  go_wp2_with fail
  refine (rds_up 7 hR3 hz2 (by decide) HU HR3).mono ?_
  rintro e w4 ⟨rfl, hR4⟩
  have h4 := HH.out.below hR4.bel
  have c0 := h4.at_ 0 rfl
  have c1 := h4.at_ 1 rfl
  have f0 := h4.free 0
  have f1 := h4.free 1
  have hlt4 := h4.lt
  obtain ⟨h5, o5⟩ := h4.set (i := 0) (.int .u64 (t : Int)) (by simp [pre])
  obtain ⟨h6, o6⟩ := h5.set (i := 1) (.int .i64 ((u : Int) - 1)) (by simp [pre])
  have H6 := Lib.hid h6
  have O6 := Lib.hid (o5.trans o6)
  clear h5 h6 o5 o6 h4
  go_wp2_with fail
  have hp : p ≠ q := by have := hR4.low; omega
  have hB6 := (hR4.bel.mono hB).trans (O6.out.below (Nat.le_trans hB hR4.bel.size) fun k hk => by rw [hk]; exact HH.out.low)
  refine (done_keep H6.out (O6.out.heap hR4.at_ (fun e => hp e.symm)) hp (Nat.le_trans hB hR4.low) HD).mono ?_
  rintro e w5 ⟨rfl, h5, hb5⟩
  go_wp2
  go_ret
  exact ⟨rfl, v, h5, hB6.trans hb5⟩
set_option maxHeartbeats 1000000 in
theorem take_snap (h4 : kind b = 4) : Calls Tryd.prog 20 #[.pointer (some ⟨p, 0, none⟩), .string b] w (Took B p w (say s b)) := by
  obtain ⟨k, hk⟩ : ∃ k, kind b = k := ⟨_, rfl⟩
  have hs : say s b = (saySnap s (snapOf b), ((rd4 b).text 65536).done) := by unfold say; rw [if_neg (by rw [h4]; decide), if_neg (by rw [h4]; decide), if_neg (by rw [h4]; decide), if_pos h4]
  rw [hk] at h4
  have n1 : ((k : Int) == 1) = false := by simp; omega
  have n2 : ((k : Int) == 2) = false := by simp; omega
  have n3 : ((k : Int) == 3) = false := by simp; omega
  have n4 : ((k : Int) == 4) = true := by simp; omega
  have HK : Hid (gotB (rd0 b).s = k) := hk
  obtain ⟨r1, hr1⟩ : ∃ r1, rd1 b = r1 := ⟨_, rfl⟩
  obtain ⟨r2, hr2⟩ : ∃ r2, rd2 b = r2 := ⟨_, rfl⟩
  obtain ⟨r3, hr3⟩ : ∃ r3, rd3 b = r3 := ⟨_, rfl⟩
  obtain ⟨r4, hr4⟩ : ∃ r4, rd4 b = r4 := ⟨_, rfl⟩
  obtain ⟨r5, hr5⟩ : ∃ r5, (rd4 b).text 65536 = r5 := ⟨_, rfl⟩
  obtain ⟨ix, hix⟩ : ∃ ix, gotB (rd1 b).s = ix := ⟨_, rfl⟩
  obtain ⟨tm, htm⟩ : ∃ tm, gotB (rd2 b).s = tm := ⟨_, rfl⟩
  obtain ⟨cf, hcf⟩ : ∃ cf, gotB (rd3 b).s = cf := ⟨_, rfl⟩
  obtain ⟨x, hx⟩ : ∃ x, textV (rd4 b).s 65536 = x := ⟨_, rfl⟩
  obtain ⟨d, hd⟩ : ∃ d, ((rd4 b).text 65536).done = d := ⟨_, rfl⟩
  have hz1 : r1.s.size ≤ 281474976710656 := by rw [← hr1]; exact Nat.le_trans (rd1_size b) hb
  have hz2 : r2.s.size ≤ 281474976710656 := by rw [← hr2]; exact Nat.le_trans (rd2_size b) hb
  have hz3 : r3.s.size ≤ 281474976710656 := by rw [← hr3]; exact Nat.le_trans (rd3_size b) hb
  have hz4 : r4.s.size ≤ 281474976710656 := by rw [← hr4]; exact Nat.le_trans (rd4_size b) hb
  have hsy : saySnap s (snapOf b) = { s with snap := ⟨ix, tm, cf, x⟩, es := [] } := by unfold saySnap snapOf; rw [hix, htm, hcf, hx]
  rw [hd, hsy] at hs
  have HR1 : Hid ((rd0 b).num = r1) := hr1
  have HR2 : Hid (r1.num = r2) := by rw [← hr1]; exact hr2
  have HR3 : Hid (r2.num = r3) := by rw [← hr2]; exact hr3
  have HR4 : Hid (r3.num = r4) := by rw [← hr3]; exact hr4
  have HR5 : Hid (r4.text 65536 = r5) := by rw [← hr4]; exact hr5
  have HI : Hid (gotB r1.s = ix) := by rw [← hr1]; exact hix
  have HT : Hid (gotB r2.s = tm) := by rw [← hr2]; exact htm
  have HC : Hid (gotB r3.s = cf) := by rw [← hr3]; exact hcf
  have HX : Hid (textV r4.s 65536 = x) := by rw [← hr4]; exact hx
  have HD : Hid (r5.done = d) := by rw [← hr5]; exact hd
  have hB := h.base
  have hlt := h.lt
  have HH := Lib.hid h
  rw [hs]
  clear hk h4 hs hr1 hr2 hr3 hr4 hr5 hix htm hcf hx hd hsy h
  go_enter Tryd.func20, Tryd.ntmps20
  go_wp2_with fail
  refine (from_rds b w).mono ?_
  rintro e w1 ⟨q, rfl, hR⟩
  go_wp2_with fail
  refine (rds_num hR hb HK HR1).mono ?_
  rintro e w2 ⟨rfl, hR2⟩
  go_wp2_with fail
  refine (rds_num hR2 hz1 HI HR2).mono ?_
  rintro e w3 ⟨rfl, hR3⟩
  go_wp2_with fail
  refine (rds_num hR3 hz2 HT HR3).mono ?_
  rintro e w4 ⟨rfl, hR4⟩
  go_wp2_with fail
  refine (rds_num hR4 hz3 HC HR4).mono ?_
  rintro e w5 ⟨rfl, hR5⟩
  go_wp2_with fail
  refine (rds_text 65536 hR5 hz4 (by decide) HX HR5).mono ?_
  rintro e w6 ⟨rfl, hR6⟩
  have h6 := HH.out.below hR6.bel
  have c2 := h6.at_ 2 rfl
  have c3 := h6.at_ 3 rfl
  have c4 := h6.at_ 4 rfl
  have c5 := h6.at_ 5 rfl
  have c6 := h6.at_ 6 rfl
  have f2 := h6.free 2
  have f3 := h6.free 3
  have f4 := h6.free 4
  have f5 := h6.free 5
  have f6 := h6.free 6
  have hlt6 := h6.lt
  obtain ⟨ha, oa⟩ := h6.set (i := 2) (.int .u64 (ix : Int)) (by simp [pre])
  obtain ⟨hb2, ob⟩ := ha.set (i := 3) (.int .u64 (tm : Int)) (by simp [pre])
  obtain ⟨hc, oc⟩ := hb2.set (i := 4) (.int .u64 (cf : Int)) (by simp [pre])
  obtain ⟨hd, od⟩ := hc.set (i := 5) (.string x) (by simp [pre])
  obtain ⟨_, _, he, oe⟩ := hd.rowed (w1 := _) (v1 := .slice none 0 0) (es' := []) (Only.refl _ _) (World.ownsRow_nil _ _ _ _) rfl rfl (fun q hq => by cases hq) (i := 6) (by simp [pre])
  have HE := Lib.hid he
  have O1 := Lib.hid (((((oa.trans ob).trans oc).trans od).mono (S' := Foot p v) fun k _ hk => .inl hk).trans oe)
  clear ha hb2 hc hd he oa ob oc od oe h6
  have hp : p ≠ q := by have := hR6.low; omega
  have hqf : ¬ Foot p v q := fun e => by have := (HH.out.foot_lt e).2; have := hR6.low; omega
  go_wp2_with fail
  have hB6 := (hR6.bel.mono hB).trans (O1.out.below (Nat.le_trans hB hR6.bel.size) fun k hk => (HH.out.foot_lt hk).1)
  refine (done_keep HE.out (O1.out.heap hR6.at_ hqf) hp (Nat.le_trans hB hR6.low) HD).mono ?_
  rintro e w7 ⟨rfl, h7, hb7⟩
  go_wp2
  go_ret
  exact ⟨rfl, _, h7, hB6.trans hb7⟩

set_option maxRecDepth 100000 in
set_option maxHeartbeats 4000000 in
theorem take_ent (h2 : kind b = 2) (hroom : (s.es.length + 1) * 40 ≤ 140737488355328) : Calls Tryd.prog 20 #[.pointer (some ⟨p, 0, none⟩), .string b] w (Took B p w (say s b)) := by
  obtain ⟨k, hk⟩ : ∃ k, kind b = k := ⟨_, rfl⟩
  have hs : say s b = (sayEnt s b, (((rd3 b).up 2).text 65536).done) := by unfold say; rw [if_neg (by rw [h2]; decide), if_pos h2]
  rw [hk] at h2
  have n1 : ((k : Int) == 1) = false := by simp; omega
  have n2 : ((k : Int) == 2) = true := by simp; omega
  have HK : Hid (gotB (rd0 b).s = k) := hk
  obtain ⟨r1, hr1⟩ : ∃ r1, rd1 b = r1 := ⟨_, rfl⟩
  obtain ⟨r2, hr2⟩ : ∃ r2, rd2 b = r2 := ⟨_, rfl⟩
  obtain ⟨r3, hr3⟩ : ∃ r3, rd3 b = r3 := ⟨_, rfl⟩
  obtain ⟨r4, hr4⟩ : ∃ r4, (rd3 b).up 2 = r4 := ⟨_, rfl⟩
  obtain ⟨r5, hr5⟩ : ∃ r5, ((rd3 b).up 2).text 65536 = r5 := ⟨_, rfl⟩
  obtain ⟨tm, htm⟩ : ∃ tm, gotB (rd1 b).s = tm := ⟨_, rfl⟩
  obtain ⟨ix, hix⟩ : ∃ ix, gotB (rd2 b).s = ix := ⟨_, rfl⟩
  obtain ⟨u, hu⟩ : ∃ u, upV (rd3 b).s 2 = u := ⟨_, rfl⟩
  obtain ⟨x, hx⟩ : ∃ x, textV ((rd3 b).up 2).s 65536 = x := ⟨_, rfl⟩
  obtain ⟨d, hd⟩ : ∃ d, (((rd3 b).up 2).text 65536).done = d := ⟨_, rfl⟩
  have hz1 : r1.s.size ≤ 281474976710656 := by rw [← hr1]; exact Nat.le_trans (rd1_size b) hb
  have hz2 : r2.s.size ≤ 281474976710656 := by rw [← hr2]; exact Nat.le_trans (rd2_size b) hb
  have hz3 : r3.s.size ≤ 281474976710656 := by rw [← hr3]; exact Nat.le_trans (rd3_size b) hb
  have hz4 : r4.s.size ≤ 281474976710656 := by rw [← hr4]; exact Nat.le_trans (Nat.le_trans (upR_size _ _) (rd3_size b)) hb
  have hsy : sayEnt s b = { s with es := s.es ++ [⟨tm, ix, (u : Int), x⟩] } := by unfold sayEnt entOf; rw [hix, htm, hu, hx]
  rw [hd, hsy] at hs
  have HR1 : Hid ((rd0 b).num = r1) := hr1
  have HR2 : Hid (r1.num = r2) := by rw [← hr1]; exact hr2
  have HR3 : Hid (r2.num = r3) := by rw [← hr2]; exact hr3
  have HR4 : Hid (r3.up 2 = r4) := by rw [← hr3]; exact hr4
  have HR5 : Hid (r4.text 65536 = r5) := by rw [← hr4]; exact hr5
  have HT : Hid (gotB r1.s = tm) := by rw [← hr1]; exact htm
  have HI : Hid (gotB r2.s = ix) := by rw [← hr2]; exact hix
  have HU : Hid (upV r3.s 2 = u) := by rw [← hr3]; exact hu
  have HX : Hid (textV r4.s 65536 = x) := by rw [← hr4]; exact hx
  have HD : Hid (r5.done = d) := by rw [← hr5]; exact hd
  have hB := h.base
  have hlt := h.lt
  obtain ⟨A, c, rfl, _, _, _⟩ := h.form
  have c60 := h.at_ 6 rfl
  have hl1 : s.es.length + 1 = (s.es ++ [(⟨tm, ix, (u : Int), x⟩ : Ent)]).length := by simp
  have HL1 := Lib.hid hl1
  have HH := Lib.hid h
  obtain ⟨n, hn⟩ : ∃ n, s.es.length = n := ⟨_, rfl⟩
  rw [hn] at c60 hroom
  have HN := Lib.hid hn
  rw [hs]
  clear hk h2 hs hr1 hr2 hr3 hr4 hr5 hix htm hu hx hd hsy h hl1 hn
  go_enter Tryd.func20, Tryd.ntmps20
  go_wp2_with fail
  refine (from_rds b w).mono ?_
  rintro e w1 ⟨q, rfl, hR⟩
  go_wp2_with fail
  refine (rds_num hR hb HK HR1).mono ?_
  rintro e w2 ⟨rfl, hR2⟩
  have c62 : w2.cell? ⟨p, 6, none⟩ = some (.slice A n c) := hR2.cell c60 hlt
  go_wp2_with fail
  go_region_law (first
    | (refine step_app (v := .slice A n c) _ rfl _ _ rfl B rfl (HOW.out _) rfl HNW.out (ecells_one _) hroom (HBS.out _) ?_
       intro A' c' w7 hown7 hg7 hat7
       have ho7 := ((Only.refl (fun q => (Value.slice A n c).ownBlock = some q) w6).alloc _).grown hg7 (fun q hq => .inr hq)
       have hat' : ∀ q, (Value.slice A' (n + 1) c').ownBlock = some q → (Value.slice A n c).ownBlock = some q ∨ w6.heap.size ≤ q := fun q hq => by
         rcases hat7 with e | e
         · exact .inl (e ▸ hq)
         · rw [hq] at e; cases e; exact .inr ((Below.refl _ w6).alloc (Nat.le_refl _) _).size
       obtain ⟨hcell7, hfr7, hh7, hoo7⟩ := H6.out.rowed (es' := s.es ++ [⟨tm, ix, (u : Int), x⟩]) ho7 hown7 (by rw [← HL1.out, HN.out]) (by rw [ecells_append]) hat' (i := 6) rfl
       have hlt7 : p < w7.heap.size := Nat.lt_of_lt_of_le hlt6 ho7.size
       have HH7 := Lib.hid hh7
       have HO7 := Lib.hid hoo7
       clear hh7 hoo7 hat' hat7 hg7 hown7 ho7)
    | (go_simp
       go_at_call 45
       (with_reducible refine (rds_num hR3 hz2 HI HR3).mono ?_)
       rintro e w4 ⟨rfl, hR4⟩
       have c64 : w4.cell? ⟨p, 6, none⟩ = some (.slice A n c) := hR4.cell c60 hlt)
    | (go_simp
       go_at_call 45
       (with_reducible refine (rds_num (hR2.drew) hz1 HT HR2).mono ?_)
       rintro e w3 ⟨rfl, hR3⟩
       have c63 : w3.cell? ⟨p, 6, none⟩ = some (.slice A n c) := hR3.cell c60 hlt)
    | (go_simp
       go_at_call 46
       (with_reducible refine (rds_up 2 hR4 hz3 (by decide) HU HR4).mono ?_)
       rintro e w5 ⟨rfl, hR5⟩
       have c65 : w5.cell? ⟨p, 6, none⟩ = some (.slice A n c) := hR5.cell c60 hlt)
    | (go_simp
       go_at_call 47
       (with_reducible refine (rds_text 65536 hR5 hz4 (by decide) HX HR5).mono ?_)
       rintro e w6 ⟨rfl, hR6⟩
       have c66 : w6.cell? ⟨p, 6, none⟩ = some (.slice A n c) := hR6.cell c60 hlt
       have h6 := HH.out.below hR6.bel
       rw [HN.out] at h6
       have hlt6 := h6.lt
       have HOW : Hid (∀ o, (w6.alloc o).ownsRow B 55 4 (.slice A n c) n (ecells s.es)) := fun o => by
         have := (h6.below ((Below.refl _ _).alloc (Nat.le_refl _) o)).own
         rwa [HN.out] at this
       have HNW : Hid (RE (w6.alloc (.cells #[.int .u64 (tm : Int), .int .u64 (ix : Int), .int .i64 (u : Int), .string x] 55)) (w6.heap.size + 1) (some ⟨w6.heap.size, 0, none⟩) 1 [⟨tm, ix, (u : Int), x⟩]) := ent_new w6 ⟨tm, ix, (u : Int), x⟩ 55
       have HBS : Hid (∀ o, B ≤ (w6.alloc o).heap.size) := fun o => Nat.le_trans h6.base ((Below.refl _ w6).alloc (Nat.le_refl _) o).size
       have H6 := Lib.hid h6
       clear h6))
  all_goals
    have hp : p ≠ q := by have := hR6.low; omega
    have hqf : ¬ Foot p (.slice A n c) q := fun e => by have := (H6.out.foot_lt e).2; have := (HH.out.foot_lt (by rw [HN.out]; exact e)).2; have := hR6.low; omega
    have hB6 := (hR6.bel.mono hB).trans (HO7.out.below (Nat.le_trans hB hR6.bel.size) fun k hk => (H6.out.foot_lt hk).1)
    have hRV := HO7.out.heap hR6.at_ hqf
    go_wp2_with fail
    refine (done_keep HH7.out hRV hp (Nat.le_trans hB hR6.low) HD).mono ?_
    rintro e w8 ⟨rfl, h8, hb8⟩
    go_wp2
    go_ret
    exact ⟨rfl, _, h8, hB6.trans hb8⟩
/-- Any record. -/
theorem take_any (hroom : (s.es.length + 1) * 40 ≤ 140737488355328) : Calls Tryd.prog 20 #[.pointer (some ⟨p, 0, none⟩), .string b] w (Took B p w (say s b)) := by
  by_cases h1 : kind b = 1
  · exact take_hard h b hb h1
  by_cases h2 : kind b = 2
  · exact take_ent h b hb h2 hroom
  by_cases h3 : kind b = 3
  · exact take_cut h b hb h3
  by_cases h4 : kind b = 4
  · exact take_snap h b hb h4
  · exact take_none h b hb h1 h2 h3 h4
end
end Go.Proofs.YtamncdpeklbhlaaDoor.Take
set_option linter.unusedVariables false
set_option linter.unusedSimpArgs false
namespace Go.Proofs.YtamncdpeklbhlaaDoor.Del
open Go.RowKit Go.Proofs.YtamncdpeklbhlaaDoor.Kit Go.Proofs.YtamncdpeklbhlaaDoor.Blocks Go.Proofs.YtamncdpeklbhlaaDoor.Rlog Go.Proofs.YtamncdpeklbhlaaDoor.Sto Go.Proofs.YtamncdpeklbhlaaDoor.Sav Go.Proofs.YtamncdpeklbhlaaDoor.Ents Go.Proofs.YtamncdpeklbhlaaDoor.Hold Go.Proofs.YtamncdpeklbhlaaDoor.Few Go.Proofs.YtamncdpeklbhlaaDoor.Ahe Go.Proofs.YtamncdpeklbhlaaDoor.Fol Go.Proofs.YtamncdpeklbhlaaDoor.Model Go.Proofs.YtamncdpeklbhlaaDoor.Ops
open Go.Proofs.YtamncdpeklbhlaaDoor.Log (LogAt)
open Go.Proofs.YtamncdpeklbhlaaDoor.Disk (Foot)

set_option maxRecDepth 100000 in
set_option maxHeartbeats 1000000 in
theorem delete_same (A : Option Addr) (n c : Nat) (w : World) (hnc : n ≤ c) (hc : c ≤ 9223372036854775807) :
    Calls Tryd.prog 32 #[.slice A n c, .int .i64 (n : Int), .int .i64 (n : Int)] w fun e w' => e = .returned (.slice A n c) ∧ w = w' := by
  have ht := Tryd.underlying35
  have ht' : Tryd.prog.underlying 35 = some (.slice (Tryd.prog.elem 35)) := by simp [Program.elem, ht]
  have he' : Tryd.prog.elem 35 = 55 := by simp [Program.elem, ht]
  obtain ⟨v0, hs0⟩ : ∃ v0, ∀ w, (Instr.slice 35 (.slice A n c) (some (.int .i64 (n : Int))) (some (.int .i64 (n : Int))) (some (.int .i64 (n : Int)))).run Tryd.prog w = .ok v0 w :=
    ⟨_, fun w => by rw [run_slice_lhm w _ _ _ _ ht' .i64 .i64 .i64 _ _ _ (by omega) (by omega) (by omega) (by omega), he', Ents.sz4]; rfl⟩
  have hne : ((n : Int) == (n : Int)) = true := by simp
  clear ht ht' he'
  go_enter Tryd.func32, Tryd.ntmps32
  go_wp2
  go_ret
  exact ⟨rfl, rfl⟩
theorem delete_all {base : Nat} {A : Option Addr} {n c k : Nat} {l : List Ent} {w : World} (hown : w.ownsRow base 55 4 (.slice A n c) n (ecells l)) (hk : k ≤ n) :
    Calls Tryd.prog 32 #[.slice A n c, .int .i64 (k : Int), .int .i64 (n : Int)] w fun e w' =>
      e = .returned (.slice A k c) ∧ w'.ownsRow base 55 4 (.slice A k c) k (ecells (l.take k)) ∧ Only (fun q => (Value.slice A n c).ownBlock = some q) w w' := by
  obtain ⟨A', c', he, hnc, hcm, _⟩ := own_form hown
  cases he
  unfold maxLen at hcm
  have hl : l.length = n := by have := hown.1; rw [ecells_length] at this; omega
  by_cases hkn : k < n
  · rcases hown.2 with ⟨he, h0⟩ | ⟨g, cap, cur, he, _, _, _⟩
    · injection he with _ h1 _
      omega
    · injection he with hA h1 h2
      subst hA
      refine (RlgWalkF.delete_any base g n c k l w hown hkn).mono ?_
      rintro e w' ⟨h1, h2, h3⟩
      exact ⟨h1, h2, h3.mono fun q _ hq => by rw [hq]; rfl⟩
  · obtain rfl : k = n := by omega
    refine (delete_same A k c w hnc (by omega)).mono ?_
    rintro e w' ⟨rfl, rfl⟩
    rw [List.take_of_length_le (by omega)]
    exact ⟨rfl, hown, Only.refl _ _⟩

/-- A store with its log and its disk; the blocks of X are none of theirs. -/
structure SAt (B : Nat) (X : List Nat) (w : World) (t b p N : Nat) (n : Int) (m : M) (s : Sta) (L : List Nat) (v : Value) : Prop where
  disk : Has B L w p N m
  sto : StoAt B w t b s v
  log : LogAt w b p n
  tL : t ∈ L
  bL : b ∈ L
  vL : ∀ g, v.ownBlock = some g → g ∈ L
  sub : ∀ x ∈ X, x ∈ L
  tX : t ∉ X
  bX : b ∉ X
  vX : ∀ g, v.ownBlock = some g → g ∉ X
  sb : StaB s
  ok : right s = true
section
variable {B : Nat} {X L : List Nat} {w w' : World} {t b p N : Nat} {n : Int} {m m' : M} {s s' : Sta} {v v' : Value}
theorem SAt.ne (h : SAt B X w t b p N n m s L v) : b ≠ t := by
  intro e
  have h1 := h.sto.cell
  have h2 := h.log
  unfold LogAt at h2
  rw [e, h1] at h2
  injection h2 with h2
  injection h2 with _ h3
  revert h3
  decide
theorem SAt.vb (h : SAt B X w t b p N n m s L v) : v.ownBlock ≠ some b := Take.own_ne h.sto.own h.log (by decide)
theorem has_only (h : Has B L w p N m) {S : Nat → Prop} (k : Only S w w') (hs : ∀ q, S q → q ∈ L ∨ w.heap.size ≤ q) : Has B L w' p N m := by
  obtain ⟨A, c, mb, x, hD, hF⟩ := h.disk
  refine ⟨h.fine, Nat.le_trans h.low k.size, fun b hb => Nat.lt_of_lt_of_le (h.old b hb) k.size, A, c, mb, x, hD.keep k fun q hq e => ?_, hF⟩
  rcases hs q e with h1 | h1
  · exact (hF q hq).2 h1
  · have := hD.foot_lt hq
    omega
theorem SAt.below (h : SAt B X w t b p N n m s L v) (k : Below w.heap.size w w') : SAt B X w' t b p N n m s L v :=
  ⟨h.disk.below k, h.sto.below k, h.log.below k, h.tL, h.bL, h.vL, h.sub, h.tX, h.bX, h.vX, h.sb, h.ok⟩
theorem SAt.more (h : SAt B X w t b p N n m s L v) {N' : Nat} (hN : N ≤ N') : SAt B X w t b p N' n m s L v := { h with disk := h.disk.more hN }
theorem SAt.less {X' : List Nat} (h : SAt B X w t b p N n m s L v) (hX : ∀ x ∈ X', x ∈ X) : SAt B X' w t b p N n m s L v :=
  ⟨h.disk, h.sto, h.log, h.tL, h.bL, h.vL, fun x hx => h.sub x (hX x hx), fun e => h.tX (hX _ e), fun e => h.bX (hX _ e), fun g hg e => h.vX g hg (hX _ e), h.sb, h.ok⟩
theorem SAt.base (h : SAt B X w t b p N n m s L v) : B ≤ w.heap.size := h.sto.base
/-- What others do to X. -/
theorem SAt.ext (h : SAt B X w t b p N n m s L v) {S : Nat → Prop} (k : Only S w w') (hs : ∀ q, S q → q ∈ X ∨ w.heap.size ≤ q) : SAt B X w' t b p N n m s L v := by
  have hX : ∀ q, q < w.heap.size → q ∉ X → ¬ S q := fun q hq hx e => by
    rcases hs q e with h1 | h1
    · exact hx h1
    · omega
  refine ⟨has_only h.disk k fun q hq => (hs q hq).imp (h.sub q) id, h.sto.keep k fun q hq => ?_, k.heap h.log (hX b (lt_at h.log) h.bX), h.tL, h.bL, h.vL, h.sub, h.tX, h.bX, h.vX, h.sb, h.ok⟩
  rcases hq with rfl | hq
  · exact hX _ h.sto.lt h.tX
  · exact hX _ (h.sto.row_lt hq).2 (h.vX q hq)
/-- A block that came behind. -/
theorem SAt.beside (h : SAt B X w t b p N n m s L v) (k : Below w.heap.size w w') {x : Nat} (h0 : w.heap.size ≤ x) (h1 : x < w'.heap.size) : SAt B (x :: X) w' t b p N n m s (x :: L) v := by
  have h2 := h.below k
  have hlt := h.sto.lt
  have hlb := lt_at h.log
  refine ⟨h.disk.beside k h0 h1, h2.sto, h2.log, List.mem_cons_of_mem _ h.tL, List.mem_cons_of_mem _ h.bL, fun g hg => List.mem_cons_of_mem _ (h.vL g hg), fun y hy => ?_, fun e => ?_, fun e => ?_, fun g hg e => ?_, h.sb, h.ok⟩
  · rcases List.mem_cons.1 hy with rfl | hy
    · simp
    · exact List.mem_cons_of_mem _ (h.sub y hy)
  · rcases List.mem_cons.1 e with rfl | e
    · omega
    · exact h.tX e
  · rcases List.mem_cons.1 e with rfl | e
    · omega
    · exact h.bX e
  · rcases List.mem_cons.1 e with rfl | e
    · have := (h.sto.row_lt hg).2; omega
    · exact h.vX g hg e
/-- The disk has gone on. -/
theorem SAt.wrote {N' : Nat} (h : SAt B X w t b p N n m s L v) (hd : Has B L w' p N' m') (hl : LogAt w' b p n) (k : Keeps B L w w') : SAt B X w' t b p N' n m' s L v := by
  refine ⟨hd, h.sto.keep k fun q hq e => ?_, hl, h.tL, h.bL, h.vL, h.sub, h.tX, h.bX, h.vX, h.sb, h.ok⟩
  rcases hq with rfl | hq
  · exact e.2 h.tL
  · exact e.2 (h.vL q hq)
theorem SAt.keeps (h : SAt B X w t b p N n m s L v) (k : Keeps B L w w') : Keeps B X w w' := k.fewer h.sub
/-- The store itself has been written. -/
theorem SAt.turned (h : SAt B X w t b p N n m s L v) (k : Only (Hold.Foot t v) w w') (hs : StoAt B w' t b s' v') (hat : ∀ q, v'.ownBlock = some q → v.ownBlock = some q ∨ w.heap.size ≤ q) (sb : StaB s') (ok : right s' = true) :
    (∃ L', SAt B X w' t b p N n m s' L' v') ∧ Keeps B X w w' := by
  have hbt := h.ne
  have hvb := h.vb
  have hSL : ∀ q, Hold.Foot t v q → q ∈ L := fun q hq => by
    rcases hq with rfl | hq
    · exact h.tL
    · exact h.vL q hq
  have hSX : ∀ q, Hold.Foot t v q → q ∉ X := fun q hq => by
    rcases hq with rfl | hq
    · exact h.tX
    · exact h.vX q hq
  have hd := has_only h.disk k fun q hq => .inl (hSL q hq)
  have hlog : LogAt w' b p n := k.heap h.log fun e => by
    rcases e with e | e
    · exact hbt e
    · exact hvb e
  refine ⟨?_, k.mono fun q _ hq => ⟨(h.sto.foot_lt hq).1, hSX q hq⟩⟩
  by_cases hv : ∀ q, v'.ownBlock = some q → v.ownBlock = some q
  · exact ⟨L, hd, hs, hlog, h.tL, h.bL, fun g hg => h.vL g (hv g hg), h.sub, h.tX, h.bX, fun g hg => h.vX g (hv g hg), sb, ok⟩
  · obtain ⟨g, hg⟩ := Classical.not_forall.1 hv
    obtain ⟨hg1, hg2⟩ := Classical.not_imp.1 hg
    have hgn : w.heap.size ≤ g := (hat g hg1).resolve_left hg2
    have hglt := (hs.row_lt hg1).2
    have hv' : ∀ q, v'.ownBlock = some q → q = g := fun q hq => by rw [hg1] at hq; injection hq with hq; exact hq.symm
    obtain ⟨A, c, mb, x, hD, hF⟩ := h.disk.disk
    have hD' := hD.keep k fun q hq e => (hF q hq).2 (hSL q e)
    refine ⟨g :: L, ⟨h.disk.fine, hd.low, fun y hy => ?_, A, c, mb, x, hD', fun q hq => ⟨(hF q hq).1, fun e => ?_⟩⟩, hs, hlog, List.mem_cons_of_mem _ h.tL, List.mem_cons_of_mem _ h.bL, fun q hq => by rw [hv' q hq]; simp, fun y hy => List.mem_cons_of_mem _ (h.sub y hy), h.tX, h.bX, fun q hq e => ?_, sb, ok⟩
    · rcases List.mem_cons.1 hy with rfl | hy
      · exact hglt
      · exact hd.old y hy
    · rcases List.mem_cons.1 e with rfl | e
      · have := hD.foot_lt hq; omega
      · exact (hF q hq).2 e
    · rw [hv' q hq] at e
      have := h.disk.old g (h.sub g e)
      omega
end
end Go.Proofs.YtamncdpeklbhlaaDoor.Del
