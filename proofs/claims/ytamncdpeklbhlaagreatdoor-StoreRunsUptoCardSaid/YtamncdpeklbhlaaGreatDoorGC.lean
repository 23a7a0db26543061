/- What each statement of layer 8 asks first, walked: a vote lasts. -/
import Derived.Test.YtamncdpeklbhlaaGreatDoorGB
import Derived.BigQuiet
import Derived.Deep.QuietTactic
import Derived.BigRegion
import Derived.Deep.CutRange
import Derived.Deep.CutBlock
import Derived.Lib.SliceRun
import Derived.Deep.RegionHeld3
set_option linter.unusedVariables false
set_option linter.unusedSimpArgs false
namespace Go.Proofs.YtamncdpeklbhlaaGreatDoor.Ahe
open Go.RowKit Go.Proofs.YtamncdpeklbhlaaGreatDoor.Kit Go.Proofs.YtamncdpeklbhlaaGreatDoor.Blocks Go.Proofs.YtamncdpeklbhlaaGreatDoor.Rlog Go.Proofs.YtamncdpeklbhlaaGreatDoor.Sto Go.Proofs.YtamncdpeklbhlaaGreatDoor.Sav Go.Proofs.YtamncdpeklbhlaaGreatDoor.Ents Go.Proofs.YtamncdpeklbhlaaGreatDoor.Hold Go.Proofs.YtamncdpeklbhlaaGreatDoor.Few Go.Proofs.YtamncdpeklbhlaaGreatDoor.Cut Go.Proofs.YtamncdpeklbhlaaGreatDoor.RlgWalkB Go.Proofs.YtamncdpeklbhlaaGreatDoor.RlgWalkC

/-- Block t is a store: its log is block b, its state is s, its entries' slice is v. -/
abbrev StoAt (B : Nat) (w : World) (t b : Nat) (s : Sta) (v : Value) : Prop := Hold 94 B w t (.pointer (some ⟨b, 0, none⟩) :: pre s) v s.es
section
variable {B : Nat} {w : World} {t b : Nat} {s : Sta} {v : Value}
set_option maxRecDepth 100000 in
set_option maxHeartbeats 1000000 in
theorem state_any (h : StoAt B w t b s v) (h63 : s.es.length * 40 ≤ 140737488355328) : Calls Tryz.prog 20 #[.pointer (some ⟨t, 0, none⟩)] w (Few.Gives w s) := by
  obtain ⟨A, c, rfl, _, _, hr⟩ := h.form
  have hba : Below w.heap.size w (w.alloc (.cells #[.int .u64 0, .int .i64 0, .int .u64 0, .int .u64 0, .int .u64 0, .string ⟨#[]⟩, .slice none 0 0] 45)) := (Below.refl _ _).alloc (Nat.le_refl _) _
  have hcz := heap_alloc_new w (.cells #[.int .u64 0, .int .i64 0, .int .u64 0, .int .u64 0, .int .u64 0, .string ⟨#[]⟩, .slice none 0 0] 45)
  have h0 := h.below hba
  have hcp := copied_any s A s.es.length c _ ((Kit.Reads.below hr hba).more hba.size) h63
  have c1 := h0.at_ 1 rfl
  have c2 := h0.at_ 2 rfl
  have c3 := h0.at_ 3 rfl
  have c4 := h0.at_ 4 rfl
  have c5 := h0.at_ 5 rfl
  have c6 := h0.at_ 6 rfl
  have c7 := h0.at_ 7 rfl
  have hlt := h.lt
  obtain ⟨n, hn⟩ : ∃ n, s.es.length = n := ⟨_, rfl⟩
  unfold Few.Gives staV at hcp ⊢
  obtain ⟨tm, vt, ⟨ix, st, cf, d⟩, es⟩ := s
  simp only at *
  rw [hn] at hcp c7 ⊢
  have HCP := Lib.hid hcp
  have HCZ := Lib.hid hcz
  have HBA := Lib.hid hba
  have HN := Lib.hid hn
  clear hcp hcz hba h0 h hr hn
  go_enter Tryz.func20, Tryz.ntmps20
  go_wp2_with fail
  refine HCP.out.mono ?_
  rintro e w1 ⟨A', c', rfl, hown, hb1⟩
  have hcz1 := (hb1.block w.heap.size (lt_at HCZ.out)).trans HCZ.out
  have z0 : w1.cell? ⟨w.heap.size, 0, none⟩ = some (.int .u64 0) := by rw [cell_at hcz1]; rfl
  have z1 : w1.cell? ⟨w.heap.size, 1, none⟩ = some (.int .i64 0) := by rw [cell_at hcz1]; rfl
  have z2 : w1.cell? ⟨w.heap.size, 2, none⟩ = some (.int .u64 0) := by rw [cell_at hcz1]; rfl
  have z3 : w1.cell? ⟨w.heap.size, 3, none⟩ = some (.int .u64 0) := by rw [cell_at hcz1]; rfl
  have z4 : w1.cell? ⟨w.heap.size, 4, none⟩ = some (.int .u64 0) := by rw [cell_at hcz1]; rfl
  have z5 : w1.cell? ⟨w.heap.size, 5, none⟩ = some (.string ⟨#[]⟩) := by rw [cell_at hcz1]; rfl
  have z6 : w1.cell? ⟨w.heap.size, 6, none⟩ = some (.slice none 0 0) := by rw [cell_at hcz1]; rfl
  have g0 := free_at hcz1 0
  have g1 := free_at hcz1 1
  have g2 := free_at hcz1 2
  have g3 := free_at hcz1 3
  have g4 := free_at hcz1 4
  have g5 := free_at hcz1 5
  have g6 := free_at hcz1 6
  have hlt1 := lt_at hcz1
  have HZ1 := Lib.hid hcz1
  have HOwn := Lib.hid hown
  have HB1 := Lib.hid (HBA.out.trans (hb1.mono HBA.out.size))
  clear hcz1 hown hb1
  go_wp2_with fail
  obtain ⟨hblk, o2⟩ := set7 HZ1.out rfl (.int .u64 (tm : Int)) (.int .i64 vt) (.int .u64 (ix : Int)) (.int .u64 (st : Int)) (.int .u64 (cf : Int)) (.string d) (.slice A' n c')
  refine bodyPost_ret (results_cell_row (p := 2) (ty := 45) rfl _ _ w.heap.size 45 _ (0, 0) _ rfl hblk Tryz.underlying45 rfl (by kernel_rfl)) rfl ?_
  have hne : ∀ q, (Value.slice A' n c').ownBlock = some q → q ≠ w.heap.size := fun q hq e => by have := (HOwn.out.lt q hq).1; have := lt_at HCZ.out; omega
  exact ⟨A', c', rfl, own_base (o2.own HOwn.out hne) HBA.out.size, HB1.out.trans (o2.below HB1.out.size fun k hk => by omega)⟩
set_option maxRecDepth 100000 in
theorem state_none (w : World) : Calls Tryz.prog 20 #[.pointer none] w fun e w' => e = .returned (staV ⟨0, 0, ⟨0, 0, 0, ⟨#[]⟩⟩, []⟩ none 0 0) ∧ Below w.heap.size w w' := by
  have hba : Below w.heap.size w (w.alloc (.cells #[.int .u64 0, .int .i64 0, .int .u64 0, .int .u64 0, .int .u64 0, .string ⟨#[]⟩, .slice none 0 0] 45)) := (Below.refl _ _).alloc (Nat.le_refl _) _
  have hcz := heap_alloc_new w (.cells #[.int .u64 0, .int .i64 0, .int .u64 0, .int .u64 0, .int .u64 0, .string ⟨#[]⟩, .slice none 0 0] 45)
  have HCZ := Lib.hid hcz
  clear hcz
  go_enter Tryz.func20, Tryz.ntmps20
  go_wp2_with fail
  refine bodyPost_ret (results_cell_row (p := 2) (ty := 45) rfl _ _ w.heap.size 45 _ (0, 0) _ rfl HCZ.out Tryz.underlying45 rfl (by kernel_rfl)) rfl ?_
  exact ⟨rfl, hba⟩
end

/-- The slice of what stays. -/
def Stays (w : World) (s : Sta) (l : List Ent) (A : Option Addr) (c : Nat) (e : Ending) (w' : World) : Prop := ∃ k, k ≤ s.es.length ∧ stayE s l = s.es.take k ∧ e = .returned (.slice A k c) ∧ Below w.heap.size w w'
theorem ahead_nil {B : Nat} {w : World} {t b : Nat} {s : Sta} {A : Option Addr} {c : Nat} (h : StoAt B w t b s (.slice A s.es.length c)) (Al : Option Addr) (cl : Nat) :
    Calls Tryz.prog 46 #[.pointer (some ⟨t, 0, none⟩), .slice Al 0 cl] w (Stays w s [] A c) := by
  have c7 := h.at_ 7 rfl
  have hlt := h.lt
  have h63 : s.es.length ≤ 9223372036854775807 := by obtain ⟨A', c', he, h1, h2, _⟩ := h.form; omega
  obtain ⟨n, hn⟩ : ∃ n, s.es.length = n := ⟨_, rfl⟩
  rw [hn] at c7 h63
  have HN := Lib.hid hn
  clear hn h
  go_enter Tryz.func46, Tryz.ntmps46
  go_wp2_with fail
  go_loopw [5] (fun v wr => v = .slice A n c ∧ Below w.heap.size w wr) (fun _ _ => 1)
  case atStart => exact ⟨rfl, Below.refl _ _⟩
  case round =>
    obtain ⟨rfl, hbel⟩ := hrel
    have hg : decide ((0 : Int) < 0) = false := by decide
    go_wp2_with fail
    go_quiet (fail)
    go_wp2
    go_ret
    exact ⟨n, by rw [HN.out]; exact Nat.le_refl _, by rw [List.take_of_length_le (by rw [HN.out]; exact Nat.le_refl _)]; rfl, rfl, below_drewN hbel _⟩

theorem stay_of {s : Sta} (hc : chained s.es s.snap.idx s.snap.term = true) {e0 : Ent} {r : List Ent} {k : Nat} (hk : k ≤ s.es.length) (h1 : ∀ j e, k ≤ j → s.es[j]? = some e → e0.idx ≤ e.idx) (h2 : k = 0 ∨ ∃ e, s.es[k - 1]? = some e ∧ e.idx < e0.idx) : stayE s (e0 :: r) = s.es.take k := by
  refine while_split _ s.es k hk (fun j e hj he => ?_) (fun e he => ?_)
  · rcases h2 with h2 | ⟨e', he', hlt⟩
    · omega
    · have a := (follow_at hc he).1
      have b := (follow_at hc he').1
      exact decide_eq_true (by omega)
  · have := h1 k e (Nat.le_refl _) he
    exact decide_eq_false (by omega)
theorem sub_one {k m : Nat} (h : m + 1 = k) (h63 : k ≤ 9223372036854775807) : IntKind.i64.wrap ((k : Int) - 1) = (m : Int) ∧ wrap64 ((k : Int) - 1) = (m : Int) := by
  rw [IntKind.wrap_i64]
  unfold wrap64
  omega
set_option maxRecDepth 100000 in
set_option maxHeartbeats 2000000 in
theorem ahead_some {B : Nat} {w : World} {t b : Nat} {s : Sta} {A : Option Addr} {c : Nat} (h : StoAt B w t b s (.slice A s.es.length c)) (hch : chained s.es s.snap.idx s.snap.term = true) (Al : Option Addr) (nl cl : Nat) (e0 : Ent) (l : List Ent) (hl : RE w w.heap.size Al nl (e0 :: l)) (hnl : nl ≤ 9223372036854775807) :
    Calls Tryz.prog 46 #[.pointer (some ⟨t, 0, none⟩), .slice Al nl cl] w (Stays w s (e0 :: l) A c) := by
  have c7 := h.at_ 7 rfl
  have hlt := h.lt
  have hr : RE w w.heap.size A s.es.length s.es ∧ s.es.length ≤ c ∧ c ≤ 9223372036854775807 := by obtain ⟨A', c', he, h1, h2, h3⟩ := h.form; cases he; exact ⟨h3, h1, h2⟩
  obtain ⟨hr, hnc, hcm⟩ := hr
  have hln := RE.len hl
  have hnl0 : 0 < nl := by rw [← hln]; simp
  have hnli : decide ((0 : Int) < (nl : Int)) = true := decide_eq_true (by omega)
  have hnl1 : (0 : Int) < (nl : Int) := by omega
  obtain ⟨bl, ol, e0', rfl, hbl, he0, hf0⟩ := RE.at_ hl hnl0
  cases he0
  rw [Nat.zero_mul, Nat.add_zero] at hf0
  have i0 := hf0.c1
  obtain ⟨I, hI⟩ : ∃ I, e0.idx = I := ⟨_, rfl⟩
  rw [hI] at i0
  have HI := Lib.hid hI
  obtain ⟨n, hn⟩ : ∃ n, s.es.length = n := ⟨_, rfl⟩
  rw [hn] at c7 hnc hr
  have HN := Lib.hid hn
  have HCH := Lib.hid hch
  clear hn h hch hln hf0 hI
  go_enter Tryz.func46, Tryz.ntmps46
  go_wp2_with fail
  go_loopw [5] (fun v wr => ∃ k : Nat, k ≤ n ∧ v = .slice A k c ∧ Hid (∀ j e, k ≤ j → s.es[j]? = some e → e0.idx ≤ e.idx) ∧ Below w.heap.size w wr) (fun v _ => match v with | .slice _ k _ => k | _ => 0)
  case atStart => exact ⟨n, Nat.le_refl _, rfl, fun j e hj he => by have := (List.getElem?_eq_some_iff.1 he).1; have := HN.out; omega, Below.refl _ _⟩
  case round =>
    obtain ⟨k, hk, rfl, HA, hbel⟩ := hrel
    have j0 : wr.cell? ⟨bl, ol + 1, none⟩ = some (.int .u64 (I : Int)) := (hbel.cell (p := ⟨bl, ol + 1, none⟩) hbl).trans i0
    by_cases hk0 : k = 0
    · subst hk0
      have hg : decide ((0 : Int) < 0) = false := by decide
      have HS : Hid (stayE s (e0 :: l) = s.es.take 0) := stay_of HCH.out (Nat.zero_le _) HA.out (.inl rfl)
      go_wp2_with fail
      go_quiet (fail)
      go_wp2
      go_ret
      exact ⟨0, Nat.zero_le _, HS.out, rfl, below_drewN hbel _⟩
    · obtain ⟨m, hm⟩ : ∃ m, m + 1 = k := ⟨k - 1, by omega⟩
      obtain ⟨bb, o, e, rfl, hbb, hek, hfour⟩ := RE.at_ (RE.first hr hk) (k := m) (by omega)
      rw [List.getElem?_take, if_pos (by omega)] at hek
      have hfr := Four.below hfour hbel hbb
      have d1 := hfr.c1
      have hki : decide ((0 : Int) < (k : Int)) = true := decide_eq_true (by omega)
      have hk1 : (0 : Int) < (k : Int) := by omega
      have hk2 : decide (0 < k) = true := decide_eq_true (by omega)
      have hk3 : 0 < k := by omega
      obtain ⟨q1, q2⟩ := sub_one hm (by omega)
      have hm0 : (0 : Int) ≤ (m : Int) := by omega
      have hmk : (m : Int) < (k : Int) := by omega
      by_cases hge : e0.idx ≤ e.idx
      · have hge' : decide (I ≤ e.idx) = true := decide_eq_true (by rw [← HI.out]; exact hge)
        have hgi : decide ((I : Int) ≤ (e.idx : Int)) = true := decide_eq_true (by rw [← HI.out]; omega)
        have HNX : Hid (∀ j e, m ≤ j → s.es[j]? = some e → e0.idx ≤ e.idx) := fun j e' hj he' => by
          by_cases h : k ≤ j
          · exact HA.out j e' h he'
          · obtain rfl : j = m := by omega
            rw [hek] at he'
            cases he'
            exact hge
        obtain ⟨tm, ix, kd, d⟩ := e
        simp only at *
        clear hek hfour hfr HA hge
        have hmn : m ≤ n := by omega
        have hmc : m ≤ c := by omega
        go_wp2_with fail
        go_quiet (fail)
        go_wp2
        go_roundw
        case rel => exact ⟨m, hmn, rfl, HNX, below_drewN hbel _⟩
        case measure => simp; omega
      · have hge' : decide (I ≤ e.idx) = false := decide_eq_false (by rw [← HI.out]; exact hge)
        have hgi : decide ((I : Int) ≤ (e.idx : Int)) = false := decide_eq_false (by rw [← HI.out]; omega)
        have HS : Hid (stayE s (e0 :: l) = s.es.take k) := stay_of HCH.out (by rw [HN.out]; exact hk) HA.out (.inr ⟨e, by rw [← hm, Nat.add_sub_cancel]; exact hek, by omega⟩)
        obtain ⟨tm, ix, kd, d⟩ := e
        simp only at *
        clear hek hfour hfr HA hge
        go_wp2_with fail
        go_quiet (fail)
        go_wp2
        go_ret
        exact ⟨k, by rw [HN.out]; exact hk, HS.out, rfl, below_drewN hbel _⟩
end Go.Proofs.YtamncdpeklbhlaaGreatDoor.Ahe
set_option linter.unusedVariables false
set_option linter.unusedSimpArgs false
namespace Go.Proofs.YtamncdpeklbhlaaGreatDoor.Fol
open Go.RowKit Go.Proofs.YtamncdpeklbhlaaGreatDoor.Kit Go.Proofs.YtamncdpeklbhlaaGreatDoor.Blocks Go.Proofs.YtamncdpeklbhlaaGreatDoor.Rlog Go.Proofs.YtamncdpeklbhlaaGreatDoor.Sto Go.Proofs.YtamncdpeklbhlaaGreatDoor.Sav Go.Proofs.YtamncdpeklbhlaaGreatDoor.Ents Go.Proofs.YtamncdpeklbhlaaGreatDoor.Hold Go.Proofs.YtamncdpeklbhlaaGreatDoor.Few Go.Proofs.YtamncdpeklbhlaaGreatDoor.Cut Go.Proofs.YtamncdpeklbhlaaGreatDoor.Ahe Go.Proofs.YtamncdpeklbhlaaGreatDoor.RlgWalkB Go.Proofs.YtamncdpeklbhlaaGreatDoor.RlgWalkC
section
variable {B : Nat} {w : World} {t b : Nat} {s : Sta} {A : Option Addr} {c : Nat}

theorem ahead_any (h : StoAt B w t b s (.slice A s.es.length c)) (hr : right s = true) (Al : Option Addr) (nl cl : Nat) (l : List Ent) (hl : RE w w.heap.size Al nl l) (hnl : nl ≤ 9223372036854775807) :
    Calls Tryz.prog 46 #[.pointer (some ⟨t, 0, none⟩), .slice Al nl cl] w (Stays w s l A c) := by
  cases l with
  | nil =>
    obtain rfl : nl = 0 := (RE.len hl).symm
    exact ahead_nil h Al cl
  | cons e l => exact ahead_some h (right_iff.1 hr).1.2 Al nl cl e l hl hnl

set_option maxRecDepth 100000 in
set_option maxHeartbeats 2000000 in
theorem follow_none (h : StoAt B w t b s (.slice A s.es.length c)) (hs : StaB s) (Al : Option Addr) (nl cl : Nat) (l : List Ent) (hl : RE w w.heap.size Al nl l) (hlb : ∀ e ∈ l, EntB e) (h40 : nl * 40 ≤ 140737488355328) (hk : stayE s l = s.es.take 0) :
    Calls Tryz.prog 48 #[.pointer (some ⟨t, 0, none⟩), .slice A 0 c, .slice Al nl cl] w (Few.TellsB w (okB (behindS s l) l)) := by
  have c3 := h.at_ 3 rfl
  have c4 := h.at_ 4 rfl
  have c5 := h.at_ 5 rfl
  have c6 := h.at_ 6 rfl
  have hlt := h.lt
  have hb : behindS s l = s.snap := by unfold behindS; rw [hk, List.take_zero, lasts_nil]
  rw [hb]
  obtain ⟨r, hr⟩ : ∃ r, okB s.snap l = r := ⟨_, rfl⟩
  rw [hr]
  have hR := Lib.hid hr
  have hsn := hs.snap
  have hba : Below w.heap.size w (w.alloc (.cells #[.int .u64 (s.snap.idx : Int), .int .u64 (s.snap.term : Int), .int .u64 (s.snap.cfg : Int), .string s.snap.data] 42)) := (Below.refl _ _).alloc (Nat.le_refl _) _
  have hck := check_hid hsn Al nl cl _ ((Kit.Reads.below hl hba).more hba.size) hlb h40 hR
  obtain ⟨tm, vt, ⟨ix, st, cf, d⟩, es⟩ := s
  simp only at *
  have HCK := Lib.hid hck
  clear hck h hs hb hr hR hsn hk hl
  go_enter Tryz.func48, Tryz.ntmps48
  go_wp2_with fail
  refine HCK.out.mono ?_
  rintro e w1 ⟨a, rfl, hb1⟩
  cases r <;>
  · go_wp2
    go_ret
    exact ⟨rfl, hba.trans (hb1.mono hba.size)⟩
set_option maxRecDepth 100000 in
set_option maxHeartbeats 4000000 in
theorem follow_some (h : StoAt B w t b s (.slice A s.es.length c)) (hs : StaB s) (Al : Option Addr) (nl cl : Nat) (l : List Ent) (hl : RE w w.heap.size Al nl l) (hlb : ∀ e ∈ l, EntB e) (h40 : nl * 40 ≤ 140737488355328) (k m : Nat) (hm : m + 1 = k) (hkn : k ≤ s.es.length) (hk : stayE s l = s.es.take k) :
    Calls Tryz.prog 48 #[.pointer (some ⟨t, 0, none⟩), .slice A k c, .slice Al nl cl] w (Few.TellsB w (okB (behindS s l) l)) := by
  have c3 := h.at_ 3 rfl
  have c4 := h.at_ 4 rfl
  have c5 := h.at_ 5 rfl
  have c6 := h.at_ 6 rfl
  have hlt := h.lt
  have hr : RE w w.heap.size A s.es.length s.es ∧ s.es.length ≤ c ∧ c ≤ 9223372036854775807 := by obtain ⟨A', c', he, h1, h2, h3⟩ := h.form; cases he; exact ⟨h3, h1, h2⟩
  obtain ⟨hr, hnc, hcm⟩ := hr
  obtain ⟨bb, o, e, rfl, hbb, hek, hf⟩ := RE.at_ (RE.first hr hkn) (k := m) (by omega)
  rw [List.getElem?_take, if_pos (by omega)] at hek
  have d0 := hf.c0
  have d1 := hf.c1
  have hb : behindS s l = ⟨e.idx, e.term, s.snap.cfg, s.snap.data⟩ := by
    unfold behindS
    have := lasts_take s.es s.snap.idx s.snap.term m e hek
    rw [hm] at this
    rw [hk, this]
  have heb := hs.ents e (List.mem_of_getElem? hek)
  have hsb : SnapB ⟨e.idx, e.term, s.snap.cfg, s.snap.data⟩ := ⟨heb.idx, heb.term, hs.snap.cfg⟩
  rw [hb]
  obtain ⟨r, hro⟩ : ∃ r, okB ⟨e.idx, e.term, s.snap.cfg, s.snap.data⟩ l = r := ⟨_, rfl⟩
  rw [hro]
  have hR := Lib.hid hro
  have hck := fun W (hb : Below w.heap.size w W) => check_hid hsb Al nl cl W ((Kit.Reads.below hl hb).more hb.size) hlb h40 hR
  obtain ⟨q1, q2⟩ := sub_one hm (by omega)
  have hk2 : decide (0 < k) = true := decide_eq_true (by omega)
  have hk3 : 0 < k := by omega
  have hm0 : (0 : Int) ≤ (m : Int) := by omega
  have hmk : (m : Int) < (k : Int) := by omega
  obtain ⟨tm, vt, ⟨ix, st, cf, d⟩, es⟩ := s
  obtain ⟨etm, eix, ekd, ed⟩ := e
  simp only at *
  have HCK := Lib.hid hck
  have hba : Below w.heap.size w (w.alloc (.cells #[.int .u64 (ix : Int), .int .u64 (st : Int), .int .u64 (cf : Int), .string d] 42)) := (Below.refl _ _).alloc (Nat.le_refl _) _
  have hcb := heap_alloc_new w (.cells #[.int .u64 (ix : Int), .int .u64 (st : Int), .int .u64 (cf : Int), .string d] 42)
  obtain ⟨w0, hw0⟩ : ∃ w0, w.alloc (.cells #[.int .u64 (ix : Int), .int .u64 (st : Int), .int .u64 (cf : Int), .string d] 42) = w0 := ⟨_, rfl⟩
  have x0 : w0.cell? ⟨w.heap.size, 0, none⟩ = some (.int .u64 (ix : Int)) := by rw [← hw0, cell_at hcb]; rfl
  have x1 : w0.cell? ⟨w.heap.size, 1, none⟩ = some (.int .u64 (st : Int)) := by rw [← hw0, cell_at hcb]; rfl
  have x2 : w0.cell? ⟨w.heap.size, 2, none⟩ = some (.int .u64 (cf : Int)) := by rw [← hw0, cell_at hcb]; rfl
  have x3 : w0.cell? ⟨w.heap.size, 3, none⟩ = some (.string d) := by rw [← hw0, cell_at hcb]; rfl
  rw [hw0] at hcb hba
  have y0 := free_at hcb 0
  have y1 := free_at hcb 1
  have hltb : w.heap.size < w0.heap.size := lt_at hcb
  have hneb : ¬ bb = w.heap.size := by omega
  have e0 : w0.cell? ⟨bb, o + m * 4, none⟩ = some (.int .u64 (etm : Int)) := (hba.cell (p := ⟨bb, o + m * 4, none⟩) hbb).trans d0
  have e1 : w0.cell? ⟨bb, o + m * 4 + 1, none⟩ = some (.int .u64 (eix : Int)) := (hba.cell (p := ⟨bb, o + m * 4 + 1, none⟩) hbb).trans d1
  have o2 : Only (fun q => q = w.heap.size) w0 ((w0.setCell ⟨w.heap.size, 0, none⟩ (.int .u64 (eix : Int))).setCell ⟨w.heap.size, 1, none⟩ (.int .u64 (etm : Int))) := ((Only.refl (fun q => q = w.heap.size) w0).setCell (a := ⟨w.heap.size, 0, none⟩) (.inr rfl) _).setCell (a := ⟨w.heap.size, 1, none⟩) (.inr rfl) _
  have hb2 : Below w.heap.size w ((w0.setCell ⟨w.heap.size, 0, none⟩ (.int .u64 (eix : Int))).setCell ⟨w.heap.size, 1, none⟩ (.int .u64 (etm : Int))).drew := (hba.trans (o2.below hba.size fun k hk => by omega)).drew
  have HW0 := Lib.hid hw0
  have HB2 := Lib.hid hb2
  clear hck h hs hb hr hR hsb hk hl hek hf heb hro hcb hw0 o2 hb2
  go_enter Tryz.func48, Tryz.ntmps48
  go_wp2_with fail
  rw [HW0.out]
  go_region
  all_goals
    go_wp2_with fail
    refine (HCK.out _ HB2.out).mono ?_
    rintro e w1 ⟨a, rfl, hb1⟩
    have hB1 := HB2.out.trans (hb1.mono HB2.out.size)
    cases r <;>
    · go_wp2
      go_ret
      exact ⟨rfl, hB1⟩
theorem follow_any (h : StoAt B w t b s (.slice A s.es.length c)) (hs : StaB s) (Al : Option Addr) (nl cl : Nat) (l : List Ent) (hl : RE w w.heap.size Al nl l) (hlb : ∀ e ∈ l, EntB e) (h40 : nl * 40 ≤ 140737488355328) (k : Nat) (hkn : k ≤ s.es.length) (hk : stayE s l = s.es.take k) :
    Calls Tryz.prog 48 #[.pointer (some ⟨t, 0, none⟩), .slice A k c, .slice Al nl cl] w (Few.TellsB w (okB (behindS s l) l)) := by
  cases k with
  | zero => exact follow_none h hs Al nl cl l hl hlb h40 hk
  | succ m => exact follow_some h hs Al nl cl l hl hlb h40 (m + 1) m rfl hkn hk
end
end Go.Proofs.YtamncdpeklbhlaaGreatDoor.Fol
set_option linter.unusedVariables false
set_option linter.unusedSimpArgs false
namespace Go.Proofs.YtamncdpeklbhlaaGreatDoor.Chg
open Go.RowKit Go.Proofs.YtamncdpeklbhlaaGreatDoor.Kit Go.Proofs.YtamncdpeklbhlaaGreatDoor.Blocks Go.Proofs.YtamncdpeklbhlaaGreatDoor.Rlog Go.Proofs.YtamncdpeklbhlaaGreatDoor.Sto Go.Proofs.YtamncdpeklbhlaaGreatDoor.Sav Go.Proofs.YtamncdpeklbhlaaGreatDoor.Ents Go.Proofs.YtamncdpeklbhlaaGreatDoor.Hold Go.Proofs.YtamncdpeklbhlaaGreatDoor.Few Go.Proofs.YtamncdpeklbhlaaGreatDoor.Cut Go.Proofs.YtamncdpeklbhlaaGreatDoor.Ahe Go.Proofs.YtamncdpeklbhlaaGreatDoor.Fol Go.Proofs.YtamncdpeklbhlaaGreatDoor.RlgWalkB Go.Proofs.YtamncdpeklbhlaaGreatDoor.RlgWalkC Go.Proofs.YtamncdpeklbhlaaGreatDoor.ScA
open Go.Proofs.YtamncdpeklbhlaaGreatDoor.PckWalkH (str)

/-- A row of records under way. -/
def Mid (w : World) (L : List (List UInt8)) (v : Value) (W : World) : Prop := ∃ A c, v = .slice A L.length c ∧ W.ownsRow w.heap.size 9 1 (.slice A L.length c) L.length (strs L) ∧ Below w.heap.size w W
theorem Mid.below {w W W' : World} {L : List (List UInt8)} {v : Value} (h : Mid w L v W) (k : Below W.heap.size W W') : Mid w L v W' := by
  obtain ⟨A, c, he, h1, h2⟩ := h
  exact ⟨A, c, he, own_below h1 k, h2.trans (k.mono h2.size)⟩
/-- One record more. -/
theorem wpList_rec {ops : Array Oper} {rest : List Oper} {o : Oper} {a : Act} {Q : Exit → Act → World → Prop} {w w0 : World} {L : List (List UInt8)} {x : List UInt8} {X : ByteArray} {A : Option Addr} {c n : Nat} (s y : Operand) (hgd : o.guard = none)
    (ho : o.op = .call { callee := .builtin .append, args := #[s, y], argTypes := #[68, 68] }) {wc : World} (hwc : wc = w.alloc (.cells #[.string X] 9))
    (hn : Hid (L.length = n)) (hm : w.ownsRow w0.heap.size 9 1 (.slice A n c) n (strs L)) (hB : Below w0.heap.size w0 w) (hs : a.eval s = .slice A n c) (hy : a.eval y = .slice (some ⟨w.heap.size, 0, none⟩) 1 1) (hX : Hid (str x = X)) (hb : n ≤ 2000000)
    (h : ∀ A' c' w', Mid w0 (L ++ [x]) (.slice A' (n + 1) c') w' → wpList Tryz.prog ops Q rest (a.put o.dst (.slice A' (n + 1) c')) w') : wpList Tryz.prog ops Q (o :: rest) a wc := by
  obtain ⟨i0, hi0, hz0, hz1, hz2⟩ := info_parts info9
  subst hwc
  have hba : Below w.heap.size w (w.alloc (.cells #[.string X] 9)) := (Below.refl _ _).alloc (Nat.le_refl _) _
  have hB2 := hB.trans (hba.mono hB.size)
  refine wpList_append_any _ hgd s y _ ho w0.heap.size 9 i0 _ 1 16 Tryz.underlying68 hi0 hz0 hz1 hz2 rfl (by decide) _ n (strs L) hs (own_below hm hba)
    (w.heap.size + 1) _ 1 1 [.string X] hy (reads_one w (.string X) 9) (by simp [Value.oneCell']) (by unfold maxLen; omega) (by omega) hB2.size ?_
  intro v' w' hown hg hat
  obtain ⟨A', c', rfl, _, _, _⟩ := own_form hown
  refine h A' c' w' ⟨A', c', by rw [List.length_append, hn.out]; rfl, ?_, hB2.grown hg hB2.size (own_lt (own_below hm hba))⟩
  have e : (L ++ [x]).length = n + 1 := by rw [List.length_append, hn.out]; rfl
  have e2 : strs (L ++ [x]) = strs L ++ [.string X] := by rw [strs_append, ← hX.out]; rfl
  rw [e, e2]
  exact hown
theorem neq_hard (a b c d : Int) (w : World) : (binOp .neq 40 (.agg #[.int .u64 a, .int .i64 b]) (.agg #[.int .u64 c, .int .i64 d])).run Tryz.prog w = .ok (.bool (!(a == c && b == d))) w := by
  by_cases h1 : a = c <;> by_cases h2 : b = d <;> simp [binOp, Op.equal, Op.maxDepth, go_sem, h1, h2]
theorem rec_hard (t : Nat) (v : Int) (W : World) {X : ByteArray} (ht : t < 18446744073709551616) (hv0 : -9223372036854775808 ≤ v) (hv1 : v ≤ 9223372036854775807) (hX : Hid (str (recHard t v) = X)) :
    Calls Tryz.prog 36 #[.agg #[.int .u64 (t : Int), .int .i64 v]] W fun e w' => e = .returned (.string X) ∧ Below W.heap.size W w' := by
  have := Rec.hard_rec t v W ht hv0 hv1
  unfold Rec.Said at this
  rwa [hX.out] at this
theorem rec_cut (i : Nat) (W : World) {X : ByteArray} (hi : i < 18446744073709551616) (hX : Hid (str (recCut i) = X)) :
    Calls Tryz.prog 91 #[.int .u64 (i : Int)] W fun e w' => e = .returned (.string X) ∧ Below W.heap.size W w' := by
  have := Rec.cut_rec i W hi
  unfold Rec.Said at this
  rwa [hX.out] at this
theorem rec_ent (x : Ent) (W : World) {X : ByteArray} (hb : EntB x) (hd : x.data.size ≤ 32768) (hX : Hid (str (recEnt x) = X)) :
    Calls Tryz.prog 38 #[.agg #[.int .u64 (x.term : Int), .int .u64 (x.idx : Int), .int .i64 x.kind, .string x.data]] W fun e w' => e = .returned (.string X) ∧ Below W.heap.size W w' := by
  have := Rec.ent_rec x W hb (by omega)
  unfold Rec.Said at this
  rwa [hX.out] at this
theorem map_snoc {l : List Ent} {k : Nat} {e : Ent} (h : l[k]? = some e) : (l.take (k + 1)).map recEnt = (l.take k).map recEnt ++ [recEnt e] := by rw [take_snoc l k e h]; simp

/-- What changes answers. -/
def Outs (w : World) (L : List (List UInt8)) (e : Ending) (W : World) : Prop := ∃ v, e = .returned v ∧ Mid w L v W
set_option maxRecDepth 100000 in
set_option maxHeartbeats 8000000 in
theorem changes_any {B : Nat} {w : World} {t b : Nat} {s : Sta} {A : Option Addr} {c : Nat} (h : StoAt B w t b s (.slice A s.es.length c)) (tm : Nat) (vt : Int) (k : Nat) (Al : Option Addr) (nl cl : Nat) (l : List Ent) (hl : RE w w.heap.size Al nl l) (hlb : ∀ e ∈ l, EntB e) (hls : ∀ e ∈ l, e.data.size ≤ 32768)
    (hnl : nl ≤ 1000000) (ht : tm < 18446744073709551616) (hv0 : -9223372036854775808 ≤ vt) (hv1 : vt ≤ 9223372036854775807) (hkn : k ≤ s.es.length) (hk : stayE s l = s.es.take k) :
    Calls Tryz.prog 49 #[.pointer (some ⟨t, 0, none⟩), .agg #[.int .u64 (tm : Int), .int .i64 vt], .slice A k c, .slice Al nl cl] w (Outs w (hards s tm vt ++ (pcuts s l ++ l.map recEnt))) := by
  have hh := h
  have hlt := h.lt
  have hln := RE.len hl
  have hcap : s.es.length ≤ 9223372036854775807 := by obtain ⟨A', c', he, h1, h2, _⟩ := h.form; omega
  have hba : Below w.heap.size w (w.alloc (.cells #[.int .u64 (tm : Int), .int .i64 vt] 40)) := (Below.refl _ _).alloc (Nat.le_refl _) _
  have hcb := heap_alloc_new w (.cells #[.int .u64 (tm : Int), .int .i64 vt] 40)
  obtain ⟨w0, hw0⟩ : ∃ w0, w.alloc (.cells #[.int .u64 (tm : Int), .int .i64 vt] 40) = w0 := ⟨_, rfl⟩
  rw [hw0] at hba hcb
  have x0 : w0.cell? ⟨w.heap.size, 0, none⟩ = some (.int .u64 (tm : Int)) := by rw [cell_at hcb]; rfl
  have x1 : w0.cell? ⟨w.heap.size, 1, none⟩ = some (.int .i64 vt) := by rw [cell_at hcb]; rfl
  have hltb : w.heap.size < w0.heap.size := lt_at hcb
  have h0 := h.below hba
  have c1 := h0.at_ 1 rfl
  have c2 := h0.at_ 2 rfl
  have HW0 := Lib.hid hw0
  have HCB := Lib.hid hcb
  have HBA := Lib.hid hba
  have HH := Lib.hid hh
  have HL := Lib.hid hl
  have HLN := Lib.hid hln
  obtain ⟨n, hn⟩ : ∃ n, s.es.length = n := ⟨_, rfl⟩
  have HN := Lib.hid hn
  rw [hn] at hkn hcap
  obtain ⟨T, hT⟩ : ∃ T, s.term = T := ⟨_, rfl⟩
  obtain ⟨V, hV⟩ : ∃ V, s.vote = V := ⟨_, rfl⟩
  rw [hT] at c1
  rw [hV] at c2
  have hneq := fun W => neq_hard (tm : Int) vt (T : Int) V W
  obtain ⟨q, hq⟩ : ∃ q, (!((tm : Int) == (T : Int) && vt == V)) = q := ⟨_, rfl⟩
  rw [hq] at hneq
  have HQ : Hid (q = true ↔ ¬ (tm = T ∧ vt = V)) := by
    have : q = true ↔ ¬ (tm = T ∧ vt = V) := by
      rw [← hq]
      by_cases e1 : tm = T <;> by_cases e2 : vt = V <;> simp [e1, e2]
      omega
    exact this
  have HT := Lib.hid hT
  have HV := Lib.hid hV
  have HK := Lib.hid hk
  have HLB := Lib.hid hlb
  have HLS := Lib.hid hls
  clear hw0 hcb hh h h0 hl hln hn hT hV hq hk hlb hls
  go_enter Tryz.func49, Tryz.ntmps49
  go_wp2_with fail
  rw [HW0.out]
  go_quiet (fail)
  have hbq := below_drewN (Below.refl w0.heap.size w0) nq
  generalize w0.drewN nq = wq at hbq ⊢
  have y0 : wq.cell? ⟨w.heap.size, 0, none⟩ = some (.int .u64 (tm : Int)) := (hbq.cell (p := ⟨w.heap.size, 0, none⟩) hltb).trans x0
  have y1 : wq.cell? ⟨w.heap.size, 1, none⟩ = some (.int .i64 vt) := (hbq.cell (p := ⟨w.heap.size, 1, none⟩) hltb).trans x1
  go_upto_if 18 with fail
  go_cut [9] from 19 to 23 (fun v wx => Mid w0 (hards s tm vt) v wx)
  case first =>
    cases q with
    | false =>
      have HE : Hid (hards s tm vt = []) := if_pos (by rw [HT.out, HV.out]; exact Classical.byContradiction fun e => by have := HQ.out.2 e; cases this)
      go_wp2_with fail
      go_meet
      rw [HE.out]
      exact ⟨none, 0, rfl, World.ownsRow_nil _ _ _ _, hbq⟩
    | true =>
      have HE : Hid (hards s tm vt = [recHard tm vt]) := if_neg (by rw [HT.out, HV.out]; exact HQ.out.1 rfl)
      obtain ⟨X, hX⟩ : ∃ X, str (recHard tm vt) = X := ⟨_, rfl⟩
      have HX := Lib.hid hX
      clear hX
      go_wp2_with fail
      refine (rec_hard tm vt _ ht hv0 hv1 HX).mono ?_
      rintro e w1 ⟨rfl, hb1⟩
      have hB1 := hbq.trans (hb1.mono hbq.size)
      have hn0 : Hid (([] : List (List UInt8)).length = 0) := rfl
      have hrow : w1.ownsRow w0.heap.size 9 1 (.slice none 0 0) 0 (strs []) := World.ownsRow_nil _ _ _ _
      go_wp2_with
        (at_builtin
         refine wpList_rec (.tmp 19) (.tmp 22) rfl rfl rfl hn0 hrow hB1 rfl rfl HX (by decide) ?_
         intro A1 c1 w2 hm2)
      go_meet
      rw [HE.out]
      exact hm2
  case rest =>
    obtain ⟨A1, c1, rfl, hrow1, hB1⟩ := hcut
    obtain ⟨n1, hn1⟩ : ∃ n1, (hards s tm vt).length = n1 := ⟨_, rfl⟩
    have hn1b : n1 ≤ 1 := by rw [← hn1]; exact hards_len _ _ _
    rw [hn1] at hrow1 ⊢
    have HN1 := Lib.hid hn1
    have hb2 := HBA.out.trans (hB1.mono HBA.out.size)
    have h2 := HH.out.below hb2
    have c7 := h2.at_ 7 rfl
    rw [HN.out] at c7
    have hlt2 := h2.lt
    have HB1 := Lib.hid hB1
    have HR1 := Lib.hid hrow1
    obtain ⟨q2, hki⟩ : ∃ q2, decide (k < n) = q2 := ⟨_, rfl⟩
    clear hn1 h2 hrow1 hB1
    go_upto_if 32 with fail
    go_cut [9] from 33 to 40 (fun v wx => Mid w0 (hards s tm vt ++ pcuts s l) v wx)
    case first =>
      have hsl : (stayE s l).length = k := by rw [HK.out, List.length_take, HN.out]; omega
      cases q2 with
      | true =>
        have hkn2 : k < n := of_decide_eq_true hki
        have hnl0 : 0 < nl := by
          rcases Nat.eq_zero_or_pos nl with h0 | h0
          · have hl0 : l = [] := List.eq_nil_of_length_eq_zero (by rw [HLN.out, h0])
            subst hl0
            have : (stayE s []).length = n := HN.out
            omega
          · exact h0
        obtain ⟨bl, ol, e0, rfl, hbl, he0, hf0⟩ := RE.at_ HL.out hnl0
        rw [Nat.zero_mul, Nat.add_zero] at hf0
        have i0 : wc.cell? ⟨bl, ol + 1, none⟩ = some (.int .u64 (e0.idx : Int)) := (hb2.cell (p := ⟨bl, ol + 1, none⟩) hbl).trans hf0.c1
        have heb := (HLB.out e0 (List.mem_of_getElem? he0)).idx
        have hnl1 : (0 : Int) < (nl : Int) := by omega
        have HP : Hid (pcuts s l = [recCut e0.idx]) := by
          have : pcuts s l = [recCut e0.idx] := by
            match l, he0, hsl with
            | x :: r, he0, hsl =>
              simp only [List.getElem?_cons_zero, Option.some.injEq] at he0
              subst he0
              unfold pcuts
              simp only
              rw [hsl, if_pos (by rw [HN.out]; exact hkn2)]
          exact this
        obtain ⟨X, hX⟩ : ∃ X, str (recCut e0.idx) = X := ⟨_, rfl⟩
        have HX := Lib.hid hX
        obtain ⟨ix, hix⟩ : ∃ ix, e0.idx = ix := ⟨_, rfl⟩
        rw [hix] at HX HP heb i0
        clear hX he0 hf0 hix hsl
        go_wp2_with fail
        refine (rec_cut ix _ heb HX).mono ?_
        rintro e w1 ⟨rfl, hb1⟩
        have hR := own_below HR1.out hb1
        have hB := HB1.out.trans (hb1.mono HB1.out.size)
        go_wp2_with
          (at_builtin
           refine wpList_rec (.tmp 33) (.tmp 39) rfl rfl rfl HN1 hR hB rfl rfl HX (by omega) ?_
           intro A2 c2 w2 hm2)
        go_meet
        rw [HP.out]
        exact hm2
      | false =>
        have hkn2 : ¬ k < n := of_decide_eq_false hki
        have HP : Hid (pcuts s l = []) := by
          have : pcuts s l = [] := by
            cases l with
            | nil => rfl
            | cons e0 r =>
              unfold pcuts
              simp only
              rw [hsl, if_neg (by rw [HN.out]; exact hkn2)]
          exact this
        clear hsl
        go_wp2_with fail
        go_meet
        rw [HP.out, List.append_nil]
        exact ⟨A1, c1, by rw [HN1.out], by rw [HN1.out]; exact HR1.out, HB1.out⟩
    case rest =>
      obtain ⟨L0, hL0⟩ : ∃ L0, hards s tm vt ++ pcuts s l = L0 := ⟨_, rfl⟩
      have hL0n : L0.length ≤ 2 := by
        rw [← hL0, List.length_append]
        have h1 := hards_len s tm vt
        have h2 : (pcuts s l).length ≤ 1 := by
          cases l with
          | nil => simp [pcuts]
          | cons e r => unfold pcuts; simp only; split <;> simp
        omega
      rw [hL0] at hcut
      have HL0 := Lib.hid hL0
      have HC := Lib.hid hcut
      have hbc := hb2
      clear hL0 hcut
      go_wp2_with fail
      go_loopw [9, 43] (fun v i wr => ∃ j : Nat, j ≤ nl ∧ i = .int .i64 (j : Int) ∧ Mid w0 (L0 ++ (l.take j).map recEnt) v wr) (fun _ i _ => nl - (intOf i).toNat)
      case atStart => exact ⟨0, Nat.zero_le _, rfl, by rw [List.take_zero, List.map_nil, List.append_nil]; exact HC.out⟩
      case round =>
        obtain ⟨j, hj, rfl, hmid⟩ := hrel
        obtain ⟨A2, c2, rfl, hrow2, hB2⟩ := hmid
        obtain ⟨n2, hn2⟩ : ∃ n2, (L0 ++ (l.take j).map recEnt).length = n2 := ⟨_, rfl⟩
        have hn2b : n2 ≤ 1000002 := by
          rw [← hn2, List.length_append, List.length_map, List.length_take]
          omega
        rw [hn2] at hrow2 ⊢
        have HN2 := Lib.hid hn2
        have hsz2 := hB2.size
        have hb3 := HBA.out.trans (hB2.mono HBA.out.size)
        by_cases hjn : j < nl
        · obtain ⟨bl, ol, x, rfl, hbl, hx, hf⟩ := RE.at_ HL.out hjn
          have hfr := Four.below hf hb3 hbl
          have e0 := hfr.c0
          have e1 := hfr.c1
          have e2 := hfr.c2
          have e3 := hfr.c3
          have hxm := List.mem_of_getElem? hx
          obtain ⟨X, hX⟩ : ∃ X, str (recEnt x) = X := ⟨_, rfl⟩
          have HX := Lib.hid hX
          have hrec := fun W => rec_ent x W (HLB.out x hxm) (HLS.out x hxm) HX
          have HSN := Lib.hid (map_snoc hx)
          have hba2 : Below wr.heap.size wr (wr.alloc (.cells #[.int .u64 (x.term : Int), .int .u64 (x.idx : Int), .int .i64 x.kind, .string x.data] 83)) := (Below.refl _ _).alloc (Nat.le_refl _) _
          have hR2 := own_below hrow2 hba2
          have hB3 := hB2.trans (hba2.mono hsz2)
          obtain ⟨tm', ix, kd, d⟩ := x
          simp only at *
          have HRec := Lib.hid hrec
          clear hrec hX hxm hx hf hfr hn2 hrow2
          go_wp2_with fail
          refine (HRec.out _).mono ?_
          rintro e w1 ⟨rfl, hb1⟩
          have hR3 := own_below hR2 hb1
          have hB4 := hB3.trans (hb1.mono hB3.size)
          go_wp2_with
            (at_builtin
             refine wpList_rec (.tmp 47) (.tmp 50) rfl rfl rfl HN2 hR3 hB4 rfl rfl HX (by omega) ?_
             intro A3 c3 w2 hm2)
          go_roundw
          case rel => exact ⟨j + 1, by omega, by go_num, by rw [HSN.out, ← List.append_assoc]; exact hm2⟩
          case measure => simp [intOf]; omega
        · obtain rfl : j = nl := by omega
          have hall : l.take j = l := List.take_of_length_le (by rw [HLN.out]; exact Nat.le_refl _)
          rw [hall] at hrow2 HN2
          have HR2 := Lib.hid hrow2
          clear hrow2 hall hn2
          go_wp2
          go_ret
          refine ⟨_, rfl, A2, c2, ?_, ?_, HBA.out.trans (hB2.mono HBA.out.size)⟩
          · rw [← List.append_assoc, HL0.out, HN2.out]
            rfl
          · rw [← List.append_assoc, HL0.out, HN2.out]
            exact own_base HR2.out HBA.out.size
end Go.Proofs.YtamncdpeklbhlaaGreatDoor.Chg
set_option linter.unusedVariables false
set_option linter.unusedSimpArgs false
namespace Go.Proofs.YtamncdpeklbhlaaGreatDoor.Del
open Go.RowKit Go.Proofs.YtamncdpeklbhlaaGreatDoor.Kit Go.Proofs.YtamncdpeklbhlaaGreatDoor.Blocks Go.Proofs.YtamncdpeklbhlaaGreatDoor.Rlog Go.Proofs.YtamncdpeklbhlaaGreatDoor.Sto Go.Proofs.YtamncdpeklbhlaaGreatDoor.Sav Go.Proofs.YtamncdpeklbhlaaGreatDoor.Ents Go.Proofs.YtamncdpeklbhlaaGreatDoor.Hold Go.Proofs.YtamncdpeklbhlaaGreatDoor.Few Go.Proofs.YtamncdpeklbhlaaGreatDoor.Ahe Go.Proofs.YtamncdpeklbhlaaGreatDoor.Fol Go.Proofs.YtamncdpeklbhlaaGreatDoor.Model Go.Proofs.YtamncdpeklbhlaaGreatDoor.Ops
open Go.Proofs.YtamncdpeklbhlaaGreatDoor.Log (LogAt)
open Go.Proofs.YtamncdpeklbhlaaGreatDoor.Disk (Foot)

set_option maxRecDepth 100000 in
set_option maxHeartbeats 1000000 in
theorem delete_same (A : Option Addr) (n c : Nat) (w : World) (hnc : n ≤ c) (hc : c ≤ 9223372036854775807) :
    Calls Tryz.prog 51 #[.slice A n c, .int .i64 (n : Int), .int .i64 (n : Int)] w fun e w' => e = .returned (.slice A n c) ∧ w = w' := by
  have ht := Tryz.underlying43
  have ht' : Tryz.prog.underlying 43 = some (.slice (Tryz.prog.elem 43)) := by simp [Program.elem, ht]
  have he' : Tryz.prog.elem 43 = 83 := by simp [Program.elem, ht]
  obtain ⟨v0, hs0⟩ : ∃ v0, ∀ w, (Instr.slice 43 (.slice A n c) (some (.int .i64 (n : Int))) (some (.int .i64 (n : Int))) (some (.int .i64 (n : Int)))).run Tryz.prog w = .ok v0 w :=
    ⟨_, fun w => by rw [run_slice_lhm w _ _ _ _ ht' .i64 .i64 .i64 _ _ _ (by omega) (by omega) (by omega) (by omega), he', Ents.sz4]; rfl⟩
  have hne : ((n : Int) == (n : Int)) = true := by simp
  clear ht ht' he'
  go_enter Tryz.func51, Tryz.ntmps51
  go_wp2
  go_ret
  exact ⟨rfl, rfl⟩
theorem delete_all {base : Nat} {A : Option Addr} {n c k : Nat} {l : List Ent} {w : World} (hown : w.ownsRow base 83 4 (.slice A n c) n (ecells l)) (hk : k ≤ n) :
    Calls Tryz.prog 51 #[.slice A n c, .int .i64 (k : Int), .int .i64 (n : Int)] w fun e w' =>
      e = .returned (.slice A k c) ∧ w'.ownsRow base 83 4 (.slice A k c) k (ecells (l.take k)) ∧ Only (fun q => (Value.slice A n c).ownBlock = some q) w w' := by
  obtain ⟨A', c', he, hnc, hcm, _⟩ := own_form hown
  cases he
  unfold maxLen at hcm
  have hl : l.length = n := by have := hown.1; rw [ecells_length] at this; omega
  by_cases hkn : k < n
  · rcases hown.2 with ⟨he, h0⟩ | ⟨g, cap, cur, he, _, _, _⟩
    · injection he with _ h1 _
      omega
    · injection he with hA h1 h2
      subst hA
      refine (RlgWalkF.delete_any base g n c k l w hown hkn).mono ?_
      rintro e w' ⟨h1, h2, h3⟩
      exact ⟨h1, h2, h3.mono fun q _ hq => by rw [hq]; rfl⟩
  · obtain rfl : k = n := by omega
    refine (delete_same A k c w hnc (by omega)).mono ?_
    rintro e w' ⟨rfl, rfl⟩
    rw [List.take_of_length_le (by omega)]
    exact ⟨rfl, hown, Only.refl _ _⟩

/-- A store with its log and its disk; the blocks of X are none of theirs. -/
structure SAt (B : Nat) (X : List Nat) (w : World) (t b p N : Nat) (n : Int) (m : M) (s : Sta) (L : List Nat) (v : Value) : Prop where
  disk : Has B L w p N m
  sto : StoAt B w t b s v
  log : LogAt w b p n
  tL : t ∈ L
  bL : b ∈ L
  vL : ∀ g, v.ownBlock = some g → g ∈ L
  sub : ∀ x ∈ X, x ∈ L
  tX : t ∉ X
  bX : b ∉ X
  vX : ∀ g, v.ownBlock = some g → g ∉ X
  sb : StaB s
  ok : right s = true
section
variable {B : Nat} {X L : List Nat} {w w' : World} {t b p N : Nat} {n : Int} {m m' : M} {s s' : Sta} {v v' : Value}
theorem SAt.ne (h : SAt B X w t b p N n m s L v) : b ≠ t := by
  intro e
  have h1 := h.sto.cell
  have h2 := h.log
  unfold LogAt at h2
  rw [e, h1] at h2
  injection h2 with h2
  injection h2 with _ h3
  revert h3
  decide
theorem SAt.vb (h : SAt B X w t b p N n m s L v) : v.ownBlock ≠ some b := Take.own_ne h.sto.own h.log (by decide)
theorem has_only (h : Has B L w p N m) {S : Nat → Prop} (k : Only S w w') (hs : ∀ q, S q → q ∈ L ∨ w.heap.size ≤ q) : Has B L w' p N m := by
  obtain ⟨A, c, mb, x, hD, hF⟩ := h.disk
  refine ⟨h.fine, Nat.le_trans h.low k.size, fun b hb => Nat.lt_of_lt_of_le (h.old b hb) k.size, A, c, mb, x, hD.keep k fun q hq e => ?_, hF⟩
  rcases hs q e with h1 | h1
  · exact (hF q hq).2 h1
  · have := hD.foot_lt hq
    omega
theorem SAt.below (h : SAt B X w t b p N n m s L v) (k : Below w.heap.size w w') : SAt B X w' t b p N n m s L v :=
  ⟨h.disk.below k, h.sto.below k, h.log.below k, h.tL, h.bL, h.vL, h.sub, h.tX, h.bX, h.vX, h.sb, h.ok⟩
theorem SAt.more (h : SAt B X w t b p N n m s L v) {N' : Nat} (hN : N ≤ N') : SAt B X w t b p N' n m s L v := { h with disk := h.disk.more hN }
theorem SAt.less {X' : List Nat} (h : SAt B X w t b p N n m s L v) (hX : ∀ x ∈ X', x ∈ X) : SAt B X' w t b p N n m s L v :=
  ⟨h.disk, h.sto, h.log, h.tL, h.bL, h.vL, fun x hx => h.sub x (hX x hx), fun e => h.tX (hX _ e), fun e => h.bX (hX _ e), fun g hg e => h.vX g hg (hX _ e), h.sb, h.ok⟩
theorem SAt.base (h : SAt B X w t b p N n m s L v) : B ≤ w.heap.size := h.sto.base
/-- What others do to X. -/
theorem SAt.ext (h : SAt B X w t b p N n m s L v) {S : Nat → Prop} (k : Only S w w') (hs : ∀ q, S q → q ∈ X ∨ w.heap.size ≤ q) : SAt B X w' t b p N n m s L v := by
  have hX : ∀ q, q < w.heap.size → q ∉ X → ¬ S q := fun q hq hx e => by
    rcases hs q e with h1 | h1
    · exact hx h1
    · omega
  refine ⟨has_only h.disk k fun q hq => (hs q hq).imp (h.sub q) id, h.sto.keep k fun q hq => ?_, k.heap h.log (hX b (lt_at h.log) h.bX), h.tL, h.bL, h.vL, h.sub, h.tX, h.bX, h.vX, h.sb, h.ok⟩
  rcases hq with rfl | hq
  · exact hX _ h.sto.lt h.tX
  · exact hX _ (h.sto.row_lt hq).2 (h.vX q hq)
/-- A block that came behind. -/
theorem SAt.beside (h : SAt B X w t b p N n m s L v) (k : Below w.heap.size w w') {x : Nat} (h0 : w.heap.size ≤ x) (h1 : x < w'.heap.size) : SAt B (x :: X) w' t b p N n m s (x :: L) v := by
  have h2 := h.below k
  have hlt := h.sto.lt
  have hlb := lt_at h.log
  refine ⟨h.disk.beside k h0 h1, h2.sto, h2.log, List.mem_cons_of_mem _ h.tL, List.mem_cons_of_mem _ h.bL, fun g hg => List.mem_cons_of_mem _ (h.vL g hg), fun y hy => ?_, fun e => ?_, fun e => ?_, fun g hg e => ?_, h.sb, h.ok⟩
  · rcases List.mem_cons.1 hy with rfl | hy
    · simp
    · exact List.mem_cons_of_mem _ (h.sub y hy)
  · rcases List.mem_cons.1 e with rfl | e
    · omega
    · exact h.tX e
  · rcases List.mem_cons.1 e with rfl | e
    · omega
    · exact h.bX e
  · rcases List.mem_cons.1 e with rfl | e
    · have := (h.sto.row_lt hg).2; omega
    · exact h.vX g hg e
/-- The disk has gone on. -/
theorem SAt.wrote {N' : Nat} (h : SAt B X w t b p N n m s L v) (hd : Has B L w' p N' m') (hl : LogAt w' b p n) (k : Keeps B L w w') : SAt B X w' t b p N' n m' s L v := by
  refine ⟨hd, h.sto.keep k fun q hq e => ?_, hl, h.tL, h.bL, h.vL, h.sub, h.tX, h.bX, h.vX, h.sb, h.ok⟩
  rcases hq with rfl | hq
  · exact e.2 h.tL
  · exact e.2 (h.vL q hq)
theorem SAt.keeps (h : SAt B X w t b p N n m s L v) (k : Keeps B L w w') : Keeps B X w w' := k.fewer h.sub
/-- The store itself has been written. -/
theorem SAt.turned (h : SAt B X w t b p N n m s L v) (k : Only (Hold.Foot t v) w w') (hs : StoAt B w' t b s' v') (hat : ∀ q, v'.ownBlock = some q → v.ownBlock = some q ∨ w.heap.size ≤ q) (sb : StaB s') (ok : right s' = true) :
    (∃ L', SAt B X w' t b p N n m s' L' v') ∧ Keeps B X w w' := by
  have hbt := h.ne
  have hvb := h.vb
  have hSL : ∀ q, Hold.Foot t v q → q ∈ L := fun q hq => by
    rcases hq with rfl | hq
    · exact h.tL
    · exact h.vL q hq
  have hSX : ∀ q, Hold.Foot t v q → q ∉ X := fun q hq => by
    rcases hq with rfl | hq
    · exact h.tX
    · exact h.vX q hq
  have hd := has_only h.disk k fun q hq => .inl (hSL q hq)
  have hlog : LogAt w' b p n := k.heap h.log fun e => by
    rcases e with e | e
    · exact hbt e
    · exact hvb e
  refine ⟨?_, k.mono fun q _ hq => ⟨(h.sto.foot_lt hq).1, hSX q hq⟩⟩
  by_cases hv : ∀ q, v'.ownBlock = some q → v.ownBlock = some q
  · exact ⟨L, hd, hs, hlog, h.tL, h.bL, fun g hg => h.vL g (hv g hg), h.sub, h.tX, h.bX, fun g hg => h.vX g (hv g hg), sb, ok⟩
  · obtain ⟨g, hg⟩ := Classical.not_forall.1 hv
    obtain ⟨hg1, hg2⟩ := Classical.not_imp.1 hg
    have hgn : w.heap.size ≤ g := (hat g hg1).resolve_left hg2
    have hglt := (hs.row_lt hg1).2
    have hv' : ∀ q, v'.ownBlock = some q → q = g := fun q hq => by rw [hg1] at hq; injection hq with hq; exact hq.symm
    obtain ⟨A, c, mb, x, hD, hF⟩ := h.disk.disk
    have hD' := hD.keep k fun q hq e => (hF q hq).2 (hSL q e)
    refine ⟨g :: L, ⟨h.disk.fine, hd.low, fun y hy => ?_, A, c, mb, x, hD', fun q hq => ⟨(hF q hq).1, fun e => ?_⟩⟩, hs, hlog, List.mem_cons_of_mem _ h.tL, List.mem_cons_of_mem _ h.bL, fun q hq => by rw [hv' q hq]; simp, fun y hy => List.mem_cons_of_mem _ (h.sub y hy), h.tX, h.bX, fun q hq e => ?_, sb, ok⟩
    · rcases List.mem_cons.1 hy with rfl | hy
      · exact hglt
      · exact hd.old y hy
    · rcases List.mem_cons.1 e with rfl | e
      · have := hD.foot_lt hq; omega
      · exact (hF q hq).2 e
    · rw [hv' q hq] at e
      have := h.disk.old g (h.sub g e)
      omega
end
end Go.Proofs.YtamncdpeklbhlaaGreatDoor.Del
set_option linter.unusedVariables false
set_option linter.unusedSimpArgs false
namespace Go.Proofs.YtamncdpeklbhlaaGreatDoor.Save
open Go.RowKit Go.Proofs.YtamncdpeklbhlaaGreatDoor.Kit Go.Proofs.YtamncdpeklbhlaaGreatDoor.Blocks Go.Proofs.YtamncdpeklbhlaaGreatDoor.Rlog Go.Proofs.YtamncdpeklbhlaaGreatDoor.Sto Go.Proofs.YtamncdpeklbhlaaGreatDoor.Sav Go.Proofs.YtamncdpeklbhlaaGreatDoor.Ents Go.Proofs.YtamncdpeklbhlaaGreatDoor.Hold Go.Proofs.YtamncdpeklbhlaaGreatDoor.Few Go.Proofs.YtamncdpeklbhlaaGreatDoor.Ahe Go.Proofs.YtamncdpeklbhlaaGreatDoor.Fol Go.Proofs.YtamncdpeklbhlaaGreatDoor.Chg Go.Proofs.YtamncdpeklbhlaaGreatDoor.Del Go.Proofs.YtamncdpeklbhlaaGreatDoor.Model Go.Proofs.YtamncdpeklbhlaaGreatDoor.Ops Go.Proofs.YtamncdpeklbhlaaGreatDoor.ScA Go.Proofs.YtamncdpeklbhlaaGreatDoor.FrA Go.Proofs.YtamncdpeklbhlaaGreatDoor.SumB
open Go.Proofs.YtamncdpeklbhlaaGreatDoor.Log (LogAt wappend wanew)
open Go.Proofs.YtamncdpeklbhlaaGreatDoor.LogC (LS append_any)
open Go.Proofs.YtamncdpeklbhlaaGreatDoor.App (step_app)

theorem save_none (tm : Nat) (vt : Int) (Al : Option Addr) (nl cl : Nat) (w : World) :
    Calls Tryz.prog 16 #[.pointer none, .agg #[.int .u64 (tm : Int), .int .i64 vt], .slice Al nl cl] w fun e w' => e = .returned (.int .i64 10) ∧ Below w.heap.size w w' := by
  have hba : Below w.heap.size w (w.alloc (.cells #[.int .u64 (tm : Int), .int .i64 vt] 40)) := (Below.refl _ _).alloc (Nat.le_refl _) _
  go_enter Tryz.func16, Tryz.ntmps16
  go_wp2
  go_ret
  exact ⟨rfl, hba⟩

/-- A slice that a store's calls leave alone. -/
def Out (B : Nat) (X : List Nat) (A : Option Addr) (n : Nat) : Prop := 0 < n → ∀ ad, A = some ad → ad.block < B ∨ ad.block ∈ X
theorem Out.low {B n : Nat} {X : List Nat} {A : Option Addr} {w : World} {l : List Ent} (h : RE w B A n l) : Out B X A n := fun hn ad e => by
  obtain ⟨ad', e', hb, _⟩ := h.2 hn
  rw [e] at e'
  cases e'
  exact .inl hb
theorem re_keep {B D n : Nat} {X : List Nat} {A : Option Addr} {w w' : World} {l : List Ent} {S : Nat → Prop} (hr : RE w D A n l) (ho : Out B X A n) (k : Only S w w') (hD : D ≤ w.heap.size) (hS : ∀ q, S q → B ≤ q ∧ q ∉ X) : RE w' D A n l :=
  LogAt.Off.reads (fun hn ad e hs => by
    obtain ⟨h1, h2⟩ := hS _ hs
    rcases ho hn ad e with h | h
    · omega
    · exact h2 h) k hr hD
/-- What a call that changes a store leaves. -/
def Saved (B : Nat) (X : List Nat) (w : World) (t b p N : Nat) (n : Int) (r : Int × (M × Sta)) (e : Ending) (w' : World) : Prop :=
  e = .returned (.int .i64 r.1) ∧ (∃ L v, SAt B X w' t b p N n r.2.1 r.2.2 L v) ∧ Keeps B X w w'
section
variable {B : Nat} {X L : List Nat} {w w' : World} {t b p N : Nat} {n : Int} {m : M} {s : Sta} {v : Value}

theorem hard_hid {vt : Int} {q : Bool} (tm : Nat) (h : Hid (voteB vt = q)) (W : World) : Calls Tryz.prog 47 #[.agg #[.int .u64 (tm : Int), .int .i64 vt]] W (Few.TellsB W q) := by
  have := Few.hard_any tm vt W
  rwa [h.out] at this
set_option maxRecDepth 100000 in
set_option maxHeartbeats 2000000 in
theorem save_no (h : SAt B X w t b p N n m s L v) (tm : Nat) (vt : Int) (Al : Option Addr) (nl cl : Nat) (l : List Ent) (hl : RE w w.heap.size Al nl l) (hlb : ∀ e ∈ l, EntB e) (h40 : nl * 40 ≤ 140737488355328) (hno : okSave s vt l = false) :
    Calls Tryz.prog 16 #[.pointer (some ⟨t, 0, none⟩), .agg #[.int .u64 (tm : Int), .int .i64 vt], .slice Al nl cl] w (Saved B X w t b p N n (1, (m, s))) := by
  obtain ⟨A, c, rfl, _, _, _⟩ := h.sto.form
  have hba : Below w.heap.size w (w.alloc (.cells #[.int .u64 (tm : Int), .int .i64 vt] 40)) := (Below.refl _ _).alloc (Nat.le_refl _) _
  have hcb := heap_alloc_new w (.cells #[.int .u64 (tm : Int), .int .i64 vt] 40)
  obtain ⟨w0, hw0⟩ : ∃ w0, w.alloc (.cells #[.int .u64 (tm : Int), .int .i64 vt] 40) = w0 := ⟨_, rfl⟩
  rw [hw0] at hba hcb
  have x0 : w0.cell? ⟨w.heap.size, 0, none⟩ = some (.int .u64 (tm : Int)) := by rw [cell_at hcb]; rfl
  have x1 : w0.cell? ⟨w.heap.size, 1, none⟩ = some (.int .i64 vt) := by rw [cell_at hcb]; rfl
  have hltb : w.heap.size < w0.heap.size := lt_at hcb
  have hre : ∀ W, Below w.heap.size w W → RE W W.heap.size Al nl l := fun W hb => (Kit.Reads.below hl hb).more hb.size
  have ha := ahead_any (h.sto.below hba) h.ok Al nl cl l (hre _ hba) (by omega)
  have hf := fun W (hb : Below w.heap.size w W) k hk1 hk2 => follow_any (h.sto.below hb) h.sb Al nl cl l (hre W hb) hlb h40 k hk1 hk2
  obtain ⟨q1, hq1⟩ : ∃ q1, voteB vt = q1 := ⟨_, rfl⟩
  obtain ⟨q2, hq2⟩ : ∃ q2, okB (behindS s l) l = q2 := ⟨_, rfl⟩
  rw [hq2] at hf
  have hqq : (q1 && q2) = false := by rw [← hno, ← hq1, ← hq2]; rfl
  have HF := Lib.hid hf
  have HA := Lib.hid ha
  have HQ1 := Lib.hid hq1
  have HH := Lib.hid h
  have HW0 := Lib.hid hw0
  have HBA := Lib.hid hba
  clear hf ha hq1 hq2 h hl hlb hre hw0 hcb hba hno
  go_enter Tryz.func16, Tryz.ntmps16
  go_wp2_with fail
  rw [HW0.out]
  refine HA.out.mono ?_
  rintro e w1 ⟨k, hk1, hk2, rfl, hb1⟩
  have hB1 := HBA.out.trans (hb1.mono HBA.out.size)
  have y0 : w1.cell? ⟨w.heap.size, 0, none⟩ = some (.int .u64 (tm : Int)) := (hb1.cell (p := ⟨w.heap.size, 0, none⟩) hltb).trans x0
  have y1 : w1.cell? ⟨w.heap.size, 1, none⟩ = some (.int .i64 vt) := (hb1.cell (p := ⟨w.heap.size, 1, none⟩) hltb).trans x1
  have HK1 := Lib.hid hk1
  have HK2 := Lib.hid hk2
  clear hk1 hk2 hb1
  go_wp2_with fail
  refine (hard_hid tm HQ1 _).mono ?_
  rintro e w2 ⟨rfl, hb2⟩
  have hB2 := hB1.trans (hb2.mono hB1.size)
  cases q1 with
  | false =>
    go_wp2
    go_ret
    exact ⟨rfl, ⟨L, _, HH.out.below hB2⟩, Keeps.of_below hB2⟩
  | true =>
    obtain rfl : q2 = false := hqq
    go_wp2_with fail
    refine (HF.out w2 hB2 k HK1.out HK2.out).mono ?_
    rintro e w3 ⟨rfl, hb3⟩
    have hB3 := hB2.trans (hb3.mono hB2.size)
    go_wp2
    go_ret
    exact ⟨rfl, ⟨L, _, HH.out.below hB3⟩, Keeps.of_below hB3⟩

set_option maxRecDepth 100000 in
set_option maxHeartbeats 8000000 in
theorem save_same (h : SAt B X w t b p N n m s L v) (htab : Tab w) (hgB : 0 < B) (hN : N < 900000) (hn0 : -9223372036854775808 ≤ n) (hn1 : n ≤ 9223372036854775807) (tm : Nat) (vt : Int) (htm : tm < 18446744073709551616) (hv0 : -9223372036854775808 ≤ vt) (hv1 : vt ≤ 9223372036854775807) (Al : Option Addr) (nl cl : Nat) (l : List Ent) (hl : RE w w.heap.size Al nl l) (hout : Out B X Al nl) (hlb : ∀ e ∈ l, EntB e) (hnl : nl ≤ 999990) (hes : s.es.length ≤ 2000000)
    (hok : right (savedS s tm vt l) = true) (hnone : out s tm vt l = []) (N' : Nat) (hN' : N ≤ N') :
    Calls Tryz.prog 16 #[.pointer (some ⟨t, 0, none⟩), .agg #[.int .u64 (tm : Int), .int .i64 vt], .slice Al nl cl] w (Saved B X w t b p N' n (0, (m, savedS s tm vt l))) := by
  obtain ⟨A, c, rfl, _, _, _⟩ := h.sto.form
  have hBw := h.base
  have hok2 : okSave s vt l = true := by rw [← right_after h.ok tm vt l]; exact hok
  have hq1 : voteB vt = true := (Bool.and_eq_true_iff.1 hok2).1
  have hq2 : okB (behindS s l) l = true := (Bool.and_eq_true_iff.1 hok2).2
  have hls : ∀ e ∈ l, e.data.size ≤ 32768 := fun e he => (follow_mem (Bool.and_eq_true_iff.1 hq2).2 he).1
  have hpc := pcuts_eq h.ok hok
  have hba : Below w.heap.size w (w.alloc (.cells #[.int .u64 (tm : Int), .int .i64 vt] 40)) := (Below.refl _ _).alloc (Nat.le_refl _) _
  have hcb := heap_alloc_new w (.cells #[.int .u64 (tm : Int), .int .i64 vt] 40)
  obtain ⟨w0, hw0⟩ : ∃ w0, w.alloc (.cells #[.int .u64 (tm : Int), .int .i64 vt] 40) = w0 := ⟨_, rfl⟩
  rw [hw0] at hba hcb
  have x0 : w0.cell? ⟨w.heap.size, 0, none⟩ = some (.int .u64 (tm : Int)) := by rw [cell_at hcb]; rfl
  have x1 : w0.cell? ⟨w.heap.size, 1, none⟩ = some (.int .i64 vt) := by rw [cell_at hcb]; rfl
  have hltb : w.heap.size < w0.heap.size := lt_at hcb
  have hre : ∀ W, Below w.heap.size w W → RE W W.heap.size Al nl l := fun W hb => ((Kit.Reads.below hl hb).more hb.size)
  have ha := ahead_any (h.sto.below hba) h.ok Al nl cl l (hre _ hba) (by omega)
  have hf := fun W (hb : Below w.heap.size w W) k hk1 hk2 => follow_any (h.sto.below hb) h.sb Al nl cl l (hre W hb) hlb (by omega) k hk1 hk2
  rw [hq2] at hf
  have hc := fun W (hb : Below w.heap.size w W) k hk1 hk2 => changes_any (h.sto.below hb) tm vt k Al nl cl l (hre W hb) hlb hls (by omega) htm hv0 hv1 hk1 hk2
  rw [hpc] at hc
  have hol := out_len s tm vt l
  rw [RE.len hl] at hol
  obtain ⟨O, hO⟩ : ∃ O, hards s tm vt ++ (cuts s l ++ l.map recEnt) = O := ⟨_, rfl⟩
  have hO2 : out s tm vt l = O := hO
  rw [hO2] at hol
  rw [hO] at hc
  have HF := Lib.hid hf
  have HA := Lib.hid ha
  have HCh := Lib.hid hc
  have HQ1 : Hid (voteB vt = true) := hq1
  have HH := Lib.hid h
  have HW0 := Lib.hid hw0
  have HBA := Lib.hid hba
  have HOut := Lib.hid hO2
  have HOk := Lib.hid hok
  have HL := Lib.hid hl
  have HOT := Lib.hid hout
  have HLB := Lib.hid hlb
  have HLN := Lib.hid (RE.len hl)
  have HT := Lib.hid htab
  clear hf ha hc hq1 hq2 h hl hout hlb hre hw0 hcb hba hok hok2 hls hpc hO hO2 htab
  go_enter Tryz.func16, Tryz.ntmps16
  go_wp2_with fail
  rw [HW0.out]
  refine HA.out.mono ?_
  rintro e w1 ⟨k, hk1, hk2, rfl, hb1⟩
  have hB1 := HBA.out.trans (hb1.mono HBA.out.size)
  have y0 : w1.cell? ⟨w.heap.size, 0, none⟩ = some (.int .u64 (tm : Int)) := (hb1.cell (p := ⟨w.heap.size, 0, none⟩) hltb).trans x0
  have y1 : w1.cell? ⟨w.heap.size, 1, none⟩ = some (.int .i64 vt) := (hb1.cell (p := ⟨w.heap.size, 1, none⟩) hltb).trans x1
  have hlt1 : w.heap.size < w1.heap.size := Nat.lt_of_lt_of_le hltb hb1.size
  have HK1 := Lib.hid hk1
  have HK2 := Lib.hid hk2
  clear hk1 hk2 hb1 x0 x1
  go_wp2_with fail
  refine (hard_hid tm HQ1 _).mono ?_
  rintro e w2 ⟨rfl, hb2⟩
  have hB2 := hB1.trans (hb2.mono hB1.size)
  go_wp2_with fail
  refine (HF.out w2 hB2 k HK1.out HK2.out).mono ?_
  rintro e w3 ⟨rfl, hb3⟩
  have hB3 := hB2.trans (hb3.mono hB2.size)
  have hb13 : Below w1.heap.size w1 w3 := hb2.trans (hb3.mono hb2.size)
  have z0 : w3.cell? ⟨w.heap.size, 0, none⟩ = some (.int .u64 (tm : Int)) := (hb13.cell (p := ⟨w.heap.size, 0, none⟩) hlt1).trans y0
  have z1 : w3.cell? ⟨w.heap.size, 1, none⟩ = some (.int .i64 vt) := (hb13.cell (p := ⟨w.heap.size, 1, none⟩) hlt1).trans y1
  have hlt3 : w.heap.size < w3.heap.size := Nat.lt_of_lt_of_le hlt1 hb13.size
  clear y0 y1 hb2 hb3 hb13
  go_wp2_with fail
  refine (HCh.out w3 hB3 k HK1.out HK2.out).mono ?_
  rintro e w4 ⟨v4, rfl, A4, c4, rfl, hrow4, hb4⟩
  have hB4 := hB3.trans (hb4.mono hB3.size)
  have u0 : w4.cell? ⟨w.heap.size, 0, none⟩ = some (.int .u64 (tm : Int)) := (hb4.cell (p := ⟨w.heap.size, 0, none⟩) hlt3).trans z0
  have u1 : w4.cell? ⟨w.heap.size, 1, none⟩ = some (.int .i64 vt) := (hb4.cell (p := ⟨w.heap.size, 1, none⟩) hlt3).trans z1
  have hlt4 : w.heap.size < w4.heap.size := Nat.lt_of_lt_of_le hlt3 hb4.size
  have h4 := HH.out.below hB4
  clear z0 z1 hb4
  obtain rfl : O = [] := by rw [← HOut.out]; exact hnone
  clear hrow4
  have hkq : Keeps B L w w4 := Keeps.of_below hB4
  have hsq := h4
  clear h4
  have hq4 := hsq.sto.at_ 1 rfl
  have hq5 := hsq.sto.at_ 2 rfl
  have hf4 := hsq.sto.free 1
  have hf5 := hsq.sto.free 2
  have hltt := hsq.sto.lt
  obtain ⟨hs1, o1⟩ := hsq.sto.set (i := 1) (.int .u64 (tm : Int)) (by simp [pre])
  obtain ⟨hs2, o2⟩ := hs1.set (i := 2) (.int .i64 vt) (by simp [pre])
  have hs2' : Hold 94 B ((w4.setCell ⟨t, 1, none⟩ (.int .u64 (tm : Int))).setCell ⟨t, 2, none⟩ (.int .i64 vt)) t (.pointer (some ⟨b, 0, none⟩) :: pre (savedS s tm vt l)) (.slice A s.es.length c) s.es := hs2
  have o12 := o1.trans o2
  have hc7 := hs2'.at_ 7 rfl
  have hlts := hs2'.lt
  obtain ⟨ws, hws⟩ : ∃ ws, ((w4.setCell ⟨t, 1, none⟩ (.int .u64 (tm : Int))).setCell ⟨t, 2, none⟩ (.int .i64 vt)) = ws := ⟨_, rfl⟩
  rw [hws] at hs2' o12 hc7 hlts
  have hes1 : s.es.length = s.es.length := rfl
  obtain ⟨ne, hne⟩ : ∃ ne, s.es.length = ne := ⟨_, rfl⟩
  rw [hne] at hc7
  have hdel := fun k' (hk' : k' ≤ ne) => delete_all (base := B) (A := A) (n := ne) (c := c) (k := k') (l := s.es) (w := ws.drew) (by have := hs2'.drew.own; rwa [hne] at this) hk'
  have HDel := Lib.hid (hdel k (by rw [← hne]; exact HK1.out))
  have hre4 : RE w4 w.heap.size Al nl l := re_keep HL.out HOT.out hkq (Nat.le_refl _) (fun q hq => ⟨hq.1, fun e => hq.2 (HH.out.sub q e)⟩)
  have hre5 : RE ws w.heap.size Al nl l := re_keep hre4 HOT.out o12 hkq.size (fun q hq => by rw [hq]; exact ⟨hsq.sto.low, HH.out.tX⟩)
  have HSZ : Hid (w.heap.size ≤ ws.heap.size) := Nat.le_trans hkq.size o12.size
  have HR5 := Lib.hid hre5
  have HS2 := Lib.hid hs2'
  have HO12 := Lib.hid o12
  have HWS := Lib.hid hws
  have HSQ := Lib.hid hsq
  have HKQ := Lib.hid hkq
  have HNE := Lib.hid hne
  have hroom : (k + nl) * 40 ≤ 140737488355328 := by have := HK1.out; omega
  clear hs1 hs2 hs2' o1 o2 o12 hdel hre4 hre5 hws hsq hkq hes1 hne
  go_wp2_with fail
  rw [HWS.out]
  go_region_law (first
    | (refine step_app (v := .slice A k c) _ rfl _ _ rfl B rfl HO5.out rfl HR6.out (ecells_one _) hroom HBS5.out ?_
       intro A' c' w6 hown6 hg6 hat6
       have ho6 : Only (fun q => (Value.slice A ne c).ownBlock = some q) ws w6 := (Only.drew (Only.refl _ ws)).trans (HON5.out.grown hg6 fun q hq => .inr (by cases A <;> exact hq))
       have hat' : ∀ q, (Value.slice A' (k + nl) c').ownBlock = some q → (Value.slice A ne c).ownBlock = some q ∨ ws.heap.size ≤ q := fun q hq => by
         rcases hat6 with e | e
         · exact .inl (by rw [← hq, e]; cases A <;> rfl)
         · rw [hq] at e; cases e; exact .inr HON5.out.size
       obtain ⟨hcell6, hfr6, hh6, hoo6⟩ := (by have := HS2.out; rwa [HNE.out] at this : Hold 94 B ws t (.pointer (some ⟨b, 0, none⟩) :: pre (savedS s tm vt l)) (.slice A ne c) s.es).rowed (es' := s.es.take k ++ l) ho6 hown6 (by rw [List.length_append, List.length_take, HNE.out, HLN.out]; have := HK1.out; rw [HNE.out] at this; omega) (by rw [ecells_append]) hat' (i := 7) rfl
       have hlt6 : t < w6.heap.size := Nat.lt_of_lt_of_le hlts ho6.size
       have HH6 := Lib.hid hh6
       have HO6 := Lib.hid hoo6
       have HAt := Lib.hid hat'
       clear hh6 hoo6 hat' hat6 hg6 hown6 ho6)
    | (go_simp
       go_at_call 51
       (with_reducible refine HDel.out.mono ?_)
       rintro e w5 ⟨rfl, hown5, ho5⟩
       have HO5 := Lib.hid hown5
       have HON5 : Hid (Only (fun q => (Value.slice A ne c).ownBlock = some q) ws.drew w5) := ho5
       have HR6 : Hid (RE w5 w.heap.size Al nl l) := re_keep (Reads.drew HR5.out) HOT.out ho5 HSZ.out (fun q hq => ⟨(HS2.out.own.lt q (by cases A <;> exact hq)).1, HH.out.vX q (by cases A <;> exact hq)⟩)
       have HBS5 : Hid (B ≤ w5.heap.size) := Nat.le_trans HS2.out.base ho5.size
       have hlt5 : t < w5.heap.size := Nat.lt_of_lt_of_le hlts ho5.size
       clear hown5 ho5))
  all_goals
    have hsb : StaB (savedS s tm vt l) := after_b HH.out.sb htm hv0 hv1 HLB.out
    have hes : (savedS s tm vt l).es = s.es.take k ++ l := by
      show stayE s l ++ l = _
      rw [HK2.out]
    have hh := HH6.out
    rw [← hes] at hh
    have hfo : Only (Hold.Foot t (.slice A s.es.length c)) w4 (w6.setCell ⟨t, 7, none⟩ (.slice A' (k + nl) c')) := (HO12.out.mono fun q _ hq => .inl hq).trans (by have := HO6.out; rwa [← HNE.out] at this)
    have hat : ∀ q, (Value.slice A' (k + nl) c').ownBlock = some q → (Value.slice A s.es.length c).ownBlock = some q ∨ (w4).heap.size ≤ q := fun q hq => (HAt.out q hq).imp (fun e => by rw [HNE.out]; exact e) fun e => Nat.le_trans HO12.out.size e
    obtain ⟨⟨L', hS'⟩, hK'⟩ := HSQ.out.turned hfo hh hat hsb HOk.out
    have HF1 := Lib.hid hS'
    have HF2 := Lib.hid hK'
    have HF3 := Lib.hid (HH.out.keeps HKQ.out)
    clear hsb hes hh hfo hat hS' hK'
    go_wp2
    go_ret
    exact ⟨rfl, ⟨L', _, HF1.out.more hN'⟩, HF3.out.trans HF2.out⟩

set_option maxRecDepth 100000 in
set_option maxHeartbeats 8000000 in
theorem save_wrote (h : SAt B X w t b p N n m s L v) (htab : Tab w) (hgB : 0 < B) (hN : N < 900000) (hn0 : -9223372036854775808 ≤ n) (hn1 : n ≤ 9223372036854775807) (tm : Nat) (vt : Int) (htm : tm < 18446744073709551616) (hv0 : -9223372036854775808 ≤ vt) (hv1 : vt ≤ 9223372036854775807) (Al : Option Addr) (nl cl : Nat) (l : List Ent) (hl : RE w w.heap.size Al nl l) (hout : Out B X Al nl) (hlb : ∀ e ∈ l, EntB e) (hnl : nl ≤ 999990) (hes : s.es.length ≤ 2000000)
    (hok : right (savedS s tm vt l) = true) (hsome : out s tm vt l ≠ []) {r : Int} {m' : M} (hw : Hid (wappend m n (out s tm vt l) = (r, m'))) (res : Int × (M × Sta)) (hres : Hid (res = if r = 0 then (0, (m', savedS s tm vt l)) else (r, (m', s)))) :
    Calls Tryz.prog 16 #[.pointer (some ⟨t, 0, none⟩), .agg #[.int .u64 (tm : Int), .int .i64 vt], .slice Al nl cl] w (Saved B X w t b p (N + 2) n res) := by
  obtain ⟨A, c, rfl, _, _, _⟩ := h.sto.form
  have hBw := h.base
  have hok2 : okSave s vt l = true := by rw [← right_after h.ok tm vt l]; exact hok
  have hq1 : voteB vt = true := (Bool.and_eq_true_iff.1 hok2).1
  have hq2 : okB (behindS s l) l = true := (Bool.and_eq_true_iff.1 hok2).2
  have hls : ∀ e ∈ l, e.data.size ≤ 32768 := fun e he => (follow_mem (Bool.and_eq_true_iff.1 hq2).2 he).1
  have hpc := pcuts_eq h.ok hok
  have hba : Below w.heap.size w (w.alloc (.cells #[.int .u64 (tm : Int), .int .i64 vt] 40)) := (Below.refl _ _).alloc (Nat.le_refl _) _
  have hcb := heap_alloc_new w (.cells #[.int .u64 (tm : Int), .int .i64 vt] 40)
  obtain ⟨w0, hw0⟩ : ∃ w0, w.alloc (.cells #[.int .u64 (tm : Int), .int .i64 vt] 40) = w0 := ⟨_, rfl⟩
  rw [hw0] at hba hcb
  have x0 : w0.cell? ⟨w.heap.size, 0, none⟩ = some (.int .u64 (tm : Int)) := by rw [cell_at hcb]; rfl
  have x1 : w0.cell? ⟨w.heap.size, 1, none⟩ = some (.int .i64 vt) := by rw [cell_at hcb]; rfl
  have hltb : w.heap.size < w0.heap.size := lt_at hcb
  have hre : ∀ W, Below w.heap.size w W → RE W W.heap.size Al nl l := fun W hb => ((Kit.Reads.below hl hb).more hb.size)
  have ha := ahead_any (h.sto.below hba) h.ok Al nl cl l (hre _ hba) (by omega)
  have hf := fun W (hb : Below w.heap.size w W) k hk1 hk2 => follow_any (h.sto.below hb) h.sb Al nl cl l (hre W hb) hlb (by omega) k hk1 hk2
  rw [hq2] at hf
  have hc := fun W (hb : Below w.heap.size w W) k hk1 hk2 => changes_any (h.sto.below hb) tm vt k Al nl cl l (hre W hb) hlb hls (by omega) htm hv0 hv1 hk1 hk2
  rw [hpc] at hc
  have hol := out_len s tm vt l
  rw [RE.len hl] at hol
  obtain ⟨O, hO⟩ : ∃ O, hards s tm vt ++ (cuts s l ++ l.map recEnt) = O := ⟨_, rfl⟩
  have hO2 : out s tm vt l = O := hO
  rw [hO2] at hol
  rw [hO] at hc
  have HF := Lib.hid hf
  have HA := Lib.hid ha
  have HCh := Lib.hid hc
  have HQ1 : Hid (voteB vt = true) := hq1
  have HH := Lib.hid h
  have HW0 := Lib.hid hw0
  have HBA := Lib.hid hba
  have HOut := Lib.hid hO2
  have HOk := Lib.hid hok
  have HL := Lib.hid hl
  have HOT := Lib.hid hout
  have HLB := Lib.hid hlb
  have HLN := Lib.hid (RE.len hl)
  have HT := Lib.hid htab
  clear hf ha hc hq1 hq2 h hl hout hlb hre hw0 hcb hba hok hok2 hls hpc hO hO2 htab
  go_enter Tryz.func16, Tryz.ntmps16
  go_wp2_with fail
  rw [HW0.out]
  refine HA.out.mono ?_
  rintro e w1 ⟨k, hk1, hk2, rfl, hb1⟩
  have hB1 := HBA.out.trans (hb1.mono HBA.out.size)
  have y0 : w1.cell? ⟨w.heap.size, 0, none⟩ = some (.int .u64 (tm : Int)) := (hb1.cell (p := ⟨w.heap.size, 0, none⟩) hltb).trans x0
  have y1 : w1.cell? ⟨w.heap.size, 1, none⟩ = some (.int .i64 vt) := (hb1.cell (p := ⟨w.heap.size, 1, none⟩) hltb).trans x1
  have hlt1 : w.heap.size < w1.heap.size := Nat.lt_of_lt_of_le hltb hb1.size
  have HK1 := Lib.hid hk1
  have HK2 := Lib.hid hk2
  clear hk1 hk2 hb1 x0 x1
  go_wp2_with fail
  refine (hard_hid tm HQ1 _).mono ?_
  rintro e w2 ⟨rfl, hb2⟩
  have hB2 := hB1.trans (hb2.mono hB1.size)
  go_wp2_with fail
  refine (HF.out w2 hB2 k HK1.out HK2.out).mono ?_
  rintro e w3 ⟨rfl, hb3⟩
  have hB3 := hB2.trans (hb3.mono hB2.size)
  have hb13 : Below w1.heap.size w1 w3 := hb2.trans (hb3.mono hb2.size)
  have z0 : w3.cell? ⟨w.heap.size, 0, none⟩ = some (.int .u64 (tm : Int)) := (hb13.cell (p := ⟨w.heap.size, 0, none⟩) hlt1).trans y0
  have z1 : w3.cell? ⟨w.heap.size, 1, none⟩ = some (.int .i64 vt) := (hb13.cell (p := ⟨w.heap.size, 1, none⟩) hlt1).trans y1
  have hlt3 : w.heap.size < w3.heap.size := Nat.lt_of_lt_of_le hlt1 hb13.size
  clear y0 y1 hb2 hb3 hb13
  go_wp2_with fail
  refine (HCh.out w3 hB3 k HK1.out HK2.out).mono ?_
  rintro e w4 ⟨v4, rfl, A4, c4, rfl, hrow4, hb4⟩
  have hB4 := hB3.trans (hb4.mono hB3.size)
  have u0 : w4.cell? ⟨w.heap.size, 0, none⟩ = some (.int .u64 (tm : Int)) := (hb4.cell (p := ⟨w.heap.size, 0, none⟩) hlt3).trans z0
  have u1 : w4.cell? ⟨w.heap.size, 1, none⟩ = some (.int .i64 vt) := (hb4.cell (p := ⟨w.heap.size, 1, none⟩) hlt3).trans z1
  have hlt4 : w.heap.size < w4.heap.size := Nat.lt_of_lt_of_le hlt3 hb4.size
  have h4 := HH.out.beside hB4 (Nat.le_refl _) hlt4
  clear z0 z1 hb4
  obtain ⟨n4, hn4⟩ : ∃ n4, O.length = n4 := ⟨_, rfl⟩
  have hn4p : 0 < n4 := by
    rcases Nat.eq_zero_or_pos n4 with h0 | h0
    · exact absurd (List.eq_nil_of_length_eq_zero (by rw [hn4, h0])) (by rw [← HOut.out]; exact hsome)
    · exact h0
  have hn4i : decide (0 < n4) = true := decide_eq_true hn4p
  have hn4j : (0 : Int) < (n4 : Int) := by omega
  rw [hn4] at hrow4 hol
  have hw4 := hw.out
  rw [HOut.out] at hw4
  have hrs : RS w4 A4 n4 O := Reads.of_own hrow4
  have happ := append_any A4 n4 c4 O h4.log h4.disk h4.bL hrs (Tab.below HT.out hgB (hB4.mono hBw)) (by omega) hN hn0 hn1
  unfold LogC.Wrote at happ
  rw [hw4] at happ
  have HAP := Lib.hid happ
  have d0 := h4.sto.at_ 0 rfl
  have hlt40 := h4.sto.lt
  have H4 := Lib.hid h4
  rw [hn4]
  clear happ hrs hrow4 hw4 hw h4 hn4
  go_wp2_with fail
  refine HAP.out.mono ?_
  rintro e wq ⟨rfl, hls⟩
  have hkq : Keeps B (w.heap.size :: L) w wq := (Keeps.of_below hB4).trans hls.kept
  have hsq := H4.out.wrote hls.disk hls.log hls.kept
  have hwb : Below B w4 wq := hls.kept.below H4.out.base
  by_cases hr0 : r = 0
  · subst hr0
    obtain rfl : res = (0, (m', savedS s tm vt l)) := by rw [hres.out, if_pos rfl]
    clear hres
    have g0 : wq.cell? ⟨w.heap.size, 0, none⟩ = some (.int .u64 (tm : Int)) := (Only.cell hls.kept (p := ⟨w.heap.size, 0, none⟩) hlt4 (fun e => e.2 (by simp))).trans u0
    have g1 : wq.cell? ⟨w.heap.size, 1, none⟩ = some (.int .i64 vt) := (Only.cell hls.kept (p := ⟨w.heap.size, 1, none⟩) hlt4 (fun e => e.2 (by simp))).trans u1
    have hlt5 : w.heap.size < wq.heap.size := Nat.lt_of_lt_of_le hlt4 hls.kept.size
    have hq4 := hsq.sto.at_ 1 rfl
    have hq5 := hsq.sto.at_ 2 rfl
    have hf4 := hsq.sto.free 1
    have hf5 := hsq.sto.free 2
    have hltt := hsq.sto.lt
    obtain ⟨hs1, o1⟩ := hsq.sto.set (i := 1) (.int .u64 (tm : Int)) (by simp [pre])
    obtain ⟨hs2, o2⟩ := hs1.set (i := 2) (.int .i64 vt) (by simp [pre])
    have hs2' : Hold 94 B ((wq.setCell ⟨t, 1, none⟩ (.int .u64 (tm : Int))).setCell ⟨t, 2, none⟩ (.int .i64 vt)) t (.pointer (some ⟨b, 0, none⟩) :: pre (savedS s tm vt l)) (.slice A s.es.length c) s.es := hs2
    have o12 := o1.trans o2
    have hc7 := hs2'.at_ 7 rfl
    have hlts := hs2'.lt
    obtain ⟨ws, hws⟩ : ∃ ws, ((wq.setCell ⟨t, 1, none⟩ (.int .u64 (tm : Int))).setCell ⟨t, 2, none⟩ (.int .i64 vt)) = ws := ⟨_, rfl⟩
    rw [hws] at hs2' o12 hc7 hlts
    have hes1 : s.es.length = s.es.length := rfl
    obtain ⟨ne, hne⟩ : ∃ ne, s.es.length = ne := ⟨_, rfl⟩
    rw [hne] at hc7
    have hdel := fun k' (hk' : k' ≤ ne) => delete_all (base := B) (A := A) (n := ne) (c := c) (k := k') (l := s.es) (w := ws.drew) (by have := hs2'.drew.own; rwa [hne] at this) hk'
    have HDel := Lib.hid (hdel k (by rw [← hne]; exact HK1.out))
    have hre4 : RE wq w.heap.size Al nl l := re_keep HL.out HOT.out hkq (Nat.le_refl _) (fun q hq => ⟨hq.1, fun e => hq.2 (List.mem_cons_of_mem _ (HH.out.sub q e))⟩)
    have hre5 : RE ws w.heap.size Al nl l := re_keep hre4 HOT.out o12 hkq.size (fun q hq => by rw [hq]; exact ⟨hsq.sto.low, HH.out.tX⟩)
    have HSZ : Hid (w.heap.size ≤ ws.heap.size) := Nat.le_trans hkq.size o12.size
    have HR5 := Lib.hid hre5
    have HS2 := Lib.hid hs2'
    have HO12 := Lib.hid o12
    have HWS := Lib.hid hws
    have HSQ := Lib.hid hsq
    have HKQ := Lib.hid hkq
    have HNE := Lib.hid hne
    have hroom : (k + nl) * 40 ≤ 140737488355328 := by have := HK1.out; omega
    clear hs1 hs2 hs2' o1 o2 o12 hdel hre4 hre5 hws hsq hkq hes1 hne
    go_wp2_with fail
    rw [HWS.out]
    go_region_law (first
      | (refine step_app (v := .slice A k c) _ rfl _ _ rfl B rfl HO5.out rfl HR6.out (ecells_one _) hroom HBS5.out ?_
         intro A' c' w6 hown6 hg6 hat6
         have ho6 : Only (fun q => (Value.slice A ne c).ownBlock = some q) ws w6 := (Only.drew (Only.refl _ ws)).trans (HON5.out.grown hg6 fun q hq => .inr (by cases A <;> exact hq))
         have hat' : ∀ q, (Value.slice A' (k + nl) c').ownBlock = some q → (Value.slice A ne c).ownBlock = some q ∨ ws.heap.size ≤ q := fun q hq => by
           rcases hat6 with e | e
           · exact .inl (by rw [← hq, e]; cases A <;> rfl)
           · rw [hq] at e; cases e; exact .inr HON5.out.size
         obtain ⟨hcell6, hfr6, hh6, hoo6⟩ := (by have := HS2.out; rwa [HNE.out] at this : Hold 94 B ws t (.pointer (some ⟨b, 0, none⟩) :: pre (savedS s tm vt l)) (.slice A ne c) s.es).rowed (es' := s.es.take k ++ l) ho6 hown6 (by rw [List.length_append, List.length_take, HNE.out, HLN.out]; have := HK1.out; rw [HNE.out] at this; omega) (by rw [ecells_append]) hat' (i := 7) rfl
         have hlt6 : t < w6.heap.size := Nat.lt_of_lt_of_le hlts ho6.size
         have HH6 := Lib.hid hh6
         have HO6 := Lib.hid hoo6
         have HAt := Lib.hid hat'
         clear hh6 hoo6 hat' hat6 hg6 hown6 ho6)
      | (go_simp
         go_at_call 51
         (with_reducible refine HDel.out.mono ?_)
         rintro e w5 ⟨rfl, hown5, ho5⟩
         have HO5 := Lib.hid hown5
         have HON5 : Hid (Only (fun q => (Value.slice A ne c).ownBlock = some q) ws.drew w5) := ho5
         have HR6 : Hid (RE w5 w.heap.size Al nl l) := re_keep (Reads.drew HR5.out) HOT.out ho5 HSZ.out (fun q hq => ⟨(HS2.out.own.lt q (by cases A <;> exact hq)).1, HH.out.vX q (by cases A <;> exact hq)⟩)
         have HBS5 : Hid (B ≤ w5.heap.size) := Nat.le_trans HS2.out.base ho5.size
         have hlt5 : t < w5.heap.size := Nat.lt_of_lt_of_le hlts ho5.size
         clear hown5 ho5))
    all_goals
      have hsb : StaB (savedS s tm vt l) := after_b HH.out.sb htm hv0 hv1 HLB.out
      have hes : (savedS s tm vt l).es = s.es.take k ++ l := by
        show stayE s l ++ l = _
        rw [HK2.out]
      have hh := HH6.out
      rw [← hes] at hh
      have hfo : Only (Hold.Foot t (.slice A s.es.length c)) wq (w6.setCell ⟨t, 7, none⟩ (.slice A' (k + nl) c')) := (HO12.out.mono fun q _ hq => .inl hq).trans (by have := HO6.out; rwa [← HNE.out] at this)
      have hat : ∀ q, (Value.slice A' (k + nl) c').ownBlock = some q → (Value.slice A s.es.length c).ownBlock = some q ∨ (wq).heap.size ≤ q := fun q hq => (HAt.out q hq).imp (fun e => by rw [HNE.out]; exact e) fun e => Nat.le_trans HO12.out.size e
      obtain ⟨⟨L', hS'⟩, hK'⟩ := HSQ.out.turned hfo hh hat hsb HOk.out
      have HF1 := Lib.hid hS'
      have HF2 := Lib.hid hK'
      have HF3 : Hid (Keeps B (w.heap.size :: X) w wq) := HKQ.out.fewer HSQ.out.sub
      clear hsb hes hh hfo hat hS' hK'
      go_wp2
      go_ret
      exact ⟨rfl, ⟨L', _, HF1.out.less fun x hx => List.mem_cons_of_mem _ hx⟩, (HF3.out.trans HF2.out).fewer fun x hx => List.mem_cons_of_mem _ hx⟩
  · obtain rfl : res = (r, (m', s)) := by rw [hres.out, if_neg hr0]
    clear hres
    have hri : (r != 0) = true := bne_iff_ne.2 hr0
    have HF1 := Lib.hid hsq
    have HF3 : Hid (Keeps B (w.heap.size :: X) w wq) := hkq.fewer hsq.sub
    clear hsq hkq hls
    go_wp2
    go_ret
    exact ⟨rfl, ⟨_, _, HF1.out.less fun x hx => List.mem_cons_of_mem _ hx⟩, HF3.out.fewer fun x hx => List.mem_cons_of_mem _ hx⟩
/-- Any Save. -/
theorem save_any (h : SAt B X w t b p N n m s L v) (htab : Tab w) (hgB : 0 < B) (hN : N < 900000) (hn0 : -9223372036854775808 ≤ n) (hn1 : n ≤ 9223372036854775807) (tm : Nat) (vt : Int) (htm : tm < 18446744073709551616) (hv0 : -9223372036854775808 ≤ vt) (hv1 : vt ≤ 9223372036854775807) (Al : Option Addr) (nl cl : Nat) (l : List Ent) (hl : RE w w.heap.size Al nl l) (hout : Out B X Al nl) (hlb : ∀ e ∈ l, EntB e) (hnl : nl ≤ 999990) (hes : s.es.length ≤ 2000000) :
    Calls Tryz.prog 16 #[.pointer (some ⟨t, 0, none⟩), .agg #[.int .u64 (tm : Int), .int .i64 vt], .slice Al nl cl] w (Saved B X w t b p (N + 2) n (ssave m n s tm vt l)) := by
  cases hok : right (savedS s tm vt l) with
  | false =>
    have e : ssave m n s tm vt l = (1, (m, s)) := by unfold ssave; rw [if_neg (by rw [hok]; decide)]
    rw [e]
    refine (save_no h tm vt Al nl cl l hl hlb (by omega) (by rw [← right_after h.ok tm vt l]; exact hok)).mono ?_
    rintro e w' ⟨h1, ⟨L', v', h2⟩, h3⟩
    exact ⟨h1, ⟨L', v', h2.more (by omega)⟩, h3⟩
  | true =>
    by_cases ho : out s tm vt l = []
    · have e : ssave m n s tm vt l = (0, (m, savedS s tm vt l)) := by unfold ssave; rw [if_pos hok, if_pos ho]
      rw [e]
      exact save_same h htab hgB hN hn0 hn1 tm vt htm hv0 hv1 Al nl cl l hl hout hlb hnl hes hok ho (N + 2) (by omega)
    · obtain ⟨r, m', hw⟩ : ∃ r m', wappend m n (out s tm vt l) = (r, m') := ⟨_, _, rfl⟩
      refine save_wrote h htab hgB hN hn0 hn1 tm vt htm hv0 hv1 Al nl cl l hl hout hlb hnl hes hok ho (Lib.hid hw) _ ?_
      have e : ssave m n s tm vt l = if r = 0 then (0, (m', savedS s tm vt l)) else (r, (m', s)) := by unfold ssave; rw [if_pos hok, if_neg ho, hw]
      exact e
end
end Go.Proofs.YtamncdpeklbhlaaGreatDoor.Save
set_option linter.unusedVariables false
set_option linter.unusedSimpArgs false
namespace Go.Proofs.YtamncdpeklbhlaaGreatDoor.Anew
open Go.RowKit Go.Proofs.YtamncdpeklbhlaaGreatDoor.Kit Go.Proofs.YtamncdpeklbhlaaGreatDoor.Blocks Go.Proofs.YtamncdpeklbhlaaGreatDoor.Rlog Go.Proofs.YtamncdpeklbhlaaGreatDoor.Sto Go.Proofs.YtamncdpeklbhlaaGreatDoor.Sav Go.Proofs.YtamncdpeklbhlaaGreatDoor.Ents Go.Proofs.YtamncdpeklbhlaaGreatDoor.Hold Go.Proofs.YtamncdpeklbhlaaGreatDoor.Few Go.Proofs.YtamncdpeklbhlaaGreatDoor.Ahe Go.Proofs.YtamncdpeklbhlaaGreatDoor.Fol Go.Proofs.YtamncdpeklbhlaaGreatDoor.Chg Go.Proofs.YtamncdpeklbhlaaGreatDoor.Del Go.Proofs.YtamncdpeklbhlaaGreatDoor.Save Go.Proofs.YtamncdpeklbhlaaGreatDoor.Model Go.Proofs.YtamncdpeklbhlaaGreatDoor.Ops Go.Proofs.YtamncdpeklbhlaaGreatDoor.ScA Go.Proofs.YtamncdpeklbhlaaGreatDoor.FrA Go.Proofs.YtamncdpeklbhlaaGreatDoor.SumB Go.Proofs.YtamncdpeklbhlaaGreatDoor.RlgWalkB Go.Proofs.YtamncdpeklbhlaaGreatDoor.RlgWalkC
open Go.Proofs.YtamncdpeklbhlaaGreatDoor.PckWalkH (str)
open Go.Proofs.YtamncdpeklbhlaaGreatDoor.Log (LogAt wappend wanew)
open Go.Proofs.YtamncdpeklbhlaaGreatDoor.LogC (LS anew_any)

set_option maxRecDepth 100000 in
theorem anew_none (x : Sta) (Al : Option Addr) (nl cl : Nat) (w : World) :
    Calls Tryz.prog 14 #[.pointer none, staV x Al nl cl] w fun e w' => e = .returned (.int .i64 10) ∧ Below w.heap.size w w' := by
  have hba : Below w.heap.size w (w.alloc (boxO x Al nl cl)) := (Below.refl _ _).alloc (Nat.le_refl _) _
  unfold boxO at hba
  unfold staV
  go_enter Tryz.func14, Tryz.ntmps14
  go_wp2
  go_ret
  exact ⟨rfl, hba⟩
theorem isState_hid {x : Sta} {q : Bool} (hs : StaB x) (A : Option Addr) (n c : Nat) (w : World) (hr : RE w w.heap.size A n x.es) (h63 : n * 40 ≤ 140737488355328) (hq : Hid (right x = q)) :
    Calls Tryz.prog 31 #[staV x A n c] w (Few.TellsB w q) := by
  have := isState_any x hs A n c w hr h63
  rwa [hq.out] at this
theorem own_two (w : World) (a b : ByteArray) {base : Nat} (hb : base ≤ w.heap.size) : (w.alloc (.cells #[.string a, .string b] 9)).ownsRow base 9 1 (.slice (some ⟨w.heap.size, 0, none⟩) 2 2) 2 [.string a, .string b] :=
  ⟨rfl, .inr ⟨w.heap.size, 2, _, rfl, hb, heap_alloc_new w _, Nat.le_refl _, by decide, rfl, rfl⟩⟩

section
variable {B : Nat} {X L : List Nat} {w w' : World} {t b p N : Nat} {n : Int} {m : M} {s : Sta} {v : Value}
set_option maxRecDepth 100000 in
set_option maxHeartbeats 2000000 in
theorem anew_no (h : SAt B X w t b p N n m s L v) (x : Sta) (hx : StaB x) (Al : Option Addr) (nl cl : Nat) (hl : RE w w.heap.size Al nl x.es) (h40 : nl * 40 ≤ 140737488355328) (hd : x.snap.data.size ≤ 9223372036854775807) (hno : okAnew x = false) :
    Calls Tryz.prog 14 #[.pointer (some ⟨t, 0, none⟩), staV x Al nl cl] w (Saved B X w t b p N n (1, (m, s))) := by
  have hba : Below w.heap.size w (w.alloc (boxO x Al nl cl)) := (Below.refl _ _).alloc (Nat.le_refl _) _
  have hcb := heap_alloc_new w (boxO x Al nl cl)
  obtain ⟨q, hq⟩ : ∃ q, right x = q := ⟨_, rfl⟩
  have hst := isState_hid hx Al nl cl _ ((Kit.Reads.below hl hba).more hba.size) h40 (Lib.hid hq)
  obtain ⟨w0, hw0⟩ : ∃ w0, w.alloc (boxO x Al nl cl) = w0 := ⟨_, rfl⟩
  rw [hw0] at hba hcb hst
  have hltb : w.heap.size < w0.heap.size := lt_at hcb
  have hdd : q = true → 32768 < x.snap.data.size := fun e => by
    unfold okAnew at hno
    rw [hq, e, Bool.true_and] at hno
    have := of_decide_eq_false hno
    omega
  unfold boxO at hw0 hcb
  unfold staV at hst ⊢
  obtain ⟨tm, vt, ⟨ix, st, cf, d⟩, es⟩ := x
  simp only at *
  have x5 : w0.cell? ⟨w.heap.size, 5, none⟩ = some (.string d) := by rw [cell_at hcb]; rfl
  have HST := Lib.hid hst
  have HW0 := Lib.hid hw0
  have HBA := Lib.hid hba
  have HH := Lib.hid h
  clear hst hw0 hba hcb h hq hno hl hx
  go_enter Tryz.func14, Tryz.ntmps14
  go_wp2_with fail
  rw [HW0.out]
  refine HST.out.mono ?_
  rintro e w1 ⟨rfl, hb1⟩
  have hB1 := HBA.out.trans (hb1.mono HBA.out.size)
  have y5 : w1.cell? ⟨w.heap.size, 5, none⟩ = some (.string d) := (hb1.cell (p := ⟨w.heap.size, 5, none⟩) hltb).trans x5
  have hlt1 : w.heap.size < w1.heap.size := Nat.lt_of_lt_of_le hltb hb1.size
  clear hb1
  cases q with
  | false =>
    go_wp2
    go_ret
    exact ⟨rfl, ⟨L, _, HH.out.below hB1⟩, Keeps.of_below hB1⟩
  | true =>
    have hd1 : (32768 : Int) < (d.size : Int) := by have := hdd rfl; omega
    have hd2 : 32768 < d.size := hdd rfl
    go_wp2
    go_ret
    exact ⟨rfl, ⟨L, _, HH.out.below hB1⟩, Keeps.of_below hB1⟩
theorem rec_snap (x : Snap) (W : World) {Y : ByteArray} (hb : SnapB x) (hd : x.data.size ≤ 32768) (hX : Hid (str (recSnap x) = Y)) :
    Calls Tryz.prog 37 #[.agg #[.int .u64 (x.idx : Int), .int .u64 (x.term : Int), .int .u64 (x.cfg : Int), .string x.data]] W fun e w' => e = .returned (.string Y) ∧ Below W.heap.size W w' := by
  have := Rec.snap_rec x W hb (by omega)
  unfold Rec.Said at this
  rwa [hX.out] at this
theorem Below.bx {w0 w1 : World} {a : Addr} {v : Value} (h : Below w0.heap.size w0 w1) (hc : w0.cell? a = some v) (ha : a.block < w0.heap.size) : w1.cell? a = some v := (h.cell (p := a) ha).trans hc
set_option maxRecDepth 100000 in
set_option maxHeartbeats 8000000 in
theorem anew_ok (h : SAt B X w t b p N n m s L v) (htab : Tab w) (hgB : 0 < B) (hN : N < 900000) (x : Sta) (hx : StaB x) (Al : Option Addr) (nl cl : Nat) (hl : RE w B Al nl x.es) (hnl : nl ≤ 999990) (hok : okAnew x = true)
    {r : Int} {m' : M} (hw : Hid (wanew m n (allOf x) = (r, m'))) (res : Int × (M × Sta)) (hres : Hid (res = if r = 0 then (0, (m', x)) else (r, (m', s)))) :
    Calls Tryz.prog 14 #[.pointer (some ⟨t, 0, none⟩), staV x Al nl cl] w (Saved B X w t b p (N + 2) n res) := by
  have hBw := h.base
  have hrx : right x = true := (Bool.and_eq_true_iff.1 hok).1
  have hdx : x.snap.data.size ≤ 32768 := of_decide_eq_true (Bool.and_eq_true_iff.1 hok).2
  have hls : ∀ e ∈ x.es, e.data.size ≤ 32768 := fun e he => (follow_mem (right_iff.1 hrx).1.2 he).1
  have hba : Below w.heap.size w (w.alloc (boxO x Al nl cl)) := (Below.refl _ _).alloc (Nat.le_refl _) _
  have hcb := heap_alloc_new w (boxO x Al nl cl)
  have hst := isState_hid hx Al nl cl _ ((Kit.Reads.below (hl.more hBw) hba).more hba.size) (by omega) (Lib.hid hrx)
  obtain ⟨w0, hw0⟩ : ∃ w0, w.alloc (boxO x Al nl cl) = w0 := ⟨_, rfl⟩
  rw [hw0] at hba hcb hst
  have hltb : w.heap.size < w0.heap.size := lt_at hcb
  obtain ⟨X1, hX1⟩ : ∃ Y, str (recHard x.term x.vote) = Y := ⟨_, rfl⟩
  obtain ⟨X2, hX2⟩ : ∃ Y, str (recSnap x.snap) = Y := ⟨_, rfl⟩
  have hr1 := fun W => rec_hard x.term x.vote W hx.term hx.v0 hx.v1 (Lib.hid hX1)
  have hr2 := fun W => rec_snap x.snap W hx.snap hdx (Lib.hid hX2)
  have hL0 : strs [recHard x.term x.vote, recSnap x.snap] = [.string X1, .string X2] := by rw [← hX1, ← hX2]; rfl
  have hall : allOf x = [recHard x.term x.vote, recSnap x.snap] ++ x.es.map recEnt := rfl
  obtain ⟨L0, hL0e⟩ : ∃ L0, [recHard x.term x.vote, recSnap x.snap] = L0 := ⟨_, rfl⟩
  have hL0n : L0.length = 2 := by rw [← hL0e]; rfl
  rw [hL0e] at hL0 hall
  have hxe := hx.ents
  have hcp := fun W (hb : RE W W.heap.size Al nl x.es) => copied_any x Al nl cl W hb (by omega)
  have hxx := hx
  have hlen := RE.len hl
  have HX0 : Hid (StaB x) := hxx
  have HRX := Lib.hid hrx
  unfold boxO at hw0 hcb
  unfold staV at hst hcp ⊢
  unfold Few.Gives staV at hcp
  obtain ⟨tm, vt, ⟨ix, st, cf, d⟩, es⟩ := x
  simp only at *
  have x0 : w0.cell? ⟨w.heap.size, 0, none⟩ = some (.int .u64 (tm : Int)) := by rw [cell_at hcb]; rfl
  have x1 : w0.cell? ⟨w.heap.size, 1, none⟩ = some (.int .i64 vt) := by rw [cell_at hcb]; rfl
  have x2 : w0.cell? ⟨w.heap.size, 2, none⟩ = some (.int .u64 (ix : Int)) := by rw [cell_at hcb]; rfl
  have x3 : w0.cell? ⟨w.heap.size, 3, none⟩ = some (.int .u64 (st : Int)) := by rw [cell_at hcb]; rfl
  have x4 : w0.cell? ⟨w.heap.size, 4, none⟩ = some (.int .u64 (cf : Int)) := by rw [cell_at hcb]; rfl
  have x5 : w0.cell? ⟨w.heap.size, 5, none⟩ = some (.string d) := by rw [cell_at hcb]; rfl
  have x6 : w0.cell? ⟨w.heap.size, 6, none⟩ = some (.slice Al nl cl) := by rw [cell_at hcb]; rfl
  have hd1 : ¬ (32768 : Int) < (d.size : Int) := by omega
  have hd2 : ¬ 32768 < d.size := by omega
  have HST := Lib.hid hst
  have HW0 := Lib.hid hw0
  have HBA := Lib.hid hba
  have HH := Lib.hid h
  have HR1 := Lib.hid hr1
  have HR2 := Lib.hid hr2
  have HL0 := Lib.hid hL0
  have HALL := Lib.hid hall
  have HL0N := Lib.hid hL0n
  have HL := Lib.hid hl
  have HLN := Lib.hid hlen
  have HLS := Lib.hid hls
  have HXE := Lib.hid hxe
  have HCP := Lib.hid hcp
  have HT := Lib.hid htab
  clear hst hw0 hba hcb h hr1 hr2 hL0 hall hL0e hL0n hl hlen hls hxe hcp htab hX1 hX2 hx hxx hrx hok hdx
  go_enter Tryz.func14, Tryz.ntmps14
  go_wp2_with fail
  rw [HW0.out]
  refine HST.out.mono ?_
  rintro e w1 ⟨rfl, hb1⟩
  have y0 := Below.bx hb1 x0 hltb
  have y1 := Below.bx hb1 x1 hltb
  have y2 := Below.bx hb1 x2 hltb
  have y3 := Below.bx hb1 x3 hltb
  have y4 := Below.bx hb1 x4 hltb
  have y5 := Below.bx hb1 x5 hltb
  have y6 := Below.bx hb1 x6 hltb
  have hB1 := HBA.out.trans (hb1.mono HBA.out.size)
  have hlt1 : w.heap.size < w1.heap.size := Nat.lt_of_lt_of_le hltb hb1.size
  clear x0 x1 x2 x3 x4 x5 x6 hb1
  go_wp2_with fail
  go_region_held3 (fun w' => w'.cell? ⟨w.heap.size, 0, none⟩ = some (.int .u64 (tm : Int)) ∧ w'.cell? ⟨w.heap.size, 1, none⟩ = some (.int .i64 vt) ∧ w'.cell? ⟨w.heap.size, 2, none⟩ = some (.int .u64 (ix : Int)) ∧ w'.cell? ⟨w.heap.size, 3, none⟩ = some (.int .u64 (st : Int)) ∧ w'.cell? ⟨w.heap.size, 4, none⟩ = some (.int .u64 (cf : Int)) ∧ w'.cell? ⟨w.heap.size, 5, none⟩ = some (.string d))
    (first
      | exact ⟨y0, y1, y2, y3, y4, y5⟩
      | exact ⟨Below.bx (hB3.alloc hB3.size _) y0 hlt1, Below.bx (hB3.alloc hB3.size _) y1 hlt1, Below.bx (hB3.alloc hB3.size _) y2 hlt1, Below.bx (hB3.alloc hB3.size _) y3 hlt1, Below.bx (hB3.alloc hB3.size _) y4 hlt1, Below.bx (hB3.alloc hB3.size _) y5 hlt1⟩
      | exact ⟨Below.bx (hB2.alloc hB2.size _) y0 hlt1, Below.bx (hB2.alloc hB2.size _) y1 hlt1, Below.bx (hB2.alloc hB2.size _) y2 hlt1, Below.bx (hB2.alloc hB2.size _) y3 hlt1, Below.bx (hB2.alloc hB2.size _) y4 hlt1, Below.bx (hB2.alloc hB2.size _) y5 hlt1⟩
      | exact ⟨Below.bx hB3 y0 hlt1, Below.bx hB3 y1 hlt1, Below.bx hB3 y2 hlt1, Below.bx hB3 y3 hlt1, Below.bx hB3 y4 hlt1, Below.bx hB3 y5 hlt1⟩
      | exact ⟨Below.bx hB2 y0 hlt1, Below.bx hB2 y1 hlt1, Below.bx hB2 y2 hlt1, Below.bx hB2 y3 hlt1, Below.bx hB2 y4 hlt1, Below.bx hB2 y5 hlt1⟩)
    (first
      | (go_at_call 36
         (with_reducible refine (HR1.out _).mono ?_)
         rintro e w2 ⟨rfl, hb2⟩
         have hB2 : Below w1.heap.size w1 w2 := by first | exact ((Below.refl _ _).drew).trans hb2 | exact hB3.trans (hb2.mono hB3.size))
      | (go_at_call 37
         (with_reducible refine (HR2.out _).mono ?_)
         rintro e w3 ⟨rfl, hb3⟩
         have hB3 : Below w1.heap.size w1 w3 := by first | exact ((Below.refl _ _).drew).trans hb3 | exact hB2.trans (hb3.mono hB2.size)))
  have hB4 : Below w1.heap.size w1 (w3.alloc (.cells #[.string X1, .string X2] 9)) := hB3.alloc hB3.size _
  have hB4w : Below w.heap.size w (w3.alloc (.cells #[.string X1, .string X2] 9)) := hB1.trans (hB4.mono hB1.size)
  have hrow0 : (w3.alloc (.cells #[.string X1, .string X2] 9)).ownsRow w1.heap.size 9 1 (.slice (some ⟨w3.heap.size, 0, none⟩) 2 2) 2 [.string X1, .string X2] := own_two w3 X1 X2 hB3.size
  obtain ⟨w4, hw4⟩ : ∃ w4, w3.alloc (.cells #[.string X1, .string X2] 9) = w4 := ⟨_, rfl⟩
  rw [hw4] at hB4 hB4w hrow0
  rw [hw4]
  have z6 := Below.bx hB4 y6 hlt1
  have hmid0 : Mid w1 L0 (.slice (some ⟨w3.heap.size, 0, none⟩) 2 2) w4 := ⟨_, 2, by rw [HL0N.out], by rw [HL0N.out, HL0.out]; exact hrow0, hB4⟩
  have HM0 := Lib.hid hmid0
  have hlt4 : w.heap.size < w4.heap.size := Nat.lt_of_lt_of_le hlt1 hB4.size
  clear hrow0 hmid0 hw4 hB2 hB3 hb2 hb3
  go_wp2_with fail
  go_loopw [5, 31] (fun v i wr => ∃ j : Nat, j ≤ nl ∧ i = .int .i64 (j : Int) ∧ Mid w1 (L0 ++ (es.take j).map recEnt) v wr) (fun _ i _ => nl - (intOf i).toNat)
  case atStart => exact ⟨0, Nat.zero_le _, rfl, by rw [List.take_zero, List.map_nil, List.append_nil]; exact HM0.out⟩
  case round =>
    obtain ⟨j, hj, rfl, hmid⟩ := hrel
    obtain ⟨A2, c2, rfl, hrow2, hB2⟩ := hmid
    obtain ⟨n2, hn2⟩ : ∃ n2, (L0 ++ (es.take j).map recEnt).length = n2 := ⟨_, rfl⟩
    have hn2b : n2 ≤ 999992 := by
      rw [← hn2, List.length_append, List.length_map, List.length_take, HL0N.out]
      omega
    rw [hn2] at hrow2 ⊢
    have HN2 := Lib.hid hn2
    have hsz2 := hB2.size
    have hb3 := hB1.trans (hB2.mono hB1.size)
    by_cases hjn : j < nl
    · obtain ⟨bl, ol, y, rfl, hbl, hy, hf⟩ := RE.at_ HL.out hjn
      have hfr := Four.below hf (hb3.mono hBw) hbl
      have e0 := hfr.c0
      have e1 := hfr.c1
      have e2 := hfr.c2
      have e3 := hfr.c3
      have hym := List.mem_of_getElem? hy
      obtain ⟨Y, hY⟩ : ∃ Y, str (recEnt y) = Y := ⟨_, rfl⟩
      have HY := Lib.hid hY
      have hrec := fun W => rec_ent y W (HXE.out y hym) (HLS.out y hym) HY
      have HSN := Lib.hid (map_snoc hy)
      have hba2 : Below wr.heap.size wr (wr.alloc (.cells #[.int .u64 (y.term : Int), .int .u64 (y.idx : Int), .int .i64 y.kind, .string y.data] 83)) := (Below.refl _ _).alloc (Nat.le_refl _) _
      have hR2 := own_below hrow2 hba2
      have hB3 := hB2.trans (hba2.mono hsz2)
      obtain ⟨tm', ix', kd', d'⟩ := y
      simp only at *
      have HRec := Lib.hid hrec
      clear hrec hY hym hy hf hfr hn2 hrow2
      go_wp2_with fail
      refine (HRec.out _).mono ?_
      rintro e w5 ⟨rfl, hb5⟩
      have hR3 := own_below hR2 hb5
      have hB5 := hB3.trans (hb5.mono hB3.size)
      go_wp2_with
        (at_builtin
         refine wpList_rec (.tmp 35) (.tmp 38) rfl rfl rfl HN2 hR3 hB5 rfl rfl HY (by omega) ?_
         intro A3 c3 w6 hm6)
      go_roundw
      case rel => exact ⟨j + 1, by omega, by go_num, by rw [HSN.out, ← List.append_assoc]; exact hm6⟩
      case measure => simp [intOf]; omega
    · obtain rfl : j = nl := by omega
      have hall : es.take j = es := List.take_of_length_le (by rw [HLN.out]; exact Nat.le_refl _)
      rw [hall, ← HALL.out] at hrow2 HN2
      have h4 := HH.out.beside hb3 (Nat.le_refl _) (Nat.lt_of_lt_of_le hlt1 hsz2)
      have hrs : RS wr A2 n2 (allOf ⟨tm, vt, ⟨ix, st, cf, d⟩, es⟩) := Reads.of_own hrow2
      have happ := anew_any A2 n2 c2 _ h4.log h4.disk h4.bL hrs (Tab.below HT.out hgB (hb3.mono hBw)) (by omega) hN
      unfold LogC.Wrote at happ
      rw [hw.out] at happ
      have HAP := Lib.hid happ
      have d0 := h4.sto.at_ 0 rfl
      have hlt40 := h4.sto.lt
      have H4 := Lib.hid h4
      have u0 := Below.bx hB2 y0 hlt1
      have u1 := Below.bx hB2 y1 hlt1
      have u2 := Below.bx hB2 y2 hlt1
      have u3 := Below.bx hB2 y3 hlt1
      have u4 := Below.bx hB2 y4 hlt1
      have u5 := Below.bx hB2 y5 hlt1
      have u6 := Below.bx hB2 y6 hlt1
      have hltr : w.heap.size < wr.heap.size := Nat.lt_of_lt_of_le hlt1 hsz2
      clear happ hrs hrow2 h4 hn2 hall
      go_wp2_with fail
      refine HAP.out.mono ?_
      rintro e wq ⟨rfl, hls⟩
      have hkq : Keeps B (w.heap.size :: L) w wq := (Keeps.of_below hb3).trans hls.kept
      have hsq := H4.out.wrote hls.disk hls.log hls.kept
      by_cases hr0 : r = 0
      · subst hr0
        obtain rfl : res = (0, (m', ⟨tm, vt, ⟨ix, st, cf, d⟩, es⟩)) := by rw [hres.out, if_pos rfl]
        clear hres
        have q0 : wq.cell? ⟨w.heap.size, 0, none⟩ = some (.int .u64 (tm : Int)) := (Only.cell hls.kept (p := ⟨w.heap.size, 0, none⟩) hltr (fun e => e.2 (by simp))).trans u0
        have q1 : wq.cell? ⟨w.heap.size, 1, none⟩ = some (.int .i64 vt) := (Only.cell hls.kept (p := ⟨w.heap.size, 1, none⟩) hltr (fun e => e.2 (by simp))).trans u1
        have q2 : wq.cell? ⟨w.heap.size, 2, none⟩ = some (.int .u64 (ix : Int)) := (Only.cell hls.kept (p := ⟨w.heap.size, 2, none⟩) hltr (fun e => e.2 (by simp))).trans u2
        have q3 : wq.cell? ⟨w.heap.size, 3, none⟩ = some (.int .u64 (st : Int)) := (Only.cell hls.kept (p := ⟨w.heap.size, 3, none⟩) hltr (fun e => e.2 (by simp))).trans u3
        have q4 : wq.cell? ⟨w.heap.size, 4, none⟩ = some (.int .u64 (cf : Int)) := (Only.cell hls.kept (p := ⟨w.heap.size, 4, none⟩) hltr (fun e => e.2 (by simp))).trans u4
        have q5 : wq.cell? ⟨w.heap.size, 5, none⟩ = some (.string d) := (Only.cell hls.kept (p := ⟨w.heap.size, 5, none⟩) hltr (fun e => e.2 (by simp))).trans u5
        have q6 : wq.cell? ⟨w.heap.size, 6, none⟩ = some (.slice Al j cl) := (Only.cell hls.kept (p := ⟨w.heap.size, 6, none⟩) hltr (fun e => e.2 (by simp))).trans u6
        have hltq : w.heap.size < wq.heap.size := Nat.lt_of_lt_of_le hltr hls.kept.size
        have hreq : RE wq wq.heap.size Al j es := (Kit.Reads.below HL.out (hkq.below hBw)).more hsq.base
        have hcp := HCP.out wq hreq
        have HCPQ := Lib.hid hcp
        have HSQ := Lib.hid hsq
        have HKQ := Lib.hid hkq
        clear hcp hreq hsq hkq hls u0 u1 u2 u3 u4 u5 u6
        go_wp2_with fail
        refine HCPQ.out.mono ?_
        rintro e w6 ⟨A6, c6, rfl, hown6, hb6⟩
        have h6 := HSQ.out.below hb6
        have hlt6 := h6.sto.lt
        have t1 := h6.sto.at_ 1 rfl
        have f1 := h6.sto.free 1
        have t2 := h6.sto.at_ 2 rfl
        have f2 := h6.sto.free 2
        have t3 := h6.sto.at_ 3 rfl
        have f3 := h6.sto.free 3
        have t4 := h6.sto.at_ 4 rfl
        have f4 := h6.sto.free 4
        have t5 := h6.sto.at_ 5 rfl
        have f5 := h6.sto.free 5
        have t6 := h6.sto.at_ 6 rfl
        have f6 := h6.sto.free 6
        have t7 := h6.sto.at_ 7 rfl
        have f7 := h6.sto.free 7
        obtain ⟨hs1, o1⟩ := h6.sto.set (i := 1) (.int .u64 (tm : Int)) (by simp [pre])
        obtain ⟨hs2, o2⟩ := hs1.set (i := 2) (.int .i64 vt) (by simp [pre])
        obtain ⟨hs3, o3⟩ := hs2.set (i := 3) (.int .u64 (ix : Int)) (by simp [pre])
        obtain ⟨hs4, o4⟩ := hs3.set (i := 4) (.int .u64 (st : Int)) (by simp [pre])
        obtain ⟨hs5, o5⟩ := hs4.set (i := 5) (.int .u64 (cf : Int)) (by simp [pre])
        obtain ⟨hs6, o6⟩ := hs5.set (i := 6) (.string d) (by simp [pre])
        have o16 := ((((o1.trans o2).trans o3).trans o4).trans o5).trans o6
        have hnt : (Value.slice A6 es.length c6).ownBlock ≠ some t := fun e => by have := (hown6.lt t e).1; have := HSQ.out.sto.lt; omega
        have hown7 := (o16.own hown6 fun q hq e => hnt (by rw [hq, e]))
        obtain ⟨hs7, o7⟩ := hs6.laid (v1 := .slice A6 es.length c6) (es' := es) (own_base hown7 HSQ.out.base) rfl rfl hnt (i := 7) (by simp [pre])
        have hfo := (Only.of_below (S := Hold.Foot t v) hb6).trans ((o16.trans o7).mono (S' := Hold.Foot t v) fun q _ hq => .inl hq)
        obtain ⟨⟨L', hS'⟩, hK'⟩ := HSQ.out.turned (s' := ⟨tm, vt, ⟨ix, st, cf, d⟩, es⟩) hfo hs7 (fun q hq => .inr (hown6.lt q hq).1) HX0.out HRX.out
        have HF1 := Lib.hid hS'
        have HF2 := Lib.hid hK'
        have HF3 : Hid (Keeps B (w.heap.size :: X) w wq) := HKQ.out.fewer HSQ.out.sub
        clear hS' hK' hfo hs7 o7 hown7 o16 hs1 hs2 hs3 hs4 hs5 hs6 o1 o2 o3 o4 o5 o6 h6 hb6 hown6
        go_wp2_with fail
        go_ret
        exact ⟨rfl, ⟨L', _, HF1.out.less fun x hx => List.mem_cons_of_mem _ hx⟩, (HF3.out.trans HF2.out).fewer fun x hx => List.mem_cons_of_mem _ hx⟩
      · obtain rfl : res = (r, (m', s)) := by rw [hres.out, if_neg hr0]
        clear hres
        have hri : (r != 0) = true := bne_iff_ne.2 hr0
        have HF1 := Lib.hid hsq
        have HF3 : Hid (Keeps B (w.heap.size :: X) w wq) := hkq.fewer hsq.sub
        clear hsq hkq hls
        go_wp2
        go_ret
        exact ⟨rfl, ⟨_, _, HF1.out.less fun x hx => List.mem_cons_of_mem _ hx⟩, HF3.out.fewer fun x hx => List.mem_cons_of_mem _ hx⟩
/-- Any Anew. -/
theorem anew_any' (h : SAt B X w t b p N n m s L v) (htab : Tab w) (hgB : 0 < B) (hN : N < 900000) (x : Sta) (hx : StaB x) (Al : Option Addr) (nl cl : Nat) (hl : RE w B Al nl x.es) (hnl : nl ≤ 999990) (hd : x.snap.data.size ≤ 9223372036854775807) :
    Calls Tryz.prog 14 #[.pointer (some ⟨t, 0, none⟩), staV x Al nl cl] w (Saved B X w t b p (N + 2) n (sanew m n s x)) := by
  cases hok : okAnew x with
  | false =>
    have e : sanew m n s x = (1, (m, s)) := by unfold sanew; rw [if_neg (by rw [hok]; decide)]
    rw [e]
    refine (anew_no h x hx Al nl cl (hl.more h.base) (by omega) hd hok).mono ?_
    rintro e w' ⟨h1, ⟨L', v', h2⟩, h3⟩
    exact ⟨h1, ⟨L', v', h2.more (by omega)⟩, h3⟩
  | true =>
    obtain ⟨r, m', hw⟩ : ∃ r m', wanew m n (allOf x) = (r, m') := ⟨_, _, rfl⟩
    refine anew_ok h htab hgB hN x hx Al nl cl hl hnl hok (Lib.hid hw) _ ?_
    have e : sanew m n s x = if r = 0 then (0, (m', x)) else (r, (m', s)) := by unfold sanew; rw [if_pos hok, hw]
    exact e
end
end Go.Proofs.YtamncdpeklbhlaaGreatDoor.Anew
set_option linter.unusedVariables false
set_option linter.unusedSimpArgs false
namespace Go.Proofs.YtamncdpeklbhlaaGreatDoor.Open
open Go.RowKit Go.Proofs.YtamncdpeklbhlaaGreatDoor.Kit Go.Proofs.YtamncdpeklbhlaaGreatDoor.Blocks Go.Proofs.YtamncdpeklbhlaaGreatDoor.Rlog Go.Proofs.YtamncdpeklbhlaaGreatDoor.Sto Go.Proofs.YtamncdpeklbhlaaGreatDoor.Sav Go.Proofs.YtamncdpeklbhlaaGreatDoor.Ents Go.Proofs.YtamncdpeklbhlaaGreatDoor.Hold Go.Proofs.YtamncdpeklbhlaaGreatDoor.Few Go.Proofs.YtamncdpeklbhlaaGreatDoor.Ahe Go.Proofs.YtamncdpeklbhlaaGreatDoor.Take Go.Proofs.YtamncdpeklbhlaaGreatDoor.Del Go.Proofs.YtamncdpeklbhlaaGreatDoor.Save Go.Proofs.YtamncdpeklbhlaaGreatDoor.Anew Go.Proofs.YtamncdpeklbhlaaGreatDoor.Model Go.Proofs.YtamncdpeklbhlaaGreatDoor.Ops Go.Proofs.YtamncdpeklbhlaaGreatDoor.ScA Go.Proofs.YtamncdpeklbhlaaGreatDoor.FrA Go.Proofs.YtamncdpeklbhlaaGreatDoor.SumB Go.Proofs.YtamncdpeklbhlaaGreatDoor.Wal
open Go.Proofs.YtamncdpeklbhlaaGreatDoor.PckWalkH (str)
open Go.Proofs.YtamncdpeklbhlaaGreatDoor.Log (LogAt wopen wappend wanew)
open Go.Proofs.YtamncdpeklbhlaaGreatDoor.LogB (open_any)
open Go.Proofs.YtamncdpeklbhlaaGreatDoor.Quorum (sound)
open Go.Proofs.YtamncdpeklbhlaaGreatDoor.Model.M (all)

theorem unframe_short {l x : List UInt8} (h : unframe l = some x) : x.length ≤ 65536 := by
  unfold unframe at h
  split at h
  · cases h
  · split at h
    · rename_i hc
      cases h
      rw [List.length_take]
      omega
    · cases h
theorem scan_short (l : List UInt8) : ∀ x ∈ (scan l).1, x.length ≤ 65536 := by
  induction hn : l.length using Nat.strongRecOn generalizing l with
  | _ n ih =>
    by_cases h0 : Stuff.zl l < l.length
    · cases h : unframe (l.take (Stuff.zl l)) with
      | none => rw [scan_bad l h]; simp
      | some x =>
        rw [scan_good l x h0 h]
        intro y hy
        rcases List.mem_cons.1 hy with rfl | hy
        · exact unframe_short h
        · exact ih (l.drop (Stuff.zl l + 1)).length (by simp only [List.length_drop]; omega) _ rfl y hy
    · rw [scan_end l (by have := Stuff.zl_le l; omega)]; simp
structure Few (l : List (List UInt8)) : Prop where
  len : l.length ≤ 1048576
  each : ∀ x ∈ l, x.length ≤ 65536
theorem few_nil : Few [] := ⟨by decide, by simp⟩
theorem few_behind (m : M) (n : Int) (s : List UInt8) (hs : s.length ≤ 1048576) : Few (Log.behind m n s).1.2 := by
  have h : Few (scan s).1 := ⟨Nat.le_trans (scan_many s) hs, scan_short s⟩
  unfold Log.behind
  split
  · split
    · exact h
    · exact few_nil
  · split
    · exact h
    · exact few_nil
theorem wopen_few {m : M} (g : Fine m) (n : Int) : Few (wopen m n).1.2 := by
  unfold wopen
  split
  · exact few_nil
  split
  · exact few_nil
  split
  · split
    · exact few_behind _ _ _ (by simp)
    · exact few_nil
  · exact few_behind _ _ _ (all_le g n.toNat)

theorem results_tct {P : Program} {fn : Func} {a p u : Tmp} {ty : TypeId} (h : fn.results = #[.tmp a, .cell p ty, .tmp u]) (tmps : Array Value) (w : World) (g : Nat) (t : TypeId) (cs : Array Value) (fr : Nat × Nat) (d : TypeDesc)
    (hp : tmps.getD p undef = .pointer (some ⟨g, 0, none⟩)) (hg : w.heap[g]? = some (.cells cs t fr))
    (hu : P.underlying ty = some d) (hd : (match d with | .struct _ | .array _ _ => true | _ => false) = true) (hi : (P.info? ty).map (·.size) = some cs.size) :
    (results fn tmps).run P w = .ok (.tuple #[tmps.getD a undef, .agg cs, tmps.getD u undef]) w := by
  have hp' : tmps[p]?.getD undef = .pointer (some ⟨g, 0, none⟩) := by simpa using hp
  simp [results, h, hp', asAddr, Result.andThen, run_loadVar_row w g t ty cs fr d hg hu hd hi]

/-- The state that nothing says. -/
def zeroS : Value := .agg #[.int .u64 0, .int .i64 0, .int .u64 0, .int .u64 0, .int .u64 0, .string ⟨#[]⟩, .slice none 0 0]
/-- What Open leaves. -/
def OpenS (B : Nat) (L : List Nat) (w : World) (p N : Nat) (n : Int) (r : (Int × Sta) × M) (e : Ending) (w' : World) : Prop :=
  (r.1.1 ≠ 0 ∧ e = .returned (.tuple #[.pointer none, zeroS, .int .i64 r.1.1]) ∧ Has B L w' p N r.2 ∧ Keeps B L w w') ∨
  (r.1.1 = 0 ∧ ∃ t b L' v A c, e = .returned (.tuple #[.pointer (some ⟨t, 0, none⟩), staV r.1.2 A r.1.2.es.length c, .int .i64 0]) ∧ SAt B L w' t b p N n r.2 r.1.2 L' v ∧ RE w' w'.heap.size A r.1.2.es.length r.1.2.es ∧ Keeps B L w w' ∧ w.heap.size ≤ t ∧ r.1.2.es.length ≤ 1048576)
/-- The zero state is handed back. -/
theorem refuse {B : Nat} {L : List Nat} {w w2 : World} {p N q : Nat} {m' : M} (hz : w2.heap[q]? = some (.cells #[.int .u64 0, .int .i64 0, .int .u64 0, .int .u64 0, .int .u64 0, .string ⟨#[]⟩, .slice none 0 0] 45 (0, 0))) (hd : Has B (q :: L) w2 p N m') (hk : Keeps B (q :: L) w w2) (hq : w.heap.size ≤ q) (hB : B ≤ w.heap.size) (hL : ∀ x ∈ L, x < w.heap.size) :
    (((((((w2.setCell ⟨q, 0, none⟩ (.int .u64 0)).setCell ⟨q, 1, none⟩ (.int .i64 0)).setCell ⟨q, 2, none⟩ (.int .u64 0)).setCell ⟨q, 3, none⟩ (.int .u64 0)).setCell ⟨q, 4, none⟩ (.int .u64 0)).setCell ⟨q, 5, none⟩ (.string ⟨#[]⟩)).setCell ⟨q, 6, none⟩ (.slice none 0 0)).heap[q]? = some (.cells #[.int .u64 0, .int .i64 0, .int .u64 0, .int .u64 0, .int .u64 0, .string ⟨#[]⟩, .slice none 0 0] 45 (0, 0)) ∧
    Has B L (((((((w2.setCell ⟨q, 0, none⟩ (.int .u64 0)).setCell ⟨q, 1, none⟩ (.int .i64 0)).setCell ⟨q, 2, none⟩ (.int .u64 0)).setCell ⟨q, 3, none⟩ (.int .u64 0)).setCell ⟨q, 4, none⟩ (.int .u64 0)).setCell ⟨q, 5, none⟩ (.string ⟨#[]⟩)).setCell ⟨q, 6, none⟩ (.slice none 0 0)) p N m' ∧
    Keeps B L w (((((((w2.setCell ⟨q, 0, none⟩ (.int .u64 0)).setCell ⟨q, 1, none⟩ (.int .i64 0)).setCell ⟨q, 2, none⟩ (.int .u64 0)).setCell ⟨q, 3, none⟩ (.int .u64 0)).setCell ⟨q, 4, none⟩ (.int .u64 0)).setCell ⟨q, 5, none⟩ (.string ⟨#[]⟩)).setCell ⟨q, 6, none⟩ (.slice none 0 0)) := by
  obtain ⟨h1, h2⟩ := set7 hz rfl (.int .u64 0) (.int .i64 0) (.int .u64 0) (.int .u64 0) (.int .u64 0) (.string ⟨#[]⟩) (.slice none 0 0)
  refine ⟨h1, (has_only hd h2 fun x hx => .inl (by rw [hx]; simp)).fewer fun x hx => List.mem_cons_of_mem _ hx, (hk.fewer fun x hx => List.mem_cons_of_mem _ hx).trans (h2.mono fun x _ hx => ⟨by rw [hx]; omega, fun e => ?_⟩)⟩
  rw [hx] at e
  have := hL q e
  omega
section
variable {B : Nat} {L : List Nat} {w : World} {p N : Nat} {m : M}
set_option maxRecDepth 100000 in
theorem open_mad (h : Has B L w p N m) (n : Int) (c : Nat) (hc : c < 18446744073709551616) (hs : sound c = false) :
    Calls Tryz.prog 11 #[.pointer (some ⟨p, 0, none⟩), .int .i64 n, .int .u64 (c : Int)] w (OpenS B L w p N n ((1, first c), m)) := by
  have hba : Below w.heap.size w (w.alloc (.cells #[.int .u64 0, .int .i64 0, .int .u64 0, .int .u64 0, .int .u64 0, .string ⟨#[]⟩, .slice none 0 0] 45)) := (Below.refl _ _).alloc (Nat.le_refl _) _
  have HCZ := Lib.hid (heap_alloc_new w (.cells #[.int .u64 0, .int .i64 0, .int .u64 0, .int .u64 0, .int .u64 0, .string ⟨#[]⟩, .slice none 0 0] 45))
  have hsd := QuoWalkA.sound_any c hc
  rw [hs] at hsd
  have HSD := Lib.hid hsd
  have HH := Lib.hid h
  clear hsd h hs
  go_enter Tryz.func11, Tryz.ntmps11
  go_wp2_with fail
  refine (HSD.out _).mono ?_
  rintro e w1 ⟨rfl, rfl⟩
  go_wp2_with fail
  refine bodyPost_ret (results_tct (a := 6) (p := 7) (u := 8) (ty := 45) rfl _ _ w.heap.size 45 _ (0, 0) _ rfl HCZ.out Tryz.underlying45 rfl (by kernel_rfl)) rfl ?_
  exact .inl ⟨by show (1 : Int) ≠ 0; decide, rfl, HH.out.below hba, Keeps.of_below hba⟩
set_option maxRecDepth 100000 in
set_option maxHeartbeats 2000000 in
theorem open_bad (h : Has B L w p N m) (htab : Tab w) (hgB : 0 < B) (hN : N < 900000) (n : Int) (c : Nat) (hc : c < 18446744073709551616) (hs : sound c = true) {r : Int} {rl : List (List UInt8)} {m' : M} (hw : Hid (wopen m n = ((r, rl), m'))) (hr : r ≠ 0) :
    Calls Tryz.prog 11 #[.pointer (some ⟨p, 0, none⟩), .int .i64 n, .int .u64 (c : Int)] w (OpenS B L w p (N + 2) n ((r, first c), m')) := by
  have hba : Below w.heap.size w (w.alloc (.cells #[.int .u64 0, .int .i64 0, .int .u64 0, .int .u64 0, .int .u64 0, .string ⟨#[]⟩, .slice none 0 0] 45)) := (Below.refl _ _).alloc (Nat.le_refl _) _
  have hcz := heap_alloc_new w (.cells #[.int .u64 0, .int .i64 0, .int .u64 0, .int .u64 0, .int .u64 0, .string ⟨#[]⟩, .slice none 0 0] 45)
  obtain ⟨w0, hw0⟩ : ∃ w0, w.alloc (.cells #[.int .u64 0, .int .i64 0, .int .u64 0, .int .u64 0, .int .u64 0, .string ⟨#[]⟩, .slice none 0 0] 45) = w0 := ⟨_, rfl⟩
  rw [hw0] at hba hcz
  have hlt := lt_at hcz
  have hH := h.beside hba (Nat.le_refl _) hlt
  have hop := open_any n hH (Tab.below htab hgB (hba.mono h.low)) hgB hN
  rw [hw.out] at hop
  have hsd := QuoWalkA.sound_any c hc
  rw [hs] at hsd
  have HSD := Lib.hid hsd
  have HH := Lib.hid h
  have HOP := Lib.hid hop
  have HW0 := Lib.hid hw0
  have HCZ := Lib.hid hcz
  have hri : (r != 0) = true := bne_iff_ne.2 hr
  clear hsd h hs hop hH hw0 hcz hw
  go_enter Tryz.func11, Tryz.ntmps11
  go_wp2_with fail
  rw [HW0.out]
  refine (HSD.out _).mono ?_
  rintro e w1 ⟨rfl, rfl⟩
  go_wp2_with fail
  refine HOP.out.mono ?_
  intro e w2 hop
  rcases hop with ⟨_, rfl, hd, hk⟩ | ⟨h0, _⟩
  · have hcz2 := hk.heap HCZ.out (.inr (by simp))
    have z0 : w2.cell? ⟨w.heap.size, 0, none⟩ = some (.int .u64 0) := by rw [cell_at hcz2]; rfl
    have z1 : w2.cell? ⟨w.heap.size, 1, none⟩ = some (.int .i64 0) := by rw [cell_at hcz2]; rfl
    have z2 : w2.cell? ⟨w.heap.size, 2, none⟩ = some (.int .u64 0) := by rw [cell_at hcz2]; rfl
    have z3 : w2.cell? ⟨w.heap.size, 3, none⟩ = some (.int .u64 0) := by rw [cell_at hcz2]; rfl
    have z4 : w2.cell? ⟨w.heap.size, 4, none⟩ = some (.int .u64 0) := by rw [cell_at hcz2]; rfl
    have z5 : w2.cell? ⟨w.heap.size, 5, none⟩ = some (.string ⟨#[]⟩) := by rw [cell_at hcz2]; rfl
    have z6 : w2.cell? ⟨w.heap.size, 6, none⟩ = some (.slice none 0 0) := by rw [cell_at hcz2]; rfl
    have g0 := free_at hcz2 0
    have g1 := free_at hcz2 1
    have g2 := free_at hcz2 2
    have g3 := free_at hcz2 3
    have g4 := free_at hcz2 4
    have g5 := free_at hcz2 5
    have g6 := free_at hcz2 6
    have hlt2 := lt_at hcz2
    have HZ2 := Lib.hid hcz2
    have HD := Lib.hid hd
    have HK := Lib.hid hk
    clear hcz2 hd hk
    obtain ⟨q1, q2, q3⟩ := refuse (w := w) HZ2.out HD.out ((Keeps.of_below hba).trans HK.out) (Nat.le_refl _) HH.out.low HH.out.old
    have Q1 := Lib.hid q1
    have Q2 := Lib.hid q2
    have Q3 := Lib.hid q3
    clear q1 q2 q3
    go_wp2_with fail
    refine bodyPost_ret (results_tct (a := 6) (p := 7) (u := 8) (ty := 45) rfl _ _ w.heap.size 45 _ (0, 0) _ rfl Q1.out Tryz.underlying45 rfl (by kernel_rfl)) rfl ?_
    exact .inl ⟨hr, rfl, Q2.out, Q3.out⟩
  · exact absurd h0 hr
theorem has_plus {B : Nat} {L : List Nat} {w w' : World} {p N : Nat} {m : M} (h : Has B L w p N m) (k : Below w.heap.size w w') (S : List Nat) (hS : ∀ y ∈ S, w.heap.size ≤ y ∧ y < w'.heap.size) : Has B (S ++ L) w' p N m := by
  obtain ⟨A, c, mb, x, hD, hF⟩ := h.disk
  refine ⟨h.fine, Nat.le_trans h.low k.size, fun b hb => ?_, A, c, mb, x, hD.below k, fun q hq => ⟨(hF q hq).1, fun e => ?_⟩⟩
  · rcases List.mem_append.1 hb with hb | hb
    · exact (hS b hb).2
    · exact Nat.lt_of_lt_of_le (h.old b hb) k.size
  · rcases List.mem_append.1 e with e | e
    · have := hD.foot_lt hq
      have := (hS q e).1
      omega
    · exact (hF q hq).2 e
theorem Few.Gives.reads' {w' : World} {base n : Nat} {l : List Ent} {A : Option Addr} {c : Nat} (h : w'.ownsRow base 83 4 (.slice A n c) n (ecells l)) : RE w' w'.heap.size A n l := by
  obtain ⟨A', c', he, _, _, hr⟩ := own_form h
  cases he
  exact hr
theorem makes_fail {s st : Sta} {rl : List (List UInt8)} {j : Nat} {x : List UInt8} (hj : rl[j]? = some x) (h : makes s (rl.take j) = some st) (hx : (say st (str x)).2 = false) : makes s rl = none := by
  obtain ⟨hl, he⟩ := List.getElem?_eq_some_iff.1 hj
  have e : rl = rl.take j ++ x :: rl.drop (j + 1) := by
    rw [← he, ← List.drop_eq_getElem_cons hl, List.take_append_drop]
  rw [e, makes_append, h]
  simp only [Option.bind_some, makes]
  rw [if_neg (by rw [hx]; decide)]
theorem makes_next {s st : Sta} {rl : List (List UInt8)} {j : Nat} {x : List UInt8} (hj : rl[j]? = some x) (h : makes s (rl.take j) = some st) (hx : (say st (str x)).2 = true) : makes s (rl.take (j + 1)) = some (say st (str x)).1 := by
  obtain ⟨hl, he⟩ := List.getElem?_eq_some_iff.1 hj
  rw [List.take_succ_eq_append_getElem hl, he, makes_append, h]
  simp only [Option.bind_some, makes]
  rw [if_pos hx]
set_option maxRecDepth 100000 in
set_option maxHeartbeats 8000000 in
theorem open_good (h : Has B L w p N m) (htab : Tab w) (hgB : 0 < B) (hN : N < 900000) (n : Int) (c : Nat) (hc : c < 18446744073709551616) (hs : sound c = true) {rl : List (List UInt8)} {m' : M} (hw : Hid (wopen m n = ((0, rl), m'))) (hfew : Few rl) (res : (Int × Sta) × M)
    (hres : Hid (res = match said c rl with | none => ((2, first c), m') | some s => ((0, s), m'))) :
    Calls Tryz.prog 11 #[.pointer (some ⟨p, 0, none⟩), .int .i64 n, .int .u64 (c : Int)] w (OpenS B L w p (N + 2) n res) := by
  have hba : Below w.heap.size w (w.alloc (.cells #[.int .u64 0, .int .i64 0, .int .u64 0, .int .u64 0, .int .u64 0, .string ⟨#[]⟩, .slice none 0 0] 45)) := (Below.refl _ _).alloc (Nat.le_refl _) _
  have hcz := heap_alloc_new w (.cells #[.int .u64 0, .int .i64 0, .int .u64 0, .int .u64 0, .int .u64 0, .string ⟨#[]⟩, .slice none 0 0] 45)
  obtain ⟨w0, hw0⟩ : ∃ w0, w.alloc (.cells #[.int .u64 0, .int .i64 0, .int .u64 0, .int .u64 0, .int .u64 0, .string ⟨#[]⟩, .slice none 0 0] 45) = w0 := ⟨_, rfl⟩
  rw [hw0] at hba hcz
  have hlt := lt_at hcz
  have hH := h.beside hba (Nat.le_refl _) hlt
  have hop := open_any n hH (Tab.below htab hgB (hba.mono h.low)) hgB hN
  rw [hw.out] at hop
  have hsd := QuoWalkA.sound_any c hc
  rw [hs] at hsd
  have HSD := Lib.hid hsd
  have HH := Lib.hid h
  have HOP := Lib.hid hop
  have HW0 := Lib.hid hw0
  have HCZ := Lib.hid hcz
  have HBA := Lib.hid hba
  have HFE := Lib.hid hfew
  have HSO := Lib.hid hs
  clear hsd h hs hop hH hw0 hcz hw hba hfew
  go_enter Tryz.func11, Tryz.ntmps11
  go_wp2_with fail
  rw [HW0.out]
  refine (HSD.out _).mono ?_
  rintro e w1 ⟨rfl, rfl⟩
  go_wp2_with fail
  refine HOP.out.mono ?_
  intro e w2 hop
  rcases hop with ⟨h0, _⟩ | ⟨_, b, A1, c1, rfl, hlog, hrs, hd, hk, hbb⟩
  · exact absurd rfl h0
  · simp only at hlog hrs hd hk
    obtain ⟨k1, hk1⟩ : ∃ k1, rl.length = k1 := ⟨_, rfl⟩
    rw [hk1] at hrs ⊢
    have hk1b : k1 ≤ 1048576 := by rw [← hk1]; exact HFE.out.len
    have HK1 := Lib.hid hk1
    have HLOG := Lib.hid hlog
    have HRS := Lib.hid hrs
    have HD := Lib.hid hd
    have HK : Hid (Keeps B (w.heap.size :: L) w w2) := (Keeps.of_below HBA.out).trans hk
    have hcz2 := hk.heap HCZ.out (.inr (by simp))
    have HZ2 := Lib.hid hcz2
    have hl12 : Below w2.heap.size w2 (w2.alloc (.cells #[.int .u64 0, .int .i64 (-1), .int .u64 0, .int .u64 0, .int .u64 (c : Int), .string ⟨#[]⟩, .slice none 0 0] 45)) := (Below.refl _ _).alloc (Nat.le_refl _) _
    have hhold : Hold 45 w2.heap.size (w2.alloc (.cells #[.int .u64 0, .int .i64 (-1), .int .u64 0, .int .u64 0, .int .u64 (c : Int), .string ⟨#[]⟩, .slice none 0 0] 45)) w2.heap.size (pre (first c)) (.slice none 0 0) (first c).es := ⟨Nat.le_refl _, heap_alloc_new w2 _, World.ownsRow_nil _ _ _ _, by simp [Value.ownBlock]⟩
    have HHO := Lib.hid hhold
    have HL12 := Lib.hid hl12
    have hltp : w2.heap.size < (w2.alloc (.cells #[.int .u64 0, .int .i64 (-1), .int .u64 0, .int .u64 0, .int .u64 (c : Int), .string ⟨#[]⟩, .slice none 0 0] 45)).heap.size := hhold.lt
    clear hlog hrs hd hk hcz2 hhold hl12 hk1
    go_wp2_with fail
    go_loopw [37] (fun i wr => ∃ (j : Nat) (st : Sta) (v : Value), j ≤ k1 ∧ i = .int .i64 (j : Int) ∧ Hold 45 w2.heap.size wr w2.heap.size (pre st) v st.es ∧ Hid (makes (first c) (rl.take j) = some st) ∧ Below w2.heap.size w2 wr) (fun i _ => k1 - (intOf i).toNat)
    case atStart => exact ⟨0, first c, _, Nat.zero_le _, rfl, HHO.out, Lib.hid rfl, HL12.out⟩
    case round =>
      obtain ⟨j, st, v, hj, rfl, hhold, HMK, hbel⟩ := hrel
      have hstl := makes_len _ HMK.out
      have hstb := makes_b _ (first_b hc) (fun x hx => by have := HFE.out.each x (List.mem_of_mem_take hx); omega) HMK.out
      have hstn : st.es.length ≤ 1048576 := by
        rw [List.length_take] at hstl
        have : (first c).es.length = 0 := rfl
        omega
      by_cases hjn : j < k1
      · have hjl : j < rl.length := by rw [HK1.out]; exact hjn
        obtain ⟨bx, ox, rfl, hbx, hcx⟩ := Reads.text HRS.out hjn hjl
        have hcr : wr.cell? ⟨bx, ox + j, none⟩ = some (.string (str rl[j])) := (hbel.cell (p := ⟨bx, ox + j, none⟩) hbx).trans hcx
        have hgj : rl[j]? = some rl[j] := List.getElem?_eq_getElem hjl
        have hxs : (str rl[j]).size ≤ 65536 := by rw [PckWalkH.str_size]; exact HFE.out.each _ (List.getElem_mem hjl)
        obtain ⟨x, hx⟩ : ∃ x, rl[j] = x := ⟨_, rfl⟩
        rw [hx] at hcr hgj hxs
        have htk := take_any hhold (str x) (by omega) (by omega)
        obtain ⟨q, hq⟩ : ∃ q, (say st (str x)).2 = q := ⟨_, rfl⟩
        unfold Took at htk
        rw [hq] at htk
        have HTK := Lib.hid htk
        have HGJ := Lib.hid hgj
        have HQ := Lib.hid hq
        obtain ⟨S, hS⟩ : ∃ S, str x = S := ⟨_, rfl⟩
        have HS := Lib.hid hS
        rw [hS] at hcr HTK
        have hltp2 := hhold.lt
        clear htk hgj hq hx hcx hxs hS hhold
        go_wp2_with fail
        refine HTK.out.mono ?_
        rintro e w5 ⟨rfl, v', hh5, hb5⟩
        have hB5 := hbel.trans hb5
        cases q with
        | true =>
          have HNX := Lib.hid (makes_next HGJ.out HMK.out HQ.out)
          rw [HS.out] at HNX
          have HH5 := Lib.hid hh5
          clear hh5 hb5
          go_wp2
          go_roundw
          case rel => exact ⟨j + 1, _, v', by omega, by go_num, HH5.out, HNX, hB5⟩
          case measure => simp [intOf]; omega
        | false =>
          have HNO : Hid (said c rl = none) := by
            have : said c rl = none := by unfold said; rw [makes_fail HGJ.out HMK.out HQ.out]
            exact this
          clear hh5 hb5
          have hczx := (hB5.block w.heap.size (lt_at HZ2.out)).trans HZ2.out
          have z0 : w5.cell? ⟨w.heap.size, 0, none⟩ = some (.int .u64 0) := by rw [cell_at hczx]; rfl
          have g0 := free_at hczx 0
          have z1 : w5.cell? ⟨w.heap.size, 1, none⟩ = some (.int .i64 0) := by rw [cell_at hczx]; rfl
          have g1 := free_at hczx 1
          have z2 : w5.cell? ⟨w.heap.size, 2, none⟩ = some (.int .u64 0) := by rw [cell_at hczx]; rfl
          have g2 := free_at hczx 2
          have z3 : w5.cell? ⟨w.heap.size, 3, none⟩ = some (.int .u64 0) := by rw [cell_at hczx]; rfl
          have g3 := free_at hczx 3
          have z4 : w5.cell? ⟨w.heap.size, 4, none⟩ = some (.int .u64 0) := by rw [cell_at hczx]; rfl
          have g4 := free_at hczx 4
          have z5 : w5.cell? ⟨w.heap.size, 5, none⟩ = some (.string ⟨#[]⟩) := by rw [cell_at hczx]; rfl
          have g5 := free_at hczx 5
          have z6 : w5.cell? ⟨w.heap.size, 6, none⟩ = some (.slice none 0 0) := by rw [cell_at hczx]; rfl
          have g6 := free_at hczx 6
          have hltz := lt_at hczx
          have HZX := Lib.hid hczx
          obtain ⟨q1, q2, q3⟩ := refuse (w := w) HZX.out ((HD.out.below hB5).fewer (L' := w.heap.size :: L) fun x hx => List.mem_cons_of_mem _ hx) (HK.out.trans (Keeps.of_below hB5)) (Nat.le_refl _) HH.out.low HH.out.old
          have Q1 := Lib.hid q1
          have Q2 := Lib.hid q2
          have Q3 := Lib.hid q3
          obtain rfl : res = ((2, first c), m') := by rw [hres.out, HNO.out]
          clear q1 q2 q3 hres hczx
          go_wp2_with fail
          refine bodyPost_ret (results_tct (a := 6) (p := 7) (u := 8) (ty := 45) rfl _ _ w.heap.size 45 _ (0, 0) _ rfl Q1.out Tryz.underlying45 rfl (by kernel_rfl)) rfl ?_
          exact .inl ⟨by show (2 : Int) ≠ 0; decide, rfl, Q2.out, Q3.out⟩
      · obtain rfl : j = k1 := by omega
        have hmk : makes (first c) rl = some st := by
          have := HMK.out
          rwa [List.take_of_length_le (by rw [HK1.out]; exact Nat.le_refl _)] at this
        obtain ⟨Av, cv, hv, _, _, hrv⟩ := hhold.form
        subst hv
        have hist := isState_any st hstb Av st.es.length cv wr hrv (by omega)
        obtain ⟨q, hq⟩ : ∃ q, right st = q := ⟨_, rfl⟩
        rw [hq] at hist
        have e0 := hhold.at_ 0 rfl
        have e1 := hhold.at_ 1 rfl
        have e2 := hhold.at_ 2 rfl
        have e3 := hhold.at_ 3 rfl
        have e4 := hhold.at_ 4 rfl
        have e5 := hhold.at_ 5 rfl
        have e6 := hhold.at_ 6 rfl
        have hltp3 := hhold.lt
        have HIS := Lib.hid hist
        have HHD := Lib.hid hhold
        have HQ := Lib.hid hq
        have HMK2 := Lib.hid hmk
        have HSB := Lib.hid hstb
        have HHrv := Lib.hid hrv
        unfold staV at HIS
        clear hist hhold hmk hstb hrv hq
        go_wp2_with fail
        refine HIS.out.mono ?_
        rintro e w5 ⟨rfl, hb5⟩
        have hB5 := hbel.trans (hb5.mono hbel.size)
        cases q with
        | false =>
          have HNO : Hid (said c rl = none) := by
            have : said c rl = none := by unfold said; rw [HMK2.out]; simp only; rw [if_neg (by rw [HQ.out]; decide)]
            exact this
          clear hb5
          have hczx := (hB5.block w.heap.size (lt_at HZ2.out)).trans HZ2.out
          have z0 : w5.cell? ⟨w.heap.size, 0, none⟩ = some (.int .u64 0) := by rw [cell_at hczx]; rfl
          have g0 := free_at hczx 0
          have z1 : w5.cell? ⟨w.heap.size, 1, none⟩ = some (.int .i64 0) := by rw [cell_at hczx]; rfl
          have g1 := free_at hczx 1
          have z2 : w5.cell? ⟨w.heap.size, 2, none⟩ = some (.int .u64 0) := by rw [cell_at hczx]; rfl
          have g2 := free_at hczx 2
          have z3 : w5.cell? ⟨w.heap.size, 3, none⟩ = some (.int .u64 0) := by rw [cell_at hczx]; rfl
          have g3 := free_at hczx 3
          have z4 : w5.cell? ⟨w.heap.size, 4, none⟩ = some (.int .u64 0) := by rw [cell_at hczx]; rfl
          have g4 := free_at hczx 4
          have z5 : w5.cell? ⟨w.heap.size, 5, none⟩ = some (.string ⟨#[]⟩) := by rw [cell_at hczx]; rfl
          have g5 := free_at hczx 5
          have z6 : w5.cell? ⟨w.heap.size, 6, none⟩ = some (.slice none 0 0) := by rw [cell_at hczx]; rfl
          have g6 := free_at hczx 6
          have hltz := lt_at hczx
          have HZX := Lib.hid hczx
          obtain ⟨q1, q2, q3⟩ := refuse (w := w) HZX.out ((HD.out.below hB5).fewer (L' := w.heap.size :: L) fun x hx => List.mem_cons_of_mem _ hx) (HK.out.trans (Keeps.of_below hB5)) (Nat.le_refl _) HH.out.low HH.out.old
          have Q1 := Lib.hid q1
          have Q2 := Lib.hid q2
          have Q3 := Lib.hid q3
          obtain rfl : res = ((2, first c), m') := by rw [hres.out, HNO.out]
          clear q1 q2 q3 hres hczx
          go_wp2_with fail
          refine bodyPost_ret (results_tct (a := 6) (p := 7) (u := 8) (ty := 45) rfl _ _ w.heap.size 45 _ (0, 0) _ rfl Q1.out Tryz.underlying45 rfl (by kernel_rfl)) rfl ?_
          exact .inl ⟨by show (2 : Int) ≠ 0; decide, rfl, Q2.out, Q3.out⟩
        | true =>
          obtain rfl : res = ((0, st), m') := by
            have : said c rl = some st := by unfold said; rw [HMK2.out]; simp only; rw [if_pos HQ.out]
            rw [hres.out, this]
          clear hres
          have h5 := HHD.out.below hb5
          have c0 := h5.at_ 0 rfl
          have c1' := h5.at_ 1 rfl
          have c2 := h5.at_ 2 rfl
          have c3 := h5.at_ 3 rfl
          have c4 := h5.at_ 4 rfl
          have c5 := h5.at_ 5 rfl
          have c6 := h5.at_ 6 rfl
          have hltp5 := h5.lt
          have hb6 : Below w5.heap.size w5 (w5.alloc (.cells #[.pointer (some ⟨b, 0, none⟩), .int .u64 (st.term : Int), .int .i64 st.vote, .int .u64 (st.snap.idx : Int), .int .u64 (st.snap.term : Int), .int .u64 (st.snap.cfg : Int), .string st.snap.data, .slice Av st.es.length cv] 94)) := (Below.refl _ _).alloc (Nat.le_refl _) _
          have hcs := heap_alloc_new w5 (.cells #[.pointer (some ⟨b, 0, none⟩), .int .u64 (st.term : Int), .int .i64 st.vote, .int .u64 (st.snap.idx : Int), .int .u64 (st.snap.term : Int), .int .u64 (st.snap.cfg : Int), .string st.snap.data, .slice Av st.es.length cv] 94)
          obtain ⟨w6, hw6⟩ : ∃ w6, w5.alloc (.cells #[.pointer (some ⟨b, 0, none⟩), .int .u64 (st.term : Int), .int .i64 st.vote, .int .u64 (st.snap.idx : Int), .int .u64 (st.snap.term : Int), .int .u64 (st.snap.cfg : Int), .string st.snap.data, .slice Av st.es.length cv] 94) = w6 := ⟨_, rfl⟩
          rw [hw6] at hb6 hcs
          have hB2w : B ≤ w2.heap.size := Nat.le_trans HH.out.low HK.out.size
          have hsto : StoAt B w6 w5.heap.size b st (.slice Av st.es.length cv) := ⟨Nat.le_trans hB2w hB5.size, hcs, own_base (h5.below hb6).own hB2w, fun e => by have := (h5.own.lt _ e).2; omega⟩
          have hsta := state_any hsto (by omega)
          unfold Few.Gives staV at hsta
          have HST := Lib.hid hsta
          have HSTO := Lib.hid hsto
          have HW6 := Lib.hid hw6
          have H5 := Lib.hid h5
          clear hsta hsto hw6 hcs h5
          go_wp2_with fail
          rw [HW6.out]
          refine HST.out.mono ?_
          rintro e w7 ⟨A7, c7, rfl, hown7, hb7⟩
          have hB7 : Below w2.heap.size w2 w7 := hB5.trans ((hb6.trans (hb7.mono hb6.size)).mono hB5.size)
          have hczx := (hB7.block w.heap.size (lt_at HZ2.out)).trans HZ2.out
          have z0 : w7.cell? ⟨w.heap.size, 0, none⟩ = some (.int .u64 0) := by rw [cell_at hczx]; rfl
          have g0 := free_at hczx 0
          have z1 : w7.cell? ⟨w.heap.size, 1, none⟩ = some (.int .i64 0) := by rw [cell_at hczx]; rfl
          have g1 := free_at hczx 1
          have z2 : w7.cell? ⟨w.heap.size, 2, none⟩ = some (.int .u64 0) := by rw [cell_at hczx]; rfl
          have g2 := free_at hczx 2
          have z3 : w7.cell? ⟨w.heap.size, 3, none⟩ = some (.int .u64 0) := by rw [cell_at hczx]; rfl
          have g3 := free_at hczx 3
          have z4 : w7.cell? ⟨w.heap.size, 4, none⟩ = some (.int .u64 0) := by rw [cell_at hczx]; rfl
          have g4 := free_at hczx 4
          have z5 : w7.cell? ⟨w.heap.size, 5, none⟩ = some (.string ⟨#[]⟩) := by rw [cell_at hczx]; rfl
          have g5 := free_at hczx 5
          have z6 : w7.cell? ⟨w.heap.size, 6, none⟩ = some (.slice none 0 0) := by rw [cell_at hczx]; rfl
          have g6 := free_at hczx 6
          have hltz := lt_at hczx
          have HZX := Lib.hid hczx
          have HO7 := Lib.hid hown7
          have HB7 := Lib.hid hB7
          have HB67 := Lib.hid hb7
          have HB56 := Lib.hid hb6
          clear hczx hown7 hB7 hb7 hb6
          go_wp2_with fail
          obtain ⟨hblk, o8⟩ := set7 HZX.out rfl (.int .u64 (st.term : Int)) (.int .i64 st.vote) (.int .u64 (st.snap.idx : Int)) (.int .u64 (st.snap.term : Int)) (.int .u64 (st.snap.cfg : Int)) (.string st.snap.data) (.slice A7 st.es.length c7)
          have hB2w : B ≤ w2.heap.size := Nat.le_trans HH.out.low HK.out.size
          have h57 : w5.heap.size < w7.heap.size := Nat.lt_of_lt_of_le HSTO.out.lt HB67.out.size
          have hlL : ∀ x ∈ L, x < w.heap.size := HH.out.old
          have hw2 : w.heap.size < w2.heap.size := lt_at HZ2.out
          have hbw : w.heap.size ≤ b := by have := HBA.out.size; omega
          have hvg : ∀ g, (Value.slice Av st.es.length cv).ownBlock = some g → w2.heap.size ≤ g ∧ g < w5.heap.size := fun g hg => H5.out.own.lt g hg
          obtain ⟨S, hS1, hS2, hS3⟩ : ∃ S : List Nat, w5.heap.size ∈ S ∧ (∀ g, (Value.slice Av st.es.length cv).ownBlock = some g → g ∈ S) ∧ ∀ y ∈ S, w2.heap.size ≤ y ∧ y < w7.heap.size := by
            have h5s := hB5.size
            cases hv : (Value.slice Av st.es.length cv).ownBlock with
            | none => exact ⟨[w5.heap.size], by simp, (fun g hg => by cases hg), fun y hy => by simp only [List.mem_singleton] at hy; omega⟩
            | some g =>
              have hg := hvg g hv
              exact ⟨[w5.heap.size, g], by simp, (fun g' hg' => by cases hg'; simp), fun y hy => by
                simp only [List.mem_cons, List.not_mem_nil, or_false] at hy
                rcases hy with rfl | rfl <;> omega⟩
          have hd7 := has_plus HD.out HB7.out S hS3
          have hd8 := has_only hd7 o8 fun x hx => .inl (by rw [hx]; simp)
          have hne : ∀ g, (Value.slice Av st.es.length cv).ownBlock = some g → g ≠ w.heap.size := fun g hg e => by have := (hvg g hg).1; omega
          have hsto8 := (HSTO.out.below HB67.out).keep o8 fun q hq e => by
            rcases hq with rfl | hq
            · have := hB5.size; omega
            · exact hne q hq e
          have hlog8 : LogAt _ b p n := o8.heap (HLOG.out.below HB7.out) (by have := HBA.out.size; have := lt_at HCZ.out; omega)
          have hrow8 := o8.own HO7.out fun q hq e => by have := (HO7.out.lt q hq).1; have := HSTO.out.lt; omega
          have hK8 : Keeps B L w _ := ((HK.out.trans (Keeps.of_below HB7.out)).fewer fun x hx => List.mem_cons_of_mem _ hx).trans (o8.mono fun x _ hx => ⟨by have := HH.out.low; omega, fun e => by have := hlL x e; omega⟩)
          have HF1 : Hid (SAt B L _ w5.heap.size b p (N + 2) n m' st (S ++ (b :: w.heap.size :: L)) (.slice Av st.es.length cv)) := ⟨hd8, hsto8, hlog8, by simp [hS1], by simp, fun g hg => by simp [hS2 g hg], fun x hx => by simp [hx], fun e => by have := hlL _ e; have := hB5.size; omega, fun e => by have := hlL _ e; omega, fun g hg e => by have := hlL _ e; have := (hvg g hg).1; omega, HSB.out, HQ.out⟩
          have HF2 := Lib.hid (Few.Gives.reads' hrow8)
          have HF3 := Lib.hid hK8
          have HF4 : Hid (w.heap.size ≤ w5.heap.size) := by show w.heap.size ≤ _; have := hB5.size; omega
          have HF5 := Lib.hid hblk
          refine bodyPost_ret (results_tct (a := 6) (p := 7) (u := 8) (ty := 45) rfl _ _ w.heap.size 45 _ (0, 0) _ rfl HF5.out Tryz.underlying45 rfl (by kernel_rfl)) rfl ?_
          exact .inr ⟨rfl, w5.heap.size, b, _, _, A7, c7, rfl, HF1.out, HF2.out, HF3.out, HF4.out, hstn⟩
/-- Any Open. -/
theorem open_sto (h : Has B L w p N m) (htab : Tab w) (hgB : 0 < B) (hN : N < 900000) (n : Int) (c : Nat) (hc : c < 18446744073709551616) :
    Calls Tryz.prog 11 #[.pointer (some ⟨p, 0, none⟩), .int .i64 n, .int .u64 (c : Int)] w (OpenS B L w p (N + 2) n (sopen m n c)) := by
  cases hs : sound c with
  | false =>
    have e : sopen m n c = ((1, first c), m) := by unfold sopen; rw [if_pos hs]
    rw [e]
    exact open_mad (h.more (by omega)) n c hc hs
  | true =>
    obtain ⟨⟨⟨r, rl⟩, m'⟩, hw⟩ : ∃ q, wopen m n = q := ⟨_, rfl⟩
    have hf := wopen_few h.fine n
    rw [hw] at hf
    by_cases hr : r = 0
    · subst hr
      refine open_good h htab hgB hN n c hc hs (Lib.hid hw) hf _ ?_
      have e : sopen m n c = match said c rl with | none => ((2, first c), m') | some s => ((0, s), m') := by unfold sopen; rw [if_neg (by rw [hs]; decide), hw]; rfl
      exact e
    · have e : sopen m n c = ((r, first c), m') := by unfold sopen; rw [if_neg (by rw [hs]; decide), hw]; exact if_neg hr
      rw [e]
      exact open_bad h htab hgB hN n c hc hs (Lib.hid hw) hr
end
end Go.Proofs.YtamncdpeklbhlaaGreatDoor.Open
set_option linter.unusedVariables false
set_option linter.unusedSimpArgs false
namespace Go.Proofs.YtamncdpeklbhlaaGreatDoor.Bgn
open Go.RowKit Go.Proofs.YtamncdpeklbhlaaGreatDoor.Kit Go.Proofs.YtamncdpeklbhlaaGreatDoor.Blocks Go.Proofs.YtamncdpeklbhlaaGreatDoor.Rlog Go.Proofs.YtamncdpeklbhlaaGreatDoor.Sto Go.Proofs.YtamncdpeklbhlaaGreatDoor.Sav Go.Proofs.YtamncdpeklbhlaaGreatDoor.Ents Go.Proofs.YtamncdpeklbhlaaGreatDoor.Hold Go.Proofs.YtamncdpeklbhlaaGreatDoor.Del Go.Proofs.YtamncdpeklbhlaaGreatDoor.Save Go.Proofs.YtamncdpeklbhlaaGreatDoor.Open Go.Proofs.YtamncdpeklbhlaaGreatDoor.Model Go.Proofs.YtamncdpeklbhlaaGreatDoor.Ops Go.Proofs.YtamncdpeklbhlaaGreatDoor.ScA Go.Proofs.YtamncdpeklbhlaaGreatDoor.FrA Go.Proofs.YtamncdpeklbhlaaGreatDoor.SumB Go.Proofs.YtamncdpeklbhlaaGreatDoor.Wal Go.Proofs.YtamncdpeklbhlaaGreatDoor.Solo Go.Proofs.YtamncdpeklbhlaaGreatDoor.Sol
open Go.Proofs.YtamncdpeklbhlaaGreatDoor.Log (LogAt wopen wappend wanew)
open Go.Proofs.YtamncdpeklbhlaaGreatDoor.Quorum (sound)

/-- Open, by a name. -/
theorem open_lit {B : Nat} {L : List Nat} {w : World} {p N : Nat} {m m' : M} {s : Sta} (h : Has B L w p N m) (htab : Tab w) (hgB : 0 < B) (hN : N < 900000) (n : Int) (c : Nat) (hc : c < 18446744073709551616) (ho : Hid (sopen m n c = ((0, s), m'))) :
    Calls Tryz.prog 11 #[.pointer (some ⟨p, 0, none⟩), .int .i64 n, .int .u64 (c : Int)] w fun e w' => ∃ t b L' v A cc, e = .returned (.tuple #[.pointer (some ⟨t, 0, none⟩), staV s A s.es.length cc, .int .i64 0]) ∧ SAt B L w' t b p (N + 2) n m' s L' v ∧ RE w' w'.heap.size A s.es.length s.es ∧ Keeps B L w w' ∧ w.heap.size ≤ t ∧ s.es.length ≤ 1048576 := by
  refine (open_sto h htab hgB hN n c hc).mono ?_
  intro e w' hh
  rw [ho.out] at hh
  rcases hh with ⟨h0, _⟩ | ⟨_, hh⟩
  · exact absurd rfl h0
  · exact hh
theorem save_lit {B : Nat} {X L : List Nat} {w : World} {t b p N : Nat} {n : Int} {m m' : M} {s s' : Sta} {v : Value} {r : Int} (h : SAt B X w t b p N n m s L v) (htab : Tab w) (hgB : 0 < B) (hN : N < 900000) (hn0 : -9223372036854775808 ≤ n) (hn1 : n ≤ 9223372036854775807) (tm : Nat) (vt : Int) (htm : tm < 18446744073709551616) (hv0 : -9223372036854775808 ≤ vt) (hv1 : vt ≤ 9223372036854775807) (Al : Option Addr) (nl cl : Nat) (l : List Ent) (hl : RE w w.heap.size Al nl l) (hout : Out B X Al nl) (hlb : ∀ e ∈ l, EntB e) (hnl : nl ≤ 999990) (hes : s.es.length ≤ 2000000)
    (hs : Hid (ssave m n s tm vt l = (r, (m', s')))) :
    Calls Tryz.prog 16 #[.pointer (some ⟨t, 0, none⟩), .agg #[.int .u64 (tm : Int), .int .i64 vt], .slice Al nl cl] w fun e w' => e = .returned (.int .i64 r) ∧ (∃ L v, SAt B X w' t b p (N + 2) n m' s' L v) ∧ Keeps B X w w' := by
  refine (save_any h htab hgB hN hn0 hn1 tm vt htm hv0 hv1 Al nl cl l hl hout hlb hnl hes).mono ?_
  intro e w' hh
  unfold Saved at hh
  rw [hs.out] at hh
  exact hh

def e1 : Ent := ⟨3, 1, 0, ⟨#[]⟩⟩
def s1 : Sta := savedS (first 7) 3 1 [e1]
theorem sound7 : sound 7 = true := by decide
theorem e1_b : EntB e1 := ⟨by decide, by decide, by decide, by decide, by decide⟩
theorem s1_right : right s1 = true := by decide +kernel
theorem s1_is : s1 = ⟨3, 1, ⟨0, 0, 7, ByteArray.empty⟩, [e1]⟩ := by
  unfold s1 savedS stayE first
  simp
theorem out_ne : out (first 7) 3 1 [e1] ≠ [] := by
  unfold out
  simp
theorem begun_math : ∃ m2 m4, ssave (solo 1000 (-1) false 0 [] [] true (fun _ => false)) 0 (first 7) 3 1 [e1] = (0, (m2, s1)) ∧ sopen (m2.crash []) 0 7 = ((0, s1), m4) := by
  have hrec : Recs (out (first 7) 3 1 [e1]) := recs_out (by decide) (fun x hx => by simp only [List.mem_singleton] at hx; subst hx; exact e1_b) (fun x hx => by simp only [List.mem_singleton] at hx; subst hx; decide)
  have hw : weigh (out (first 7) 3 1 [e1]) ≤ 31 + bulk [e1] := weigh_out (by decide) (fun x hx => by simp only [List.mem_singleton] at hx; subst hx; exact e1_b)
  have hb : bulk [e1] = 38 := by decide
  have hlen := out_len (first 7) 3 1 [e1]
  have hfs := frames_short (out (first 7) 3 1 [e1])
  have hfl : (frames (out (first 7) 3 1 [e1])).length ≤ 1000 := by
    have : [e1].length = 1 := rfl
    omega
  have hwr := solo_wappend_free (R := 1000) (i := 0) (F := []) (T := fun _ => false) (by omega) (out (first 7) 3 1 [e1]) hrec (by simpa using hfl)
  rw [List.nil_append] at hwr
  refine ⟨solo 1000 (-1) false 0 (frames (out (first 7) 3 1 [e1])) [] true (fun _ => false), ?_⟩
  obtain ⟨t', ha⟩ := solo_again (R := 1000) (f := -1) (o := false) (i := 0) (F := frames (out (first 7) 3 1 [e1])) (S := []) (T := fun _ => false) (by omega) (by simpa using hfl) []
  rw [List.take_nil, List.append_nil, scan_all _ hrec] at ha
  refine ⟨_, ssave_ok s1_right (fun _ => hwr) (fun h => absurd h out_ne), sopen_said sound7 ha ?_⟩
  refine said_iff.2 ⟨records_ok (first_right sound7) (by decide) (by decide) (by decide) (fun x hx => by simp only [List.mem_singleton] at hx; subst hx; exact e1_b) s1_right, s1_right⟩
theorem eq_hard (a b : Int) (w : World) : (binOp .eql 40 (.agg #[.int .u64 a, .int .i64 b]) (.agg #[.int .u64 a, .int .i64 b])).run Tryz.prog w = .ok (.bool true) w := by
  simp [binOp, Op.equal, Op.maxDepth, go_sem]

set_option maxRecDepth 100000 in
set_option maxHeartbeats 8000000 in
theorem begun_any (w : World) (ht : Tab w) : Calls Tryz.prog 6 #[] w fun e w' => e = .returned (.bool true) ∧ Below w.heap.size w w' := by
  have hg := Tab.lt ht
  have HT := Lib.hid ht
  obtain ⟨m2, m4, hsv, hop2⟩ := begun_math
  obtain ⟨m0, hm0⟩ : ∃ m0, M.new 1000 = m0 := ⟨_, rfl⟩
  obtain ⟨m1, hm1⟩ : ∃ m1, solo 1000 (-1) false 0 [] [] true (fun _ => false) = m1 := ⟨_, rfl⟩
  have hop1 : sopen m0 0 7 = ((0, first 7), m1) := by rw [← hm0, ← hm1]; exact sopen_new 1000 0 (by omega) sound7
  obtain ⟨m3, hm3⟩ : ∃ m3, m2.crash [] = m3 := ⟨_, rfl⟩
  rw [hm1, s1_is] at hsv
  rw [hm3, s1_is] at hop2
  have HM0 := Lib.hid hm0
  have HM3 := Lib.hid hm3
  have HO1 := Lib.hid hop1
  have HSV := Lib.hid hsv
  have HO2 := Lib.hid hop2
  have hopA := fun (B p N : Nat) (L : List Nat) (w : World) (h : Has B L w p N m0) (h1 : Tab w) (h2 : 0 < B) (h3 : N < 900000) => open_lit h h1 h2 h3 0 7 (by decide) HO1
  have hopB := fun (B p N : Nat) (L : List Nat) (w : World) (h : Has B L w p N m3) (h1 : Tab w) (h2 : 0 < B) (h3 : N < 900000) => open_lit h h1 h2 h3 0 7 (by decide) HO2
  have HOA := Lib.hid hopA
  have HOB := Lib.hid hopB
  have heq := eq_hard 3 1
  clear hm0 hm1 hop1 hm3 hsv hop2 ht hopA hopB
  go_enter Tryz.func6, Tryz.ntmps6
  go_wp2_with fail
  refine (new_has (B := w.heap.size) 1000 (by omega) (Nat.le_refl _)).mono ?_
  rintro e w1 ⟨p, rfl, hD1, hp, hb1⟩
  rw [HM0.out] at hD1
  have ht1 := Tab.next HT.out hb1
  go_wp2_with fail
  refine (HOA.out _ _ _ _ _ hD1 ht1 hg (by omega)).mono ?_
  rintro e w2 ⟨t, b, L, v, A, cc, rfl, hS, hre, hk2, hlt, _⟩
  have hb2 := hb1.trans (hk2.below hD1.low)
  have hS1 := Lib.hid hS
  have hBb := hS.base
  have ht2 := Tab.next HT.out hb2
  unfold staV
  simp only [first, List.length_nil]
  have l3 : Below w2.heap.size w2 (w2.alloc (.cells #[.int .u64 0, .int .i64 (-1), .int .u64 0, .int .u64 0, .int .u64 7, .string ByteArray.empty, .slice A 0 cc] 45)) := (Below.refl _ _).alloc (Nat.le_refl _) _
  have c3 := heap_alloc_new w2 (.cells #[.int .u64 0, .int .i64 (-1), .int .u64 0, .int .u64 0, .int .u64 7, .string ByteArray.empty, .slice A 0 cc] 45)
  obtain ⟨w3, hw3⟩ : ∃ w3, w2.alloc (.cells #[.int .u64 0, .int .i64 (-1), .int .u64 0, .int .u64 0, .int .u64 7, .string ByteArray.empty, .slice A 0 cc] 45) = w3 := ⟨_, rfl⟩
  rw [hw3] at l3 c3
  have l4 : Below w3.heap.size w3 (w3.alloc (.cells #[.int .u64 3, .int .u64 1, .int .i64 0, .string ⟨#[]⟩] 83)) := (Below.refl _ _).alloc (Nat.le_refl _) _
  have c4 := heap_alloc_new w3 (.cells #[.int .u64 3, .int .u64 1, .int .i64 0, .string ⟨#[]⟩] 83)
  have hre4 : RE (w3.alloc (.cells #[.int .u64 3, .int .u64 1, .int .i64 0, .string ⟨#[]⟩] 83)) (w3.alloc (.cells #[.int .u64 3, .int .u64 1, .int .i64 0, .string ⟨#[]⟩] 83)).heap.size (some ⟨w3.heap.size, 0, none⟩) 1 [e1] := (Take.ent_new w3 e1 83).more (by simp)
  obtain ⟨w4, hw4⟩ : ∃ w4, w3.alloc (.cells #[.int .u64 3, .int .u64 1, .int .i64 0, .string ⟨#[]⟩] 83) = w4 := ⟨_, rfl⟩
  rw [hw4] at l4 c4 hre4
  have hA := (hS.beside l3 (Nat.le_refl _) (lt_at c3)).beside l4 (Nat.le_refl _) (lt_at c4)
  have hsvc := save_lit hA (Tab.next (Tab.next ht2 l3) l4) hg (by omega) (by decide) (by decide) 3 1 (by decide) (by decide) (by decide) (some ⟨w3.heap.size, 0, none⟩) 1 1 [e1] hre4 (fun _ ad e => by cases e; exact .inr (by simp)) (fun x hx => by simp only [List.mem_singleton] at hx; subst hx; exact e1_b) (by decide) (by decide) HSV
  have hs3 : w3.heap.size = w2.heap.size + 1 := by rw [← hw3]; simp
  rw [hs3] at hsvc
  have HSVC := Lib.hid hsvc
  have HW3 := Lib.hid hw3
  have HW4 := Lib.hid hw4
  have HC3 : Hid (w4.heap[w2.heap.size]? = _) := (l4.block w2.heap.size (lt_at c3)).trans c3
  have HB4 : Hid (Below w.heap.size w w4) := hb2.trans ((l3.trans (l4.mono l3.size)).mono hb2.size)
  clear hsvc hs3 hw3 hw4 c3 c4 l3 l4 hre4 hA hS hre hk2
  go_wp2_with fail
  rw [HW3.out, HW4.out]
  refine HSVC.out.mono ?_
  rintro e w5 ⟨rfl, ⟨L5, v5, hS5⟩, hk5⟩
  have HK5 := Lib.hid hk5
  have HS5 := Lib.hid hS5
  have hb5 : Below w.heap.size w w5 := HB4.out.trans (hk5.below HB4.out.size)
  have ht5 := Tab.next HT.out hb5
  have hcr := crash_has none 0 0 [] hS5.disk Reads.none_
  have HCR := Lib.hid hcr
  have hc35 := hk5.heap HC3.out (.inr (by simp))
  clear hcr hk5 hS5
  go_wp2_with fail
  refine HCR.out.mono ?_
  rintro e w6 ⟨p', rfl, hD6, _, hp6, hb6⟩
  rw [HM3.out] at hD6
  have hb6' := hb5.trans (hb6.mono hb5.size)
  have hc36 := (hb6.block w2.heap.size (lt_at hc35)).trans hc35
  go_wp2_with fail
  refine (HOB.out _ _ _ _ _ hD6 (Tab.next HT.out hb6') hg (by omega)).mono ?_
  rintro e w7 ⟨t7, b7, L7, v7, A7, cc7, rfl, hS7, hre7, hk7, hlt7, _⟩
  have hc37 := hk7.heap hc36 (.inr (HS5.out.sub _ (by simp)))
  have hb7 := hb6'.trans (hk7.below hD6.low)
  unfold staV
  simp only [List.length_cons, List.length_nil]
  have l8 : Below w7.heap.size w7 (w7.alloc (.cells #[.int .u64 3, .int .i64 1, .int .u64 0, .int .u64 0, .int .u64 7, .string ByteArray.empty, .slice A7 1 cc7] 45)) := (Below.refl _ _).alloc (Nat.le_refl _) _
  have d1 : w7.cell? ⟨w2.heap.size, 1, none⟩ = some (.int .i64 (-1)) := by rw [cell_at hc37]; rfl
  have hltd := lt_at hc37
  have hb8 := hb7.trans (l8.mono hb7.size)
  clear hD1 hD6 hS7 hre7 hk7 hc37 hc36 hc35 l8
  go_wp2
  go_ret
  exact ⟨rfl, hb8⟩
end Go.Proofs.YtamncdpeklbhlaaGreatDoor.Bgn
