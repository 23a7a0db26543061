/- The statement RaftElects of tontinelaw12: for every input the call returns true, and each argument reads afterwards as it read before. -/
import Derived.Test.YtokifeghoodkgaaGreatGTw
import Derived.Test.YtokifeghoodkgaaGreatGEf
import Derived.Test.YtokifeghoodkgaaGreatGEl
import Derived.Test.YtokifeghoodkgaaGreatGY
import Derived.Test.YtokifeghoodkgaaGreatGF
import Derived.Test.YtokifeghoodkgaaGreatGB
import Derived.Carry
import Derived.StillTailTactics
import Derived.Deep.CutRange
import Derived.Deep.CutBlock
set_option linter.unusedVariables false
namespace Go.Proofs.YtokifeghoodkgaaGreat.Elc
open Go.RowKit Go.Proofs.YtokifeghoodkgaaGreat.Kit Go.Proofs.YtokifeghoodkgaaGreat.Blocks Go.Proofs.YtokifeghoodkgaaGreat.Rlog Go.Proofs.YtokifeghoodkgaaGreat.Ents Go.Proofs.YtokifeghoodkgaaGreat.LogAt Go.Proofs.YtokifeghoodkgaaGreat.Nod Go.Proofs.YtokifeghoodkgaaGreat.NodAt Go.Proofs.YtokifeghoodkgaaGreat.WalkB Go.Proofs.YtokifeghoodkgaaGreat.WalkC Go.Proofs.YtokifeghoodkgaaGreat.WalkI Go.Proofs.YtokifeghoodkgaaGreat.WalkJ Go.Proofs.YtokifeghoodkgaaGreat.Town
open Go.Proofs.YtokifeghoodkgaaGreat.ElB (St Ext Agreed)
open Go.Proofs.YtokifeghoodkgaaGreat.ElG (LtOk Outs)
open Go.Proofs.YtokifeghoodkgaaGreat.ElA (snapC)

def entV (e : Ent) : Value := .agg #[.int .u64 (e.term : Int), .int .u64 (e.idx : Int), .int .i64 e.kind, .string e.data]
structure Stt (B r bl ba : Nat) (ps : Nat → Nat) (c0 N k A : Nat) (d : Dat) (s : St) (W : World) : Prop where
  town : Town B r bl ba ps d W
  sys : ElB.Sys c0 s d.ms (d.Z.map Prod.fst)
  hand : ∀ x ∈ d.Y, s.M x.1
  nb : ∀ a, a < 7 → NdB N (d.ms a)
  lts : ∀ x, x ∈ d.Z ∨ x ∈ d.Y → LtOk x.1
  outs : ∀ a, a < 7 → Outs (d.ms a)
  few : d.Z.length ≤ 30000
  lead : ∀ (t : Nat) v, d.gl (t : Int) = some v → ∃ l : Nat, v = .int .i64 (l : Int) ∧ s.ld t = some l
  agr : ∀ (i : Nat) v, d.ga (i : Int) = some v → ∃ e, v = entV e ∧ 0 < i ∧ Agreed s (i - 1) e
  nl : d.nl ≤ k
  na : d.na ≤ A
section
variable {B r bl ba : Nat} {ps : Nat → Nat} {c0 N k A : Nat} {d : Dat} {s : St} {W W' : World}
theorem Stt.below (h : Stt B r bl ba ps c0 N k A d s W) (hb : Below W.heap.size W W') : Stt B r bl ba ps c0 N k A d s W' :=
  ⟨h.town.below hb, h.sys, h.hand, h.nb, h.lts, h.outs, h.few, h.lead, h.agr, h.nl, h.na⟩
theorem Stt.mono (h : Stt B r bl ba ps c0 N k A d s W) {N' k' A' : Nat} (h1 : N ≤ N') (h2 : k ≤ k') (h3 : A ≤ A') : Stt B r bl ba ps c0 N' k' A' d s W :=
  ⟨h.town, h.sys, h.hand, fun a ha => (h.nb a ha).mono h1, h.lts, h.outs, h.few, h.lead, h.agr, Nat.le_trans h.nl h2, Nat.le_trans h.na h3⟩
/-- Somebody's call: what it leaves of all. -/
structure Went (B r bl ba : Nat) (ps : Nat → Nat) (c0 N k A : Nat) (d : Dat) (W : World) (W' : World) : Prop where
  ex : ∃ d' s', d'.vn = d.vn ∧ d'.Z = d.Z ∧ d'.Y = d.Y ∧ Stt B r bl ba ps c0 N k A d' s' W'
  since : Below B W W'
theorem Stt.call (h : Stt B r bl ba ps c0 N k A d s W) {a N' : Nat} (ha : a < 7) (hN : N ≤ N') {m' : Nd} (hst : ElB.Step c0 s (d.ms a) m') (hb : NdB N' m') (ho : Outs m') (c : LeftP B W (ps a) { d.zs a with X := Oth ps d.zs r bl ba d.vn a } m' W') : Went B r bl ba ps c0 N' k A d W W' := by
  obtain ⟨z1, ht, hbe⟩ := h.town.left ha c
  obtain ⟨s', hx, hs⟩ := h.sys.step ha hst
  have hinv := (h.sys.at_ 0 (by decide)).1.inv
  refine ⟨⟨{ d with zs := upd d.zs a z1, ms := upd d.ms a m' }, s', rfl, rfl, rfl, ht, hs, fun x hx' => hx.M _ (h.hand x hx'), fun b hb' => ?_, h.lts, fun b hb' => ?_, h.few, fun t v hv => ?_, fun i v hv => ?_, h.nl, h.na⟩, hbe⟩
  · show NdB N' (upd d.ms a m' b)
    by_cases e : b = a
    · subst e; rw [upd_eq]; exact hb
    · rw [upd_ne _ _ e]; exact (h.nb b hb').mono hN
  · show Outs (upd d.ms a m' b)
    by_cases e : b = a
    · subst e; rw [upd_eq]; exact ho
    · rw [upd_ne _ _ e]; exact h.outs b hb'
  · obtain ⟨l, h1, h2⟩ := h.lead t v hv
    exact ⟨l, h1, hx.ld _ _ h2⟩
  · obtain ⟨e, h1, h2, h3⟩ := h.agr i v hv
    exact ⟨e, h1, h2, Agreed.mono hx hinv h3⟩
theorem Stt.timeout (h : Stt B r bl ba ps c0 N k A d s W) {a : Nat} (ha : a < 7) (hN : N ≤ 700000000) :
    Calls Tryz.prog 21 #[.pointer (some ⟨ps a, 0, none⟩)] W fun e W' => e = .returned (.tuple #[]) ∧ Went B r bl ba ps c0 (N + 23) k A d W W' := by
  have hb := h.nb a ha
  have hat := (h.sys.at_ a ha).1
  refine (WalkH.timeout_any (h.town.open_ ha) hb hN).mono ?_
  rintro e W' ⟨rfl, hl⟩
  exact ⟨rfl, h.call ha (by omega) (ElB.step_timeout hat hb.term) ((timeout_b hb (by omega)).mono (by omega)) (ElG.timeout_ok hb hN (h.outs a ha)) hl⟩
theorem Stt.beat (h : Stt B r bl ba ps c0 N k A d s W) {a : Nat} (ha : a < 7) (hN : N ≤ 700000000) :
    Calls Tryz.prog 26 #[.pointer (some ⟨ps a, 0, none⟩)] W fun e W' => e = .returned (.tuple #[]) ∧ Went B r bl ba ps c0 (N + 23) k A d W W' := by
  have hb := h.nb a ha
  have hat := (h.sys.at_ a ha).1
  refine (WalkC.beat_any (h.town.open_ ha) hb (by omega)).mono ?_
  rintro e W' ⟨rfl, hl⟩
  exact ⟨rfl, h.call ha (by omega) (ElB.step_beat hat) ((beat_b hb).mono (by omega)) (ElG.beat_ok hb (by omega) (h.outs a ha)) hl⟩
theorem Stt.propose (h : Stt B r bl ba ps c0 N k A d s W) {a : Nat} (ha : a < 7) (hN : N ≤ 700000000) (t : ByteArray) (ht : t.size ≤ 9223372036854775807) :
    Calls Tryz.prog 22 #[.pointer (some ⟨ps a, 0, none⟩), .string t] W fun e W' => (∃ v, e = .returned v) ∧ Went B r bl ba ps c0 (N + 23) k A d W W' := by
  have hb := h.nb a ha
  have hat := (h.sys.at_ a ha).1
  refine (WalkH.propose_any (h.town.open_ ha) hb (by omega) t ht).mono ?_
  rintro e W' ⟨rfl, hl⟩
  exact ⟨⟨_, rfl⟩, h.call ha (by omega) (ElB.step_propose hat hb.term t ht) ((propose_b hb (by omega) t ht).mono (by omega)) (ElG.propose_ok hb (by omega) (h.outs a ha) t ht) hl⟩
theorem Stt.change (h : Stt B r bl ba ps c0 N k A d s W) {a : Nat} (ha : a < 7) (hN : N ≤ 700000000) (ad : Bool) (i : Int) (hi0 : -9223372036854775808 ≤ i) (hi1 : i ≤ 9223372036854775807) :
    Calls Tryz.prog 23 #[.pointer (some ⟨ps a, 0, none⟩), .bool ad, .int .i64 i] W fun e W' => (∃ v, e = .returned v) ∧ Went B r bl ba ps c0 (N + 23) k A d W W' := by
  have hb := h.nb a ha
  have hat := (h.sys.at_ a ha).1
  refine (change_any (h.town.open_ ha) hb (by omega) ad i hi0 hi1).mono ?_
  rintro e W' ⟨rfl, hl⟩
  exact ⟨⟨_, rfl⟩, h.call ha (by omega) (ElB.step_changes hat hb.term ad i) ((changes_b hb (by omega) ad i).mono (by omega)) (ElG.changes_ok hb (by omega) (h.outs a ha) ad i) hl⟩
theorem Stt.receive (h : Stt B r bl ba ps c0 N k A d s W) {a : Nat} (ha : a < 7) (hN : N ≤ 700000000) {x : Msg} {pl : Pl} (hx : (x, pl) ∈ d.Y) :
    Calls Tryz.prog 20 #[.pointer (some ⟨ps a, 0, none⟩), ltV x pl] W fun e W' => e = .returned (.tuple #[]) ∧ Went B r bl ba ps c0 (N + 23) k A d W W' := by
  have hb := h.nb a ha
  have hat := (h.sys.at_ a ha).1
  have hl := h.lts (x, pl) (.inr hx)
  have hf := h.town.fit (x, pl) (.inr hx)
  have h8 : x.es.length ≤ 8 := hl.few
  have hlb : MsgB x := hl.b
  refine (WalkO.receive_any (h.town.open_ ha) hb hN x pl hlb (hf.less fun q hq => .inl ⟨a, ha, hq⟩) (by omega)).mono ?_
  rintro e W' ⟨rfl, hlp⟩
  exact ⟨rfl, h.call ha (by omega) (ElB.step_receive hat (h.hand (x, pl) hx) hb.term hlb) ((receive_b hb (by omega) hlb).mono (by omega)) (ElG.receive_ok hb hN (h.outs a ha) hlb) hlp⟩
/-- Take. -/
theorem Stt.take (h : Stt B r bl ba ps c0 N k A d s W) {a : Nat} (ha : a < 7) :
    Calls Tryz.prog 24 #[.pointer (some ⟨ps a, 0, none⟩)] W fun e W' => e = .returned (ReadyV (d.zs a) (d.ms a)) ∧ Below B W W' ∧
      ∃ d', d'.vn = d.vn ∧ d'.Z = d.Z ∧ d'.Y = (d.zs a).Z ∧ Stt B r bl ba ps c0 N k A d' s W' ∧ Hand B (Law ps d'.zs r bl ba d.vn) W' (d.zs a).vo (d.zs a).Z := by
  have hat := (h.sys.at_ a ha).1
  have hsaid := (h.town.sev.nd a ha).said
  refine (take_any (h.town.sev.nd a ha)).mono ?_
  rintro e W' ⟨rfl, hk, ho⟩
  obtain ⟨t1, t2, t3⟩ := h.town.took ha hk ho
  have hst : ElB.Step c0 s (d.ms a) (taken (d.ms a)) := ⟨s, Ext.refl s, ⟨hat.inv, hat.nd, hat.id, hat.snap, hat.fine, hat.nl, hat.ml, fun x hx => by cases hx⟩, rfl, fun _ _ => rfl⟩
  have hsys : ElB.Sys c0 s (upd d.ms a (taken (d.ms a))) (d.Z.map Prod.fst) := by
    refine ⟨fun b hb => ?_, h.sys.net⟩
    by_cases e : b = a
    · subst e
      rw [upd_eq]
      exact ⟨⟨hat.inv, hat.nd, hat.id, hat.snap, hat.fine, hat.nl, hat.ml, fun x hx => by cases hx⟩, (h.sys.at_ b hb).2⟩
    · rw [upd_ne _ _ e]; exact h.sys.at_ b hb
  have hZM : ∀ x ∈ (d.zs a).Z, x.1 ∈ (d.ms a).out := fun x hx => by rw [← hsaid]; exact List.mem_map_of_mem hx
  refine ⟨rfl, t3, { d with zs := upd d.zs a (bare (d.zs a)), ms := upd d.ms a (taken (d.ms a)), Y := (d.zs a).Z }, rfl, rfl, rfl, ⟨t1, hsys, fun x hx => hat.out _ (hZM x hx), fun b hb => ?_, fun x hx => ?_, fun b hb => ?_, h.few, h.lead, h.agr, h.nl, h.na⟩, t2⟩
  · show NdB N (upd d.ms a _ b)
    by_cases e : b = a
    · subst e; rw [upd_eq]; exact taken_b (h.nb b hb)
    · rw [upd_ne _ _ e]; exact h.nb b hb
  · rcases hx with hx | hx
    · exact h.lts x (.inl hx)
    · exact h.outs a ha _ (hZM x hx)
  · show Outs (upd d.ms a _ b)
    by_cases e : b = a
    · subst e; rw [upd_eq]; intro x hx; cases hx
    · rw [upd_ne _ _ e]; exact h.outs b hb
theorem mem_join {α : Type} {x : α} {a b : List α} (h : x ∈ a ++ b ∨ x ∈ ([] : List α)) : x ∈ a ∨ x ∈ b := by
  rcases h with h | h
  · exact List.mem_append.1 h
  · cases h
theorem mem_none {α : Type} {x : α} {a : List α} (h : x ∈ a ∨ x ∈ ([] : List α)) : x ∈ a := by
  rcases h with h | h
  · exact h
  · cases h
/-- The letters, those in hand behind them. -/
theorem Stt.joined (h : Stt B r bl ba ps c0 N k A d s W) {v' : Value} (o : Only (fun q => d.vn.ownBlock = some q) W W') (hn : Net B W' v' (d.Z ++ d.Y)) (hat : ∀ q, v'.ownBlock = some q → d.vn.ownBlock = some q ∨ W.heap.size ≤ q) (hl : (d.Z ++ d.Y).length ≤ 30000) :
    Stt B r bl ba ps c0 N k A { d with vn := v', Z := d.Z ++ d.Y, Y := [] } s W' :=
  ⟨h.town.renet o hn hat (fun x hx => h.town.fit x (mem_join hx)), ⟨h.sys.at_, fun x hx => by
    rw [List.map_append] at hx
    rcases List.mem_append.1 hx with hx | hx
    · exact h.sys.net x hx
    · obtain ⟨y, hy, rfl⟩ := List.mem_map.1 hx
      exact h.hand y hy⟩, fun x hx => (by cases hx), h.nb, fun x hx => h.lts x (mem_join hx), h.outs, hl, h.lead, h.agr, h.nl, h.na⟩
/-- One of the letters comes in hand, and may be gone from the others. -/
theorem Stt.picked (h : Stt B r bl ba ps c0 N k A d s W) {v' : Value} {Z' : List (Msg × Pl)} {y : Msg × Pl} (o : Only (fun q => d.vn.ownBlock = some q) W W') (hn : Net B W' v' Z') (hat : ∀ q, v'.ownBlock = some q → d.vn.ownBlock = some q ∨ W.heap.size ≤ q)
    (hy : y ∈ d.Z) (hs : ∀ x ∈ Z', x ∈ d.Z) (hl : Z'.length ≤ 30000) : Stt B r bl ba ps c0 N k A { d with vn := v', Z := Z', Y := [y] } s W' := by
  have hin : ∀ x, x ∈ Z' ∨ x ∈ [y] → x ∈ d.Z := fun x hx => by
    rcases hx with hx | hx
    · exact hs x hx
    · rw [List.mem_singleton.1 hx]; exact hy
  have hM : ∀ x ∈ d.Z, s.M x.1 := fun x hx => h.sys.net _ (List.mem_map_of_mem hx)
  exact ⟨h.town.renet o hn hat (fun x hx => h.town.fit x (.inl (hin x hx))), ⟨h.sys.at_, fun x hx => by
    obtain ⟨z, hz, rfl⟩ := List.mem_map.1 hx
    exact hM z (hs z hz)⟩, fun x hx => hM x (hin x (.inr hx)), h.nb, fun x hx => h.lts x (.inl (hin x hx)), h.outs, hl, h.lead, h.agr, h.nl, h.na⟩
/-- Nothing is in hand. -/
theorem Stt.dropped (h : Stt B r bl ba ps c0 N k A d s W) : Stt B r bl ba ps c0 N k A { d with Y := [] } s W :=
  ⟨h.town.renet (v' := d.vn) (Z' := d.Z) (Y' := []) (Only.refl _ W) h.town.net (fun q hq => .inl hq) (fun x hx => h.town.fit x (.inl (mem_none hx))), h.sys, fun x hx => (by cases hx), h.nb, fun x hx => h.lts x (.inl (mem_none hx)), h.outs, h.few, h.lead, h.agr, h.nl, h.na⟩
/-- Who leads is noted. -/
theorem Stt.noted (h : Stt B r bl ba ps c0 N k A d s W) {a : Nat} (ha : a < 7) (hr : (d.ms a).role = 2) {nl' : Nat} (o : Only (fun q => q = bl) W W')
    (hm : KeysU.MapAt Tryz.prog 22 W' bl nl' (fun j => if j = ((d.ms a).term : Int) then some (.int .i64 (a : Int)) else d.gl j)) (hk : nl' ≤ k) :
    Stt B r bl ba ps c0 N k A { d with nl := nl', gl := fun j => if j = ((d.ms a).term : Int) then some (.int .i64 (a : Int)) else d.gl j } s W' := by
  refine ⟨h.town.relead o hm, h.sys, h.hand, h.nb, h.lts, h.outs, h.few, fun t v hv => ?_, h.agr, hk, h.na⟩
  have hv : (if (t : Int) = ((d.ms a).term : Int) then some (Value.int .i64 (a : Int)) else d.gl (t : Int)) = some v := hv
  by_cases e : (t : Int) = ((d.ms a).term : Int)
  · rw [if_pos e] at hv
    cases hv
    have ht : t = (d.ms a).term := by omega
    obtain ⟨h1, h2⟩ := h.sys.at_ a ha
    have := h1.leader hr
    rw [h2] at this
    exact ⟨a, rfl, by rw [ht]; exact this⟩
  · rw [if_neg e] at hv
    exact h.lead t v hv
/-- What is agreed upon is noted. -/
theorem Stt.agreed (h : Stt B r bl ba ps c0 N k A d s W) {i : Nat} {e : Ent} (he : Agreed s i e) {na' A' : Nat} (o : Only (fun q => q = ba) W W') {I : Int} (hI : I = ((i + 1 : Nat) : Int))
    (hm : KeysU.MapAt Tryz.prog 22 W' ba na' (fun j => if j = I then some (entV e) else d.ga j)) (hA : na' ≤ A') :
    Stt B r bl ba ps c0 N k A' { d with na := na', ga := fun j => if j = I then some (entV e) else d.ga j } s W' := by
  refine ⟨h.town.reagree o hm, h.sys, h.hand, h.nb, h.lts, h.outs, h.few, h.lead, fun t v hv => ?_, h.nl, hA⟩
  have hv : (if (t : Int) = I then some (entV e) else d.ga (t : Int)) = some v := hv
  by_cases e2 : (t : Int) = I
  · rw [if_pos e2] at hv
    cases hv
    have ht : t = i + 1 := by omega
    subst ht
    exact ⟨e, rfl, Nat.succ_pos _, he⟩
  · rw [if_neg e2] at hv
    exact h.agr t v hv
/-- A leader's term was nobody else's. -/
theorem Stt.only (h : Stt B r bl ba ps c0 N k A d s W) {a : Nat} (ha : a < 7) (hr : (d.ms a).role = 2) {v : Value} (hv : d.gl ((d.ms a).term : Int) = some v) : v = .int .i64 (a : Int) := by
  obtain ⟨l, h1, h2⟩ := h.lead _ _ hv
  obtain ⟨k1, k2⟩ := h.sys.at_ a ha
  have := k1.leader hr
  rw [h2, k2] at this
  cases this
  exact h1
/-- What a node has committed is agreed upon. -/
theorem Stt.has (h : Stt B r bl ba ps c0 N k A d s W) {a i : Nat} (ha : a < 7) (hi : i < (d.ms a).commit) : ∃ e, Rlog.get (d.ms a).g (i + 1) 1 = [e] ∧ Agreed s i e ∧ ∀ v, d.ga ((i + 1 : Nat) : Int) = some v → v = entV e := by
  obtain ⟨k1, _⟩ := h.sys.at_ a ha
  obtain ⟨e, h1, h2, h3⟩ := k1.agreed hi
  refine ⟨e, h3, h2, fun v hv => ?_⟩
  obtain ⟨f, f1, f2, f3⟩ := h.agr _ _ hv
  have : f = e := Agreed.same k1.inv f3 h2
  rw [f1, this]
end
end Go.Proofs.YtokifeghoodkgaaGreat.Elc
set_option linter.unusedVariables false
namespace Go.Proofs.YtokifeghoodkgaaGreat.LawE
open Go.RowKit Go.Proofs.YtokifeghoodkgaaGreat.Kit Go.Proofs.YtokifeghoodkgaaGreat.Blocks Go.Proofs.YtokifeghoodkgaaGreat.Rlog Go.Proofs.YtokifeghoodkgaaGreat.Ents Go.Proofs.YtokifeghoodkgaaGreat.LogAt Go.Proofs.YtokifeghoodkgaaGreat.Nod Go.Proofs.YtokifeghoodkgaaGreat.NodAt Go.Proofs.YtokifeghoodkgaaGreat.AppL Go.Proofs.YtokifeghoodkgaaGreat.AppG Go.Proofs.YtokifeghoodkgaaGreat.WalkB Go.Proofs.YtokifeghoodkgaaGreat.WalkI Go.Proofs.YtokifeghoodkgaaGreat.WalkJ Go.Proofs.YtokifeghoodkgaaGreat.Town Go.Proofs.YtokifeghoodkgaaGreat.Elc Go.Proofs.YtokifeghoodkgaaGreat.Trip
open Go.Proofs.YtokifeghoodkgaaGreat.ElA (snapC)
open Go.Proofs.YtokifeghoodkgaaGreat.Quorum (sound)

/-- A number's place among m. -/
theorem among (z m : Int) (hm : 0 < m) (hb : m ≤ 100000) : ∃ a : Nat, (a : Int) < m ∧ (wrap64 (z.tmod m + m)).tmod m = (a : Int) := by
  have h1 := Int.lt_tmod_of_pos z hm
  have h2 := Int.tmod_lt_of_pos z hm
  have h3 : wrap64 (z.tmod m + m) = z.tmod m + m := by unfold wrap64; omega
  have h4 : (z.tmod m + m).tmod m = (z.tmod m + m) % m := Int.tmod_eq_emod_of_nonneg (by omega)
  have h5 := Int.emod_nonneg (z.tmod m + m) (show m ≠ 0 by omega)
  have h6 := Int.emod_lt_of_pos (z.tmod m + m) hm
  refine ⟨((z.tmod m + m) % m).toNat, by omega, ?_⟩
  rw [h3, h4]
  omega
abbrev gC (C : Nat) : G := ⟨snapC C, []⟩
abbrev mC (C : Nat) (a : Nat) : Nd := newNd a 0 (-1) (gC C)
theorem among2 (z : Int) : ∃ a : Nat, (a : Int) < 7 ∧ (IntKind.i64.wrap (z.tmod 7 + 7)).tmod 7 = (a : Int) := by
  have h1 := Int.lt_tmod_of_pos z (show (0 : Int) < 7 by decide)
  have h2 := Int.tmod_lt_of_pos z (show (0 : Int) < 7 by decide)
  have h3 : IntKind.i64.wrap (z.tmod 7 + 7) = z.tmod 7 + 7 := by unfold IntKind.wrap; simp [IntKind.signed, IntKind.bits]; omega
  have h4 : (z.tmod 7 + 7).tmod 7 = (z.tmod 7 + 7) % 7 := Int.tmod_eq_emod_of_nonneg (by omega)
  refine ⟨((z.tmod 7 + 7) % 7).toNat, by omega, ?_⟩
  rw [h3, h4]
  omega
/-- Two bytes, made a text. -/
def twoB (a b : Int) : ByteArray := ⟨#[UInt8.ofNat a.toNat, UInt8.ofNat b.toNat]⟩
theorem conv_two (W : World) (a b : Int) (ha : 0 ≤ a ∧ a < 256) (hb : 0 ≤ b ∧ b < 256) : (convert 79 9 (.slice (some ⟨W.heap.size, 0, none⟩) 2 2)).run Tryz.prog (W.alloc (.cells #[.int .u8 a, .int .u8 b] 5)).drew = .ok (.string (twoB a b)) (W.alloc (.cells #[.int .u8 a, .int .u8 b] 5)).drew := by
  refine run_string (P := Tryz.prog) 79 5 9 Tryz.underlying79 Tryz.underlying5 Tryz.underlying9 _ (W.heap.size + 1) _ 2 2 [UInt8.ofNat a.toNat, UInt8.ofNat b.toNat] ⟨rfl, fun _ => ⟨_, rfl, Nat.lt_succ_self _, fun j u hj => ?_⟩⟩
  have hn : (W.alloc (.cells #[.int .u8 a, .int .u8 b] 5)).drew.heap[W.heap.size]? = _ := heap_alloc_new W (.cells #[.int .u8 a, .int .u8 b] 5)
  have hj2 : j < 2 := by
    have := (List.getElem?_eq_some_iff.1 hj).1
    simpa [vals] using this
  have ea : (((UInt8.ofNat a.toNat).toNat : Nat) : Int) = a := by simp; omega
  have eb : (((UInt8.ofNat b.toNat).toNat : Nat) : Int) = b := by simp; omega
  have hj3 : j = 0 ∨ j = 1 := by omega
  rcases hj3 with rfl | rfl
  · rw [Kit.add_zero, cell_at hn, ← hj]
    simp only [vals, List.map_cons, List.getElem?_cons_zero, ea]
    rfl
  · rw [Addr.add_lit, cell_at hn, ← hj]
    simp only [vals, List.map_cons, List.getElem?_cons_succ, List.getElem?_cons_zero, eb]
    rfl
theorem u8_b (x : Int) : 0 ≤ IntKind.u8.wrap x ∧ IntKind.u8.wrap x < 256 := by
  unfold IntKind.wrap
  simp [IntKind.signed, IntKind.bits]
  omega
theorem fineC {C : Nat} (hc : sound C = true) : Fine (gC C) := fine_new hc rfl ⟨by show 0 < _; decide, by show 0 < _; decide, by
  have : 0 < C ∧ C < 128 := of_decide_eq_true hc
  show C < _
  omega⟩ (fun e h => by cases h)
/-- The first k nodes are made. -/
structure Beg (w1 : World) (C r k : Nat) (W : World) : Prop where
  ex : ∃ ps zs, Sev w1.heap.size r k ps zs (mC C) W ∧ ∀ a, a < k → (zs a).Z = []
  since : Below w1.heap.size w1 W
theorem succ_wrap {i L : Nat} (h : i + 1 = L) (hb : L ≤ 30000) : IntKind.i64.wrap ((i : Int) + 1) = (L : Int) ∧ wrap64 ((i : Int) + 1) = (L : Int) := by
  subst h
  refine ⟨?_, ?_⟩
  · unfold IntKind.wrap
    simp [IntKind.signed, IntKind.bits]
    omega
  · unfold wrap64
    omega
theorem pick_big {i J L : Nat} (h : i < L) (hb : L ≤ 30000) : (i + (L - J)) * 104 ≤ 140737488355328 := by omega
theorem lcs_at : ∀ (Z : List (Msg × Pl)) (k j : Nat) (y : Msg × Pl), Z[k]? = some y → j < 10 → (lcs Z)[k * 10 + j]? = (ltCs y.1 y.2)[j]? := by
  intro Z
  induction Z with
  | nil => intro k j y h _; simp at h
  | cons z Z ih =>
    intro k j y h hj
    rw [lcs_cons]
    cases k with
    | zero =>
      simp at h
      subst h
      rw [List.getElem?_append_left (by show 0 * 10 + j < 10; omega), Nat.zero_mul, Nat.zero_add]
    | succ k =>
      rw [List.getElem?_append_right (by show 10 ≤ _; omega)]
      show (lcs Z)[(k + 1) * 10 + j - 10]? = _
      rw [show (k + 1) * 10 + j - 10 = k * 10 + j by omega]
      exact ih k j y (by simpa using h) hj
/-- The cells of one of the letters. -/
theorem lt_cells {W : World} {g n : Nat} {Z : List (Msg × Pl)} (h : RL W W.heap.size (some ⟨g, 0, none⟩) n Z) {k : Nat} {y : Msg × Pl} (hn : 0 < n) (hk : Z[k]? = some y) : ∀ j u, (ltCs y.1 y.2)[j]? = some u → W.cell? ⟨g, k * 10 + j, none⟩ = some u := fun j u hj => by
  obtain ⟨ad, e, _, hc⟩ := h.2 hn
  cases e
  have hj10 : j < 10 := (List.getElem?_eq_some_iff.1 hj).1
  have := hc (k * 10 + j) u (by rw [lcs_at Z k j y hk hj10]; exact hj)
  rwa [Addr.add_lit, Nat.zero_add] at this
theorem new_gC {C : Nat} (hc : sound C = true) (w : World) : Calls Tryz.prog 10 #[.agg #[.int .u64 0, .int .u64 0, .int .u64 (C : Int), .string ⟨#[]⟩], .slice none 0 0] w (RlgWalkD.NewLog 89 w (gC C)) :=
  RlgWalkD.new_made (s := snapC C) ⟨by show 0 < _; decide, by show 0 < _; decide, by
    have : 0 < C ∧ C < 128 := of_decide_eq_true hc
    show C < _
    omega⟩ none 0 0 [] w (RE.nil _ _ _) (by simp) (by omega) hc rfl
theorem new_nC {C B q : Nat} {v : Value} {w : World} (hc : sound C = true) (h : LogAt 89 B w q v (gC C)) {k : Nat} (hk : k < 7) : Calls Tryz.prog 12 #[.int .i64 (k : Int), .agg #[.int .u64 0, .int .i64 (-1)], .pointer (some ⟨q, 0, none⟩)] w fun e w' =>
    ∃ p z, e = .returned (.tuple #[.pointer (some ⟨p, 0, none⟩), .int .i64 0]) ∧ PAt B w' p z (mC C k) ∧ z.Z = [] ∧ Below w.heap.size w w' := by
  have := WalkJ.new_any h (fineC hc) (k : Int) 0 (-1)
  refine this.mono fun e w' h2 => ?_
  have hn : Quorum.node (k : Int) = true := by unfold Quorum.node; exact decide_eq_true (by omega)
  rw [if_pos (by rw [hn]; rfl)] at h2
  obtain ⟨p, h3, _, h4, h5⟩ := h2
  exact ⟨p, _, h3, h4, rfl, h5⟩
/-- Behind k steps. -/
structure Run7 (w1 : World) (C r bl ba : Nat) (ps : Nat → Nat) (k : Nat) (v : Value) (W : World) : Prop where
  ex : ∃ d s, d.vn = v ∧ Stt w1.heap.size r bl ba ps C (50 * k) k (20000 * k) d s W
  since : Below w1.heap.size w1 W
/-- Within the next one: the call is done. -/
structure Mid7 (w1 : World) (C r bl ba : Nat) (ps : Nat → Nat) (k : Nat) (v i : Value) (W : World) : Prop where
  ex : ∃ (d : Dat) (s : ElB.St) (a : Nat), d.vn = v ∧ a < 7 ∧ i = .int .i64 (a : Int) ∧ Stt w1.heap.size r bl ba ps C (50 * k + 23) k (20000 * k) d s W
  since : Below w1.heap.size w1 W
theorem Mid7.of {w1 W W' : World} {C r bl ba k : Nat} {ps : Nat → Nat} {d : Dat} (h : Went w1.heap.size r bl ba ps C (50 * k + 23) k (20000 * k) d W W') (hs : Below w1.heap.size w1 W) {a : Nat} (ha : a < 7) : Mid7 w1 C r bl ba ps k d.vn (.int .i64 (a : Int)) W' := by
  obtain ⟨d', s', h1, h2, h3, h4⟩ := h.ex
  exact ⟨⟨d', s', a, h1, ha, rfl, h4⟩, hs.trans h.since⟩
theorem Mid7.still {w1 W : World} {C r bl ba k : Nat} {ps : Nat → Nat} {d : Dat} {s : ElB.St} (h : Stt w1.heap.size r bl ba ps C (50 * k) k (20000 * k) d s W) (hs : Below w1.heap.size w1 W) {a : Nat} (ha : a < 7) : Mid7 w1 C r bl ba ps k d.vn (.int .i64 (a : Int)) W :=
  ⟨⟨d, s, a, rfl, ha, rfl, h.mono (by omega) (Nat.le_refl _) (Nat.le_refl _)⟩, hs⟩
theorem went_cell {w1 W W' : World} {C r bl ba N k A : Nat} {ps : Nat → Nat} {d : Dat} (h : Went w1.heap.size r bl ba ps C N k A d W W') {a : Nat} (ha : a < 7) : W'.cell? ⟨r, a, none⟩ = some (.pointer (some ⟨ps a, 0, none⟩)) := by
  obtain ⟨d', s', _, _, _, h4⟩ := h.ex
  exact h4.town.sev.cell ha
/-- A letter is in hand. -/
structure Pick7 (w1 : World) (C r bl ba : Nat) (ps : Nat → Nat) (k : Nat) (y : Msg × Pl) (w3 : World) (v : Value) (W : World) : Prop where
  ex : ∃ (d : Dat) (s : ElB.St), d.vn = v ∧ y ∈ d.Y ∧ Stt w1.heap.size r bl ba ps C (50 * k) k (20000 * k) d s W
  since : Below w3.heap.size w3 W
theorem take_cells {Z : List (Msg × Pl)} {i : Nat} : ∀ (j : Nat) (u : Value), (lcs (Z.take i))[j]? = some u → (lcs Z)[j]? = some u := fun j u hj => by
  have e : lcs Z = lcs (Z.take i) ++ lcs (Z.drop i) := by rw [← lcs_append, List.take_append_drop]
  rw [e, List.getElem?_append_left (List.getElem?_eq_some_iff.1 hj).1]
  exact hj
theorem drop_cells {Z : List (Msg × Pl)} {i : Nat} (hi : i ≤ Z.length) : ∀ (j : Nat) (u : Value), (lcs (Z.drop i))[j]? = some u → (lcs Z)[i * 10 + j]? = some u := fun j u hj => by
  have e : lcs Z = lcs (Z.take i) ++ lcs (Z.drop i) := by rw [← lcs_append, List.take_append_drop]
  have hl : (lcs (Z.take i)).length = i * 10 := by rw [lcs_length, List.length_take, Nat.min_eq_left hi]
  rw [e, List.getElem?_append_right (by omega), hl, Nat.add_sub_cancel_left]
  exact hj
/-- One of the letters is gone from the others: what an append made. -/
theorem pick_grow {w1 w3 w4 : World} {C r bl ba k i J : Nat} {ps : Nat → Nat} {d : Dat} {s : ElB.St} {y : Msg × Pl} {v' : Value} (h : Stt w1.heap.size r bl ba ps C (50 * k) k (20000 * k) d s w3) (hy : d.Z[i]? = some y) (hJ : i + 1 = J) (hJL : J ≤ d.Z.length)
    (ho : w4.ownsRow w3.drew.heap.size 47 10 v' (i + (d.Z.length - J)) (lcs (d.Z.take i) ++ lcs (d.Z.drop J))) (hg : w3.drew.grownBy w4 none) : Pick7 w1 C r bl ba ps k y w3 v' w4 := by
  have hb : Below w3.heap.size w3 w4 := (Below.refl _ w3).drew.grown hg (Nat.le_refl _) (fun g e => by cases e)
  have hlen : (d.Z.take i ++ d.Z.drop J).length = i + (d.Z.length - J) := by rw [List.length_append, List.length_take, List.length_drop, Nat.min_eq_left (by omega)]
  have hfew := h.few
  have hm : ∀ x ∈ d.Z.take i ++ d.Z.drop J, x ∈ d.Z := fun x hx => by
    rcases List.mem_append.1 hx with hx | hx
    · exact List.mem_of_mem_take hx
    · exact List.mem_of_mem_drop hx
  refine ⟨⟨{ d with vn := v', Z := d.Z.take i ++ d.Z.drop J, Y := [y] }, s, rfl, List.mem_singleton.2 rfl, h.picked (y := y) (Only.of_below hb) (.inl ?_) (fun q hq => .inr (ho.lt q hq).1) (List.mem_of_getElem? hy) hm (by rw [hlen]; omega)⟩, hb⟩
  rw [lcs_append, hlen]
  exact own_base ho h.town.base
theorem pick_last {w1 w3 : World} {C r bl ba k i g c : Nat} {ps : Nat → Nat} {d : Dat} {s : ElB.St} {y : Msg × Pl} (h : Stt w1.heap.size r bl ba ps C (50 * k) k (20000 * k) d s w3) (hy : d.Z[i]? = some y) (hJ : i + 1 = d.Z.length) (hv : d.vn = .slice (some ⟨g, 0, none⟩) (i + 1) c)
    (hg : ∀ (j : Nat) (u : Value), (lcs d.Z)[j]? = some u → w3.cell? ⟨g, j, none⟩ = some u) : Pick7 w1 C r bl ba ps k y w3 (.slice (some ⟨g, 0, none⟩) i i) w3.drew := by
  have hb : Below w3.heap.size w3 w3.drew := (Below.refl _ w3).drew
  have hfew := h.few
  have hlt := h.town.net.lt (q := g) (by rw [hv]; rfl)
  have hlen : (d.Z.take i).length = i := by rw [List.length_take]; omega
  refine ⟨⟨{ d with vn := .slice (some ⟨g, 0, none⟩) i i, Z := d.Z.take i, Y := [y] }, s, rfl, List.mem_singleton.2 rfl, h.picked (y := y) (Only.of_below hb) (.inr ⟨g, by rw [hlen], hlt.1, hlt.2, fun j u hj => hg j u (take_cells j u hj), by unfold maxLen; omega⟩) (fun q hq => .inl (by cases hq; rw [hv]; rfl)) (List.mem_of_getElem? hy) (fun x hx => List.mem_of_mem_take hx) (by rw [hlen]; omega)⟩, hb⟩
/-- What a node gathered is under way. -/
structure Bot7 (w1 : World) (C r bl ba : Nat) (ps : Nat → Nat) (k : Nat) (v : Value) (W : World) : Prop where
  ex : ∃ (d : Dat) (s : ElB.St), d.vn = v ∧ Stt w1.heap.size r bl ba ps C (50 * k + 23) k (20000 * k) d s W
  since : Below w1.heap.size w1 W
theorem bot_join {w1 W W' : World} {C r bl ba k : Nat} {ps : Nat → Nat} {d : Dat} {s : ElB.St} {v v' : Value} {Y : List (Msg × Pl)} (h : Stt w1.heap.size r bl ba ps C (50 * k + 23) k (20000 * k) d s W) (hs : Below w1.heap.size w1 W) (hv : d.vn = v) (hY : d.Y = Y)
    (hl : (d.Z ++ Y).length ≤ 30000) (hn : Net w1.heap.size W' v' (d.Z ++ Y)) (o : Only (fun q => v.ownBlock = some q) W W') (hat : ∀ q, v'.ownBlock = some q → v.ownBlock = some q ∨ W.heap.size ≤ q) : Bot7 w1 C r bl ba ps k v' W' := by
  subst hv hY
  exact ⟨⟨_, s, rfl, h.joined o hn hat hl⟩, hs.trans (o.below h.town.base fun q hq => (h.town.net.lt hq).1)⟩
/-- Who leads is noted; j of what the node has committed are held against what was agreed upon. -/
structure In7 (w1 : World) (C r bl ba : Nat) (ps : Nat → Nat) (k j : Nat) (v : Value) (ms : Nat → Nd) (W : World) : Prop where
  ex : ∃ (d : Dat) (s : ElB.St), d.vn = v ∧ d.ms = ms ∧ Stt w1.heap.size r bl ba ps C (50 * k + 23) (k + 1) (20000 * k + j) d s W
  since : Below w1.heap.size w1 W
theorem led_new {w1 W W' : World} {C r bl ba k : Nat} {ps : Nat → Nat} {d : Dat} {s : ElB.St} (h : Stt w1.heap.size r bl ba ps C (50 * k + 23) k (20000 * k) d s W) (hs : Below w1.heap.size w1 W) {a : Nat} (ha : a < 7) (hr : (d.ms a).role = 2)
    (hm : KeysU.MapAt Tryz.prog 22 W' bl (d.nl + 1) (fun j => if j = ((d.ms a).term : Int) then some (.int .i64 (a : Int)) else d.gl j)) (o : Only (fun q => q = bl) W W') : In7 w1 C r bl ba ps k 0 d.vn d.ms W' := by
  have hnl := h.nl
  exact ⟨⟨{ d with nl := d.nl + 1, gl := fun j => if j = ((d.ms a).term : Int) then some (.int .i64 (a : Int)) else d.gl j }, s, rfl, rfl, (h.mono (Nat.le_refl _) (Nat.le_succ k) (Nat.le_refl _)).noted ha hr o hm (by omega)⟩, hs.trans (o.below h.town.base fun q hq => by subst hq; exact h.town.b1)⟩
theorem agree_more {w1 W W' : World} {C r bl ba k j : Nat} {ps : Nat → Nat} {d : Dat} {s : ElB.St} (h : Stt w1.heap.size r bl ba ps C (50 * k + 23) (k + 1) (20000 * k + j) d s W) (hs : Below w1.heap.size w1 W) {e : Ent} (he : ElB.Agreed s j e) {I : Int} (hI : I = ((j + 1 : Nat) : Int))
    (hm : KeysU.MapAt Tryz.prog 22 W' ba (d.na + 1) (fun i => if i = I then some (entV e) else d.ga i)) (o : Only (fun q => q = ba) W W') : In7 w1 C r bl ba ps k (j + 1) d.vn d.ms W' := by
  have hna := h.na
  exact ⟨⟨{ d with na := d.na + 1, ga := fun i => if i = I then some (entV e) else d.ga i }, s, rfl, rfl, h.agreed he o hI hm (show d.na + 1 ≤ 20000 * k + (j + 1) by omega)⟩, hs.trans (o.below h.town.base fun q hq => by subst hq; exact h.town.b2)⟩
/-- One of the entries is handed out. -/
theorem get_one {w1 W : World} {C r bl ba N k A : Nat} {ps : Nat → Nat} {d : Dat} {s : ElB.St} (h : Stt w1.heap.size r bl ba ps C N k A d s W) {a j : Nat} (ha : a < 7) (hN : N ≤ 700000000) (hj : j + 1 < 18446744073709551616) {e : Ent} (he : Rlog.get (d.ms a).g (j + 1) 1 = [e]) :
    Calls Tryz.prog 19 #[.pointer (some ⟨(d.zs a).q, 0, none⟩), .int .u64 ((j + 1 : Nat) : Int), .int .i64 1] W fun x W' => ∃ b o c, x = .returned (.slice (some ⟨b, o, none⟩) 1 c) ∧ Four W' b o e ∧ b < W'.heap.size ∧ Below W.heap.size W W' := by
  have hp := h.town.sev.nd a ha
  have hb := h.nb a ha
  have hes := hb.es
  have := RlgWalkF.get_any hp.log (i := j + 1) (n := (1 : Int)) hj (by decide) (by omega)
  rw [he] at this
  refine this.mono ?_
  rintro x W' ⟨A', c', rfl, hre, _, _, hbe, _⟩
  obtain ⟨b, o, e', rfl, hlt, hk, h4⟩ := hre.at_ (k := 0) (by show 0 < 1; decide)
  simp at hk
  subst hk
  rw [Nat.zero_mul, Nat.add_zero] at h4
  exact ⟨b, o, c', rfl, h4, hlt, hbe⟩
theorem zero_int (w : World) : (zeroValue 3).run Tryz.prog w = .ok (.int .i64 0) w := by kernel_rfl
theorem zero_ent (w : World) : (zeroValue 81).run Tryz.prog w = .ok (.agg #[.int .u64 0, .int .u64 0, .int .i64 0, .string .empty]) w := by kernel_rfl
theorem start {w1 wr : World} {C r : Nat} (hc : sound C = true) {ps : Nat → Nat} {zs : Nat → Seat} (h : Sev w1.heap.size r 7 ps zs (mC C) wr) (hz : ∀ a, a < 7 → (zs a).Z = []) (hb : Below w1.heap.size w1 wr) :
    Run7 w1 C r wr.heap.size (wr.heap.size + 1) ps 0 (.slice none 0 0) ((wr.alloc (.map #[] 0)).alloc (.map #[] 0)) := by
  have hB := h.base
  have hr := h.lt
  have b1 : Below wr.heap.size wr (wr.alloc (.map #[] 0)) := (Below.refl _ _).alloc (Nat.le_refl _) _
  have hs1 : (wr.alloc (.map #[] 0)).heap.size = wr.heap.size + 1 := by simp
  have b2 : Below wr.heap.size wr ((wr.alloc (.map #[] 0)).alloc (.map #[] 0)) := b1.alloc b1.size _
  have b3 : Below (wr.alloc (.map #[] 0)).heap.size (wr.alloc (.map #[] 0)) ((wr.alloc (.map #[] 0)).alloc (.map #[] 0)) := (Below.refl _ _).alloc (Nat.le_refl _) _
  have m1 := KeysU.mapAt_made wr Tryz.prog 22
  have m2 := KeysU.mapAt_made (wr.alloc (.map #[] 0)) Tryz.prog 22
  rw [hs1] at m2
  refine ⟨⟨⟨zs, mC C, .slice none 0 0, [], [], 0, 0, fun _ => none, fun _ => none⟩, ElB.s0 C, rfl, ⟨h.below b2, .inl (World.ownsRow_nil _ _ _ _), m1.keep (b3.block _ (by rw [hs1]; exact Nat.lt_succ_self _)), m2, fun x hx => (by rcases hx with hx | hx <;> cases hx), fun a ha x hx => (by rw [hz a ha] at hx; cases hx), fun q hq ho => ?_, (fun e => by cases e), (fun e => by cases e), (fun e => by cases e), by omega, by omega, by omega, hB, by omega⟩,
    ElB.sys0 hc, fun x hx => (by cases hx), fun a ha => ?_, fun x hx => (by rcases hx with hx | hx <;> cases hx), fun a ha x hx => (by cases hx), Nat.zero_le _, fun t v hv => (by cases hv), fun i v hv => (by cases hv), Nat.le_refl _, Nat.le_refl _⟩, hb.trans (b2.mono hb.size)⟩
  · have hl := (h.all_lt hq).2
    obtain ⟨a, ha, hm⟩ := hq
    rcases ho with ho | ho | ho | ho
    · exact h.off a ha (ho ▸ hm)
    · omega
    · omega
    · cases ho
  · exact newNd_b ha (by decide) (by decide) rfl (fineC hc) (Nat.le_refl _)
set_option maxRecDepth 100000 in
set_option maxHeartbeats 4000000 in
theorem elects_walk (C : Nat) (hC : C < 2 ^ 64) (A : Option Addr) (n c : Nat) (w : World) (hh : HoldsT w A n) (hn : n ≤ 9223372036854775807) :
    Calls Tryz.prog 5 #[.int .u64 (C : Int), .slice A n c] w fun e w' => e = .returned (.bool true) ∧ Below w.heap.size w w' := by
  have HH := Lib.hid hh
  have HBg := Lib.hid Begun.begun_true
  have HSo := Lib.hid (fun W => QuoWalkA.sound_any C hC W)
  clear hh
  have hmm := @run_makeMap Tryz.prog
  go_enter Tryz.func5, Tryz.ntmps5
  go_wp2_with fail
  with_reducible refine (HBg.out w).mono ?_
  rintro e w1 ⟨rfl, hb1⟩
  have HB1 := Lib.hid hb1
  clear hb1
  by_cases h400 : 400 < n
  · go_wp2
    go_ret
    exact ⟨rfl, HB1.out⟩
  obtain ⟨b, hb⟩ : ∃ b, sound C = b := ⟨_, rfl⟩
  rw [hb] at HSo
  go_wp2_with fail
  with_reducible refine (HSo.out w1).mono ?_
  rintro e w2 ⟨rfl, rfl⟩
  cases b with
  | false =>
    go_wp2
    go_ret
    exact ⟨rfl, HB1.out⟩
  | true =>
  have HC := Lib.hid hb
  clear hb
  as_aux_lemma =>
  go_wp2_with fail
  have hbeg : Hid (Beg w1 C w1.heap.size 0 (w1.alloc (.cells #[.pointer none, .pointer none, .pointer none, .pointer none, .pointer none, .pointer none, .pointer none] 75))) := ⟨⟨fun _ => 0, fun _ => ⟨0, .bool false, .bool false, .bool false, [], fun _ => False⟩, Sev.new (Nat.le_refl _) _ rfl _ _ _, fun a ha => absurd ha (by omega)⟩, (Below.refl _ _).alloc (Nat.le_refl _) _⟩
  go_loopw [39] (fun i wr => ∃ k : Nat, k ≤ 7 ∧ i = .int .i64 (k : Int) ∧ Hid (Beg w1 C w1.heap.size k wr)) (fun i _ => 7 - (intOf i).toNat)
  case atStart => exact ⟨0, by omega, rfl, hbeg⟩
  case round =>
    obtain ⟨k, hk, rfl, HB⟩ := hrel
    obtain ⟨ps, zs, hsev, hzs⟩ := HB.out.ex
    by_cases hk7 : k < 7
    · have HS := Lib.hid hsev
      have HZ := Lib.hid hzs
      clear hsev hzs
      as_aux_lemma =>
      go_wp2_with fail
      refine (new_gC HC.out wr).mono ?_
      rintro e w2 ⟨q, v, rfl, hlog, hb2⟩
      have HN := Lib.hid (new_nC HC.out hlog hk7)
      have HB2 := Lib.hid hb2
      clear hlog hb2
      go_wp2_with fail
      with_reducible refine HN.out.mono ?_
      rintro e w3 ⟨p, z, rfl, hp, hz, hb3⟩
      have hb23 := HB2.out.trans (hb3.mono HB2.out.size)
      obtain ⟨u, hcell⟩ := (HS.out.below hb23).some_ hk7
      have hfree := (HS.out.below hb23).free k
      have hlt := (HS.out.below hb23).lt
      have hb4 : Hid (Beg w1 C w1.heap.size (k + 1) (w3.setCell ⟨w1.heap.size, k, none⟩ (.pointer (some ⟨p, 0, none⟩)))) := by
        refine ⟨⟨_, _, by have := HS.out.more hk7 HZ.out hb23 hp hz; rwa [show upd (mC C) k (mC C k) = mC C by funext b; unfold upd; split <;> (try subst b) <;> (try rfl)] at this, fun a ha => ?_⟩, ?_⟩
        · by_cases e : a = k
          · subst e; rw [upd_eq]; exact hz
          · rw [upd_ne _ _ e]; exact HZ.out a (by omega)
        · exact (HB.out.since.trans (hb23.mono HB.out.since.size)).setCell (by simp) _
      clear hp hz hb3 hb23 HN
      go_wp2_with fail
      go_roundw
      case rel => exact ⟨k + 1, by omega, by go_num, hb4⟩
      case measure => simp [intOf]; omega
    · obtain rfl : k = 7 := by omega
      have HRun := Lib.hid (start HC.out hsev hzs HB.out.since)
      have hz : (wr.alloc (.map #[] 0)).heap.size = wr.heap.size + 1 := by simp
      clear hsev hzs HB
      as_aux_lemma =>
      go_wp2_with fail
      obtain ⟨bl, hbl⟩ : ∃ bl, wr.heap.size = bl := ⟨_, rfl⟩
      rw [hbl] at HRun
      simp only [show ((7 : Nat) : Int) = 7 from rfl, hbl]
      obtain ⟨ba, hba⟩ : ∃ ba, bl + 1 = ba := ⟨_, rfl⟩
      rw [hba] at HRun ⊢
      generalize ((wr.alloc (.map #[] 0)).alloc (.map #[] 0)) = wm at HRun ⊢
      clear hz hbl hba
      go_loopw [9, 62] (fun v i wi => ∃ k : Nat, k ≤ n ∧ i = .int .i64 (k : Int) ∧ Hid (Run7 w1 C w1.heap.size bl ba ps k v wi)) (fun _ i _ => n - (intOf i).toNat)
      case atStart => exact ⟨0, Nat.zero_le _, rfl, HRun⟩
      case round =>
        obtain ⟨k, hk, rfl, HR⟩ := hrel
        by_cases hkn : k < n
        · obtain ⟨b, o, t, rfl, c0, c1, c2, ht⟩ := HH.out.at_ (HB1.out.trans (HR.out.since.mono HB1.out.size)) hkn
          obtain ⟨z0, z1, z2⟩ := t
          simp only at c0 c1 c2
          obtain ⟨a, ha, hza⟩ := among z1 7 (by decide) (by decide)
          obtain ⟨K, hK, hzK⟩ := among z0 10 (by decide) (by decide)
          have HZA := Lib.hid hza
          have HZK := Lib.hid hzK
          clear hza hzK
          as_aux_lemma =>
          go_upto_block 4 with fail
          rw [HZA.out, HZK.out]
          obtain ⟨w2, hw2⟩ : ∃ w2, wr.alloc (.cells #[.int .i64 z0, .int .i64 z1, .int .i64 z2] 77) = w2 := ⟨_, rfl⟩
          have hcb : w2.heap[wr.heap.size]? = some (.cells #[.int .i64 z0, .int .i64 z1, .int .i64 z2] 77 (0, 0)) := by rw [← hw2]; exact heap_alloc_new wr _
          have hba : Below wr.heap.size wr w2 := by rw [← hw2]; exact (Below.refl _ _).alloc (Nat.le_refl _) _
          rw [hw2]
          obtain ⟨⟨d, s, rfl, hst0⟩, hsi0⟩ := HR.out
          have hst := hst0.below hba
          have hsi := hsi0.trans (hba.mono hsi0.size)
          have ha7 : a < 7 := by omega
          have hcell := hst.town.sev.cell ha7
          have hrlt := hst.town.sev.lt
          have d2 : w2.cell? ⟨wr.heap.size, 2, none⟩ = some (.int .i64 z2) := by rw [cell_at hcb]; rfl
          have hblt := lt_at hcb
          have HTi := Lib.hid (hst.timeout ha7 (by omega))
          have HBe := Lib.hid (hst.beat ha7 (by omega))
          have HS := Lib.hid hst
          have HSi := Lib.hid hsi
          have HCB := Lib.hid hcb
          clear hst0 hsi0 hst hsi hba hw2 c0 c1 c2 hcb
          go_cut [9, 14, 16, 17] from 77 to 159 (fun v i _ _ wx => Mid7 w1 C w1.heap.size bl ba ps k v i wx)
          case first =>
            have hKc : K = 0 ∨ K = 1 ∨ K = 2 ∨ K = 3 ∨ 4 ≤ K := by omega
            rcases hKc with rfl | rfl | rfl | rfl | hK4
            ·
              --<K0
              as_aux_lemma =>
              go_wp2_with fail
              with_reducible refine HTi.out.mono ?_
              rintro e w3 ⟨rfl, hw3⟩
              have HM := Lib.hid (Mid7.of hw3 HSi.out ha7)
              clear hw3
              go_wp2_with fail
              go_meet
              with_reducible exact HM.out
              --K0>
            ·
              --<K1
              as_aux_lemma =>
              have hcv := conv_two w2 (IntKind.u8.wrap (k : Int)) (IntKind.u8.wrap ((k : Int) / 256)) (u8_b _) (u8_b _)
              have hba : Below w2.heap.size w2 (w2.alloc (.cells #[.int .u8 (IntKind.u8.wrap (k : Int)), .int .u8 (IntKind.u8.wrap ((k : Int) / 256))] 5)).drew := ((Below.refl _ _).alloc (Nat.le_refl _) _).drew
              have HPr := Lib.hid ((HS.out.below hba).propose ha7 (by omega) (twoB (IntKind.u8.wrap (k : Int)) (IntKind.u8.wrap ((k : Int) / 256))) (by show 2 ≤ _; decide))
              have hcell2 := (HS.out.below hba).town.sev.cell ha7
              have HSd := Lib.hid (HSi.out.trans (hba.mono HSi.out.size))
              clear hba
              have HKD : Hid (w2.drew.cell? ⟨w1.heap.size, a, none⟩ = some (.pointer (some ⟨ps a, 0, none⟩))) := Lib.hid hcell
              go_upto_region 23 with fail
              refine wp_region_noPanic ?_
              refine wp_region_held_drew (S := fun W => W.cell? ⟨w1.heap.size, a, none⟩ = some (.pointer (some ⟨ps a, 0, none⟩))) (by kernel_rfl) HKD.out (fun hHeld => ?_)
              refine wpAnyH_take (i := 0) (oi := { dst := some 87, op := Op.move (Operand.tmp 14), type := 3, pos := "law.go:194", after := #[], guard := none }) (v := ?v0) rfl (by kernel_rfl) (by kernel_rfl) (by kernel_rfl) (fun _ _ _ h => h) (Or.inl ⟨by rfl, ?hy0⟩) hHeld ?rest0
              case hy0 => (intro w hSw; (try dsimp only at hSw); go_simp; (try with_reducible rfl))
              (try simp only [Act.put, List.setIfInBounds_toArray, List.set_cons_zero, List.set_cons_succ])
              refine wpAnyH_take (i := 1) (oi := { dst := some 88, op := Op.indexAddr 75 (Operand.tmp 5) (Operand.tmp 87), type := 0, pos := "law.go:194", after := #[{ on := 0, ground := Ground.data }], guard := none }) (v := ?v1) rfl (by kernel_rfl) (by kernel_rfl) (by kernel_rfl) (fun _ _ _ h => h) (Or.inl ⟨by rfl, ?hy1⟩) hHeld ?rest1
              case hy1 => (intro w hSw; (try dsimp only at hSw); go_simp; (try with_reducible rfl))
              (try simp only [Act.put, List.setIfInBounds_toArray, List.set_cons_zero, List.set_cons_succ])
              refine wpAnyH_take (i := 2) (oi := { dst := some 89, op := Op.load 40 (Operand.tmp 88), type := 40, pos := "law.go:194", after := #[{ on := 1, ground := Ground.data }], guard := none }) (v := ?v2) rfl (by kernel_rfl) (by kernel_rfl) (by kernel_rfl) (fun _ _ _ h => h) (Or.inl ⟨by rfl, ?hy2⟩) hHeld ?rest2
              case hy2 => (intro w hSw; (try dsimp only at hSw); go_simp; (try with_reducible rfl))
              (try simp only [Act.put, List.setIfInBounds_toArray, List.set_cons_zero, List.set_cons_succ])
              refine wpAnyH_take (i := 3) (oi := { dst := some 90, op := Op.move (Operand.tmp 12), type := 3, pos := "law.go:194", after := #[], guard := none }) (v := ?v3) rfl (by kernel_rfl) (by kernel_rfl) (by kernel_rfl) (fun _ _ _ h => h) (Or.inl ⟨by rfl, ?hy3⟩) hHeld ?rest3
              case hy3 => (intro w hSw; (try dsimp only at hSw); go_simp; (try with_reducible rfl))
              (try simp only [Act.put, List.setIfInBounds_toArray, List.set_cons_zero, List.set_cons_succ])
              refine wpAnyH_take (i := 4) (oi := { dst := some 91, op := Op.convert 3 5 (Operand.tmp 90), type := 5, pos := "law.go:194", after := #[{ on := 3, ground := Ground.data }], guard := none }) (v := ?v4) rfl (by kernel_rfl) (by kernel_rfl) (by kernel_rfl) (fun _ _ _ h => h) (Or.inl ⟨by rfl, ?hy4⟩) hHeld ?rest4
              case hy4 => (intro w hSw; (try dsimp only at hSw); go_simp; (try with_reducible rfl))
              (try simp only [Act.put, List.setIfInBounds_toArray, List.set_cons_zero, List.set_cons_succ])
              refine wpAnyH_take (i := 5) (oi := { dst := some 92, op := Op.move (Operand.tmp 12), type := 3, pos := "law.go:194", after := #[], guard := none }) (v := ?v5) rfl (by kernel_rfl) (by kernel_rfl) (by kernel_rfl) (fun _ _ _ h => h) (Or.inl ⟨by rfl, ?hy5⟩) hHeld ?rest5
              case hy5 => (intro w hSw; (try dsimp only at hSw); go_simp; (try with_reducible rfl))
              (try simp only [Act.put, List.setIfInBounds_toArray, List.set_cons_zero, List.set_cons_succ])
              refine wpAnyH_take (i := 6) (oi := { dst := some 93, op := Op.binOp BinOp.shr 3 (Operand.tmp 92) (Operand.const (Value.int IntKind.u64 8)) 78, type := 3, pos := "law.go:194", after := #[{ on := 5, ground := Ground.data }], guard := none }) (v := ?v6) rfl (by kernel_rfl) (by kernel_rfl) (by kernel_rfl) (fun _ _ _ h => h) (Or.inl ⟨by rfl, ?hy6⟩) hHeld ?rest6
              case hy6 => (intro w hSw; (try dsimp only at hSw); go_simp; (try with_reducible rfl))
              (try simp only [Act.put, List.setIfInBounds_toArray, List.set_cons_zero, List.set_cons_succ])
              refine wpAnyH_take (i := 7) (oi := { dst := some 94, op := Op.convert 3 5 (Operand.tmp 93), type := 5, pos := "law.go:194", after := #[{ on := 6, ground := Ground.data }], guard := none }) (v := ?v7) rfl (by kernel_rfl) (by kernel_rfl) (by kernel_rfl) (fun _ _ _ h => h) (Or.inl ⟨by rfl, ?hy7⟩) hHeld ?rest7
              case hy7 => (intro w hSw; (try dsimp only at hSw); go_simp; (try with_reducible rfl))
              (try simp only [Act.put, List.setIfInBounds_toArray, List.set_cons_zero, List.set_cons_succ])
              refine wpAnyH_ready (rs := [8]) (by kernel_rfl) (by simp) ?_
              refine AllReadyH.cons (o := { dst := some 95, op := Op.buildSlice 79 2 #[(0, Operand.tmp 91), (1, Operand.tmp 94)], type := 79, pos := "law.go:194", after := #[{ on := 4, ground := Ground.data }, { on := 7, ground := Ground.data }], guard := none }) rfl (fun K hK => ?_) AllReadyH.nil
              go_simp
              refine hK.out _ _ hcell2 (fun hHeld2 => ?_)
              clear hK K hHeld
              have hHeld := hHeld2
              clear hHeld2
              (try simp only [Act.put, List.setIfInBounds_toArray, List.set_cons_zero, List.set_cons_succ])
              refine wpAnyH_ready (rs := [9]) (by kernel_rfl) (by simp) ?_
              refine AllReadyH.cons (o := { dst := some 96, op := Op.convert 79 9 (Operand.tmp 95), type := 9, pos := "law.go:194", after := #[{ on := 8, ground := Ground.data }], guard := none }) rfl (fun K hK => ?_) AllReadyH.nil
              go_simp
              refine hK.out _ _ hcell2 (fun hHeld2 => ?_)
              clear hK K hHeld
              have hHeld := hHeld2
              clear hHeld2
              (try simp only [Act.put, List.setIfInBounds_toArray, List.set_cons_zero, List.set_cons_succ])
              refine wpAnyH_ready (rs := [10]) (by kernel_rfl) (by simp) ?_
              refine AllReadyH.cons (o := { dst := some 97, op := Op.call { callee := Callee.value (Operand.func 22), args := #[Operand.tmp 89, Operand.tmp 96], argTypes := #[40, 9] }, type := 66, pos := "law.go:194", after := #[{ on := 2, ground := Ground.data }, { on := 9, ground := Ground.data }], guard := none }) rfl (fun K hK => ?_) AllReadyH.nil
              go_simp
              go_at_call 22
              with_reducible refine HPr.out.mono ?_
              rintro e w3 ⟨⟨v3, rfl⟩, hw3⟩
              have hcell3 := went_cell hw3 ha7
              have HM := Lib.hid (Mid7.of hw3 HSd.out ha7)
              clear hw3
              (try go_wp2_with fail)
              refine hK.out _ _ hcell3 (fun hHeld2 => ?_)
              clear hK K hHeld hHeld2
              (try simp only [Act.put, List.setIfInBounds_toArray, List.set_cons_zero, List.set_cons_succ])
              refine wpAnyH_done (by kernel_rfl) ?_ _
              refine NoPanic.normal ?_
              go_wp2_with fail
              go_meet
              with_reducible exact HM.out
              --K1>
            ·
              --<K2
              as_aux_lemma =>
              obtain ⟨e2, he2, hz2⟩ := among z2 7 (by decide) (by decide)
              have hdr : Below w2.heap.size w2 w2.drew := (Below.refl _ _).drew
              have HCh : Hid (∀ (ad : Bool) (x : Int), x = (e2 : Int) → Calls Tryz.prog 23 #[.pointer (some ⟨ps a, 0, none⟩), .bool ad, .int .i64 x] w2.drew fun e W' => (∃ v, e = .returned v) ∧ Went w1.heap.size w1.heap.size bl ba ps C (50 * k + 23) k (20000 * k) d w2.drew W') := fun ad x hx => by
                subst hx
                exact (HS.out.below hdr).change ha7 (by omega) ad (e2 : Int) (by omega) (by omega)
              have HSd := Lib.hid (HSi.out.trans (hdr.mono HSi.out.size))
              have HZ2 := Lib.hid hz2
              clear hz2 hdr
              go_upto_region 25 with fail
              go_still_tail 12, (by kernel_rfl)
              change wpList _ _ _ _ _ w2.drew
              go_wp2_with fail
              with_reducible refine (HCh.out _ _ HZ2.out).mono ?_
              rintro e w3 ⟨⟨v3, rfl⟩, hw3⟩
              all_goals
                have HM := Lib.hid (Mid7.of hw3 HSd.out ha7)
                clear hw3
                go_wp2_with fail
                go_meet
                with_reducible exact HM.out
              --K2>
            ·
              --<K3
              as_aux_lemma =>
              go_wp2_with fail
              with_reducible refine HBe.out.mono ?_
              rintro e w3 ⟨rfl, hw3⟩
              have HM := Lib.hid (Mid7.of hw3 HSi.out ha7)
              clear hw3
              go_wp2_with fail
              go_meet
              with_reducible exact HM.out
              --K3>
            ·
              --<K4
              as_aux_lemma =>
              have t0 : ((K : Int) == 0) = false := by simp; omega
              have t1 : ((K : Int) == 1) = false := by simp; omega
              have t2 : ((K : Int) == 2) = false := by simp; omega
              have t3 : ((K : Int) == 3) = false := by simp; omega
              obtain ⟨A5, c5, hvn, hf1, hf2, hf3, hf4, hf5⟩ := HS.out.town.net.form
              obtain ⟨L, hL⟩ : ∃ L, d.Z.length = L := ⟨_, rfl⟩
              rw [hL] at hvn hf1 hf3 hf5
              have hfew := HS.out.few
              rw [hL] at hfew
              have HVN := Lib.hid hvn
              have HL := Lib.hid hL
              rw [hvn]
              clear hL hvn
              by_cases hL0 : L = 0
              · subst hL0
                --<K40
                have HM : Hid (Mid7 w1 C w1.heap.size bl ba ps k (.slice A5 0 c5) (.int .i64 (a : Int)) w2) := by
                  have := Mid7.still HS.out HSi.out ha7
                  rw [HVN.out] at this
                  exact this
                go_wp2_with fail
                go_meet
                with_reducible exact HM.out
                --K40>
              · have hLp : 0 < L := by omega
                obtain ⟨g, hg⟩ : ∃ g, A5 = some ⟨g, 0, none⟩ := by
                  cases A5 with
                  | none => have := (hf3 rfl).1; omega
                  | some ad => obtain ⟨g, e⟩ := hf4 ad rfl; exact ⟨g, by rw [e]⟩
                subst hg
                obtain ⟨i, hi, hzi⟩ := among z2 (L : Int) (by omega) (by omega)
                have hiL : i < L := by omega
                obtain ⟨y, hy⟩ := ElA.get_of (show i < d.Z.length by have := HL.out; omega)
                have hcs := lt_cells hf5 hLp hy
                have hyok := HS.out.lts y (.inl (List.mem_of_getElem? hy))
                obtain ⟨x, pl⟩ := y
                obtain ⟨kd, fr, tt, tm, ix, pv, cm, ok, es, dd⟩ := x
                have y0 := hcs 0 _ rfl
                have y1 := hcs 1 _ rfl
                have y2 := hcs 2 _ rfl
                have y3 := hcs 3 _ rfl
                have y4 := hcs 4 _ rfl
                have y5 := hcs 5 _ rfl
                have y6 := hcs 6 _ rfl
                have y7 := hcs 7 _ rfl
                have y8 := hcs 8 _ rfl
                have y9 := hcs 9 _ rfl
                simp only [Nat.add_zero] at y0 y1 y2 y3 y4 y5 y6 y7 y8 y9
                have hto0 := hyok.t0
                have hto7 := hyok.t7
                simp only at hto0 hto7
                obtain ⟨to_, rfl⟩ : ∃ to_ : Nat, tt = (to_ : Int) := ⟨tt.toNat, by omega⟩
                have HY := Lib.hid hy
                have HZI := Lib.hid hzi
                have hi5 : (i : Int) < (L : Int) := by omega
                have hi50 : (0 : Int) ≤ (i : Int) := by omega
                have hLi : (0 : Int) < (L : Int) := by omega
                have hf5' := Lib.hid hf5
                clear hcs hyok hy hzi hf3 hf4 hf5
                go_upto_region 30 with fail
                rw [HZI.out]
                as_aux_lemma =>
                go_upto_if 141 with fail
                obtain ⟨w3, hw3⟩ : ∃ w3, w2.alloc (.cells #[.int .i64 kd, .int .i64 fr, .int .i64 (to_ : Int), .int .u64 (tm : Int), .int .u64 (ix : Int), .int .u64 (pv : Int), .int .u64 (cm : Int), .bool ok, .slice pl.A pl.n pl.c, .string dd] 47) = w3 := ⟨_, rfl⟩
                have hr3 : w3.heap[w2.heap.size]? = some (.cells #[.int .i64 kd, .int .i64 fr, .int .i64 (to_ : Int), .int .u64 (tm : Int), .int .u64 (ix : Int), .int .u64 (pv : Int), .int .u64 (cm : Int), .bool ok, .slice pl.A pl.n pl.c, .string dd] 47 (0, 0)) := by rw [← hw3]; exact heap_alloc_new w2 _
                have hb3 : Below w2.heap.size w2 w3 := by rw [← hw3]; exact (Below.refl _ _).alloc (Nat.le_refl _) _
                rw [hw3]
                obtain ⟨y, hyy⟩ : ∃ y : Msg × Pl, (⟨kd, fr, (to_ : Int), tm, ix, pv, cm, ok, es, dd⟩, pl) = y := ⟨_, rfl⟩
                have HY2 : Hid (d.Z[i]? = some y) := by rw [← hyy]; exact HY
                have HYY := Lib.hid hyy
                have hst3 := HS.out.below hb3
                have HR3 := Lib.hid hr3
                have HS3 := Lib.hid hst3
                have HSi3 := Lib.hid (HSi.out.trans (hb3.mono HSi.out.size))
                have hg3 : Hid (∀ j u, (lcs d.Z)[j]? = some u → w3.cell? ⟨g, j, none⟩ = some u) := Lib.hid fun j u hj => by
                  obtain ⟨ad, e, hlt, hc⟩ := hf5'.out.2 hLp
                  cases e
                  have := hc j u hj
                  rw [Addr.add_lit, Nat.zero_add] at this
                  exact (hb3.cell (p := ⟨g, j, none⟩) hlt).trans this
                clear hw3 hr3 hb3 hyy hst3 y0 y1 y2 y3 y4 y5 y6 y7 y8 y9 hf5'
                go_cut [9] from 141 to 150 (fun v wx => Pick7 w1 C w1.heap.size bl ba ps k y w3 v wx)
                case first =>
                  by_cases hK8 : K < 8
                  · by_cases hlast : i + 1 < L
                    ·
                      --<KA
                      have hK8i : (K : Int) < 8 := Int.ofNat_lt.2 hK8
                      obtain ⟨J, hJ⟩ : ∃ J, i + 1 = J := ⟨_, rfl⟩
                      have hJL : J < L := hJ ▸ hlast
                      have hwi := (succ_wrap hJ (Nat.le_trans (Nat.le_of_lt hJL) hfew)).1
                      have hJ1 : (J : Int) ≤ (L : Int) := Int.ofNat_le.2 (Nat.le_of_lt hJL)
                      have hJ0 : (0 : Int) ≤ (J : Int) := Int.natCast_nonneg J
                      have hic : i ≤ c5 := Nat.le_trans (Nat.le_of_lt hiL) hf1
                      have hnc : ¬ c5 = J := fun e => absurd (Nat.lt_of_lt_of_le hJL hf1) (by rw [e]; exact Nat.lt_irrefl J)
                      have HJ := Lib.hid hJ
                      clear hJ
                      go_upto_region 32 with fail
                      have ho1 : Hid ((lcs (d.Z.take i)).length = i * 10) := Lib.hid (by rw [lcs_length, List.length_take, Nat.min_eq_left (by rw [HL.out]; exact Nat.le_of_lt hiL)])
                      have hn1 : Hid ((lcs (d.Z.drop J)).length = (L - J) * 10) := Lib.hid (by rw [lcs_length, List.length_drop, HL.out])
                      have hJl : Hid (J ≤ d.Z.length) := Lib.hid (by rw [HL.out]; exact Nat.le_of_lt hJL)
                      have hbig := pick_big (J := J) hiL hfew
                      have hful : i < i + (L - J) := Nat.lt_add_of_pos_right (Nat.sub_pos_of_lt hJL)
                      have HFin : Hid (∀ v' w4, w4.ownsRow w3.drew.heap.size 47 10 v' (i + (L - J)) (lcs (d.Z.take i) ++ lcs (d.Z.drop J)) → w3.drew.grownBy w4 none → Pick7 w1 C w1.heap.size bl ba ps k y w3 v' w4) := Lib.hid fun v' w4 h1 h2 => by
                        rw [← HL.out] at h1
                        exact pick_grow HS3.out HY2.out HJ.out hJl.out h1 h2
                      go_still_tail 8, (by kernel_rfl)
                      change wpList _ _ _ _ _ w3.drew
                      refine wpList_growL w3.drew rfl _ _ rfl g i i (lcs (d.Z.take i)) rfl ho1.out (fun j u hj => hg3.out j u (take_cells j u hj)) g (J * 10) (L - J) (c5 - J) (lcs (d.Z.drop J)) rfl hn1.out (fun j u hj => hg3.out _ u (drop_cells hJl.out j u hj)) (lcs_one _) hful hbig ?_
                      intro v' w4 hown hgr
                      have HP := Lib.hid (HFin.out v' w4 hown hgr)
                      clear hown hgr
                      go_wp2_with fail
                      go_meet
                      with_reducible exact HP.out
                      --KA>
                    ·
                      --<KB
                      have hK8i : (K : Int) < 8 := Int.ofNat_lt.2 hK8
                      have hLi1 : i + 1 = L := Nat.le_antisymm hiL (Nat.le_of_not_lt hlast)
                      have hwi := (succ_wrap hLi1 hfew).1
                      have hwj := (succ_wrap hLi1 hfew).2
                      have hL00 : (0 : Int) ≤ (L : Int) := Int.natCast_nonneg L
                      have hic : i ≤ c5 := Nat.le_trans (Nat.le_of_lt hiL) hf1
                      have hVN2 : d.vn = .slice (some ⟨g, 0, none⟩) (i + 1) c5 := by rw [HVN.out, hLi1]
                      have HP : Hid (Pick7 w1 C w1.heap.size bl ba ps k y w3 (.slice (some ⟨g, 0, none⟩) i i) w3.drew) := Lib.hid (pick_last HS3.out HY2.out (by rw [HL.out]; exact hLi1) hVN2 hg3.out)
                      clear hVN2 hLi1
                      by_cases hcL : c5 = L
                      all_goals
                        (try subst hcL)
                        go_upto_region 32 with fail
                        go_still_tail 8, (by kernel_rfl)
                        change wpList _ _ _ _ _ w3.drew
                        refine wpList_noneL w3.drew rfl _ _ rfl g i i rfl (Nat.le_refl _) _ _ rfl ?_
                        go_wp2_with fail
                        go_meet
                        with_reducible exact HP.out
                      --KB>
                  ·
                    --<KC
                    have hK8i : ¬ (K : Int) < 8 := by omega
                    have HP : Hid (Pick7 w1 C w1.heap.size bl ba ps k y w3 (.slice (some ⟨g, 0, none⟩) L c5) w3) := by
                      refine ⟨⟨{ d with Y := [y] }, s, HVN.out, List.mem_singleton.2 rfl, HS3.out.picked (v' := d.vn) (Z' := d.Z) (y := y) (Only.refl _ _) HS3.out.town.net (fun q hq => .inl hq) (List.mem_of_getElem? HY2.out) (fun x hx => hx) HS3.out.few⟩, Below.refl _ _⟩
                    go_wp2_with fail
                    go_meet
                    with_reducible exact HP.out
                    --KC>
                case rest =>
                  --<KR
                  obtain ⟨⟨d4, s4, rfl, hy4, hst4⟩, hb4⟩ := hcut
                  have hsi4 := HSi3.out.trans (hb4.mono HSi3.out.size)
                  have hr4 := (hb4.block _ (lt_at HR3.out)).trans HR3.out
                  by_cases hK44 : K = 4
                  · have HM := Lib.hid (Mid7.still hst4 hsi4 ha7)
                    have q4 : ((K : Int) != 4) = false := by rw [hK44]; rfl
                    clear hst4 hsi4 hr4 hb4 hK44
                    go_wp2_with fail
                    go_meet
                    with_reducible exact HM.out
                  · have q4 : ((K : Int) != 4) = true := by simp; omega
                    have hto : to_ < 7 := by omega
                    have x0 : wc.cell? ⟨w2.heap.size, 0, none⟩ = some (.int .i64 kd) := by rw [cell_at hr4]; rfl
                    have x1 : wc.cell? ⟨w2.heap.size, 1, none⟩ = some (.int .i64 fr) := by rw [cell_at hr4]; rfl
                    have x2 : wc.cell? ⟨w2.heap.size, 2, none⟩ = some (.int .i64 (to_ : Int)) := by rw [cell_at hr4]; rfl
                    have x3 : wc.cell? ⟨w2.heap.size, 3, none⟩ = some (.int .u64 (tm : Int)) := by rw [cell_at hr4]; rfl
                    have x4 : wc.cell? ⟨w2.heap.size, 4, none⟩ = some (.int .u64 (ix : Int)) := by rw [cell_at hr4]; rfl
                    have x5 : wc.cell? ⟨w2.heap.size, 5, none⟩ = some (.int .u64 (pv : Int)) := by rw [cell_at hr4]; rfl
                    have x6 : wc.cell? ⟨w2.heap.size, 6, none⟩ = some (.int .u64 (cm : Int)) := by rw [cell_at hr4]; rfl
                    have x7 : wc.cell? ⟨w2.heap.size, 7, none⟩ = some (.bool ok) := by rw [cell_at hr4]; rfl
                    have x8 : wc.cell? ⟨w2.heap.size, 8, none⟩ = some (.slice pl.A pl.n pl.c) := by rw [cell_at hr4]; rfl
                    have x9 : wc.cell? ⟨w2.heap.size, 9, none⟩ = some (.string dd) := by rw [cell_at hr4]; rfl
                    have hct := hst4.town.sev.cell hto
                    have hdr : Below wc.heap.size wc wc.drew := (Below.refl _ _).drew
                    rw [← HYY.out] at hy4
                    have hrc := (hst4.below hdr).receive hto (by omega) hy4
                    unfold ltV at hrc
                    simp only at hrc
                    have HRc := Lib.hid hrc
                    have HSd := Lib.hid (hsi4.trans (hdr.mono hsi4.size))
                    clear hst4 hsi4 hr4 hb4 hrc hdr hy4
                    go_upto_region 35 with fail
                    go_still_tail 4, (by kernel_rfl)
                    change wpList _ _ _ _ _ wc.drew
                    go_wp2_with fail
                    with_reducible refine HRc.out.mono ?_
                    rintro e w5 ⟨rfl, hw5⟩
                    have HM := Lib.hid (Mid7.of hw5 HSd.out hto)
                    clear hw5
                    go_wp2_with fail
                    go_meet
                    with_reducible exact HM.out
                  --KR>
              --K4>
          case rest =>
            --<T
            obtain ⟨⟨d1, s1, a1, rfl, ha1, rfl, hst1⟩, hsi1⟩ := hcut
            as_aux_lemma =>
            have hcl := hst1.town.sev.cell ha1
            have hn1 := hst1.town.sev.nd a1 ha1
            obtain ⟨Ao, co, ho⟩ := Begun.outs_form hn1
            obtain ⟨Ak, ck, hk1⟩ := Begun.kept_form hn1
            have HTk := Lib.hid (hst1.take ha1)
            have hrv : ReadyV (d1.zs a1) (d1.ms a1) = .agg #[.int .u64 ((d1.ms a1).term : Int), .int .i64 (d1.ms a1).vote, .slice Ak (d1.ms a1).kept.length ck, .bool (d1.ms a1).inst, .slice Ao (d1.ms a1).out.length co, .bool (d1.ms a1).reset, .int .u64 ((d1.ms a1).commit : Int)] := by
              unfold ReadyV
              rw [ho, hk1]
            obtain ⟨T0, hT0⟩ : ∃ x, (d1.ms a1).term = x := ⟨_, rfl⟩
            obtain ⟨V0, hV0⟩ : ∃ x, (d1.ms a1).vote = x := ⟨_, rfl⟩
            obtain ⟨K0, hK0⟩ : ∃ x, (d1.ms a1).kept.length = x := ⟨_, rfl⟩
            obtain ⟨O0, hO0⟩ : ∃ x, (d1.ms a1).out.length = x := ⟨_, rfl⟩
            obtain ⟨I0, hI0⟩ : ∃ x, (d1.ms a1).inst = x := ⟨_, rfl⟩
            obtain ⟨R0, hR0⟩ : ∃ x, (d1.ms a1).reset = x := ⟨_, rfl⟩
            obtain ⟨C0, hC0⟩ : ∃ x, (d1.ms a1).commit = x := ⟨_, rfl⟩
            rw [hT0, hV0, hK0, hO0, hI0, hR0, hC0] at hrv
            have HRv := Lib.hid hrv
            have HO := Lib.hid ho
            have HO0 := Lib.hid hO0
            have HSi1 := Lib.hid hsi1
            have HNB := Lib.hid ((hst1.nb a1 ha1).out)
            have HSd1 := Lib.hid hn1.said
            obtain ⟨v1, hv1⟩ : ∃ v, d1.vn = v := ⟨_, rfl⟩
            rw [hv1]
            have HV1 := Lib.hid hv1
            clear hrv ho hk1 hsi1 hn1 hst1 hT0 hV0 hK0 hO0 hI0 hR0 hC0 hv1
            as_aux_lemma =>
            go_wp2_with fail
            with_reducible refine HTk.out.mono ?_
            rintro e w6 ⟨rfl, hb6, d2, e1, e2, e3, hst2, hhand⟩
            rw [HRv.out]
            obtain ⟨w7, hw7⟩ : ∃ w7, w6.alloc (.cells #[.int .u64 (T0 : Int), .int .i64 V0, .slice Ak K0 ck, .bool I0, .slice Ao O0 co, .bool R0, .int .u64 (C0 : Int)] 70) = w7 := ⟨_, rfl⟩
            have hr7 : w7.heap[w6.heap.size]? = some (.cells #[.int .u64 (T0 : Int), .int .i64 V0, .slice Ak K0 ck, .bool I0, .slice Ao O0 co, .bool R0, .int .u64 (C0 : Int)] 70 (0, 0)) := by rw [← hw7]; exact heap_alloc_new w6 _
            have hb7 : Below w6.heap.size w6 w7 := by rw [← hw7]; exact (Below.refl _ _).alloc (Nat.le_refl _) _
            have y4 : w7.cell? ⟨w6.heap.size, 4, none⟩ = some (.slice Ao O0 co) := by rw [cell_at hr7]; rfl
            have hst7 := hst2.below hb7
            have hh7 := hhand.below hb7
            have hsi7 := (HSi1.out.trans hb6).trans (hb7.mono (Nat.le_trans HSi1.out.size hb6.size))
            obtain ⟨A9, c9, hvn, hf1, hf2, hf3, hf4, hf5⟩ := hst7.town.net.form
            obtain ⟨L9, hL9⟩ : ∃ L, d2.Z.length = L := ⟨_, rfl⟩
            rw [hL9] at hvn
            rw [e1, HV1.out] at hvn
            subst hvn
            have hfew2 : L9 ≤ 30000 := by rw [← hL9]; exact hst7.few
            have hout : (d1.zs a1).Z.length = O0 := by
              have := congrArg List.length HSd1.out
              rw [List.length_map] at this
              rw [this]
              exact HO0.out
            have hout2 : O0 ≤ 50 * k + 23 := by rw [← HO0.out]; exact HNB.out
            have hrow := hh7.row
            rw [hout, HO.out, HO0.out] at hrow
            have hrow2 : w7.ownsRow w1.heap.size 47 10 (.slice Ao O0 co) (d1.zs a1).Z.length (lcs (d1.zs a1).Z) := by rw [hout]; exact hrow
            have hnet := hst7.town.net
            rw [e1, HV1.out] at hnet
            have HN := Lib.hid hnet
            have HRow := Lib.hid hrow2
            have hbase7 := hst7.town.base
            have HJoin : Hid (L9 < 300 → ∀ v' w', Net w1.heap.size w' v' (d2.Z ++ (d1.zs a1).Z) → Only (fun q => (Value.slice A9 L9 c9).ownBlock = some q) w7 w' → (∀ q, v'.ownBlock = some q → (Value.slice A9 L9 c9).ownBlock = some q ∨ w7.heap.size ≤ q) → Bot7 w1 C w1.heap.size bl ba ps k v' w') := Lib.hid fun h3 v' w' q1 q2 q3 =>
              bot_join hst7 hsi7 (e1.trans HV1.out) e3 (by rw [List.length_append, hL9, hout]; omega) q1 q2 q3
            have HStay : Hid (Bot7 w1 C w1.heap.size bl ba ps k (.slice A9 L9 c9) w7) := Lib.hid ⟨⟨{ d2 with Y := [] }, s1, e1.trans HV1.out, hst7.dropped⟩, hsi7⟩
            have HL9 := Lib.hid hL9
            have HOut := Lib.hid hout
            have HW7 := Lib.hid hw7
            clear hst2 hst7 hhand hh7 hrow hrow2 hnet hf1 hf2 hf3 hf4 hf5 hL9 hout hb6 hb7 hsi7 hr7 e1 e2 e3 hw7
            as_aux_lemma =>
            go_upto_if 166 with fail
            rw [HW7.out]
            go_cut [9] from 166 to 170 (fun v wx => Bot7 w1 C w1.heap.size bl ba ps k v wx)
            case first =>
              by_cases h300 : L9 < 300
              ·
                --<TA
                have h300i : (L9 : Int) < 300 := by omega
                have hbig : (d2.Z.length + (d1.zs a1).Z.length) * 104 ≤ 140737488355328 := by rw [HL9.out, HOut.out]; omega
                have HJ2 := Lib.hid (HJoin.out h300)
                go_wp2_with (refine wpList_net w7 rfl _ _ rfl (.slice A9 L9 c9) (.slice Ao O0 co) rfl rfl HN.out HRow.out hbase7 hbig ?_
                             intro v' w8 q1 q2 q3
                             have HB := Lib.hid (HJ2.out v' w8 q1 q2 q3)
                             clear q1 q2 q3)
                go_meet
                with_reducible exact HB.out
                --TA>
              ·
                --<TB
                have h300i : ¬ (L9 : Int) < 300 := by omega
                go_wp2_with fail
                go_meet
                with_reducible exact HStay.out
                --TB>
            case rest =>
              --<TC
              obtain ⟨⟨d3, s3, rfl, hst3⟩, hsi3⟩ := hcut
              as_aux_lemma =>
              have hcl3 := hst3.town.sev.cell ha1
              have hnb3 := hst3.nb a1 ha1
              have HSt := Lib.hid (status_any (hst3.town.sev.nd a1 ha1))
              obtain ⟨R3, hR3⟩ : ∃ x, (d3.ms a1).role = x := ⟨_, rfl⟩
              obtain ⟨L3, hL3⟩ : ∃ x, (d3.ms a1).leader = x := ⟨_, rfl⟩
              obtain ⟨T3, hT3⟩ : ∃ x, (d3.ms a1).term = x := ⟨_, rfl⟩
              obtain ⟨V3, hV3⟩ : ∃ x, (d3.ms a1).vote = x := ⟨_, rfl⟩
              obtain ⟨C3, hC3⟩ : ∃ x, (d3.ms a1).commit = x := ⟨_, rfl⟩
              have hsv : StatusV (d3.ms a1) = .tuple #[.int .i64 (R3 : Int), .int .i64 L3, .agg #[.int .u64 (T3 : Int), .int .i64 V3], .int .u64 (C3 : Int)] := by
                unfold StatusV
                rw [hR3, hL3, hT3, hV3, hC3]
              have hTb : T3 < 18446744073709551616 := by rw [← hT3]; exact hnb3.term
              have hT0 : (0 : Int) ≤ (T3 : Int) := by omega
              have hT1 : (T3 : Int) ≤ 18446744073709551615 := by omega
              have hCb : C3 ≤ 50 * k + 23 := by
                have h1 := ((hst3.sys.at_ a1 ha1).1).sane.cov.1
                have h1 : (d3.ms a1).commit ≤ (d3.ms a1).g.es.length := h1
                have := hnb3.es
                omega
              have HSv := Lib.hid hsv
              have HR := Lib.hid hR3
              have HT := Lib.hid hT3
              have HC3 := Lib.hid hC3
              have HS3 := Lib.hid hst3
              have HSi3 := Lib.hid hsi3
              clear hsv hR3 hL3 hT3 hV3 hC3 hst3 hsi3 hnb3 HJoin HStay HN HRow
              go_wp2_with fail
              with_reducible refine HSt.out.mono ?_
              rintro e w4 ⟨rfl, hb4⟩
              rw [HSv.out]
              obtain ⟨w5, hw5⟩ : ∃ w5, w4.alloc (.cells #[.int .u64 (T3 : Int), .int .i64 V3] 24) = w5 := ⟨_, rfl⟩
              have hr5 : w5.heap[w4.heap.size]? = some (.cells #[.int .u64 (T3 : Int), .int .i64 V3] 24 (0, 0)) := by rw [← hw5]; exact heap_alloc_new w4 _
              have hb5 : Below w4.heap.size w4 w5 := by rw [← hw5]; exact (Below.refl _ _).alloc (Nat.le_refl _) _
              have hb45 := hb4.trans (hb5.mono hb4.size)
              have t0 : w5.cell? ⟨w4.heap.size, 0, none⟩ = some (.int .u64 (T3 : Int)) := by rw [cell_at hr5]; rfl
              have hst5 := HS3.out.below hb45
              have HS5 := Lib.hid hst5
              have HSi5 := Lib.hid (HSi3.out.trans (hb45.mono HSi3.out.size))
              have HW5 := Lib.hid hw5
              have hlm := hst5.town.lm
              have HLm := Lib.hid hlm
              have hnl := hst5.nl
              have HOnly := Lib.hid (fun (hr : R3 = 2) v (hv : d3.gl (T3 : Int) = some v) => hst5.only ha1 (HR.out.trans hr) (by rw [HT.out]; exact hv))
              have hmax : d3.nl < maxLen := by unfold maxLen; omega
              have hT5lt := lt_at hr5
              clear hb4 hb5 hb45 hr5 hst5 hw5 hlm
              as_aux_lemma =>
              go_upto_if 181 with fail
              rw [HW5.out]
              go_cut [23, 24] from 181 to 198 (fun _ _ wx => In7 w1 C w1.heap.size bl ba ps k 0 d3.vn d3.ms wx)
              case first =>
                by_cases hR2 : R3 = 2
                ·
                  --<TE
                  subst hR2
                  have HFin : Hid (∀ w8, KeysU.MapAt Tryz.prog 22 w8 bl (d3.nl + 1) (fun j => if j = (T3 : Int) then some (.int .i64 (a1 : Int)) else d3.gl j) → Only (fun q => q = bl) w5 w8 → In7 w1 C w1.heap.size bl ba ps k 0 d3.vn d3.ms w8) := Lib.hid fun w8 h1 h2 =>
                    led_new HS5.out HSi5.out ha1 HR.out (by rw [HT.out]; exact h1) h2
                  have hzi := zero_int w5
                  cases hgl : d3.gl (T3 : Int) with
                  | none =>
                    have HGl := Lib.hid hgl
                    clear hgl
                    go_wp2_with (first
                      | (refine KeysU.wpList_look w5 rfl _ _ 64 true rfl 22 3 Tryz.underlying22 Tryz.underlying64 (.int .i64 0) hzi (some bl) d3.nl d3.gl (T3 : Int) rfl rfl HLm.out hT0 hT1 ?_
                         rw [HGl.out])
                      | (refine KeysU.wpList_store w5 rfl _ _ _ 64 rfl 22 3 Tryz.underlying22 Tryz.underlying64 bl d3.nl d3.gl (T3 : Int) (.int .i64 (a1 : Int)) rfl rfl rfl HLm.out hmax hT0 hT1 ?_
                         intro w8 q1 q2
                         have HB := Lib.hid (HFin.out w8 q1 q2)
                         clear q1 q2))
                    go_meet
                    with_reducible exact HB.out
                  | some vv =>
                    have HGl : Hid (d3.gl (T3 : Int) = some (.int .i64 (a1 : Int))) := Lib.hid (by rw [hgl, HOnly.out rfl vv hgl])
                    clear hgl
                    go_wp2_with (first
                      | (refine KeysU.wpList_look w5 rfl _ _ 64 true rfl 22 3 Tryz.underlying22 Tryz.underlying64 (.int .i64 0) hzi (some bl) d3.nl d3.gl (T3 : Int) rfl rfl HLm.out hT0 hT1 ?_
                         rw [HGl.out])
                      | (refine KeysU.wpList_store w5 rfl _ _ _ 64 rfl 22 3 Tryz.underlying22 Tryz.underlying64 bl d3.nl d3.gl (T3 : Int) (.int .i64 (a1 : Int)) rfl rfl rfl HLm.out hmax hT0 hT1 ?_
                         intro w8 q1 q2
                         have HB := Lib.hid (HFin.out w8 q1 q2)
                         clear q1 q2))
                    go_meet
                    with_reducible exact HB.out
                  --TE>
                ·
                  --<TF
                  have hR2i : ((R3 : Int) == 2) = false := by simp; omega
                  have HB : Hid (In7 w1 C w1.heap.size bl ba ps k 0 d3.vn d3.ms w5) := Lib.hid ⟨⟨d3, s3, rfl, rfl, HS5.out.mono (Nat.le_refl _) (Nat.le_succ k) (Nat.le_refl _)⟩, HSi5.out⟩
                  go_wp2_with fail
                  go_meet
                  with_reducible exact HB.out
                  --TF>
              case rest =>
                --<TG
                obtain ⟨⟨d6, s6, e1, e2, hst6⟩, hsi6⟩ := hcut
                have hin : Hid (In7 w1 C w1.heap.size bl ba ps k 0 d3.vn d3.ms wc) := Lib.hid ⟨⟨d6, s6, e1, e2, hst6⟩, hsi6⟩
                clear e1 e2 hst6 hsi6
                as_aux_lemma =>
                go_wp2_with fail
                go_loopw [25] (fun x wi => ∃ (j J : Nat), j ≤ C3 ∧ j + 1 = J ∧ x = .int .u64 (J : Int) ∧ Hid (In7 w1 C w1.heap.size bl ba ps k j d3.vn d3.ms wi)) (fun x _ => C3 + 1 - (intOf x).toNat)
                case atStart => exact ⟨0, 1, Nat.zero_le _, rfl, rfl, hin⟩
                case round =>
                  obtain ⟨j, J, hj, hJ, rfl, HI⟩ := hrel
                  by_cases hjC : J ≤ C3
                  ·
                    --<TH
                    obtain ⟨⟨d7, s7, e1, e2, hst7⟩, hsi7⟩ := HI.out
                    have hcl7 := hst7.town.sev.cell ha1
                    have hjc : j < (d7.ms a1).commit := by rw [e2, HC3.out]; omega
                    obtain ⟨en, hget, hag, hsame⟩ := hst7.has ha1 hjc
                    have HLg := Lib.hid (WalkD.log_any (hst7.town.sev.nd a1 ha1))
                    have HGt := get_one hst7 ha1 (by omega) (by omega) hget
                    rw [hJ] at HGt hsame
                    have HGt := Lib.hid HGt
                    have hJb0 : (0 : Int) ≤ (J : Int) := Int.natCast_nonneg J
                    have hJb1 : (J : Int) ≤ 18446744073709551615 := by omega
                    have hna := hst7.na
                    have hmx : d7.na < maxLen := by unfold maxLen; omega
                    have HS7 := Lib.hid hst7
                    have HSi7 := Lib.hid hsi7
                    have HAg := Lib.hid hag
                    have HSame := Lib.hid hsame
                    have HJ := Lib.hid hJ
                    have HE := Lib.hid (And.intro e1 e2)
                    clear hst7 hsi7 hjc hget hag hsame e1 e2 hJ
                    as_aux_lemma =>
                    go_wp2_with fail
                    with_reducible refine HLg.out.mono ?_
                    rintro e w8 ⟨rfl, rfl⟩
                    go_wp2_with fail
                    with_reducible refine HGt.out.mono ?_
                    rintro e w9 ⟨b9, o9, c9', rfl, h49, hlt9, hb9⟩
                    have hst9 := HS7.out.below hb9
                    have HS9 := Lib.hid hst9
                    have HSi9 := Lib.hid (HSi7.out.trans (hb9.mono HSi7.out.size))
                    have HAm := Lib.hid hst9.town.am
                    have hze := zero_ent w9
                    have H4 := Lib.hid h49
                    clear hst9 hb9 h49
                    cases hga : d7.ga (J : Int) with
                    | none =>
                      --<TJ
                      have HGa := Lib.hid hga
                      clear hga
                      go_wp2_with (first
                        | (refine KeysU.wpList_look w9 rfl _ _ 76 true rfl 22 81 Tryz.underlying22 Tryz.underlying76 (.agg #[.int .u64 0, .int .u64 0, .int .i64 0, .string .empty]) hze (some ba) d7.na d7.ga (J : Int) rfl rfl HAm.out hJb0 hJb1 ?_
                           rw [HGa.out]))
                      obtain ⟨w10, hw10⟩ : ∃ w10, w9.alloc (.cells #[.int .u64 0, .int .u64 0, .int .i64 0, .string .empty] 81) = w10 := ⟨_, rfl⟩
                      have hr10 : w10.heap[w9.heap.size]? = some (.cells #[.int .u64 0, .int .u64 0, .int .i64 0, .string .empty] 81 (0, 0)) := by rw [← hw10]; exact heap_alloc_new w9 _
                      have hb10 : Below w9.heap.size w9 w10 := by rw [← hw10]; exact (Below.refl _ _).alloc (Nat.le_refl _) _
                      rw [hw10]
                      have k0 := (hb10.cell (p := ⟨b9, o9, none⟩) hlt9).trans H4.out.c0
                      have k1 := (hb10.cell (p := ⟨b9, o9 + 1, none⟩) hlt9).trans H4.out.c1
                      have k2 := (hb10.cell (p := ⟨b9, o9 + 2, none⟩) hlt9).trans H4.out.c2
                      have k3 := (hb10.cell (p := ⟨b9, o9 + 3, none⟩) hlt9).trans H4.out.c3
                      have g0 : w10.cell? ⟨w9.heap.size, 0, none⟩ = some (.int .u64 0) := by rw [cell_at hr10]; rfl
                      have g1 : w10.cell? ⟨w9.heap.size, 1, none⟩ = some (.int .u64 0) := by rw [cell_at hr10]; rfl
                      have g2 : w10.cell? ⟨w9.heap.size, 2, none⟩ = some (.int .i64 0) := by rw [cell_at hr10]; rfl
                      have g3 : w10.cell? ⟨w9.heap.size, 3, none⟩ = some (.string .empty) := by rw [cell_at hr10]; rfl
                      have hbq : ∀ n, Below w9.heap.size w9 (w10.drewN n) := fun n => below_drewN hb10 n
                      have HAm2 : Hid (∀ n, KeysU.MapAt Tryz.prog 22 (w10.drewN n) ba d7.na d7.ga) := Lib.hid fun n => (HS9.out.below (hbq n)).town.am
                      have HFin : Hid (∀ n w11, KeysU.MapAt Tryz.prog 22 w11 ba (d7.na + 1) (fun i => if i = (J : Int) then some (entV en) else d7.ga i) → Only (fun q => q = ba) (w10.drewN n) w11 → In7 w1 C w1.heap.size bl ba ps k J d3.vn d3.ms w11) := Lib.hid fun n w11 q1 q2 => by
                        have := agree_more (HS9.out.below (hbq n)) (HSi9.out.trans ((hbq n).mono HSi9.out.size)) HAg.out (by rw [HJ.out]) q1 q2
                        rw [HJ.out, HE.out.1, HE.out.2] at this
                        exact this
                      clear hb10 hr10 hw10 hbq
                      go_quiet (fail)
                      go_wp2_with (refine KeysU.wpList_store _ rfl _ _ _ 76 rfl 22 81 Tryz.underlying22 Tryz.underlying76 ba d7.na d7.ga (J : Int) (.agg #[.int .u64 (en.term : Int), .int .u64 (en.idx : Int), .int .i64 en.kind, .string en.data]) rfl rfl rfl (HAm2.out _) hmx hJb0 hJb1 ?_
                                   intro w11 q1 q2
                                   have HB := Lib.hid (HFin.out _ w11 q1 q2)
                                   clear q1 q2)
                      go_roundw
                      case rel => exact ⟨J, J + 1, hjC, rfl, by go_num, HB⟩
                      case measure => simp [intOf]; omega
                      --TJ>
                    | some vv =>
                      --<TK
                      have HGa : Hid (d7.ga (J : Int) = some (entV en)) := Lib.hid (by rw [hga, HSame.out vv hga])
                      clear hga
                      go_wp2_with (first
                        | (refine KeysU.wpList_look w9 rfl _ _ 76 true rfl 22 81 Tryz.underlying22 Tryz.underlying76 (.agg #[.int .u64 0, .int .u64 0, .int .i64 0, .string .empty]) hze (some ba) d7.na d7.ga (J : Int) rfl rfl HAm.out hJb0 hJb1 ?_
                           rw [HGa.out]
                           unfold entV))
                      obtain ⟨w10, hw10⟩ : ∃ w10, w9.alloc (.cells #[.int .u64 (en.term : Int), .int .u64 (en.idx : Int), .int .i64 en.kind, .string en.data] 81) = w10 := ⟨_, rfl⟩
                      have hr10 : w10.heap[w9.heap.size]? = some (.cells #[.int .u64 (en.term : Int), .int .u64 (en.idx : Int), .int .i64 en.kind, .string en.data] 81 (0, 0)) := by rw [← hw10]; exact heap_alloc_new w9 _
                      have hb10 : Below w9.heap.size w9 w10 := by rw [← hw10]; exact (Below.refl _ _).alloc (Nat.le_refl _) _
                      rw [hw10]
                      have k0 := (hb10.cell (p := ⟨b9, o9, none⟩) hlt9).trans H4.out.c0
                      have k1 := (hb10.cell (p := ⟨b9, o9 + 1, none⟩) hlt9).trans H4.out.c1
                      have k2 := (hb10.cell (p := ⟨b9, o9 + 2, none⟩) hlt9).trans H4.out.c2
                      have k3 := (hb10.cell (p := ⟨b9, o9 + 3, none⟩) hlt9).trans H4.out.c3
                      have g0 : w10.cell? ⟨w9.heap.size, 0, none⟩ = some (.int .u64 (en.term : Int)) := by rw [cell_at hr10]; rfl
                      have g1 : w10.cell? ⟨w9.heap.size, 1, none⟩ = some (.int .u64 (en.idx : Int)) := by rw [cell_at hr10]; rfl
                      have g2 : w10.cell? ⟨w9.heap.size, 2, none⟩ = some (.int .i64 en.kind) := by rw [cell_at hr10]; rfl
                      have g3 : w10.cell? ⟨w9.heap.size, 3, none⟩ = some (.string en.data) := by rw [cell_at hr10]; rfl
                      have hbq : ∀ n, Below w9.heap.size w9 (w10.drewN n) := fun n => below_drewN hb10 n
                      have HAm2 : Hid (∀ n, KeysU.MapAt Tryz.prog 22 (w10.drewN n) ba d7.na d7.ga) := Lib.hid fun n => (HS9.out.below (hbq n)).town.am
                      have HFin : Hid (∀ n w11, KeysU.MapAt Tryz.prog 22 w11 ba (d7.na + 1) (fun i => if i = (J : Int) then some (entV en) else d7.ga i) → Only (fun q => q = ba) (w10.drewN n) w11 → In7 w1 C w1.heap.size bl ba ps k J d3.vn d3.ms w11) := Lib.hid fun n w11 q1 q2 => by
                        have := agree_more (HS9.out.below (hbq n)) (HSi9.out.trans ((hbq n).mono HSi9.out.size)) HAg.out (by rw [HJ.out]) q1 q2
                        rw [HJ.out, HE.out.1, HE.out.2] at this
                        exact this
                      clear hb10 hr10 hw10 hbq
                      go_quiet (fail)
                      go_wp2_with (refine KeysU.wpList_store _ rfl _ _ _ 76 rfl 22 81 Tryz.underlying22 Tryz.underlying76 ba d7.na d7.ga (J : Int) (.agg #[.int .u64 (en.term : Int), .int .u64 (en.idx : Int), .int .i64 en.kind, .string en.data]) rfl rfl rfl (HAm2.out _) hmx hJb0 hJb1 ?_
                                   intro w11 q1 q2
                                   have HB := Lib.hid (HFin.out _ w11 q1 q2)
                                   clear q1 q2)
                      go_roundw
                      case rel => exact ⟨J, J + 1, hjC, rfl, by go_num, HB⟩
                      case measure => simp [intOf]; omega
                      --TK>
                    --TH>
                  ·
                    --<TI
                    have hjC3 : j = C3 := by omega
                    have HFin : Hid (Run7 w1 C w1.heap.size bl ba ps (k + 1) d3.vn wr) := by
                      obtain ⟨⟨d7, s7, e1, e2, hst7⟩, hsi7⟩ := HI.out
                      exact ⟨⟨d7, s7, e1, hst7.mono (by omega) (Nat.le_refl _) (by omega)⟩, hsi7⟩
                    go_wp2_with fail
                    go_roundw
                    case rel => exact ⟨k + 1, by omega, by go_num, HFin⟩
                    case measure => simp [intOf]; omega
                    --TI>
                --TG>
              --TC>
            --T>
        · obtain rfl : k = n := by omega
          have HB9 := Lib.hid (HB1.out.trans (HR.out.since.mono HB1.out.size))
          go_wp2
          go_ret
          exact ⟨rfl, HB9.out⟩
end Go.Proofs.YtokifeghoodkgaaGreat.LawE
set_option linter.unusedVariables false
namespace Go.Proofs.YtokifeghoodkgaaGreat.LawF
open Go.RowKit Go.Proofs.YtokifeghoodkgaaGreat.Trip

theorem elects_any (x : Int) (A : Option Addr) (n c : Nat) (w : World) (hx : (Lit.int .u64 x).wf = true) (hh : HoldsT w A n) (hn : n ≤ 9223372036854775807) :
    Calls Tryz.prog 5 #[.int .u64 x, .slice A n c] w fun e w' => e = .returned (.bool true) ∧ Below w.heap.size w w' := by
  have hb : 0 ≤ x ∧ x ≤ 18446744073709551615 := by simpa [Lit.wf, IntKind.min, IntKind.max, IntKind.signed, IntKind.bits] using hx
  obtain ⟨C, rfl⟩ : ∃ C : Nat, x = (C : Int) := ⟨x.toNat, by omega⟩
  exact LawE.elects_walk C (by omega) A n c w hh hn
end Go.Proofs.YtokifeghoodkgaaGreat.LawF
namespace Go.Proofs.YtokifeghoodkgaaGreat.PRaftElects
open Go.ChangeShapes Go.WideShapes Go.ChangeAt Go.RowKit Go.Proofs.YtokifeghoodkgaaGreat.Kit Go.Proofs.YtokifeghoodkgaaGreat.Frame
set_option linter.unusedVariables false

theorem own : ownKnob Tryz.prog.godebug = none := by kernel_rfl
theorem laidOut : laidOutB Tryz.prog = true := by kernel_rfl

set_option maxRecDepth 100000 in
theorem contract (H : Type) (enc : TypeId × Value → H) (W : World) (base : Nat) (args : Array Value) (ds gs : List (DataW H)) (before : List MemPlace)
    (hval : ∀ (j : Nat) t v, Tryz.f5.params[j]? = some t → args[j]? = some v → Value.okWide Tryz.prog W .any base t v)
    (hW : DataW.Whole enc Tryz.prog Tryz.f5.params.toList Rows.raftElectsSpec.vars false W args.toList ds gs before)
    (hs0 : (DataW.weightsEach Tryz.prog (Tryz.f5.params.toList ++ Rows.raftElectsSpec.plain.varTypes Tryz.prog) (ds ++ gs)).all (· ≤ reachBytes) = true) :
    Calls Tryz.prog 5 args W fun e W' => ∃ v, e = .returned v ∧ Rows.raftElectsSpec.post enc Tryz.prog Tryz.f5 false true false false W args v W' := by
  have hW' := hW
  have hsz : (DataW.weightsEach Tryz.prog (Tryz.f5.params.toList ++ Rows.raftElectsSpec.plain.varTypes Tryz.prog) (ds ++ gs)).all (· ≤ reachBytes) = true := hs0
  obtain ⟨p, q, hA0, hV, rfl, hfz, hnd⟩ := hW
  have hA : DataW.TrodAll enc Tryz.prog W 0 (fun _ => true) true Tryz.f5.params.toList args.toList ds p := hA0
  rw [Tryz.params5] at hA hval hsz
  obtain ⟨v0, vs0, d0, ds0, p0, q0, hargs, rfl, rfl, h0, r0⟩ := trodAll_cons hA
  obtain ⟨v1, vs1, d1, ds1, p1, q1, rfl, rfl, rfl, h1, r1⟩ := trodAll_cons r0
  obtain ⟨rfl, rfl, rfl⟩ := trodAll_nil r1
  obtain rfl : args = #[v0, v1] := by cases args; simp_all
  obtain ⟨rfl, rfl⟩ := trodVars_none hV
  have lt0 : ∀ x ∈ p0, x.block < W.heap.size := by obtain ⟨m, hm⟩ := h0; exact DataW.trod_lt m _ _ _ hm
  have k0 := h0
  obtain ⟨x0, rfl, e0, g0, hw0⟩ := open_int Tryz.underlying22 (hval 0 22 v0 rfl rfl) k0
  have lt1 : ∀ x ∈ p1, x.block < W.heap.size := by obtain ⟨m, hm⟩ := h1; exact DataW.trod_lt m _ _ _ hm
  obtain ⟨A1, n1, c1, rfl, hh1_0, hn1_1⟩ := Trip.arg_trips (hval 1 73 v1 rfl rfl) h1
  clear hA0
  refine (LawF.elects_any x0 A1 n1 c1 W hw0 hh1_0 hn1_1).mono fun e W' ⟨he, bel⟩ => ?_
  subst he
  exact ⟨_, rfl, _, _, _, [], _, [], hW', trodAll_mk1 (shut_bool Tryz.underlying4 _), (trodAll_cons_mk (Below.trod laidOut (by kernel_rfl) (of_decide_eq_true (by kernel_rfl)) h0 bel lt0) (trodAll_cons_mk (Below.trod laidOut (by kernel_rfl) (of_decide_eq_true (by kernel_rfl)) h1 bel lt1) trodAll_mk0)), rfl, bel.frame _, fun h => by cases h⟩

set_option maxRecDepth 100000 in
theorem lifted (os : Os) (started : os.Started) (H : Type) (enc : TypeId × Value → H) :
    ReturnsInHanded {} Tryz.checked os 5 .any (Rows.raftElectsSpec.pre6 enc Tryz.prog Tryz.f5 Rows.raftElectsRow.domain false) (Rows.raftElectsSpec.post enc Tryz.prog Tryz.f5 false true false false) := by
  refine returnsInHanded_of_change_sized (C := Tryz.checked) own started (by kernel_rfl) Tryz.func5
    (ChangeSpec.witness6 (enc := enc) (C := Tryz.checked) false ⟨#[], #[.int .u64 0, .slice none 0 0], []⟩ 8 (by kernel_rfl) (by kernel_rfl) (by kernel_rfl) (by kernel_rfl)) ?_
  intro W base args ds gs before hval hW _ hs _
  exact contract H enc W base args ds gs before hval hW hs

theorem over : Rows.raftElectsRow.holds Tryz.pinned (OpenSpec.ofChange Rows.raftElectsSpec) :=
  OpenClaim.holds_of_wide 5 Tryz.f5 rfl rfl rfl rfl rfl rfl rfl ⟨rfl, rfl, rfl, rfl, rfl⟩ rfl rfl rfl rfl rfl (by kernel_rfl) Tryz.func5 (by kernel_rfl)
    (of_decide_eq_true (by kernel_rfl)) (by unfold Func.isWrapper; first | (rw [if_pos (by decide +kernel)]; kernel_rfl) | (rw [if_neg (by decide +kernel)]; exact ⟨rfl, rfl⟩))
    (fun os started H enc _ => lifted os started H enc)

theorem proved : Rows.RaftElectsSaid := over
end Go.Proofs.YtokifeghoodkgaaGreat.PRaftElects
