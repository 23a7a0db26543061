/- What drop and Cut leave, walked. -/
import Derived.Test.YtdbmpfongfiagaaRlgWalkF
set_option linter.unusedVariables false
namespace Go.Proofs.Ytdbmpfongfiagaa.RlgWalkG
open Go.RowKit Go.Proofs.Ytdbmpfongfiagaa.Kit Go.Proofs.Ytdbmpfongfiagaa.Blocks Go.Proofs.Ytdbmpfongfiagaa.Rlog Go.Proofs.Ytdbmpfongfiagaa.Ents Go.Proofs.Ytdbmpfongfiagaa.LogAt Go.Proofs.Ytdbmpfongfiagaa.App Go.Proofs.Ytdbmpfongfiagaa.RlgWalkA Go.Proofs.Ytdbmpfongfiagaa.RlgWalkB Go.Proofs.Ytdbmpfongfiagaa.RlgWalkC Go.Proofs.Ytdbmpfongfiagaa.RlgWalkD Go.Proofs.Ytdbmpfongfiagaa.RlgWalkE Go.Proofs.Ytdbmpfongfiagaa.RlgWalkF

/-- A call that answers nothing leaves this log. -/
def Leaves0 (T : TypeId) (B : Nat) (w : World) (p : Nat) (v : Value) (g' : G) (e : Ending) (w' : World) : Prop := e = .returned (.tuple #[]) ∧ LeftL T B w p v g' w'
section
variable {B p : Nat} {v : Value} {g : G} {w : World} (h : LP B w p v g)
include h
set_option maxRecDepth 100000 in
/-- The first k entries are gone. -/
theorem drop_any (k : Nat) (hk : k ≤ g.es.length) (hl : g.es.length * 40 ≤ 140737488355328) : Calls Try.prog 73 #[.pointer (some ⟨p, 0, none⟩), .int .i64 (k : Int)] w (Leaves0 61 B w p v { g with es := g.es.drop k }) := by
  have c4 := h.c4
  have hlt := h.lt
  have hbase := h.base
  obtain ⟨A, c, rfl, hnc, hcm, hr⟩ := h.form
  have hfrom := RE.from_ hr hk hnc
  have hsl := run_from4 (P := Try.prog) 27 57 Try.underlying27 sz4 A g.es.length c k hk
  have hlen : g.es.length - k = (g.es.drop k).length := by rw [List.length_drop]
  obtain ⟨m, hm⟩ : ∃ m, g.es.length - k = m := ⟨_, rfl⟩
  obtain ⟨A2, hA2⟩ : ∃ A2, cut4 A c k = A2 := ⟨_, rfl⟩
  obtain ⟨c2, hc2⟩ : ∃ c2, c - k = c2 := ⟨_, rfl⟩
  rw [hm] at hlen
  rw [hm, hA2] at hfrom
  rw [hm, hA2, hc2] at hsl
  have hm40 : m * 40 ≤ 140737488355328 := by omega
  have H := Lib.hid h
  have HLen := Lib.hid hlen
  clear hlen hm hA2 hc2 h
  go_enter Try.func73, Try.ntmps73
  go_wp2_with (first
    | (at_builtin
       refine wpList_new _ rfl _ _ rfl B rfl rfl hfrom (ecells_one _) hm40 hbase ?_
       intro A' c' w1 hown1 hb1 hat1
       obtain ⟨hcell1, hfr1, hleft⟩ := H.out.rowed (Only.of_below hb1) hown1 HLen.out rfl (fun q hq => .inr (hat1 q hq))
       have HL := Lib.hid hleft
       have hlt1 : p < w1.heap.size := Nat.lt_of_lt_of_le hlt hb1.size
       clear hleft hown1 hat1))
  go_end0
  exact ⟨rfl, HL.out⟩
set_option maxRecDepth 100000 in
/-- All entries from an index on are gone. -/
theorem cut_none {i : Nat} (hb : i < 18446744073709551616) (hp : place g i = none) : Calls Try.prog 72 #[.pointer (some ⟨p, 0, none⟩), .int .u64 (i : Int)] w (Leaves0 61 B w p v (cut g i)) := by
  have HP := Lib.hid (place_not h hb hp)
  have hc : cut g i = g := by unfold cut upto; rw [hp]
  rw [hc]
  clear hp hc
  go_enter Try.func72, Try.ntmps72
  go_wp2_with fail
  refine HP.out.mono ?_
  rintro e w1 ⟨rfl, rfl⟩
  go_wp2
  go_end0
  exact ⟨rfl, LeftL.refl h⟩
set_option maxRecDepth 100000 in
set_option maxHeartbeats 1000000 in
theorem cut_some {i k : Nat} (hb : i < 18446744073709551616) (hp : place g i = some k) : Calls Try.prog 72 #[.pointer (some ⟨p, 0, none⟩), .int .u64 (i : Int)] w (Leaves0 61 B w p v (cut g i)) := by
  have HP := Lib.hid (place_some h hb hp)
  have hc : cut g i = { g with es := g.es.take k } := by unfold cut upto; rw [hp]
  rw [hc]
  have hk := (place_lt hp).1
  have hd := h.drew
  have hlt := h.lt
  obtain ⟨b, c, hv⟩ : ∃ b c, v = .slice (some ⟨b, 0, none⟩) g.es.length c := by
    rcases h.own.2 with ⟨_, h0⟩ | ⟨b, c, cur, hv, _⟩
    · omega
    · exact ⟨b, c, hv⟩
  subst hv
  have c4 : w.drew.cell? ⟨p, 4, none⟩ = _ := hd.c4
  have hltd : p < w.drew.heap.size := hlt
  have hdel := delete_any B b g.es.length c k g.es w.drew hd.own hk
  have hlen : k = (g.es.take k).length := by rw [List.length_take]; omega
  obtain ⟨n, hn⟩ : ∃ n, g.es.length = n := ⟨_, rfl⟩
  rw [hn] at c4 hdel
  have HD := Lib.hid hdel
  have HH := Lib.hid hd
  have HN := Lib.hid hn
  have HLen := Lib.hid hlen
  clear hp hc hdel hd h hn hlen
  go_enter Try.func72, Try.ntmps72
  go_wp2_with fail
  refine HP.out.mono ?_
  rintro e w1 ⟨rfl, rfl⟩
  go_wp2_with fail
  go_region_with
    (first
      | (go_at_call 83
         refine HD.out.mono ?_
         rintro e w2 ⟨rfl, hown2, ho2⟩
         obtain ⟨hcell1, hfr1, hleft⟩ := HH.out.rowed (w1 := w2) (n := k) (xs := ecells (g.es.take k)) (es := g.es.take k) (ho2.mono fun q _ hq => by rw [hq]; rfl) hown2 HLen.out rfl (fun q hq => .inl hq)
         rw [HN.out] at hcell1
         have HL := Lib.hid hleft
         have hlt2 : p < w2.heap.size := Nat.lt_of_lt_of_le hlt ho2.size
         clear hleft hown2))
  all_goals go_wp2
  all_goals go_end0
  all_goals exact ⟨rfl, LeftL.afterBelow ((Below.refl _ _).drew) HL.out⟩
theorem cut_any {i : Nat} (hb : i < 18446744073709551616) : Calls Try.prog 72 #[.pointer (some ⟨p, 0, none⟩), .int .u64 (i : Int)] w (Leaves0 61 B w p v (cut g i)) := by
  cases hp : place g i with
  | none => exact cut_none h hb hp
  | some k => exact cut_some h hb hp
end
end Go.Proofs.Ytdbmpfongfiagaa.RlgWalkG
