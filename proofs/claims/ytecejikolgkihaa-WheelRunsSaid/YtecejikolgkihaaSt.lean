/- What is asked of both wheels behind each call. -/
import Derived.Test.YtecejikolgkihaaTwo
set_option linter.unusedVariables false
namespace Go.Proofs.Ytecejikolgkihaa.St
open Go.RowKit Go.Proofs.Ytecejikolgkihaa.Kit Go.Proofs.Ytecejikolgkihaa.Blocks Go.Proofs.Ytecejikolgkihaa.Whl Go.Proofs.Ytecejikolgkihaa.Tms Go.Proofs.Ytecejikolgkihaa.WAt Go.Proofs.Ytecejikolgkihaa.WalkG Go.Proofs.Ytecejikolgkihaa.WalkH Go.Proofs.Ytecejikolgkihaa.WalkI Go.Proofs.Ytecejikolgkihaa.Sol Go.Proofs.Ytecejikolgkihaa.RMem Go.Proofs.Ytecejikolgkihaa.RStop Go.Proofs.Ytecejikolgkihaa.Two

def Sta (B : Nat) (w0 : World) (p q T : Nat) (D : List Tm) (A : Option Addr) (m c : Nat) (w : World) : Prop := Pr B p q T D T D w ∧ w.cell? ⟨q, 1, none⟩ = some (.slice A m c) ∧ Below B w0 w
section
variable {B : Nat} {w w' w0 : World} {p q T m c : Nat} {D : List Tm} {A : Option Addr}
theorem Sta.next (h : Sta B w0 p q T D A m c w) (k : Below w.heap.size w w') : Sta B w0 p q T D A m c w' :=
  ⟨h.1.below k, (k.cell (p := ⟨q, 1, none⟩) h.1.qlt).trans h.2.1, h.2.2.trans (k.mono h.1.base)⟩
theorem Sta.drew (h : Sta B w0 p q T D A m c w) : Sta B w0 p q T D A m c w.drew := h.next ((Below.refl _ _).drew)
theorem sta_of (h : Pr B p q T D T D w) (hb : Below B w0 w) (hm : Hid (D.length = m)) : ∃ A c, Sta B w0 p q T D A m c w := by
  obtain ⟨A, c, hc⟩ := h.c1 hm
  exact ⟨A, c, h, hc, hb⟩
theorem s_now (h : Sta B w0 p q T D A m c w) : Calls Try.prog 18 #[.pointer (some ⟨p, 0, none⟩)] w fun e w' => e = .returned (.int .u64 (T : Int)) ∧ Sta B w0 p q T D A m c w' :=
  (p_now h.1).mono fun e w' ⟨he, _, k⟩ => ⟨he, h.next k⟩
theorem s_len (h : Sta B w0 p q T D A m c w) (hm : Hid (D.length = m)) : Calls Try.prog 19 #[.pointer (some ⟨p, 0, none⟩)] w fun e w' => e = .returned (.int .i64 (m : Int)) ∧ Sta B w0 p q T D A m c w' :=
  (p_len h.1 hm).mono fun e w' ⟨he, _, k⟩ => ⟨he, h.next k⟩
theorem s_due (h : Sta B w0 p q T D A m c w) (hn : T < 4611686018427387904) {z : Nat} (hz : Hid (next T D = z)) : Calls Try.prog 20 #[.pointer (some ⟨p, 0, none⟩)] w fun e w' => e = .returned (.int .u64 (z : Int)) ∧ Sta B w0 p q T D A m c w' :=
  (p_due h.1 hn hz).mono fun e w' ⟨he, _, k⟩ => ⟨he, h.next k⟩
theorem s_next (h : Sta B w0 p q T D A m c w) (hok : Ok T D) (hn : T < 4611686018427387904) {z : Nat} (hz : Hid (next T D = z)) : Calls Try.prog 21 #[.pointer (some ⟨q, 0, none⟩)] w fun e w' => e = .returned (.int .u64 (z : Int)) ∧ Sta B w0 p q T D A m c w' :=
  (m_next h.1 hok hn hz).mono fun e w' ⟨he, _, k⟩ => ⟨he, h.next k⟩
/-- Both wheels, as they begin. -/
theorem pr_new {B : Nat} {x : Fx} {vs : Nat → Value} (h : WAt w.heap.size w' x vs 0 (fun _ => [])) (hb : Below w.heap.size w w') (hB : B ≤ w.heap.size) :
    Pr B x.p w'.heap.size 0 [] 0 [] (w'.alloc (.cells #[.int .u64 0, .slice none 0 0, .slice none 0 0] 31)) := by
  have hba : Below w'.heap.size w' (w'.alloc (.cells #[.int .u64 0, .slice none 0 0, .slice none 0 0] 31)) := (Below.refl _ _).alloc (Nat.le_refl _) _
  refine ⟨x, vs, .slice none 0 0, .slice none 0 0, rfl, ⟨(h.below hba).lower hB, Ok.nil 0⟩, ⟨Nat.le_trans hB hb.size, heap_alloc_new w' _, World.ownsRow_nil _ _ _ _, World.ownsRow_nil _ _ _ _, by simp [Value.ownBlock], by simp [Value.ownBlock], by intro g hg; simp [Value.ownBlock] at hg⟩, fun g hg hr => ?_⟩
  rcases hr with e | e | e
  · have := (h.foot_lt hg).2; omega
  · simp [Value.ownBlock] at e
  · simp [Value.ownBlock] at e
end
end Go.Proofs.Ytecejikolgkihaa.St
