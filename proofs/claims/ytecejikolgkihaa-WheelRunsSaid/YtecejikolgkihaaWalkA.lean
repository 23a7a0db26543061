/- What list, lay, soonest, sizes leave, walked. -/
import Derived.Test.YtecejikolgkihaaWAt
import Derived.BigRegion
set_option linter.unusedVariables false
namespace Go.Proofs.Ytecejikolgkihaa.WalkA
open Go.RowKit Go.Proofs.Ytecejikolgkihaa.Kit Go.Proofs.Ytecejikolgkihaa.Blocks Go.Proofs.Ytecejikolgkihaa.Whl Go.Proofs.Ytecejikolgkihaa.Tms Go.Proofs.Ytecejikolgkihaa.WAt

section
variable {B : Nat} {w : World} {x : Fx} {vs : Nat → Value} {now : Nat} {f : Nat → List Tm}
set_option maxRecDepth 100000 in
theorem list_any (h : WAt B w x vs now f) (hn : now < 18446744073709551616) {d : Nat} (hd : d < 18446744073709551616) :
    Calls Try.prog 29 #[.pointer (some ⟨x.p, 0, none⟩), .int .u64 (d : Int)] w fun e w' => e = .returned (.pointer (some (spot x (plc now d)))) ∧ Below w.heap.size w w' := by
  have hmx : Try.prog.follows .mixedOrders = true := by kernel_rfl
  have H := Lib.hid h
  have c1 := h.c1
  clear h
  go_enter Try.func29, Try.ntmps29
  go_wp2
  go_loopw [5, 14] (fun y i wr => (i = .int .i64 0 ∧ y = .int .u64 1 ∨ i = .int .i64 1 ∧ y = .int .u64 64 ∧ ¬ d / 64 = now / 64 ∨ i = .int .i64 2 ∧ y = .int .u64 8192 ∧ ¬ d / 64 = now / 64 ∧ ¬ d / 8192 = now / 8192 ∨ i = .int .i64 3 ∧ y = .int .u64 2097152 ∧ ¬ d / 64 = now / 64 ∧ ¬ d / 8192 = now / 8192 ∧ ¬ d / 2097152 = now / 2097152) ∧ Below w.heap.size w wr) (fun _ i _ => 3 - (intOf i).toNat)
  case atStart => exact ⟨.inl ⟨rfl, rfl⟩, Below.refl _ _⟩
  case round =>
    obtain ⟨hi, hb⟩ := hrel
    have hw := H.out.below hb
    have k0 := hw.c0
    have k1 := hw.c1
    have q0 := hw.r0
    have q1 := hw.r1
    have q2 := hw.r2
    clear hw
    rcases hi with ⟨rfl, rfl⟩ | ⟨rfl, rfl, e1⟩ | ⟨rfl, rfl, e1, e2⟩ | ⟨rfl, rfl, e1, e2, e3⟩
    · have hyes : d / 64 = now / 64 → ((d : Int) / 64 == (now : Int) / 64) = true := fun e => by simp; omega
      have hno : ¬ d / 64 = now / 64 → ((d : Int) / 64 == (now : Int) / 64) = false := fun e => by simp; omega
      by_cases e : d / 64 = now / 64
      · have ht := hyes e
        have hsp : spot x (plc now d) = ⟨x.a, d % 64, none⟩ := by
          unfold plc
          rw [if_pos e]
          unfold spot
          rw [if_pos (by omega)]
        have HS := Lib.hid hsp
        clear hsp hyes hno e
        go_wp2
        go_region
        go_wp2
        go_ret
        exact ⟨by rw [HS.out]; rfl, hb.drew⟩
      · have ht := hno e
        clear hyes hno
        go_wp2
        go_region
        go_wp2
        go_roundw
        case rel => exact ⟨.inr (.inl ⟨rfl, rfl, e⟩), hb.drew⟩
        case measure => simp [intOf]
    · have hyes : d / 8192 = now / 8192 → ((d : Int) / 8192 == (now : Int) / 8192) = true := fun e => by simp; omega
      have hno : ¬ d / 8192 = now / 8192 → ((d : Int) / 8192 == (now : Int) / 8192) = false := fun e => by simp; omega
      by_cases e : d / 8192 = now / 8192
      · have ht := hyes e
        have hsp : spot x (plc now d) = ⟨x.b, d % 8192 / 64, none⟩ := by
          unfold plc
          rw [if_neg e1]
          rw [if_pos e]
          unfold spot
          rw [if_neg (by omega), if_pos (by omega)]
          congr 1
          omega
        obtain ⟨K, hK⟩ : ∃ K, d % 8192 / 64 = K := ⟨_, rfl⟩
        have hK0 : (d : Int) % 8192 / 64 = (K : Int) := by omega
        have hKn : K < 128 := by omega
        rw [hK] at hsp
        have HS := Lib.hid hsp
        clear hsp hK hyes hno e
        go_wp2
        go_region
        go_wp2
        go_ret
        exact ⟨by rw [HS.out]; rfl, hb.drew⟩
      · have ht := hno e
        clear hyes hno
        go_wp2
        go_region
        go_wp2
        go_roundw
        case rel => exact ⟨.inr (.inr (.inl ⟨rfl, rfl, e1, e⟩)), hb.drew⟩
        case measure => simp [intOf]
    · have hyes : d / 2097152 = now / 2097152 → ((d : Int) / 2097152 == (now : Int) / 2097152) = true := fun e => by simp; omega
      have hno : ¬ d / 2097152 = now / 2097152 → ((d : Int) / 2097152 == (now : Int) / 2097152) = false := fun e => by simp; omega
      by_cases e : d / 2097152 = now / 2097152
      · have ht := hyes e
        have hsp : spot x (plc now d) = ⟨x.d, d % 2097152 / 8192, none⟩ := by
          unfold plc
          rw [if_neg e1]
          rw [if_neg e2]
          rw [if_pos e]
          unfold spot
          rw [if_neg (by omega), if_neg (by omega), if_pos (by omega)]
          congr 1
          omega
        obtain ⟨K, hK⟩ : ∃ K, d % 2097152 / 8192 = K := ⟨_, rfl⟩
        have hK0 : (d : Int) % 2097152 / 8192 = (K : Int) := by omega
        have hKn : K < 256 := by omega
        rw [hK] at hsp
        have HS := Lib.hid hsp
        clear hsp hK hyes hno e
        go_wp2
        go_region
        go_wp2
        go_ret
        exact ⟨by rw [HS.out]; rfl, hb.drew⟩
      · have ht := hno e
        clear hyes hno
        go_wp2
        go_region
        go_wp2
        go_roundw
        case rel => exact ⟨.inr (.inr (.inr ⟨rfl, rfl, e1, e2, e⟩)), hb.drew⟩
        case measure => simp [intOf]
    · have hsp : spot x (plc now d) = ⟨x.p, 2, none⟩ := by
        unfold plc
        rw [if_neg e1, if_neg e2, if_neg e3]
        rfl
      have HS := Lib.hid hsp
      clear hsp
      go_wp2
      go_ret
      exact ⟨by rw [HS.out]; rfl, hb⟩
end
end Go.Proofs.Ytecejikolgkihaa.WalkA
