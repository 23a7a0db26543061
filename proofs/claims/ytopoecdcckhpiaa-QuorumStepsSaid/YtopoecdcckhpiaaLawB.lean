/- The statements on reached numbers and on changes, walked. -/
import Derived.Test.YtopoecdcckhpiaaBegun
import Derived.Test.YtopoecdcckhpiaaArrs
namespace Go.Proofs.Ytopoecdcckhpiaa.LawB
open Go.RowKit Go.Proofs.Ytopoecdcckhpiaa.Kit Go.Proofs.Ytopoecdcckhpiaa.Blocks Go.Proofs.Ytopoecdcckhpiaa.Quorum Go.Proofs.Ytopoecdcckhpiaa.WalkA Go.Proofs.Ytopoecdcckhpiaa.WalkB Go.Proofs.Ytopoecdcckhpiaa.WalkC Go.Proofs.Ytopoecdcckhpiaa.WalkD Go.Proofs.Ytopoecdcckhpiaa.Told Go.Proofs.Ytopoecdcckhpiaa.Sorting Go.Proofs.Ytopoecdcckhpiaa.Reach Go.Proofs.Ytopoecdcckhpiaa.RefReach Go.Proofs.Ytopoecdcckhpiaa.Change Go.Proofs.Ytopoecdcckhpiaa.Begun

/-- Numbers of 64 bits that came in, as naturals. -/
theorem u64s_nat : ∀ {zs : List Int}, (∀ z ∈ zs, (Lit.int .u64 z).wf = true) → ∃ l : List Nat, zs.map (Value.int .u64) = unums l ∧ l.length = zs.length ∧ ∀ x ∈ l, x < 2 ^ 64
  | [], _ => ⟨[], rfl, rfl, by simp⟩
  | z :: r, h => by
    obtain ⟨s, rfl, hs⟩ := u64_nat (h z (by simp))
    obtain ⟨l, h1, h2, h3⟩ := u64s_nat (zs := r) fun z hz => h z (by simp [hz])
    refine ⟨s :: l, by simp only [List.map_cons, h1]; rfl, by simp [h2], fun x hx => ?_⟩
    rcases List.mem_cons.1 hx with rfl | hx
    · exact hs
    · exact h3 x hx

set_option maxHeartbeats 1000000 in
theorem reaches_any (c : Nat) (A : Option Addr) (n cap : Nat) (l : List Nat) (w : World) (hc : c < 2 ^ 64) (hr : Reads w w.heap.size 1 A n (unums l)) : Calls Try.prog 4 #[.int .u64 (c : Int), .slice A n cap] w fun e w' => e = .returned (.bool true) ∧ Below w.heap.size w w' := by
  have HR := Lib.hid hr
  clear hr
  go_enter Try.func4, Try.ntmps4
  go_wp2_with fail
  refine (begun_any _).mono ?_
  rintro e wa ⟨rfl, hba⟩
  have hra : Reads wa wa.heap.size 1 A n (unums l) := (HR.out.below hba).more hba.size
  go_wp2_with fail
  refine (reached_any c hc A n cap l _ hra).mono ?_
  rintro e wb ⟨r, rfl, hi, hbb⟩
  have hrb : Reads wb wb.heap.size 1 A n (unums l) := (hra.below hbb).more hbb.size
  have hbw : Below w.heap.size w wb := hba.trans (hbb.mono hba.size)
  clear hra hba hbb
  go_wp2_with fail
  refine (rreached_any c hc A n cap l _ hrb).mono ?_
  rintro e wc ⟨r', rfl, hi', hbc⟩
  obtain rfl := hi.unique hi'
  have e4 : ((r : Int) == (r : Int)) = true := by simp
  have hbz : Below w.heap.size w wc := hbw.trans (hbc.mono hbw.size)
  clear hrb hbc hbw hi hi'
  go_wp2
  go_ret
  exact ⟨rfl, hbz⟩
theorem reaches_walk (x : Int) (A : Option Addr) (n cap : Nat) (zs : List Int) (w : World) (hx : (Lit.int .u64 x).wf = true) (h : Arrs.CameI w .u64 A n cap zs) : Calls Try.prog 4 #[.int .u64 x, .slice A n cap] w fun e w' => e = .returned (.bool true) ∧ Below w.heap.size w w' := by
  obtain ⟨c, rfl, hc⟩ := u64_nat hx
  obtain ⟨l, h1, _, _⟩ := u64s_nat h.wf
  have hr := h.reads
  rw [h1] at hr
  exact reaches_any c A n cap l w hc hr
end Go.Proofs.Ytopoecdcckhpiaa.LawB
