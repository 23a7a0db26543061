/- What the program's joining of two sums answers, and the document's, walked. -/
import Derived.Test.YtokfkihcofpfpaaDoorMatC
namespace Go.Proofs.YtokfkihcofpfpaaDoor.Join
open Go.RowKit Go.Proofs.YtokfkihcofpfpaaDoor.Kit Go.Proofs.YtokfkihcofpfpaaDoor.Crc Go.Proofs.YtokfkihcofpfpaaDoor.SumA Go.Proofs.YtokfkihcofpfpaaDoor.SumB Go.Proofs.YtokfkihcofpfpaaDoor.MatA Go.Proofs.YtokfkihcofpfpaaDoor.MatB Go.Proofs.YtokfkihcofpfpaaDoor.MatC

theorem squared_hid (M M2 : Array Value) (k k2 : Nat) (hM : Hid (M = cells (cols k))) (hM2 : Hid (M2 = cells (cols k2))) (hk : Hid (k2 = 2 * k)) (w : World) :
    Calls Tryd.prog 17 #[.agg M] w fun e w' => e = .returned (.agg M2) ∧ Below w.heap.size w w' := by
  have := squared_any M k hM.out w
  rwa [← hk.out, ← hM2.out] at this
theorem halving_hid (M : Array Value) (hM : Hid (M = cells (cols 1))) (w : World) :
    Calls Tryd.prog 16 #[] w fun e w' => e = .returned (.agg M) ∧ Below w.heap.size w w' := by
  have := halving_any w
  rwa [← hM.out] at this

theorem join_below (a b : Nat) (n : Int) (hn : n < 0) (w : World) :
    Calls Tryd.prog 13 #[.int .u32 (a : Int), .int .u32 (b : Int), .int .i64 n] w fun e w' => e = .returned (.int .u32 0) ∧ Below w.heap.size w w' := by
  go_enter Tryd.func13, Tryd.ntmps13
  go_wp2
  go_ret
  exact ⟨rfl, Below.refl _ _⟩

theorem i64_and1 (m : Nat) (h : m ≤ 9223372036854775807) : bits .and .i64 (m : Int) 1 = ((m % 2 : Nat) : Int) := by
  have h1 : (BitVec.ofInt 64 (m : Int)).toNat = m := by rw [BitVec.ofInt_natCast, BitVec.toNat_ofNat]; exact Nat.mod_eq_of_lt (by omega)
  have h2 : (BitVec.ofInt 64 1).toNat = 1 := by decide
  show IntKind.i64.wrap ((BitVec.ofInt 64 (m : Int) &&& BitVec.ofInt 64 1).toNat : Nat) = _
  rw [BitVec.toNat_and, h1, h2, Nat.and_one_is_mod, IntKind.wrap_i64]
  omega

set_option maxHeartbeats 1000000 in
theorem join_any (a b n : Nat) (ha : a < 2 ^ 32) (hb' : b < 2 ^ 32) (hn : n ≤ 9223372036854775807) (w : World) :
    Calls Tryd.prog 13 #[.int .u32 (a : Int), .int .u32 (b : Int), .int .i64 (n : Int)] w fun e w' => e = .returned (.int .u32 (join a b n : Nat)) ∧ Below w.heap.size w w' := by
  obtain ⟨M1, h1⟩ : ∃ M, M = cells (cols 1) := ⟨_, rfl⟩
  obtain ⟨M2, h2⟩ : ∃ M, M = cells (cols 2) := ⟨_, rfl⟩
  obtain ⟨M4, h4⟩ : ∃ M, M = cells (cols 4) := ⟨_, rfl⟩
  obtain ⟨M8, h8⟩ : ∃ M, M = cells (cols 8) := ⟨_, rfl⟩
  have hz := (zero_of_info zero39).1
  have H1 := Lib.hid h1
  have H2 := Lib.hid h2
  have H4 := Lib.hid h4
  have H8 := Lib.hid h8
  clear h1 h2 h4 h8
  go_enter Tryd.func13, Tryd.ntmps13
  go_wp2_with fail
  refine (halving_hid M1 H1 _).mono ?_
  rintro e w1 ⟨rfl, b1⟩
  go_wp2_with fail
  refine (squared_hid M1 M2 1 2 H1 H2 rfl _).mono ?_
  rintro e w2 ⟨rfl, b2⟩
  go_wp2_with fail
  refine (squared_hid M2 M4 2 4 H2 H4 rfl _).mono ?_
  rintro e w3 ⟨rfl, b3⟩
  go_wp2_with fail
  refine (squared_hid M4 M8 4 8 H4 H8 rfl _).mono ?_
  rintro e w4 ⟨rfl, b4⟩
  have hbel4 : Below w.heap.size w w4 := ((b1.trans (b2.mono b1.size)).trans (b3.mono (Nat.le_trans b1.size b2.size))).trans (b4.mono (Nat.le_trans b1.size (Nat.le_trans b2.size b3.size)))
  clear b1 b2 b3 b4
  obtain ⟨g, hg⟩ : ∃ g, g = w4.heap.size := ⟨_, rfl⟩
  have hsz8 : M8.size = 32 := by rw [H8.out, cells_size, cols_length]
  have HS8 := Lib.hid hsz8
  have HO8 : Hid (M8.all (·.oneCell') = true) := by show _ = _; rw [H8.out]; exact cells_one _
  clear hsz8
  go_wp2_with (refine wpList_store_row rfl 39 _ _ rfl w4.heap.size M8 rfl rfl 39 noCols (heap_alloc_new _ _) (by rw [HS8.out]; exact info39) (by rw [HS8.out, noCols_size]) HO8.out ?_)
  simp only [Act.put]
  go_loopw [2, 7] (fun i x wr => ∃ (m y k : Nat) (M : Array Value), m ≤ n ∧ i = .int .i64 m ∧ x = .int .u32 (y : Int) ∧ y < 2 ^ 32 ∧ Hid (M = cells (cols k)) ∧ Hid (hk (k * m) y = hk (8 * n) a) ∧
      Hid (wr.heap[w4.heap.size]? = some (.cells M 39)) ∧ Below w.heap.size w wr)
    (fun i _ _ => (intOf i).toNat)
  case atStart =>
    refine ⟨n, a, 8, M8, Nat.le_refl _, rfl, rfl, ha, H8, rfl, ?_, below_setRow (hbel4.alloc hbel4.size _) hbel4.size _⟩
    exact setRow_heap _ _ _ _ _ _ (heap_alloc_new _ _)
  case round =>
    obtain ⟨m, y, k, M, hm, rfl, rfl, hy, HM, HI, HR, hbel⟩ := hrel
    have HS : Hid (M.size = 32) := by show _ = _; rw [HM.out, cells_size, cols_length]
    have hb := i64_and1 m (by omega)
    by_cases hm0 : 0 < m
    · by_cases hodd : m % 2 = 1
      · rw [hodd] at hb
        have HI2 := join_odd k m y hodd
        obtain ⟨z, hz1⟩ : ∃ z, hk k y = z := ⟨_, rfl⟩
        have hzl : z < 2 ^ 32 := by rw [← hz1]; exact hk_lt _ hy
        have HZ := Lib.hid hz1
        have HI3 : Hid (hk (2 * k * (m / 2)) z = hk (8 * n) a) := by show _ = _; rw [← hz1, HI2, HI.out]
        have HOD := Lib.hid hodd
        clear hz1 HI2 hodd
        obtain ⟨M2', hM2⟩ : ∃ M', M' = cells (cols (2 * k)) := ⟨_, rfl⟩
        have hs2 : M2'.size = 32 := by rw [hM2, cells_size, cols_length]
        have HM2 := Lib.hid hM2
        have HS2 := Lib.hid hs2
        have HO2 : Hid (M2'.all (·.oneCell') = true) := by show _ = _; rw [HM2.out]; exact cells_one _
        clear hM2 hs2
        go_wp2_with (refine wpList_load_row rfl 39 _ rfl w4.heap.size rfl 39 M (0, 0) _ HR.out Tryd.underlying39 rfl (by rw [HS.out]; exact info39) ?_)
        refine (times_hid M k y z HM hy HZ _).mono ?_
        rintro e w5 ⟨rfl, b5⟩
        have HR5 : Hid (w5.heap[w4.heap.size]? = some (.cells M 39)) := (b5.block _ (lt_of_row HR.out)).trans HR.out
        have hbel5 : Below w.heap.size w w5 := hbel.trans (b5.mono hbel.size)
        clear b5
        go_wp2_with (refine wpList_load_row rfl 39 _ rfl w4.heap.size rfl 39 M (0, 0) _ HR5.out Tryd.underlying39 rfl (by rw [HS.out]; exact info39) ?_)
        refine (squared_hid M M2' k (2 * k) HM HM2 rfl _).mono ?_
        rintro e w6 ⟨rfl, b6⟩
        have HR6 : Hid (w6.heap[w4.heap.size]? = some (.cells M 39)) := (b6.block _ (lt_of_row HR5.out)).trans HR5.out
        have hbel6 : Below w.heap.size w w6 := hbel5.trans (b6.mono hbel5.size)
        clear b6
        go_wp2_with (refine wpList_store_row rfl 39 _ _ rfl w4.heap.size M2' rfl rfl 39 M HR6.out (by rw [HS2.out]; exact info39) (by rw [HS2.out, HS.out]) HO2.out ?_)
        simp only [Act.put]
        go_roundw
        case rel =>
          refine ⟨m / 2, z, 2 * k, M2', by omega, by simp, rfl, hzl, HM2, HI3, ?_, below_setRow hbel6 hbel4.size _⟩
          exact setRow_heap _ _ _ _ _ _ HR6.out
        case measure => simp [intOf]; omega
      · have hev : m % 2 = 0 := by omega
        rw [hev] at hb
        have HI3 : Hid (hk (2 * k * (m / 2)) y = hk (8 * n) a) := by show _ = _; rw [join_even k m y hev, HI.out]
        clear hev hodd
        obtain ⟨M2', hM2⟩ : ∃ M', M' = cells (cols (2 * k)) := ⟨_, rfl⟩
        have hs2 : M2'.size = 32 := by rw [hM2, cells_size, cols_length]
        have HM2 := Lib.hid hM2
        have HS2 := Lib.hid hs2
        have HO2 : Hid (M2'.all (·.oneCell') = true) := by show _ = _; rw [HM2.out]; exact cells_one _
        clear hM2 hs2
        go_wp2_with (refine wpList_load_row rfl 39 _ rfl w4.heap.size rfl 39 M (0, 0) _ HR.out Tryd.underlying39 rfl (by rw [HS.out]; exact info39) ?_)
        refine (squared_hid M M2' k (2 * k) HM HM2 rfl _).mono ?_
        rintro e w6 ⟨rfl, b6⟩
        have HR6 : Hid (w6.heap[w4.heap.size]? = some (.cells M 39)) := (b6.block _ (lt_of_row HR.out)).trans HR.out
        have hbel6 : Below w.heap.size w w6 := hbel.trans (b6.mono hbel.size)
        clear b6
        go_wp2_with (refine wpList_store_row rfl 39 _ _ rfl w4.heap.size M2' rfl rfl 39 M HR6.out (by rw [HS2.out]; exact info39) (by rw [HS2.out, HS.out]) HO2.out ?_)
        simp only [Act.put]
        go_roundw
        case rel =>
          refine ⟨m / 2, y, 2 * k, M2', by omega, by simp, rfl, hy, HM2, HI3, ?_, below_setRow hbel6 hbel4.size _⟩
          exact setRow_heap _ _ _ _ _ _ HR6.out
        case measure => simp [intOf]; omega
    · have hm' : m = 0 := by omega
      subst hm'
      have hx := u32_xor_nat y b hy hb'
      obtain ⟨v, hv⟩ : ∃ v, v = y ^^^ b := ⟨_, rfl⟩
      rw [← hv] at hx
      have e : v = join a b n := by
        have := HI.out
        rw [Nat.mul_zero] at this
        rw [hv]
        unfold join
        rw [← this]
        rfl
      have HE := Lib.hid e
      clear hv e
      go_wp2
      go_ret
      exact ⟨ret_u32 HE.out, hbel⟩
end Go.Proofs.YtokfkihcofpfpaaDoor.Join
