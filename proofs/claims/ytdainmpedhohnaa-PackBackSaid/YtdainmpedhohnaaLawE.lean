/- The walk of the statement that bytes are read, asked for anything, as the document has it. -/
import Derived.Test.YtdainmpedhohnaaThings
import Derived.Test.YtdainmpedhohnaaLawD
namespace Go.Proofs.Ytdainmpedhohnaa.LawE
open Go.RowKit Go.Proofs.Ytdainmpedhohnaa.Kit Go.Proofs.Ytdainmpedhohnaa.Num Go.Proofs.Ytdainmpedhohnaa.State Go.Proofs.Ytdainmpedhohnaa.WalkA Go.Proofs.Ytdainmpedhohnaa.WalkB Go.Proofs.Ytdainmpedhohnaa.WalkC Go.Proofs.Ytdainmpedhohnaa.WalkD Go.Proofs.Ytdainmpedhohnaa.WalkE Go.Proofs.Ytdainmpedhohnaa.WalkF Go.Proofs.Ytdainmpedhohnaa.WalkH Go.Proofs.Ytdainmpedhohnaa.Begun Go.Proofs.Ytdainmpedhohnaa.LawB Go.Proofs.Ytdainmpedhohnaa.LawD Go.Proofs.Ytdainmpedhohnaa.Things

theorem rint_hid (q : Nat) (g : Int) (s r : ByteArray) (bad b : Bool) (w : World) (h : R w q s bad) (hs : s.size ≤ 9223372036854775807) (hg : Hid (half (gotB s) = g)) (hr : Hid (restB s = r)) (hb : Hid (badB s bad = b)) :
    Calls Try.prog 21 #[.pointer (some ⟨q, 0, none⟩)] w (TookR q r b (.int .i64 g) w) := by
  have := WalkE.int_any q s bad w h hs
  rwa [hg.out, hr.out, hb.out] at this
theorem mint_hid (q : Nat) (g : Int) (s r : ByteArray) (bad b : Bool) (w : World) (h : M w q s bad) (hs : s.size ≤ 9223372036854775807) (hg : Hid (half (gotB s) = g)) (hr : Hid (restB s = r)) (hb : Hid (badB s bad = b)) :
    Calls Try.prog 22 #[.pointer (some ⟨q, 0, none⟩)] w (TookM q r b (.int .i64 g) w) := by
  have := WalkG.int_any q s bad w h hs
  rwa [hg.out, hr.out, hb.out] at this
theorem bool_hid (q : Nat) (g : Bool) (s r : ByteArray) (bad b : Bool) (w : World) (h : R w q s bad) (hs : s.size ≤ 9223372036854775807) (hg : Hid (truth s = g)) (hr : Hid (upR s 1 = r)) (hb : Hid (upB s bad 1 = b)) :
    Calls Try.prog 23 #[.pointer (some ⟨q, 0, none⟩)] w (TookR q r b (.bool g) w) := by
  have := WalkE.bool_any q s bad w h hs
  rwa [hg.out, hr.out, hb.out] at this
theorem mtext_hid (q : Nat) (s v r : ByteArray) (bad b : Bool) (limit : Int) (w : World) (h : M w q s bad) (hs : s.size ≤ 281474976710656) (hlim : limit ≤ 9223372036854775807) (hv : Hid (textV s limit = v)) (hr : Hid (textR s limit = r)) (hb : Hid (textB s bad limit = b)) :
    Calls Try.prog 26 #[.pointer (some ⟨q, 0, none⟩), .int .i64 limit] w (TookM q r b (.string v) w) := by
  have := WalkG.text_any q s bad limit w h hs hlim
  rwa [hv.out, hr.out, hb.out] at this
theorem textR_le (s : ByteArray) (limit : Int) : (textR s limit).size ≤ s.size := by
  have := upR_le s limit
  unfold textR
  split
  · rw [ByteArray.size_extract]; omega
  · simp
theorem kinds (k : Int) : (k == 0) = true ∨ ((k == 0) = false ∧ (k == 1) = true) ∨ ((k == 0) = false ∧ (k == 1) = false ∧ (k == 2) = true) ∨ ((k == 0) = false ∧ (k == 1) = false ∧ (k == 2) = false ∧ (k == 3) = true) ∨ ((k == 0) = false ∧ (k == 1) = false ∧ (k == 2) = false ∧ (k == 3) = false) := by
  simp only [beq_iff_eq, beq_eq_false_iff_ne, ne_eq]
  omega

set_option maxRecDepth 100000 in
set_option maxHeartbeats 4000000 in
theorem reads_walk (s : ByteArray) (a : Option Addr) (n c : Nat) (L : List Thing) (w : World) (hs : s.size ≤ 140737488351232) (h : Things w a n L) (hnc : n ≤ c) (hc : c ≤ 9223372036854775807) :
    Calls Try.prog 4 #[.string s, .slice a n c] w fun e w' => e = .returned (.bool true) ∧ Below w.heap.size w w' := by
  go_enter Try.func4, Try.ntmps4
  go_wp2_with fail
  refine (begun_true _).mono ?_
  rintro e w1 ⟨rfl, hb1⟩
  have hz1 := hb1.size
  go_wp2_with fail
  refine (from_any s _).mono ?_
  rintro e w2 ⟨rfl, hr2, hb2⟩
  have hB2 := hb1.trans (hb2.mono hz1)
  have hz2 := hB2.size
  have hq2 := hr2.lt
  have hm2 : M (w2.alloc (.cells #[.string s, .bool false] 44)) w2.heap.size s false := heap_alloc_new w2 _
  have hr3 : R (w2.alloc (.cells #[.string s, .bool false] 44)) w1.heap.size s false := hr2.below ((Below.refl _ _).alloc (Nat.le_refl _) _)
  have hB3 : Below w.heap.size w (w2.alloc (.cells #[.string s, .bool false] 44)) := hB2.alloc hz2 _
  go_wp2_with fail
  generalize w2.alloc (.cells #[.string s, .bool false] 44) = w3 at hm2 hr3 hB3 ⊢
  obtain ⟨q, hq⟩ : ∃ q, w1.heap.size = q := ⟨_, rfl⟩
  obtain ⟨p, hp⟩ : ∃ p, w2.heap.size = p := ⟨_, rfl⟩
  rw [hq] at hr3 hq2 hz1 ⊢
  rw [hp] at hm2 hq2 hz2 ⊢
  clear hr2 hb2 hB2 hq hp hb1
  go_loopw [21] (fun i wr => ∃ (k : Nat) (t : ByteArray) (bad : Bool), k ≤ n ∧ i = .int .i64 k ∧ t.size ≤ 281474976710656 ∧ R wr q t bad ∧ M wr p t bad ∧ Below w.heap.size w wr) (fun i _ => n - (intOf i).toNat)
  case atStart => exact ⟨0, s, false, Nat.zero_le _, rfl, by omega, hr3, hm2, hB3⟩
  case round =>
    obtain ⟨k, t, bad, hk, rfl, hts, hr, hm, hB⟩ := hrel
    have hz := hB.size
    by_cases hkn : k < n
    · obtain ⟨x, b, o, -, rfl, hlt, c0, c1, c2, k0, k1, hx, hxs⟩ := h.at_ hB k hkn
      by_cases h200 : k = 200
      · subst h200
        simp only [Nat.reduceMul] at c0 c1 c2
        go_wp2
        go_ret
        exact ⟨rfl, hB.alloc hz _⟩
      · have hk2 : ((k : Int) == 200) = false := by simp; omega
        have hz63 : wrap64 (x.num : Int) ≤ 9223372036854775807 := by unfold wrap64; omega
        obtain ⟨z, hzz⟩ : ∃ z, wrap64 (x.num : Int) = z := ⟨_, rfl⟩
        rw [hzz] at hz63
        have hal : Below wr.heap.size wr (wr.alloc (.cells #[.int .i64 x.kind, .int .u64 (x.num : Int), .string x.text] 30)) := (Below.refl _ _).alloc (Nat.le_refl _) _
        have hr4 := hr.below hal
        have hm4 := hm.below hal
        have hB4 := hB.trans (hal.mono hz)
        rcases kinds x.kind with e0 | ⟨e0, e1⟩ | ⟨e0, e1, e2⟩ | ⟨e0, e1, e2, e3⟩ | ⟨e0, e1, e2, e3⟩
        · obtain ⟨T, hT⟩ : ∃ T, restB t = T := ⟨_, rfl⟩
          obtain ⟨bb, hb⟩ : ∃ bb, badB t bad = bb := ⟨_, rfl⟩
          have HS : Hid (T.size ≤ 281474976710656) := by
            show _ ≤ _
            have := restB_le t
            rw [hT] at this
            omega
          have HT := Lib.hid hT
          have HB := Lib.hid hb
          clear hT hb

          obtain ⟨g, hg⟩ : ∃ g, gotB t = g := ⟨_, rfl⟩
          have HG := Lib.hid hg
          clear hg

          go_wp2_with fail
          refine (WalkE.num_hid q g t T bad bb _ hr4 (by omega) HG HT HB).mono ?_
          rintro e w5 ⟨rfl, hr5, ho5⟩
          have hm5 := keep_only hm4 ho5 (by omega)
          go_wp2_with fail
          refine (WalkG.num_hid p g t T bad bb _ hm5 (by omega) HG HT HB).mono ?_
          rintro e w6 ⟨rfl, hm6, ho6⟩

          have hrz := keep_only hr5 ho6 (by omega)
          have hB6 := below_took (below_took hB4 ho5 (Nat.le_refl _) hz1) ho6 (Nat.le_refl _) hz2
          clear hr4 hm4 hr5 ho5 ho6 hm5 hB4
          obtain ⟨N, hN⟩ : ∃ N, T.size = N := ⟨_, rfl⟩
          have HN := Lib.hid hN
          clear hN
          cases bb
          · have HD : Hid ((decide (T.size = 0) && !false) = ((N : Int) == 0)) := by
              show _ = _
              rw [HN.out, Bool.eq_iff_iff]
              simp
            go_wp2_with fail
            refine (left_hid q N T false true _ hrz HN rfl).mono ?_
            rintro e w7 ⟨rfl, hr7, ho7⟩
            have hm7 := keep_only hm6 ho7 (by omega)
            have hB7 := below_took hB6 ho7 (Nat.le_refl _) hz1
            have l7 := hm7.left
            have f7 := hm7.flag
            have hTN : (T.size : Int) = (N : Int) := by have := HN.out; omega
            go_wp2_with fail
            refine (done_hid q T false _ _ hr7 HD).mono ?_
            rintro e w8 ⟨rfl, hr8, ho8⟩
            have hm8 := keep_only hm7 ho8 (by omega)
            have hB8 := below_took hB7 ho8 (Nat.le_refl _) hz1
            go_wp2
            go_roundw
            case rel => exact ⟨k + 1, T, false, by omega, by go_num, HS.out, hr8, hm8, hB8⟩
            case measure => simp [intOf]; omega
          · have HD : Hid ((decide (T.size = 0) && !true) = false) := by
              show _ = _
              simp
            go_wp2_with fail
            refine (left_hid q N T true false _ hrz HN rfl).mono ?_
            rintro e w7 ⟨rfl, hr7, ho7⟩
            have hm7 := keep_only hm6 ho7 (by omega)
            have hB7 := below_took hB6 ho7 (Nat.le_refl _) hz1
            have l7 := hm7.left
            have f7 := hm7.flag
            have hTN : (T.size : Int) = (N : Int) := by have := HN.out; omega
            go_wp2_with fail
            refine (done_hid q T true false _ hr7 HD).mono ?_
            rintro e w8 ⟨rfl, hr8, ho8⟩
            have hm8 := keep_only hm7 ho8 (by omega)
            have hB8 := below_took hB7 ho8 (Nat.le_refl _) hz1
            go_wp2
            go_roundw
            case rel => exact ⟨k + 1, T, true, by omega, by go_num, HS.out, hr8, hm8, hB8⟩
            case measure => simp [intOf]; omega
        · obtain ⟨T, hT⟩ : ∃ T, restB t = T := ⟨_, rfl⟩
          obtain ⟨bb, hb⟩ : ∃ bb, badB t bad = bb := ⟨_, rfl⟩
          have HS : Hid (T.size ≤ 281474976710656) := by
            show _ ≤ _
            have := restB_le t
            rw [hT] at this
            omega
          have HT := Lib.hid hT
          have HB := Lib.hid hb
          clear hT hb

          obtain ⟨g, hg⟩ : ∃ g, half (gotB t) = g := ⟨_, rfl⟩
          have HG := Lib.hid hg
          clear hg

          go_wp2_with fail
          refine (rint_hid q g t T bad bb _ hr4 (by omega) HG HT HB).mono ?_
          rintro e w5 ⟨rfl, hr5, ho5⟩
          have hm5 := keep_only hm4 ho5 (by omega)
          go_wp2_with fail
          refine (mint_hid p g t T bad bb _ hm5 (by omega) HG HT HB).mono ?_
          rintro e w6 ⟨rfl, hm6, ho6⟩

          have hrz := keep_only hr5 ho6 (by omega)
          have hB6 := below_took (below_took hB4 ho5 (Nat.le_refl _) hz1) ho6 (Nat.le_refl _) hz2
          clear hr4 hm4 hr5 ho5 ho6 hm5 hB4
          obtain ⟨N, hN⟩ : ∃ N, T.size = N := ⟨_, rfl⟩
          have HN := Lib.hid hN
          clear hN
          cases bb
          · have HD : Hid ((decide (T.size = 0) && !false) = ((N : Int) == 0)) := by
              show _ = _
              rw [HN.out, Bool.eq_iff_iff]
              simp
            go_wp2_with fail
            refine (left_hid q N T false true _ hrz HN rfl).mono ?_
            rintro e w7 ⟨rfl, hr7, ho7⟩
            have hm7 := keep_only hm6 ho7 (by omega)
            have hB7 := below_took hB6 ho7 (Nat.le_refl _) hz1
            have l7 := hm7.left
            have f7 := hm7.flag
            have hTN : (T.size : Int) = (N : Int) := by have := HN.out; omega
            go_wp2_with fail
            refine (done_hid q T false _ _ hr7 HD).mono ?_
            rintro e w8 ⟨rfl, hr8, ho8⟩
            have hm8 := keep_only hm7 ho8 (by omega)
            have hB8 := below_took hB7 ho8 (Nat.le_refl _) hz1
            go_wp2
            go_roundw
            case rel => exact ⟨k + 1, T, false, by omega, by go_num, HS.out, hr8, hm8, hB8⟩
            case measure => simp [intOf]; omega
          · have HD : Hid ((decide (T.size = 0) && !true) = false) := by
              show _ = _
              simp
            go_wp2_with fail
            refine (left_hid q N T true false _ hrz HN rfl).mono ?_
            rintro e w7 ⟨rfl, hr7, ho7⟩
            have hm7 := keep_only hm6 ho7 (by omega)
            have hB7 := below_took hB6 ho7 (Nat.le_refl _) hz1
            have l7 := hm7.left
            have f7 := hm7.flag
            have hTN : (T.size : Int) = (N : Int) := by have := HN.out; omega
            go_wp2_with fail
            refine (done_hid q T true false _ hr7 HD).mono ?_
            rintro e w8 ⟨rfl, hr8, ho8⟩
            have hm8 := keep_only hm7 ho8 (by omega)
            have hB8 := below_took hB7 ho8 (Nat.le_refl _) hz1
            go_wp2
            go_roundw
            case rel => exact ⟨k + 1, T, true, by omega, by go_num, HS.out, hr8, hm8, hB8⟩
            case measure => simp [intOf]; omega
        · obtain ⟨T, hT⟩ : ∃ T, upR t 1 = T := ⟨_, rfl⟩
          obtain ⟨bb, hb⟩ : ∃ bb, upB t bad 1 = bb := ⟨_, rfl⟩
          have HS : Hid (T.size ≤ 281474976710656) := by
            show _ ≤ _
            have := upR_le t 1
            rw [hT] at this
            omega
          have HT := Lib.hid hT
          have HB := Lib.hid hb
          clear hT hb

          obtain ⟨g, hg⟩ : ∃ g, upV t 1 = g := ⟨_, rfl⟩
          obtain ⟨tb, htb⟩ : ∃ tb, truth t = tb := ⟨_, rfl⟩
          have htg : ((g : Int) == 1) = tb := by
            rw [← htb]
            unfold truth
            rw [hg, Bool.eq_iff_iff]
            simp
            omega
          have HG := Lib.hid hg
          have HTB := Lib.hid htb
          clear hg htb

          go_wp2_with fail
          refine (bool_hid q tb t T bad bb _ hr4 (by omega) HTB HT HB).mono ?_
          rintro e w5 ⟨rfl, hr5, ho5⟩
          have hm5 := keep_only hm4 ho5 (by omega)
          go_wp2_with fail
          refine (WalkG.up_hid p g t T bad bb 1 _ hm5 (by omega) (by decide) HG HT HB).mono ?_
          rintro e w6 ⟨rfl, hm6, ho6⟩

          have hrz := keep_only hr5 ho6 (by omega)
          have hB6 := below_took (below_took hB4 ho5 (Nat.le_refl _) hz1) ho6 (Nat.le_refl _) hz2
          clear hr4 hm4 hr5 ho5 ho6 hm5 hB4
          obtain ⟨N, hN⟩ : ∃ N, T.size = N := ⟨_, rfl⟩
          have HN := Lib.hid hN
          clear hN
          cases bb
          · have HD : Hid ((decide (T.size = 0) && !false) = ((N : Int) == 0)) := by
              show _ = _
              rw [HN.out, Bool.eq_iff_iff]
              simp
            go_wp2_with fail
            refine (left_hid q N T false true _ hrz HN rfl).mono ?_
            rintro e w7 ⟨rfl, hr7, ho7⟩
            have hm7 := keep_only hm6 ho7 (by omega)
            have hB7 := below_took hB6 ho7 (Nat.le_refl _) hz1
            have l7 := hm7.left
            have f7 := hm7.flag
            have hTN : (T.size : Int) = (N : Int) := by have := HN.out; omega
            go_wp2_with fail
            refine (done_hid q T false _ _ hr7 HD).mono ?_
            rintro e w8 ⟨rfl, hr8, ho8⟩
            have hm8 := keep_only hm7 ho8 (by omega)
            have hB8 := below_took hB7 ho8 (Nat.le_refl _) hz1
            go_wp2
            go_roundw
            case rel => exact ⟨k + 1, T, false, by omega, by go_num, HS.out, hr8, hm8, hB8⟩
            case measure => simp [intOf]; omega
          · have HD : Hid ((decide (T.size = 0) && !true) = false) := by
              show _ = _
              simp
            go_wp2_with fail
            refine (left_hid q N T true false _ hrz HN rfl).mono ?_
            rintro e w7 ⟨rfl, hr7, ho7⟩
            have hm7 := keep_only hm6 ho7 (by omega)
            have hB7 := below_took hB6 ho7 (Nat.le_refl _) hz1
            have l7 := hm7.left
            have f7 := hm7.flag
            have hTN : (T.size : Int) = (N : Int) := by have := HN.out; omega
            go_wp2_with fail
            refine (done_hid q T true false _ hr7 HD).mono ?_
            rintro e w8 ⟨rfl, hr8, ho8⟩
            have hm8 := keep_only hm7 ho8 (by omega)
            have hB8 := below_took hB7 ho8 (Nat.le_refl _) hz1
            go_wp2
            go_roundw
            case rel => exact ⟨k + 1, T, true, by omega, by go_num, HS.out, hr8, hm8, hB8⟩
            case measure => simp [intOf]; omega
        · obtain ⟨T, hT⟩ : ∃ T, textR t z = T := ⟨_, rfl⟩
          obtain ⟨bb, hb⟩ : ∃ bb, textB t bad z = bb := ⟨_, rfl⟩
          have HS : Hid (T.size ≤ 281474976710656) := by
            show _ ≤ _
            have := textR_le t z
            rw [hT] at this
            omega
          have HT := Lib.hid hT
          have HB := Lib.hid hb
          clear hT hb

          obtain ⟨g, hg⟩ : ∃ g, textV t z = g := ⟨_, rfl⟩
          have hgg : (g.toList == g.toList) = true := by simp
          have HG := Lib.hid hg
          clear hg

          go_wp2_with fail
          refine (text_hid q t g T bad bb z _ hr4 hts hz63 HG HT HB).mono ?_
          rintro e w5 ⟨rfl, hr5, ho5⟩
          have hm5 := keep_only hm4 ho5 (by omega)
          go_wp2_with fail
          refine (mtext_hid p t g T bad bb z _ hm5 hts hz63 HG HT HB).mono ?_
          rintro e w6 ⟨rfl, hm6, ho6⟩

          have hrz := keep_only hr5 ho6 (by omega)
          have hB6 := below_took (below_took hB4 ho5 (Nat.le_refl _) hz1) ho6 (Nat.le_refl _) hz2
          clear hr4 hm4 hr5 ho5 ho6 hm5 hB4
          obtain ⟨N, hN⟩ : ∃ N, T.size = N := ⟨_, rfl⟩
          have HN := Lib.hid hN
          clear hN
          cases bb
          · have HD : Hid ((decide (T.size = 0) && !false) = ((N : Int) == 0)) := by
              show _ = _
              rw [HN.out, Bool.eq_iff_iff]
              simp
            go_wp2_with fail
            refine (left_hid q N T false true _ hrz HN rfl).mono ?_
            rintro e w7 ⟨rfl, hr7, ho7⟩
            have hm7 := keep_only hm6 ho7 (by omega)
            have hB7 := below_took hB6 ho7 (Nat.le_refl _) hz1
            have l7 := hm7.left
            have f7 := hm7.flag
            have hTN : (T.size : Int) = (N : Int) := by have := HN.out; omega
            go_wp2_with fail
            refine (done_hid q T false _ _ hr7 HD).mono ?_
            rintro e w8 ⟨rfl, hr8, ho8⟩
            have hm8 := keep_only hm7 ho8 (by omega)
            have hB8 := below_took hB7 ho8 (Nat.le_refl _) hz1
            go_wp2
            go_roundw
            case rel => exact ⟨k + 1, T, false, by omega, by go_num, HS.out, hr8, hm8, hB8⟩
            case measure => simp [intOf]; omega
          · have HD : Hid ((decide (T.size = 0) && !true) = false) := by
              show _ = _
              simp
            go_wp2_with fail
            refine (left_hid q N T true false _ hrz HN rfl).mono ?_
            rintro e w7 ⟨rfl, hr7, ho7⟩
            have hm7 := keep_only hm6 ho7 (by omega)
            have hB7 := below_took hB6 ho7 (Nat.le_refl _) hz1
            have l7 := hm7.left
            have f7 := hm7.flag
            have hTN : (T.size : Int) = (N : Int) := by have := HN.out; omega
            go_wp2_with fail
            refine (done_hid q T true false _ hr7 HD).mono ?_
            rintro e w8 ⟨rfl, hr8, ho8⟩
            have hm8 := keep_only hm7 ho8 (by omega)
            have hB8 := below_took hB7 ho8 (Nat.le_refl _) hz1
            go_wp2
            go_roundw
            case rel => exact ⟨k + 1, T, true, by omega, by go_num, HS.out, hr8, hm8, hB8⟩
            case measure => simp [intOf]; omega
        · obtain ⟨T, hT⟩ : ∃ T, upR t z = T := ⟨_, rfl⟩
          obtain ⟨bb, hb⟩ : ∃ bb, upB t bad z = bb := ⟨_, rfl⟩
          have HS : Hid (T.size ≤ 281474976710656) := by
            show _ ≤ _
            have := upR_le t z
            rw [hT] at this
            omega
          have HT := Lib.hid hT
          have HB := Lib.hid hb
          clear hT hb

          obtain ⟨g, hg⟩ : ∃ g, upV t z = g := ⟨_, rfl⟩
          have HG := Lib.hid hg
          clear hg

          go_wp2_with fail
          refine (WalkE.up_hid q g t T bad bb z _ hr4 (by omega) hz63 HG HT HB).mono ?_
          rintro e w5 ⟨rfl, hr5, ho5⟩
          have hm5 := keep_only hm4 ho5 (by omega)
          go_wp2_with fail
          refine (WalkG.up_hid p g t T bad bb z _ hm5 (by omega) hz63 HG HT HB).mono ?_
          rintro e w6 ⟨rfl, hm6, ho6⟩

          have hrz := keep_only hr5 ho6 (by omega)
          have hB6 := below_took (below_took hB4 ho5 (Nat.le_refl _) hz1) ho6 (Nat.le_refl _) hz2
          clear hr4 hm4 hr5 ho5 ho6 hm5 hB4
          obtain ⟨N, hN⟩ : ∃ N, T.size = N := ⟨_, rfl⟩
          have HN := Lib.hid hN
          clear hN
          cases bb
          · have HD : Hid ((decide (T.size = 0) && !false) = ((N : Int) == 0)) := by
              show _ = _
              rw [HN.out, Bool.eq_iff_iff]
              simp
            go_wp2_with fail
            refine (left_hid q N T false true _ hrz HN rfl).mono ?_
            rintro e w7 ⟨rfl, hr7, ho7⟩
            have hm7 := keep_only hm6 ho7 (by omega)
            have hB7 := below_took hB6 ho7 (Nat.le_refl _) hz1
            have l7 := hm7.left
            have f7 := hm7.flag
            have hTN : (T.size : Int) = (N : Int) := by have := HN.out; omega
            go_wp2_with fail
            refine (done_hid q T false _ _ hr7 HD).mono ?_
            rintro e w8 ⟨rfl, hr8, ho8⟩
            have hm8 := keep_only hm7 ho8 (by omega)
            have hB8 := below_took hB7 ho8 (Nat.le_refl _) hz1
            go_wp2
            go_roundw
            case rel => exact ⟨k + 1, T, false, by omega, by go_num, HS.out, hr8, hm8, hB8⟩
            case measure => simp [intOf]; omega
          · have HD : Hid ((decide (T.size = 0) && !true) = false) := by
              show _ = _
              simp
            go_wp2_with fail
            refine (left_hid q N T true false _ hrz HN rfl).mono ?_
            rintro e w7 ⟨rfl, hr7, ho7⟩
            have hm7 := keep_only hm6 ho7 (by omega)
            have hB7 := below_took hB6 ho7 (Nat.le_refl _) hz1
            have l7 := hm7.left
            have f7 := hm7.flag
            have hTN : (T.size : Int) = (N : Int) := by have := HN.out; omega
            go_wp2_with fail
            refine (done_hid q T true false _ hr7 HD).mono ?_
            rintro e w8 ⟨rfl, hr8, ho8⟩
            have hm8 := keep_only hm7 ho8 (by omega)
            have hB8 := below_took hB7 ho8 (Nat.le_refl _) hz1
            go_wp2
            go_roundw
            case rel => exact ⟨k + 1, T, true, by omega, by go_num, HS.out, hr8, hm8, hB8⟩
            case measure => simp [intOf]; omega
    · go_wp2
      go_ret
      exact ⟨rfl, hB⟩
end Go.Proofs.Ytdainmpedhohnaa.LawE
