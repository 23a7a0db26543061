/- The program's machine tells its sagas' numbers, from the least up; walked. No statement is proved here. -/
import Derived.Test.YthaepkpmpnofgaaGreatGC
import Derived.Test.YthaepkpmpnofgaaGreatGA
import Derived.Test.YthaepkpmpnofgaaGreatHAppI
import Derived.Deep.CutRange
set_option linter.unusedVariables false
set_option linter.unusedSimpArgs false
namespace Go.Proofs.YthaepkpmpnofgaaGreat.ListP
open Go.RowKit Go.Proofs.YthaepkpmpnofgaaGreat.Kit Go.Proofs.YthaepkpmpnofgaaGreat.Blocks Go.Proofs.YthaepkpmpnofgaaGreat.Ses Go.Proofs.YthaepkpmpnofgaaGreat.Rws Go.Proofs.YthaepkpmpnofgaaGreat.Boxs Go.Proofs.YthaepkpmpnofgaaGreat.Mch Go.Proofs.YthaepkpmpnofgaaGreat.SsnWalkA Go.Proofs.YthaepkpmpnofgaaGreat.MatP
open Go.Proofs.YthaepkpmpnofgaaGreat.MatD (Hs ics)
open Go.Proofs.YthaepkpmpnofgaaGreat.Sag (Sg)
open Go.Proofs.YthaepkpmpnofgaaGreat.SrtA (SR SS ltN encU)
open Go.Sort (SortedIn)

def numsU (l : List Nat) : List Value := l.map encU
theorem numsU_ones (l : List Nat) : ∀ u ∈ numsU l, u.oneCell' = true := by
  intro u hu
  obtain ⟨e, _, rfl⟩ := List.mem_map.1 hu
  rfl
/-- Two lists that grow and have the same members are one. -/
theorem grow_eq {l r : List Nat} (hp : l.Perm r) (h1 : l.Pairwise (fun a b => a ≤ b)) (h2 : r.Pairwise (fun a b => a ≤ b)) : l = r :=
  hp.eq_of_pairwise (le := fun a b => a ≤ b) (fun a b _ _ h1 h2 => by omega) h1 h2
theorem sorted_pair {d : Array Nat} {n : Nat} (hn : d.size = n) (h : SortedIn ltN 0 n d) : d.toList.Pairwise (fun a b => a ≤ b) := by
  rw [List.pairwise_iff_getElem]
  intro i j hi hj hij
  have hi' : i < d.size := by simpa using hi
  have hj' : j < d.size := by simpa using hj
  have := h i j (Nat.zero_le _) hij (by omega)
  rw [getElem!_pos d i hi', getElem!_pos d j hj'] at this
  simp only [ltN, decide_eq_false_iff_not] at this
  rw [Array.getElem_toList, Array.getElem_toList]
  omega
theorem nodup_nd {l : List Nat} (h : l.Nodup) : SrtF.Nd l.toArray := by
  rw [SrtF.nd_iff]
  exact h
/-- A row of the call's own is one that can be sorted. -/
theorem own_sr {w : World} {base n c : Nat} {A : Option Addr} {l : List Nat} (h : w.ownsRow base 30 1 (.slice A n c) n (numsU l)) (hn : ∃ g, A = some ⟨g, 0, none⟩) :
    ∃ g, A = some ⟨g, 0, none⟩ ∧ base ≤ g ∧ SR w g 30 c l.toArray := by
  have hl : l.length = n := by have := h.1; simpa [numsU] using this
  rcases h.2 with ⟨e, h0⟩ | ⟨g, cap, cur, hv, hb, hg, h1, h2, h3, h4⟩
  · obtain ⟨g, rfl⟩ := hn; cases e
  · cases hv
    refine ⟨g, rfl, hb, cur, hg, by simpa using h3, by simpa [hl] using h1, fun i hi => ?_⟩
    have hi' : i < l.length := by simpa using hi
    have h5 : (cur.toList.take (n * 1))[i]? = (numsU l)[i]? := by rw [h4]
    rw [List.getElem?_take_of_lt (by omega)] at h5
    rw [getElem!_pos l.toArray i hi]
    simp only [Array.getElem?_toList] at h5
    rw [h5]
    simp [numsU, List.getElem?_map, List.getElem?_eq_getElem hi']
theorem sr_reads {w : World} {g c : Nat} {t : TypeId} {d : Array Nat} (h : SR w g t c d) : Reads w w.heap.size 1 (some ⟨g, 0, none⟩) d.size (numsU d.toList) := by
  refine ⟨by simp [numsU], fun hn => ⟨_, rfl, h.lt, fun j u hj => ?_⟩⟩
  have hjl : j < d.size := by
    have := (List.getElem?_eq_some_iff.1 hj).1
    simpa [numsU] using this
  have := h.cell hjl
  rw [Addr.add_lit, Nat.zero_add, this]
  rw [getElem!_pos d j hjl]
  simp only [numsU, List.getElem?_map, Array.getElem?_toList, Array.getElem?_eq_getElem hjl, Option.map_some, Option.some.injEq] at hj
  rw [← hj]
  rfl

section
variable {B : Nat} {w w' : World} {p pt q : Nat} {vR : Value} {m : Mc} {ks : List (Nat × Hs)}
def keys (m : Mc) : List Nat := m.l.map Prod.fst
theorem look_mem {ks : List (Nat × Hs)} {i : Nat} : (lookS ks i).isSome = true ↔ i ∈ ks.map Prod.fst := by
  induction ks with
  | nil => simp [lookS]
  | cons x l ih =>
    rw [lookS]
    by_cases h : x.1 = i
    · simp [h]
    · rw [if_neg h, ih]
      simp [Ne.symm h]
/-- The numbers that have come so far. -/
structure Come (w0 w : World) (q r : Nat) (D : DataW Value) (ks : List (Nat × Hs)) (A : Option Addr) (c : Nat) (xs : List Nat) (cnt : Nat) : Prop where
  rg : ∃ left, w.ranges Tryz.prog 30 asIs q r ks.length D left cnt ∧ ∀ i, U i → left (lu i) = (Maps.has D (lu i) && !(xs.contains i))
  own : w.ownsRow w0.heap.size 30 1 (.slice A xs.length c) xs.length (numsU xs)
  nd : xs.Nodup
  mem : ∀ x ∈ xs, U x ∧ (lookS ks x).isSome = true
  cnt : xs.length + cnt ≤ ks.length
  below : Below w0.heap.size w0 w
  ad : ∃ g, A = some ⟨g, 0, none⟩
  ne : ∀ g, (Value.slice A xs.length c).ownBlock = some g → g ≠ q ∧ g ≠ r
set_option maxRecDepth 100000 in
set_option maxHeartbeats 4000000 in
theorem psagas_any (h : MP B w p pt q vR m ks) (hf : Fit m) : Calls Tryz.prog 18 #[.pointer (some ⟨p, 0, none⟩)] w fun e w' =>
    ∃ A c, e = .returned (.slice A m.l.length c) ∧ Reads w' w'.heap.size 1 A m.l.length (ics m.l) ∧ Below w.heap.size w w' ∧ ∀ ad, A = some ad → w.heap.size ≤ ad.block := by
  obtain ⟨i0, hi0, hz0, hz1, hz2⟩ := info_parts AppI.infoI
  have c1 := h.c1
  have hpl := h.plt
  obtain ⟨n, hn⟩ : ∃ n, ks.length = n := ⟨_, rfl⟩
  have hn16 : n ≤ 16 := by rw [← hn, h.len]; exact hf.few
  have hlen : ∀ ty, (Builtin.len_ #[70] ty #[.map (some q)]).run Tryz.prog w = .ok (.int .i64 (n : Int)) w := fun ty => by rw [← hn]; exact h.sm.len ty
  have HN := Lib.hid hn
  have H := Lib.hid h
  have HF := Lib.hid hf
  clear h hf hn
  go_enter Tryz.func18, Tryz.ntmps18
  go_wp2_with (at_make; refine wpList_make_own _ rfl _ _ 46 rfl w.heap.size 30 i0 _ 1 Tryz.underlying46 hi0 hz0 hz1 _ _ _ n rfl rfl (by omega) ?b1 ?b2 (Nat.le_refl _) ?_)
  case b1 => rw [hz2]; omega
  case b2 => unfold maxLen; omega
  intro w1 hown1 hg1
  have hbel1 : Below w.heap.size w w1 := (Below.refl _ _).grown hg1 (Nat.le_refl _) (by simp)
  have hM1 := H.out.below hbel1
  have c1 := hM1.c1
  have hpl := hM1.plt
  obtain ⟨D, ho, hsz, hat⟩ := hM1.sm
  have HH1 : Hid (Maps.size D = n ∧ (∀ i : Nat, U i → ∀ z, D.atKey (lu i) z = (match lookS ks i with | some e => .held (hsV e) | none => z)) ∧ MP B w1 p pt q vR m ks) := ⟨by rw [← HN.out]; exact hsz, hat, hM1⟩
  have HB1 := Lib.hid hbel1
  have HO1 := Lib.hid hown1
  have HDW := Lib.hid ho
  clear hg1 hbel1 hM1 hsz hat hlen hown1 ho
  go_wp2_with (first | (at_range; refine wpList_range_own _ rfl _ 70 rfl 30 49 num_keyed Tryz.underlying70 asIs q ks.length D rfl HDW.out ?_; intro w2 hrg hg2 hs2))
  go_frame
  obtain ⟨R, hR⟩ : ∃ R, w1.heap.size = R := ⟨_, rfl⟩
  rw [hR] at hrg
  rw [hR]
  have HC0 : Hid (Come w w2 q R D ks (some ⟨w.heap.size, 0, none⟩) n [] (Maps.size D)) := by
    obtain ⟨h1, h2, h3⟩ := HH1.out
    exact ⟨⟨_, hrg, fun i hi => by simp⟩, (Only.refl (fun _ => False) w1).grown hg2 (by simp) |>.own HO1.out (by simp), List.nodup_nil, by simp, by rw [h1, HN.out]; simp, HB1.out.grown hg2 HB1.out.size (by simp), ⟨_, rfl⟩, fun g hg => by
      have hgs : g = w.heap.size := by simpa [Value.ownBlock] using hg.symm
      have h4 := (HO1.out.lt w.heap.size rfl).2
      have h5 := H.out.sm.lt
      omega⟩
  have HRS : Hid (w.heap.size ≤ R) := by rw [← hR]; exact HB1.out.size
  clear hrg hg2 hs2 hR HO1 HB1
  go_loopw [3] (fun v wr => ∃ (A : Option Addr) (c : Nat) (xs : List Nat) (cnt : Nat), v = .slice A xs.length c ∧ Hid (Come w wr q R D ks A c xs cnt)) (fun _ wr => wr.rangeLeft q R)
  case atStart => exact ⟨_, _, [], _, rfl, HC0⟩
  case round =>
    obtain ⟨A, c, xs, cnt, rfl, HC⟩ := hrel
    obtain ⟨left, hrg, hleft⟩ := HC.out.rg
    have HRG := Lib.hid hrg
    have HLF := Lib.hid hleft
    have hrl := hrg.left_eq
    have HRL := Lib.hid hrl
    clear hrg hleft hrl HC0
    go_wp2_with (first | (at_next; refine wpList_next_ranges (α := Int) (β := Value) _ rfl _ rfl 30 num_keyed asIs (fun x => Value.int .u64 x) (fun v => v) (fun key kl hkey => by obtain ⟨x, rfl, _⟩ := Maps.keyOf_int_inv Tryz.underlying30 hkey; exact ⟨x, rfl⟩) (fun v y hv => ⟨v, rfl⟩) q R ks.length D left cnt rfl HRG.out ?_ ?_))
    · intro hc0 hl0
      have hks : ks.map Prod.fst = keys m := by
        unfold keys
        rw [← H.out.said]
        simp [pure1]
      have hgr := HF.out.grow
      have hkp : (keys m).Pairwise (fun a b => a < b) := by
        unfold keys
        rw [List.pairwise_map]
        exact hgr
      have hknd : (keys m).Nodup := hkp.imp (fun h => by omega)
      have hperm : xs.Perm (keys m) := by
        rw [List.perm_ext_iff_of_nodup HC.out.nd hknd]
        intro a
        rw [← hks, ← look_mem]
        constructor
        · intro ha
          exact (HC.out.mem a ha).2
        · intro ha
          have hu : U a := by
            have h1 : a ∈ keys m := by rw [← hks, ← look_mem]; exact ha
            obtain ⟨z, hz, rfl⟩ := List.mem_map.1 h1
            exact HF.out.u z hz
          have h2 := HLF.out a hu
          rw [hl0, has_look HH1.out.2.1 hu, ha] at h2
          simpa using h2.symm
      have hxl : xs.length = m.l.length := by have := hperm.length_eq; simpa [keys] using this
      obtain ⟨g, rfl, hbg, hsr⟩ := own_sr HC.out.own HC.out.ad
      have hx16 : xs.length ≤ 16 := by have := HC.out.cnt; have := HN.out; omega
      have hsort := SrtF.sort_any (c := c) (d := xs.toArray) (A := some ⟨g, 0, none⟩) (.inr rfl) hsr (by simpa using hx16) (nodup_nd HC.out.nd)
      have hsz : xs.toArray.size = xs.length := by simp
      rw [hsz] at hsort
      have HS := Lib.hid hsort
      have HP : Hid (∀ d' : Array Nat, d'.toList.Perm xs → SortedIn ltN 0 xs.length d' → numsU d'.toList = ics m.l ∧ d'.size = m.l.length) := fun d' h1 h2 => by
        have h3 : d'.size = xs.length := by have := h1.length_eq; simpa using this
        have h4 := grow_eq (h1.trans hperm) (sorted_pair h3 h2) (hkp.imp (fun h => by omega))
        refine ⟨?_, by rw [h3, hxl]⟩
        rw [h4]
        unfold numsU keys MatD.ics encU
        rw [List.map_map]
        rfl
      have HXL := Lib.hid hxl
      have HG := Lib.hid hbg
      clear hks hgr hkp hknd hperm hxl hbg hsr hx16 hsort hsz hc0 hl0
      go_wp2_with fail
      go_at_call 52
      refine HS.out.mono ?_
      rintro e w5 ⟨rfl, d', hss, hdp, hds⟩
      obtain ⟨h1, h2⟩ := HP.out d' (by simpa using hdp) hds
      have hrd := sr_reads hss.row
      rw [h1, h2] at hrd
      have HR5 := Lib.hid hrd
      have HB5 : Hid (Below w.heap.size w w5) := HC.out.below.trans (hss.only.below HC.out.below.size fun k hk => by have := HG.out; omega)
      clear hss hdp hds h1 h2 hrd
      go_wp2
      go_ret
      exact ⟨_, c, by rw [HXL.out]; rfl, HR5.out, HB5.out, fun ad e => by cases e; exact HG.out⟩
    · intro x cv kl y1 y2 w3 cnt1 hkey hlk hRv hat3 hrg3 hlt hg3 hs3 hen
      obtain ⟨x', ex, rfl, hwf⟩ := Maps.keyOf_int_inv Tryz.underlying30 hkey
      cases ex
      have hx0 : 0 ≤ x := by
        have := hwf
        simp [Lit.wf, IntKind.min, IntKind.max, IntKind.signed, IntKind.bits] at this
        omega
      obtain ⟨i, rfl⟩ := Int.eq_ofNat_of_zero_le hx0
      have hu : U i := lu_lt hwf
      have h1 := HLF.out i hu
      have h2 : left (lu i) = true := hlk
      rw [h2, has_look HH1.out.2.1 hu] at h1
      have h3 : (lookS ks i).isSome = true ∧ xs.contains i = false := by
        cases ha : (lookS ks i).isSome <;> cases hb : xs.contains i <;> rw [ha, hb] at h1 <;> simp at h1 <;> simp
      have hni : i ∉ xs := by
        intro hi
        have := h3.2
        simp [hi] at this
      have hO3 : Only (fun g => g = R) wr w3 := (Only.refl _ wr).grown hg3 fun g hg => by cases hg; exact .inr rfl
      have hown3 : w3.ownsRow w.heap.size 30 1 (.slice A xs.length c) xs.length (numsU xs) := hO3.own HC.out.own fun g hg e => (HC.out.ne g hg).2 e
      have hx16 : xs.length + 1 ≤ 16 := by have := HC.out.cnt; have := HN.out; omega
      have hbase : w.heap.size ≤ w3.heap.size := by rw [hs3]; exact HC.out.below.size
      have hao := hown3.alloc (.cells #[.int .u64 (i : Int)] 30)
      have hr1 := reads_one w3 (.int .u64 (i : Int)) 30
      have hb8 : (xs.length + 1) * 8 ≤ 140737488355328 := by omega
      have hba : w.heap.size ≤ (w3.alloc (.cells #[.int .u64 (i : Int)] 30)).heap.size := by simp; omega
      have HX : Hid (U i ∧ (lookS ks i).isSome = true ∧ i ∉ xs ∧ cnt1 < cnt ∧ w3.ranges Tryz.prog 30 asIs q R ks.length D (fun z => left z && !z.sameKey (lu i)) cnt1 ∧ Below w.heap.size w w3) :=
        ⟨hu, h3.1, hni, hlt, hrg3, HC.out.below.grown hg3 HC.out.below.size fun k hk => by
          cases hk
          exact HRS.out⟩
      have HOW := Lib.hid hown3
      have HS3 := Lib.hid hs3
      clear hs3
      clear hkey hlk hRv hat3 hrg3 hlt hg3 h1 h2 h3 hni hO3 hown3 hwf hx0 hu
      go_wp2_with (first
        | (at_builtin
           refine AppI.wpList_app (m := 1) (c := 1) _ rfl (.tmp 22) (.tmp 24) rfl w.heap.size rfl hao rfl hr1 (by simp [Value.oneCell']) hb8 hba ?_
           intro A4 c4 w4 hown4 hg4 hat4))
      have HF4 : Hid (∃ cnt4, w4.rangeLeft q R = cnt4 ∧ cnt4 < cnt ∧ Come w w4 q R D ks A4 c4 (xs ++ [i]) cnt4) := by
        obtain ⟨hu, hsome, hni, hlt, hrg3, hb3⟩ := HX.out
        have hnr : ∀ g, (Value.slice A xs.length c).ownBlock = some g → g ≠ q ∧ g ≠ R := HC.out.ne
        have hq3 := hrg3.owns.lt
        have hR3 := hrg3.lt
        have hrg4 := (hrg3.alloc (.cells #[.int .u64 (i : Int)] 30)).kept hg4 (fun e => (hnr q e.symm).1 rfl) (fun e => (hnr R e.symm).2 rfl)
        refine ⟨cnt1, hrg4.left_eq, hlt, ⟨⟨_, hrg4, fun j hj => ?_⟩, ?_, ?_, ?_, ?_, ?_, ?_, ?_⟩⟩
        · rw [HLF.out j hj]
          have hsk : (lu j).sameKey (lu i) = (j == i) := by
            by_cases e : j = i
            · subst e; rw [WideAt.sameKey_self (lu_key j)]; simp
            · have : (lu j).sameKey (lu i) = false := by
                cases hs : (lu j).sameKey (lu i) with
                | false => rfl
                | true => exact absurd (lu_inj (WideAt.sameKey_eq hs)) e
              rw [this]; simp [e]
          rw [hsk]
          simp only [List.contains_append, List.contains_cons, List.contains_nil, Bool.or_false]
          cases Maps.has D (lu j) <;> cases xs.contains j <;> cases hji : (j == i) <;> simp
        · rw [List.length_append, List.length_singleton]
          have : numsU (xs ++ [i]) = numsU xs ++ [.int .u64 (i : Int)] := by simp [numsU, encU]
          rw [this]
          exact hown4
        · rw [List.nodup_append]
          refine ⟨HC.out.nd, by simp, fun a ha b hb => ?_⟩
          simp at hb
          subst hb
          exact fun e => hni (e ▸ ha)
        · intro x hx
          rcases List.mem_append.1 hx with hx | hx
          · exact HC.out.mem x hx
          · simp at hx; subst hx; exact ⟨hu, hsome⟩
        · rw [List.length_append, List.length_singleton]; have := HC.out.cnt; omega
        · exact (hb3.alloc hb3.size _).grown hg4 (Nat.le_trans hb3.size (by simp)) fun k hk => (HC.out.own.lt k hk).1
        · rcases hown4.2 with ⟨e, h0⟩ | ⟨g, cap, cur, hv, _⟩
          · omega
          · cases hv; exact ⟨g, rfl⟩
        · intro g hg
          rw [List.length_append, List.length_singleton] at hg
          have hat5 : (Value.slice A4 (xs.length + 1) c4).ownBlock = (Value.slice A xs.length c).ownBlock ∨ (Value.slice A4 (xs.length + 1) c4).ownBlock = some (w3.alloc (.cells #[.int .u64 (i : Int)] 30)).heap.size := hat4
          rcases hat5 with e | e
          · exact hnr g (by rw [← e]; exact hg)
          · rw [e] at hg
            cases hg
            have : (w3.alloc (.cells #[.int .u64 (i : Int)] 30)).heap.size = w3.heap.size + 1 := by simp
            omega
      clear hown4 hg4 hat4 hao hr1 hb8 hba HX
      go_wp2
      go_roundw
      case rel =>
        obtain ⟨cnt4, h1, h2, h3⟩ := HF4.out
        exact ⟨A4, c4, xs ++ [i], cnt4, by rw [List.length_append]; rfl, h3⟩
      case measure =>
        obtain ⟨cnt4, h1, h2, h3⟩ := HF4.out
        rw [h1, HRL.out]
        exact h2
end
end Go.Proofs.YthaepkpmpnofgaaGreat.ListP
