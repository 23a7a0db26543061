/- A writer beside a thing that was just read: what calls leave of both. No statement is proved here. -/
import Derived.Test.YtdainmpedhohnaaThings
import Derived.Test.YtdainmpedhohnaaLawD
namespace Go.Proofs.Ytdainmpedhohnaa.Holds
open Go.RowKit Go.Proofs.Ytdainmpedhohnaa.Kit Go.Proofs.Ytdainmpedhohnaa.Num Go.Proofs.Ytdainmpedhohnaa.State Go.Proofs.Ytdainmpedhohnaa.WalkA Go.Proofs.Ytdainmpedhohnaa.WalkB Go.Proofs.Ytdainmpedhohnaa.WalkH Go.Proofs.Ytdainmpedhohnaa.Things

/-- Block p is a writer that has laid l, block B holds the thing x; of what lay in w nothing has changed. -/
structure St (w : World) (p B : Nat) (x : Thing) (l : List UInt8) (W : World) : Prop where
  wv : ∃ v, WV W p v l ∧ v.ownBlock ≠ some B
  below : Below w.heap.size w W
  thing : W.heap[B]? = some (.cells #[.int .i64 x.kind, .int .u64 x.num, .string x.text] 30 (0, 0))
  old : w.heap.size ≤ p
  apart : p ≠ B

section
variable {w W W' : World} {p B : Nat} {x : Thing} {l l' : List UInt8}
theorem St.num (h : St w p B x l W) : W.cell? ⟨B, 1, none⟩ = some (.int .u64 x.num) := by rw [cell_at h.thing]; rfl
theorem St.text (h : St w p B x l W) : W.cell? ⟨B, 2, none⟩ = some (.string x.text) := by rw [cell_at h.thing]; rfl
theorem St.drew (h : St w p B x l W) : St w p B x l W.drew := by
  obtain ⟨v, hv, hb⟩ := h.wv
  exact ⟨⟨v, ⟨hv.cell, hv.own⟩, hb⟩, h.below.drew, h.thing, h.old, h.apart⟩
theorem St.first (hb : Below w.heap.size w W) {v : Value} (h : WV W p v l) (hp : w.heap.size ≤ p) : St w p W.heap.size x l (W.alloc (.cells #[.int .i64 x.kind, .int .u64 x.num, .string x.text] 30)) := by
  have hal : Below W.heap.size W (W.alloc (.cells #[.int .i64 x.kind, .int .u64 x.num, .string x.text] 30)) := (Below.refl _ _).alloc (Nat.le_refl _) _
  exact ⟨⟨v, h.below hal, fun e => by have := (h.row _ e).2; omega⟩, hb.trans (hal.mono hb.size), heap_alloc_new W _, hp, by have := h.lt; omega⟩
theorem St.call (h : St w p B x l W) (hk : Below W.heap.size W W') : St w p B x l W' := by
  obtain ⟨v, hv, hb⟩ := h.wv
  exact ⟨⟨v, hv.below hk, hb⟩, h.below.trans (hk.mono h.below.size), (hk.block B (lt_at h.thing)).trans h.thing, h.old, h.apart⟩
theorem St.wrote {v : Value} {e : Ending} (h : St w p B x l W) (hv : WV W p v l) (hb : v.ownBlock ≠ some B) (k : Wrote p v.ownBlock l' W e W') : e = .returned (.pointer (some ⟨p, 0, none⟩)) ∧ St w p B x l' W' := by
  obtain ⟨rfl, v', hv', hs⟩ := k
  refine ⟨rfl, ⟨v', hv', ?_⟩, h.below.trans (hs.below h.below.size h.old fun g hg => by have := (hv.row g hg).1; have := h.old; omega), ?_, h.old, h.apart⟩
  · have hB := lt_at h.thing
    rcases hs.next with e | ⟨g, e, hg⟩
    · rw [e]; exact hb
    · rw [e]; intro e2; cases e2; omega
  · refine (hs.only.block B (lt_at h.thing) ?_).trans h.thing
    rintro (e | e)
    · exact h.apart e.symm
    · exact hb e
end
section
variable (w W : World) (p B : Nat) (x : Thing) (l : List UInt8)
theorem st_num (y : Nat) (h : St w p B x l W) (hy : y < 18446744073709551616) (hl : l.length ≤ 140737488355000) :
    Calls Try.prog 10 #[.pointer (some ⟨p, 0, none⟩), .int .u64 (y : Int)] W fun e W' => e = .returned (.pointer (some ⟨p, 0, none⟩)) ∧ St w p B x (l ++ num y) W' := by
  obtain ⟨v, hv, hb⟩ := h.wv
  exact (WalkA.num_any p v l y W hv hy hl).mono fun e W' k => h.wrote hv hb k
theorem st_int (y : Int) (h : St w p B x l W) (h0 : -9223372036854775808 ≤ y) (h1 : y ≤ 9223372036854775807) (hl : l.length ≤ 140737488355000) :
    Calls Try.prog 12 #[.pointer (some ⟨p, 0, none⟩), .int .i64 y] W fun e W' => e = .returned (.pointer (some ⟨p, 0, none⟩)) ∧ St w p B x (l ++ num (twice y)) W' := by
  obtain ⟨v, hv, hb⟩ := h.wv
  exact (WalkB.int_any p v l y W hv h0 h1 hl).mono fun e W' k => h.wrote hv hb k
theorem st_bool (y : Bool) (h : St w p B x l W) (hl : l.length ≤ 140737488355000) :
    Calls Try.prog 14 #[.pointer (some ⟨p, 0, none⟩), .bool y] W fun e W' => e = .returned (.pointer (some ⟨p, 0, none⟩)) ∧ St w p B x (l ++ num (bit y)) W' := by
  obtain ⟨v, hv, hb⟩ := h.wv
  exact (WalkB.bool_any p v l y W hv hl).mono fun e W' k => h.wrote hv hb k
theorem st_text (s : ByteArray) (h : St w p B x l W) (hl : l.length + s.size ≤ 140737488355000) :
    Calls Try.prog 15 #[.pointer (some ⟨p, 0, none⟩), .string s] W fun e W' => e = .returned (.pointer (some ⟨p, 0, none⟩)) ∧ St w p B x (l ++ text s) W' := by
  obtain ⟨v, hv, hb⟩ := h.wv
  exact (WalkB.text_any p v l s W hv hl).mono fun e W' k => h.wrote hv hb k
theorem doc_num (y : Nat) (h : St w p B x l W) (hy : y < 18446744073709551616) :
    Calls Try.prog 11 #[.int .u64 (y : Int)] W fun e W' => e = .returned (.string (str (num y))) ∧ St w p B x l W' :=
  (WalkH.num_any y W hy).mono fun _ _ ⟨he, hk⟩ => ⟨he, h.call hk⟩
theorem doc_int (y : Int) (h : St w p B x l W) (h0 : -9223372036854775808 ≤ y) (h1 : y ≤ 9223372036854775807) :
    Calls Try.prog 13 #[.int .i64 y] W fun e W' => e = .returned (.string (str (num (twice y)))) ∧ St w p B x l W' :=
  (WalkH.int_any y W h0 h1).mono fun _ _ ⟨he, hk⟩ => ⟨he, h.call hk⟩
theorem doc_text (s : ByteArray) (h : St w p B x l W) (hs : s.size ≤ 140737488355000) :
    Calls Try.prog 16 #[.string s] W fun e W' => e = .returned (.string (str (text s))) ∧ St w p B x l W' :=
  (WalkH.text_any s W hs).mono fun _ _ ⟨he, hk⟩ => ⟨he, h.call hk⟩
end
end Go.Proofs.Ytdainmpedhohnaa.Holds
