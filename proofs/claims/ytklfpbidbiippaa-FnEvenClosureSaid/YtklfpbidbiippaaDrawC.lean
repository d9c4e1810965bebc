/- The draws of a space alone. -/
import Derived.Test.YtklfpbidbiippaaDrawM
namespace Go.Proofs.Ytklfpbidbiippaa
open Go.RowKit Go.Joins

/-- an answer's cells and the reader behind it -/
def EC (R : Nat) (w : World) (n : Nat) (wq : World) : Prop :=
  wq.heap[w.heap.size]? = some (.cells #[.int .i64 0, .slice none 0 0] 25 (0, 0)) ∧ Below w.heap.size w wq ∧ RD wq R n ∧ w.heap.size < R
theorem EC.pick {R n k : Nat} {w wq w' : World} (h : EC R w n wq) (hg : wq.grownBy w' (some R)) (hr : RD w' R k) : EC R w k w' := by
  obtain ⟨h1, h2, _, h4⟩ := h
  exact ⟨(hg.block _ (lt_of_block h1) (by simp; omega)).trans h1, bgrown h2 hg h2.size (fun k hk => by cases hk; omega), hr, h4⟩
/-- What a draw of a space alone leaves. -/
def DrawCPost (w : World) (e : Ending) (w' : World) : Prop :=
  ∃ (m : Int) (a : Option Addr) (zs : List Int) (cap : Nat), e = .returned (.agg #[.int .i64 m, .slice a zs.length cap]) ∧ Ints w' a zs ∧ zs.length ≤ 65 ∧ zs.length ≤ cap ∧ Below w.heap.size w w'
theorem cc_done {w wq : World} {m : Int} {a : Option Addr} {cap base : Nat} {zs : List Int} (ho : Owns wq base (.slice a zs.length cap) zs) (hb : w.heap.size < base) (hl : zs.length ≤ 65) (B : Below w.heap.size w wq) (x y : Value) :
    DrawCPost w (.returned (.agg #[.int .i64 m, .slice a zs.length cap])) ((wq.setCell ⟨w.heap.size, 0, none⟩ x).setCell ⟨w.heap.size, 1, none⟩ y) :=
  ⟨m, a, zs, cap, rfl, (ho.set2 (by omega) _ _).ints, hl, ho.cap, (B.setCell (p := ⟨w.heap.size, 0, none⟩) (Nat.le_refl _) _).setCell (p := ⟨w.heap.size, 1, none⟩) (Nat.le_refl _) _⟩






end Go.Proofs.Ytklfpbidbiippaa
