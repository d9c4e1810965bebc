/- What holds between two rounds of the loop over a poll's judgments that collects those than which no other one is better. -/
import Derived.Test.YtcophcjkhdipbaaPollJ
import Derived.Test.YtcophcjkhdipbaaNearF
import Derived.Maps.AppendAt
namespace Go.Proofs.Ytcophcjkhdipbaa
open Go.RowKit Go.Joins

theorem block_own {β : Type} (B : Nat) (cs : Array Value) (t : TypeId) : Own (fun (_ : β) (W : World) => W.heap[B]? = some (.cells cs t (0, 0))) := fun s X Y row hs hg hrow => by
  refine (hg.block B (Array.getElem?_eq_some_iff.1 hs).1 (fun e' => ?_)).trans hs
  obtain ⟨o, ho, hc⟩ := hrow B e'.symm
  rw [show X.heap[B]? = _ from hs] at ho; cases ho; cases hc

def UnbI (b : Int → Int → Bool) (zs : List Int) (w : World) (cs : Array Value) (fv : Value) (s : List Int) (W : World) : Prop :=
  ((∃ v, Boxed W (w.heap.size + 1 + 1) 22 v ∧ W.ownsRow w.heap.size 3 1 v (s.filter (unbP b zs)).length ((s.filter (unbP b zs)).map (Value.int .i64)) ∧ True) ∧
    (W.heap[w.heap.size]? = some (.cells cs 61 (0, 0)) ∧ Boxed W (w.heap.size + 1) 62 fv)) ∧ Below w.heap.size w W
theorem UnbI.own {b : Int → Int → Bool} {zs : List Int} {w : World} {cs : Array Value} {fv : Value} {K : Nat} (hK : w.heap.size ≤ K) : OwnFrom K (UnbI b zs w cs fv) :=
  OwnFrom.and (OwnFrom.and (Own.from (holdsRow_own _ _ _ _ _ _ _ (fun _ _ => True)) _) (OwnFrom.and (Own.from (block_own _ _ _) _) (Own.from (boxed_own _ _ _) _))) (ownFrom_below (Nat.le_refl _) hK)
theorem keeps_below {W W' : World} (h : Below W.heap.size W W') (B : Nat) : KeepsFrom B W W' := ⟨h.size, fun k _ _ hk _ => (h.block k (Array.getElem?_eq_some_iff.1 hk).1).trans hk⟩
theorem block_past {W w1 : World} {B P : Nat} {cs : Array Value} {t e : TypeId} {base size k : Nat} {v u : Value} {xs : List Value} {tmp : Obj} (h : W.heap[B]? = some (.cells cs t (0, 0))) (hte : t ≠ e) (hr : W.ownsRow base e size v k xs)
    (hg : (W.alloc tmp).grownBy w1 v.ownBlock) (hne : B ≠ P) : (w1.setCell ⟨P, 0, none⟩ u).heap[B]? = some (.cells cs t (0, 0)) := by
  have hlt := (Array.getElem?_eq_some_iff.1 h).1
  refine (Below.heap_setCell _ _ _ _ hne).trans ((hg.block B (by simp; omega) ?_).trans ((Below.heap_alloc W tmp B hlt).trans h))
  rcases hr.2 with ⟨rfl, _⟩ | ⟨g, cap, cur, rfl, _, hgb, _⟩
  · simp [Value.ownBlock]
  · intro e'
    obtain rfl : B = g := by simpa [Value.ownBlock] using e'
    have := h.symm.trans hgb
    simp at this
    exact hte this.2
theorem filter_snoc (p : Int → Bool) (s : List Int) (x : Int) : (s ++ [x]).filter p = s.filter p ++ (if p x then [x] else []) := by
  rw [List.filter_append]
  by_cases h : p x = true <;> simp [h]
end Go.Proofs.Ytcophcjkhdipbaa
