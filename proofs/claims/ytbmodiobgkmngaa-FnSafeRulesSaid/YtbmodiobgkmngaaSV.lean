/- A space in a variable with the numbers beside it; lists that a call gives. -/
import Derived.Test.YtbmodiobgkmngaaValid
import Derived.OwnWalk
namespace Go.Proofs.Ytbmodiobgkmngaa
open Go.RowKit Go.Joins

/-- A variable of a part's type: its two cells. -/
def PBox (w : World) (g : Nat) (c b : Int) : Prop := g < w.heap.size ∧ w.cell? ⟨g, 0, none⟩ = some (.int .i64 c) ∧ w.cell? ⟨g, 1, none⟩ = some (.int .i64 b)
theorem PBox.below {w w' : World} {g : Nat} {c b : Int} (h : PBox w g c b) (hb : Below w.heap.size w w') : PBox w' g c b :=
  ⟨Nat.lt_of_lt_of_le h.1 hb.size, (hb.cell (p := ⟨g, 0, none⟩) h.1).trans h.2.1, (hb.cell (p := ⟨g, 1, none⟩) h.1).trans h.2.2⟩
theorem PBox.new (w : World) (c b : Int) (t : TypeId) : PBox (w.alloc (.cells #[.int .i64 c, .int .i64 b] t)) w.heap.size c b :=
  ⟨by simp, by simp [go_sem], by simp [go_sem]⟩

theorem filter_take (p : Int → Bool) (zs : List Int) (k : Nat) (hk : k < zs.length) : (zs.take (k + 1)).filter p = (zs.take k).filter p ++ (if p zs[k] then [zs[k]] else []) := by
  rw [List.take_add_one, List.getElem?_eq_getElem hk, List.filter_append]
  by_cases h : p zs[k] = true <;> simp [h]
theorem filter_le (p : Int → Bool) (zs : List Int) (k : Nat) : ((zs.take k).filter p).length ≤ k := Nat.le_trans (List.length_filter_le _ _) (List.length_take_le _ _)
/-- An element more. -/
theorem Owns.push {w : World} {base : Nat} {v : Value} {ys : List Int} {z : Int} (h : w.ownsRow base 3 1 v (ys.length + 1) (ys.map (Value.int .i64) ++ [.int .i64 z])) : Owns w base v (ys ++ [z]) := by
  unfold Owns; simpa using h

/-- An owned list, and nothing old has turned. -/
def Gives (zs : List Int) (w : World) (e : Ending) (w' : World) : Prop := ∃ v, e = .returned v ∧ Owns w' w.heap.size v zs ∧ Below w.heap.size w w'
theorem gives_nil {zs : List Int} {w w' : World} (h : zs = []) (hb : Below w.heap.size w w') : Gives zs w (.returned (.slice none 0 0)) w' := by
  subst h
  exact ⟨_, rfl, World.ownsRow_nil _ _ _ _, hb⟩

/-- What a call that only reads needs of a space in a variable, in whatever world. -/
def SV (w0 : World) (n : Int) (a : Option Addr) (zs : List Int) (cap : Nat) (l : Option Addr) (ls : List Int) (wx : World) : Prop :=
  Box wx w0.heap.size n a zs.length cap ∧ Ints wx a zs ∧ Ints wx l ls ∧ Below w0.heap.size w0 wx
theorem SV.below {w0 wx wy : World} {n : Int} {a : Option Addr} {zs : List Int} {cap : Nat} {l : Option Addr} {ls : List Int} (h : SV w0 n a zs cap l ls wx) (hb : Below wx.heap.size wx wy) : SV w0 n a zs cap l ls wy :=
  ⟨h.1.below hb, h.2.1.below hb, h.2.2.1.below hb, bnext h.2.2.2 hb⟩
theorem SV.drew {w0 wx : World} {n : Int} {a : Option Addr} {zs : List Int} {cap : Nat} {l : Option Addr} {ls : List Int} (h : SV w0 n a zs cap l ls wx) : SV w0 n a zs cap l ls wx.drew := h.below (bdrew' (Below.refl _ _))
theorem SV.pair {w0 wx : World} {n : Int} {a : Option Addr} {zs : List Int} {cap : Nat} {l : Option Addr} {ls : List Int} (h : SV w0 n a zs cap l ls wx) : Box wx w0.heap.size n a zs.length cap ∧ Ints wx a zs ∧ Ints wx l ls ∧ Below w0.heap.size w0 wx := h
theorem SV.new (w : World) (n : Int) (a : Option Addr) (zs : List Int) (cap : Nat) (l : Option Addr) (ls : List Int) (t : TypeId) (hi : Ints w a zs) (hj : Ints w l ls) : SV w n a zs cap l ls (w.alloc (.cells #[.int .i64 n, .slice a zs.length cap] t)) :=
  ⟨Box.new _ _ _ _ _ _, hi.below (bel1 _ _), hj.below (bel1 _ _), bel1 _ _⟩

/-- A write to a row from K on, seen from K. -/
theorem bgrown {K : Nat} {a w w' : World} {row : Option Nat} (h : Below K a w) (hg : w.grownBy w' row) (hK : K ≤ w.heap.size) (hr : ∀ k, row = some k → K ≤ k) : Below K a w' := h.grown hg hK hr
theorem own_ge {w : World} {base : Nat} {v : Value} {zs : List Int} (h : Owns w base v zs) : ∀ k, v.ownBlock = some k → base ≤ k := fun k hk => (World.ownsRow.lt h k hk).1
theorem own_lt {w : World} {base : Nat} {v : Value} {zs : List Int} (h : Owns w base v zs) : ∀ k, v.ownBlock = some k → k < w.heap.size := fun k hk => (World.ownsRow.lt h k hk).2
theorem own_kept {w w' : World} {base : Nat} {v : Value} {zs : List Int} {row : Option Nat} (h : Owns w base v zs) (hg : w.grownBy w' row) (hne : ∀ k, row = some k → v.ownBlock ≠ some k) : Owns w' base v zs := by
  refine World.ownsRow.kept h hg ?_
  rcases hr : row with _ | k
  · rcases v.ownBlock with _ | j
    · exact .inl rfl
    · exact .inr (by simp)
  · exact .inr (hne k hr)
end Go.Proofs.Ytbmodiobgkmngaa
