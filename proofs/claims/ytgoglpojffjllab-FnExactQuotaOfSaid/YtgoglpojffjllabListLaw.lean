/- What the walks of the laws on lists share. -/
import Derived.Test.YtgoglpojffjllabSV
import Derived.Test.YtgoglpojffjllabMark
namespace Go.Proofs.Ytgoglpojffjllab
open Go.RowKit Go.Joins

theorem eqIntS_yes (a b : Option Addr) (ca cb : Nat) (xs : List Int) (w : World) (hx : Ints w a xs) (hy : Ints w b xs) (hn : xs.length ≤ 1048576) :
    Calls Try.prog 21 #[.slice a xs.length ca, .slice b xs.length cb] w fun e w' => e = .returned (.bool true) ∧ Below w.heap.size w w' :=
  (eqIntS_any a b ca cb xs xs w hx hy hn).mono fun _ _ ⟨he, hb⟩ => ⟨he.trans (ret_bool (by simp)), hb⟩
theorem eqSpace_yes (n : Int) (a b : Option Addr) (ca cb : Nat) (xs : List Int) (w : World) (hx : Ints w a xs) (hy : Ints w b xs) (hn : xs.length ≤ 1048576) :
    Calls Try.prog 20 #[.agg #[.int .i64 n, .slice a xs.length ca], .agg #[.int .i64 n, .slice b xs.length cb]] w fun e w' => e = .returned (.bool true) ∧ Below w.heap.size w w' :=
  (eqSpace_any n n a b ca cb xs xs w hx hy hn).mono fun _ _ ⟨he, hb⟩ => ⟨he.trans (ret_bool (by simp)), hb⟩
/-- A write to a row from K on, seen from K. -/
theorem bgrown {K : Nat} {a w w' : World} {row : Option Nat} (h : Below K a w) (hg : w.grownBy w' row) (hK : K ≤ w.heap.size) (hr : ∀ k, row = some k → K ≤ k) : Below K a w' := h.grown hg hK hr
theorem own_ge {w : World} {base : Nat} {v : Value} {zs : List Int} (h : Owns w base v zs) : ∀ k, v.ownBlock = some k → base ≤ k := fun k hk => (World.ownsRow.lt h k hk).1
theorem own_lt {w : World} {base : Nat} {v : Value} {zs : List Int} (h : Owns w base v zs) : ∀ k, v.ownBlock = some k → k < w.heap.size := fun k hk => (World.ownsRow.lt h k hk).2
theorem own_kept {w w' : World} {base : Nat} {v : Value} {zs : List Int} {row : Option Nat} (h : Owns w base v zs) (hg : w.grownBy w' row) (hne : ∀ k, row = some k → v.ownBlock ≠ some k) : Owns w' base v zs := by
  refine World.ownsRow.kept h hg ?_
  rcases hr : row with _ | k
  · rcases v.ownBlock with _ | j
    · exact .inl rfl
    · exact .inr (by simp)
  · exact .inr (hne k hr)

theorem Box.pair {w : World} {g : Nat} {n : Int} {a : Option Addr} {len cap : Nat} (h : Box w g n a len cap) : g < w.heap.size ∧ w.cell? ⟨g, 0, none⟩ = some (.int .i64 n) ∧ w.cell? ⟨g, 1, none⟩ = some (.slice a len cap) := h
theorem held_yes (a : Option Addr) (cap n : Nat) (k : Int) (w : World) (hi : Ints w a (marks k n)) (hn : n ≤ 1048576) (h0 : 0 ≤ k) (h1 : k ≤ 4194304) :
    Calls Try.prog 28 #[.slice a n cap, .int .i64 k] w fun e w' => e = .returned (.int .i64 (k + n)) ∧ Below w.heap.size w w' := by
  have h := heldIntS_any a cap (marks k n) k w hi (by rw [marks_length]; exact hn) h0 h1 (by rw [marks_length])
  rwa [marks_length] at h

end Go.Proofs.Ytgoglpojffjllab
