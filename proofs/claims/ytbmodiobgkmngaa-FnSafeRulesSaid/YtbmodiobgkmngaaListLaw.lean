/- What the walks of the laws on lists share. -/
import Derived.Test.YtbmodiobgkmngaaSV
import Derived.Test.YtbmodiobgkmngaaMark
namespace Go.Proofs.Ytbmodiobgkmngaa
open Go.RowKit Go.Joins

theorem eqIntS_yes (a b : Option Addr) (ca cb : Nat) (xs : List Int) (w : World) (hx : Ints w a xs) (hy : Ints w b xs) (hn : xs.length ≤ 1048576) :
    Calls Try.prog 46 #[.slice a xs.length ca, .slice b xs.length cb] w fun e w' => e = .returned (.bool true) ∧ Below w.heap.size w w' :=
  (eqIntS_any a b ca cb xs xs w hx hy hn).mono fun _ _ ⟨he, hb⟩ => ⟨he.trans (ret_bool (by simp)), hb⟩
theorem eqSpace_yes (n : Int) (a b : Option Addr) (ca cb : Nat) (xs : List Int) (w : World) (hx : Ints w a xs) (hy : Ints w b xs) (hn : xs.length ≤ 1048576) :
    Calls Try.prog 18 #[.agg #[.int .i64 n, .slice a xs.length ca], .agg #[.int .i64 n, .slice b xs.length cb]] w fun e w' => e = .returned (.bool true) ∧ Below w.heap.size w w' :=
  (eqSpace_any n n a b ca cb xs xs w hx hy hn).mono fun _ _ ⟨he, hb⟩ => ⟨he.trans (ret_bool (by simp)), hb⟩
theorem Box.pair {w : World} {g : Nat} {n : Int} {a : Option Addr} {len cap : Nat} (h : Box w g n a len cap) : g < w.heap.size ∧ w.cell? ⟨g, 0, none⟩ = some (.int .i64 n) ∧ w.cell? ⟨g, 1, none⟩ = some (.slice a len cap) := h
theorem held_yes (a : Option Addr) (cap n : Nat) (k : Int) (w : World) (hi : Ints w a (marks k n)) (hn : n ≤ 1048576) (h0 : 0 ≤ k) (h1 : k ≤ 4194304) :
    Calls Try.prog 48 #[.slice a n cap, .int .i64 k] w fun e w' => e = .returned (.int .i64 (k + n)) ∧ Below w.heap.size w w' := by
  have h := heldIntS_any a cap (marks k n) k w hi (by rw [marks_length]; exact hn) h0 h1 (by rw [marks_length])
  rwa [marks_length] at h

end Go.Proofs.Ytbmodiobgkmngaa
