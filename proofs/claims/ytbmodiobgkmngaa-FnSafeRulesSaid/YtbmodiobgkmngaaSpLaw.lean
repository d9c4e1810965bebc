/- What the walks of the laws on spaces share. -/
import Derived.Test.YtbmodiobgkmngaaListLaw
namespace Go.Proofs.Ytbmodiobgkmngaa
open Go.RowKit Go.Joins

theorem Box.kept {w w' : World} {g : Nat} {n : Int} {a : Option Addr} {len cap : Nat} {row : Option Nat} (h : Box w g n a len cap) (hg : w.grownBy w' row) (hne : ∀ k, row = some k → k ≠ g) : Box w' g n a len cap := by
  have hb : w'.heap[g]? = w.heap[g]? := hg.block g h.1 (by
    rcases row with _ | k
    · simp
    · intro e
      exact hne k rfl (by simpa using e.symm))
  refine ⟨Nat.lt_of_lt_of_le h.1 hg.size, ?_, ?_⟩
  · rw [← h.2.1]
    simp only [World.cell?, hb]
  · rw [← h.2.2]
    simp only [World.cell?, hb]

theorem markSpaceO_any (n : Int) (a : Option Addr) (cap : Nat) (zs : List Int) (base : Nat) (k : Int) (w : World) (ho : Owns w base (.slice a zs.length cap) zs) (hn : zs.length ≤ 1048576) (h0 : 0 ≤ k) (h1 : k ≤ 4194304) :
    Calls Try.prog 19 #[.agg #[.int .i64 n, .slice a zs.length cap], .int .i64 k] w fun e w' => e = .returned (.int .i64 (k + zs.length)) ∧ Owns w' base (.slice a zs.length cap) (marks k zs.length) ∧ w.grownBy w' (Value.slice a zs.length cap).ownBlock := by
  have hg := World.grownBy_alloc w (.cells #[.int .i64 n, .slice a zs.length cap] 25) (Value.slice a zs.length cap).ownBlock
  have ho1 : Owns (w.alloc (.cells #[.int .i64 n, .slice a zs.length cap] 25)) base (.slice a zs.length cap) zs := ho.below (bel1 w _)
  go_enter Try.func19, Try.ntmps19
  go_wp2_with fail
  refine (markIntS_any _ _ _ _ _ ho1 hn h0 h1).mono ?_
  rintro e w1 ⟨rfl, om, hg1⟩
  go_wp2
  go_ret
  exact ⟨rfl, om, gtrans hg hg1⟩
end Go.Proofs.Ytbmodiobgkmngaa
