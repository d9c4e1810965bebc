/- equalSpace of the laws. -/
import Derived.Test.YtcnoipghepjodaaDoorLawH
namespace Go.Proofs.YtcnoipghepjodaaDoor
open Go.RowKit Go.Joins

/-- whether two spaces are the same -/
def eqS (n m : Int) (xs ys : List Int) : Bool := decide (n = m) && eqB xs ys
theorem equalSpace_any (n m : Int) (a b : Option Addr) (ca cb : Nat) (xs ys : List Int) (w : World) (hx : Ints w a xs) (hy : Ints w b ys) (hn : xs.length ≤ 1048576) (hm : ys.length ≤ 1048576) :
    Calls Tryd.prog 11 #[.agg #[.int .i64 n, .slice a xs.length ca], .agg #[.int .i64 m, .slice b ys.length cb]] w fun e w' => e = .returned (.bool (eqS n m xs ys)) ∧ Below w.heap.size w w' := by
  by_cases h : n = m
  · subst h
    have hne : (n == n) = true := by simp
    have HE := hide (show eqB xs ys = eqS n n xs ys from by unfold eqS; simp)
    go_enter Tryd.func11, Tryd.ntmps11
    go_wp2_with fail
    refine (equalInts_any _ _ _ _ _ _ _ (hx.below (bel2 w _ _)) (hy.below (bel2 w _ _)) hn hm).mono ?_
    rintro e w1 ⟨rfl, hb⟩
    go_wp2
    go_ret
    exact ⟨ret_bool HE.out, bnext (bel2 w _ _) hb⟩
  · have hne : (n == m) = false := by simpa using h
    have HE := hide (show false = eqS n m xs ys from by unfold eqS; simp [h])
    clear h
    go_enter Tryd.func11, Tryd.ntmps11
    go_wp2_with fail
    go_ret
    exact ⟨ret_bool HE.out, bel2 w _ _⟩
theorem equalSpace_was (n m : Int) (a b : Option Addr) (ca cb : Nat) (xs ys : List Int) (w : World) (r : Bool) (hx : Ints w a xs) (hy : Ints w b ys) (hn : xs.length ≤ 1048576) (hm : ys.length ≤ 1048576) (hr : eqS n m xs ys = r) :
    Calls Tryd.prog 11 #[.agg #[.int .i64 n, .slice a xs.length ca], .agg #[.int .i64 m, .slice b ys.length cb]] w fun e w' => e = .returned (.bool r) ∧ Below w.heap.size w w' := by
  subst hr
  exact equalSpace_any n m a b ca cb xs ys w hx hy hn hm
theorem eqS_refl (n : Int) (xs : List Int) : eqS n n xs xs = true := by unfold eqS; rw [eqB_refl]; simp
end Go.Proofs.YtcnoipghepjodaaDoor
