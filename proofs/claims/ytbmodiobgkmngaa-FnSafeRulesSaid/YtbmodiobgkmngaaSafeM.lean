/- Safe rules: what the recursion answers; a row's prefix. -/
import Derived.Test.YtbmodiobgkmngaaApplyR
namespace Go.Proofs.Ytbmodiobgkmngaa
open Go.RowKit Go.Joins

/-- all lists of k more votes lead to a judgment -/
def safeK (zs ws : List Int) : Nat → List Int → Bool
  | 0, vs => hasB zs ((applyK vs ws ws.length : Nat) : Int)
  | k + 1, vs => zs.all fun x => safeK zs ws k (vs ++ [x])
/-- the answer of IsSafe -/
def safeR (n : Int) (zs : List Int) (v : Int) (ws : List Int) : Bool := vrB n zs v ws && safeK zs ws v.toNat []
theorem safeR_no {n v : Int} {zs ws : List Int} (h : vrB n zs v ws = false) : safeR n zs v ws = false := by unfold safeR; rw [h]; rfl
theorem safeR_yes {n v : Int} {zs ws : List Int} (h : vrB n zs v ws = true) : safeR n zs v ws = safeK zs ws v.toNat [] := by unfold safeR; rw [h]; rfl
theorem all_true {zs : List Int} {p : Int → Bool} (h : ∀ j, j < zs.length → p (zs.getD j 0) = true) : zs.all p = true := by
  rw [List.all_eq_true]
  intro x hx
  obtain ⟨i, hi, e⟩ := List.getElem_of_mem hx
  have := h i hi
  rwa [getD_lt hi, e] at this
theorem all_false {zs : List Int} {p : Int → Bool} {k : Nat} (hk : k < zs.length) (h : p zs[k] = false) : zs.all p = false := by
  rw [List.all_eq_false]
  exact ⟨_, List.getElem_mem hk, by rw [h]; simp⟩
theorem any_not {zs : List Int} (p : Int → Bool) : (!zs.any fun x => !p x) = zs.all p := by
  induction zs with
  | nil => rfl
  | cons x t ih => simp [List.any_cons, List.all_cons, ← ih]
theorem mem_pushed {vs : List Int} {z : Int} {P : Int → Prop} (h : ∀ x ∈ vs, P x) (hz : P z) : ∀ x ∈ vs ++ [z], P x := fun x hx => by
  rcases List.mem_append.1 hx with h' | h'
  · exact h x h'
  · rw [List.mem_singleton] at h'; rw [h']; exact hz
theorem nil_range (P : Int → Prop) : ∀ x ∈ ([] : List Int), P x := fun x hx => by cases hx
/-- of a list that was appended to in place the old list is still the beginning -/
theorem owns_prefix {w : World} {base g cap : Nat} {vs : List Int} {x : Int} (h : Owns w base (.slice (some ⟨g, 0, none⟩) (vs.length + 1) cap) (vs ++ [x])) : Owns w base (.slice (some ⟨g, 0, none⟩) vs.length cap) vs := by
  have h' : w.ownsRow base 3 1 (.slice (some ⟨g, 0, none⟩) (vs.length + 1) cap) (vs ++ [x]).length ((vs ++ [x]).map (Value.int .i64)) := h
  rcases h'.2 with ⟨e, _⟩ | ⟨g', cap', cur, e, hb, hg, hn, hc, hs, ht⟩
  · cases e
  · simp only [Value.slice.injEq, Option.some.injEq, Addr.mk.injEq] at e
    obtain ⟨⟨rfl, _⟩, e2, rfl⟩ := e
    refine ⟨by simp, .inr ⟨g, cap, cur, rfl, hb, hg, by omega, hc, hs, ?_⟩⟩
    have ht2 := congrArg (List.take (vs.length * 1)) ht
    rw [List.take_take, List.map_append, List.length_append] at ht2
    have e3 : min (vs.length * 1) ((vs.length + [x].length) * 1) = vs.length * 1 := by simp
    rw [e3] at ht2
    rw [ht2]
    rw [List.take_append_of_le_length (by simp)]
    rw [show vs.length * 1 = (vs.map (Value.int .i64)).length from by simp, List.take_length]
end Go.Proofs.Ytbmodiobgkmngaa
