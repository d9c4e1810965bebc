/- Finite facts: of at most four ballots no four picks gain as much each as a group that is left out would. -/
import Derived.Test.YtgkaghappogglaaGreedM
namespace Go.Proofs.Ytgkaghappogglaa
open Go.RowKit Go.Joins

/-- what a ballot that has the picks t gains by pick i when the first j are there -/
def gT (j i t : Nat) : Nat := if t / 2 ^ i % 2 = 1 then 60 / (pc (t % 2 ^ j) + 1) else 0
def sT (j i : Nat) : List Nat → Nat
  | [] => 0
  | t :: ts => gT j i t + sT j i ts
/-- whether K picks, each of which gains at least 60 g and no less than a later one, may be -/
def mayG (K g : Nat) (ts : List Nat) : Bool := (List.range K).all fun j => decide (60 * g ≤ sT j j ts) && (List.range K).all fun i => decide (i ≤ j) || decide (sT j i ts ≤ sT j j ts)
/-- whether none of the lists of m more may be -/
def noG (n K g : Nat) : Nat → List Nat → Bool
  | 0, acc => !mayG K g acc
  | m + 1, acc => (List.range n).all fun t => noG n K g m (t :: acc)
theorem noG_all {n K g : Nat} : ∀ (us : List Nat) (acc : List Nat), noG n K g us.length acc = true → (∀ u ∈ us, u < n) → mayG K g (us.reverse ++ acc) = false
  | [], acc, h, _ => by
    have h : (!mayG K g acc) = true := h
    simpa using h
  | u :: us, acc, h, hu => by
    have h : ((List.range n).all fun t => noG n K g us.length (t :: acc)) = true := h
    rw [List.all_eq_true] at h
    have h1 := h u (List.mem_range.2 (hu u (by simp)))
    have h2 := noG_all us (u :: acc) h1 (fun v hv => hu v (by simp [hv]))
    rw [List.reverse_cons, List.append_assoc]
    exact h2
set_option maxRecDepth 100000
theorem f21 : noG 4 2 1 1 [] = true := by decide +kernel
theorem f22 : noG 4 2 2 2 [] = true := by decide +kernel
theorem f23 : noG 4 2 3 3 [] = true := by decide +kernel
theorem f31 : noG 8 3 1 1 [] = true := by decide +kernel
theorem f32 : noG 8 3 1 2 [] = true := by decide +kernel
theorem f33 : noG 8 3 2 3 [] = true := by decide +kernel
theorem f34 : noG 8 3 2 4 [] = true := by decide +kernel
theorem f41 : noG 16 4 1 1 [] = true := by decide +kernel
theorem f42 : noG 16 4 1 2 [] = true := by decide +kernel
theorem f43 : noG 16 4 1 3 [] = true := by decide +kernel
theorem f44 : noG 16 4 2 4 [] = true := by decide +kernel
theorem mayG_less {K g g' : Nat} {ts : List Nat} (h : mayG K g ts = true) (hg : g' ≤ g) : mayG K g' ts = true := by
  unfold mayG at h ⊢
  rw [List.all_eq_true] at h ⊢
  intro j hj
  have h1 := h j hj
  rw [Bool.and_eq_true, decide_eq_true_eq] at h1 ⊢
  exact ⟨by omega, h1.2⟩
/-- so there are no such picks -/
theorem no_picks {K g : Nat} {ts : List Nat} (hK1 : 1 ≤ K) (hK : K ≤ 4) (hg : 1 ≤ g) (hn : ts.length + g ≤ 6) (hd : ts.length + g ≤ g * K) (ht : ∀ t ∈ ts, t < 2 ^ K) : mayG K g ts = false := by
  rw [Bool.eq_false_iff]
  intro h
  have key : ∀ g' m, noG (2 ^ K) K g' m [] = true → ts.length = m → g' ≤ g → False := by
    intro g' m h1 h2 h3
    subst h2
    have h4 := noG_all (n := 2 ^ K) (K := K) (g := g') ts.reverse [] (by rw [List.length_reverse]; exact h1) (fun u hu => ht u (by simpa using hu))
    rw [List.reverse_reverse, List.append_nil] at h4
    rw [mayG_less h h3] at h4
    cases h4
  by_cases h0 : ts.length = 0
  · rw [List.length_eq_zero_iff] at h0
    subst h0
    unfold mayG at h
    rw [List.all_eq_true] at h
    have h1 := h 0 (List.mem_range.2 (by omega))
    rw [Bool.and_eq_true, decide_eq_true_eq] at h1
    have : sT 0 0 [] = 0 := rfl
    omega
  rcases (show K = 1 ∨ K = 2 ∨ K = 3 ∨ K = 4 from by omega) with rfl | rfl | rfl | rfl
  · omega
  · rcases (show ts.length = 1 ∨ ts.length = 2 ∨ ts.length = 3 from by omega) with e | e | e
    · exact key 1 1 f21 e (by omega)
    · exact key 2 2 f22 e (by omega)
    · exact key 3 3 f23 e (by omega)
  · rcases (show ts.length = 1 ∨ ts.length = 2 ∨ ts.length = 3 ∨ ts.length = 4 from by omega) with e | e | e | e
    · exact key 1 1 f31 e (by omega)
    · exact key 1 2 f32 e (by omega)
    · exact key 2 3 f33 e (by omega)
    · exact key 2 4 f34 e (by omega)
  · rcases (show ts.length = 1 ∨ ts.length = 2 ∨ ts.length = 3 ∨ ts.length = 4 from by omega) with e | e | e | e
    · exact key 1 1 f41 e (by omega)
    · exact key 1 2 f42 e (by omega)
    · exact key 1 3 f43 e (by omega)
    · exact key 2 4 f44 e (by omega)
end Go.Proofs.Ytgkaghappogglaa
