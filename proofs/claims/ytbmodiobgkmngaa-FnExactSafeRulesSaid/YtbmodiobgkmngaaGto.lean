/- A scope in which the run jumps to either of two labels: what holds at each, with a number that every pass makes less (my own law of the machine). -/
import Derived.Test.YtbmodiobgkmngaaBase
import Derived.Scope
import Derived.ScopeJumps
namespace Go.Proofs.Ytbmodiobgkmngaa
open Go Go.RowKit Go.Joins

/-- what each way out of a pass with m passes left must find -/
def Two (J0 J1 : Nat → Act → World → Prop) (m : Nat) (Q : Exit → Act → World → Prop) (e : Exit) (a : Act) (w : World) : Prop :=
  match e with
  | .goto 0 => ∃ k, k < m ∧ J0 k a w
  | .goto 1 => ∃ k, k < m ∧ J1 k a w
  | .goto _ => False
  | e => Q e a w
theorem two_less {J0 J1 : Nat → Act → World → Prop} {m k : Nat} {Q : Exit → Act → World → Prop} (h : k ≤ m) : ∀ e a w, Two J0 J1 k Q e a w → Two J0 J1 m Q e a w := by
  intro e a w hq
  cases e with
  | goto l =>
    rcases l with _ | _ | l
    · obtain ⟨i, hi, hj⟩ := hq; exact ⟨i, by omega, hj⟩
    · obtain ⟨i, hi, hj⟩ := hq; exact ⟨i, by omega, hj⟩
    · exact hq
  | normal => exact hq
  | exit id => exact hq
  | ret => exact hq
  | panic ch => exact hq
  | outgrown => exact hq
theorem wp_weaken {P : Program} {c : Code} {Q Q' : Exit → Act → World → Prop} {a : Act} {w : World} (h : ∀ e a w, Q e a w → Q' e a w) (hc : c.wp P Q a w) : c.wp P Q' a w := by
  intro b k cs
  obtain ⟨e, a1, w1, hq, harr⟩ := hc b k cs
  exact ⟨e, a1, w1, h _ _ _ hq, harr⟩
theorem wp_scope_two {P : Program} {c r0 r1 : Code} {J0 J1 : Nat → Act → World → Prop} {Q : Exit → Act → World → Prop} {a : Act} {w : World} (M : Nat)
    (h0 : findLabel c 0 = some (.seq .skip r0)) (h1 : findLabel c 1 = some (.seq .skip r1))
    (p1 : ∀ m a w, J1 m a w → r1.wp P (Two J0 J1 m Q) a w)
    (p0 : (∀ m a w, J1 m a w → r1.wp P (Two J0 J1 m Q) a w) → ∀ m a w, J0 m a w → r0.wp P (Two J0 J1 m Q) a w)
    (first : (∀ m a w, J0 m a w → r0.wp P (Two J0 J1 m Q) a w) → c.wp P (Two J0 J1 M Q) a w) : (Code.scope c).wp P Q a w := by
  have q0 := p0 p1
  have first' := first q0
  intro b k cs
  have g0 : gotoIn 0 (.inScope c :: k) = some (.code (.seq .skip r0) :: .inScope c :: k) := by simp [gotoIn, h0]
  have g1 : gotoIn 1 (.inScope c :: k) = some (.code (.seq .skip r1) :: .inScope c :: k) := by simp [gotoIn, h1]
  -- a pass from a state at a label arrives where the scope's end must
  have key : ∀ m, (∀ a w, J0 m a w → ∃ e a' w', Q e a' w' ∧ Arrives P (lone (b.at a (.code (.seq .skip r0) :: .inScope c :: k)) cs w) b k cs e a' w') ∧ (∀ a w, J1 m a w → ∃ e a' w', Q e a' w' ∧ Arrives P (lone (b.at a (.code (.seq .skip r1) :: .inScope c :: k)) cs w) b k cs e a' w') := by
    intro m
    induction m using Nat.strongRecOn with
    | _ m ih =>
      have go : ∀ (r : Code) (a : Act) (w : World), r.wp P (Two J0 J1 m Q) a w → ∃ e a' w', Q e a' w' ∧ Arrives P (lone (b.at a (.code r :: .inScope c :: k)) cs w) b k cs e a' w' := by
        intro r a w hr
        obtain ⟨e, a1, w1, hq, harr⟩ := hr b (.inScope c :: k) cs
        cases e with
        | normal => exact ⟨.normal, a1, w1, hq, Steps.trans harr (.one step_inScope)⟩
        | exit id => exact ⟨.exit id, a1, w1, hq, fun k' hk => harr k' (by simp [exitTo, hk])⟩
        | goto l =>
          rcases l with _ | _ | l
          · obtain ⟨i, hi, hj⟩ := hq
            obtain ⟨e2, a2, w2, hq2, harr2⟩ := (ih i hi).1 a1 w1 hj
            exact ⟨e2, a2, w2, hq2, .of_steps (harr _ g0) harr2⟩
          · obtain ⟨i, hi, hj⟩ := hq
            obtain ⟨e2, a2, w2, hq2, harr2⟩ := (ih i hi).2 a1 w1 hj
            exact ⟨e2, a2, w2, hq2, .of_steps (harr _ g1) harr2⟩
          · exact hq.elim
        | ret => exact ⟨_, a1, w1, hq, harr⟩
        | panic ch => exact ⟨_, a1, w1, hq, harr⟩
        | outgrown => exact ⟨_, a1, w1, hq, harr⟩
      exact ⟨fun a w hj => go (.seq .skip r0) a w (wp_seq (wp_skip (q0 m a w hj))), fun a w hj => go (.seq .skip r1) a w (wp_seq (wp_skip (p1 m a w hj)))⟩
  obtain ⟨e, a1, w1, hq, harr⟩ := first' b (.inScope c :: k) cs
  cases e with
  | normal => exact ⟨.normal, a1, w1, hq, .head step_scope (Steps.trans harr (.one step_inScope))⟩
  | exit id => exact ⟨.exit id, a1, w1, hq, fun k' hk => .head step_scope (harr k' (by simp [exitTo, hk]))⟩
  | goto l =>
    rcases l with _ | _ | l
    · obtain ⟨i, _, hj⟩ := hq
      obtain ⟨e2, a2, w2, hq2, harr2⟩ := (key i).1 a1 w1 hj
      exact ⟨e2, a2, w2, hq2, .of_steps (.head step_scope (harr _ g0)) harr2⟩
    · obtain ⟨i, _, hj⟩ := hq
      obtain ⟨e2, a2, w2, hq2, harr2⟩ := (key i).2 a1 w1 hj
      exact ⟨e2, a2, w2, hq2, .of_steps (.head step_scope (harr _ g1)) harr2⟩
    · exact hq.elim
  | ret => exact ⟨_, a1, w1, hq, .of_steps (.one step_scope) harr⟩
  | panic ch => exact ⟨_, a1, w1, hq, .of_steps (.one step_scope) harr⟩
  | outgrown => exact ⟨_, a1, w1, hq, .of_steps (.one step_scope) harr⟩
end Go.Proofs.Ytbmodiobgkmngaa
