/- Claims and justice: plain mathematics of the promises on claims. -/
import Derived.Test.YthkikjidkehheaaWroB
namespace Go.Proofs.Ythkikjidkehheaa
open Go.RowKit Go.Joins

theorem scan_none {p : Nat → Nat → Bool} {M : Nat} : ∀ f l, scan p M f l = none ↔ ∀ i, l ≤ i → i < l + f → ∀ g, g < M → p i g = false
  | 0, l => ⟨fun _ i h1 h2 => by omega, fun _ => rfl⟩
  | f + 1, l => by
    have ih := scan_none (p := p) (M := M) f (l + 1)
    constructor
    · intro h i h1 h2 g hg
      have hl : ∀ x, x < M → p l x = false := by
        intro x hx
        unfold scan at h
        cases hf : (List.range M).find? (p l) with
        | none =>
          rw [List.find?_eq_none] at hf
          have := hf x (by simpa using hx)
          simpa using this
        | some y => rw [hf] at h; cases h
      rw [scan_miss hl] at h
      rcases Nat.lt_or_ge l i with h3 | h3
      · exact ih.1 h i (by omega) (by omega) g hg
      · obtain rfl : i = l := by omega
        exact hl g hg
    · intro h
      rw [scan_miss (fun x hx => h l (Nat.le_refl _) (by omega) x hx)]
      exact ih.2 (fun i h1 h2 g hg => h i (by omega) (by omega) g hg)
theorem just_iff {s : ByteArray} {c : Int} {bs : List Int} {k x : Int} (h1 : claimN s ≠ 0) (h2 : seatedB c bs k x = true) :
    justB s c bs k x = true ↔ ∀ l, 1 ≤ l → l < 1 + k.toNat → ∀ g, g < 2 ^ bs.length → badB (claimN s) bs c.toNat k.toNat x.toNat l g = false := by
  unfold justB
  rw [decide_eq_true h1, h2, wroA_yes h1 h2, Bool.true_and, Bool.true_and, Option.isNone_iff_eq_none]
  exact scan_none _ _
theorem pc_mono (a b : Nat) (ha : a < 32) (hb : b < 32) (h : a &&& b = a) : pc a ≤ pc b := by
  have : ∀ a b : Fin 32, a.val &&& b.val = a.val → pc a.val ≤ pc b.val := by decide +kernel
  exact this ⟨a, ha⟩ ⟨b, hb⟩ h
theorem orL_start (ms : List Int) : ∀ x, x &&& orL ms x = x := by
  induction ms with
  | nil => intro x; show x &&& x = x; exact Nat.and_self x
  | cons b ms ih =>
    intro x
    show x &&& orL ms (x ||| b.toNat) = x
    have h := ih (x ||| b.toNat)
    apply Nat.eq_of_testBit_eq
    intro i
    have hi := congrArg (fun n => n.testBit i) h
    simp only [Nat.testBit_and, Nat.testBit_or] at hi ⊢
    cases hx : x.testBit i
    · rfl
    · rw [hx] at hi; simpa using hi
theorem orL_mem (ms : List Int) : ∀ x, ∀ b ∈ ms, b.toNat &&& orL ms x = b.toNat := by
  induction ms with
  | nil => intro x b hb; cases hb
  | cons c ms ih =>
    intro x b hb
    rcases List.mem_cons.1 hb with rfl | hb
    · show b.toNat &&& orL ms (x ||| b.toNat) = b.toNat
      have h := orL_start ms (x ||| b.toNat)
      apply Nat.eq_of_testBit_eq
      intro i
      have hi := congrArg (fun n => n.testBit i) h
      simp only [Nat.testBit_and, Nat.testBit_or] at hi ⊢
      cases hx : b.toNat.testBit i
      · rfl
      · rw [hx] at hi; simpa using hi
    · exact ih _ b hb
theorem and_sub (a o w : Nat) (h : a &&& o = a) : (a &&& w) &&& (o &&& w) = a &&& w := by
  apply Nat.eq_of_testBit_eq
  intro i
  have hi := congrArg (fun n => n.testBit i) h
  simp only [Nat.testBit_and] at hi ⊢
  cases ha : a.testBit i
  · rfl
  · rw [ha] at hi
    cases w.testBit i
    · simp
    · simpa using hi
theorem wrong_one' {ms : List Int} {l x : Nat} (hx : x < 32) : wrongB 1 ms l x = decide (l = 1 ∧ orL (ms.map (bandI x)) 0 = 0) := by
  unfold wrongB
  rw [if_pos rfl]
  have h : mostL ms x 0 = 0 ↔ orL (ms.map (bandI x)) 0 = 0 := by
    have h1 := mostL_lt ms x 1 0
    have h2 := orL_zero (ms.map (bandI x)) 0
    rw [h2]
    constructor
    · intro h
      have h3 := (h1.1 (by omega)).2
      refine ⟨rfl, fun z hz => ?_⟩
      obtain ⟨b, hb, rfl⟩ := List.mem_map.1 hz
      have h4 := h3 b hb
      unfold bandI
      rw [Int.toNat_natCast]
      exact (pc_zero_iff _ (and_lt b x hx)).1 (by omega)
    · intro h
      have h4 := h1.2 ⟨by omega, fun b hb => by
        have h5 := h.2 _ (List.mem_map.2 ⟨b, hb, rfl⟩)
        unfold bandI at h5
        rw [Int.toNat_natCast] at h5
        rw [h5]; decide⟩
      omega
  by_cases hl : l = 1 ∧ mostL ms x 0 = 0
  · rw [decide_eq_true hl, decide_eq_true ⟨hl.1, h.1 hl.2⟩]
  · rw [decide_eq_false hl, decide_eq_false (fun hh => hl ⟨hh.1, h.2 hh.2⟩)]
/-- together wronged is wronged by someone -/
theorem two_three {ms : List Int} {l w : Nat} (hw : w < 32) (h : wrongB 2 ms l w = true) : wrongB 3 ms l w = true := by
  unfold wrongB at h ⊢
  rw [if_neg (by decide), if_pos rfl, decide_eq_true_eq] at h
  rw [if_neg (by decide), if_neg (by decide), decide_eq_true_eq, mostL_lt]
  refine ⟨by omega, fun b hb => ?_⟩
  have h1 := pc_mono (b.toNat &&& w) (orL ms 0 &&& w) (and_lt b w hw) (Nat.and_lt_two_pow (n := 5) _ hw) (and_sub _ _ _ (orL_mem ms 0 b hb))
  omega
/-- one that is wronged by the claim one is so together -/
theorem one_two {ms : List Int} {l w : Nat} (hw : w < 32) (h : wrongB 1 ms l w = true) : wrongB 2 ms l w = true := by
  rw [wrong_one' hw, decide_eq_true_eq] at h
  unfold wrongB
  rw [if_neg (by decide), if_pos rfl, decide_eq_true_eq, ← orL_band0, h.2, h.1]
  decide
end Go.Proofs.Ythkikjidkehheaa
