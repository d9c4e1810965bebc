/- Following leads: the result is closed, and as symmetric as what it began with. -/
import Derived.Test.YtklgganapphioaaBkM
namespace Go.Proofs.Ytklgganapphioaa
open Go.RowKit Go.Joins

/-- a leads to b -/
def rel (r : List Nat) (a b : Nat) : Prop := (r.getD a 0).testBit b = true
theorem set_at {r : List Nat} {f y a : Nat} (hf : f < r.length) : (r.set f y).getD a 0 = if a = f then y else r.getD a 0 := by
  rw [List.getD_eq_getElem?_getD, List.getElem?_set]
  by_cases h : f = a
  · subst h
    simp [hf]
  · rw [if_neg h, if_neg (fun e => h e.symm), List.getD_eq_getElem?_getD]
theorem rel_upd {r : List Nat} {f t a b : Nat} (hf : f < r.length) : rel (upd r f t) a b ↔ rel r a b ∨ (a = f ∧ b = t) := by
  unfold rel upd
  rw [set_at hf]
  by_cases h : a = f
  · subst h
    rw [if_pos rfl, Nat.testBit_or, Nat.testBit_two_pow, Bool.or_eq_true, decide_eq_true_eq]
    constructor
    · rintro (h | h)
      · exact Or.inl h
      · exact Or.inr ⟨rfl, h.symm⟩
    · rintro (h | h)
      · exact Or.inl h
      · exact Or.inr h.2.symm
  · rw [if_neg h]
    constructor
    · exact Or.inl
    · rintro (h1 | h1)
      · exact h1
      · exact absurd h1.1 h
theorem foldl_rel {X : Type} {K : Nat} {f : List Nat → X → List Nat} {P : X → Nat → Nat → Prop} : ∀ (l : List X) (r : List Nat), r.length = K →
    (∀ r x, x ∈ l → r.length = K → (f r x).length = K ∧ ∀ a b, rel (f r x) a b ↔ rel r a b ∨ P x a b) →
    (l.foldl f r).length = K ∧ ∀ a b, rel (l.foldl f r) a b ↔ rel r a b ∨ ∃ x ∈ l, P x a b
  | [], r, hr, _ => ⟨hr, fun a b => by simp⟩
  | x :: l, r, hr, h => by
    obtain ⟨h1, h2⟩ := h r x (by simp) hr
    obtain ⟨h3, h4⟩ := foldl_rel l (f r x) h1 (fun r y hy => h r y (by simp [hy]))
    refine ⟨h3, fun a b => ?_⟩
    rw [List.foldl_cons, h4, h2]
    constructor
    · rintro ((h5 | h5) | ⟨y, hy, h5⟩)
      · exact Or.inl h5
      · exact Or.inr ⟨x, by simp, h5⟩
      · exact Or.inr ⟨y, by simp [hy], h5⟩
    · rintro (h5 | ⟨y, hy, h5⟩)
      · exact Or.inl (Or.inl h5)
      · rcases List.mem_cons.1 hy with e | e
        · subst e
          exact Or.inl (Or.inr h5)
        · exact Or.inr ⟨y, e, h5⟩
theorem stK_rel {N : Nat} {m : Nat × Nat} {j : Nat} (hj : j < N) {r : List Nat} (hr : r.length = 2 * N) : (stK m j N r).length = 2 * N ∧ ∀ a b, rel (stK m j N r) a b ↔ rel r a b ∨ ∃ k ∈ List.range N, condK m j k = true ∧ a = plc m j ∧ b = opp m k :=
  foldl_rel (P := fun k a b => condK m j k = true ∧ a = plc m j ∧ b = opp m k) (List.range N) r hr fun r k _ hl => by
    have hf : plc m j < r.length := by rw [hl]; exact plc_lt m hj
    by_cases hc : condK m j k = true
    · rw [if_pos hc]
      refine ⟨by unfold upd; rw [List.length_set]; exact hl, fun a b => ?_⟩
      rw [rel_upd hf]
      constructor
      · rintro (h | h)
        · exact Or.inl h
        · exact Or.inr ⟨hc, h⟩
      · rintro (h | h)
        · exact Or.inl h
        · exact Or.inr h.2
    · rw [if_neg hc]
      refine ⟨hl, fun a b => ⟨Or.inl, ?_⟩⟩
      rintro (h | h)
      · exact h
      · exact absurd h.1 hc
theorem stJ_rel {N : Nat} {m : Nat × Nat} {r : List Nat} (hr : r.length = 2 * N) : (stJ N m N r).length = 2 * N ∧ ∀ a b, rel (stJ N m N r) a b ↔ rel r a b ∨ ∃ j ∈ List.range N, ∃ k ∈ List.range N, condK m j k = true ∧ a = plc m j ∧ b = opp m k :=
  foldl_rel (P := fun j a b => ∃ k ∈ List.range N, condK m j k = true ∧ a = plc m j ∧ b = opp m k) (List.range N) r hr fun _ _ hj hl => stK_rel (List.mem_range.1 hj) hl
theorem stI_rel (N : Nat) (L : List (Nat × Nat)) (a b : Nat) : rel (stI N L L.length) a b ↔ ∃ m ∈ L, ∃ j ∈ List.range N, ∃ k ∈ List.range N, condK m j k = true ∧ a = plc m j ∧ b = opp m k := by
  have h := (foldl_rel (P := fun m a b => ∃ j ∈ List.range N, ∃ k ∈ List.range N, condK m j k = true ∧ a = plc m j ∧ b = opp m k) L (List.replicate (2 * N) 0) (by simp) fun r m _ hl => stJ_rel hl).2 a b
  unfold stI
  rw [List.take_length, h]
  constructor
  · rintro (h1 | h1)
    · unfold rel at h1
      rw [List.getD_eq_getElem?_getD, List.getElem?_replicate] at h1
      split at h1 <;> simp at h1
    · exact h1
  · exact Or.inr
theorem plc_fin : ∀ k : Fin 4, ∀ b : Fin 2, (2 * k.val + 1 - b.val) ^^^ 1 = 2 * k.val + b.val := by decide +kernel
theorem opp_back (m : Nat × Nat) {k : Nat} (hk : k < 4) : opp m k ^^^ 1 = plc m k := by
  have hb := bitN_le m.2 k
  exact plc_fin ⟨k, hk⟩ ⟨bitN m.2 k, by omega⟩
theorem stI_sym {N : Nat} (hN : N ≤ 4) (L : List (Nat × Nat)) {a b : Nat} (h : rel (stI N L L.length) a b) : rel (stI N L L.length) (b ^^^ 1) (a ^^^ 1) := by
  rw [stI_rel] at h ⊢
  obtain ⟨m, hm, j, hj, k, hk, hc, rfl, rfl⟩ := h
  have h1 : condK m k j = true := by
    unfold condK at hc ⊢
    simp only [Bool.and_eq_true, bne_iff_ne, beq_iff_eq] at hc ⊢
    exact ⟨fun e => hc.1 e.symm, hc.2.2, hc.2.1⟩
  have j4 := List.mem_range.1 hj
  have k4 := List.mem_range.1 hk
  exact ⟨m, hm, k, hk, j, hj, h1, opp_back m (by omega), plc_opp m (by omega)⟩
/-- paths -/
inductive Pth (R : Nat → Nat → Prop) : Nat → Nat → Prop
  | one {a b : Nat} : R a b → Pth R a b
  | more {a b c : Nat} : Pth R a b → R b c → Pth R a c
theorem Pth.trans {R : Nat → Nat → Prop} {a b c : Nat} (h1 : Pth R a b) (h2 : Pth R b c) : Pth R a c := by
  induction h2 with
  | one h => exact .more h1 h
  | more _ h ih => exact .more ih h
theorem Pth.least {R T : Nat → Nat → Prop} (h1 : ∀ a b, R a b → T a b) (h2 : ∀ a b c, T a b → T b c → T a c) {a b : Nat} (h : Pth R a b) : T a b := by
  induction h with
  | one h => exact h1 _ _ h
  | more _ h ih => exact h2 _ _ _ ih (h1 _ _ h)
theorem Pth.turn {R : Nat → Nat → Prop} (h1 : ∀ a b, R a b → R (b ^^^ 1) (a ^^^ 1)) {a b : Nat} (h : Pth R a b) : Pth R (b ^^^ 1) (a ^^^ 1) := by
  induction h with
  | one h => exact .one (h1 _ _ h)
  | more _ h ih => exact Pth.trans (.one (h1 _ _ h)) ih
/-- one round of following -/
theorem clS_len (r : List Nat) (k i : Nat) : (clS r k i).length = r.length := by
  unfold clS
  split
  · rw [List.length_set]
  · rfl
theorem clI_len (k ii : Nat) (r : List Nat) : (clI k ii r).length = r.length := foldl_inv (fun x => x.length = r.length) _ _ (fun b a _ hb => (clS_len b k a).trans hb) rfl
theorem clK_len (K kk : Nat) (r : List Nat) : (clK K kk r).length = r.length := foldl_inv (fun x => x.length = r.length) _ _ (fun b a _ hb => (clI_len a K b).trans hb) rfl
theorem clI_row {k : Nat} {r : List Nat} : ∀ (ii : Nat), ii ≤ r.length → ∀ a, (clI k ii r).getD a 0 = if a < ii ∧ bitN (r.getD a 0) k = 1 then r.getD a 0 ||| r.getD k 0 else r.getD a 0
  | 0, _, a => by rw [if_neg (by omega)]; rfl
  | ii + 1, h, a => by
    have ih := clI_row (k := k) (r := r) ii (by omega)
    have hk : (clI k ii r).getD k 0 = r.getD k 0 := by
      rw [ih k]
      split
      · exact Nat.or_self _
      · rfl
    have hi : (clI k ii r).getD ii 0 = r.getD ii 0 := by
      rw [ih ii, if_neg (fun h => Nat.lt_irrefl _ h.1)]
    rw [clI_succ]
    unfold clS
    rw [hi, hk]
    by_cases hb : bitN (r.getD ii 0) k = 1
    · rw [if_pos hb, set_at (show ii < (clI k ii r).length by rw [clI_len]; omega)]
      by_cases ha : a = ii
      · subst ha
        rw [if_pos rfl, if_pos ⟨by omega, hb⟩]
      · rw [if_neg ha, ih a]
        by_cases h2 : a < ii ∧ bitN (r.getD a 0) k = 1
        · rw [if_pos h2, if_pos ⟨by omega, h2.2⟩]
        · rw [if_neg h2, if_neg (fun h3 => h2 ⟨by omega, h3.2⟩)]
    · rw [if_neg hb, ih a]
      by_cases h2 : a < ii ∧ bitN (r.getD a 0) k = 1
      · rw [if_pos h2, if_pos ⟨by omega, h2.2⟩]
      · rw [if_neg h2, if_neg (fun h3 => h2 ⟨by
          rcases Nat.lt_or_ge a ii with h4 | h4
          · exact h4
          · obtain rfl : a = ii := by omega
            exact absurd h3.2 hb, h3.2⟩)]
theorem clI_rel {K k : Nat} {r : List Nat} (hr : r.length = K) {a b : Nat} (ha : a < K) : rel (clI k K r) a b ↔ rel r a b ∨ (rel r a k ∧ rel r k b) := by
  unfold rel
  rw [clI_row K (by omega) a]
  by_cases hb : bitN (r.getD a 0) k = 1
  · rw [if_pos ⟨ha, hb⟩, Nat.testBit_or, Bool.or_eq_true]
    have h1 := (bitN_testBit _ _).1 hb
    constructor
    · rintro (h | h)
      · exact Or.inl h
      · exact Or.inr ⟨h1, h⟩
    · rintro (h | h)
      · exact Or.inl h
      · exact Or.inr h.2
  · rw [if_neg (fun h => hb h.2)]
    constructor
    · exact Or.inl
    · rintro (h | h)
      · exact h
      · exact absurd ((bitN_testBit _ _).2 h.1) hb
theorem rel_lt {K : Nat} {r : List Nat} (hr : r.length = K) {a b : Nat} (h : rel r a b) : a < K := by
  rcases Nat.lt_or_ge a K with h1 | h1
  · exact h1
  · unfold rel at h
    rw [List.getD_eq_getElem?_getD, List.getElem?_eq_none (by omega)] at h
    simp at h
theorem clK_rel {K : Nat} {r : List Nat} (hr : r.length = K) : ∀ kk, kk ≤ K → (∀ a b, rel r a b → rel (clK K kk r) a b) ∧ (∀ a b, rel (clK K kk r) a b → Pth (rel r) a b) ∧
    ∀ c, c < kk → ∀ a b, rel (clK K kk r) a c → rel (clK K kk r) c b → rel (clK K kk r) a b
  | 0, _ => ⟨fun a b h => h, fun a b h => .one h, fun c h => by omega⟩
  | k + 1, hk => by
    obtain ⟨h1, h2, h3⟩ := clK_rel hr k (by omega)
    rw [clK_succ]
    have hl : (clK K k r).length = K := (clK_len K k r).trans hr
    have hl' : (clI k K (clK K k r)).length = K := (clI_len k K _).trans hl
    generalize clK K k r = q at h1 h2 h3 hl hl'
    refine ⟨fun a b h => (clI_rel hl (rel_lt hl (h1 a b h))).2 (Or.inl (h1 a b h)), fun a b h => ?_, fun c hc a b hac hcb => ?_⟩
    · rcases (clI_rel hl (rel_lt hl' h)).1 h with h4 | ⟨h4, h5⟩
      · exact h2 a b h4
      · exact (h2 _ _ h4).trans (h2 _ _ h5)
    · have ha := rel_lt hl' hac
      have hcK := rel_lt hl' hcb
      have e1 := (clI_rel hl ha).1 hac
      have e2 := (clI_rel hl hcK).1 hcb
      refine (clI_rel hl ha).2 ?_
      rcases Nat.lt_or_ge c k with hck | hck
      · rcases e1 with e1 | ⟨e1, e1'⟩
        · rcases e2 with e2 | ⟨e2, e2'⟩
          · exact Or.inl (h3 c hck a b e1 e2)
          · exact Or.inr ⟨h3 c hck a k e1 e2, e2'⟩
        · rcases e2 with e2 | ⟨e2, e2'⟩
          · exact Or.inr ⟨e1, h3 c hck k b e1' e2⟩
          · exact Or.inr ⟨e1, e2'⟩
      · obtain rfl : c = k := by omega
        have f1 : rel q a c := e1.elim id And.left
        have f2 : rel q c b := e2.elim id And.right
        exact Or.inr ⟨f1, f2⟩
/-- what is led to, is led to from the other side -/
theorem ldR_sym {N : Nat} {zs : List Int} (h : vsB (N : Int) zs = true) {a b : Nat} (hr : rel (ldR (N : Int) zs) a b) : rel (ldR (N : Int) zs) (b ^^^ 1) (a ^^^ 1) := by
  have hN : N ≤ 4 := by have := (valid_of h).1; omega
  rw [ldR_yes h] at hr ⊢
  have hl : (stI N (critL N zs) (critL N zs).length).length = 2 * N := (rc_stI N _ _).1
  obtain ⟨h1, h2, h3⟩ := clK_rel hl (2 * N) (Nat.le_refl _)
  have hp := (h2 a b hr).turn (fun a b h => stI_sym hN _ h)
  have hl' : (clK (2 * N) (2 * N) (stI N (critL N zs) (critL N zs).length)).length = 2 * N := (clK_len _ _ _).trans hl
  exact hp.least h1 (fun x y z hxy hyz => h3 y (rel_lt hl' hyz) x z hxy hyz)
theorem rel_bit {r : List Nat} {a b : Nat} : rel r a b ↔ bitN (r.getD a 0) b = 1 := (bitN_testBit _ _).symm
theorem flip_fin : ∀ k : Fin 8, (k.val ^^^ 1) ^^^ 1 = k.val := by decide +kernel
theorem flip_lt : ∀ N : Fin 5, ∀ k : Fin 8, k.val < 2 * N.val → k.val ^^^ 1 < 2 * N.val := by decide +kernel
theorem ldR_bits {N : Nat} {zs : List Int} (h : vsB (N : Int) zs = true) {a b : Nat} (ha : a < 2 * N) (hb : b < 2 * N) : bitN ((ldR (N : Int) zs).getD a 0) b = bitN ((ldR (N : Int) zs).getD (b ^^^ 1) 0) (a ^^^ 1) := by
  have hN : N ≤ 4 := by have := (valid_of h).1; omega
  have h1 := bitN_le ((ldR (N : Int) zs).getD a 0) b
  have h2 := bitN_le ((ldR (N : Int) zs).getD (b ^^^ 1) 0) (a ^^^ 1)
  have ea := flip_fin ⟨a, by omega⟩
  have eb := flip_fin ⟨b, by omega⟩
  have key : bitN ((ldR (N : Int) zs).getD a 0) b = 1 ↔ bitN ((ldR (N : Int) zs).getD (b ^^^ 1) 0) (a ^^^ 1) = 1 := by
    rw [← rel_bit, ← rel_bit]
    constructor
    · exact ldR_sym h
    · intro h3
      have h4 := ldR_sym h h3
      simp only at ea eb
      rw [ea, eb] at h4
      exact h4
  omega
end Go.Proofs.Ytklgganapphioaa
