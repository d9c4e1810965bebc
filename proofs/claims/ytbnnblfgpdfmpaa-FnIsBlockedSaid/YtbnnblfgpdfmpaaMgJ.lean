/- Texts of this seat one behind the other: BkM, LdT, BkF, LdC, LdI, BkI, LdP, BkS, PBlk. Conditions: none. -/
import Derived.Test.YtbnnblfgpdfmpaaLdM
import Derived.Test.YtbnnblfgpdfmpaaMgI
import Derived.Test.YtbnnblfgpdfmpaaLdB
import Derived.Test.YtbnnblfgpdfmpaaLdS
import Derived.Test.YtbnnblfgpdfmpaaCrP
import Derived.Test.YtbnnblfgpdfmpaaDrawC
import Derived.Test.YtbnnblfgpdfmpaaMgH
import Derived.BigQuiet

/- BkM: Blocked spaces: plain mathematics. -/
namespace Go.Proofs.Ytbnnblfgpdfmpaa
open Go.RowKit Go.Joins

/-- rows of K bits -/
def RC (K : Nat) (r : List Nat) : Prop := r.length = K ∧ ∀ x ∈ r, x < 2 ^ K
theorem RC.at {K : Nat} {r : List Nat} (h : RC K r) (k : Nat) : r.getD k 0 < 2 ^ K := by
  by_cases hk : k < r.length
  · rw [List.getD_eq_getElem?_getD, List.getElem?_eq_getElem hk]
    exact h.2 _ (List.getElem_mem hk)
  · rw [List.getD_eq_getElem?_getD, List.getElem?_eq_none (by omega)]
    exact Nat.two_pow_pos K
theorem RC.set {K : Nat} {r : List Nat} (h : RC K r) {f y : Nat} (hy : y < 2 ^ K) : RC K (r.set f y) := by
  refine ⟨by rw [List.length_set]; exact h.1, fun x hx => ?_⟩
  rcases List.mem_or_eq_of_mem_set hx with h1 | h1
  · exact h.2 x h1
  · rw [h1]; exact hy
theorem RC.upd {K : Nat} {r : List Nat} (h : RC K r) {f t : Nat} (ht : t < K) : RC K (upd r f t) := h.set (Nat.or_lt_two_pow (h.at f) (Nat.pow_lt_pow_right (by omega) ht))
theorem rc_stK {N : Nat} {m : Nat × Nat} {j kk : Nat} (hk : kk ≤ N) {r : List Nat} (h : RC (2 * N) r) : RC (2 * N) (stK m j kk r) :=
  foldl_inv (RC (2 * N)) _ _ (fun r k hkm hr => by
    split
    · exact hr.upd (opp_lt m (N := N) (k := k) (by have := List.mem_range.1 hkm; omega))
    · exact hr) h
theorem rc_stJ {N : Nat} {m : Nat × Nat} {jj : Nat} {r : List Nat} (h : RC (2 * N) r) : RC (2 * N) (stJ N m jj r) :=
  foldl_inv (RC (2 * N)) _ _ (fun _ _ _ hr => rc_stK (Nat.le_refl _) hr) h
theorem rc_stI (N : Nat) (L : List (Nat × Nat)) (ii : Nat) : RC (2 * N) (stI N L ii) :=
  foldl_inv (RC (2 * N)) _ _ (fun _ _ _ hr => rc_stJ hr) ⟨by simp, fun x hx => by rw [List.eq_of_mem_replicate hx]; exact Nat.two_pow_pos _⟩
theorem rc_clS {K : Nat} {r : List Nat} (h : RC K r) (k i : Nat) : RC K (clS r k i) := by
  unfold clS
  split
  · exact h.set (Nat.or_lt_two_pow (h.at i) (h.at k))
  · exact h
theorem rc_clI {K : Nat} {r : List Nat} (h : RC K r) (k ii : Nat) : RC K (clI k ii r) := foldl_inv (RC K) _ _ (fun _ _ _ hr => rc_clS hr _ _) h
theorem rc_clK {K : Nat} {r : List Nat} (h : RC K r) (kk : Nat) : RC K (clK K kk r) := foldl_inv (RC K) _ _ (fun _ _ _ hr => rc_clI hr _ _) h
/-- all lead to all -/
def allB (K : Nat) (r : List Nat) : Bool := (List.range K).all fun i => (List.range K).all fun k => i == k || bitN (r.getD i 0) k == 1
theorem allB_iff (K : Nat) (r : List Nat) : allB K r = true ↔ ∀ i, i < K → ∀ k, k < K → i ≠ k → bitN (r.getD i 0) k = 1 := by
  unfold allB
  simp only [List.all_eq_true, List.mem_range, Bool.or_eq_true, beq_iff_eq]
  constructor
  · intro h i hi k hk hne
    rcases h i hi k hk with e | e
    · exact absurd e hne
    · exact e
  · intro h i hi k hk
    by_cases e : i = k
    · exact Or.inl e
    · exact Or.inr (h i hi k hk e)
theorem bitN_testBit (a k : Nat) : bitN a k = 1 ↔ a.testBit k = true := by
  unfold bitN
  rw [Nat.testBit_eq_decide_div_mod_eq]
  simp
theorem full_iff {K a i : Nat} (ha : a < 2 ^ K) (hi : i < K) : a ||| 2 ^ i = 2 ^ K - 1 ↔ ∀ k, k < K → i ≠ k → bitN a k = 1 := by
  constructor
  · intro h k hk hne
    rw [bitN_testBit]
    have h1 := congrArg (fun x => x.testBit k) h
    simp only [Nat.testBit_or, Nat.testBit_two_pow, Nat.testBit_two_pow_sub_one] at h1
    rw [decide_eq_false hne, decide_eq_true hk, Bool.or_false] at h1
    exact h1
  · intro h
    refine Nat.eq_of_testBit_eq fun k => ?_
    rw [Nat.testBit_or, Nat.testBit_two_pow, Nat.testBit_two_pow_sub_one]
    by_cases hk : k < K
    · rw [decide_eq_true hk]
      by_cases hne : i = k
      · rw [decide_eq_true hne, Bool.or_true]
      · rw [(bitN_testBit a k).1 (h k hk hne), Bool.true_or]
    · rw [decide_eq_false hk, decide_eq_false (by omega), Bool.or_false]
      exact Nat.testBit_lt_two_pow (Nat.lt_of_lt_of_le ha (Nat.pow_le_pow_right (by omega) (by omega)))
/-- what IsBlocked answers -/
def blkB (n : Int) (zs : List Int) : Bool := vsB n zs && allB (2 * n.toNat) (ldR n zs)
theorem blkB_no {n : Int} {zs : List Int} (h : vsB n zs = false) : blkB n zs = false := by unfold blkB; rw [h]; rfl
theorem blkB_yes {n : Int} {zs : List Int} (h : vsB n zs = true) : blkB n zs = allB (2 * n.toNat) (ldR n zs) := by unfold blkB; rw [h]; rfl
theorem blk_no {n : Int} {zs : List Int} (h : vsB n zs = true) {i k : Nat} (hi : i < 2 * n.toNat) (hk : k < 2 * n.toNat) (hne : i ≠ k) (hb : bitN ((ldR n zs).getD i 0) k = 0) : blkB n zs = false := by
  rw [blkB_yes h]
  cases ha : allB (2 * n.toNat) (ldR n zs) with
  | false => rfl
  | true =>
    have := (allB_iff _ _).1 ha i hi k hk hne
    rw [hb] at this
    cases this
theorem ldR_rc {N : Nat} {zs : List Int} (h : vsB (N : Int) zs = true) : RC (2 * N) (ldR (N : Int) zs) := by
  rw [ldR_yes h]
  exact rc_clK (rc_stI N _ _) _
end Go.Proofs.Ytbnnblfgpdfmpaa

/- LdT: Following leads: the result is closed, and as symmetric as what it began with. -/
namespace Go.Proofs.Ytbnnblfgpdfmpaa
open Go.RowKit Go.Joins

/-- a leads to b -/
def rel (r : List Nat) (a b : Nat) : Prop := (r.getD a 0).testBit b = true
theorem set_at {r : List Nat} {f y a : Nat} (hf : f < r.length) : (r.set f y).getD a 0 = if a = f then y else r.getD a 0 := by
  rw [List.getD_eq_getElem?_getD, List.getElem?_set]
  by_cases h : f = a
  · subst h
    simp [hf]
  · rw [if_neg h, if_neg (fun e => h e.symm), List.getD_eq_getElem?_getD]
theorem rel_upd {r : List Nat} {f t a b : Nat} (hf : f < r.length) : rel (upd r f t) a b ↔ rel r a b ∨ (a = f ∧ b = t) := by
  unfold rel upd
  rw [set_at hf]
  by_cases h : a = f
  · subst h
    rw [if_pos rfl, Nat.testBit_or, Nat.testBit_two_pow, Bool.or_eq_true, decide_eq_true_eq]
    constructor
    · rintro (h | h)
      · exact Or.inl h
      · exact Or.inr ⟨rfl, h.symm⟩
    · rintro (h | h)
      · exact Or.inl h
      · exact Or.inr h.2.symm
  · rw [if_neg h]
    constructor
    · exact Or.inl
    · rintro (h1 | h1)
      · exact h1
      · exact absurd h1.1 h
theorem foldl_rel {X : Type} {K : Nat} {f : List Nat → X → List Nat} {P : X → Nat → Nat → Prop} : ∀ (l : List X) (r : List Nat), r.length = K →
    (∀ r x, x ∈ l → r.length = K → (f r x).length = K ∧ ∀ a b, rel (f r x) a b ↔ rel r a b ∨ P x a b) →
    (l.foldl f r).length = K ∧ ∀ a b, rel (l.foldl f r) a b ↔ rel r a b ∨ ∃ x ∈ l, P x a b
  | [], r, hr, _ => ⟨hr, fun a b => by simp⟩
  | x :: l, r, hr, h => by
    obtain ⟨h1, h2⟩ := h r x (by simp) hr
    obtain ⟨h3, h4⟩ := foldl_rel l (f r x) h1 (fun r y hy => h r y (by simp [hy]))
    refine ⟨h3, fun a b => ?_⟩
    rw [List.foldl_cons, h4, h2]
    constructor
    · rintro ((h5 | h5) | ⟨y, hy, h5⟩)
      · exact Or.inl h5
      · exact Or.inr ⟨x, by simp, h5⟩
      · exact Or.inr ⟨y, by simp [hy], h5⟩
    · rintro (h5 | ⟨y, hy, h5⟩)
      · exact Or.inl (Or.inl h5)
      · rcases List.mem_cons.1 hy with e | e
        · subst e
          exact Or.inl (Or.inr h5)
        · exact Or.inr ⟨y, e, h5⟩
theorem stK_rel {N : Nat} {m : Nat × Nat} {j : Nat} (hj : j < N) {r : List Nat} (hr : r.length = 2 * N) : (stK m j N r).length = 2 * N ∧ ∀ a b, rel (stK m j N r) a b ↔ rel r a b ∨ ∃ k ∈ List.range N, condK m j k = true ∧ a = plc m j ∧ b = opp m k :=
  foldl_rel (P := fun k a b => condK m j k = true ∧ a = plc m j ∧ b = opp m k) (List.range N) r hr fun r k _ hl => by
    have hf : plc m j < r.length := by rw [hl]; exact plc_lt m hj
    by_cases hc : condK m j k = true
    · rw [if_pos hc]
      refine ⟨by unfold upd; rw [List.length_set]; exact hl, fun a b => ?_⟩
      rw [rel_upd hf]
      constructor
      · rintro (h | h)
        · exact Or.inl h
        · exact Or.inr ⟨hc, h⟩
      · rintro (h | h)
        · exact Or.inl h
        · exact Or.inr h.2
    · rw [if_neg hc]
      refine ⟨hl, fun a b => ⟨Or.inl, ?_⟩⟩
      rintro (h | h)
      · exact h
      · exact absurd h.1 hc
theorem stJ_rel {N : Nat} {m : Nat × Nat} {r : List Nat} (hr : r.length = 2 * N) : (stJ N m N r).length = 2 * N ∧ ∀ a b, rel (stJ N m N r) a b ↔ rel r a b ∨ ∃ j ∈ List.range N, ∃ k ∈ List.range N, condK m j k = true ∧ a = plc m j ∧ b = opp m k :=
  foldl_rel (P := fun j a b => ∃ k ∈ List.range N, condK m j k = true ∧ a = plc m j ∧ b = opp m k) (List.range N) r hr fun _ _ hj hl => stK_rel (List.mem_range.1 hj) hl
theorem stI_rel (N : Nat) (L : List (Nat × Nat)) (a b : Nat) : rel (stI N L L.length) a b ↔ ∃ m ∈ L, ∃ j ∈ List.range N, ∃ k ∈ List.range N, condK m j k = true ∧ a = plc m j ∧ b = opp m k := by
  have h := (foldl_rel (P := fun m a b => ∃ j ∈ List.range N, ∃ k ∈ List.range N, condK m j k = true ∧ a = plc m j ∧ b = opp m k) L (List.replicate (2 * N) 0) (by simp) fun r m _ hl => stJ_rel hl).2 a b
  unfold stI
  rw [List.take_length, h]
  constructor
  · rintro (h1 | h1)
    · unfold rel at h1
      rw [List.getD_eq_getElem?_getD, List.getElem?_replicate] at h1
      split at h1 <;> simp at h1
    · exact h1
  · exact Or.inr
theorem plc_fin : ∀ k : Fin 4, ∀ b : Fin 2, (2 * k.val + 1 - b.val) ^^^ 1 = 2 * k.val + b.val := by decide +kernel
theorem opp_back (m : Nat × Nat) {k : Nat} (hk : k < 4) : opp m k ^^^ 1 = plc m k := by
  have hb := bitN_le m.2 k
  exact plc_fin ⟨k, hk⟩ ⟨bitN m.2 k, by omega⟩
theorem stI_sym {N : Nat} (hN : N ≤ 4) (L : List (Nat × Nat)) {a b : Nat} (h : rel (stI N L L.length) a b) : rel (stI N L L.length) (b ^^^ 1) (a ^^^ 1) := by
  rw [stI_rel] at h ⊢
  obtain ⟨m, hm, j, hj, k, hk, hc, rfl, rfl⟩ := h
  have h1 : condK m k j = true := by
    unfold condK at hc ⊢
    simp only [Bool.and_eq_true, bne_iff_ne, beq_iff_eq] at hc ⊢
    exact ⟨fun e => hc.1 e.symm, hc.2.2, hc.2.1⟩
  have j4 := List.mem_range.1 hj
  have k4 := List.mem_range.1 hk
  exact ⟨m, hm, k, hk, j, hj, h1, opp_back m (by omega), plc_opp m (by omega)⟩
/-- paths -/
inductive Pth (R : Nat → Nat → Prop) : Nat → Nat → Prop
  | one {a b : Nat} : R a b → Pth R a b
  | more {a b c : Nat} : Pth R a b → R b c → Pth R a c
theorem Pth.trans {R : Nat → Nat → Prop} {a b c : Nat} (h1 : Pth R a b) (h2 : Pth R b c) : Pth R a c := by
  induction h2 with
  | one h => exact .more h1 h
  | more _ h ih => exact .more ih h
theorem Pth.least {R T : Nat → Nat → Prop} (h1 : ∀ a b, R a b → T a b) (h2 : ∀ a b c, T a b → T b c → T a c) {a b : Nat} (h : Pth R a b) : T a b := by
  induction h with
  | one h => exact h1 _ _ h
  | more _ h ih => exact h2 _ _ _ ih (h1 _ _ h)
theorem Pth.turn {R : Nat → Nat → Prop} (h1 : ∀ a b, R a b → R (b ^^^ 1) (a ^^^ 1)) {a b : Nat} (h : Pth R a b) : Pth R (b ^^^ 1) (a ^^^ 1) := by
  induction h with
  | one h => exact .one (h1 _ _ h)
  | more _ h ih => exact Pth.trans (.one (h1 _ _ h)) ih
/-- one round of following -/
theorem clS_len (r : List Nat) (k i : Nat) : (clS r k i).length = r.length := by
  unfold clS
  split
  · rw [List.length_set]
  · rfl
theorem clI_len (k ii : Nat) (r : List Nat) : (clI k ii r).length = r.length := foldl_inv (fun x => x.length = r.length) _ _ (fun b a _ hb => (clS_len b k a).trans hb) rfl
theorem clK_len (K kk : Nat) (r : List Nat) : (clK K kk r).length = r.length := foldl_inv (fun x => x.length = r.length) _ _ (fun b a _ hb => (clI_len a K b).trans hb) rfl
theorem clI_row {k : Nat} {r : List Nat} : ∀ (ii : Nat), ii ≤ r.length → ∀ a, (clI k ii r).getD a 0 = if a < ii ∧ bitN (r.getD a 0) k = 1 then r.getD a 0 ||| r.getD k 0 else r.getD a 0
  | 0, _, a => by rw [if_neg (by omega)]; rfl
  | ii + 1, h, a => by
    have ih := clI_row (k := k) (r := r) ii (by omega)
    have hk : (clI k ii r).getD k 0 = r.getD k 0 := by
      rw [ih k]
      split
      · exact Nat.or_self _
      · rfl
    have hi : (clI k ii r).getD ii 0 = r.getD ii 0 := by
      rw [ih ii, if_neg (fun h => Nat.lt_irrefl _ h.1)]
    rw [clI_succ]
    unfold clS
    rw [hi, hk]
    by_cases hb : bitN (r.getD ii 0) k = 1
    · rw [if_pos hb, set_at (show ii < (clI k ii r).length by rw [clI_len]; omega)]
      by_cases ha : a = ii
      · subst ha
        rw [if_pos rfl, if_pos ⟨by omega, hb⟩]
      · rw [if_neg ha, ih a]
        by_cases h2 : a < ii ∧ bitN (r.getD a 0) k = 1
        · rw [if_pos h2, if_pos ⟨by omega, h2.2⟩]
        · rw [if_neg h2, if_neg (fun h3 => h2 ⟨by omega, h3.2⟩)]
    · rw [if_neg hb, ih a]
      by_cases h2 : a < ii ∧ bitN (r.getD a 0) k = 1
      · rw [if_pos h2, if_pos ⟨by omega, h2.2⟩]
      · rw [if_neg h2, if_neg (fun h3 => h2 ⟨by
          rcases Nat.lt_or_ge a ii with h4 | h4
          · exact h4
          · obtain rfl : a = ii := by omega
            exact absurd h3.2 hb, h3.2⟩)]
theorem clI_rel {K k : Nat} {r : List Nat} (hr : r.length = K) {a b : Nat} (ha : a < K) : rel (clI k K r) a b ↔ rel r a b ∨ (rel r a k ∧ rel r k b) := by
  unfold rel
  rw [clI_row K (by omega) a]
  by_cases hb : bitN (r.getD a 0) k = 1
  · rw [if_pos ⟨ha, hb⟩, Nat.testBit_or, Bool.or_eq_true]
    have h1 := (bitN_testBit _ _).1 hb
    constructor
    · rintro (h | h)
      · exact Or.inl h
      · exact Or.inr ⟨h1, h⟩
    · rintro (h | h)
      · exact Or.inl h
      · exact Or.inr h.2
  · rw [if_neg (fun h => hb h.2)]
    constructor
    · exact Or.inl
    · rintro (h | h)
      · exact h
      · exact absurd ((bitN_testBit _ _).2 h.1) hb
theorem rel_lt {K : Nat} {r : List Nat} (hr : r.length = K) {a b : Nat} (h : rel r a b) : a < K := by
  rcases Nat.lt_or_ge a K with h1 | h1
  · exact h1
  · unfold rel at h
    rw [List.getD_eq_getElem?_getD, List.getElem?_eq_none (by omega)] at h
    simp at h
theorem clK_rel {K : Nat} {r : List Nat} (hr : r.length = K) : ∀ kk, kk ≤ K → (∀ a b, rel r a b → rel (clK K kk r) a b) ∧ (∀ a b, rel (clK K kk r) a b → Pth (rel r) a b) ∧
    ∀ c, c < kk → ∀ a b, rel (clK K kk r) a c → rel (clK K kk r) c b → rel (clK K kk r) a b
  | 0, _ => ⟨fun a b h => h, fun a b h => .one h, fun c h => by omega⟩
  | k + 1, hk => by
    obtain ⟨h1, h2, h3⟩ := clK_rel hr k (by omega)
    rw [clK_succ]
    have hl : (clK K k r).length = K := (clK_len K k r).trans hr
    have hl' : (clI k K (clK K k r)).length = K := (clI_len k K _).trans hl
    generalize clK K k r = q at h1 h2 h3 hl hl'
    refine ⟨fun a b h => (clI_rel hl (rel_lt hl (h1 a b h))).2 (Or.inl (h1 a b h)), fun a b h => ?_, fun c hc a b hac hcb => ?_⟩
    · rcases (clI_rel hl (rel_lt hl' h)).1 h with h4 | ⟨h4, h5⟩
      · exact h2 a b h4
      · exact (h2 _ _ h4).trans (h2 _ _ h5)
    · have ha := rel_lt hl' hac
      have hcK := rel_lt hl' hcb
      have e1 := (clI_rel hl ha).1 hac
      have e2 := (clI_rel hl hcK).1 hcb
      refine (clI_rel hl ha).2 ?_
      rcases Nat.lt_or_ge c k with hck | hck
      · rcases e1 with e1 | ⟨e1, e1'⟩
        · rcases e2 with e2 | ⟨e2, e2'⟩
          · exact Or.inl (h3 c hck a b e1 e2)
          · exact Or.inr ⟨h3 c hck a k e1 e2, e2'⟩
        · rcases e2 with e2 | ⟨e2, e2'⟩
          · exact Or.inr ⟨e1, h3 c hck k b e1' e2⟩
          · exact Or.inr ⟨e1, e2'⟩
      · obtain rfl : c = k := by omega
        have f1 : rel q a c := e1.elim id And.left
        have f2 : rel q c b := e2.elim id And.right
        exact Or.inr ⟨f1, f2⟩
/-- what is led to, is led to from the other side -/
theorem ldR_sym {N : Nat} {zs : List Int} (h : vsB (N : Int) zs = true) {a b : Nat} (hr : rel (ldR (N : Int) zs) a b) : rel (ldR (N : Int) zs) (b ^^^ 1) (a ^^^ 1) := by
  have hN : N ≤ 4 := by have := (valid_of h).1; omega
  rw [ldR_yes h] at hr ⊢
  have hl : (stI N (critL N zs) (critL N zs).length).length = 2 * N := (rc_stI N _ _).1
  obtain ⟨h1, h2, h3⟩ := clK_rel hl (2 * N) (Nat.le_refl _)
  have hp := (h2 a b hr).turn (fun a b h => stI_sym hN _ h)
  have hl' : (clK (2 * N) (2 * N) (stI N (critL N zs) (critL N zs).length)).length = 2 * N := (clK_len _ _ _).trans hl
  exact hp.least h1 (fun x y z hxy hyz => h3 y (rel_lt hl' hyz) x z hxy hyz)
theorem rel_bit {r : List Nat} {a b : Nat} : rel r a b ↔ bitN (r.getD a 0) b = 1 := (bitN_testBit _ _).symm
theorem flip_fin : ∀ k : Fin 8, (k.val ^^^ 1) ^^^ 1 = k.val := by decide +kernel
theorem flip_lt : ∀ N : Fin 5, ∀ k : Fin 8, k.val < 2 * N.val → k.val ^^^ 1 < 2 * N.val := by decide +kernel
theorem ldR_bits {N : Nat} {zs : List Int} (h : vsB (N : Int) zs = true) {a b : Nat} (ha : a < 2 * N) (hb : b < 2 * N) : bitN ((ldR (N : Int) zs).getD a 0) b = bitN ((ldR (N : Int) zs).getD (b ^^^ 1) 0) (a ^^^ 1) := by
  have hN : N ≤ 4 := by have := (valid_of h).1; omega
  have h1 := bitN_le ((ldR (N : Int) zs).getD a 0) b
  have h2 := bitN_le ((ldR (N : Int) zs).getD (b ^^^ 1) 0) (a ^^^ 1)
  have ea := flip_fin ⟨a, by omega⟩
  have eb := flip_fin ⟨b, by omega⟩
  have key : bitN ((ldR (N : Int) zs).getD a 0) b = 1 ↔ bitN ((ldR (N : Int) zs).getD (b ^^^ 1) 0) (a ^^^ 1) = 1 := by
    rw [← rel_bit, ← rel_bit]
    constructor
    · exact ldR_sym h
    · intro h3
      have h4 := ldR_sym h h3
      simp only at ea eb
      rw [ea, eb] at h4
      exact h4
  omega
end Go.Proofs.Ytbnnblfgpdfmpaa

/- BkF: Blocked spaces: flipped ones, and median ones. Plain mathematics. -/
namespace Go.Proofs.Ytbnnblfgpdfmpaa
open Go.RowKit Go.Joins

/-- an answer leads to another one by a critical part -/
def LR (N : Nat) (zs : List Int) (a b : Nat) : Prop := ∃ m ∈ critL N zs, ∃ j ∈ List.range N, ∃ k ∈ List.range N, condK m j k = true ∧ a = plc m j ∧ b = opp m k
theorem Pth.map {R T : Nat → Nat → Prop} {s : Nat → Nat} (h : ∀ a b, R a b → T (s a) (s b)) {a b : Nat} (hp : Pth R a b) : Pth T (s a) (s b) := by
  induction hp with
  | one h1 => exact .one (h _ _ h1)
  | more _ h1 ih => exact .more ih (h _ _ h1)
section
variable {N : Nat} {zs : List Int}
theorem ldR_pth (hv : vsB (N : Int) zs = true) (a b : Nat) : rel (ldR (N : Int) zs) a b ↔ Pth (LR N zs) a b := by
  rw [ldR_yes hv]
  have hl : (stI N (critL N zs) (critL N zs).length).length = 2 * N := (rc_stI N _ _).1
  obtain ⟨h1, h2, h3⟩ := clK_rel hl (2 * N) (Nat.le_refl _)
  have hl' : (clK (2 * N) (2 * N) (stI N (critL N zs) (critL N zs).length)).length = 2 * N := (clK_len _ _ _).trans hl
  have hR : ∀ a b, rel (stI N (critL N zs) (critL N zs).length) a b ↔ LR N zs a b := fun a b => stI_rel N (critL N zs) a b
  constructor
  · intro h
    have hp := h2 a b h
    exact hp.map (s := fun x => x) fun a b h => (hR a b).1 h
  · intro h
    exact h.least (fun a b h => h1 a b ((hR a b).2 h)) (fun x y z hxy hyz => h3 y (rel_lt hl' hyz) x z hxy hyz)
theorem blk_pth (hv : vsB (N : Int) zs = true) : blkB (N : Int) zs = true ↔ ∀ i, i < 2 * N → ∀ k, k < 2 * N → i ≠ k → Pth (LR N zs) i k := by
  rw [blkB_yes hv, Int.toNat_natCast, allB_iff]
  constructor
  · intro h i hi k hk hne
    rw [← ldR_pth hv, rel_bit]
    exact h i hi k hk hne
  · intro h i hi k hk hne
    rw [← rel_bit, ldR_pth hv]
    exact h i hi k hk hne
/-! ### flipped -/
/-- the place of an answer when the issue j is flipped -/
def sg (j a : Nat) : Nat := if a / 2 = j then a ^^^ 1 else a
theorem sg_fin : ∀ N : Fin 5, ∀ j : Fin 4, ∀ a : Fin 8, sg j.val (sg j.val a.val) = a.val ∧ (a.val < 2 * N.val → sg j.val a.val < 2 * N.val) := by decide +kernel
set_option maxRecDepth 100000 in
theorem sg_chk : ((List.range 4).all fun j => (List.range 4).all fun i => (List.range 16).all fun c => bitN c i == 0 || (List.range 16).all fun b => plc (flP2 j (c, b)) i == sg j (plc (c, b) i) && opp (flP2 j (c, b)) i == sg j (opp (c, b) i)) = true := by decide +kernel
theorem sg_plc {j i : Nat} (hj : j < 4) (hi : i < 4) {m : Nat × Nat} (h1 : m.1 < 16) (h2 : m.2 < 16) (hb : bitN m.1 i = 1) : plc (flP2 j m) i = sg j (plc m i) ∧ opp (flP2 j m) i = sg j (opp m i) := by
  have h := List.all_eq_true.1 (List.all_eq_true.1 (List.all_eq_true.1 sg_chk j (List.mem_range.2 hj)) i (List.mem_range.2 hi)) m.1 (List.mem_range.2 h1)
  rw [hb, show ((1 : Nat) == 0) = false from rfl, Bool.false_or] at h
  have h' := List.all_eq_true.1 h m.2 (List.mem_range.2 h2)
  rw [Bool.and_eq_true, beq_iff_eq, beq_iff_eq] at h'
  exact h'
theorem fl_crit {j : Nat} (hV : Valid (N : Int) zs) (hj : j < N) {m : Nat × Nat} (hm : m ∈ critL N zs) : flP2 j m ∈ critL N (unq (zs.map (flipI j))) := by
  have hN := hV.1
  obtain ⟨h1, h2⟩ := crit_mem.1 hm
  refine crit_mem.2 ⟨(fl_perm (by omega) hj).mem_iff.1 (List.mem_map_of_mem h1), ?_⟩
  rw [fl_cr hV hj h1]
  exact h2
theorem fl_LR {j : Nat} (hV : Valid (N : Int) zs) (hj : j < N) {a b : Nat} (h : LR N zs a b) : LR N (unq (zs.map (flipI j))) (sg j a) (sg j b) := by
  have hN := hV.1
  obtain ⟨m, hm, i, hi, k, hk, hc, rfl, rfl⟩ := h
  have h4 := crit_pt hV hm
  have hi4 := List.mem_range.1 hi
  have hk4 := List.mem_range.1 hk
  have hc' := hc
  unfold condK at hc'
  simp only [Bool.and_eq_true, bne_iff_ne, beq_iff_eq] at hc'
  refine ⟨flP2 j m, fl_crit hV hj hm, i, hi, k, hk, ?_, ?_, ?_⟩
  · unfold condK at hc ⊢
    exact hc
  · exact (sg_plc (by omega) (by omega) h4.2.2.2.1 h4.2.2.2.2 hc'.2.1).1.symm
  · exact (sg_plc (by omega) (by omega) h4.2.2.2.1 h4.2.2.2.2 hc'.2.2).2.symm
theorem fl_blk1 {j : Nat} (hV : Valid (N : Int) zs) (hj : j < N) (h : blkB (N : Int) zs = true) : blkB (N : Int) (unq (zs.map (flipI j))) = true := by
  have hN := hV.1
  rw [blk_pth (vsB_true hV)] at h
  rw [blk_pth (vsB_true (fl_valid hV hj))]
  intro i hi k hk hne
  obtain ⟨e1, l1⟩ := sg_fin ⟨N, by omega⟩ ⟨j, by omega⟩ ⟨i, by omega⟩
  obtain ⟨e2, l2⟩ := sg_fin ⟨N, by omega⟩ ⟨j, by omega⟩ ⟨k, by omega⟩
  simp only at e1 l1 e2 l2
  have hp := h _ (l1 hi) _ (l2 hk) (fun e => hne (by rw [← e1, ← e2, e]))
  have hq := hp.map (s := sg j) fun a b => fl_LR hV hj
  rwa [e1, e2] at hq
theorem fl_blk {j : Nat} (hV : Valid (N : Int) zs) (hj : j < N) : blkB (N : Int) (unq (zs.map (flipI j))) = blkB (N : Int) zs := by
  rw [Bool.eq_iff_iff]
  constructor
  · intro h
    have := fl_blk1 (fl_valid hV hj) hj h
    rwa [fl_back hV hj] at this
  · exact fl_blk1 hV hj
/-! ### median -/
set_option maxRecDepth 100000 in
theorem two_chk : ((List.range 16).all fun c => (List.range 4).all fun j => (List.range 4).all fun k => !(j != k && (bitN c j == 1 && bitN c k == 1) && decide (wt c ≤ 2)) || (List.range 16).all fun b => !(b &&& c == b) || (List.range 16).all fun x => !(bitN x j == bitN b j && bitN x k == bitN b k) || x &&& c == b) = true := by decide +kernel
theorem two_at {c j k b x : Nat} (hc : c < 16) (hj : j < 4) (hk : k < 4) (hne : j ≠ k) (h1 : bitN c j = 1) (h2 : bitN c k = 1) (hw : wt c ≤ 2) (hb : b &&& c = b) (hx : x < 16) (e1 : bitN x j = bitN b j) (e2 : bitN x k = bitN b k) : x &&& c = b := by
  have hb16 : b < 16 := by
    have : b &&& c ≤ c := Nat.and_le_right
    omega
  have h := List.all_eq_true.1 (List.all_eq_true.1 (List.all_eq_true.1 two_chk c (List.mem_range.2 hc)) j (List.mem_range.2 hj)) k (List.mem_range.2 hk)
  rw [show (j != k && (bitN c j == 1 && bitN c k == 1) && decide (wt c ≤ 2)) = true from by simp [hne, h1, h2, hw], Bool.not_true, Bool.false_or] at h
  have h' := List.all_eq_true.1 h b (List.mem_range.2 hb16)
  rw [show (b &&& c == b) = true from by simpa using hb, Bool.not_true, Bool.false_or] at h'
  have h'' := List.all_eq_true.1 h' x (List.mem_range.2 hx)
  rw [show (bitN x j == bitN b j && bitN x k == bitN b k) = true from by simp [e1, e2], Bool.not_true, Bool.false_or, beq_iff_eq] at h''
  exact h''
/-- a judgment gives the answer of a place -/
def hasP (x a : Nat) : Prop := bitN x (a / 2) = a % 2
theorem led {x : Nat} (hV : Valid (N : Int) zs) (hx : (x : Int) ∈ zs) (hm : closedB med (N : Int) zs = true) {a b : Nat} (h : LR N zs a b) (ha : hasP x a) : hasP x b := by
  have hN := hV.1
  obtain ⟨m, hmc, j, hj, k, hk, hc, rfl, rfl⟩ := h
  rw [median_small hV, List.all_eq_true] at hm
  have hw := of_decide_eq_true (hm m hmc)
  have h4 := crit_pt hV hmc
  have hf := ord_facts (show N ≤ 4 by omega) (crit_mem.1 hmc).1
  have hj4 := List.mem_range.1 hj
  have hk4 := List.mem_range.1 hk
  unfold condK at hc
  simp only [Bool.and_eq_true, bne_iff_ne, beq_iff_eq] at hc
  have b1 := bitN_le m.2 j
  have b2 := bitN_le m.2 k
  have b3 := bitN_le x k
  have ha' : bitN x j = bitN m.2 j := by
    unfold hasP plc at ha
    rw [show (2 * j + bitN m.2 j) / 2 = j from by omega] at ha
    omega
  have hne : bitN x k ≠ bitN m.2 k := fun e => by
    have hx16 : x < 16 := in_16 hV hx
    have h5 := two_at h4.2.2.2.1 (by omega) (by omega) hc.1 hc.2.1 hc.2.2 hw hf.2.1 hx16 ha' e
    have h6 : opn zs m = true := opn_iff.2 ⟨_, hx, by rw [Int.toNat_natCast]; exact h5⟩
    rw [(cr_iff.1 (crit_mem.1 hmc).2).1] at h6
    cases h6
  unfold hasP opp
  rw [show (2 * k + 1 - bitN m.2 k) / 2 = k from by omega]
  omega
theorem blk_med (hV : Valid (N : Int) zs) (h : blkB (N : Int) zs = true) : closedB med (N : Int) zs = false := by
  cases hm : closedB med (N : Int) zs with
  | false => rfl
  | true =>
    exfalso
    have h1 := hV.1
    have h0 := hV.2.1
    have hz := valid_lt hV (List.getElem_mem h0)
    obtain ⟨x, hx⟩ : ∃ x : Nat, x = (zs[0]).toNat := ⟨_, rfl⟩
    have hxz : (x : Int) ∈ zs := by
      rw [hx, Int.toNat_of_nonneg hz.1]
      exact List.getElem_mem h0
    have hb := bitN_le x 0
    have hp := (blk_pth (vsB_true hV)).1 h (bitN x 0) (by omega) (1 - bitN x 0) (by omega) (by omega)
    have key : ∀ a b, Pth (LR N zs) a b → hasP x a → hasP x b := fun a b hp => by
      induction hp with
      | one h1 => exact led hV hxz hm h1
      | more _ h1 ih => exact fun ha => led hV hxz hm h1 (ih ha)
    have h2 : hasP x (bitN x 0) := by
      unfold hasP
      rw [show bitN x 0 / 2 = 0 from by omega]
      omega
    have h3 := key _ _ hp h2
    unfold hasP at h3
    rw [show (1 - bitN x 0) / 2 = 0 from by omega] at h3
    omega
end
end Go.Proofs.Ytbnnblfgpdfmpaa

/- LdC: Leads: following them, in both programs; the places of a part's answers. -/
namespace Go.Proofs.Ytbnnblfgpdfmpaa
open Go.RowKit Go.Joins

/-- a list of leads in a block of its own, all else as in w2 -/
def LDg (w2 : World) (base g c K : Nat) (r : List Nat) (wr : World) : Prop :=
  wr.ownsRow base 3 1 (.slice (some ⟨g, 0, none⟩) K c) K ((ci r).map (Value.int .i64)) ∧ w2.grownBy wr (some g) ∧ RB K r
theorem LDg.store {w2 wr : World} {base g c K f y : Nat} {r : List Nat} (h : LDg w2 base g c K r wr) (hy : y < 256) : LDg w2 base g c K (r.set f y) (wr.setCell ⟨g, f, none⟩ (.int .i64 (y : Int))) := by
  refine ⟨?_, gtrans h.2.1 (h.1.stored f _).2, h.2.2.set hy⟩
  rw [ci_set, List.map_set]
  exact (h.1.stored f _).1
theorem LDg.drew {w2 wr : World} {base g c K : Nat} {r : List Nat} (h : LDg w2 base g c K r wr) : LDg w2 base g c K r wr.drew := ⟨h.1, ⟨h.2.1.os, h.2.1.tape, h.2.1.output, h.2.1.size, h.2.1.block⟩, h.2.2⟩
theorem LDg.at {w2 wr : World} {base g c K f : Nat} {r : List Nat} (h : LDg w2 base g c K r wr) (hf : f < K) : wr.cell? ⟨g, f, none⟩ = some (.int .i64 (r.getD f 0 : Nat)) ∧ wr.frozen? ⟨g, f, none⟩ = false := by
  have h1 := h.1.cellAt f (by omega)
  have hl : f < r.length := by rw [h.2.2.1]; exact hf
  have e : ((ci r).map (Value.int .i64))[f]? = some (.int .i64 (r.getD f 0 : Nat)) := by
    unfold ci
    rw [List.map_map, List.getElem?_map, List.getElem?_eq_getElem hl, List.getD_eq_getElem?_getD, List.getElem?_eq_getElem hl]
    rfl
  rw [e] at h1
  exact ⟨h1, h.1.frozenAt f⟩
theorem LDg.keep {w2 wr : World} {base g c K : Nat} {r : List Nat} (h : LDg w2 base g c K r wr) {a : Addr} {v : Value} (hc : w2.cell? a = some v) (hne : a.block ≠ g) : wr.cell? a = some v :=
  (gcell h.2.1 (a := a) (World.block_lt_of_cell? _ _ hc) (by simpa using hne)).trans hc
theorem LDg.below {w2 wr wx : World} {base g c K : Nat} {r : List Nat} (h : LDg w2 base g c K r wr) (hb : Below wr.heap.size wr wx) : LDg w2 base g c K r wx := by
  have hk : ∀ v, wr.ownsRow base 3 1 v K ((ci r).map (Value.int .i64)) → wx.ownsRow base 3 1 v K ((ci r).map (Value.int .i64)) := fun v h => World.ownsRow.kept (row := none) h ⟨hb.os, hb.tape, hb.output, hb.size, fun k hk _ => hb.block k hk⟩ (by rcases v.ownBlock with _ | g <;> simp)
  exact ⟨hk _ h.1, gtrans h.2.1 ((grown_of hb).but _), h.2.2⟩
theorem LDg.anchor {w2 wr : World} {base g c K : Nat} {r : List Nat} (h : LDg w2 base g c K r wr) : LDg wr base g c K r wr := ⟨h.1, World.grownBy.refl _ _, h.2.2⟩
theorem LDg.to {w2 wr : World} {base g c K : Nat} {r r' : List Nat} (h : LDg w2 base g c K r wr) (e : r' = r) : LDg w2 base g c K r' wr := by
  subst e
  exact h
theorem clS_yes {r : List Nat} {k i : Nat} (h : bitN (r.getD i 0) k = 1) : clS r k i = r.set i (r.getD i 0 ||| r.getD k 0) := by unfold clS; rw [if_pos h]
theorem clS_no {r : List Nat} {k i : Nat} (h : bitN (r.getD i 0) k = 0) : clS r k i = r := by unfold clS; rw [if_neg (by rw [h]; decide)]
theorem ints_cells {w : World} {b off : Nat} {zs : List Int} (h : ∀ k, k < zs.length → w.cell? ⟨b, off + k, none⟩ = some (.int .i64 (zs.getD k 0))) : ∀ (j : Nat) (u : Value), (zs.map (Value.int .i64))[j]? = some u → w.cell? ((⟨b, off, none⟩ : Addr).add j) = some u := fun j u hu => by
  rw [List.getElem?_map] at hu
  rcases hz : zs[j]? with _ | z
  · rw [hz] at hu
    simp at hu
  · rw [hz] at hu
    have hj : j < zs.length := by
      rcases Nat.lt_or_ge j zs.length with h1 | h1
      · exact h1
      · rw [List.getElem?_eq_none h1] at hz
        cases hz
    have h1 := h j hj
    rw [List.getD_eq_getElem?_getD, hz] at h1
    cases hu
    rw [Addr.add_lit]
    exact h1

set_option maxHeartbeats 4000000 in
set_option maxRecDepth 100000 in
theorem closure_any (K : Nat) (a : Option Addr) (cap : Nat) (r : List Nat) (w : World) (hi : Ints w a (ci r)) (hr : RB K r) (hK : 1 ≤ K ∧ K ≤ 8) :
    Calls Try.prog 77 #[.slice a K cap] w (Gives (ci (clK K K r)) w) := by
  obtain ⟨i0, hi0, hz0, hz1, hz2⟩ := info_parts info_int
  have hlen : (ci r).length = K := by rw [ci_len]; exact hr.1
  obtain ⟨b, off, rfl, hlt, hc⟩ := hi (by omega)
  have HC := hide (ints_cells hc)
  have HLEN := hide hlen
  have HR := hide hr
  have HB := hide hlt
  clear hi hc hlen hr
  go_enter Try.func77, Try.ntmps77
  go_wp2_with ((at_builtin; refine wpList_append_own _ rfl _ _ 22 rfl w.heap.size 3 i0 (.int .i64 0) 1 8 Try.underlying22 hi0 hz0 hz1 hz2 rfl (by decide) _ 0 [] rfl (World.ownsRow_lit w #[] 0 (Nat.le_refl _) (by simp) rfl) ⟨b, off, none⟩ K cap ((ci r).map (Value.int .i64)) rfl ?d1 ?c1 ?c2 ?c3 ?c4 ?c5 ?_))
  case d1 => rw [List.length_map, HLEN.out]; omega
  case c1 => exact fun j u hu => ((bel1 w (.cells #[] 3)).cell (p := (⟨b, off, none⟩ : Addr).add j) (by rw [Addr.add_lit]; exact HB.out)).trans (HC.out j u hu)
  case c2 => intro u hu; rcases List.mem_map.1 hu with ⟨z, _, rfl⟩; rfl
  case c3 => unfold maxLen; omega
  case c4 => omega
  case c5 => simp
  intro v w1 hown hgrow _
  try rw [Nat.zero_add] at hown
  try rw [List.nil_append] at hown
  obtain ⟨g, c, rfl, hgb, hgl⟩ := World.ownsRow.form hown (by omega)
  have D1 := hide (show LDg w1 w.heap.size g c K r w1 from ⟨hown, World.grownBy.refl _ _, HR.out⟩)
  have B1 := hide (((bel1 w (.cells #[] 3))).grown hgrow (by simp) (fun k hk => by cases hk; exact Nat.le_refl _))
  clear hown hgrow hlt hgl
  go_wp2_with fail
  go_loopw [4] (fun i wr => ∃ kk : Nat, kk ≤ K ∧ i = .int .i64 kk ∧ LDg w1 w.heap.size g c K (clK K kk r) wr) (fun i _ => K - (intOf i).toNat)
  case atStart => exact ⟨0, Nat.zero_le _, rfl, D1.out⟩
  case round =>
    clear D1
    obtain ⟨k, hk, rfl, hd⟩ := hrel
    by_cases hkt : k < K
    · have HS := hide (clK_succ K k r)
      obtain ⟨r0, hr0⟩ : ∃ r0, r0 = clK K k r := ⟨_, rfl⟩
      rw [← hr0] at hd HS
      have HD := hide hd
      clear hr0 hd
      go_wp2_with fail
      go_loopw [5] (fun i wr => ∃ ii : Nat, ii ≤ K ∧ i = .int .i64 ii ∧ LDg w1 w.heap.size g c K (clI k ii r0) wr) (fun i _ => K - (intOf i).toNat)
      case atStart => exact ⟨0, Nat.zero_le _, rfl, HD.out⟩
      case round =>
        clear HD
        obtain ⟨i, hi, rfl, hd⟩ := hrel
        by_cases hit : i < K
        · have HY := hide (clI_succ k i r0)
          obtain ⟨u, hu⟩ : ∃ u, u = clI k i r0 := ⟨_, rfl⟩
          rw [← hu] at hd HY
          obtain ⟨x1, x2⟩ := hd.at hit
          obtain ⟨y1, _⟩ := hd.at hkt
          have l1 := hd.2.2.at i
          have l2 := hd.2.2.at k
          have HD := hide hd
          clear hd hu
          obtain ⟨bv, hbv⟩ : ∃ bv, bitN (u.getD i 0) k = bv := ⟨_, rfl⟩
          have lbv := bitN_le (u.getD i 0) k
          have HBV := hide hbv
          rw [hbv] at lbv
          clear hbv
          obtain ⟨ui, hui⟩ : ∃ ui, u.getD i 0 = ui := ⟨_, rfl⟩
          obtain ⟨uk, huk⟩ : ∃ uk, u.getD k 0 = uk := ⟨_, rfl⟩
          have HUI := hide hui
          have HUK := hide huk
          rw [hui] at x1 l1 HBV
          rw [huk] at y1 l2
          clear hui huk
          have hor := orL ui uk (by omega) (by omega)
          rcases (show bv = 0 ∨ bv = 1 from by omega) with rfl | rfl
          · go_wp2_with (go_at_call 79; refine (bit8_was ui k 0 _ (by omega) (by omega) HBV.out).mono ?_; rintro e w' ⟨rfl, rfl⟩)
            go_roundw
            case rel => exact ⟨i + 1, by omega, by go_num, by rw [HY.out, clS_no (by rw [HUI.out]; exact HBV.out)]; exact HD.out⟩
            case measure => simp only [intOf]; omega
          · go_wp2_with (go_at_call 79; refine (bit8_was ui k 1 _ (by omega) (by omega) HBV.out).mono ?_; rintro e w' ⟨rfl, rfl⟩)
            go_region
            all_goals go_wp2
            all_goals
              go_roundw
              case rel => exact ⟨i + 1, by omega, by go_num, by rw [HY.out, clS_yes (by rw [HUI.out]; exact HBV.out), HUI.out, HUK.out]; exact (HD.out.drew).store (or_256 l1 l2)⟩
              case measure => simp only [intOf]; omega
        · obtain rfl : i = K := by omega
          go_wp2_with fail
          go_roundw
          case rel => exact ⟨k + 1, by omega, by go_num, by rw [HS.out]; exact hd⟩
          case measure => simp only [intOf]; omega
    · obtain rfl : k = K := by omega
      go_wp2_with fail
      go_ret
      refine ⟨_, rfl, ?_, ?_⟩
      · have h1 := hd.1
        have h2 := hd.2.2.1
        unfold Owns
        rw [ci_len]
        clear hd
        generalize (clK k k r) = z at h1 h2 ⊢
        rw [h2]
        exact h1
      · exact bgrown B1.out hd.2.1 B1.out.size (fun k hk => by cases hk; exact hgb)

set_option maxHeartbeats 4000000 in
set_option maxRecDepth 100000 in
theorem followLeads_any (K base g c : Nat) (r : List Nat) (w : World) (hg : LDg w base g c K r w) (hK : K ≤ 8) :
    Calls Try.prog 76 #[.slice (some ⟨g, 0, none⟩) K c] w fun e w' => e = .returned (.tuple #[]) ∧ LDg w base g c K (clK K K r) w' := by
  have D1 := hide hg
  clear hg
  go_enter Try.func76, Try.ntmps76
  go_wp2_with fail
  go_loopw [6] (fun i wr => ∃ kk : Nat, kk ≤ K ∧ i = .int .i64 kk ∧ LDg w base g c K (clK K kk r) wr) (fun i _ => K - (intOf i).toNat)
  case atStart => exact ⟨0, Nat.zero_le _, rfl, D1.out⟩
  case round =>
    clear D1
    obtain ⟨k, hk, rfl, hd⟩ := hrel
    by_cases hkt : k < K
    · have HS := hide (clK_succ K k r)
      obtain ⟨r0, hr0⟩ : ∃ r0, r0 = clK K k r := ⟨_, rfl⟩
      rw [← hr0] at hd HS
      have HD := hide hd
      clear hr0 hd
      go_wp2_with fail
      go_loopw [11] (fun i wr => ∃ ii : Nat, ii ≤ K ∧ i = .int .i64 ii ∧ LDg w base g c K (clI k ii r0) wr) (fun i _ => K - (intOf i).toNat)
      case atStart => exact ⟨0, Nat.zero_le _, rfl, HD.out⟩
      case round =>
        clear HD
        obtain ⟨i, hi, rfl, hd⟩ := hrel
        by_cases hit : i < K
        · have HY := hide (clI_succ k i r0)
          obtain ⟨u, hu⟩ : ∃ u, u = clI k i r0 := ⟨_, rfl⟩
          rw [← hu] at hd HY
          obtain ⟨x1, x2⟩ := hd.at hit
          obtain ⟨y1, _⟩ := hd.at hkt
          have l1 := hd.2.2.at i
          have l2 := hd.2.2.at k
          have HD := hide hd
          clear hd hu
          obtain ⟨bv, hbv⟩ : ∃ bv, bitN (u.getD i 0) k = bv := ⟨_, rfl⟩
          have lbv := bitN_le (u.getD i 0) k
          have HBV := hide hbv
          rw [hbv] at lbv
          obtain ⟨ui, hui⟩ : ∃ ui, u.getD i 0 = ui := ⟨_, rfl⟩
          obtain ⟨uk, huk⟩ : ∃ uk, u.getD k 0 = uk := ⟨_, rfl⟩
          have HUI := hide hui
          have HUK := hide huk
          rw [hui] at x1 l1 HBV hbv
          rw [huk] at y1 l2
          clear hui huk
          have hor := orL ui uk (by omega) (by omega)
          have hsh := shrL ui k (by omega)
          rw [hbv] at hsh
          clear hbv
          rcases (show bv = 0 ∨ bv = 1 from by omega) with rfl | rfl
          · go_wp2_with fail
            go_roundw
            case rel => exact ⟨i + 1, by omega, by go_num, by rw [HY.out, clS_no (by rw [HUI.out]; exact HBV.out)]; exact HD.out⟩
            case measure => simp only [intOf]; omega
          · go_wp2_with fail
            go_region
            all_goals go_wp2
            all_goals
              go_roundw
              case rel => exact ⟨i + 1, by omega, by go_num, by rw [HY.out, clS_yes (by rw [HUI.out]; exact HBV.out), HUI.out, HUK.out]; exact (HD.out.drew).store (or_256 l1 l2)⟩
              case measure => simp only [intOf]; omega
        · obtain rfl : i = K := by omega
          go_wp2_with fail
          go_roundw
          case rel => exact ⟨k + 1, by omega, by go_num, by rw [HS.out]; exact hd⟩
          case measure => simp only [intOf]; omega
    · obtain rfl : k = K := by omega
      go_wp2_with fail
      go_end0
      exact ⟨rfl, hd⟩

def PLk (k : Nat) (m : Nat × Nat) : List Nat := ((List.range k).filter fun j => bitN m.1 j == 1).map (plc m)
theorem PLk_yes {k : Nat} {m : Nat × Nat} (h : bitN m.1 k = 1) : ci (PLk (k + 1) m) = ci (PLk k m) ++ [((2 * k + bitN m.2 k : Nat) : Int)] := by
  unfold PLk ci
  rw [List.range_succ, List.filter_append, List.map_append, List.map_append]
  simp [h, plc]
theorem PLk_no {k : Nat} {m : Nat × Nat} (h : bitN m.1 k = 0) : PLk (k + 1) m = PLk k m := by
  unfold PLk
  rw [List.range_succ, List.filter_append, List.map_append]
  simp [h]
theorem PLk_len (k : Nat) (m : Nat × Nat) : (PLk k m).length ≤ k := by
  unfold PLk
  rw [List.length_map]
  exact Nat.le_trans (List.length_filter_le _ _) (by simp)
set_option maxHeartbeats 4000000 in
theorem placesOf_any (N mc mb : Nat) (w : World) (hN : N ≤ 4) (hc : mc < 16) (hb : mb < 16) :
    Calls Try.prog 74 #[.int .i64 (N : Int), .agg #[.int .i64 (mc : Int), .int .i64 (mb : Int)]] w (Gives (ci (PL N (mc, mb))) w) := by
  obtain ⟨i0, hi0, hz0, hz1, hz2⟩ := info_parts info_int
  have P0 := PBox.new w (mc : Int) (mb : Int) 60
  have B0 := hide (bel1 w (.cells #[.int .i64 (mc : Int), .int .i64 (mb : Int)] 60))
  have HP := hide P0
  clear P0
  go_enter Try.func74, Try.ntmps74
  go_wp2_with fail
  go_loopw [5, 8] (fun v i wr => ∃ k : Nat, k ≤ N ∧ i = .int .i64 k ∧ Owns wr (w.heap.size + 1) v (ci (PLk k (mc, mb))) ∧ Below w.heap.size w wr ∧ PBox wr w.heap.size mc mb) (fun _ i _ => N - (intOf i).toNat)
  case atStart => exact ⟨0, Nat.zero_le _, rfl, World.ownsRow_nil _ _ _ _, B0.out, HP.out⟩
  case round =>
    clear B0 HP
    obtain ⟨k, hk, rfl, hown, hbl, hpb⟩ := hrel
    have hpb' := hpb
    obtain ⟨_, q0, q1⟩ := hpb'
    have hsz := hbl.size
    have hsz1 := hpb.1
    have HBL := hide hbl
    have HPB := hide hpb
    have hlen := PLk_len k (mc, mb)
    rw [← ci_len] at hlen
    clear hbl hpb
    by_cases hkt : k < N
    · obtain ⟨ec, hec⟩ : ∃ ec, bitN mc k = ec := ⟨_, rfl⟩
      obtain ⟨eb, heb⟩ : ∃ eb, bitN mb k = eb := ⟨_, rfl⟩
      have l1 := bitN_le mc k
      have l2 := bitN_le mb k
      have s1 := shrL mc k (by omega)
      have s2 := shrL mb k (by omega)
      rw [hec] at l1 s1
      rw [heb] at l2 s2
      have HEC := hide hec
      have HEB := hide heb
      clear hec heb
      rcases (show ec = 0 ∨ ec = 1 from by omega) with rfl | rfl
      · go_wp2_with fail
        go_roundw
        case rel => exact ⟨k + 1, by omega, by go_num, by rw [PLk_no (show bitN (mc, mb).1 k = 0 from HEC.out)]; exact hown, HBL.out, HPB.out⟩
        case measure => simp only [intOf]; omega
      · have hown' : wr.ownsRow (w.heap.size + 1) 3 1 _ (ci (PLk k (mc, mb))).length ((ci (PLk k (mc, mb))).map (Value.int .i64)) := hown
        clear hown
        go_wp2_with ((at_builtin; refine wpList_append_own _ rfl _ _ 22 rfl (w.heap.size + 1) 3 i0 (.int .i64 0) 1 8 Try.underlying22 hi0 hz0 hz1 hz2 rfl (by decide) _ _ _ rfl (hown'.alloc _) ⟨wr.heap.size, 0, none⟩ 1 1 [.int .i64 (2 * (k : Int) + (eb : Int))] rfl rfl ?c1 ?c2 ?c3 ?c4 ?c5 ?_))
        case c1 => exact cell_one_new wr _ _
        case c2 => intro u hu; simp at hu; subst hu; rfl
        case c3 => unfold maxLen; omega
        case c4 => omega
        case c5 => simp; omega
        intro v' w2 hown2 hgrow _
        have hpush := hide (Owns.push hown2)
        have hge := fun j hj => (hown'.lt j hj).1
        have hbel : Below w.heap.size w w2 := (HBL.out.alloc HBL.out.size _).grown hgrow (by simp; omega) (fun j hj => by have := hge j hj; omega)
        have hpb2 : PBox w2 w.heap.size mc mb := (HPB.out.below (bel1 _ _)).grown hgrow (fun e => by have := hge _ e.symm; omega)
        clear hown2 hgrow hown'
        go_wp2_with fail
        go_roundw
        case rel => exact ⟨k + 1, by omega, by go_num, by rw [PLk_yes (show bitN (mc, mb).1 k = 1 from HEC.out), show ((2 * k + bitN (mc, mb).2 k : Nat) : Int) = 2 * (k : Int) + (eb : Int) from by rw [show bitN (mc, mb).2 k = eb from HEB.out]; omega]; exact hpush.out, hbel, hpb2⟩
        case measure => simp only [intOf]; omega
    · obtain rfl : k = N := by omega
      go_wp2_with fail
      go_ret
      exact ⟨_, rfl, hown.le (by omega), HBL.out⟩

theorem oppositePlace_was (p q : Nat) (w : World) (hp : p < 16) (h : p ^^^ 1 = q) : Calls Try.prog 75 #[.int .i64 (p : Int)] w fun e w' => e = .returned (.int .i64 (q : Int)) ∧ w = w' := by
  have h1 : bits .xor .i64 (p : Int) 1 = (q : Int) := by
    have h1 := xor_small p 1 (by omega) (by omega)
    rw [h] at h1
    exact h1
  have HX := hide h
  clear h
  go_enter Try.func75, Try.ntmps75
  go_wp2_with fail
  go_ret
  exact ⟨rfl, rfl⟩
end Go.Proofs.Ytbnnblfgpdfmpaa

/- LdI: Leads in the program. -/
namespace Go.Proofs.Ytbnnblfgpdfmpaa
open Go.RowKit Go.Joins

theorem shl_small (t : Nat) (ht : t < 8) : wrap64 ((2 : Int) ^ t) = ((2 ^ t : Nat) : Int) := by
  have h := pow_256 ht
  have e : ((2 : Int) ^ t) = ((2 ^ t : Nat) : Int) := by simp
  rw [e]
  generalize 2 ^ t = p at h
  unfold wrap64
  omega
theorem implVS_was (n : Int) (a : Option Addr) (cap : Nat) (zs : List Int) (r : Bool) (w : World) (hi : Ints w a zs) (hn : zs.length ≤ 1048576) (h : vsB n zs = r) :
    Calls Try.prog 26 #[.agg #[.int .i64 n, .slice a zs.length cap]] w fun e w' => e = .returned (.bool r) ∧ Below w.heap.size w w' := by
  subst h
  exact implValidSpace_any n a cap zs w hi hn
theorem specVS_was (n : Int) (a : Option Addr) (cap : Nat) (zs : List Int) (r : Bool) (w : World) (hi : Ints w a zs) (hn : zs.length ≤ 1048576) (h : vsB n zs = r) :
    Calls Try.prog 37 #[.agg #[.int .i64 n, .slice a zs.length cap]] w fun e w' => e = .returned (.bool r) ∧ Below w.heap.size w w' := by
  subst h
  exact validSpace_any n a cap zs w hi hn
theorem PL_lt {N : Nat} {m : Nat × Nat} {i : Nat} (hi : i < (PL N m).length) : (PL N m)[i] < 2 * N := by
  have key : ∀ x ∈ PL N m, x < 2 * N := fun x h => by
    unfold PL at h
    obtain ⟨j, hj, e⟩ := List.mem_map.1 h
    have := List.mem_range.1 (List.mem_filter.1 hj).1
    have h2 := plc_lt m this
    omega
  exact key _ (List.getElem_mem hi)
theorem natD_lt {l : List Nat} {k : Nat} (h : k < l.length) : l.getD k 0 = l[k] := by simp [List.getD_eq_getElem?_getD, h]
theorem PL_len (N : Nat) (m : Nat × Nat) : (PL N m).length ≤ N := PLk_len N m
theorem LDs.g {w2 wr : World} {B0 K : Nat} {r : List Nat} (h : LDs w2 B0 K r wr) : LDg w2 B0 B0 K K r wr := h
theorem LDg.join {w1 w2 wr : World} {base g c K : Nat} {r r' : List Nat} (h : LDg w1 base g c K r w2) (h' : LDg w2 base g c K r' wr) : LDg w1 base g c K r' wr := ⟨h'.1, gtrans h.2.1 h'.2.1, h'.2.2⟩

set_option maxHeartbeats 8000000 in
set_option maxRecDepth 100000 in
theorem implLeadsOf_any (n : Int) (a : Option Addr) (cap : Nat) (zs : List Int) (w : World) (hi : Ints w a zs) (hn : zs.length ≤ 1048576) :
    Calls Try.prog 61 #[.agg #[.int .i64 n, .slice a zs.length cap]] w (Gives (ci (ldR n zs)) w) := by
  obtain ⟨i0, hi0, hz0, hz1, hz2⟩ := info_parts info_int
  have S0 := SV.new w n a zs cap none [] 26 hi (Ints.nil _ _)
  clear hi
  obtain ⟨⟨_, c0, c1⟩, _⟩ := S0.pair
  by_cases hv : vsB n zs = false
  · have HV := hide (show ci (ldR n zs) = [] from by rw [ldR_no hv]; rfl)
    have HVV := hide hv
    clear hv
    go_enter Try.func61, Try.ntmps61
    go_wp2_with fail
    refine (implVS_was _ _ _ _ _ _ S0.2.1 hn HVV.out).mono ?_
    rintro e w1 ⟨rfl, hb⟩
    go_wp2
    go_ret
    exact gives_nil HV.out (S0.below hb).2.2.2
  · have hv : vsB n zs = true := by simpa using hv
    have hV := valid_of hv
    have HR := hide (valid_range hV)
    have hN4 := hV.1
    obtain ⟨N, hN⟩ : ∃ N : Nat, n = (N : Int) := ⟨n.toNat, by omega⟩
    subst hN
    have HV := hide (ldR_yes hv)
    have HCR := hide (crR_yes hv)
    have HVV := hide hv
    have hN : 1 ≤ N ∧ N ≤ 4 := by omega
    clear hV hN4 hv
    go_enter Try.func61, Try.ntmps61
    go_wp2_with fail
    refine (implVS_was _ _ _ _ _ _ S0.2.1 hn HVV.out).mono ?_
    rintro e w1 ⟨rfl, hb⟩
    have S1 := S0.below hb
    clear S0 hb c0 c1
    obtain ⟨⟨_, c0, c1⟩, _⟩ := S1.pair
    go_wp2_with (at_make; refine wpList_make_full _ rfl _ _ 22 rfl w1.heap.size 3 i0 (.int .i64 0) 1 Try.underlying22 hi0 hz0 hz1 _ _ _ _ (2 * N) rfl rfl (by first | omega | (simp; omega)) (by first | omega | (simp; omega)) ?b2 ?b3 (by simp) ?_)
    case b2 => rw [hz2]; omega
    case b3 => unfold maxLen; omega
    intro w0 hown0 hgrow0
    rw [madeInts] at hown0
    have S2 := S1.below ((Below.refl _ _).grown hgrow0 (Nat.le_refl _) (fun k h => by cases h))
    have hw1 : w.heap.size < w1.heap.size := S1.1.1
    have HS1 := hide S1
    clear c0 c1 S1 hgrow0
    obtain ⟨⟨_, c0, c1⟩, _⟩ := S2.pair
    go_wp2_with fail
    refine (implCriticalParts_any _ _ _ _ _ S2.2.1 hn).mono ?_
    rintro e w3 ⟨v, rfl, own, hb3⟩
    obtain ⟨L, hL⟩ : ∃ L, L = critL N zs := ⟨_, rfl⟩
    have e1 : crR (N : Int) zs = ofP L := by rw [HCR.out, Int.toNat_natCast, hL]
    rw [e1] at own
    have hl81 : L.length ≤ 81 := by
      rw [hL]
      have h1 : (ordL N).length ≤ 81 := by simpa using range5_of ord_len hN.2
      exact Nat.le_trans (List.length_filter_le _ _) h1
    have H16 : Hid (∀ p ∈ L, p.1 < 16 ∧ p.2 < 16) := fun p hp => by
      rw [hL] at hp
      exact ord_16 hN.2 (List.mem_filter.1 hp).1
    have HLL := hide (ofP_len L)
    have HL := hide hL
    obtain ⟨va, vc, hve, pin⟩ := own.form
    rw [HLL.out] at hve
    subst hve
    have hB0 : w1.heap.size < w0.heap.size := (hown0.lt w1.heap.size rfl).2
    have HNE := hide (ownsP_ne own (g := w1.heap.size) (by omega))
    have PIN := hide pin
    have D0 := hide ((LDs.start hown0 hb3).g)
    have S3 := hide (S2.below hb3)
    have hw3 : w1.heap.size < w3.heap.size := Nat.lt_of_lt_of_le hB0 hb3.size
    obtain ⟨⟨_, d0, _⟩, _⟩ := S3.out.pair
    have DN := hide d0
    clear c0 c1 S2 own hown0 hb3 pin d0 hB0 hL e1
    go_wp2_with fail
    go_loopw [21] (fun i wr => ∃ ii : Nat, ii ≤ L.length ∧ i = .int .i64 ii ∧ LDg w3 w1.heap.size w1.heap.size (2 * N) (2 * N) (stI N L ii) wr) (fun i _ => L.length - (intOf i).toNat)
    case atStart => exact ⟨0, Nat.zero_le _, rfl, D0.out⟩
    case round =>
      clear D0
      obtain ⟨ii, hii, rfl, hc⟩ := hrel
      by_cases hlt : ii < L.length
      · obtain ⟨pc, hpc⟩ : ∃ pc, pc = L[ii].1 := ⟨_, rfl⟩
        obtain ⟨pb, hpb⟩ : ∃ pb, pb = L[ii].2 := ⟨_, rfl⟩
        have hm : L[ii] = (pc, pb) := by rw [hpc, hpb]
        have h16 := H16.out L[ii] (List.getElem_mem hlt)
        rw [hm] at h16
        have HS := hide (show stI N L (ii + 1) = stJ N (pc, pb) N (stI N L ii) from by rw [← hm]; exact stI_succ hlt)
        obtain ⟨r0, hr0⟩ : ∃ r0, r0 = stI N L ii := ⟨_, rfl⟩
        rw [← hr0] at hc HS
        obtain ⟨b1, o1, rfl, hb1, hc1⟩ := PIN.out (by rw [HLL.out]; omega)
        obtain ⟨x1, x2⟩ := hc1 ii (by rw [HLL.out]; omega)
        have hnb : b1 ≠ w1.heap.size := HNE.out b1 o1 none rfl
        rw [ofP_at hlt, hm] at x1 x2
        have z1 := hc.keep x1 (by simpa using hnb)
        have z2 := hc.keep x2 (by simpa using hnb)
        have hc5 := hc.below (bel1 wr (.cells #[.int .i64 (pc : Int), .int .i64 (pb : Int)] 60))
        obtain ⟨_, p0, p1⟩ := PBox.new wr (pc : Int) (pb : Int) 60
        have qn := hc5.keep DN.out (by simp; omega)
        have HC5 := hide hc5
        have hsz : w1.heap.size < wr.heap.size := Nat.lt_of_lt_of_le hw3 hc.2.1.size
        have H16m := hide h16
        clear x1 x2 hc1 hnb hb1 hm h16 hr0 hc hc5 hpc hpb
        go_wp2_with fail
        refine (placesOf_any N pc pb _ hN.2 H16m.out.1 H16m.out.2).mono ?_
        rintro e w6 ⟨v6, rfl, own6, b6⟩
        have HC6 := hide ((HC5.out.below b6).anchor)
        have HJ6 := hide (HC5.out.below b6)
        obtain ⟨P, hP⟩ : ∃ P, P = PL N (pc, pb) := ⟨_, rfl⟩
        have HPR := hide (show prU P P.length r0 = stJ N (pc, pb) N r0 from by rw [hP]; exact pr_eq hN.2 _ _)
        have hpl : P.length ≤ 4 := by rw [hP]; have := PL_len N (pc, pb); omega
        have HPL : Hid (∀ i (hi : i < P.length), P[i] < 2 * N) := fun i hi => by subst hP; exact PL_lt hi
        rw [← hP] at own6
        obtain ⟨ap, cp, hve, ip, gp⟩ := own6.form
        rw [ci_len] at hve
        subst hve
        have IP := hide ip
        have GP : Hid (∀ b o s, ap = some ⟨b, o, s⟩ → b ≠ w1.heap.size) := fun b o s e => by have h1 := (gp b o s e).1; have h2 := hsz; simp at h1; omega
        clear z1 z2 p0 p1 qn HC5 own6 b6 ip gp hP
        go_wp2_with fail
        go_loopw [31] (fun i wq => ∃ uu : Nat, uu ≤ P.length ∧ i = .int .i64 uu ∧ LDg w6 w1.heap.size w1.heap.size (2 * N) (2 * N) (prU P uu r0) wq) (fun i _ => P.length - (intOf i).toNat)
        case atStart => exact ⟨0, Nat.zero_le _, rfl, HC6.out⟩
        case round =>
          clear HC6
          obtain ⟨uu, huu, rfl, hc⟩ := hrel
          by_cases hut : uu < P.length
          · have HU := hide (prU_succ (P := P) (r := r0) hut)
            obtain ⟨f, hf⟩ : ∃ f, f = P[uu] := ⟨_, rfl⟩
            have hf8 : f < 2 * N := by rw [hf]; exact HPL.out uu hut
            obtain ⟨r1, hr1⟩ : ∃ r1, r1 = prU P uu r0 := ⟨_, rfl⟩
            rw [← hr1, ← hf] at HU
            rw [← hr1] at hc
            obtain ⟨b2, o2, rfl, _, hc2⟩ := IP.out (by rw [ci_len]; omega)
            have x1 := hc2 uu (by rw [ci_len]; exact hut)
            rw [ci_at hut, natD_lt hut, ← hf] at x1
            have y1 := hc.keep x1 (by have := GP.out b2 o2 none rfl; simpa using this)
            have HC := hide hc
            have HC2 := hide hc2
            clear x1 hc2 hf hr1 hc
            go_wp2_with fail
            clear y1
            go_loopw [37] (fun i wq => ∃ vv : Nat, vv ≤ P.length ∧ i = .int .i64 vv ∧ LDg w6 w1.heap.size w1.heap.size (2 * N) (2 * N) (prV P f vv r1) wq) (fun i _ => P.length - (intOf i).toNat)
            case atStart => exact ⟨0, Nat.zero_le _, rfl, HC.out⟩
            case round =>
              clear HC
              obtain ⟨vv, hvv, rfl, hc⟩ := hrel
              by_cases hvt : vv < P.length
              · obtain ⟨o, ho⟩ : ∃ o, o = P[vv] := ⟨_, rfl⟩
                have ho8 : o < 2 * N := by rw [ho]; exact HPL.out vv hvt
                have x1 := HC2.out vv (by rw [ci_len]; exact hvt)
                rw [ci_at hvt, natD_lt hvt, ← ho] at x1
                have y1 := hc.keep x1 (by have := GP.out b2 o2 none rfl; simpa using this)
                have HC := hide hc
                have HO := hide ho
                clear x1 ho hc
                by_cases hfo : f = o
                · have hne : ((f : Int) != (o : Int)) = false := by rw [hfo]; simp
                  have HV0 := hide (prV_no (f := f) (r := r1) hvt (show (f != P[vv]) = false from by rw [← HO.out]; simpa using hfo))
                  clear hfo
                  go_wp2_with fail
                  go_roundw
                  case rel => exact ⟨vv + 1, by omega, by go_num, by rw [HV0.out]; exact HC.out⟩
                  case measure => simp only [intOf]; omega
                · have hne : ((f : Int) != (o : Int)) = true := by simp; omega
                  have HV1 := hide (prV_yes (f := f) (r := r1) hvt (show (f != P[vv]) = true from by rw [← HO.out]; simpa using hfo))
                  clear hfo
                  obtain ⟨t, ht⟩ : ∃ t, o ^^^ 1 = t := ⟨_, rfl⟩
                  have ht8 : t < 8 := by rw [← ht]; exact Nat.xor_lt_two_pow (n := 3) (by omega) (by omega)
                  obtain ⟨u, hu⟩ : ∃ u, u = prV P f vv r1 := ⟨_, rfl⟩
                  rw [← HO.out, ht, ← hu] at HV1
                  rw [← hu] at HC
                  obtain ⟨q, hq⟩ := HC.out.at (f := f) hf8
                  have hl := HC.out.2.2.at f
                  obtain ⟨lf, hlf⟩ : ∃ lf, u.getD f 0 = lf := ⟨_, rfl⟩
                  have hp := pow_256 ht8
                  have hsh := shl_small t ht8
                  obtain ⟨pt, hpt⟩ : ∃ pt, 2 ^ t = pt := ⟨_, rfl⟩
                  rw [hlf] at q hl
                  rw [hpt] at hp hsh
                  have hor := orL lf pt (by omega) (by omega)
                  have HE := hide (show bits .or .i64 (lf : Int) (wrap64 ((2 : Int) ^ t)) = ((lf ||| pt : Nat) : Int) from by rw [hsh]; exact hor)
                  have HP := hide hpt
                  have HLF := hide hlf
                  have HT := hide ht
                  clear hu hpt hlf ht hsh hor
                  go_wp2_with fail
                  clear y1
                  go_region_with (go_at_call 75; refine (oppositePlace_was o t _ (by omega) HT.out).mono ?_; rintro e w' ⟨rfl, rfl⟩)
                  all_goals go_wp2
                  all_goals
                    go_roundw
                    case rel => exact ⟨vv + 1, by omega, by go_num, by rw [HV1.out]; unfold upd; rw [HLF.out, HP.out]; have h5 := (HC.out.store (f := f) (or_256 hl hp)).drew; rw [← HE.out] at h5; exact h5⟩
                    case measure => simp only [intOf]; omega
              · obtain rfl : vv = P.length := by omega
                go_wp2_with fail
                go_roundw
                case rel => exact ⟨uu + 1, by omega, by go_num, by rw [HU.out]; exact hc⟩
                case measure => simp only [intOf]; omega
          · obtain rfl : uu = P.length := by omega
            go_wp2_with fail
            go_roundw
            case rel => exact ⟨ii + 1, by omega, by go_num, by rw [HS.out, ← HPR.out]; exact HJ6.out.join hc⟩
            case measure => simp only [intOf]; omega
      · obtain rfl : ii = L.length := by omega
        go_wp2_with fail
        refine (followLeads_any (2 * N) _ _ _ _ _ hc.anchor (by omega)).mono ?_
        rintro e w8 ⟨rfl, h8⟩
        go_wp2_with fail
        go_ret
        have h9 := hc.join h8
        refine ⟨_, rfl, ?_, ?_⟩
        · refine Owns.le (base := w1.heap.size) ?_ (by omega)
          have h1 := h9.1
          have h2 := h9.2.2.1
          unfold Owns
          rw [HV.out, ← HL.out, ci_len]
          clear h9 h8 hc
          generalize (clK (2 * N) (2 * N) (stI N L L.length)) = z at h1 h2 ⊢
          rw [h2]
          exact h1
        · exact bgrown S3.out.2.2.2 h9.2.1 (by omega) (fun k hk => by cases hk; omega)
end Go.Proofs.Ytbnnblfgpdfmpaa

/- BkI: IsBlocked of the program. -/
namespace Go.Proofs.Ytbnnblfgpdfmpaa
open Go.RowKit Go.Joins

theorem ldR_len8 {N : Nat} {zs : List Int} (h : vsB (N : Int) zs = true) : (ci (ldR (N : Int) zs)).length = 2 * N := by
  rw [ci_len]; exact (ldR_rc h).1
set_option maxHeartbeats 4000000 in
set_option maxRecDepth 100000 in
theorem implIsBlocked_any (n : Int) (a : Option Addr) (cap : Nat) (zs : List Int) (w : World) (hi : Ints w a zs) (hn : zs.length ≤ 1048576) :
    Calls Try.prog 28 #[.agg #[.int .i64 n, .slice a zs.length cap]] w fun e w' => e = .returned (.bool (blkB n zs)) ∧ Below w.heap.size w w' := by
  have S0 := SV.new w n a zs cap none [] 26 hi (Ints.nil _ _)
  clear hi
  obtain ⟨⟨_, c0, c1⟩, _⟩ := S0.pair
  by_cases hv : vsB n zs = false
  · have HV := hide (blkB_no hv)
    have HVV := hide hv
    clear hv
    go_enter Try.func28, Try.ntmps28
    go_wp2_with fail
    refine (implVS_was _ _ _ _ _ _ S0.2.1 hn HVV.out).mono ?_
    rintro e w1 ⟨rfl, hb⟩
    go_wp2
    go_ret
    exact ⟨ret_bool HV.out.symm, (S0.below hb).2.2.2⟩
  · have hv : vsB n zs = true := by simpa using hv
    have hN4 := (valid_of hv).1
    obtain ⟨N, hN⟩ : ∃ N : Nat, n = (N : Int) := ⟨n.toNat, by omega⟩
    subst hN
    have HV := hide hv
    have hN : 1 ≤ N ∧ N ≤ 4 := by omega
    have HRC := hide (ldR_rc hv)
    have HLEN := hide (ldR_len8 hv)
    clear hN4 hv
    go_enter Try.func28, Try.ntmps28
    go_wp2_with fail
    refine (implVS_was _ _ _ _ _ _ S0.2.1 hn HV.out).mono ?_
    rintro e w1 ⟨rfl, hb⟩
    have S1 := S0.below hb
    clear S0 hb c0 c1
    obtain ⟨⟨_, c0, c1⟩, _⟩ := S1.pair
    go_wp2_with fail
    refine (implLeadsOf_any _ _ _ _ _ S1.2.1 hn).mono ?_
    rintro e w3 ⟨v, rfl, own, hb⟩
    obtain ⟨va, vc, rfl, pin, _⟩ := own.form
    have B3 := hide (bnext S1.2.2.2 hb)
    obtain ⟨R, hR⟩ : ∃ R, R = ldR (N : Int) zs := ⟨_, rfl⟩
    have hrl : R.length = 2 * N := by rw [hR]; exact HRC.out.1
    rw [← hR] at pin
    obtain ⟨b, off, rfl, _, hc⟩ := pin (by rw [ci_len, hrl]; omega)
    have HC : Hid (∀ i, i < 2 * N → w3.cell? ⟨b, off + i, none⟩ = some (.int .i64 (R.getD i 0 : Nat))) := fun i hi => by
      have h1 := hc i (by rw [ci_len, hrl]; exact hi)
      rw [ci_at (by rw [hrl]; exact hi)] at h1
      exact h1
    have HRK : Hid (∀ i, R.getD i 0 < 2 ^ (2 * N)) := fun i => by rw [hR]; exact HRC.out.at i
    have HRR := hide hR
    have NO : Hid (∀ i : Nat, i < 2 * N → ¬ (R.getD i 0 ||| 2 ^ i = 2 ^ (2 * N) - 1) → blkB (N : Int) zs = false) := fun i hi hne => by
      rw [blkB_yes HV.out]
      cases ha : allB (2 * (N : Int).toNat) (ldR (N : Int) zs) with
      | false => rfl
      | true =>
        rw [allB_iff, ← HRR.out] at ha
        exact absurd ((full_iff (HRK.out i) hi).2 fun k hk hik => ha i (by simpa using hi) k (by simpa using hk) hik) hne
    have YES : Hid ((∀ i, i < 2 * N → R.getD i 0 ||| 2 ^ i = 2 ^ (2 * N) - 1) → blkB (N : Int) zs = true) := fun h => by
      rw [blkB_yes HV.out, allB_iff, ← HRR.out]
      intro i hi k hk hik
      have hi' : i < 2 * N := by simpa using hi
      exact (full_iff (HRK.out i) hi').1 (h i hi') k (by simpa using hk) hik
    clear own hb pin hR hrl hc S1 c0 c1
    go_wp2_with fail
    rw [HLEN.out]
    have hK8 : 2 ^ (2 * N) ≤ 256 := by
      have : 2 ^ (2 * N) ≤ 2 ^ 8 := Nat.pow_le_pow_right (by omega) (by omega)
      omega
    have hK1 : 1 ≤ 2 ^ (2 * N) := Nat.two_pow_pos _
    obtain ⟨Q, hQ⟩ : ∃ Q, Q = 2 ^ (2 * N) := ⟨_, rfl⟩
    rw [← hQ] at hK8 hK1 HRK NO YES
    have hshN : wrap64 ((2 : Int) ^ (2 * N)) = (Q : Int) := by
      have e : ((2 : Int) ^ (2 * N)) = (Q : Int) := by rw [hQ]; simp
      rw [e]
      unfold wrap64
      omega
    have HSN := hide hshN
    clear hQ hshN
    go_wp2_with fail
    go_loopw [13] (fun i wr => ∃ ii : Nat, ii ≤ 2 * N ∧ i = .int .i64 ii ∧ Hid (∀ i', i' < ii → R.getD i' 0 ||| 2 ^ i' = Q - 1) ∧ Below w3.heap.size w3 wr) (fun i _ => 2 * N - (intOf i).toNat)
    case atStart => exact ⟨0, Nat.zero_le _, rfl, fun i' h => by omega, Below.refl _ _⟩
    case round =>
      obtain ⟨ii, hii, rfl, hall, hbw⟩ := hrel
      have HBW := hide hbw
      by_cases hlt : ii < 2 * N
      · have x0 := HC.out ii hlt
        have x1 := (hbw.cell (p := ⟨b, off + ii, none⟩) (World.block_lt_of_cell? _ _ x0)).trans x0
        clear x0 hbw
        have l1 := HRK.out ii
        have NO' := hide (NO.out ii hlt)
        have hsh := shl_small ii (by omega)
        have hp := pow_256 (t := ii) (by omega)
        have HNX : Hid (R.getD ii 0 ||| 2 ^ ii = Q - 1 → ∀ i', i' < ii + 1 → R.getD i' 0 ||| 2 ^ i' = Q - 1) := fun e i' h => by
          rcases Nat.lt_or_ge i' ii with h1 | h1
          · exact hall.out i' h1
          · obtain rfl : i' = ii := by omega
            exact e
        clear hall
        obtain ⟨ri, hri⟩ : ∃ ri, R.getD ii 0 = ri := ⟨_, rfl⟩
        obtain ⟨pt, hpt⟩ : ∃ pt, 2 ^ ii = pt := ⟨_, rfl⟩
        rw [hri] at x1 l1 NO' HNX
        rw [hpt] at hsh hp NO' HNX
        have hri8 : ri < 256 := Nat.lt_of_lt_of_le l1 hK8
        have hor := orL ri pt (Nat.lt_trans hri8 (by decide)) (Nat.lt_trans hp (by decide))
        have hshN := HSN.out
        have HE : Hid (bits .or .i64 (ri : Int) (wrap64 ((2 : Int) ^ ii)) = ((ri ||| pt : Nat) : Int)) := by unfold Hid; rw [hsh]; exact hor
        have HO := hide (or_256 hri8 hp)
        clear hri hpt hor hsh hshN
        go_wp2_with fail
        go_quiet (fail)
        by_cases hq : ri ||| pt = Q - 1
        · have HB : Hid ((bits .or .i64 (ri : Int) (wrap64 ((2 : Int) ^ ii)) != wrap64 (wrap64 ((2 : Int) ^ (2 * N)) - 1)) = false) := by
            unfold Hid
            rw [HE.out, HSN.out, IntWalk.wrap64_in _ (by omega), hq]
            simp
            omega
          have HQ := hide hq
          clear hq
          rw [HB.out]
          go_wp2_with fail
          go_roundw
          case rel => exact ⟨ii + 1, by omega, by go_num, HNX.out HQ.out, bnext HBW.out (belN _ _)⟩
          case measure => simp only [intOf]; omega
        · have HB : Hid ((bits .or .i64 (ri : Int) (wrap64 ((2 : Int) ^ ii)) != wrap64 (wrap64 ((2 : Int) ^ (2 * N)) - 1)) = true) := by
            unfold Hid
            rw [HE.out, HSN.out, IntWalk.wrap64_in _ (by omega), bne_iff_ne]
            omega
          have HQ := hide hq
          clear hq
          rw [HB.out]
          go_wp2_with fail
          go_ret
          exact ⟨ret_bool (NO'.out HQ.out).symm, bnext B3.out (bnext HBW.out (belN _ _))⟩
      · obtain rfl : ii = 2 * N := by omega
        go_wp2_with fail
        go_ret
        exact ⟨ret_bool (YES.out hall.out).symm, bnext B3.out HBW.out⟩
end Go.Proofs.Ytbnnblfgpdfmpaa

/- LdP: LeadsOf of the model. -/
namespace Go.Proofs.Ytbnnblfgpdfmpaa
open Go.RowKit Go.Joins

theorem ldR_len (n : Int) (zs : List Int) : (ci (ldR n zs)).length ≤ 1048576 := by
  rw [ci_len]
  cases hv : vsB n zs with
  | false => rw [ldR_no hv]; simp
  | true =>
    have hV := (valid_of hv).1
    obtain ⟨N, hN⟩ : ∃ N : Nat, n = (N : Int) := ⟨n.toNat, by omega⟩
    subst hN
    have h4 : N ≤ 4 := by omega
    rw [ldR_yes hv, ((RB.stI h4 (critL N zs) (critL N zs).length).clK (2 * N)).1]
    omega
theorem rb_leads {N : Nat} (hN : N ≤ 4) (L : List (Nat × Nat)) : RB (2 * N) (stI N L L.length) := RB.stI hN L _
end Go.Proofs.Ytbnnblfgpdfmpaa

/- BkS: IsBlocked of the model. -/
namespace Go.Proofs.Ytbnnblfgpdfmpaa
open Go.RowKit Go.Joins

set_option maxHeartbeats 4000000 in
set_option maxRecDepth 100000 in
theorem blocked_any (N : Nat) (a : Option Addr) (cap : Nat) (zs : List Int) (w : World) (hi : Ints w a zs) (hn : zs.length ≤ 1048576) (hv : vsB (N : Int) zs = true) (hN : 1 ≤ N ∧ N ≤ 4) :
    Calls Try.prog 62 #[.agg #[.int .i64 (N : Int), .slice a zs.length cap]] w fun e w' => e = .returned (.bool (blkB (N : Int) zs)) ∧ Below w.heap.size w w' := by
  have S0 := SV.new w (N : Int) a zs cap none [] 26 hi (Ints.nil _ _)
  clear hi
  obtain ⟨⟨_, c0, c1⟩, _⟩ := S0.pair
  have HR := hide (valid_range (valid_of hv))
  have HRB := hide (rb_leads hN.2 (critL N zs))
  have HLD := hide (ldR_yes hv)
  have HV := hide hv
  have HRC := hide (ldR_rc hv)
  clear hv
  go_enter Try.func62, Try.ntmps62
  go_wp2_with fail
  refine (leads_any N _ _ _ _ S0.2.1 hn hN HR.out).mono ?_
  rintro e w2 ⟨v, rfl, own, hb⟩
  obtain ⟨va, vc, rfl, pin, _⟩ := own.form
  have S2 := hide (S0.below hb)
  have hl : (ci (stI N (critL N zs) (critL N zs).length)).length = 2 * N := by rw [ci_len]; exact HRB.out.1
  have HL := hide hl
  clear own S0 hb hl c0 c1
  go_wp2_with fail
  rw [HL.out]
  refine (closure_any (2 * N) _ _ _ _ pin HRB.out (by omega)).mono ?_
  rintro e w3 ⟨v3, rfl, own3, hb3⟩
  have B3 := hide (bnext S2.out.2.2.2 hb3)
  obtain ⟨va3, vc3, rfl, pin3, _⟩ := own3.form
  rw [← HLD.out] at pin3
  obtain ⟨R, hR⟩ : ∃ R, R = ldR (N : Int) zs := ⟨_, rfl⟩
  have hlen : (ci (clK (2 * N) (2 * N) (stI N (critL N zs) (critL N zs).length))).length = 2 * N := by rw [ci_len, ← HLD.out]; exact HRC.out.1
  have hrl : R.length = 2 * N := by rw [hR]; exact HRC.out.1
  rw [← hR] at pin3
  obtain ⟨b, off, rfl, _, hc⟩ := pin3 (by rw [ci_len, hrl]; omega)
  have hr8 : ∀ i, R.getD i 0 < 256 := fun i => by
    rw [hR]
    have h1 := HRC.out.at i
    have h2 : 2 ^ (2 * N) ≤ 2 ^ 8 := Nat.pow_le_pow_right (by omega) (by omega)
    omega
  have HC : Hid (∀ i, i < 2 * N → w3.cell? ⟨b, off + i, none⟩ = some (.int .i64 (R.getD i 0 : Nat))) := fun i hi => by
    have h1 := hc i (by rw [ci_len, hrl]; exact hi)
    rw [ci_at (by rw [hrl]; exact hi)] at h1
    exact h1
  have HR8 := hide hr8
  have HRR := hide hR
  have HLEN := hide hlen
  have NO : Hid (∀ i k : Nat, i < 2 * N → k < 2 * N → i ≠ k → bitN (R.getD i 0) k = 0 → blkB (N : Int) zs = false) := fun i k hi hk hne hb => blk_no HV.out (by simpa using hi) (by simpa using hk) hne (by rw [← HRR.out]; exact hb)
  have YES : Hid ((∀ i, i < 2 * N → ∀ k, k < 2 * N → i ≠ k → bitN (R.getD i 0) k = 1) → blkB (N : Int) zs = true) := fun h => by
    rw [blkB_yes HV.out, allB_iff, ← HRR.out]
    simpa using h
  clear own3 hb3 pin3 pin hR hlen hrl hr8 hc
  go_wp2_with fail
  rw [HLEN.out]
  go_wp2_with fail
  go_loop [4] (fun i => ∃ ii : Nat, ii ≤ 2 * N ∧ i = .int .i64 ii ∧ Hid (∀ i', i' < ii → ∀ k, k < 2 * N → i' ≠ k → bitN (R.getD i' 0) k = 1)) (fun i => 2 * N - (intOf i).toNat)
  case atStart => exact ⟨0, Nat.zero_le _, rfl, fun i' h => by omega⟩
  case round =>
    obtain ⟨ii, hii, rfl, hall⟩ := hrel
    by_cases hlt : ii < 2 * N
    · go_wp2_with fail
      go_loop [5] (fun i => ∃ kk : Nat, kk ≤ 2 * N ∧ i = .int .i64 kk ∧ Hid (∀ k, k < kk → ii ≠ k → bitN (R.getD ii 0) k = 1)) (fun i => 2 * N - (intOf i).toNat)
      case atStart => exact ⟨0, Nat.zero_le _, rfl, fun i' h => by omega⟩
      case round =>
        obtain ⟨kk, hkk, rfl, hk⟩ := hrel
        by_cases hkt : kk < 2 * N
        · have x1 := HC.out ii hlt
          have l1 := HR8.out ii
          have NO' : Hid (ii ≠ kk → bitN (R.getD ii 0) kk = 0 → blkB (N : Int) zs = false) := NO.out ii kk hlt hkt
          obtain ⟨bv, hbv⟩ : ∃ bv, bitN (R.getD ii 0) kk = bv := ⟨_, rfl⟩
          have l2 := bitN_le (R.getD ii 0) kk
          rw [hbv] at l2 NO'
          have HNX : Hid (bv = 1 → ∀ k, k < kk + 1 → ii ≠ k → bitN (R.getD ii 0) k = 1) := fun e k hk1 hne => by
            rcases Nat.lt_or_ge k kk with h | h
            · exact hk.out k h hne
            · obtain rfl : k = kk := by omega
              rw [hbv, e]
          have HNS : Hid (ii = kk → ∀ k, k < kk + 1 → ii ≠ k → bitN (R.getD ii 0) k = 1) := fun e k hk1 hne => hk.out k (by omega) hne
          obtain ⟨ri, hri⟩ : ∃ ri, R.getD ii 0 = ri := ⟨_, rfl⟩
          rw [hri] at hbv x1 l1
          have HBV := hide hbv
          clear hbv hri hk
          by_cases hik : ii = kk
          · have hne : ((ii : Int) != (kk : Int)) = false := by rw [hik]; simp
            have HIK := hide hik
            clear hik
            go_wp2_with fail
            go_round
            case rel => exact ⟨kk + 1, by omega, by go_num, HNS.out HIK.out⟩
            case measure => simp only [intOf]; omega
          · have hne : ((ii : Int) != (kk : Int)) = true := by simp; omega
            have HIK := hide hik
            clear hik
            rcases (show bv = 0 ∨ bv = 1 from by omega) with rfl | rfl
            · go_wp2_with (go_at_call 79; refine (bit8_was ri kk 0 _ (by omega) (by omega) HBV.out).mono ?_; rintro e w' ⟨rfl, rfl⟩)
              go_ret
              exact ⟨ret_bool (NO'.out HIK.out trivial).symm, B3.out⟩
            · go_wp2_with (go_at_call 79; refine (bit8_was ri kk 1 _ (by omega) (by omega) HBV.out).mono ?_; rintro e w' ⟨rfl, rfl⟩)
              go_round
              case rel => exact ⟨kk + 1, by omega, by go_num, HNX.out trivial⟩
              case measure => simp only [intOf]; omega
        · obtain rfl : kk = 2 * N := by omega
          go_wp2_with fail
          go_round
          case rel => exact ⟨ii + 1, by omega, by go_num, fun i' h k hk1 hne => by
            rcases Nat.lt_or_ge i' ii with h1 | h1
            · exact hall.out i' h1 k hk1 hne
            · obtain rfl : i' = ii := by omega
              exact hk.out k hk1 hne⟩
          case measure => simp only [intOf]; omega
    · obtain rfl : ii = 2 * N := by omega
      go_wp2_with fail
      go_ret
      exact ⟨ret_bool (YES.out hall.out).symm, B3.out⟩

set_option maxHeartbeats 2000000 in
theorem specIsBlocked_any (n : Int) (a : Option Addr) (cap : Nat) (zs : List Int) (w : World) (hi : Ints w a zs) (hn : zs.length ≤ 1048576) :
    Calls Try.prog 29 #[.agg #[.int .i64 n, .slice a zs.length cap]] w fun e w' => e = .returned (.bool (blkB n zs)) ∧ Below w.heap.size w w' := by
  have S0 := SV.new w n a zs cap none [] 26 hi (Ints.nil _ _)
  clear hi
  obtain ⟨⟨_, c0, c1⟩, _⟩ := S0.pair
  by_cases hv : vsB n zs = false
  · have HV := hide (blkB_no hv)
    have HVV := hide hv
    go_enter Try.func29, Try.ntmps29
    go_wp2_with fail
    refine (validSpace_any _ _ _ _ _ S0.2.1 hn).mono ?_
    rintro e w1 ⟨rfl, hb⟩
    go_wp2
    go_ret
    exact ⟨ret_bool HV.out.symm, (S0.below hb).2.2.2⟩
  · have hv : vsB n zs = true := by simpa using hv
    have hN4 := (valid_of hv).1
    obtain ⟨N, hN⟩ : ∃ N : Nat, n = (N : Int) := ⟨n.toNat, by omega⟩
    subst hN
    have HV := hide hv
    have hN : 1 ≤ N ∧ N ≤ 4 := by omega
    clear hN4
    go_enter Try.func29, Try.ntmps29
    go_wp2_with fail
    refine (validSpace_any _ _ _ _ _ S0.2.1 hn).mono ?_
    rintro e w1 ⟨rfl, hb⟩
    have S1 := S0.below hb
    clear S0 hb c0 c1
    obtain ⟨⟨_, c0, c1⟩, _⟩ := S1.pair
    go_wp2_with fail
    refine (blocked_any N _ _ _ _ S1.2.1 hn HV.out hN).mono ?_
    rintro e w2 ⟨rfl, hb⟩
    go_wp2
    go_ret
    exact ⟨rfl, bnext S1.2.2.2 hb⟩
end Go.Proofs.Ytbnnblfgpdfmpaa

/- PBlk: The law of IsBlocked answers true at every code: its walk. -/
namespace Go.Proofs.Ytbnnblfgpdfmpaa
open Go.RowKit Go.Joins

theorem implBlk_was (n : Int) (a : Option Addr) (cap : Nat) (zs : List Int) (r : Bool) (w : World) (hi : Ints w a zs) (hn : zs.length ≤ 1048576) (h : blkB n zs = r) :
    Calls Try.prog 28 #[.agg #[.int .i64 n, .slice a zs.length cap]] w fun e w' => e = .returned (.bool r) ∧ Below w.heap.size w w' := by
  subst h
  exact implIsBlocked_any n a cap zs w hi hn
theorem specBlk_was (n : Int) (a : Option Addr) (cap : Nat) (zs : List Int) (r : Bool) (w : World) (hi : Ints w a zs) (hn : zs.length ≤ 1048576) (h : blkB n zs = r) :
    Calls Try.prog 29 #[.agg #[.int .i64 n, .slice a zs.length cap]] w fun e w' => e = .returned (.bool r) ∧ Below w.heap.size w w' := by
  subst h
  exact specIsBlocked_any n a cap zs w hi hn
theorem flipB_was (n j : Int) (a : Option Addr) (cap : Nat) (zs : List Int) (N : Int) (L : List Int) (B : Bool) (w : World) (hi : Ints w a zs) (hn : zs.length ≤ 1048576) (h1 : fpN n zs j = N) (h2 : fpL n zs j = L) (h3 : hiB n zs j = B) :
    Calls Try.prog 14 #[.agg #[.int .i64 n, .slice a zs.length cap], .int .i64 j] w (GivesX N L B w) := by
  subst h1 h2 h3
  exact implFlipIssue_any n j a cap zs w hi hn
theorem flip_blk {N k : Nat} {zs : List Int} (hV : Valid (N : Int) zs) (hk : k < N) : hiB (N : Int) zs (k : Int) = true ∧ fpN (N : Int) zs (k : Int) = N ∧ blkB (N : Int) (fpL (N : Int) zs (k : Int)) = blkB (N : Int) zs ∧ (fpL (N : Int) zs (k : Int)).length = zs.length := by
  have h : hiB (N : Int) zs (k : Int) = true := hiB_iff.2 ⟨vsB_true hV, by omega, by omega⟩
  have e : fpL (N : Int) zs (k : Int) = unq (zs.map (flipI k)) := by
    unfold fpL
    rw [if_pos h, Int.toNat_natCast]
  exact ⟨h, if_pos h, by rw [e, fl_blk hV hk], by rw [e, fl_len hV hk]⟩
set_option maxHeartbeats 8000000 in
set_option maxRecDepth 100000 in
theorem walk_FnIsBlocked (a : Option Addr) (zs : List Nat) (cap : Nat) (w : World) (hi : Byts w a zs) (hl : zs.length ≤ maxLen) (hc : zs.length ≤ cap) :
    Calls Try.prog 7 #[.slice a zs.length cap] w fun e w' => e = .returned (.bool true) ∧ Below w.heap.size w w' := by
  by_cases h : 1048576 < zs.length
  · unfold maxLen at hl
    go_enter Try.func7, Try.ntmps7
    go_wp2
    go_ret
    exact ⟨rfl, Below.refl _ _⟩
  · have hl' : zs.length ≤ 1048576 := by omega
    clear h hl
    go_enter Try.func7, Try.ntmps7
    go_wp2_with fail
    refine (drawIsBlocked_any _ _ _ _ hi hl' hc).mono ?_
    rintro e w1 ⟨m, av, ss, cv, rfl, iv, hsl, hcv, hb⟩
    have S0 := SV.new w1 m av ss cv none [] 26 iv (Ints.nil _ _)
    have HB := hide hb
    have hn : ss.length ≤ 1048576 := by omega
    have HCV := hide hcv
    clear hb hi iv hl' hcv hsl
    obtain ⟨⟨_, c0, c1⟩, _⟩ := S0.pair
    obtain ⟨r, hr⟩ : ∃ r, blkB m ss = r := ⟨_, rfl⟩
    have HR := hide hr
    have hne : (r != r) = false := by simp
    have heq : (r == r) = true := by simp
    clear hr
    go_wp2_with fail
    refine (implBlk_was _ _ _ _ r _ S0.2.1 hn HR.out).mono ?_
    rintro e w2 ⟨rfl, b2⟩
    have S2 := S0.below b2
    clear c0 c1 S0 b2
    obtain ⟨⟨_, c0, c1⟩, _⟩ := S2.pair
    go_wp2_with fail
    refine (specBlk_was _ _ _ _ r _ S2.2.1 hn HR.out).mono ?_
    rintro e w3 ⟨rfl, b3⟩
    have S3 := S2.below b3
    clear c0 c1 S2 b3
    obtain ⟨⟨_, c0, c1⟩, _⟩ := S3.pair
    by_cases hv : vsB m ss = false
    · have HV := hide hv
      clear hv
      go_wp2_with fail
      refine (implVSf_was _ _ _ _ false _ S3.2.1 hn HV.out).mono ?_
      rintro e w4 ⟨rfl, b4⟩
      have S4 := S3.below b4
      clear c0 c1 S3 b4
      obtain ⟨⟨_, c0, c1⟩, _⟩ := S4.pair
      go_wp2_with fail
      refine (specBlk_was _ _ _ _ r _ S4.2.1 hn HR.out).mono ?_
      rintro e w5 ⟨rfl, b5⟩
      go_wp2
      go_ret
      exact ⟨rfl, bnext HB.out (S4.below b5).2.2.2⟩
    · have hv : vsB m ss = true := by simpa using hv
      have HV := hide hv
      have hV := valid_of hv
      have hN4 := hV.1
      obtain ⟨N, rfl⟩ : ∃ N : Nat, m = (N : Int) := ⟨m.toNat, by omega⟩
      have HF : Hid (∀ k, k < N → hiB (N : Int) ss (k : Int) = true ∧ fpN (N : Int) ss (k : Int) = N ∧ blkB (N : Int) (fpL (N : Int) ss (k : Int)) = r ∧ (fpL (N : Int) ss (k : Int)).length = ss.length) := fun k hk => by
        have h := flip_blk hV hk
        rw [HR.out] at h
        exact h
      have HM : Hid (r = true → closedB med (N : Int) ss = false) := fun e => blk_med hV (by rw [HR.out, e])
      clear hv hV
      go_wp2_with fail
      refine (implVSf_was _ _ _ _ true _ S3.2.1 hn HV.out).mono ?_
      rintro e w4 ⟨rfl, b4⟩
      have HS4 := hide (S3.below b4)
      clear c0 c1 S3 b4
      go_wp2_with fail
      go_loopw [5] (fun i wq => ∃ k : Nat, k ≤ N ∧ i = .int .i64 k ∧ SV w1 (N : Int) av ss cv none [] wq) (fun i _ => N - (intOf i).toNat)
      case atStart => exact ⟨0, Nat.zero_le _, rfl, HS4.out⟩
      case round =>
        obtain ⟨k, hk, rfl, SR⟩ := hrel
        have HSR := hide SR
        obtain ⟨⟨_, c0, c1⟩, _⟩ := SR.pair
        clear HS4
        by_cases hlt : k < N
        · obtain ⟨f1, f2, f3, f4⟩ := HF.out k hlt
          obtain ⟨L, hL⟩ : ∃ L, fpL (N : Int) ss (k : Int) = L := ⟨_, rfl⟩
          rw [hL] at f3 f4
          have H1 := hide f1
          have H2 := hide f2
          have H3 := hide f3
          have HL := hide hL
          have hLl : L.length ≤ 1048576 := by omega
          clear f1 f2 f3 f4 hL
          go_wp2_with fail
          refine (flipB_was _ _ _ _ _ (N : Int) L true _ SR.2.1 hn H2.out HL.out H1.out).mono ?_
          rintro e w5 ⟨vo, rfl, oo, b5⟩
          obtain ⟨oa, oc, rfl, io, _⟩ := oo.form
          have bo := bel1 w5 (.cells #[.int .i64 (N : Int), .slice oa L.length oc] 26)
          have S5 := hide ((HSR.out.below b5).below bo)
          have bx := Box.new w5 (N : Int) oa L.length oc 26
          have io5 := io.below bo
          obtain ⟨g2, hg2⟩ : ∃ g2, g2 = w5.heap.size := ⟨_, rfl⟩
          rw [← hg2] at bx
          clear c0 c1 SR b5 oo io bo
          go_upto_region 11 with fail
          rw [← hg2]
          obtain ⟨W, hW⟩ : ∃ W : World, W = w5.alloc (.cells #[.int .i64 (N : Int), .slice oa L.length oc] 26) := ⟨_, rfl⟩
          rw [← hW] at S5 io5 bx ⊢
          clear hW hg2
          obtain ⟨_, d0, d1⟩ := bx
          go_wp2_with fail
          refine (implBlk_was _ _ _ _ r _ io5 hLl H3.out).mono ?_
          rintro e w6 ⟨rfl, b6⟩
          have S6 := hide (S5.out.below b6)
          clear d0 d1 io5 b6
          go_wp2_with fail
          go_roundw
          case rel => exact ⟨k + 1, by omega, by go_num, S6.out⟩
          case measure => simp only [intOf]; omega
        · obtain rfl : k = N := by omega
          cases r with
          | false =>
            go_wp2
            go_ret
            exact ⟨rfl, bnext HB.out HSR.out.2.2.2⟩
          | true =>
            have HCL := hide (HM.out (by simp))
            go_wp2_with fail
            refine (implMed_was _ _ _ _ _ false HSR.out.2.1 hn HCV.out HCL.out).mono ?_
            rintro e w7 ⟨rfl, b7⟩
            go_wp2
            go_ret
            exact ⟨rfl, bnext HB.out (HSR.out.below b7).2.2.2⟩
end Go.Proofs.Ytbnnblfgpdfmpaa
