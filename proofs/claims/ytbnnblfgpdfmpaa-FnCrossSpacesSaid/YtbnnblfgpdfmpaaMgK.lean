/- Texts of this seat one behind the other: BkM, LdT, BkF, LdC, LdI, BkI, Cross, CrossI, CrossT, CrsM, DrawCC, PCross. Conditions: none. -/
import Derived.Test.YtbnnblfgpdfmpaaLdM
import Derived.Test.YtbnnblfgpdfmpaaMgI
import Derived.Test.YtbnnblfgpdfmpaaLdB
import Derived.Test.YtbnnblfgpdfmpaaSV
import Derived.Test.YtbnnblfgpdfmpaaBits
import Derived.Test.YtbnnblfgpdfmpaaListLaw
import Derived.Test.YtbnnblfgpdfmpaaHas
import Derived.Test.YtbnnblfgpdfmpaaSp
import Derived.Test.YtbnnblfgpdfmpaaDrawM
import Derived.Test.YtbnnblfgpdfmpaaMgH
import Derived.BigQuiet
import Derived.Deep.RegionWith
import Derived.Handy
import Derived.Laws.ResultCell
import Derived.Outline
import Derived.Deep.RegionHeld3
import Derived.Deep.AppendLies
import Derived.Deep.DeepCutAuto

/- BkM: Blocked spaces: plain mathematics. -/
namespace Go.Proofs.Ytbnnblfgpdfmpaa
open Go.RowKit Go.Joins

/-- rows of K bits -/
def RC (K : Nat) (r : List Nat) : Prop := r.length = K ∧ ∀ x ∈ r, x < 2 ^ K
theorem RC.at {K : Nat} {r : List Nat} (h : RC K r) (k : Nat) : r.getD k 0 < 2 ^ K := by
  by_cases hk : k < r.length
  · rw [List.getD_eq_getElem?_getD, List.getElem?_eq_getElem hk]
    exact h.2 _ (List.getElem_mem hk)
  · rw [List.getD_eq_getElem?_getD, List.getElem?_eq_none (by omega)]
    exact Nat.two_pow_pos K
theorem RC.set {K : Nat} {r : List Nat} (h : RC K r) {f y : Nat} (hy : y < 2 ^ K) : RC K (r.set f y) := by
  refine ⟨by rw [List.length_set]; exact h.1, fun x hx => ?_⟩
  rcases List.mem_or_eq_of_mem_set hx with h1 | h1
  · exact h.2 x h1
  · rw [h1]; exact hy
theorem RC.upd {K : Nat} {r : List Nat} (h : RC K r) {f t : Nat} (ht : t < K) : RC K (upd r f t) := h.set (Nat.or_lt_two_pow (h.at f) (Nat.pow_lt_pow_right (by omega) ht))
theorem rc_stK {N : Nat} {m : Nat × Nat} {j kk : Nat} (hk : kk ≤ N) {r : List Nat} (h : RC (2 * N) r) : RC (2 * N) (stK m j kk r) :=
  foldl_inv (RC (2 * N)) _ _ (fun r k hkm hr => by
    split
    · exact hr.upd (opp_lt m (N := N) (k := k) (by have := List.mem_range.1 hkm; omega))
    · exact hr) h
theorem rc_stJ {N : Nat} {m : Nat × Nat} {jj : Nat} {r : List Nat} (h : RC (2 * N) r) : RC (2 * N) (stJ N m jj r) :=
  foldl_inv (RC (2 * N)) _ _ (fun _ _ _ hr => rc_stK (Nat.le_refl _) hr) h
theorem rc_stI (N : Nat) (L : List (Nat × Nat)) (ii : Nat) : RC (2 * N) (stI N L ii) :=
  foldl_inv (RC (2 * N)) _ _ (fun _ _ _ hr => rc_stJ hr) ⟨by simp, fun x hx => by rw [List.eq_of_mem_replicate hx]; exact Nat.two_pow_pos _⟩
theorem rc_clS {K : Nat} {r : List Nat} (h : RC K r) (k i : Nat) : RC K (clS r k i) := by
  unfold clS
  split
  · exact h.set (Nat.or_lt_two_pow (h.at i) (h.at k))
  · exact h
theorem rc_clI {K : Nat} {r : List Nat} (h : RC K r) (k ii : Nat) : RC K (clI k ii r) := foldl_inv (RC K) _ _ (fun _ _ _ hr => rc_clS hr _ _) h
theorem rc_clK {K : Nat} {r : List Nat} (h : RC K r) (kk : Nat) : RC K (clK K kk r) := foldl_inv (RC K) _ _ (fun _ _ _ hr => rc_clI hr _ _) h
/-- all lead to all -/
def allB (K : Nat) (r : List Nat) : Bool := (List.range K).all fun i => (List.range K).all fun k => i == k || bitN (r.getD i 0) k == 1
theorem allB_iff (K : Nat) (r : List Nat) : allB K r = true ↔ ∀ i, i < K → ∀ k, k < K → i ≠ k → bitN (r.getD i 0) k = 1 := by
  unfold allB
  simp only [List.all_eq_true, List.mem_range, Bool.or_eq_true, beq_iff_eq]
  constructor
  · intro h i hi k hk hne
    rcases h i hi k hk with e | e
    · exact absurd e hne
    · exact e
  · intro h i hi k hk
    by_cases e : i = k
    · exact Or.inl e
    · exact Or.inr (h i hi k hk e)
theorem bitN_testBit (a k : Nat) : bitN a k = 1 ↔ a.testBit k = true := by
  unfold bitN
  rw [Nat.testBit_eq_decide_div_mod_eq]
  simp
theorem full_iff {K a i : Nat} (ha : a < 2 ^ K) (hi : i < K) : a ||| 2 ^ i = 2 ^ K - 1 ↔ ∀ k, k < K → i ≠ k → bitN a k = 1 := by
  constructor
  · intro h k hk hne
    rw [bitN_testBit]
    have h1 := congrArg (fun x => x.testBit k) h
    simp only [Nat.testBit_or, Nat.testBit_two_pow, Nat.testBit_two_pow_sub_one] at h1
    rw [decide_eq_false hne, decide_eq_true hk, Bool.or_false] at h1
    exact h1
  · intro h
    refine Nat.eq_of_testBit_eq fun k => ?_
    rw [Nat.testBit_or, Nat.testBit_two_pow, Nat.testBit_two_pow_sub_one]
    by_cases hk : k < K
    · rw [decide_eq_true hk]
      by_cases hne : i = k
      · rw [decide_eq_true hne, Bool.or_true]
      · rw [(bitN_testBit a k).1 (h k hk hne), Bool.true_or]
    · rw [decide_eq_false hk, decide_eq_false (by omega), Bool.or_false]
      exact Nat.testBit_lt_two_pow (Nat.lt_of_lt_of_le ha (Nat.pow_le_pow_right (by omega) (by omega)))
/-- what IsBlocked answers -/
def blkB (n : Int) (zs : List Int) : Bool := vsB n zs && allB (2 * n.toNat) (ldR n zs)
theorem blkB_no {n : Int} {zs : List Int} (h : vsB n zs = false) : blkB n zs = false := by unfold blkB; rw [h]; rfl
theorem blkB_yes {n : Int} {zs : List Int} (h : vsB n zs = true) : blkB n zs = allB (2 * n.toNat) (ldR n zs) := by unfold blkB; rw [h]; rfl
theorem blk_no {n : Int} {zs : List Int} (h : vsB n zs = true) {i k : Nat} (hi : i < 2 * n.toNat) (hk : k < 2 * n.toNat) (hne : i ≠ k) (hb : bitN ((ldR n zs).getD i 0) k = 0) : blkB n zs = false := by
  rw [blkB_yes h]
  cases ha : allB (2 * n.toNat) (ldR n zs) with
  | false => rfl
  | true =>
    have := (allB_iff _ _).1 ha i hi k hk hne
    rw [hb] at this
    cases this
theorem ldR_rc {N : Nat} {zs : List Int} (h : vsB (N : Int) zs = true) : RC (2 * N) (ldR (N : Int) zs) := by
  rw [ldR_yes h]
  exact rc_clK (rc_stI N _ _) _
end Go.Proofs.Ytbnnblfgpdfmpaa

/- LdT: Following leads: the result is closed, and as symmetric as what it began with. -/
namespace Go.Proofs.Ytbnnblfgpdfmpaa
open Go.RowKit Go.Joins

/-- a leads to b -/
def rel (r : List Nat) (a b : Nat) : Prop := (r.getD a 0).testBit b = true
theorem set_at {r : List Nat} {f y a : Nat} (hf : f < r.length) : (r.set f y).getD a 0 = if a = f then y else r.getD a 0 := by
  rw [List.getD_eq_getElem?_getD, List.getElem?_set]
  by_cases h : f = a
  · subst h
    simp [hf]
  · rw [if_neg h, if_neg (fun e => h e.symm), List.getD_eq_getElem?_getD]
theorem rel_upd {r : List Nat} {f t a b : Nat} (hf : f < r.length) : rel (upd r f t) a b ↔ rel r a b ∨ (a = f ∧ b = t) := by
  unfold rel upd
  rw [set_at hf]
  by_cases h : a = f
  · subst h
    rw [if_pos rfl, Nat.testBit_or, Nat.testBit_two_pow, Bool.or_eq_true, decide_eq_true_eq]
    constructor
    · rintro (h | h)
      · exact Or.inl h
      · exact Or.inr ⟨rfl, h.symm⟩
    · rintro (h | h)
      · exact Or.inl h
      · exact Or.inr h.2.symm
  · rw [if_neg h]
    constructor
    · exact Or.inl
    · rintro (h1 | h1)
      · exact h1
      · exact absurd h1.1 h
theorem foldl_rel {X : Type} {K : Nat} {f : List Nat → X → List Nat} {P : X → Nat → Nat → Prop} : ∀ (l : List X) (r : List Nat), r.length = K →
    (∀ r x, x ∈ l → r.length = K → (f r x).length = K ∧ ∀ a b, rel (f r x) a b ↔ rel r a b ∨ P x a b) →
    (l.foldl f r).length = K ∧ ∀ a b, rel (l.foldl f r) a b ↔ rel r a b ∨ ∃ x ∈ l, P x a b
  | [], r, hr, _ => ⟨hr, fun a b => by simp⟩
  | x :: l, r, hr, h => by
    obtain ⟨h1, h2⟩ := h r x (by simp) hr
    obtain ⟨h3, h4⟩ := foldl_rel l (f r x) h1 (fun r y hy => h r y (by simp [hy]))
    refine ⟨h3, fun a b => ?_⟩
    rw [List.foldl_cons, h4, h2]
    constructor
    · rintro ((h5 | h5) | ⟨y, hy, h5⟩)
      · exact Or.inl h5
      · exact Or.inr ⟨x, by simp, h5⟩
      · exact Or.inr ⟨y, by simp [hy], h5⟩
    · rintro (h5 | ⟨y, hy, h5⟩)
      · exact Or.inl (Or.inl h5)
      · rcases List.mem_cons.1 hy with e | e
        · subst e
          exact Or.inl (Or.inr h5)
        · exact Or.inr ⟨y, e, h5⟩
theorem stK_rel {N : Nat} {m : Nat × Nat} {j : Nat} (hj : j < N) {r : List Nat} (hr : r.length = 2 * N) : (stK m j N r).length = 2 * N ∧ ∀ a b, rel (stK m j N r) a b ↔ rel r a b ∨ ∃ k ∈ List.range N, condK m j k = true ∧ a = plc m j ∧ b = opp m k :=
  foldl_rel (P := fun k a b => condK m j k = true ∧ a = plc m j ∧ b = opp m k) (List.range N) r hr fun r k _ hl => by
    have hf : plc m j < r.length := by rw [hl]; exact plc_lt m hj
    by_cases hc : condK m j k = true
    · rw [if_pos hc]
      refine ⟨by unfold upd; rw [List.length_set]; exact hl, fun a b => ?_⟩
      rw [rel_upd hf]
      constructor
      · rintro (h | h)
        · exact Or.inl h
        · exact Or.inr ⟨hc, h⟩
      · rintro (h | h)
        · exact Or.inl h
        · exact Or.inr h.2
    · rw [if_neg hc]
      refine ⟨hl, fun a b => ⟨Or.inl, ?_⟩⟩
      rintro (h | h)
      · exact h
      · exact absurd h.1 hc
theorem stJ_rel {N : Nat} {m : Nat × Nat} {r : List Nat} (hr : r.length = 2 * N) : (stJ N m N r).length = 2 * N ∧ ∀ a b, rel (stJ N m N r) a b ↔ rel r a b ∨ ∃ j ∈ List.range N, ∃ k ∈ List.range N, condK m j k = true ∧ a = plc m j ∧ b = opp m k :=
  foldl_rel (P := fun j a b => ∃ k ∈ List.range N, condK m j k = true ∧ a = plc m j ∧ b = opp m k) (List.range N) r hr fun _ _ hj hl => stK_rel (List.mem_range.1 hj) hl
theorem stI_rel (N : Nat) (L : List (Nat × Nat)) (a b : Nat) : rel (stI N L L.length) a b ↔ ∃ m ∈ L, ∃ j ∈ List.range N, ∃ k ∈ List.range N, condK m j k = true ∧ a = plc m j ∧ b = opp m k := by
  have h := (foldl_rel (P := fun m a b => ∃ j ∈ List.range N, ∃ k ∈ List.range N, condK m j k = true ∧ a = plc m j ∧ b = opp m k) L (List.replicate (2 * N) 0) (by simp) fun r m _ hl => stJ_rel hl).2 a b
  unfold stI
  rw [List.take_length, h]
  constructor
  · rintro (h1 | h1)
    · unfold rel at h1
      rw [List.getD_eq_getElem?_getD, List.getElem?_replicate] at h1
      split at h1 <;> simp at h1
    · exact h1
  · exact Or.inr
theorem plc_fin : ∀ k : Fin 4, ∀ b : Fin 2, (2 * k.val + 1 - b.val) ^^^ 1 = 2 * k.val + b.val := by decide +kernel
theorem opp_back (m : Nat × Nat) {k : Nat} (hk : k < 4) : opp m k ^^^ 1 = plc m k := by
  have hb := bitN_le m.2 k
  exact plc_fin ⟨k, hk⟩ ⟨bitN m.2 k, by omega⟩
theorem stI_sym {N : Nat} (hN : N ≤ 4) (L : List (Nat × Nat)) {a b : Nat} (h : rel (stI N L L.length) a b) : rel (stI N L L.length) (b ^^^ 1) (a ^^^ 1) := by
  rw [stI_rel] at h ⊢
  obtain ⟨m, hm, j, hj, k, hk, hc, rfl, rfl⟩ := h
  have h1 : condK m k j = true := by
    unfold condK at hc ⊢
    simp only [Bool.and_eq_true, bne_iff_ne, beq_iff_eq] at hc ⊢
    exact ⟨fun e => hc.1 e.symm, hc.2.2, hc.2.1⟩
  have j4 := List.mem_range.1 hj
  have k4 := List.mem_range.1 hk
  exact ⟨m, hm, k, hk, j, hj, h1, opp_back m (by omega), plc_opp m (by omega)⟩
/-- paths -/
inductive Pth (R : Nat → Nat → Prop) : Nat → Nat → Prop
  | one {a b : Nat} : R a b → Pth R a b
  | more {a b c : Nat} : Pth R a b → R b c → Pth R a c
theorem Pth.trans {R : Nat → Nat → Prop} {a b c : Nat} (h1 : Pth R a b) (h2 : Pth R b c) : Pth R a c := by
  induction h2 with
  | one h => exact .more h1 h
  | more _ h ih => exact .more ih h
theorem Pth.least {R T : Nat → Nat → Prop} (h1 : ∀ a b, R a b → T a b) (h2 : ∀ a b c, T a b → T b c → T a c) {a b : Nat} (h : Pth R a b) : T a b := by
  induction h with
  | one h => exact h1 _ _ h
  | more _ h ih => exact h2 _ _ _ ih (h1 _ _ h)
theorem Pth.turn {R : Nat → Nat → Prop} (h1 : ∀ a b, R a b → R (b ^^^ 1) (a ^^^ 1)) {a b : Nat} (h : Pth R a b) : Pth R (b ^^^ 1) (a ^^^ 1) := by
  induction h with
  | one h => exact .one (h1 _ _ h)
  | more _ h ih => exact Pth.trans (.one (h1 _ _ h)) ih
/-- one round of following -/
theorem clS_len (r : List Nat) (k i : Nat) : (clS r k i).length = r.length := by
  unfold clS
  split
  · rw [List.length_set]
  · rfl
theorem clI_len (k ii : Nat) (r : List Nat) : (clI k ii r).length = r.length := foldl_inv (fun x => x.length = r.length) _ _ (fun b a _ hb => (clS_len b k a).trans hb) rfl
theorem clK_len (K kk : Nat) (r : List Nat) : (clK K kk r).length = r.length := foldl_inv (fun x => x.length = r.length) _ _ (fun b a _ hb => (clI_len a K b).trans hb) rfl
theorem clI_row {k : Nat} {r : List Nat} : ∀ (ii : Nat), ii ≤ r.length → ∀ a, (clI k ii r).getD a 0 = if a < ii ∧ bitN (r.getD a 0) k = 1 then r.getD a 0 ||| r.getD k 0 else r.getD a 0
  | 0, _, a => by rw [if_neg (by omega)]; rfl
  | ii + 1, h, a => by
    have ih := clI_row (k := k) (r := r) ii (by omega)
    have hk : (clI k ii r).getD k 0 = r.getD k 0 := by
      rw [ih k]
      split
      · exact Nat.or_self _
      · rfl
    have hi : (clI k ii r).getD ii 0 = r.getD ii 0 := by
      rw [ih ii, if_neg (fun h => Nat.lt_irrefl _ h.1)]
    rw [clI_succ]
    unfold clS
    rw [hi, hk]
    by_cases hb : bitN (r.getD ii 0) k = 1
    · rw [if_pos hb, set_at (show ii < (clI k ii r).length by rw [clI_len]; omega)]
      by_cases ha : a = ii
      · subst ha
        rw [if_pos rfl, if_pos ⟨by omega, hb⟩]
      · rw [if_neg ha, ih a]
        by_cases h2 : a < ii ∧ bitN (r.getD a 0) k = 1
        · rw [if_pos h2, if_pos ⟨by omega, h2.2⟩]
        · rw [if_neg h2, if_neg (fun h3 => h2 ⟨by omega, h3.2⟩)]
    · rw [if_neg hb, ih a]
      by_cases h2 : a < ii ∧ bitN (r.getD a 0) k = 1
      · rw [if_pos h2, if_pos ⟨by omega, h2.2⟩]
      · rw [if_neg h2, if_neg (fun h3 => h2 ⟨by
          rcases Nat.lt_or_ge a ii with h4 | h4
          · exact h4
          · obtain rfl : a = ii := by omega
            exact absurd h3.2 hb, h3.2⟩)]
theorem clI_rel {K k : Nat} {r : List Nat} (hr : r.length = K) {a b : Nat} (ha : a < K) : rel (clI k K r) a b ↔ rel r a b ∨ (rel r a k ∧ rel r k b) := by
  unfold rel
  rw [clI_row K (by omega) a]
  by_cases hb : bitN (r.getD a 0) k = 1
  · rw [if_pos ⟨ha, hb⟩, Nat.testBit_or, Bool.or_eq_true]
    have h1 := (bitN_testBit _ _).1 hb
    constructor
    · rintro (h | h)
      · exact Or.inl h
      · exact Or.inr ⟨h1, h⟩
    · rintro (h | h)
      · exact Or.inl h
      · exact Or.inr h.2
  · rw [if_neg (fun h => hb h.2)]
    constructor
    · exact Or.inl
    · rintro (h | h)
      · exact h
      · exact absurd ((bitN_testBit _ _).2 h.1) hb
theorem rel_lt {K : Nat} {r : List Nat} (hr : r.length = K) {a b : Nat} (h : rel r a b) : a < K := by
  rcases Nat.lt_or_ge a K with h1 | h1
  · exact h1
  · unfold rel at h
    rw [List.getD_eq_getElem?_getD, List.getElem?_eq_none (by omega)] at h
    simp at h
theorem clK_rel {K : Nat} {r : List Nat} (hr : r.length = K) : ∀ kk, kk ≤ K → (∀ a b, rel r a b → rel (clK K kk r) a b) ∧ (∀ a b, rel (clK K kk r) a b → Pth (rel r) a b) ∧
    ∀ c, c < kk → ∀ a b, rel (clK K kk r) a c → rel (clK K kk r) c b → rel (clK K kk r) a b
  | 0, _ => ⟨fun a b h => h, fun a b h => .one h, fun c h => by omega⟩
  | k + 1, hk => by
    obtain ⟨h1, h2, h3⟩ := clK_rel hr k (by omega)
    rw [clK_succ]
    have hl : (clK K k r).length = K := (clK_len K k r).trans hr
    have hl' : (clI k K (clK K k r)).length = K := (clI_len k K _).trans hl
    generalize clK K k r = q at h1 h2 h3 hl hl'
    refine ⟨fun a b h => (clI_rel hl (rel_lt hl (h1 a b h))).2 (Or.inl (h1 a b h)), fun a b h => ?_, fun c hc a b hac hcb => ?_⟩
    · rcases (clI_rel hl (rel_lt hl' h)).1 h with h4 | ⟨h4, h5⟩
      · exact h2 a b h4
      · exact (h2 _ _ h4).trans (h2 _ _ h5)
    · have ha := rel_lt hl' hac
      have hcK := rel_lt hl' hcb
      have e1 := (clI_rel hl ha).1 hac
      have e2 := (clI_rel hl hcK).1 hcb
      refine (clI_rel hl ha).2 ?_
      rcases Nat.lt_or_ge c k with hck | hck
      · rcases e1 with e1 | ⟨e1, e1'⟩
        · rcases e2 with e2 | ⟨e2, e2'⟩
          · exact Or.inl (h3 c hck a b e1 e2)
          · exact Or.inr ⟨h3 c hck a k e1 e2, e2'⟩
        · rcases e2 with e2 | ⟨e2, e2'⟩
          · exact Or.inr ⟨e1, h3 c hck k b e1' e2⟩
          · exact Or.inr ⟨e1, e2'⟩
      · obtain rfl : c = k := by omega
        have f1 : rel q a c := e1.elim id And.left
        have f2 : rel q c b := e2.elim id And.right
        exact Or.inr ⟨f1, f2⟩
/-- what is led to, is led to from the other side -/
theorem ldR_sym {N : Nat} {zs : List Int} (h : vsB (N : Int) zs = true) {a b : Nat} (hr : rel (ldR (N : Int) zs) a b) : rel (ldR (N : Int) zs) (b ^^^ 1) (a ^^^ 1) := by
  have hN : N ≤ 4 := by have := (valid_of h).1; omega
  rw [ldR_yes h] at hr ⊢
  have hl : (stI N (critL N zs) (critL N zs).length).length = 2 * N := (rc_stI N _ _).1
  obtain ⟨h1, h2, h3⟩ := clK_rel hl (2 * N) (Nat.le_refl _)
  have hp := (h2 a b hr).turn (fun a b h => stI_sym hN _ h)
  have hl' : (clK (2 * N) (2 * N) (stI N (critL N zs) (critL N zs).length)).length = 2 * N := (clK_len _ _ _).trans hl
  exact hp.least h1 (fun x y z hxy hyz => h3 y (rel_lt hl' hyz) x z hxy hyz)
theorem rel_bit {r : List Nat} {a b : Nat} : rel r a b ↔ bitN (r.getD a 0) b = 1 := (bitN_testBit _ _).symm
theorem flip_fin : ∀ k : Fin 8, (k.val ^^^ 1) ^^^ 1 = k.val := by decide +kernel
theorem flip_lt : ∀ N : Fin 5, ∀ k : Fin 8, k.val < 2 * N.val → k.val ^^^ 1 < 2 * N.val := by decide +kernel
theorem ldR_bits {N : Nat} {zs : List Int} (h : vsB (N : Int) zs = true) {a b : Nat} (ha : a < 2 * N) (hb : b < 2 * N) : bitN ((ldR (N : Int) zs).getD a 0) b = bitN ((ldR (N : Int) zs).getD (b ^^^ 1) 0) (a ^^^ 1) := by
  have hN : N ≤ 4 := by have := (valid_of h).1; omega
  have h1 := bitN_le ((ldR (N : Int) zs).getD a 0) b
  have h2 := bitN_le ((ldR (N : Int) zs).getD (b ^^^ 1) 0) (a ^^^ 1)
  have ea := flip_fin ⟨a, by omega⟩
  have eb := flip_fin ⟨b, by omega⟩
  have key : bitN ((ldR (N : Int) zs).getD a 0) b = 1 ↔ bitN ((ldR (N : Int) zs).getD (b ^^^ 1) 0) (a ^^^ 1) = 1 := by
    rw [← rel_bit, ← rel_bit]
    constructor
    · exact ldR_sym h
    · intro h3
      have h4 := ldR_sym h h3
      simp only at ea eb
      rw [ea, eb] at h4
      exact h4
  omega
end Go.Proofs.Ytbnnblfgpdfmpaa

/- BkF: Blocked spaces: flipped ones, and median ones. Plain mathematics. -/
namespace Go.Proofs.Ytbnnblfgpdfmpaa
open Go.RowKit Go.Joins

/-- an answer leads to another one by a critical part -/
def LR (N : Nat) (zs : List Int) (a b : Nat) : Prop := ∃ m ∈ critL N zs, ∃ j ∈ List.range N, ∃ k ∈ List.range N, condK m j k = true ∧ a = plc m j ∧ b = opp m k
theorem Pth.map {R T : Nat → Nat → Prop} {s : Nat → Nat} (h : ∀ a b, R a b → T (s a) (s b)) {a b : Nat} (hp : Pth R a b) : Pth T (s a) (s b) := by
  induction hp with
  | one h1 => exact .one (h _ _ h1)
  | more _ h1 ih => exact .more ih (h _ _ h1)
section
variable {N : Nat} {zs : List Int}
theorem ldR_pth (hv : vsB (N : Int) zs = true) (a b : Nat) : rel (ldR (N : Int) zs) a b ↔ Pth (LR N zs) a b := by
  rw [ldR_yes hv]
  have hl : (stI N (critL N zs) (critL N zs).length).length = 2 * N := (rc_stI N _ _).1
  obtain ⟨h1, h2, h3⟩ := clK_rel hl (2 * N) (Nat.le_refl _)
  have hl' : (clK (2 * N) (2 * N) (stI N (critL N zs) (critL N zs).length)).length = 2 * N := (clK_len _ _ _).trans hl
  have hR : ∀ a b, rel (stI N (critL N zs) (critL N zs).length) a b ↔ LR N zs a b := fun a b => stI_rel N (critL N zs) a b
  constructor
  · intro h
    have hp := h2 a b h
    exact hp.map (s := fun x => x) fun a b h => (hR a b).1 h
  · intro h
    exact h.least (fun a b h => h1 a b ((hR a b).2 h)) (fun x y z hxy hyz => h3 y (rel_lt hl' hyz) x z hxy hyz)
theorem blk_pth (hv : vsB (N : Int) zs = true) : blkB (N : Int) zs = true ↔ ∀ i, i < 2 * N → ∀ k, k < 2 * N → i ≠ k → Pth (LR N zs) i k := by
  rw [blkB_yes hv, Int.toNat_natCast, allB_iff]
  constructor
  · intro h i hi k hk hne
    rw [← ldR_pth hv, rel_bit]
    exact h i hi k hk hne
  · intro h i hi k hk hne
    rw [← rel_bit, ldR_pth hv]
    exact h i hi k hk hne
/-! ### flipped -/
/-- the place of an answer when the issue j is flipped -/
def sg (j a : Nat) : Nat := if a / 2 = j then a ^^^ 1 else a
theorem sg_fin : ∀ N : Fin 5, ∀ j : Fin 4, ∀ a : Fin 8, sg j.val (sg j.val a.val) = a.val ∧ (a.val < 2 * N.val → sg j.val a.val < 2 * N.val) := by decide +kernel
set_option maxRecDepth 100000 in
theorem sg_chk : ((List.range 4).all fun j => (List.range 4).all fun i => (List.range 16).all fun c => bitN c i == 0 || (List.range 16).all fun b => plc (flP2 j (c, b)) i == sg j (plc (c, b) i) && opp (flP2 j (c, b)) i == sg j (opp (c, b) i)) = true := by decide +kernel
theorem sg_plc {j i : Nat} (hj : j < 4) (hi : i < 4) {m : Nat × Nat} (h1 : m.1 < 16) (h2 : m.2 < 16) (hb : bitN m.1 i = 1) : plc (flP2 j m) i = sg j (plc m i) ∧ opp (flP2 j m) i = sg j (opp m i) := by
  have h := List.all_eq_true.1 (List.all_eq_true.1 (List.all_eq_true.1 sg_chk j (List.mem_range.2 hj)) i (List.mem_range.2 hi)) m.1 (List.mem_range.2 h1)
  rw [hb, show ((1 : Nat) == 0) = false from rfl, Bool.false_or] at h
  have h' := List.all_eq_true.1 h m.2 (List.mem_range.2 h2)
  rw [Bool.and_eq_true, beq_iff_eq, beq_iff_eq] at h'
  exact h'
theorem fl_crit {j : Nat} (hV : Valid (N : Int) zs) (hj : j < N) {m : Nat × Nat} (hm : m ∈ critL N zs) : flP2 j m ∈ critL N (unq (zs.map (flipI j))) := by
  have hN := hV.1
  obtain ⟨h1, h2⟩ := crit_mem.1 hm
  refine crit_mem.2 ⟨(fl_perm (by omega) hj).mem_iff.1 (List.mem_map_of_mem h1), ?_⟩
  rw [fl_cr hV hj h1]
  exact h2
theorem fl_LR {j : Nat} (hV : Valid (N : Int) zs) (hj : j < N) {a b : Nat} (h : LR N zs a b) : LR N (unq (zs.map (flipI j))) (sg j a) (sg j b) := by
  have hN := hV.1
  obtain ⟨m, hm, i, hi, k, hk, hc, rfl, rfl⟩ := h
  have h4 := crit_pt hV hm
  have hi4 := List.mem_range.1 hi
  have hk4 := List.mem_range.1 hk
  have hc' := hc
  unfold condK at hc'
  simp only [Bool.and_eq_true, bne_iff_ne, beq_iff_eq] at hc'
  refine ⟨flP2 j m, fl_crit hV hj hm, i, hi, k, hk, ?_, ?_, ?_⟩
  · unfold condK at hc ⊢
    exact hc
  · exact (sg_plc (by omega) (by omega) h4.2.2.2.1 h4.2.2.2.2 hc'.2.1).1.symm
  · exact (sg_plc (by omega) (by omega) h4.2.2.2.1 h4.2.2.2.2 hc'.2.2).2.symm
theorem fl_blk1 {j : Nat} (hV : Valid (N : Int) zs) (hj : j < N) (h : blkB (N : Int) zs = true) : blkB (N : Int) (unq (zs.map (flipI j))) = true := by
  have hN := hV.1
  rw [blk_pth (vsB_true hV)] at h
  rw [blk_pth (vsB_true (fl_valid hV hj))]
  intro i hi k hk hne
  obtain ⟨e1, l1⟩ := sg_fin ⟨N, by omega⟩ ⟨j, by omega⟩ ⟨i, by omega⟩
  obtain ⟨e2, l2⟩ := sg_fin ⟨N, by omega⟩ ⟨j, by omega⟩ ⟨k, by omega⟩
  simp only at e1 l1 e2 l2
  have hp := h _ (l1 hi) _ (l2 hk) (fun e => hne (by rw [← e1, ← e2, e]))
  have hq := hp.map (s := sg j) fun a b => fl_LR hV hj
  rwa [e1, e2] at hq
theorem fl_blk {j : Nat} (hV : Valid (N : Int) zs) (hj : j < N) : blkB (N : Int) (unq (zs.map (flipI j))) = blkB (N : Int) zs := by
  rw [Bool.eq_iff_iff]
  constructor
  · intro h
    have := fl_blk1 (fl_valid hV hj) hj h
    rwa [fl_back hV hj] at this
  · exact fl_blk1 hV hj
/-! ### median -/
set_option maxRecDepth 100000 in
theorem two_chk : ((List.range 16).all fun c => (List.range 4).all fun j => (List.range 4).all fun k => !(j != k && (bitN c j == 1 && bitN c k == 1) && decide (wt c ≤ 2)) || (List.range 16).all fun b => !(b &&& c == b) || (List.range 16).all fun x => !(bitN x j == bitN b j && bitN x k == bitN b k) || x &&& c == b) = true := by decide +kernel
theorem two_at {c j k b x : Nat} (hc : c < 16) (hj : j < 4) (hk : k < 4) (hne : j ≠ k) (h1 : bitN c j = 1) (h2 : bitN c k = 1) (hw : wt c ≤ 2) (hb : b &&& c = b) (hx : x < 16) (e1 : bitN x j = bitN b j) (e2 : bitN x k = bitN b k) : x &&& c = b := by
  have hb16 : b < 16 := by
    have : b &&& c ≤ c := Nat.and_le_right
    omega
  have h := List.all_eq_true.1 (List.all_eq_true.1 (List.all_eq_true.1 two_chk c (List.mem_range.2 hc)) j (List.mem_range.2 hj)) k (List.mem_range.2 hk)
  rw [show (j != k && (bitN c j == 1 && bitN c k == 1) && decide (wt c ≤ 2)) = true from by simp [hne, h1, h2, hw], Bool.not_true, Bool.false_or] at h
  have h' := List.all_eq_true.1 h b (List.mem_range.2 hb16)
  rw [show (b &&& c == b) = true from by simpa using hb, Bool.not_true, Bool.false_or] at h'
  have h'' := List.all_eq_true.1 h' x (List.mem_range.2 hx)
  rw [show (bitN x j == bitN b j && bitN x k == bitN b k) = true from by simp [e1, e2], Bool.not_true, Bool.false_or, beq_iff_eq] at h''
  exact h''
/-- a judgment gives the answer of a place -/
def hasP (x a : Nat) : Prop := bitN x (a / 2) = a % 2
theorem led {x : Nat} (hV : Valid (N : Int) zs) (hx : (x : Int) ∈ zs) (hm : closedB med (N : Int) zs = true) {a b : Nat} (h : LR N zs a b) (ha : hasP x a) : hasP x b := by
  have hN := hV.1
  obtain ⟨m, hmc, j, hj, k, hk, hc, rfl, rfl⟩ := h
  rw [median_small hV, List.all_eq_true] at hm
  have hw := of_decide_eq_true (hm m hmc)
  have h4 := crit_pt hV hmc
  have hf := ord_facts (show N ≤ 4 by omega) (crit_mem.1 hmc).1
  have hj4 := List.mem_range.1 hj
  have hk4 := List.mem_range.1 hk
  unfold condK at hc
  simp only [Bool.and_eq_true, bne_iff_ne, beq_iff_eq] at hc
  have b1 := bitN_le m.2 j
  have b2 := bitN_le m.2 k
  have b3 := bitN_le x k
  have ha' : bitN x j = bitN m.2 j := by
    unfold hasP plc at ha
    rw [show (2 * j + bitN m.2 j) / 2 = j from by omega] at ha
    omega
  have hne : bitN x k ≠ bitN m.2 k := fun e => by
    have hx16 : x < 16 := in_16 hV hx
    have h5 := two_at h4.2.2.2.1 (by omega) (by omega) hc.1 hc.2.1 hc.2.2 hw hf.2.1 hx16 ha' e
    have h6 : opn zs m = true := opn_iff.2 ⟨_, hx, by rw [Int.toNat_natCast]; exact h5⟩
    rw [(cr_iff.1 (crit_mem.1 hmc).2).1] at h6
    cases h6
  unfold hasP opp
  rw [show (2 * k + 1 - bitN m.2 k) / 2 = k from by omega]
  omega
theorem blk_med (hV : Valid (N : Int) zs) (h : blkB (N : Int) zs = true) : closedB med (N : Int) zs = false := by
  cases hm : closedB med (N : Int) zs with
  | false => rfl
  | true =>
    exfalso
    have h1 := hV.1
    have h0 := hV.2.1
    have hz := valid_lt hV (List.getElem_mem h0)
    obtain ⟨x, hx⟩ : ∃ x : Nat, x = (zs[0]).toNat := ⟨_, rfl⟩
    have hxz : (x : Int) ∈ zs := by
      rw [hx, Int.toNat_of_nonneg hz.1]
      exact List.getElem_mem h0
    have hb := bitN_le x 0
    have hp := (blk_pth (vsB_true hV)).1 h (bitN x 0) (by omega) (1 - bitN x 0) (by omega) (by omega)
    have key : ∀ a b, Pth (LR N zs) a b → hasP x a → hasP x b := fun a b hp => by
      induction hp with
      | one h1 => exact led hV hxz hm h1
      | more _ h1 ih => exact fun ha => led hV hxz hm h1 (ih ha)
    have h2 : hasP x (bitN x 0) := by
      unfold hasP
      rw [show bitN x 0 / 2 = 0 from by omega]
      omega
    have h3 := key _ _ hp h2
    unfold hasP at h3
    rw [show (1 - bitN x 0) / 2 = 0 from by omega] at h3
    omega
end
end Go.Proofs.Ytbnnblfgpdfmpaa

/- LdC: Leads: following them, in both programs; the places of a part's answers. -/
namespace Go.Proofs.Ytbnnblfgpdfmpaa
open Go.RowKit Go.Joins

/-- a list of leads in a block of its own, all else as in w2 -/
def LDg (w2 : World) (base g c K : Nat) (r : List Nat) (wr : World) : Prop :=
  wr.ownsRow base 3 1 (.slice (some ⟨g, 0, none⟩) K c) K ((ci r).map (Value.int .i64)) ∧ w2.grownBy wr (some g) ∧ RB K r
theorem LDg.store {w2 wr : World} {base g c K f y : Nat} {r : List Nat} (h : LDg w2 base g c K r wr) (hy : y < 256) : LDg w2 base g c K (r.set f y) (wr.setCell ⟨g, f, none⟩ (.int .i64 (y : Int))) := by
  refine ⟨?_, gtrans h.2.1 (h.1.stored f _).2, h.2.2.set hy⟩
  rw [ci_set, List.map_set]
  exact (h.1.stored f _).1
theorem LDg.drew {w2 wr : World} {base g c K : Nat} {r : List Nat} (h : LDg w2 base g c K r wr) : LDg w2 base g c K r wr.drew := ⟨h.1, ⟨h.2.1.os, h.2.1.tape, h.2.1.output, h.2.1.size, h.2.1.block⟩, h.2.2⟩
theorem LDg.at {w2 wr : World} {base g c K f : Nat} {r : List Nat} (h : LDg w2 base g c K r wr) (hf : f < K) : wr.cell? ⟨g, f, none⟩ = some (.int .i64 (r.getD f 0 : Nat)) ∧ wr.frozen? ⟨g, f, none⟩ = false := by
  have h1 := h.1.cellAt f (by omega)
  have hl : f < r.length := by rw [h.2.2.1]; exact hf
  have e : ((ci r).map (Value.int .i64))[f]? = some (.int .i64 (r.getD f 0 : Nat)) := by
    unfold ci
    rw [List.map_map, List.getElem?_map, List.getElem?_eq_getElem hl, List.getD_eq_getElem?_getD, List.getElem?_eq_getElem hl]
    rfl
  rw [e] at h1
  exact ⟨h1, h.1.frozenAt f⟩
theorem LDg.keep {w2 wr : World} {base g c K : Nat} {r : List Nat} (h : LDg w2 base g c K r wr) {a : Addr} {v : Value} (hc : w2.cell? a = some v) (hne : a.block ≠ g) : wr.cell? a = some v :=
  (gcell h.2.1 (a := a) (World.block_lt_of_cell? _ _ hc) (by simpa using hne)).trans hc
theorem LDg.below {w2 wr wx : World} {base g c K : Nat} {r : List Nat} (h : LDg w2 base g c K r wr) (hb : Below wr.heap.size wr wx) : LDg w2 base g c K r wx := by
  have hk : ∀ v, wr.ownsRow base 3 1 v K ((ci r).map (Value.int .i64)) → wx.ownsRow base 3 1 v K ((ci r).map (Value.int .i64)) := fun v h => World.ownsRow.kept (row := none) h ⟨hb.os, hb.tape, hb.output, hb.size, fun k hk _ => hb.block k hk⟩ (by rcases v.ownBlock with _ | g <;> simp)
  exact ⟨hk _ h.1, gtrans h.2.1 ((grown_of hb).but _), h.2.2⟩
theorem LDg.anchor {w2 wr : World} {base g c K : Nat} {r : List Nat} (h : LDg w2 base g c K r wr) : LDg wr base g c K r wr := ⟨h.1, World.grownBy.refl _ _, h.2.2⟩
theorem LDg.to {w2 wr : World} {base g c K : Nat} {r r' : List Nat} (h : LDg w2 base g c K r wr) (e : r' = r) : LDg w2 base g c K r' wr := by
  subst e
  exact h
theorem clS_yes {r : List Nat} {k i : Nat} (h : bitN (r.getD i 0) k = 1) : clS r k i = r.set i (r.getD i 0 ||| r.getD k 0) := by unfold clS; rw [if_pos h]
theorem clS_no {r : List Nat} {k i : Nat} (h : bitN (r.getD i 0) k = 0) : clS r k i = r := by unfold clS; rw [if_neg (by rw [h]; decide)]
theorem ints_cells {w : World} {b off : Nat} {zs : List Int} (h : ∀ k, k < zs.length → w.cell? ⟨b, off + k, none⟩ = some (.int .i64 (zs.getD k 0))) : ∀ (j : Nat) (u : Value), (zs.map (Value.int .i64))[j]? = some u → w.cell? ((⟨b, off, none⟩ : Addr).add j) = some u := fun j u hu => by
  rw [List.getElem?_map] at hu
  rcases hz : zs[j]? with _ | z
  · rw [hz] at hu
    simp at hu
  · rw [hz] at hu
    have hj : j < zs.length := by
      rcases Nat.lt_or_ge j zs.length with h1 | h1
      · exact h1
      · rw [List.getElem?_eq_none h1] at hz
        cases hz
    have h1 := h j hj
    rw [List.getD_eq_getElem?_getD, hz] at h1
    cases hu
    rw [Addr.add_lit]
    exact h1

set_option maxHeartbeats 4000000 in
set_option maxRecDepth 100000 in
theorem closure_any (K : Nat) (a : Option Addr) (cap : Nat) (r : List Nat) (w : World) (hi : Ints w a (ci r)) (hr : RB K r) (hK : 1 ≤ K ∧ K ≤ 8) :
    Calls Try.prog 77 #[.slice a K cap] w (Gives (ci (clK K K r)) w) := by
  obtain ⟨i0, hi0, hz0, hz1, hz2⟩ := info_parts info_int
  have hlen : (ci r).length = K := by rw [ci_len]; exact hr.1
  obtain ⟨b, off, rfl, hlt, hc⟩ := hi (by omega)
  have HC := hide (ints_cells hc)
  have HLEN := hide hlen
  have HR := hide hr
  have HB := hide hlt
  clear hi hc hlen hr
  go_enter Try.func77, Try.ntmps77
  go_wp2_with ((at_builtin; refine wpList_append_own _ rfl _ _ 22 rfl w.heap.size 3 i0 (.int .i64 0) 1 8 Try.underlying22 hi0 hz0 hz1 hz2 rfl (by decide) _ 0 [] rfl (World.ownsRow_lit w #[] 0 (Nat.le_refl _) (by simp) rfl) ⟨b, off, none⟩ K cap ((ci r).map (Value.int .i64)) rfl ?d1 ?c1 ?c2 ?c3 ?c4 ?c5 ?_))
  case d1 => rw [List.length_map, HLEN.out]; omega
  case c1 => exact fun j u hu => ((bel1 w (.cells #[] 3)).cell (p := (⟨b, off, none⟩ : Addr).add j) (by rw [Addr.add_lit]; exact HB.out)).trans (HC.out j u hu)
  case c2 => intro u hu; rcases List.mem_map.1 hu with ⟨z, _, rfl⟩; rfl
  case c3 => unfold maxLen; omega
  case c4 => omega
  case c5 => simp
  intro v w1 hown hgrow _
  try rw [Nat.zero_add] at hown
  try rw [List.nil_append] at hown
  obtain ⟨g, c, rfl, hgb, hgl⟩ := World.ownsRow.form hown (by omega)
  have D1 := hide (show LDg w1 w.heap.size g c K r w1 from ⟨hown, World.grownBy.refl _ _, HR.out⟩)
  have B1 := hide (((bel1 w (.cells #[] 3))).grown hgrow (by simp) (fun k hk => by cases hk; exact Nat.le_refl _))
  clear hown hgrow hlt hgl
  go_wp2_with fail
  go_loopw [4] (fun i wr => ∃ kk : Nat, kk ≤ K ∧ i = .int .i64 kk ∧ LDg w1 w.heap.size g c K (clK K kk r) wr) (fun i _ => K - (intOf i).toNat)
  case atStart => exact ⟨0, Nat.zero_le _, rfl, D1.out⟩
  case round =>
    clear D1
    obtain ⟨k, hk, rfl, hd⟩ := hrel
    by_cases hkt : k < K
    · have HS := hide (clK_succ K k r)
      obtain ⟨r0, hr0⟩ : ∃ r0, r0 = clK K k r := ⟨_, rfl⟩
      rw [← hr0] at hd HS
      have HD := hide hd
      clear hr0 hd
      go_wp2_with fail
      go_loopw [5] (fun i wr => ∃ ii : Nat, ii ≤ K ∧ i = .int .i64 ii ∧ LDg w1 w.heap.size g c K (clI k ii r0) wr) (fun i _ => K - (intOf i).toNat)
      case atStart => exact ⟨0, Nat.zero_le _, rfl, HD.out⟩
      case round =>
        clear HD
        obtain ⟨i, hi, rfl, hd⟩ := hrel
        by_cases hit : i < K
        · have HY := hide (clI_succ k i r0)
          obtain ⟨u, hu⟩ : ∃ u, u = clI k i r0 := ⟨_, rfl⟩
          rw [← hu] at hd HY
          obtain ⟨x1, x2⟩ := hd.at hit
          obtain ⟨y1, _⟩ := hd.at hkt
          have l1 := hd.2.2.at i
          have l2 := hd.2.2.at k
          have HD := hide hd
          clear hd hu
          obtain ⟨bv, hbv⟩ : ∃ bv, bitN (u.getD i 0) k = bv := ⟨_, rfl⟩
          have lbv := bitN_le (u.getD i 0) k
          have HBV := hide hbv
          rw [hbv] at lbv
          clear hbv
          obtain ⟨ui, hui⟩ : ∃ ui, u.getD i 0 = ui := ⟨_, rfl⟩
          obtain ⟨uk, huk⟩ : ∃ uk, u.getD k 0 = uk := ⟨_, rfl⟩
          have HUI := hide hui
          have HUK := hide huk
          rw [hui] at x1 l1 HBV
          rw [huk] at y1 l2
          clear hui huk
          have hor := orL ui uk (by omega) (by omega)
          rcases (show bv = 0 ∨ bv = 1 from by omega) with rfl | rfl
          · go_wp2_with (go_at_call 79; refine (bit8_was ui k 0 _ (by omega) (by omega) HBV.out).mono ?_; rintro e w' ⟨rfl, rfl⟩)
            go_roundw
            case rel => exact ⟨i + 1, by omega, by go_num, by rw [HY.out, clS_no (by rw [HUI.out]; exact HBV.out)]; exact HD.out⟩
            case measure => simp only [intOf]; omega
          · go_wp2_with (go_at_call 79; refine (bit8_was ui k 1 _ (by omega) (by omega) HBV.out).mono ?_; rintro e w' ⟨rfl, rfl⟩)
            go_region
            all_goals go_wp2
            all_goals
              go_roundw
              case rel => exact ⟨i + 1, by omega, by go_num, by rw [HY.out, clS_yes (by rw [HUI.out]; exact HBV.out), HUI.out, HUK.out]; exact (HD.out.drew).store (or_256 l1 l2)⟩
              case measure => simp only [intOf]; omega
        · obtain rfl : i = K := by omega
          go_wp2_with fail
          go_roundw
          case rel => exact ⟨k + 1, by omega, by go_num, by rw [HS.out]; exact hd⟩
          case measure => simp only [intOf]; omega
    · obtain rfl : k = K := by omega
      go_wp2_with fail
      go_ret
      refine ⟨_, rfl, ?_, ?_⟩
      · have h1 := hd.1
        have h2 := hd.2.2.1
        unfold Owns
        rw [ci_len]
        clear hd
        generalize (clK k k r) = z at h1 h2 ⊢
        rw [h2]
        exact h1
      · exact bgrown B1.out hd.2.1 B1.out.size (fun k hk => by cases hk; exact hgb)

set_option maxHeartbeats 4000000 in
set_option maxRecDepth 100000 in
theorem followLeads_any (K base g c : Nat) (r : List Nat) (w : World) (hg : LDg w base g c K r w) (hK : K ≤ 8) :
    Calls Try.prog 76 #[.slice (some ⟨g, 0, none⟩) K c] w fun e w' => e = .returned (.tuple #[]) ∧ LDg w base g c K (clK K K r) w' := by
  have D1 := hide hg
  clear hg
  go_enter Try.func76, Try.ntmps76
  go_wp2_with fail
  go_loopw [6] (fun i wr => ∃ kk : Nat, kk ≤ K ∧ i = .int .i64 kk ∧ LDg w base g c K (clK K kk r) wr) (fun i _ => K - (intOf i).toNat)
  case atStart => exact ⟨0, Nat.zero_le _, rfl, D1.out⟩
  case round =>
    clear D1
    obtain ⟨k, hk, rfl, hd⟩ := hrel
    by_cases hkt : k < K
    · have HS := hide (clK_succ K k r)
      obtain ⟨r0, hr0⟩ : ∃ r0, r0 = clK K k r := ⟨_, rfl⟩
      rw [← hr0] at hd HS
      have HD := hide hd
      clear hr0 hd
      go_wp2_with fail
      go_loopw [11] (fun i wr => ∃ ii : Nat, ii ≤ K ∧ i = .int .i64 ii ∧ LDg w base g c K (clI k ii r0) wr) (fun i _ => K - (intOf i).toNat)
      case atStart => exact ⟨0, Nat.zero_le _, rfl, HD.out⟩
      case round =>
        clear HD
        obtain ⟨i, hi, rfl, hd⟩ := hrel
        by_cases hit : i < K
        · have HY := hide (clI_succ k i r0)
          obtain ⟨u, hu⟩ : ∃ u, u = clI k i r0 := ⟨_, rfl⟩
          rw [← hu] at hd HY
          obtain ⟨x1, x2⟩ := hd.at hit
          obtain ⟨y1, _⟩ := hd.at hkt
          have l1 := hd.2.2.at i
          have l2 := hd.2.2.at k
          have HD := hide hd
          clear hd hu
          obtain ⟨bv, hbv⟩ : ∃ bv, bitN (u.getD i 0) k = bv := ⟨_, rfl⟩
          have lbv := bitN_le (u.getD i 0) k
          have HBV := hide hbv
          rw [hbv] at lbv
          obtain ⟨ui, hui⟩ : ∃ ui, u.getD i 0 = ui := ⟨_, rfl⟩
          obtain ⟨uk, huk⟩ : ∃ uk, u.getD k 0 = uk := ⟨_, rfl⟩
          have HUI := hide hui
          have HUK := hide huk
          rw [hui] at x1 l1 HBV hbv
          rw [huk] at y1 l2
          clear hui huk
          have hor := orL ui uk (by omega) (by omega)
          have hsh := shrL ui k (by omega)
          rw [hbv] at hsh
          clear hbv
          rcases (show bv = 0 ∨ bv = 1 from by omega) with rfl | rfl
          · go_wp2_with fail
            go_roundw
            case rel => exact ⟨i + 1, by omega, by go_num, by rw [HY.out, clS_no (by rw [HUI.out]; exact HBV.out)]; exact HD.out⟩
            case measure => simp only [intOf]; omega
          · go_wp2_with fail
            go_region
            all_goals go_wp2
            all_goals
              go_roundw
              case rel => exact ⟨i + 1, by omega, by go_num, by rw [HY.out, clS_yes (by rw [HUI.out]; exact HBV.out), HUI.out, HUK.out]; exact (HD.out.drew).store (or_256 l1 l2)⟩
              case measure => simp only [intOf]; omega
        · obtain rfl : i = K := by omega
          go_wp2_with fail
          go_roundw
          case rel => exact ⟨k + 1, by omega, by go_num, by rw [HS.out]; exact hd⟩
          case measure => simp only [intOf]; omega
    · obtain rfl : k = K := by omega
      go_wp2_with fail
      go_end0
      exact ⟨rfl, hd⟩

def PLk (k : Nat) (m : Nat × Nat) : List Nat := ((List.range k).filter fun j => bitN m.1 j == 1).map (plc m)
theorem PLk_yes {k : Nat} {m : Nat × Nat} (h : bitN m.1 k = 1) : ci (PLk (k + 1) m) = ci (PLk k m) ++ [((2 * k + bitN m.2 k : Nat) : Int)] := by
  unfold PLk ci
  rw [List.range_succ, List.filter_append, List.map_append, List.map_append]
  simp [h, plc]
theorem PLk_no {k : Nat} {m : Nat × Nat} (h : bitN m.1 k = 0) : PLk (k + 1) m = PLk k m := by
  unfold PLk
  rw [List.range_succ, List.filter_append, List.map_append]
  simp [h]
theorem PLk_len (k : Nat) (m : Nat × Nat) : (PLk k m).length ≤ k := by
  unfold PLk
  rw [List.length_map]
  exact Nat.le_trans (List.length_filter_le _ _) (by simp)
set_option maxHeartbeats 4000000 in
theorem placesOf_any (N mc mb : Nat) (w : World) (hN : N ≤ 4) (hc : mc < 16) (hb : mb < 16) :
    Calls Try.prog 74 #[.int .i64 (N : Int), .agg #[.int .i64 (mc : Int), .int .i64 (mb : Int)]] w (Gives (ci (PL N (mc, mb))) w) := by
  obtain ⟨i0, hi0, hz0, hz1, hz2⟩ := info_parts info_int
  have P0 := PBox.new w (mc : Int) (mb : Int) 60
  have B0 := hide (bel1 w (.cells #[.int .i64 (mc : Int), .int .i64 (mb : Int)] 60))
  have HP := hide P0
  clear P0
  go_enter Try.func74, Try.ntmps74
  go_wp2_with fail
  go_loopw [5, 8] (fun v i wr => ∃ k : Nat, k ≤ N ∧ i = .int .i64 k ∧ Owns wr (w.heap.size + 1) v (ci (PLk k (mc, mb))) ∧ Below w.heap.size w wr ∧ PBox wr w.heap.size mc mb) (fun _ i _ => N - (intOf i).toNat)
  case atStart => exact ⟨0, Nat.zero_le _, rfl, World.ownsRow_nil _ _ _ _, B0.out, HP.out⟩
  case round =>
    clear B0 HP
    obtain ⟨k, hk, rfl, hown, hbl, hpb⟩ := hrel
    have hpb' := hpb
    obtain ⟨_, q0, q1⟩ := hpb'
    have hsz := hbl.size
    have hsz1 := hpb.1
    have HBL := hide hbl
    have HPB := hide hpb
    have hlen := PLk_len k (mc, mb)
    rw [← ci_len] at hlen
    clear hbl hpb
    by_cases hkt : k < N
    · obtain ⟨ec, hec⟩ : ∃ ec, bitN mc k = ec := ⟨_, rfl⟩
      obtain ⟨eb, heb⟩ : ∃ eb, bitN mb k = eb := ⟨_, rfl⟩
      have l1 := bitN_le mc k
      have l2 := bitN_le mb k
      have s1 := shrL mc k (by omega)
      have s2 := shrL mb k (by omega)
      rw [hec] at l1 s1
      rw [heb] at l2 s2
      have HEC := hide hec
      have HEB := hide heb
      clear hec heb
      rcases (show ec = 0 ∨ ec = 1 from by omega) with rfl | rfl
      · go_wp2_with fail
        go_roundw
        case rel => exact ⟨k + 1, by omega, by go_num, by rw [PLk_no (show bitN (mc, mb).1 k = 0 from HEC.out)]; exact hown, HBL.out, HPB.out⟩
        case measure => simp only [intOf]; omega
      · have hown' : wr.ownsRow (w.heap.size + 1) 3 1 _ (ci (PLk k (mc, mb))).length ((ci (PLk k (mc, mb))).map (Value.int .i64)) := hown
        clear hown
        go_wp2_with ((at_builtin; refine wpList_append_own _ rfl _ _ 22 rfl (w.heap.size + 1) 3 i0 (.int .i64 0) 1 8 Try.underlying22 hi0 hz0 hz1 hz2 rfl (by decide) _ _ _ rfl (hown'.alloc _) ⟨wr.heap.size, 0, none⟩ 1 1 [.int .i64 (2 * (k : Int) + (eb : Int))] rfl rfl ?c1 ?c2 ?c3 ?c4 ?c5 ?_))
        case c1 => exact cell_one_new wr _ _
        case c2 => intro u hu; simp at hu; subst hu; rfl
        case c3 => unfold maxLen; omega
        case c4 => omega
        case c5 => simp; omega
        intro v' w2 hown2 hgrow _
        have hpush := hide (Owns.push hown2)
        have hge := fun j hj => (hown'.lt j hj).1
        have hbel : Below w.heap.size w w2 := (HBL.out.alloc HBL.out.size _).grown hgrow (by simp; omega) (fun j hj => by have := hge j hj; omega)
        have hpb2 : PBox w2 w.heap.size mc mb := (HPB.out.below (bel1 _ _)).grown hgrow (fun e => by have := hge _ e.symm; omega)
        clear hown2 hgrow hown'
        go_wp2_with fail
        go_roundw
        case rel => exact ⟨k + 1, by omega, by go_num, by rw [PLk_yes (show bitN (mc, mb).1 k = 1 from HEC.out), show ((2 * k + bitN (mc, mb).2 k : Nat) : Int) = 2 * (k : Int) + (eb : Int) from by rw [show bitN (mc, mb).2 k = eb from HEB.out]; omega]; exact hpush.out, hbel, hpb2⟩
        case measure => simp only [intOf]; omega
    · obtain rfl : k = N := by omega
      go_wp2_with fail
      go_ret
      exact ⟨_, rfl, hown.le (by omega), HBL.out⟩

theorem oppositePlace_was (p q : Nat) (w : World) (hp : p < 16) (h : p ^^^ 1 = q) : Calls Try.prog 75 #[.int .i64 (p : Int)] w fun e w' => e = .returned (.int .i64 (q : Int)) ∧ w = w' := by
  have h1 : bits .xor .i64 (p : Int) 1 = (q : Int) := by
    have h1 := xor_small p 1 (by omega) (by omega)
    rw [h] at h1
    exact h1
  have HX := hide h
  clear h
  go_enter Try.func75, Try.ntmps75
  go_wp2_with fail
  go_ret
  exact ⟨rfl, rfl⟩
end Go.Proofs.Ytbnnblfgpdfmpaa

/- LdI: Leads in the program. -/
namespace Go.Proofs.Ytbnnblfgpdfmpaa
open Go.RowKit Go.Joins

theorem shl_small (t : Nat) (ht : t < 8) : wrap64 ((2 : Int) ^ t) = ((2 ^ t : Nat) : Int) := by
  have h := pow_256 ht
  have e : ((2 : Int) ^ t) = ((2 ^ t : Nat) : Int) := by simp
  rw [e]
  generalize 2 ^ t = p at h
  unfold wrap64
  omega
theorem implVS_was (n : Int) (a : Option Addr) (cap : Nat) (zs : List Int) (r : Bool) (w : World) (hi : Ints w a zs) (hn : zs.length ≤ 1048576) (h : vsB n zs = r) :
    Calls Try.prog 26 #[.agg #[.int .i64 n, .slice a zs.length cap]] w fun e w' => e = .returned (.bool r) ∧ Below w.heap.size w w' := by
  subst h
  exact implValidSpace_any n a cap zs w hi hn
theorem specVS_was (n : Int) (a : Option Addr) (cap : Nat) (zs : List Int) (r : Bool) (w : World) (hi : Ints w a zs) (hn : zs.length ≤ 1048576) (h : vsB n zs = r) :
    Calls Try.prog 37 #[.agg #[.int .i64 n, .slice a zs.length cap]] w fun e w' => e = .returned (.bool r) ∧ Below w.heap.size w w' := by
  subst h
  exact validSpace_any n a cap zs w hi hn
theorem PL_lt {N : Nat} {m : Nat × Nat} {i : Nat} (hi : i < (PL N m).length) : (PL N m)[i] < 2 * N := by
  have key : ∀ x ∈ PL N m, x < 2 * N := fun x h => by
    unfold PL at h
    obtain ⟨j, hj, e⟩ := List.mem_map.1 h
    have := List.mem_range.1 (List.mem_filter.1 hj).1
    have h2 := plc_lt m this
    omega
  exact key _ (List.getElem_mem hi)
theorem natD_lt {l : List Nat} {k : Nat} (h : k < l.length) : l.getD k 0 = l[k] := by simp [List.getD_eq_getElem?_getD, h]
theorem PL_len (N : Nat) (m : Nat × Nat) : (PL N m).length ≤ N := PLk_len N m
theorem LDs.g {w2 wr : World} {B0 K : Nat} {r : List Nat} (h : LDs w2 B0 K r wr) : LDg w2 B0 B0 K K r wr := h
theorem LDg.join {w1 w2 wr : World} {base g c K : Nat} {r r' : List Nat} (h : LDg w1 base g c K r w2) (h' : LDg w2 base g c K r' wr) : LDg w1 base g c K r' wr := ⟨h'.1, gtrans h.2.1 h'.2.1, h'.2.2⟩

set_option maxHeartbeats 8000000 in
set_option maxRecDepth 100000 in
theorem implLeadsOf_any (n : Int) (a : Option Addr) (cap : Nat) (zs : List Int) (w : World) (hi : Ints w a zs) (hn : zs.length ≤ 1048576) :
    Calls Try.prog 61 #[.agg #[.int .i64 n, .slice a zs.length cap]] w (Gives (ci (ldR n zs)) w) := by
  obtain ⟨i0, hi0, hz0, hz1, hz2⟩ := info_parts info_int
  have S0 := SV.new w n a zs cap none [] 26 hi (Ints.nil _ _)
  clear hi
  obtain ⟨⟨_, c0, c1⟩, _⟩ := S0.pair
  by_cases hv : vsB n zs = false
  · have HV := hide (show ci (ldR n zs) = [] from by rw [ldR_no hv]; rfl)
    have HVV := hide hv
    clear hv
    go_enter Try.func61, Try.ntmps61
    go_wp2_with fail
    refine (implVS_was _ _ _ _ _ _ S0.2.1 hn HVV.out).mono ?_
    rintro e w1 ⟨rfl, hb⟩
    go_wp2
    go_ret
    exact gives_nil HV.out (S0.below hb).2.2.2
  · have hv : vsB n zs = true := by simpa using hv
    have hV := valid_of hv
    have HR := hide (valid_range hV)
    have hN4 := hV.1
    obtain ⟨N, hN⟩ : ∃ N : Nat, n = (N : Int) := ⟨n.toNat, by omega⟩
    subst hN
    have HV := hide (ldR_yes hv)
    have HCR := hide (crR_yes hv)
    have HVV := hide hv
    have hN : 1 ≤ N ∧ N ≤ 4 := by omega
    clear hV hN4 hv
    go_enter Try.func61, Try.ntmps61
    go_wp2_with fail
    refine (implVS_was _ _ _ _ _ _ S0.2.1 hn HVV.out).mono ?_
    rintro e w1 ⟨rfl, hb⟩
    have S1 := S0.below hb
    clear S0 hb c0 c1
    obtain ⟨⟨_, c0, c1⟩, _⟩ := S1.pair
    go_wp2_with (at_make; refine wpList_make_full _ rfl _ _ 22 rfl w1.heap.size 3 i0 (.int .i64 0) 1 Try.underlying22 hi0 hz0 hz1 _ _ _ _ (2 * N) rfl rfl (by first | omega | (simp; omega)) (by first | omega | (simp; omega)) ?b2 ?b3 (by simp) ?_)
    case b2 => rw [hz2]; omega
    case b3 => unfold maxLen; omega
    intro w0 hown0 hgrow0
    rw [madeInts] at hown0
    have S2 := S1.below ((Below.refl _ _).grown hgrow0 (Nat.le_refl _) (fun k h => by cases h))
    have hw1 : w.heap.size < w1.heap.size := S1.1.1
    have HS1 := hide S1
    clear c0 c1 S1 hgrow0
    obtain ⟨⟨_, c0, c1⟩, _⟩ := S2.pair
    go_wp2_with fail
    refine (implCriticalParts_any _ _ _ _ _ S2.2.1 hn).mono ?_
    rintro e w3 ⟨v, rfl, own, hb3⟩
    obtain ⟨L, hL⟩ : ∃ L, L = critL N zs := ⟨_, rfl⟩
    have e1 : crR (N : Int) zs = ofP L := by rw [HCR.out, Int.toNat_natCast, hL]
    rw [e1] at own
    have hl81 : L.length ≤ 81 := by
      rw [hL]
      have h1 : (ordL N).length ≤ 81 := by simpa using range5_of ord_len hN.2
      exact Nat.le_trans (List.length_filter_le _ _) h1
    have H16 : Hid (∀ p ∈ L, p.1 < 16 ∧ p.2 < 16) := fun p hp => by
      rw [hL] at hp
      exact ord_16 hN.2 (List.mem_filter.1 hp).1
    have HLL := hide (ofP_len L)
    have HL := hide hL
    obtain ⟨va, vc, hve, pin⟩ := own.form
    rw [HLL.out] at hve
    subst hve
    have hB0 : w1.heap.size < w0.heap.size := (hown0.lt w1.heap.size rfl).2
    have HNE := hide (ownsP_ne own (g := w1.heap.size) (by omega))
    have PIN := hide pin
    have D0 := hide ((LDs.start hown0 hb3).g)
    have S3 := hide (S2.below hb3)
    have hw3 : w1.heap.size < w3.heap.size := Nat.lt_of_lt_of_le hB0 hb3.size
    obtain ⟨⟨_, d0, _⟩, _⟩ := S3.out.pair
    have DN := hide d0
    clear c0 c1 S2 own hown0 hb3 pin d0 hB0 hL e1
    go_wp2_with fail
    go_loopw [21] (fun i wr => ∃ ii : Nat, ii ≤ L.length ∧ i = .int .i64 ii ∧ LDg w3 w1.heap.size w1.heap.size (2 * N) (2 * N) (stI N L ii) wr) (fun i _ => L.length - (intOf i).toNat)
    case atStart => exact ⟨0, Nat.zero_le _, rfl, D0.out⟩
    case round =>
      clear D0
      obtain ⟨ii, hii, rfl, hc⟩ := hrel
      by_cases hlt : ii < L.length
      · obtain ⟨pc, hpc⟩ : ∃ pc, pc = L[ii].1 := ⟨_, rfl⟩
        obtain ⟨pb, hpb⟩ : ∃ pb, pb = L[ii].2 := ⟨_, rfl⟩
        have hm : L[ii] = (pc, pb) := by rw [hpc, hpb]
        have h16 := H16.out L[ii] (List.getElem_mem hlt)
        rw [hm] at h16
        have HS := hide (show stI N L (ii + 1) = stJ N (pc, pb) N (stI N L ii) from by rw [← hm]; exact stI_succ hlt)
        obtain ⟨r0, hr0⟩ : ∃ r0, r0 = stI N L ii := ⟨_, rfl⟩
        rw [← hr0] at hc HS
        obtain ⟨b1, o1, rfl, hb1, hc1⟩ := PIN.out (by rw [HLL.out]; omega)
        obtain ⟨x1, x2⟩ := hc1 ii (by rw [HLL.out]; omega)
        have hnb : b1 ≠ w1.heap.size := HNE.out b1 o1 none rfl
        rw [ofP_at hlt, hm] at x1 x2
        have z1 := hc.keep x1 (by simpa using hnb)
        have z2 := hc.keep x2 (by simpa using hnb)
        have hc5 := hc.below (bel1 wr (.cells #[.int .i64 (pc : Int), .int .i64 (pb : Int)] 60))
        obtain ⟨_, p0, p1⟩ := PBox.new wr (pc : Int) (pb : Int) 60
        have qn := hc5.keep DN.out (by simp; omega)
        have HC5 := hide hc5
        have hsz : w1.heap.size < wr.heap.size := Nat.lt_of_lt_of_le hw3 hc.2.1.size
        have H16m := hide h16
        clear x1 x2 hc1 hnb hb1 hm h16 hr0 hc hc5 hpc hpb
        go_wp2_with fail
        refine (placesOf_any N pc pb _ hN.2 H16m.out.1 H16m.out.2).mono ?_
        rintro e w6 ⟨v6, rfl, own6, b6⟩
        have HC6 := hide ((HC5.out.below b6).anchor)
        have HJ6 := hide (HC5.out.below b6)
        obtain ⟨P, hP⟩ : ∃ P, P = PL N (pc, pb) := ⟨_, rfl⟩
        have HPR := hide (show prU P P.length r0 = stJ N (pc, pb) N r0 from by rw [hP]; exact pr_eq hN.2 _ _)
        have hpl : P.length ≤ 4 := by rw [hP]; have := PL_len N (pc, pb); omega
        have HPL : Hid (∀ i (hi : i < P.length), P[i] < 2 * N) := fun i hi => by subst hP; exact PL_lt hi
        rw [← hP] at own6
        obtain ⟨ap, cp, hve, ip, gp⟩ := own6.form
        rw [ci_len] at hve
        subst hve
        have IP := hide ip
        have GP : Hid (∀ b o s, ap = some ⟨b, o, s⟩ → b ≠ w1.heap.size) := fun b o s e => by have h1 := (gp b o s e).1; have h2 := hsz; simp at h1; omega
        clear z1 z2 p0 p1 qn HC5 own6 b6 ip gp hP
        go_wp2_with fail
        go_loopw [31] (fun i wq => ∃ uu : Nat, uu ≤ P.length ∧ i = .int .i64 uu ∧ LDg w6 w1.heap.size w1.heap.size (2 * N) (2 * N) (prU P uu r0) wq) (fun i _ => P.length - (intOf i).toNat)
        case atStart => exact ⟨0, Nat.zero_le _, rfl, HC6.out⟩
        case round =>
          clear HC6
          obtain ⟨uu, huu, rfl, hc⟩ := hrel
          by_cases hut : uu < P.length
          · have HU := hide (prU_succ (P := P) (r := r0) hut)
            obtain ⟨f, hf⟩ : ∃ f, f = P[uu] := ⟨_, rfl⟩
            have hf8 : f < 2 * N := by rw [hf]; exact HPL.out uu hut
            obtain ⟨r1, hr1⟩ : ∃ r1, r1 = prU P uu r0 := ⟨_, rfl⟩
            rw [← hr1, ← hf] at HU
            rw [← hr1] at hc
            obtain ⟨b2, o2, rfl, _, hc2⟩ := IP.out (by rw [ci_len]; omega)
            have x1 := hc2 uu (by rw [ci_len]; exact hut)
            rw [ci_at hut, natD_lt hut, ← hf] at x1
            have y1 := hc.keep x1 (by have := GP.out b2 o2 none rfl; simpa using this)
            have HC := hide hc
            have HC2 := hide hc2
            clear x1 hc2 hf hr1 hc
            go_wp2_with fail
            clear y1
            go_loopw [37] (fun i wq => ∃ vv : Nat, vv ≤ P.length ∧ i = .int .i64 vv ∧ LDg w6 w1.heap.size w1.heap.size (2 * N) (2 * N) (prV P f vv r1) wq) (fun i _ => P.length - (intOf i).toNat)
            case atStart => exact ⟨0, Nat.zero_le _, rfl, HC.out⟩
            case round =>
              clear HC
              obtain ⟨vv, hvv, rfl, hc⟩ := hrel
              by_cases hvt : vv < P.length
              · obtain ⟨o, ho⟩ : ∃ o, o = P[vv] := ⟨_, rfl⟩
                have ho8 : o < 2 * N := by rw [ho]; exact HPL.out vv hvt
                have x1 := HC2.out vv (by rw [ci_len]; exact hvt)
                rw [ci_at hvt, natD_lt hvt, ← ho] at x1
                have y1 := hc.keep x1 (by have := GP.out b2 o2 none rfl; simpa using this)
                have HC := hide hc
                have HO := hide ho
                clear x1 ho hc
                by_cases hfo : f = o
                · have hne : ((f : Int) != (o : Int)) = false := by rw [hfo]; simp
                  have HV0 := hide (prV_no (f := f) (r := r1) hvt (show (f != P[vv]) = false from by rw [← HO.out]; simpa using hfo))
                  clear hfo
                  go_wp2_with fail
                  go_roundw
                  case rel => exact ⟨vv + 1, by omega, by go_num, by rw [HV0.out]; exact HC.out⟩
                  case measure => simp only [intOf]; omega
                · have hne : ((f : Int) != (o : Int)) = true := by simp; omega
                  have HV1 := hide (prV_yes (f := f) (r := r1) hvt (show (f != P[vv]) = true from by rw [← HO.out]; simpa using hfo))
                  clear hfo
                  obtain ⟨t, ht⟩ : ∃ t, o ^^^ 1 = t := ⟨_, rfl⟩
                  have ht8 : t < 8 := by rw [← ht]; exact Nat.xor_lt_two_pow (n := 3) (by omega) (by omega)
                  obtain ⟨u, hu⟩ : ∃ u, u = prV P f vv r1 := ⟨_, rfl⟩
                  rw [← HO.out, ht, ← hu] at HV1
                  rw [← hu] at HC
                  obtain ⟨q, hq⟩ := HC.out.at (f := f) hf8
                  have hl := HC.out.2.2.at f
                  obtain ⟨lf, hlf⟩ : ∃ lf, u.getD f 0 = lf := ⟨_, rfl⟩
                  have hp := pow_256 ht8
                  have hsh := shl_small t ht8
                  obtain ⟨pt, hpt⟩ : ∃ pt, 2 ^ t = pt := ⟨_, rfl⟩
                  rw [hlf] at q hl
                  rw [hpt] at hp hsh
                  have hor := orL lf pt (by omega) (by omega)
                  have HE := hide (show bits .or .i64 (lf : Int) (wrap64 ((2 : Int) ^ t)) = ((lf ||| pt : Nat) : Int) from by rw [hsh]; exact hor)
                  have HP := hide hpt
                  have HLF := hide hlf
                  have HT := hide ht
                  clear hu hpt hlf ht hsh hor
                  go_wp2_with fail
                  clear y1
                  go_region_with (go_at_call 75; refine (oppositePlace_was o t _ (by omega) HT.out).mono ?_; rintro e w' ⟨rfl, rfl⟩)
                  all_goals go_wp2
                  all_goals
                    go_roundw
                    case rel => exact ⟨vv + 1, by omega, by go_num, by rw [HV1.out]; unfold upd; rw [HLF.out, HP.out]; have h5 := (HC.out.store (f := f) (or_256 hl hp)).drew; rw [← HE.out] at h5; exact h5⟩
                    case measure => simp only [intOf]; omega
              · obtain rfl : vv = P.length := by omega
                go_wp2_with fail
                go_roundw
                case rel => exact ⟨uu + 1, by omega, by go_num, by rw [HU.out]; exact hc⟩
                case measure => simp only [intOf]; omega
          · obtain rfl : uu = P.length := by omega
            go_wp2_with fail
            go_roundw
            case rel => exact ⟨ii + 1, by omega, by go_num, by rw [HS.out, ← HPR.out]; exact HJ6.out.join hc⟩
            case measure => simp only [intOf]; omega
      · obtain rfl : ii = L.length := by omega
        go_wp2_with fail
        refine (followLeads_any (2 * N) _ _ _ _ _ hc.anchor (by omega)).mono ?_
        rintro e w8 ⟨rfl, h8⟩
        go_wp2_with fail
        go_ret
        have h9 := hc.join h8
        refine ⟨_, rfl, ?_, ?_⟩
        · refine Owns.le (base := w1.heap.size) ?_ (by omega)
          have h1 := h9.1
          have h2 := h9.2.2.1
          unfold Owns
          rw [HV.out, ← HL.out, ci_len]
          clear h9 h8 hc
          generalize (clK (2 * N) (2 * N) (stI N L L.length)) = z at h1 h2 ⊢
          rw [h2]
          exact h1
        · exact bgrown S3.out.2.2.2 h9.2.1 (by omega) (fun k hk => by cases hk; omega)
end Go.Proofs.Ytbnnblfgpdfmpaa

/- BkI: IsBlocked of the program. -/
namespace Go.Proofs.Ytbnnblfgpdfmpaa
open Go.RowKit Go.Joins

theorem ldR_len8 {N : Nat} {zs : List Int} (h : vsB (N : Int) zs = true) : (ci (ldR (N : Int) zs)).length = 2 * N := by
  rw [ci_len]; exact (ldR_rc h).1
set_option maxHeartbeats 4000000 in
set_option maxRecDepth 100000 in
theorem implIsBlocked_any (n : Int) (a : Option Addr) (cap : Nat) (zs : List Int) (w : World) (hi : Ints w a zs) (hn : zs.length ≤ 1048576) :
    Calls Try.prog 28 #[.agg #[.int .i64 n, .slice a zs.length cap]] w fun e w' => e = .returned (.bool (blkB n zs)) ∧ Below w.heap.size w w' := by
  have S0 := SV.new w n a zs cap none [] 26 hi (Ints.nil _ _)
  clear hi
  obtain ⟨⟨_, c0, c1⟩, _⟩ := S0.pair
  by_cases hv : vsB n zs = false
  · have HV := hide (blkB_no hv)
    have HVV := hide hv
    clear hv
    go_enter Try.func28, Try.ntmps28
    go_wp2_with fail
    refine (implVS_was _ _ _ _ _ _ S0.2.1 hn HVV.out).mono ?_
    rintro e w1 ⟨rfl, hb⟩
    go_wp2
    go_ret
    exact ⟨ret_bool HV.out.symm, (S0.below hb).2.2.2⟩
  · have hv : vsB n zs = true := by simpa using hv
    have hN4 := (valid_of hv).1
    obtain ⟨N, hN⟩ : ∃ N : Nat, n = (N : Int) := ⟨n.toNat, by omega⟩
    subst hN
    have HV := hide hv
    have hN : 1 ≤ N ∧ N ≤ 4 := by omega
    have HRC := hide (ldR_rc hv)
    have HLEN := hide (ldR_len8 hv)
    clear hN4 hv
    go_enter Try.func28, Try.ntmps28
    go_wp2_with fail
    refine (implVS_was _ _ _ _ _ _ S0.2.1 hn HV.out).mono ?_
    rintro e w1 ⟨rfl, hb⟩
    have S1 := S0.below hb
    clear S0 hb c0 c1
    obtain ⟨⟨_, c0, c1⟩, _⟩ := S1.pair
    go_wp2_with fail
    refine (implLeadsOf_any _ _ _ _ _ S1.2.1 hn).mono ?_
    rintro e w3 ⟨v, rfl, own, hb⟩
    obtain ⟨va, vc, rfl, pin, _⟩ := own.form
    have B3 := hide (bnext S1.2.2.2 hb)
    obtain ⟨R, hR⟩ : ∃ R, R = ldR (N : Int) zs := ⟨_, rfl⟩
    have hrl : R.length = 2 * N := by rw [hR]; exact HRC.out.1
    rw [← hR] at pin
    obtain ⟨b, off, rfl, _, hc⟩ := pin (by rw [ci_len, hrl]; omega)
    have HC : Hid (∀ i, i < 2 * N → w3.cell? ⟨b, off + i, none⟩ = some (.int .i64 (R.getD i 0 : Nat))) := fun i hi => by
      have h1 := hc i (by rw [ci_len, hrl]; exact hi)
      rw [ci_at (by rw [hrl]; exact hi)] at h1
      exact h1
    have HRK : Hid (∀ i, R.getD i 0 < 2 ^ (2 * N)) := fun i => by rw [hR]; exact HRC.out.at i
    have HRR := hide hR
    have NO : Hid (∀ i : Nat, i < 2 * N → ¬ (R.getD i 0 ||| 2 ^ i = 2 ^ (2 * N) - 1) → blkB (N : Int) zs = false) := fun i hi hne => by
      rw [blkB_yes HV.out]
      cases ha : allB (2 * (N : Int).toNat) (ldR (N : Int) zs) with
      | false => rfl
      | true =>
        rw [allB_iff, ← HRR.out] at ha
        exact absurd ((full_iff (HRK.out i) hi).2 fun k hk hik => ha i (by simpa using hi) k (by simpa using hk) hik) hne
    have YES : Hid ((∀ i, i < 2 * N → R.getD i 0 ||| 2 ^ i = 2 ^ (2 * N) - 1) → blkB (N : Int) zs = true) := fun h => by
      rw [blkB_yes HV.out, allB_iff, ← HRR.out]
      intro i hi k hk hik
      have hi' : i < 2 * N := by simpa using hi
      exact (full_iff (HRK.out i) hi').1 (h i hi') k (by simpa using hk) hik
    clear own hb pin hR hrl hc S1 c0 c1
    go_wp2_with fail
    rw [HLEN.out]
    have hK8 : 2 ^ (2 * N) ≤ 256 := by
      have : 2 ^ (2 * N) ≤ 2 ^ 8 := Nat.pow_le_pow_right (by omega) (by omega)
      omega
    have hK1 : 1 ≤ 2 ^ (2 * N) := Nat.two_pow_pos _
    obtain ⟨Q, hQ⟩ : ∃ Q, Q = 2 ^ (2 * N) := ⟨_, rfl⟩
    rw [← hQ] at hK8 hK1 HRK NO YES
    have hshN : wrap64 ((2 : Int) ^ (2 * N)) = (Q : Int) := by
      have e : ((2 : Int) ^ (2 * N)) = (Q : Int) := by rw [hQ]; simp
      rw [e]
      unfold wrap64
      omega
    have HSN := hide hshN
    clear hQ hshN
    go_wp2_with fail
    go_loopw [13] (fun i wr => ∃ ii : Nat, ii ≤ 2 * N ∧ i = .int .i64 ii ∧ Hid (∀ i', i' < ii → R.getD i' 0 ||| 2 ^ i' = Q - 1) ∧ Below w3.heap.size w3 wr) (fun i _ => 2 * N - (intOf i).toNat)
    case atStart => exact ⟨0, Nat.zero_le _, rfl, fun i' h => by omega, Below.refl _ _⟩
    case round =>
      obtain ⟨ii, hii, rfl, hall, hbw⟩ := hrel
      have HBW := hide hbw
      by_cases hlt : ii < 2 * N
      · have x0 := HC.out ii hlt
        have x1 := (hbw.cell (p := ⟨b, off + ii, none⟩) (World.block_lt_of_cell? _ _ x0)).trans x0
        clear x0 hbw
        have l1 := HRK.out ii
        have NO' := hide (NO.out ii hlt)
        have hsh := shl_small ii (by omega)
        have hp := pow_256 (t := ii) (by omega)
        have HNX : Hid (R.getD ii 0 ||| 2 ^ ii = Q - 1 → ∀ i', i' < ii + 1 → R.getD i' 0 ||| 2 ^ i' = Q - 1) := fun e i' h => by
          rcases Nat.lt_or_ge i' ii with h1 | h1
          · exact hall.out i' h1
          · obtain rfl : i' = ii := by omega
            exact e
        clear hall
        obtain ⟨ri, hri⟩ : ∃ ri, R.getD ii 0 = ri := ⟨_, rfl⟩
        obtain ⟨pt, hpt⟩ : ∃ pt, 2 ^ ii = pt := ⟨_, rfl⟩
        rw [hri] at x1 l1 NO' HNX
        rw [hpt] at hsh hp NO' HNX
        have hri8 : ri < 256 := Nat.lt_of_lt_of_le l1 hK8
        have hor := orL ri pt (Nat.lt_trans hri8 (by decide)) (Nat.lt_trans hp (by decide))
        have hshN := HSN.out
        have HE : Hid (bits .or .i64 (ri : Int) (wrap64 ((2 : Int) ^ ii)) = ((ri ||| pt : Nat) : Int)) := by unfold Hid; rw [hsh]; exact hor
        have HO := hide (or_256 hri8 hp)
        clear hri hpt hor hsh hshN
        go_wp2_with fail
        go_quiet (fail)
        by_cases hq : ri ||| pt = Q - 1
        · have HB : Hid ((bits .or .i64 (ri : Int) (wrap64 ((2 : Int) ^ ii)) != wrap64 (wrap64 ((2 : Int) ^ (2 * N)) - 1)) = false) := by
            unfold Hid
            rw [HE.out, HSN.out, IntWalk.wrap64_in _ (by omega), hq]
            simp
            omega
          have HQ := hide hq
          clear hq
          rw [HB.out]
          go_wp2_with fail
          go_roundw
          case rel => exact ⟨ii + 1, by omega, by go_num, HNX.out HQ.out, bnext HBW.out (belN _ _)⟩
          case measure => simp only [intOf]; omega
        · have HB : Hid ((bits .or .i64 (ri : Int) (wrap64 ((2 : Int) ^ ii)) != wrap64 (wrap64 ((2 : Int) ^ (2 * N)) - 1)) = true) := by
            unfold Hid
            rw [HE.out, HSN.out, IntWalk.wrap64_in _ (by omega), bne_iff_ne]
            omega
          have HQ := hide hq
          clear hq
          rw [HB.out]
          go_wp2_with fail
          go_ret
          exact ⟨ret_bool (NO'.out HQ.out).symm, bnext B3.out (bnext HBW.out (belN _ _))⟩
      · obtain rfl : ii = 2 * N := by omega
        go_wp2_with fail
        go_ret
        exact ⟨ret_bool (YES.out hall.out).symm, bnext B3.out HBW.out⟩
end Go.Proofs.Ytbnnblfgpdfmpaa

/- Cross: Spaces crossed: the plain list, its length, its numbers. -/
namespace Go.Proofs.Ytbnnblfgpdfmpaa
open Go.RowKit Go.Joins

theorem valid_at {n : Int} {zs : List Int} (h : Valid n zs) : ∀ i, i < zs.length → (i : Int) ≤ zs.getD i 0
  | 0, hi => (h.2.2 0 hi).1.1
  | i + 1, hi => by
    have h1 := valid_at h i (by omega)
    have h2 := (h.2.2 (i + 1) hi).2 (by omega)
    simp only [Nat.add_sub_cancel] at h2
    omega
theorem valid_len {n : Int} {zs : List Int} (h : Valid n zs) : zs.length ≤ 16 := by
  have hp := h.2.1
  have h1 := valid_at h (zs.length - 1) (by omega)
  have h2 := (h.2.2 (zs.length - 1) (by omega)).1.2
  have h3 := pw_le n h.1.2
  omega

/-- a row of the crossed space -/
def rowL (m : Int) (xs : List Int) (y : Int) : List Int := xs.map fun x => x + m * y
/-- all of the crossed space -/
def crossL (m : Int) (xs ys : List Int) : List Int := ys.flatMap (rowL m xs)
theorem row_len (m : Int) (xs : List Int) (y : Int) : (rowL m xs y).length = xs.length := by simp [rowL]
theorem row_take (m : Int) (xs : List Int) (y : Int) (j : Nat) (hj : j < xs.length) : rowL m (xs.take (j + 1)) y = rowL m (xs.take j) y ++ [xs[j] + m * y] := by
  unfold rowL
  rw [List.take_add_one, List.getElem?_eq_getElem hj, List.map_append]
  rfl
theorem cross_take (m : Int) (xs ys : List Int) (k : Nat) (hk : k < ys.length) : crossL m xs (ys.take (k + 1)) = crossL m xs (ys.take k) ++ rowL m xs ys[k] := by
  unfold crossL
  rw [List.take_add_one, List.getElem?_eq_getElem hk, List.flatMap_append]
  simp
theorem cross_len (m : Int) (xs : List Int) : ∀ ys : List Int, (crossL m xs ys).length = ys.length * xs.length
  | [] => by simp [crossL]
  | y :: ys => by
    have h := cross_len m xs ys
    unfold crossL at h ⊢
    rw [List.flatMap_cons, List.length_append, row_len, h, List.length_cons, Nat.succ_mul, Nat.add_comm]
theorem cross_small {m : Int} {xs ys : List Int} (hx : xs.length ≤ 16) (hy : ys.length ≤ 16) : (crossL m xs ys).length ≤ 256 := by
  rw [cross_len]
  exact Nat.mul_le_mul hy hx

def CrossOk (na : Int) (xs : List Int) (nb : Int) (ys : List Int) : Prop := Valid na xs ∧ Valid nb ys ∧ na + nb ≤ 4
instance (na : Int) (xs : List Int) (nb : Int) (ys : List Int) : Decidable (CrossOk na xs nb ys) := by unfold CrossOk; infer_instance
def crsB (na : Int) (xs : List Int) (nb : Int) (ys : List Int) : Bool := decide (CrossOk na xs nb ys)
def crsN (na : Int) (xs : List Int) (nb : Int) (ys : List Int) : Int := if CrossOk na xs nb ys then na + nb else 0
def crsL (na : Int) (xs : List Int) (nb : Int) (ys : List Int) : List Int := if CrossOk na xs nb ys then crossL (pw na) xs ys else []
theorem crL_len (na : Int) (xs : List Int) (nb : Int) (ys : List Int) : (crsL na xs nb ys).length ≤ 256 := by
  unfold crsL
  split
  · rename_i h
    exact cross_small (valid_len h.1) (valid_len h.2.1)
  · simp

theorem pw_add (a b : Int) (ha : 0 ≤ a) (hb : 0 ≤ b) : pw (a + b) = pw a * pw b := by
  unfold pw
  rw [Int.toNat_add ha hb, Nat.pow_add, Int.natCast_mul]
/-- the product is small -/
theorem mul_small {a b y : Int} (ha : 0 ≤ a) (hb : 0 ≤ b) (h4 : a + b ≤ 4) (hy : 0 ≤ y ∧ y ≤ pw b - 1) : 0 ≤ pw a * y ∧ pw a * y ≤ 16 - pw a := by
  have p1 := pw_pos a
  have h1 := pw_le (a + b) h4
  rw [pw_add a b ha hb] at h1
  have h2 : pw a * y ≤ pw a * (pw b - 1) := Int.mul_le_mul_of_nonneg_left hy.2 (by omega)
  rw [Int.mul_sub, Int.mul_one] at h2
  exact ⟨Int.mul_nonneg (by omega) hy.1, by omega⟩
theorem or_add {a x y : Int} (hx : 0 ≤ x ∧ x ≤ pw a - 1) (hy : 0 ≤ y) (hs : pw a * y ≤ 16 - pw a) : bits .or .i64 x (pw a * y) = x + pw a * y := by
  obtain ⟨X, rfl⟩ := Int.eq_ofNat_of_zero_le hx.1
  obtain ⟨Y, rfl⟩ := Int.eq_ofNat_of_zero_le hy
  have p1 := pw_pos a
  unfold pw at *
  rw [← Int.natCast_mul] at hs ⊢
  have e : X ||| (2 ^ a.toNat * Y) = X + 2 ^ a.toNat * Y := by
    have := Nat.two_pow_add_eq_or_of_lt (i := a.toNat) (b := X) (by omega) Y
    rw [Nat.or_comm, ← this, Nat.add_comm]
  rw [or_small _ _ (by omega) (by omega), e]
  omega
end Go.Proofs.Ytbnnblfgpdfmpaa

/- CrossI: impl.CrossSpaces. -/
namespace Go.Proofs.Ytbnnblfgpdfmpaa
open Go.RowKit Go.Joins

theorem valid_in {n : Int} {zs : List Int} (h : Valid n zs) : ∀ x ∈ zs, 0 ≤ x ∧ x ≤ pw n - 1 := by
  intro x hx
  obtain ⟨i, hi, rfl⟩ := List.getElem_of_mem hx
  rw [← getD_lt hi]
  exact (h.2.2 i hi).1

/-- two spaces in variables, and a third for the answer -/
def CV (w0 : World) (na : Int) (a : Option Addr) (xs : List Int) (ca : Nat) (nb : Int) (b : Option Addr) (ys : List Int) (cb : Nat) (wx : World) : Prop :=
  Box wx w0.heap.size na a xs.length ca ∧ Box wx (w0.heap.size + 1) nb b ys.length cb ∧ Ints wx a xs ∧ Ints wx b ys ∧ wx.heap[w0.heap.size + 1 + 1]? = some (.cells #[.int .i64 0, .slice none 0 0] 26 (0, 0)) ∧ Below w0.heap.size w0 wx
theorem CV.below {w0 wx wy : World} {na nb : Int} {a b : Option Addr} {xs ys : List Int} {ca cb : Nat} (h : CV w0 na a xs ca nb b ys cb wx) (hb : Below wx.heap.size wx wy) : CV w0 na a xs ca nb b ys cb wy :=
  ⟨h.1.below hb, h.2.1.below hb, h.2.2.1.below hb, h.2.2.2.1.below hb, (hb.block _ (lt_of_block h.2.2.2.2.1)).trans h.2.2.2.2.1, bnext h.2.2.2.2.2 hb⟩
theorem CV.new (w : World) (na nb : Int) (a b : Option Addr) (xs ys : List Int) (ca cb : Nat) (hx : Ints w a xs) (hy : Ints w b ys) :
    CV w na a xs ca nb b ys cb (((w.alloc (.cells #[.int .i64 na, .slice a xs.length ca] 26)).alloc (.cells #[.int .i64 nb, .slice b ys.length cb] 26)).alloc (.cells #[.int .i64 0, .slice none 0 0] 26)) := by
  have b1 := Box.new w na a xs.length ca 26
  have b2 := Box.new (w.alloc (.cells #[.int .i64 na, .slice a xs.length ca] 26)) nb b ys.length cb 26
  have b3 := heap_alloc_new ((w.alloc (.cells #[.int .i64 na, .slice a xs.length ca] 26)).alloc (.cells #[.int .i64 nb, .slice b ys.length cb] 26)) (.cells #[.int .i64 0, .slice none 0 0] 26)
  simp only [World.size_alloc] at b2 b3
  exact ⟨(b1.below (bel1 _ _)).below (bel1 _ _), b2.below (bel1 _ _), hx.below (bel3 _ _ _ _), hy.below (bel3 _ _ _ _), b3, bel3 _ _ _ _⟩
theorem givesC_no {na nb : Int} {xs ys : List Int} {w w' : World} (h : ¬ CrossOk na xs nb ys) (hb : Below w.heap.size w w') :
    GivesX (crsN na xs nb ys) (crsL na xs nb ys) (crsB na xs nb ys) w (.returned (.tuple #[.agg #[.int .i64 0, .slice none 0 0], .bool false])) w' := by
  have e1 : crsN na xs nb ys = 0 := if_neg h
  have e2 : crsL na xs nb ys = [] := if_neg h
  have e3 : crsB na xs nb ys = false := by simpa [crsB] using h
  rw [e1, e2, e3]
  exact ⟨_, rfl, World.ownsRow_nil _ _ _ _, hb⟩
theorem CV.set {w0 wx : World} {na nb : Int} {a b : Option Addr} {xs ys : List Int} {ca cb : Nat} (h : CV w0 na a xs ca nb b ys cb wx) (u v : Value) :
    Below w0.heap.size w0 ((wx.setCell ⟨w0.heap.size + 1 + 1, 0, none⟩ u).setCell ⟨w0.heap.size + 1 + 1, 1, none⟩ v) :=
  (h.2.2.2.2.2.setCell (p := ⟨w0.heap.size + 1 + 1, 0, none⟩) (by show w0.heap.size ≤ w0.heap.size + 1 + 1; omega) u).setCell (p := ⟨w0.heap.size + 1 + 1, 1, none⟩) (by show w0.heap.size ≤ w0.heap.size + 1 + 1; omega) v
theorem wrap_shift (a y : Int) (h0 : 0 ≤ pw a * y) (h : pw a * y ≤ 16) : wrap64 (y * 2 ^ a.toNat) = pw a * y := by
  have e : y * 2 ^ a.toNat = pw a * y := by
    unfold pw
    rw [Int.mul_comm, Int.natCast_pow]
    rfl
  rw [e]
  exact IntWalk.wrap64_in _ (by omega)

set_option maxHeartbeats 4000000 in
set_option maxRecDepth 100000 in
theorem implCross_any (na nb : Int) (a b : Option Addr) (ca cb : Nat) (xs ys : List Int) (w : World) (hx : Ints w a xs) (hy : Ints w b ys) (hn : xs.length ≤ 1048576) (hm : ys.length ≤ 1048576) :
    Calls Try.prog 34 #[.agg #[.int .i64 na, .slice a xs.length ca], .agg #[.int .i64 nb, .slice b ys.length cb]] w (GivesX (crsN na xs nb ys) (crsL na xs nb ys) (crsB na xs nb ys) w) := by
  obtain ⟨i0, hi0, hz0, hz1, hz2⟩ := info_parts info_int
  have S0 := CV.new w na nb a b xs ys ca cb hx hy
  clear hx hy
  by_cases hv : vsB na xs = false
  · have HN : Hid (¬ CrossOk na xs nb ys) := fun h => by rw [vsB_true h.1] at hv; cases hv
    go_enter Try.func34, Try.ntmps34
    go_wp2_with fail
    refine (implValidSpace_any _ _ _ _ _ S0.2.2.1 hn).mono ?_
    rintro e w1 ⟨rfl, hb⟩
    have S1 := S0.below hb
    have hblk := S1.2.2.2.2.1
    have f0 := unfrozen_of_block hblk 0
    have f1 := unfrozen_of_block hblk 1
    have g0 := cell_of_block hblk 0
    have g1 := cell_of_block hblk 1
    go_wp2
    refine bodyPost_ret (ret_cross rfl _ _ _ _ _ rfl (block_setCell (i := 1) (block_setCell (i := 0) hblk _) _)) rfl ?_
    exact givesC_no HN.out (S1.set _ _)
  · have hv : vsB na xs = true := by simpa using hv
    have hV := hide (valid_of hv)
    by_cases hu : vsB nb ys = false
    · have HN : Hid (¬ CrossOk na xs nb ys) := fun h => by rw [vsB_true h.2.1] at hu; cases hu
      go_enter Try.func34, Try.ntmps34
      go_wp2_with fail
      refine (implValidSpace_any _ _ _ _ _ S0.2.2.1 hn).mono ?_
      rintro e w1 ⟨rfl, hb⟩
      have S1 := S0.below hb
      have ⟨⟨_, c0, c1⟩, ⟨_, d0, d1⟩, _⟩ := S1
      go_wp2_with fail
      refine (implValidSpace_any _ _ _ _ _ S1.2.2.2.1 hm).mono ?_
      rintro e w2 ⟨rfl, hb⟩
      have S2 := S1.below hb
      have hblk := S2.2.2.2.2.1
      have f0 := unfrozen_of_block hblk 0
      have f1 := unfrozen_of_block hblk 1
      have g0 := cell_of_block hblk 0
      have g1 := cell_of_block hblk 1
      go_wp2
      refine bodyPost_ret (ret_cross rfl _ _ _ _ _ rfl (block_setCell (i := 1) (block_setCell (i := 0) hblk _) _)) rfl ?_
      exact givesC_no HN.out (S2.set _ _)
    · have hu : vsB nb ys = true := by simpa using hu
      have hU := hide (valid_of hu)
      have h14 := hV.out.1
      have k14 := hU.out.1
      by_cases h4 : 4 < na + nb
      · have HN : Hid (¬ CrossOk na xs nb ys) := fun h => by have := h.2.2; omega
        go_enter Try.func34, Try.ntmps34
        go_wp2_with fail
        refine (implValidSpace_any _ _ _ _ _ S0.2.2.1 hn).mono ?_
        rintro e w1 ⟨rfl, hb⟩
        have S1 := S0.below hb
        have ⟨⟨_, c0, c1⟩, ⟨_, d0, d1⟩, _⟩ := S1
        go_wp2_with fail
        refine (implValidSpace_any _ _ _ _ _ S1.2.2.2.1 hm).mono ?_
        rintro e w2 ⟨rfl, hb⟩
        have S2 := S1.below hb
        have ⟨⟨_, x0, x1⟩, ⟨_, y0, y1⟩, _⟩ := S2
        have hblk := S2.2.2.2.2.1
        have f0 := unfrozen_of_block hblk 0
        have f1 := unfrozen_of_block hblk 1
        have g0 := cell_of_block hblk 0
        have g1 := cell_of_block hblk 1
        go_wp2
        refine bodyPost_ret (ret_cross rfl _ _ _ _ _ rfl (block_setCell (i := 1) (block_setCell (i := 0) hblk _) _)) rfl ?_
        exact givesC_no HN.out (S2.set _ _)
      · have HK : Hid (CrossOk na xs nb ys) := ⟨hV.out, hU.out, by omega⟩
        have HX := hide (valid_in hV.out)
        have HY := hide (valid_in hU.out)
        have lx := valid_len hV.out
        have ly := valid_len hU.out
        go_enter Try.func34, Try.ntmps34
        go_wp2_with fail
        refine (implValidSpace_any _ _ _ _ _ S0.2.2.1 hn).mono ?_
        rintro e w1 ⟨rfl, hb⟩
        have S1 := S0.below hb
        have ⟨⟨_, c0, c1⟩, ⟨_, d0, d1⟩, _⟩ := S1
        go_wp2_with fail
        refine (implValidSpace_any _ _ _ _ _ S1.2.2.2.1 hm).mono ?_
        rintro e w2 ⟨rfl, hb2⟩
        have S2 := S1.below hb2
        clear S0 S1 hb hb2 c0 c1 d0 d1
        have ⟨⟨_, x0, x1⟩, ⟨_, y0, y1⟩, _⟩ := S2
        go_wp2_with fail
        go_loopw [6, 31] (fun v i wr => ∃ k : Nat, k ≤ ys.length ∧ i = .int .i64 k ∧ Owns wr w2.heap.size v (crossL (pw na) xs (ys.take k)) ∧ Below w2.heap.size w2 wr) (fun _ i _ => ys.length - (intOf i).toNat)
        case atStart => exact ⟨0, Nat.zero_le _, rfl, World.ownsRow_nil _ _ _ _, Below.refl _ _⟩
        case round =>
          clear x0 x1 y0 y1
          obtain ⟨k, hk, rfl, hown, BR⟩ := hrel
          have SR := S2.below BR
          have ⟨⟨_, x0, x1⟩, ⟨_, y0, y1⟩, _, iy, _⟩ := SR
          by_cases hlt : k < ys.length
          · obtain ⟨yb, yo, rfl, hybl, hyc⟩ := iy (by omega)
            have hyk := hyc k hlt
            rw [getD_lt hlt] at hyk
            have hct := hide (cross_take (pw na) xs ys k hlt)
            have rY := hide (HY.out _ (mem_of_at hlt))
            have hms := hide (mul_small (a := na) (b := nb) (y := ys[k]) (by omega) (by omega) (by omega) rY.out)
            have pa := pw_pos na
            have hsh := wrap_shift na ys[k] hms.out.1 (by have := hms.out.2; omega)
            have hcl : (crossL (pw na) xs (ys.take k)).length ≤ 256 := cross_small lx (by rw [List.length_take]; omega)
            clear hyc iy
            go_wp2_with fail
            go_loopw [6, 38] (fun v i wq => ∃ j : Nat, j ≤ xs.length ∧ i = .int .i64 j ∧ Owns wq w2.heap.size v (crossL (pw na) xs (ys.take k) ++ rowL (pw na) (xs.take j) ys[k]) ∧ Below w2.heap.size w2 wq) (fun _ i _ => xs.length - (intOf i).toNat)
            case atStart => exact ⟨0, Nat.zero_le _, rfl, by rw [show rowL (pw na) (xs.take 0) ys[k] = [] from rfl, List.append_nil]; exact hown, BR⟩
            case round =>
              clear x0 x1 y0 y1 hyk hown BR SR
              obtain ⟨j, hj, rfl, hown, BR⟩ := hrel
              have SR := S2.below BR
              have ⟨⟨_, x0, x1⟩, ⟨_, y0, y1⟩, ix, _⟩ := SR
              by_cases hjt : j < xs.length
              · obtain ⟨xb, xo, rfl, hxbl, hxc⟩ := ix (by omega)
                have hxk := hxc j hjt
                rw [getD_lt hjt] at hxk
                have hrt := hide (row_take (pw na) xs ys[k] j hjt)
                have hor := or_add (a := na) (x := xs[j]) (y := ys[k]) (HX.out _ (mem_of_at hjt)) rY.out.1 hms.out.2
                have hll : (crossL (pw na) xs (ys.take k) ++ rowL (pw na) (xs.take j) ys[k]).length ≤ 512 := by
                  rw [List.length_append, row_len, List.length_take]; omega
                have hsz := BR.size
                obtain ⟨zz, hzz⟩ : ∃ zz : List Int, zz = crossL (pw na) xs (ys.take k) ++ rowL (pw na) (xs.take j) ys[k] := ⟨_, rfl⟩
                rw [← hzz] at hown hll
                have HZ := hide hzz
                clear hxc ix hzz
                go_wp2_with ((at_builtin; refine wpList_append_own _ rfl _ _ 22 rfl w2.heap.size 3 i0 (.int .i64 0) 1 8 Try.underlying22 hi0 hz0 hz1 hz2 rfl (by decide) _ _ _ rfl (hown.alloc _) ⟨wr.heap.size, 0, none⟩ 1 1 [.int .i64 (xs[j] + pw na * ys[k])] rfl rfl ?c1 ?c2 ?c3 ?c4 ?c5 ?_))
                case c1 => exact cell_one_new _ _ _
                case c2 => intro u hu; simp at hu; subst hu; rfl
                case c3 => unfold maxLen; omega
                case c4 => omega
                case c5 => simp; omega
                intro v' w5 hown' hgrow _
                have hpush := hide (Owns.push hown')
                have hbel : Below w2.heap.size w2 w5 := (BR.alloc hsz _).grown hgrow (by simp; omega) (fun j hj => own_ge hown j hj)
                clear hown' hgrow hown
                go_wp2
                go_roundw
                case rel => exact ⟨j + 1, by omega, by go_num, by rw [hrt.out, ← List.append_assoc, ← HZ.out]; exact hpush.out, hbel⟩
                case measure => simp only [intOf]; omega
              · obtain rfl : j = xs.length := by omega
                rw [List.take_length] at hown
                go_wp2_with fail
                go_roundw
                case rel => exact ⟨k + 1, by omega, by go_num, by rw [hct.out]; exact hown, BR⟩
                case measure => simp only [intOf]; omega
          · obtain rfl : k = ys.length := by omega
            rw [List.take_length] at hown
            have hblk := SR.2.2.2.2.1
            have f0 := unfrozen_of_block hblk 0
            have f1 := unfrozen_of_block hblk 1
            have g0 := cell_of_block hblk 0
            have g1 := cell_of_block hblk 1
            have hle := S2.2.2.2.2.2.size
            obtain ⟨av, cv, rfl, iv, hg⟩ := hown.form
            go_wp2_with fail
            refine bodyPost_ret (ret_cross rfl _ _ _ _ _ rfl (block_setCell (i := 1) (block_setCell (i := 0) hblk _) _)) rfl ?_
            have e1 : crsN na xs nb ys = na + nb := if_pos HK.out
            have e2 : crsL na xs nb ys = crossL (pw na) xs ys := if_pos HK.out
            have e3 : crsB na xs nb ys = true := by simpa [crsB] using HK.out
            rw [e1, e2, e3]
            refine ⟨_, rfl, ?_, SR.set _ _⟩
            exact ((hown.setBelow (p := ⟨w.heap.size + 1 + 1, 0, none⟩) (Nat.lt_of_lt_of_le (lt_of_block S2.2.2.2.2.1) (Nat.le_refl _)) _).setBelow (p := ⟨w.heap.size + 1 + 1, 1, none⟩) (Nat.lt_of_lt_of_le (lt_of_block S2.2.2.2.2.1) (Nat.le_refl _)) _).le hle
end Go.Proofs.Ytbnnblfgpdfmpaa

/- CrossT: spec.CrossSpaces. -/
namespace Go.Proofs.Ytbnnblfgpdfmpaa
open Go.RowKit Go.Joins

set_option maxHeartbeats 4000000 in
set_option maxRecDepth 100000 in
theorem specCross_any (na nb : Int) (a b : Option Addr) (ca cb : Nat) (xs ys : List Int) (w : World) (hx : Ints w a xs) (hy : Ints w b ys) (hn : xs.length ≤ 1048576) (hm : ys.length ≤ 1048576) :
    Calls Try.prog 33 #[.agg #[.int .i64 na, .slice a xs.length ca], .agg #[.int .i64 nb, .slice b ys.length cb]] w (GivesX (crsN na xs nb ys) (crsL na xs nb ys) (crsB na xs nb ys) w) := by
  obtain ⟨i0, hi0, hz0, hz1, hz2⟩ := info_parts info_int
  have S0 := CV.new w na nb a b xs ys ca cb hx hy
  clear hx hy
  by_cases hv : vsB na xs = false
  · have HN : Hid (¬ CrossOk na xs nb ys) := fun h => by rw [vsB_true h.1] at hv; cases hv
    go_enter Try.func33, Try.ntmps33
    go_wp2_with fail
    refine (validSpace_any _ _ _ _ _ S0.2.2.1 hn).mono ?_
    rintro e w1 ⟨rfl, hb⟩
    have S1 := S0.below hb
    have hblk := S1.2.2.2.2.1
    have f0 := unfrozen_of_block hblk 0
    have f1 := unfrozen_of_block hblk 1
    have g0 := cell_of_block hblk 0
    have g1 := cell_of_block hblk 1
    go_wp2
    refine bodyPost_ret (ret_cross rfl _ _ _ _ _ rfl (block_setCell (i := 1) (block_setCell (i := 0) hblk _) _)) rfl ?_
    exact givesC_no HN.out (S1.set _ _)
  · have hv : vsB na xs = true := by simpa using hv
    have hV := hide (valid_of hv)
    by_cases hu : vsB nb ys = false
    · have HN : Hid (¬ CrossOk na xs nb ys) := fun h => by rw [vsB_true h.2.1] at hu; cases hu
      go_enter Try.func33, Try.ntmps33
      go_wp2_with fail
      refine (validSpace_any _ _ _ _ _ S0.2.2.1 hn).mono ?_
      rintro e w1 ⟨rfl, hb⟩
      have S1 := S0.below hb
      have ⟨⟨_, c0, c1⟩, ⟨_, d0, d1⟩, _⟩ := S1
      go_wp2_with fail
      refine (validSpace_any _ _ _ _ _ S1.2.2.2.1 hm).mono ?_
      rintro e w2 ⟨rfl, hb⟩
      have S2 := S1.below hb
      have hblk := S2.2.2.2.2.1
      have f0 := unfrozen_of_block hblk 0
      have f1 := unfrozen_of_block hblk 1
      have g0 := cell_of_block hblk 0
      have g1 := cell_of_block hblk 1
      go_wp2
      refine bodyPost_ret (ret_cross rfl _ _ _ _ _ rfl (block_setCell (i := 1) (block_setCell (i := 0) hblk _) _)) rfl ?_
      exact givesC_no HN.out (S2.set _ _)
    · have hu : vsB nb ys = true := by simpa using hu
      have hU := hide (valid_of hu)
      have h14 := hV.out.1
      have k14 := hU.out.1
      by_cases h4 : 4 < na + nb
      · have HN : Hid (¬ CrossOk na xs nb ys) := fun h => by have := h.2.2; omega
        go_enter Try.func33, Try.ntmps33
        go_wp2_with fail
        refine (validSpace_any _ _ _ _ _ S0.2.2.1 hn).mono ?_
        rintro e w1 ⟨rfl, hb⟩
        have S1 := S0.below hb
        have ⟨⟨_, c0, c1⟩, ⟨_, d0, d1⟩, _⟩ := S1
        go_wp2_with fail
        refine (validSpace_any _ _ _ _ _ S1.2.2.2.1 hm).mono ?_
        rintro e w2 ⟨rfl, hb⟩
        have S2 := S1.below hb
        have ⟨⟨_, x0, x1⟩, ⟨_, y0, y1⟩, _⟩ := S2
        have hblk := S2.2.2.2.2.1
        have f0 := unfrozen_of_block hblk 0
        have f1 := unfrozen_of_block hblk 1
        have g0 := cell_of_block hblk 0
        have g1 := cell_of_block hblk 1
        go_wp2
        refine bodyPost_ret (ret_cross rfl _ _ _ _ _ rfl (block_setCell (i := 1) (block_setCell (i := 0) hblk _) _)) rfl ?_
        exact givesC_no HN.out (S2.set _ _)
      · have HK : Hid (CrossOk na xs nb ys) := ⟨hV.out, hU.out, by omega⟩
        have HX := hide (valid_in hV.out)
        have HY := hide (valid_in hU.out)
        have lx := valid_len hV.out
        have ly := valid_len hU.out
        go_enter Try.func33, Try.ntmps33
        go_wp2_with fail
        refine (validSpace_any _ _ _ _ _ S0.2.2.1 hn).mono ?_
        rintro e w1 ⟨rfl, hb⟩
        have S1 := S0.below hb
        have ⟨⟨_, c0, c1⟩, ⟨_, d0, d1⟩, _⟩ := S1
        go_wp2_with fail
        refine (validSpace_any _ _ _ _ _ S1.2.2.2.1 hm).mono ?_
        rintro e w2 ⟨rfl, hb2⟩
        have S2 := S1.below hb2
        clear S0 S1 hb hb2 c0 c1 d0 d1
        have ⟨⟨_, x0, x1⟩, ⟨_, y0, y1⟩, _⟩ := S2
        have hw4 : IntKind.i64.wrap (na + nb) = na + nb := IntWalk.i64_in _ (by omega)
        go_wp2_with fail
        go_loopw [7] (fun i wr => ∃ (k : Nat) (v : Value), k ≤ ys.length ∧ i = .int .i64 k ∧ wr.heap[w2.heap.size]? = some (.cells #[.int .i64 (na + nb), v] 26 (0, 0)) ∧ Owns wr (w2.heap.size + 1) v (crossL (pw na) xs (ys.take k)) ∧ Below w2.heap.size w2 wr) (fun i _ => ys.length - (intOf i).toNat)
        case atStart => exact ⟨0, _, Nat.zero_le _, rfl, heap_alloc_new w2 _, World.ownsRow_nil _ _ _ _, bel1 w2 _⟩
        case round =>
          clear x0 x1 y0 y1
          obtain ⟨k, v, hk, rfl, hblk, hown, BR⟩ := hrel
          have SR := S2.below BR
          have ⟨⟨_, x0, x1⟩, ⟨_, y0, y1⟩, _, iy, _⟩ := SR
          by_cases hlt : k < ys.length
          · obtain ⟨yb, yo, rfl, hybl, hyc⟩ := iy (by omega)
            have hct := hide (cross_take (pw na) xs ys k hlt)
            have rY := hide (HY.out _ (mem_of_at hlt))
            have hms := hide (mul_small (a := na) (b := nb) (y := ys[k]) (by omega) (by omega) (by omega) rY.out)
            have pa := pw_pos na
            have pb := pw_le na h14.2
            have hsh : IntKind.i64.wrap (pw na * ys[k]) = pw na * ys[k] := IntWalk.i64_in _ (by have := hms.out; omega)
            have hcl : (crossL (pw na) xs (ys.take k)).length ≤ 256 := cross_small lx (by rw [List.length_take]; omega)
            clear hyc iy
            go_wp2_with fail
            go_loopw [8] (fun i wq => ∃ (j : Nat) (v : Value), j ≤ xs.length ∧ i = .int .i64 j ∧ wq.heap[w2.heap.size]? = some (.cells #[.int .i64 (na + nb), v] 26 (0, 0)) ∧ Owns wq (w2.heap.size + 1) v (crossL (pw na) xs (ys.take k) ++ rowL (pw na) (xs.take j) ys[k]) ∧ Below w2.heap.size w2 wq) (fun i _ => xs.length - (intOf i).toNat)
            case atStart => exact ⟨0, _, Nat.zero_le _, rfl, hblk, by rw [show rowL (pw na) (xs.take 0) ys[k] = [] from rfl, List.append_nil]; exact hown, BR⟩
            case round =>
              clear x0 x1 y0 y1 hown BR SR hblk
              obtain ⟨j, v, hj, rfl, hblk, hown, BR⟩ := hrel
              have SR := S2.below BR
              have ⟨⟨_, x0, x1⟩, ⟨_, y0, y1⟩, ix, iy, _⟩ := SR
              by_cases hjt : j < xs.length
              · obtain ⟨xb, xo, rfl, hxbl, hxc⟩ := ix (by omega)
                have hxk := hxc j hjt
                rw [getD_lt hjt] at hxk
                obtain ⟨yb', yo', e', hybl, hyc⟩ := iy (by omega)
                simp only [Option.some.injEq, Addr.mk.injEq, and_true] at e'
                obtain ⟨rfl, rfl⟩ := e'
                have hyk := hyc k hlt
                rw [getD_lt hlt] at hyk
                have rX := HX.out _ (mem_of_at hjt)
                have hrt := hide (row_take (pw na) xs ys[k] j hjt)
                have hadd : IntKind.i64.wrap (xs[j] + pw na * ys[k]) = xs[j] + pw na * ys[k] := IntWalk.i64_in _ (by have := hms.out; omega)
                have hll : (crossL (pw na) xs (ys.take k) ++ rowL (pw na) (xs.take j) ys[k]).length ≤ 512 := by
                  rw [List.length_append, row_len, List.length_take]; omega
                have hsz := BR.size
                have g0 := cell_of_block hblk 0
                have g1 := cell_of_block hblk 1
                have f1 := unfrozen_of_block hblk 1
                have hgl := lt_of_block hblk
                obtain ⟨zz, hzz⟩ : ∃ zz : List Int, zz = crossL (pw na) xs (ys.take k) ++ rowL (pw na) (xs.take j) ys[k] := ⟨_, rfl⟩
                rw [← hzz] at hown hll
                have HZ := hide hzz
                obtain ⟨av, cv, rfl, iv, hg⟩ := hown.form
                have hw1 : w.heap.size < w2.heap.size := S2.1.1
                have hw2 : w.heap.size + 1 < w2.heap.size := S2.2.1.1
                have hxw : xb < w2.heap.size := by
                  obtain ⟨b', o', e', h', _⟩ := S2.2.2.1 (by omega)
                  simp only [Option.some.injEq, Addr.mk.injEq, and_true] at e'
                  obtain ⟨rfl, rfl⟩ := e'
                  exact h'
                have hyw : yb < w2.heap.size := by
                  obtain ⟨b', o', e', h', _⟩ := S2.2.2.2.1 (by omega)
                  simp only [Option.some.injEq, Addr.mk.injEq, and_true] at e'
                  obtain ⟨rfl, rfl⟩ := e'
                  exact h'
                clear hxc hyc ix iy hzz iv
                go_upto_region 10 with fail
                have hbA : Below wr.heap.size wr (wr.alloc (.cells #[.int .i64 (xs[j] + pw na * ys[k])] 3)).drew := bdrew' (bel1 wr _)
                have HKA : Hid ((fun w' => w'.cell? ⟨w.heap.size, 0, none⟩ = some (.int .i64 na) ∧ w'.cell? ⟨w.heap.size, 1, none⟩ = some (.slice (some ⟨xb, xo, none⟩) xs.length ca) ∧ w'.cell? ⟨w.heap.size + 1, 1, none⟩ = some (.slice (some ⟨yb, yo, none⟩) ys.length cb) ∧ w'.cell? ⟨xb, xo + j, none⟩ = some (.int .i64 xs[j]) ∧ w'.cell? ⟨yb, yo + k, none⟩ = some (.int .i64 ys[k])) (wr.alloc (.cells #[.int .i64 (xs[j] + pw na * ys[k])] 3)).drew) := ⟨(hbA.cell (p := ⟨w.heap.size, 0, none⟩) (by show w.heap.size < wr.heap.size; omega)).trans x0, (hbA.cell (p := ⟨w.heap.size, 1, none⟩) (by show w.heap.size < wr.heap.size; omega)).trans x1, (hbA.cell (p := ⟨w.heap.size + 1, 1, none⟩) (by show w.heap.size + 1 < wr.heap.size; omega)).trans y1, (hbA.cell (p := ⟨xb, xo + j, none⟩) (by show xb < wr.heap.size; omega)).trans hxk, (hbA.cell (p := ⟨yb, yo + k, none⟩) (by show yb < wr.heap.size; omega)).trans hyk⟩
                clear hbA
                refine wp_region_held_drew (S := (fun w' => w'.cell? ⟨w.heap.size, 0, none⟩ = some (.int .i64 na) ∧ w'.cell? ⟨w.heap.size, 1, none⟩ = some (.slice (some ⟨xb, xo, none⟩) xs.length ca) ∧ w'.cell? ⟨w.heap.size + 1, 1, none⟩ = some (.slice (some ⟨yb, yo, none⟩) ys.length cb) ∧ w'.cell? ⟨xb, xo + j, none⟩ = some (.int .i64 xs[j]) ∧ w'.cell? ⟨yb, yo + k, none⟩ = some (.int .i64 ys[k]))) (by kernel_rfl) ?_ (fun hHeld => ?_)
                · exact ⟨x0, x1, y1, hxk, hyk⟩
                refine wpAnyH_take (i := 0) (v := ?vvt1) rfl (by kernel_rfl) (by kernel_rfl) (by kernel_rfl) (fun _ _ _ h => h) (Or.inl ⟨by rfl, ?hyt1⟩) (by assumption) ?restt1
                case hyt1 => (intro w hSw; (try dsimp only at hSw); go_simp; (try with_reducible rfl))
                case restt1 =>
                  (try simp only [Act.put, List.setIfInBounds_toArray, List.set_cons_zero, List.set_cons_succ, List.getElem_toArray, List.getElem_cons_zero])
                  refine wpAnyH_take (i := 2) (v := ?vvt2) rfl (by kernel_rfl) (by kernel_rfl) (by kernel_rfl) (fun _ _ _ h => h) (Or.inl ⟨by rfl, ?hyt2⟩) (by assumption) ?restt2
                  case hyt2 => (intro w hSw; (try dsimp only at hSw); go_simp; (try with_reducible rfl))
                  case restt2 =>
                    (try simp only [Act.put, List.setIfInBounds_toArray, List.set_cons_zero, List.set_cons_succ, List.getElem_toArray, List.getElem_cons_zero, List.getElem_cons_succ])
                    refine wpAnyH_take (i := 3) (v := ?vvt3) rfl (by kernel_rfl) (by kernel_rfl) (by kernel_rfl) (fun _ _ _ h => h) (Or.inl ⟨by rfl, ?hyt3⟩) (by assumption) ?restt3
                    case hyt3 => (intro w hSw; (try dsimp only at hSw); go_simp; (try with_reducible rfl))
                    case restt3 =>
                      (try simp only [Act.put, List.setIfInBounds_toArray, List.set_cons_zero, List.set_cons_succ, List.getElem_toArray, List.getElem_cons_zero, List.getElem_cons_succ])
                      refine wpAnyH_take (i := 4) (v := ?vvt4) rfl (by kernel_rfl) (by kernel_rfl) (by kernel_rfl) (fun _ _ _ h => h) (Or.inl ⟨by rfl, ?hyt4⟩) (by assumption) ?restt4
                      case hyt4 => (intro w hSw; (try dsimp only at hSw); go_simp; (try with_reducible rfl))
                      case restt4 =>
                        (try simp only [Act.put, List.setIfInBounds_toArray, List.set_cons_zero, List.set_cons_succ, List.getElem_toArray, List.getElem_cons_zero, List.getElem_cons_succ])
                        refine wpAnyH_take (i := 5) (v := ?vvt5) rfl (by kernel_rfl) (by kernel_rfl) (by kernel_rfl) (fun _ _ _ h => h) (Or.inl ⟨by rfl, ?hyt5⟩) (by assumption) ?restt5
                        case hyt5 => (intro w hSw; (try dsimp only at hSw); go_simp; (try with_reducible rfl))
                        case restt5 =>
                          (try simp only [Act.put, List.setIfInBounds_toArray, List.set_cons_zero, List.set_cons_succ, List.getElem_toArray, List.getElem_cons_zero, List.getElem_cons_succ])
                          refine wpAnyH_take (i := 6) (v := ?vvt6) rfl (by kernel_rfl) (by kernel_rfl) (by kernel_rfl) (fun _ _ _ h => h) (Or.inl ⟨by rfl, ?hyt6⟩) (by assumption) ?restt6
                          case hyt6 => (intro w hSw; (try dsimp only at hSw); go_simp; (try with_reducible rfl))
                          case restt6 =>
                            (try simp only [Act.put, List.setIfInBounds_toArray, List.set_cons_zero, List.set_cons_succ, List.getElem_toArray, List.getElem_cons_zero, List.getElem_cons_succ])
                            refine wpAnyH_take (i := 7) (v := ?vvt7) rfl (by kernel_rfl) (by kernel_rfl) (by kernel_rfl) (fun _ _ _ h => h) (Or.inl ⟨by rfl, ?hyt7⟩) (by assumption) ?restt7
                            case hyt7 => (intro w hSw; (try dsimp only at hSw); go_simp; (try with_reducible rfl))
                            case restt7 =>
                              (try simp only [Act.put, List.setIfInBounds_toArray, List.set_cons_zero, List.set_cons_succ, List.getElem_toArray, List.getElem_cons_zero, List.getElem_cons_succ])
                              refine wpAnyH_take (i := 8) (v := ?vvt8) rfl (by kernel_rfl) (by kernel_rfl) (by kernel_rfl) (fun _ _ _ h => h) (Or.inl ⟨by rfl, ?hyt8⟩) (by assumption) ?restt8
                              case hyt8 => (intro w hSw; (try dsimp only at hSw); go_simp; (try with_reducible rfl))
                              case restt8 =>
                                (try simp only [Act.put, List.setIfInBounds_toArray, List.set_cons_zero, List.set_cons_succ, List.getElem_toArray, List.getElem_cons_zero, List.getElem_cons_succ])
                                refine wpAnyH_take (i := 10) (v := ?vvt9) rfl (by kernel_rfl) (by kernel_rfl) (by kernel_rfl) (fun _ _ _ h => h) (Or.inl ⟨by rfl, ?hyt9⟩) (by assumption) ?restt9
                                case hyt9 => (intro w hSw; (try dsimp only at hSw); go_simp; (try with_reducible rfl))
                                case restt9 =>
                                  (try simp only [Act.put, List.setIfInBounds_toArray, List.set_cons_zero, List.set_cons_succ, List.getElem_toArray, List.getElem_cons_zero, List.getElem_cons_succ])
                                  refine wpAnyH_take (i := 11) (v := ?vvt10) rfl (by kernel_rfl) (by kernel_rfl) (by kernel_rfl) (fun _ _ _ h => h) (Or.inl ⟨by rfl, ?hyt10⟩) (by assumption) ?restt10
                                  case hyt10 => (intro w hSw; (try dsimp only at hSw); go_simp; (try with_reducible rfl))
                                  case restt10 =>
                                    (try simp only [Act.put, List.setIfInBounds_toArray, List.set_cons_zero, List.set_cons_succ, List.getElem_toArray, List.getElem_cons_zero, List.getElem_cons_succ])
                                    refine wpAnyH_take (i := 12) (v := ?vvt11) rfl (by kernel_rfl) (by kernel_rfl) (by kernel_rfl) (fun _ _ _ h => h) (Or.inl ⟨by rfl, ?hyt11⟩) (by assumption) ?restt11
                                    case hyt11 => (intro w hSw; (try dsimp only at hSw); go_simp; (try with_reducible rfl))
                                    case restt11 =>
                                      (try simp only [Act.put, List.setIfInBounds_toArray, List.set_cons_zero, List.set_cons_succ, List.getElem_toArray, List.getElem_cons_zero, List.getElem_cons_succ])
                                      refine wpAnyH_take (i := 13) (v := ?vvt12) rfl (by kernel_rfl) (by kernel_rfl) (by kernel_rfl) (fun _ _ _ h => h) (Or.inl ⟨by rfl, ?hyt12⟩) (by assumption) ?restt12
                                      case hyt12 => (intro w hSw; (try dsimp only at hSw); go_simp; (try with_reducible rfl))
                                      case restt12 =>
                                        (try simp only [Act.put, List.setIfInBounds_toArray, List.set_cons_zero, List.set_cons_succ, List.getElem_toArray, List.getElem_cons_zero, List.getElem_cons_succ])
                                        refine wpAnyH_take (i := 14) (v := ?vvt13) rfl (by kernel_rfl) (by kernel_rfl) (by kernel_rfl) (fun _ _ _ h => h) (Or.inl ⟨by rfl, ?hyt13⟩) (by assumption) ?restt13
                                        case hyt13 => (intro w hSw; (try dsimp only at hSw); go_simp; (try with_reducible rfl))
                                        case restt13 =>
                                          (try simp only [Act.put, List.setIfInBounds_toArray, List.set_cons_zero, List.set_cons_succ, List.getElem_toArray, List.getElem_cons_zero, List.getElem_cons_succ])
                                          refine wpAnyH_ready (rs := [1, 9]) (by kernel_rfl) (by simp) ?_
                                          refine (AllReadyH.cons rfl (fun K hK => ?_) (AllReadyH.cons rfl (fun K hK => ?_) AllReadyH.nil))
                                          · go_simp
                                            refine hK.out _ _ ?_ (fun hHeld => ?_)
                                            · exact ⟨x0, x1, y1, hxk, hyk⟩
                                            clear hK K
                                            (try simp only [Act.put, List.setIfInBounds_toArray, List.set_cons_zero, List.set_cons_succ, List.getElem_toArray, List.getElem_cons_zero, List.getElem_cons_succ])
                                            refine wpAnyH_ready (rs := [9]) (by kernel_rfl) (by simp) ?_
                                            refine (AllReadyH.cons rfl (fun K hK => ?_) AllReadyH.nil)
                                            go_simp
                                            (go_at_call 39; refine (power_any _ _ (by omega) (by omega)).mono ?_; rintro e w' ⟨rfl, rfl⟩)
                                            go_wp2_with fail
                                            refine hK.out _ _ ?_ (fun hHeld => ?_)
                                            · exact ⟨x0, x1, y1, hxk, hyk⟩
                                            clear hK K
                                            (try simp only [Act.put, List.setIfInBounds_toArray, List.set_cons_zero, List.set_cons_succ, List.getElem_toArray, List.getElem_cons_zero, List.getElem_cons_succ])
                                            refine wpAnyH_take (i := 15) (v := ?vvt14) rfl (by kernel_rfl) (by kernel_rfl) (by kernel_rfl) (fun _ _ _ h => h) (Or.inl ⟨by rfl, ?hyt14⟩) (by assumption) ?restt14
                                            case hyt14 => (intro w hSw; (try dsimp only at hSw); go_simp; (try with_reducible rfl))
                                            case restt14 =>
                                              (try simp only [Act.put, List.setIfInBounds_toArray, List.set_cons_zero, List.set_cons_succ, List.getElem_toArray, List.getElem_cons_zero, List.getElem_cons_succ])
                                              refine wpAnyH_take (i := 16) (v := ?vvt15) rfl (by kernel_rfl) (by kernel_rfl) (by kernel_rfl) (fun _ _ _ h => h) (Or.inl ⟨by rfl, ?hyt15⟩) (by assumption) ?restt15
                                              case hyt15 => (intro w hSw; (try dsimp only at hSw); go_simp; (try with_reducible rfl))
                                              case restt15 =>
                                                (try simp only [Act.put, List.setIfInBounds_toArray, List.set_cons_zero, List.set_cons_succ, List.getElem_toArray, List.getElem_cons_zero, List.getElem_cons_succ])
                                                refine wpAnyH_ready (rs := [17]) (by kernel_rfl) (by simp) ?_
                                                refine (AllReadyH.cons rfl (fun K hK => ?_) AllReadyH.nil)
                                                go_simp
                                                refine hK.out _ _ ?_ (fun hHeld => ?_)
                                                · exact (HKA.out)
                                                clear hK K
                                                (try simp only [Act.put, List.setIfInBounds_toArray, List.set_cons_zero, List.set_cons_succ, List.getElem_toArray, List.getElem_cons_zero, List.getElem_cons_succ])
                                                refine wpAnyH_ready (rs := [18]) (by kernel_rfl) (by simp) ?_
                                                refine (AllReadyH.cons rfl (fun K hK => ?_) AllReadyH.nil)
                                                (refine step_append_lies _ (by rfl) _ _ _ (by rfl) (w2.heap.size + 1) 3 i0 (.int .i64 0) 1 8 Try.underlying22 hi0 hz0 hz1 hz2 rfl (by decide) _ _ _ (by rfl) ((hown.alloc _).drew) ⟨wr.heap.size, 0, none⟩ 1 1 [.int .i64 (xs[j] + pw na * ys[k])] (by rfl) (by rfl) (World.news_of_block (cs := #[.int .i64 (xs[j] + pw na * ys[k])]) (t := 3) (fr := (0, 0)) (heap_alloc_new wr _)) (by simp [Value.oneCell']) (by omega) (by unfold maxLen; omega) (by omega) (by simp; omega) (wr.heap.size + 1) (by simp) ?_; intro gg cc w5 hown5 hgrow hat hltg; have hb5 : Below (w2.heap.size + 1) wr w5 := (((Below.refl _ _).alloc (by omega) _).drew).grown hgrow (by simp; omega) (fun j hj => own_ge hown j hj); have hblk5 := (hb5.block w2.heap.size (Nat.lt_succ_self _)).trans hblk; have f5 := unfrozen_of_block hblk5 1; have g5 := cell_of_block hblk5 1; have hbs : ∀ u : Value, Below w2.heap.size wr (w5.setCell ⟨w2.heap.size, 1, none⟩ u) := fun u => (hb5.mono (Nat.le_succ _)).setCell (p := ⟨w2.heap.size, 1, none⟩) (Nat.le_refl _) u)
                                                refine hK.out _ _ ?_ (fun hHeld => ?_)
                                                · exact ⟨(hb5.cell (p := ⟨w.heap.size, 0, none⟩) (Nat.lt_succ_of_lt hw1)).trans x0, (hb5.cell (p := ⟨w.heap.size, 1, none⟩) (Nat.lt_succ_of_lt hw1)).trans x1, (hb5.cell (p := ⟨w.heap.size + 1, 1, none⟩) (Nat.lt_succ_of_lt hw2)).trans y1, (hb5.cell (p := ⟨xb, xo + j, none⟩) (Nat.lt_succ_of_lt hxw)).trans hxk, (hb5.cell (p := ⟨yb, yo + k, none⟩) (Nat.lt_succ_of_lt hyw)).trans hyk⟩
                                                clear hK K
                                                (try simp only [Act.put, List.setIfInBounds_toArray, List.set_cons_zero, List.set_cons_succ, List.getElem_toArray, List.getElem_cons_zero, List.getElem_cons_succ])
                                                refine wpAnyH_take (i := 19) (v := ?vvt16) rfl (by kernel_rfl) (by kernel_rfl) (by kernel_rfl) (fun _ _ _ h => h) (Or.inl ⟨by rfl, ?hyt16⟩) (by assumption) ?restt16
                                                case hyt16 => (intro w hSw; (try dsimp only at hSw); go_simp; (try with_reducible rfl))
                                                case restt16 =>
                                                  (try simp only [Act.put, List.setIfInBounds_toArray, List.set_cons_zero, List.set_cons_succ, List.getElem_toArray, List.getElem_cons_zero, List.getElem_cons_succ])
                                                  refine wpAnyH_ready (rs := [20]) (by kernel_rfl) (by simp) ?_
                                                  refine (AllReadyH.cons rfl (fun K hK => ?_) AllReadyH.nil)
                                                  go_simp
                                                  refine hK.out _ _ ?_ (fun hHeld => ?_)
                                                  · exact ⟨((hbs _).cell (p := ⟨w.heap.size, 0, none⟩) hw1).trans x0, ((hbs _).cell (p := ⟨w.heap.size, 1, none⟩) hw1).trans x1, ((hbs _).cell (p := ⟨w.heap.size + 1, 1, none⟩) hw2).trans y1, ((hbs _).cell (p := ⟨xb, xo + j, none⟩) hxw).trans hxk, ((hbs _).cell (p := ⟨yb, yo + k, none⟩) hyw).trans hyk⟩
                                                  clear hK K
                                                  (try simp only [Act.put, List.setIfInBounds_toArray, List.set_cons_zero, List.set_cons_succ, List.getElem_toArray, List.getElem_cons_zero, List.getElem_cons_succ])
                                                  refine wpAnyH_done (by kernel_rfl) ?_ _
                                                  go_wp2
                                                  go_roundw
                                                  case rel =>
                                                    refine ⟨j + 1, _, by omega, by go_num, block_setCell (i := 1) hblk5 _, ?_, BR.trans (hbs _)⟩
                                                    rw [hrt.out, ← List.append_assoc, ← HZ.out]
                                                    exact (Owns.push hown5).setBelow (p := ⟨w2.heap.size, 1, none⟩) (Nat.lt_succ_self _) _
                                                  case measure => simp [intOf]; omega
                                          · go_simp
                                            (go_at_call 39; refine (power_any _ _ (by omega) (by omega)).mono ?_; rintro e w' ⟨rfl, rfl⟩)
                                            go_wp2_with fail
                                            refine hK.out _ _ ?_ (fun hHeld => ?_)
                                            · exact ⟨x0, x1, y1, hxk, hyk⟩
                                            clear hK K
                                            (try simp only [Act.put, List.setIfInBounds_toArray, List.set_cons_zero, List.set_cons_succ, List.getElem_toArray, List.getElem_cons_zero, List.getElem_cons_succ])
                                            refine wpAnyH_take (i := 15) (v := ?vvt17) rfl (by kernel_rfl) (by kernel_rfl) (by kernel_rfl) (fun _ _ _ h => h) (Or.inl ⟨by rfl, ?hyt17⟩) (by assumption) ?restt17
                                            case hyt17 => (intro w hSw; (try dsimp only at hSw); go_simp; (try with_reducible rfl))
                                            case restt17 =>
                                              (try simp only [Act.put, List.setIfInBounds_toArray, List.set_cons_zero, List.set_cons_succ, List.getElem_toArray, List.getElem_cons_zero, List.getElem_cons_succ])
                                              refine wpAnyH_take (i := 16) (v := ?vvt18) rfl (by kernel_rfl) (by kernel_rfl) (by kernel_rfl) (fun _ _ _ h => h) (Or.inl ⟨by rfl, ?hyt18⟩) (by assumption) ?restt18
                                              case hyt18 => (intro w hSw; (try dsimp only at hSw); go_simp; (try with_reducible rfl))
                                              case restt18 =>
                                                (try simp only [Act.put, List.setIfInBounds_toArray, List.set_cons_zero, List.set_cons_succ, List.getElem_toArray, List.getElem_cons_zero, List.getElem_cons_succ])
                                                refine wpAnyH_ready (rs := [1, 17]) (by kernel_rfl) (by simp) ?_
                                                refine (AllReadyH.cons rfl (fun K hK => ?_) (AllReadyH.cons rfl (fun K hK => ?_) AllReadyH.nil))
                                                · go_simp
                                                  refine hK.out _ _ ?_ (fun hHeld => ?_)
                                                  · exact ⟨x0, x1, y1, hxk, hyk⟩
                                                  clear hK K
                                                  (try simp only [Act.put, List.setIfInBounds_toArray, List.set_cons_zero, List.set_cons_succ, List.getElem_toArray, List.getElem_cons_zero, List.getElem_cons_succ])
                                                  refine wpAnyH_ready (rs := [17]) (by kernel_rfl) (by simp) ?_
                                                  refine (AllReadyH.cons rfl (fun K hK => ?_) AllReadyH.nil)
                                                  go_simp
                                                  refine hK.out _ _ ?_ (fun hHeld => ?_)
                                                  · exact (HKA.out)
                                                  clear hK K
                                                  (try simp only [Act.put, List.setIfInBounds_toArray, List.set_cons_zero, List.set_cons_succ, List.getElem_toArray, List.getElem_cons_zero, List.getElem_cons_succ])
                                                  refine wpAnyH_ready (rs := [18]) (by kernel_rfl) (by simp) ?_
                                                  refine (AllReadyH.cons rfl (fun K hK => ?_) AllReadyH.nil)
                                                  (refine step_append_lies _ (by rfl) _ _ _ (by rfl) (w2.heap.size + 1) 3 i0 (.int .i64 0) 1 8 Try.underlying22 hi0 hz0 hz1 hz2 rfl (by decide) _ _ _ (by rfl) ((hown.alloc _).drew) ⟨wr.heap.size, 0, none⟩ 1 1 [.int .i64 (xs[j] + pw na * ys[k])] (by rfl) (by rfl) (World.news_of_block (cs := #[.int .i64 (xs[j] + pw na * ys[k])]) (t := 3) (fr := (0, 0)) (heap_alloc_new wr _)) (by simp [Value.oneCell']) (by omega) (by unfold maxLen; omega) (by omega) (by simp; omega) (wr.heap.size + 1) (by simp) ?_; intro gg cc w5 hown5 hgrow hat hltg; have hb5 : Below (w2.heap.size + 1) wr w5 := (((Below.refl _ _).alloc (by omega) _).drew).grown hgrow (by simp; omega) (fun j hj => own_ge hown j hj); have hblk5 := (hb5.block w2.heap.size (Nat.lt_succ_self _)).trans hblk; have f5 := unfrozen_of_block hblk5 1; have g5 := cell_of_block hblk5 1; have hbs : ∀ u : Value, Below w2.heap.size wr (w5.setCell ⟨w2.heap.size, 1, none⟩ u) := fun u => (hb5.mono (Nat.le_succ _)).setCell (p := ⟨w2.heap.size, 1, none⟩) (Nat.le_refl _) u)
                                                  refine hK.out _ _ ?_ (fun hHeld => ?_)
                                                  · exact ⟨(hb5.cell (p := ⟨w.heap.size, 0, none⟩) (Nat.lt_succ_of_lt hw1)).trans x0, (hb5.cell (p := ⟨w.heap.size, 1, none⟩) (Nat.lt_succ_of_lt hw1)).trans x1, (hb5.cell (p := ⟨w.heap.size + 1, 1, none⟩) (Nat.lt_succ_of_lt hw2)).trans y1, (hb5.cell (p := ⟨xb, xo + j, none⟩) (Nat.lt_succ_of_lt hxw)).trans hxk, (hb5.cell (p := ⟨yb, yo + k, none⟩) (Nat.lt_succ_of_lt hyw)).trans hyk⟩
                                                  clear hK K
                                                  (try simp only [Act.put, List.setIfInBounds_toArray, List.set_cons_zero, List.set_cons_succ, List.getElem_toArray, List.getElem_cons_zero, List.getElem_cons_succ])
                                                  refine wpAnyH_take (i := 19) (v := ?vvt19) rfl (by kernel_rfl) (by kernel_rfl) (by kernel_rfl) (fun _ _ _ h => h) (Or.inl ⟨by rfl, ?hyt19⟩) (by assumption) ?restt19
                                                  case hyt19 => (intro w hSw; (try dsimp only at hSw); go_simp; (try with_reducible rfl))
                                                  case restt19 =>
                                                    (try simp only [Act.put, List.setIfInBounds_toArray, List.set_cons_zero, List.set_cons_succ, List.getElem_toArray, List.getElem_cons_zero, List.getElem_cons_succ])
                                                    refine wpAnyH_ready (rs := [20]) (by kernel_rfl) (by simp) ?_
                                                    refine (AllReadyH.cons rfl (fun K hK => ?_) AllReadyH.nil)
                                                    go_simp
                                                    refine hK.out _ _ ?_ (fun hHeld => ?_)
                                                    · exact ⟨((hbs _).cell (p := ⟨w.heap.size, 0, none⟩) hw1).trans x0, ((hbs _).cell (p := ⟨w.heap.size, 1, none⟩) hw1).trans x1, ((hbs _).cell (p := ⟨w.heap.size + 1, 1, none⟩) hw2).trans y1, ((hbs _).cell (p := ⟨xb, xo + j, none⟩) hxw).trans hxk, ((hbs _).cell (p := ⟨yb, yo + k, none⟩) hyw).trans hyk⟩
                                                    clear hK K
                                                    (try simp only [Act.put, List.setIfInBounds_toArray, List.set_cons_zero, List.set_cons_succ, List.getElem_toArray, List.getElem_cons_zero, List.getElem_cons_succ])
                                                    refine wpAnyH_done (by kernel_rfl) ?_ _
                                                    go_wp2
                                                    go_roundw
                                                    case rel =>
                                                      refine ⟨j + 1, _, by omega, by go_num, block_setCell (i := 1) hblk5 _, ?_, BR.trans (hbs _)⟩
                                                      rw [hrt.out, ← List.append_assoc, ← HZ.out]
                                                      exact (Owns.push hown5).setBelow (p := ⟨w2.heap.size, 1, none⟩) (Nat.lt_succ_self _) _
                                                    case measure => simp [intOf]; omega
                                                · go_simp
                                                  refine hK.out _ _ ?_ (fun hHeld => ?_)
                                                  · exact (HKA.out)
                                                  clear hK K
                                                  (try simp only [Act.put, List.setIfInBounds_toArray, List.set_cons_zero, List.set_cons_succ, List.getElem_toArray, List.getElem_cons_zero, List.getElem_cons_succ])
                                                  refine wpAnyH_ready (rs := [1]) (by kernel_rfl) (by simp) ?_
                                                  refine (AllReadyH.cons rfl (fun K hK => ?_) AllReadyH.nil)
                                                  go_simp
                                                  refine hK.out _ _ ?_ (fun hHeld => ?_)
                                                  · exact (HKA.out)
                                                  clear hK K
                                                  (try simp only [Act.put, List.setIfInBounds_toArray, List.set_cons_zero, List.set_cons_succ, List.getElem_toArray, List.getElem_cons_zero, List.getElem_cons_succ])
                                                  refine wpAnyH_ready (rs := [18]) (by kernel_rfl) (by simp) ?_
                                                  refine (AllReadyH.cons rfl (fun K hK => ?_) AllReadyH.nil)
                                                  (refine step_append_lies _ (by rfl) _ _ _ (by rfl) (w2.heap.size + 1) 3 i0 (.int .i64 0) 1 8 Try.underlying22 hi0 hz0 hz1 hz2 rfl (by decide) _ _ _ (by rfl) ((hown.alloc _).drew) ⟨wr.heap.size, 0, none⟩ 1 1 [.int .i64 (xs[j] + pw na * ys[k])] (by rfl) (by rfl) (World.news_of_block (cs := #[.int .i64 (xs[j] + pw na * ys[k])]) (t := 3) (fr := (0, 0)) (heap_alloc_new wr _)) (by simp [Value.oneCell']) (by omega) (by unfold maxLen; omega) (by omega) (by simp; omega) (wr.heap.size + 1) (by simp) ?_; intro gg cc w5 hown5 hgrow hat hltg; have hb5 : Below (w2.heap.size + 1) wr w5 := (((Below.refl _ _).alloc (by omega) _).drew).grown hgrow (by simp; omega) (fun j hj => own_ge hown j hj); have hblk5 := (hb5.block w2.heap.size (Nat.lt_succ_self _)).trans hblk; have f5 := unfrozen_of_block hblk5 1; have g5 := cell_of_block hblk5 1; have hbs : ∀ u : Value, Below w2.heap.size wr (w5.setCell ⟨w2.heap.size, 1, none⟩ u) := fun u => (hb5.mono (Nat.le_succ _)).setCell (p := ⟨w2.heap.size, 1, none⟩) (Nat.le_refl _) u)
                                                  refine hK.out _ _ ?_ (fun hHeld => ?_)
                                                  · exact ⟨(hb5.cell (p := ⟨w.heap.size, 0, none⟩) (Nat.lt_succ_of_lt hw1)).trans x0, (hb5.cell (p := ⟨w.heap.size, 1, none⟩) (Nat.lt_succ_of_lt hw1)).trans x1, (hb5.cell (p := ⟨w.heap.size + 1, 1, none⟩) (Nat.lt_succ_of_lt hw2)).trans y1, (hb5.cell (p := ⟨xb, xo + j, none⟩) (Nat.lt_succ_of_lt hxw)).trans hxk, (hb5.cell (p := ⟨yb, yo + k, none⟩) (Nat.lt_succ_of_lt hyw)).trans hyk⟩
                                                  clear hK K
                                                  (try simp only [Act.put, List.setIfInBounds_toArray, List.set_cons_zero, List.set_cons_succ, List.getElem_toArray, List.getElem_cons_zero, List.getElem_cons_succ])
                                                  refine wpAnyH_take (i := 19) (v := ?vvt20) rfl (by kernel_rfl) (by kernel_rfl) (by kernel_rfl) (fun _ _ _ h => h) (Or.inl ⟨by rfl, ?hyt20⟩) (by assumption) ?restt20
                                                  case hyt20 => (intro w hSw; (try dsimp only at hSw); go_simp; (try with_reducible rfl))
                                                  case restt20 =>
                                                    (try simp only [Act.put, List.setIfInBounds_toArray, List.set_cons_zero, List.set_cons_succ, List.getElem_toArray, List.getElem_cons_zero, List.getElem_cons_succ])
                                                    refine wpAnyH_ready (rs := [20]) (by kernel_rfl) (by simp) ?_
                                                    refine (AllReadyH.cons rfl (fun K hK => ?_) AllReadyH.nil)
                                                    go_simp
                                                    refine hK.out _ _ ?_ (fun hHeld => ?_)
                                                    · exact ⟨((hbs _).cell (p := ⟨w.heap.size, 0, none⟩) hw1).trans x0, ((hbs _).cell (p := ⟨w.heap.size, 1, none⟩) hw1).trans x1, ((hbs _).cell (p := ⟨w.heap.size + 1, 1, none⟩) hw2).trans y1, ((hbs _).cell (p := ⟨xb, xo + j, none⟩) hxw).trans hxk, ((hbs _).cell (p := ⟨yb, yo + k, none⟩) hyw).trans hyk⟩
                                                    clear hK K
                                                    (try simp only [Act.put, List.setIfInBounds_toArray, List.set_cons_zero, List.set_cons_succ, List.getElem_toArray, List.getElem_cons_zero, List.getElem_cons_succ])
                                                    refine wpAnyH_done (by kernel_rfl) ?_ _
                                                    go_wp2
                                                    go_roundw
                                                    case rel =>
                                                      refine ⟨j + 1, _, by omega, by go_num, block_setCell (i := 1) hblk5 _, ?_, BR.trans (hbs _)⟩
                                                      rw [hrt.out, ← List.append_assoc, ← HZ.out]
                                                      exact (Owns.push hown5).setBelow (p := ⟨w2.heap.size, 1, none⟩) (Nat.lt_succ_self _) _
                                                    case measure => simp [intOf]; omega
              · obtain rfl : j = xs.length := by omega
                rw [List.take_length] at hown
                go_wp2_with fail
                go_roundw
                case rel => exact ⟨k + 1, v, by omega, by go_num, hblk, by rw [hct.out]; exact hown, BR⟩
                case measure => simp only [intOf]; omega
          · obtain rfl : k = ys.length := by omega
            rw [List.take_length] at hown
            have hblk0 := SR.2.2.2.2.1
            have f0 := unfrozen_of_block hblk0 0
            have f1 := unfrozen_of_block hblk0 1
            have g0 := cell_of_block hblk0 0
            have g1 := cell_of_block hblk0 1
            have q0 := cell_of_block hblk 0
            have q1 := cell_of_block hblk 1
            have hle := S2.2.2.2.2.2.size
            obtain ⟨av, cv, rfl, iv, hg⟩ := hown.form
            go_wp2_with fail
            refine bodyPost_ret (ret_cross rfl _ _ _ _ _ rfl (block_setCell (i := 1) (block_setCell (i := 0) hblk0 _) _)) rfl ?_
            have e1 : crsN na xs nb ys = na + nb := if_pos HK.out
            have e2 : crsL na xs nb ys = crossL (pw na) xs ys := if_pos HK.out
            have e3 : crsB na xs nb ys = true := by simpa [crsB] using HK.out
            rw [e1, e2, e3]
            refine ⟨_, rfl, ?_, SR.set _ _⟩
            exact ((hown.setBelow (p := ⟨w.heap.size + 1 + 1, 0, none⟩) (Nat.lt_succ_of_lt (lt_of_block S2.2.2.2.2.1)) _).setBelow (p := ⟨w.heap.size + 1 + 1, 1, none⟩) (Nat.lt_succ_of_lt (lt_of_block S2.2.2.2.2.1)) _).le (Nat.le_succ_of_le hle)
end Go.Proofs.Ytbnnblfgpdfmpaa

/- CrsM: Crossed spaces: what the law says of them. Plain mathematics. -/
namespace Go.Proofs.Ytbnnblfgpdfmpaa
open Go.RowKit Go.Joins

/-- the two halves of a part -/
def loP (A : Nat) (p : Nat × Nat) : Nat × Nat := (p.1 % 2 ^ A, p.2 % 2 ^ A)
def hiP (A : Nat) (p : Nat × Nat) : Nat × Nat := (p.1 / 2 ^ A, p.2 / 2 ^ A)
/-- a part of the second space in the crossed one -/
def shP (A : Nat) (p : Nat × Nat) : Nat × Nat := (p.1 * 2 ^ A, p.2 * 2 ^ A)
theorem and_halves {A z c b : Nat} : z &&& c = b ↔ (z % 2 ^ A) &&& (c % 2 ^ A) = b % 2 ^ A ∧ (z / 2 ^ A) &&& (c / 2 ^ A) = b / 2 ^ A := by
  rw [← Nat.and_mod_two_pow, ← Nat.and_div_two_pow]
  constructor
  · intro h
    rw [h]
    exact ⟨rfl, rfl⟩
  · rintro ⟨h1, h2⟩
    rw [← Nat.div_add_mod (z &&& c) (2 ^ A), ← Nat.div_add_mod b (2 ^ A), h1, h2]
section
variable {A B : Nat} {xs ys : List Int}
theorem crs_mem (hx : Valid (A : Int) xs) (hy : Valid (B : Int) ys) (z : Nat) : (z : Int) ∈ crossL (pw (A : Int)) xs ys ↔ ((z % 2 ^ A : Nat) : Int) ∈ xs ∧ ((z / 2 ^ A : Nat) : Int) ∈ ys := by
  have e : pw (A : Int) = ((2 ^ A : Nat) : Int) := by unfold pw; rw [Int.toNat_natCast]
  have p1 := Nat.two_pow_pos A
  unfold crossL rowL
  rw [e, List.mem_flatMap]
  constructor
  · rintro ⟨y, hyy, hz⟩
    obtain ⟨x, hxx, hz⟩ := List.mem_map.1 hz
    have h1 := valid_lt hx hxx
    have h2 := valid_lt hy hyy
    obtain ⟨u, hu⟩ : ∃ u : Nat, u = x.toNat := ⟨_, rfl⟩
    obtain ⟨v, hv⟩ : ∃ v : Nat, v = y.toNat := ⟨_, rfl⟩
    obtain rfl : x = (u : Int) := by omega
    obtain rfl : y = (v : Int) := by omega
    have hul : u < 2 ^ A := by have := h1.2; omega
    have ez : z = u + 2 ^ A * v := by
      rw [← Int.natCast_mul, ← Int.natCast_add] at hz
      omega
    have e1 : z % 2 ^ A = u := by rw [ez, Nat.add_mul_mod_self_left, Nat.mod_eq_of_lt hul]
    have e2 : z / 2 ^ A = v := by rw [ez, Nat.add_mul_div_left _ _ p1, Nat.div_eq_of_lt hul, Nat.zero_add]
    rw [e1, e2]
    exact ⟨hxx, hyy⟩
  · rintro ⟨h1, h2⟩
    refine ⟨_, h2, List.mem_map.2 ⟨_, h1, ?_⟩⟩
    rw [← Int.natCast_mul, ← Int.natCast_add, Nat.mod_add_div]
theorem crs_valid (hx : Valid (A : Int) xs) (hy : Valid (B : Int) ys) (hN : A + B ≤ 4) : Valid ((A + B : Nat) : Int) (crossL (pw (A : Int)) xs ys) := by
  have e : pw (A : Int) = ((2 ^ A : Nat) : Int) := by unfold pw; rw [Int.toNat_natCast]
  have eN : pw ((A + B : Nat) : Int) = ((2 ^ A * 2 ^ B : Nat) : Int) := by unfold pw; rw [Int.toNat_natCast, Nat.pow_add]
  have p1 := Nat.two_pow_pos A
  have hA := hx.1
  have hB := hy.1
  have hlen : 0 < (crossL (pw (A : Int)) xs ys).length := by
    rw [cross_len]
    exact Nat.mul_pos hy.2.1 hx.2.1
  have hpw : (crossL (pw (A : Int)) xs ys).Pairwise (· < ·) := by
    unfold crossL rowL
    rw [List.pairwise_flatMap]
    refine ⟨fun y _ => ?_, (valid_pair hy).imp fun {y y'} hlt a ha b hb => ?_⟩
    · rw [List.pairwise_map]
      exact (valid_pair hx).imp fun h => by omega
    · obtain ⟨x, hxx, rfl⟩ := List.mem_map.1 ha
      obtain ⟨x', hxx', rfl⟩ := List.mem_map.1 hb
      have h1 := valid_range hx _ hxx
      have h2 := valid_lt hx hxx
      have h3 := valid_range hx _ hxx'
      rw [e]
      have h4 : ((2 ^ A : Nat) : Int) * (y + 1) ≤ ((2 ^ A : Nat) : Int) * y' := Int.mul_le_mul_of_nonneg_left (by omega) (by omega)
      rw [Int.mul_add, Int.mul_one] at h4
      have h5 := h2.2
      omega
  refine ⟨by omega, hlen, fun i hi => ⟨?_, fun h0 => ?_⟩⟩
  · rw [getD_lt hi]
    have hm := List.getElem_mem hi
    obtain ⟨z, hz⟩ : ∃ z, z = (crossL (pw (A : Int)) xs ys)[i] := ⟨_, rfl⟩
    rw [← hz] at hm ⊢
    unfold crossL rowL at hm
    obtain ⟨y, hyy, hm⟩ := List.mem_flatMap.1 hm
    obtain ⟨x, hxx, rfl⟩ := List.mem_map.1 hm
    have h1 := valid_lt hx hxx
    have h2 := valid_lt hy hyy
    have h3 := h1.2
    have h4 := h2.2
    rw [eN, e]
    obtain ⟨u, hu⟩ : ∃ u : Nat, u = x.toNat := ⟨_, rfl⟩
    obtain ⟨v, hv⟩ : ∃ v : Nat, v = y.toNat := ⟨_, rfl⟩
    obtain rfl : x = (u : Int) := by omega
    obtain rfl : y = (v : Int) := by omega
    rw [Int.toNat_natCast] at h3 h4
    have h5 : 2 ^ A * (v + 1) ≤ 2 ^ A * 2 ^ B := Nat.mul_le_mul_left _ h4
    rw [Nat.mul_add, Nat.mul_one] at h5
    rw [← Int.natCast_mul, ← Int.natCast_add]
    omega
  · rw [getD_lt hi, getD_lt (by omega)]
    exact List.pairwise_iff_getElem.1 hpw (i - 1) i (by omega) hi (by omega)
theorem crs_opn (hx : Valid (A : Int) xs) (hy : Valid (B : Int) ys) (hN : A + B ≤ 4) (p : Nat × Nat) : opn (crossL (pw (A : Int)) xs ys) p = (opn xs (loP A p) && opn ys (hiP A p)) := by
  have hC := crs_valid hx hy hN
  have p1 := Nat.two_pow_pos A
  have nat : ∀ {n : Nat} {zs : List Int}, Valid (n : Int) zs → ∀ z ∈ zs, ∃ u : Nat, (u : Int) = z := fun h z hz => ⟨z.toNat, by have := valid_lt h hz; omega⟩
  rw [Bool.eq_iff_iff, Bool.and_eq_true, opn_iff, opn_iff, opn_iff]
  unfold loP hiP
  constructor
  · rintro ⟨z, hz, h⟩
    obtain ⟨u, rfl⟩ := nat hC z hz
    rw [Int.toNat_natCast] at h
    obtain ⟨h1, h2⟩ := (crs_mem hx hy u).1 hz
    obtain ⟨h3, h4⟩ := (and_halves (A := A)).1 h
    exact ⟨⟨_, h1, by rw [Int.toNat_natCast]; exact h3⟩, ⟨_, h2, by rw [Int.toNat_natCast]; exact h4⟩⟩
  · rintro ⟨⟨x, hxx, h1⟩, ⟨y, hyy, h2⟩⟩
    have hul := (valid_lt hx hxx).2
    obtain ⟨u, rfl⟩ := nat hx x hxx
    obtain ⟨v, rfl⟩ := nat hy y hyy
    rw [Int.toNat_natCast] at h1 h2 hul
    have e1 : (u + 2 ^ A * v) % 2 ^ A = u := by rw [Nat.add_mul_mod_self_left, Nat.mod_eq_of_lt hul]
    have e2 : (u + 2 ^ A * v) / 2 ^ A = v := by rw [Nat.add_mul_div_left _ _ p1, Nat.div_eq_of_lt hul, Nat.zero_add]
    refine ⟨((u + 2 ^ A * v : Nat) : Int), (crs_mem hx hy _).2 (by rw [e1, e2]; exact ⟨hxx, hyy⟩), ?_⟩
    rw [Int.toNat_natCast]
    refine (and_halves (A := A)).2 ?_
    rw [e1, e2]
    exact ⟨h1, h2⟩
/-! ### median -/
theorem med_mod (x y z A : Nat) : med x y z % 2 ^ A = med (x % 2 ^ A) (y % 2 ^ A) (z % 2 ^ A) := by
  unfold med
  simp only [Nat.or_mod_two_pow, Nat.and_mod_two_pow]
theorem med_div (x y z A : Nat) : med x y z / 2 ^ A = med (x / 2 ^ A) (y / 2 ^ A) (z / 2 ^ A) := by
  unfold med
  simp only [Nat.or_div_two_pow, Nat.and_div_two_pow]
theorem crs_med (hx : Valid (A : Int) xs) (hy : Valid (B : Int) ys) (hN : A + B ≤ 4) : closedB med ((A + B : Nat) : Int) (crossL (pw (A : Int)) xs ys) = (closedB med (A : Int) xs && closedB med (B : Int) ys) := by
  have hC := crs_valid hx hy hN
  have p1 := Nat.two_pow_pos A
  have join : ∀ u v : Nat, (u : Int) ∈ xs → (v : Int) ∈ ys → (u + 2 ^ A * v) % 2 ^ A = u ∧ (u + 2 ^ A * v) / 2 ^ A = v := fun u v hu hv => by
    have hul := (valid_lt hx hu).2
    rw [Int.toNat_natCast] at hul
    exact ⟨by rw [Nat.add_mul_mod_self_left, Nat.mod_eq_of_lt hul], by rw [Nat.add_mul_div_left _ _ p1, Nat.div_eq_of_lt hul, Nat.zero_add]⟩
  rw [Bool.eq_iff_iff, Bool.and_eq_true, closed_mem join_med hC, closed_mem join_med hx, closed_mem join_med hy]
  have hx0 := valid_lt hx (List.getElem_mem hx.2.1)
  have hy0 := valid_lt hy (List.getElem_mem hy.2.1)
  obtain ⟨u0, hu0⟩ : ∃ u0 : Nat, (u0 : Int) ∈ xs := ⟨(xs[0]'hx.2.1).toNat, by rw [Int.toNat_of_nonneg hx0.1]; exact List.getElem_mem hx.2.1⟩
  obtain ⟨v0, hv0⟩ : ∃ v0 : Nat, (v0 : Int) ∈ ys := ⟨(ys[0]'hy.2.1).toNat, by rw [Int.toNat_of_nonneg hy0.1]; exact List.getElem_mem hy.2.1⟩
  constructor
  · intro h
    refine ⟨fun a b c ha hb hc => ?_, fun a b c ha hb hc => ?_⟩
    · have h1 := h (a + 2 ^ A * v0) (b + 2 ^ A * v0) (c + 2 ^ A * v0)
        ((crs_mem hx hy _).2 (by rw [(join a v0 ha hv0).1, (join a v0 ha hv0).2]; exact ⟨ha, hv0⟩))
        ((crs_mem hx hy _).2 (by rw [(join b v0 hb hv0).1, (join b v0 hb hv0).2]; exact ⟨hb, hv0⟩))
        ((crs_mem hx hy _).2 (by rw [(join c v0 hc hv0).1, (join c v0 hc hv0).2]; exact ⟨hc, hv0⟩))
      have h2 := ((crs_mem hx hy _).1 h1).1
      rw [med_mod, (join a v0 ha hv0).1, (join b v0 hb hv0).1, (join c v0 hc hv0).1] at h2
      exact h2
    · have h1 := h (u0 + 2 ^ A * a) (u0 + 2 ^ A * b) (u0 + 2 ^ A * c)
        ((crs_mem hx hy _).2 (by rw [(join u0 a hu0 ha).1, (join u0 a hu0 ha).2]; exact ⟨hu0, ha⟩))
        ((crs_mem hx hy _).2 (by rw [(join u0 b hu0 hb).1, (join u0 b hu0 hb).2]; exact ⟨hu0, hb⟩))
        ((crs_mem hx hy _).2 (by rw [(join u0 c hu0 hc).1, (join u0 c hu0 hc).2]; exact ⟨hu0, hc⟩))
      have h2 := ((crs_mem hx hy _).1 h1).2
      rw [med_div, (join u0 a hu0 ha).2, (join u0 b hu0 hb).2, (join u0 c hu0 hc).2] at h2
      exact h2
  · rintro ⟨h1, h2⟩ a b c ha hb hc
    have a1 := (crs_mem hx hy _).1 ha
    have b1 := (crs_mem hx hy _).1 hb
    have c1 := (crs_mem hx hy _).1 hc
    refine (crs_mem hx hy _).2 ?_
    rw [med_mod, med_div]
    exact ⟨h1 _ _ _ a1.1 b1.1 c1.1, h2 _ _ _ a1.2 b1.2 c1.2⟩
/-! ### critical parts -/
set_option maxRecDepth 100000 in
theorem hv_chk : ((List.range 5).all fun A => (List.range 4).all fun j => (List.range 16).all fun c => bitN c j == 0 || (List.range 16).all fun b => !(b &&& c == b) ||
    (if j < A then hiP A (lessP j (c, b)) == hiP A (c, b) else loP A (lessP j (c, b)) == loP A (c, b) && hiP A (lessP j (c, b)) == lessP (j - A) (hiP A (c, b)))) = true := by decide +kernel
theorem hv_at {A j : Nat} {m : Nat × Nat} (hA : A < 5) (hj : j < 4) (h1 : m.1 < 16) (hb : m.2 &&& m.1 = m.2) (hi : bitN m.1 j = 1) :
    (j < A → hiP A (lessP j m) = hiP A m) ∧ (¬ j < A → loP A (lessP j m) = loP A m ∧ hiP A (lessP j m) = lessP (j - A) (hiP A m)) := by
  have h2 : m.2 < 16 := by
    have : m.2 &&& m.1 ≤ m.1 := Nat.and_le_right
    omega
  have h := List.all_eq_true.1 (List.all_eq_true.1 (List.all_eq_true.1 hv_chk A (List.mem_range.2 hA)) j (List.mem_range.2 hj)) m.1 (List.mem_range.2 h1)
  rw [hi, show ((1 : Nat) == 0) = false from rfl, Bool.false_or] at h
  have h' := List.all_eq_true.1 h m.2 (List.mem_range.2 h2)
  rw [show (m.2 &&& m.1 == m.2) = true from by simpa using hb, Bool.not_true, Bool.false_or] at h'
  constructor
  · intro hlt
    rw [if_pos hlt, beq_iff_eq] at h'
    exact h'
  · intro hlt
    rw [if_neg hlt, Bool.and_eq_true, beq_iff_eq, beq_iff_eq] at h'
    exact h'
set_option maxRecDepth 100000 in
theorem nz_chk : ((List.range 5).all fun A => (List.range 16).all fun c => (c % 2 ^ A == 0 || (List.range 4).any fun j => decide (j < A) && bitN c j == 1) && (c / 2 ^ A == 0 || (List.range 4).any fun j => decide (A ≤ j) && bitN c j == 1) && (List.range 4).all fun j => bitN (c * 2 ^ A) j == 0 || decide (A ≤ j)) = true := by decide +kernel
theorem nz_at {A c : Nat} (hA : A < 5) (hc : c < 16) : (c % 2 ^ A ≠ 0 → ∃ j, j < 4 ∧ j < A ∧ bitN c j = 1) ∧ (c / 2 ^ A ≠ 0 → ∃ j, j < 4 ∧ A ≤ j ∧ bitN c j = 1) ∧ ∀ j, j < 4 → bitN (c * 2 ^ A) j = 1 → A ≤ j := by
  have h := List.all_eq_true.1 (List.all_eq_true.1 nz_chk A (List.mem_range.2 hA)) c (List.mem_range.2 hc)
  simp only [Bool.and_eq_true, Bool.or_eq_true, beq_iff_eq, List.any_eq_true, List.mem_range, decide_eq_true_eq, List.all_eq_true] at h
  obtain ⟨⟨h1, h2⟩, h3⟩ := h
  refine ⟨fun h => ?_, fun h => ?_, fun j hj hb => ?_⟩
  · rcases h1 with h1 | ⟨j, a, b, d⟩
    · exact absurd h1 h
    · exact ⟨j, a, b, d⟩
  · rcases h2 with h2 | ⟨j, a, b, d⟩
    · exact absurd h2 h
    · exact ⟨j, a, b, d⟩
  · rcases h3 j hj with e | e
    · omega
    · exact e
set_option maxRecDepth 100000 in
theorem sh_chk : ((List.range 5).all fun A => (List.range 4).all fun j => (List.range 16).all fun c => bitN (c * 2 ^ A) j == 0 || decide (j < A) || (bitN c (j - A) == 1 && (List.range 16).all fun b => !(b &&& c == b) || lessP j (shP A (c, b)) == shP A (lessP (j - A) (c, b)))) = true := by decide +kernel
theorem sh_at {A j : Nat} {m : Nat × Nat} (hA : A < 5) (hj : j < 4) (h1 : m.1 < 16) (hb : m.2 &&& m.1 = m.2) (hi : bitN (m.1 * 2 ^ A) j = 1) : A ≤ j ∧ bitN m.1 (j - A) = 1 ∧ lessP j (shP A m) = shP A (lessP (j - A) m) := by
  have h2 : m.2 < 16 := by
    have : m.2 &&& m.1 ≤ m.1 := Nat.and_le_right
    omega
  have hle := (nz_at hA h1).2.2 j hj hi
  have h := List.all_eq_true.1 (List.all_eq_true.1 (List.all_eq_true.1 sh_chk A (List.mem_range.2 hA)) j (List.mem_range.2 hj)) m.1 (List.mem_range.2 h1)
  rw [hi, show ((1 : Nat) == 0) = false from rfl, Bool.false_or, show decide (j < A) = false from decide_eq_false (by omega), Bool.false_or, Bool.and_eq_true, beq_iff_eq] at h
  have h' := List.all_eq_true.1 h.2 m.2 (List.mem_range.2 h2)
  rw [show (m.2 &&& m.1 == m.2) = true from by simpa using hb, Bool.not_true, Bool.false_or, beq_iff_eq] at h'
  exact ⟨hle, h.1, h'⟩
theorem opn_zero {n : Nat} {zs : List Int} (h : Valid (n : Int) zs) : opn zs (0, 0) = true := opn_iff.2 ⟨_, List.getElem_mem h.2.1, Nat.and_zero _⟩
theorem half_lo {p : Nat × Nat} (h1 : p.1 < 2 ^ A) (h2 : p.2 < 2 ^ A) : loP A p = p ∧ hiP A p = (0, 0) := by
  unfold loP hiP
  rw [Nat.mod_eq_of_lt h1, Nat.mod_eq_of_lt h2, Nat.div_eq_of_lt h1, Nat.div_eq_of_lt h2]
  exact ⟨rfl, rfl⟩
theorem half_sh (p : Nat × Nat) : loP A (shP A p) = (0, 0) ∧ hiP A (shP A p) = p := by
  have p1 := Nat.two_pow_pos A
  unfold loP hiP shP
  simp only [Nat.mul_mod_left, Nat.mul_div_cancel _ p1]
  exact ⟨trivial, trivial⟩
theorem bit_lt {c n j : Nat} (hc : c < 2 ^ n) (h : bitN c j = 1) : j < n := by
  rcases Nat.lt_or_ge j n with h1 | h1
  · exact h1
  · unfold bitN at h
    rw [Nat.div_eq_of_lt (Nat.lt_of_lt_of_le hc (Nat.pow_le_pow_right (by omega) h1))] at h
    cases h
theorem less_le (j : Nat) (p : Nat × Nat) : (lessP j p).1 ≤ p.1 ∧ (lessP j p).2 ≤ p.2 := by
  unfold lessP
  exact ⟨Nat.sub_le _ _, Nat.sub_le _ _⟩
theorem crs_c1 (hx : Valid (A : Int) xs) (hy : Valid (B : Int) ys) (hN : A + B ≤ 4) {m : Nat × Nat} (hm : m ∈ critL A xs) : m ∈ critL (A + B) (crossL (pw (A : Int)) xs ys) := by
  obtain ⟨h1, h2⟩ := crit_mem.1 hm
  have hf := ord_facts (show A ≤ 4 by omega) h1
  have hb : m.2 ≤ m.1 := by rw [← hf.2.1]; exact Nat.and_le_right
  have pp : 2 ^ A ≤ 2 ^ (A + B) := Nat.pow_le_pow_right (by omega) (by omega)
  obtain ⟨h3, h4⟩ := cr_iff.1 h2
  have e1 := half_lo (p := m) hf.1 (by omega)
  refine crit_mem.2 ⟨ord_mem hN (by omega) hf.2.1, cr_iff.2 ⟨?_, fun j hj hb1 => ?_⟩⟩
  · rw [crs_opn hx hy hN, e1.1, e1.2, h3]
    rfl
  · have hl := less_le j m
    have e2 := half_lo (A := A) (p := lessP j m) (by omega) (by omega)
    rw [crs_opn hx hy hN, e2.1, e2.2, h4 j (bit_lt hf.1 hb1) hb1, opn_zero hy]
    rfl
theorem crs_c2 (hx : Valid (A : Int) xs) (hy : Valid (B : Int) ys) (hN : A + B ≤ 4) {m : Nat × Nat} (hm : m ∈ critL B ys) : shP A m ∈ critL (A + B) (crossL (pw (A : Int)) xs ys) := by
  obtain ⟨h1, h2⟩ := crit_mem.1 hm
  have hf := ord_facts (show B ≤ 4 by omega) h1
  have p1 := Nat.two_pow_pos A
  have hb : m.2 ≤ m.1 := by rw [← hf.2.1]; exact Nat.and_le_right
  have pB : 2 ^ B ≤ 2 ^ 4 := Nat.pow_le_pow_right (by omega) (by omega)
  obtain ⟨h3, h4⟩ := cr_iff.1 h2
  have e1 := half_sh (A := A) m
  have hlt : (shP A m).1 < 2 ^ (A + B) := by
    show m.1 * 2 ^ A < 2 ^ (A + B)
    rw [Nat.pow_add, Nat.mul_comm (2 ^ A)]
    exact Nat.mul_lt_mul_of_pos_right hf.1 p1
  have hand : (shP A m).2 &&& (shP A m).1 = (shP A m).2 := by
    refine (and_halves (A := A)).2 ?_
    have e1' := e1
    unfold loP hiP at e1'
    simp only [Prod.mk.injEq] at e1'
    have q2 : ((shP A m).1 / 2 ^ A, (shP A m).2 / 2 ^ A) = m := e1'.2
    have q3 := congrArg Prod.fst q2
    have q4 := congrArg Prod.snd q2
    simp only at q3 q4
    rw [e1'.1.1, e1'.1.2, q3, q4]
    exact ⟨rfl, hf.2.1⟩
  refine crit_mem.2 ⟨ord_mem hN hlt hand, cr_iff.2 ⟨?_, fun j hj hb1 => ?_⟩⟩
  · rw [crs_opn hx hy hN, e1.1, e1.2, h3, Bool.and_false]
  · obtain ⟨q1, q2, q3⟩ := sh_at (A := A) (j := j) (m := m) (by omega) (by omega) (by omega) hf.2.1 hb1
    have e2 := half_sh (A := A) (lessP (j - A) m)
    rw [crs_opn hx hy hN, q3, e2.1, e2.2, opn_zero hx, h4 (j - A) (by omega) q2]
    rfl
theorem crs_c3 (hx : Valid (A : Int) xs) (hy : Valid (B : Int) ys) (hN : A + B ≤ 4) {m : Nat × Nat} (hm : m ∈ critL (A + B) (crossL (pw (A : Int)) xs ys)) : m ∈ critL A xs ∨ ∃ k ∈ critL B ys, shP A k = m := by
  obtain ⟨h1, h2⟩ := crit_mem.1 hm
  have hf := ord_facts hN h1
  have p1 := Nat.two_pow_pos A
  have p16 : 2 ^ (A + B) ≤ 2 ^ 4 := Nat.pow_le_pow_right (by omega) hN
  have hA := hx.1
  have hB := hy.1
  have hc16 : m.1 < 16 := by have := hf.1; omega
  have hb : m.2 ≤ m.1 := by rw [← hf.2.1]; exact Nat.and_le_right
  obtain ⟨h3, h4⟩ := cr_iff.1 h2
  rw [crs_opn hx hy hN, Bool.and_eq_false_iff] at h3
  have nz := nz_at (A := A) (c := m.1) (by omega) hc16
  have hvm := fun j (hj : j < 4) (hb1 : bitN m.1 j = 1) => hv_at (A := A) (j := j) (m := m) (by omega) hj hc16 hf.2.1 hb1
  have full : ∀ j, j < 4 → bitN m.1 j = 1 → opn xs (loP A (lessP j m)) = true ∧ opn ys (hiP A (lessP j m)) = true := fun j hj hb1 => by
    have h := h4 j (bit_lt hf.1 hb1) hb1
    rw [crs_opn hx hy hN, Bool.and_eq_true] at h
    exact h
  rcases h3 with h3 | h3
  · left
    have hz : m.1 / 2 ^ A = 0 := by
      refine Classical.byContradiction fun hne => ?_
      obtain ⟨j, hj, hle, hb1⟩ := nz.2.1 hne
      have h5 := (full j hj hb1).1
      rw [((hvm j hj hb1).2 (by omega)).1, h3] at h5
      cases h5
    have hlt : m.1 < 2 ^ A := by
      rcases Nat.div_eq_zero_iff.1 hz with h | h
      · omega
      · exact h
    have e1 := half_lo (p := m) hlt (by omega)
    rw [e1.1] at h3
    refine crit_mem.2 ⟨ord_mem (by omega) hlt hf.2.1, cr_iff.2 ⟨h3, fun j hj hb1 => ?_⟩⟩
    have h5 := (full j (by omega) hb1).1
    have hl := less_le j m
    rwa [(half_lo (A := A) (p := lessP j m) (by omega) (by omega)).1] at h5
  · right
    have hz : m.1 % 2 ^ A = 0 := by
      refine Classical.byContradiction fun hne => ?_
      obtain ⟨j, hj, hlt, hb1⟩ := nz.1 hne
      have h5 := (full j hj hb1).2
      rw [(hvm j hj hb1).1 hlt, h3] at h5
      cases h5
    obtain ⟨q1, q2⟩ := (and_halves (A := A)).1 hf.2.1
    rw [hz, Nat.and_zero] at q1
    have e : shP A (hiP A m) = m := by
      unfold shP hiP
      have a1 := Nat.div_add_mod m.1 (2 ^ A)
      have a2 := Nat.div_add_mod m.2 (2 ^ A)
      rw [hz, Nat.mul_comm] at a1
      rw [← q1, Nat.mul_comm] at a2
      exact Prod.ext a1 a2
    have hlt : (hiP A m).1 < 2 ^ B := by
      show m.1 / 2 ^ A < 2 ^ B
      refine Nat.div_lt_of_lt_mul ?_
      rw [← Nat.pow_add]
      exact hf.1
    refine ⟨hiP A m, crit_mem.2 ⟨ord_mem (by omega) hlt q2, cr_iff.2 ⟨h3, fun j hj hb1 => ?_⟩⟩, e⟩
    have hb2 : bitN m.1 (A + j) = 1 := by
      have h : bitN (m.1 / 2 ^ A) j = 1 := hb1
      unfold bitN at h ⊢
      rw [Nat.div_div_eq_div_mul, ← Nat.pow_add] at h
      exact h
    have h5 := (full (A + j) (by omega) hb2).2
    rw [((hvm (A + j) (by omega) hb2).2 (by omega)).2, Nat.add_sub_cancel_left] at h5
    exact h5
theorem crit_nodup {n : Nat} (hn : n ≤ 4) (zs : List Int) : (critL n zs).Nodup := by
  have h := of_decide_eq_true (range5_of ord_nodup hn)
  exact List.Pairwise.filter _ h
theorem crs_count (hx : Valid (A : Int) xs) (hy : Valid (B : Int) ys) (hN : A + B ≤ 4) : (critL (A + B) (crossL (pw (A : Int)) xs ys)).length = (critL A xs).length + (critL B ys).length := by
  have p1 := Nat.two_pow_pos A
  have le1 := nodup_le _ (critL A xs ++ (critL B ys).map (shP A)) (crit_nodup hN (crossL (pw (A : Int)) xs ys)) fun m hm => by
    rw [List.mem_append]
    rcases crs_c3 hx hy hN hm with h | ⟨k, hk, e⟩
    · exact Or.inl h
    · exact Or.inr (List.mem_map.2 ⟨k, hk, e⟩)
  have hnd : (critL A xs ++ (critL B ys).map (shP A)).Nodup := by
    refine List.pairwise_append.2 ⟨crit_nodup (by omega) xs, ?_, fun a ha b hb e => ?_⟩
    · rw [List.pairwise_map]
      refine List.Pairwise.imp (fun {a b} hne e => hne ?_) (crit_nodup (show B ≤ 4 by omega) ys)
      unfold shP at e
      simp only [Prod.mk.injEq] at e
      exact Prod.ext (Nat.eq_of_mul_eq_mul_right p1 e.1) (Nat.eq_of_mul_eq_mul_right p1 e.2)
    · obtain ⟨k, hk, rfl⟩ := List.mem_map.1 hb
      have h1 := (crit_pt hy hk).1
      have h2 := (ord_facts (show A ≤ 4 by omega) (crit_mem.1 ha).1).1
      rw [e] at h2
      have h3 : k.1 * 2 ^ A < 2 ^ A := h2
      have h4 : 1 * 2 ^ A ≤ k.1 * 2 ^ A := Nat.mul_le_mul_right _ (by omega)
      omega
  have le2 := nodup_le _ (critL (A + B) (crossL (pw (A : Int)) xs ys)) hnd fun m hm => by
    rcases List.mem_append.1 hm with h | h
    · exact crs_c1 hx hy hN h
    · obtain ⟨k, hk, rfl⟩ := List.mem_map.1 h
      exact crs_c2 hx hy hN hk
  rw [List.length_append, List.length_map] at le1 le2
  omega
/-! ### never blocked -/
theorem crs_LR (hx : Valid (A : Int) xs) (hy : Valid (B : Int) ys) (hN : A + B ≤ 4) {a b : Nat} (h : LR (A + B) (crossL (pw (A : Int)) xs ys) a b) : a < 2 * A ↔ b < 2 * A := by
  have hA := hx.1
  have hB := hy.1
  obtain ⟨m, hm, j, hj, k, hk, hc, rfl, rfl⟩ := h
  have hj4 := List.mem_range.1 hj
  have hk4 := List.mem_range.1 hk
  unfold condK at hc
  simp only [Bool.and_eq_true, bne_iff_ne, beq_iff_eq] at hc
  have b1 := bitN_le m.2 j
  have b2 := bitN_le m.2 k
  unfold plc opp
  rcases crs_c3 hx hy hN hm with h | ⟨q, hq, rfl⟩
  · have hl := (ord_facts (show A ≤ 4 by omega) (crit_mem.1 h).1).1
    have h1 := bit_lt hl hc.2.1
    have h2 := bit_lt hl hc.2.2
    omega
  · have h16 := (crit_pt hy hq).2.2.2.1
    have nz := nz_at (A := A) (c := q.1) (by omega) h16
    have h1 := nz.2.2 j (by omega) hc.2.1
    have h2 := nz.2.2 k (by omega) hc.2.2
    omega
theorem crs_blk (hx : Valid (A : Int) xs) (hy : Valid (B : Int) ys) (hN : A + B ≤ 4) : blkB ((A + B : Nat) : Int) (crossL (pw (A : Int)) xs ys) = false := by
  have hA := hx.1
  have hB := hy.1
  cases hb : blkB ((A + B : Nat) : Int) (crossL (pw (A : Int)) xs ys) with
  | false => rfl
  | true =>
    exfalso
    have hp := (blk_pth (vsB_true (crs_valid hx hy hN))).1 hb 0 (by omega) (2 * A) (by omega) (by omega)
    have key : ∀ a b, Pth (LR (A + B) (crossL (pw (A : Int)) xs ys)) a b → (a < 2 * A ↔ b < 2 * A) := fun a b hp => by
      induction hp with
      | one h => exact crs_LR hx hy hN h
      | more _ h ih => exact ih.trans (crs_LR hx hy hN h)
    have h2 := key _ _ hp
    omega
end
end Go.Proofs.Ytbnnblfgpdfmpaa

/- DrawCC: The draw of CrossSpaces: two spaces. -/
namespace Go.Proofs.Ytbnnblfgpdfmpaa
open Go.RowKit Go.Joins

/-- two results in cells, both spaces -/
theorem ret_bothS {fn : Func} {p q : Tmp} (h : fn.results = #[.cell p 26, .cell q 26]) (tmps : Array Value) (w : World) (g k : Nat) (x y c b : Value)
    (hp : tmps.getD p undef = .pointer (some ⟨g, 0, none⟩)) (hq : tmps.getD q undef = .pointer (some ⟨k, 0, none⟩)) (hw : w.heap[g]? = some (.cells #[x, y] 26 (0, 0))) (hk : w.heap[k]? = some (.cells #[c, b] 26 (0, 0))) :
    (results fn tmps).run Try.prog w = .ok (.tuple #[.agg #[x, y], .agg #[c, b]]) w := by
  have c0 := cell_of_block hw 0
  have c1 := cell_of_block hw 1
  have k0 := cell_of_block hk 0
  have k1 := cell_of_block hk 1
  have hr : (results fn tmps).run Try.prog w = ((asAddr (tmps.getD p undef)).run Try.prog w).andThen fun a w₁ => ((loadVar 26 a).run Try.prog w₁).andThen fun v w₂ => ((asAddr (tmps.getD q undef)).run Try.prog w₂).andThen fun a w₃ => ((loadVar 26 a).run Try.prog w₃).andThen fun u w₄ => .ok (.tuple #[v, u]) w₄ := by
    simp only [results, h]
    simp [Sem.run_bind, Result.andThen]
  rw [hr, hp, hq]
  simp [go_sem] at c0 c1 k0 k1 ⊢
  simp [c0, c1, k0, k1, go_sem]
theorem litC (w : World) (zs : List Int) : Ints (w.alloc (.cells (zs.map (Value.int .i64)).toArray 3)) (some ⟨w.heap.size, 0, none⟩) zs := fun _ =>
  ⟨w.heap.size, 0, rfl, by simp, fun k hk => by
    rw [Nat.zero_add]
    simp [go_sem, hk, List.getD_eq_getElem?_getD]⟩
/-- two answers' cells and the reader behind them -/
def CC (R : Nat) (w : World) (n : Nat) (wq : World) : Prop :=
  wq.heap[w.heap.size]? = some (.cells #[.int .i64 0, .slice none 0 0] 26 (0, 0)) ∧ wq.heap[w.heap.size + 1]? = some (.cells #[.int .i64 0, .slice none 0 0] 26 (0, 0)) ∧ Below w.heap.size w wq ∧ RD wq R n ∧ w.heap.size + 2 ≤ R
theorem CC.pick {R n k : Nat} {w wq w' : World} (h : CC R w n wq) (hg : wq.grownBy w' (some R)) (hr : RD w' R k) : CC R w k w' := by
  obtain ⟨h1, h2, h3, _, h5⟩ := h
  exact ⟨(hg.block _ (lt_of_block h1) (by simp; omega)).trans h1, (hg.block _ (lt_of_block h2) (by simp; omega)).trans h2, bgrown h3 hg h3.size (fun k hk => by cases hk; omega), hr, h5⟩
theorem CC.below {R n : Nat} {w wq w' : World} (h : CC R w n wq) (hb : Below wq.heap.size wq w') : CC R w n w' :=
  ⟨(hb.block _ (lt_of_block h.1)).trans h.1, (hb.block _ (lt_of_block h.2.1)).trans h.2.1, bnext h.2.2.1 hb, h.2.2.2.1.below hb, h.2.2.2.2⟩
/-- What a draw of two spaces leaves. -/
def DrawCCPost (w : World) (e : Ending) (w' : World) : Prop :=
  ∃ (m : Int) (a : Option Addr) (zs : List Int) (cap : Nat) (k : Int) (b : Option Addr) (us : List Int) (capb : Nat), e = .returned (.tuple #[.agg #[.int .i64 m, .slice a zs.length cap], .agg #[.int .i64 k, .slice b us.length capb]]) ∧ Ints w' a zs ∧ zs.length ≤ 65 ∧ zs.length ≤ cap ∧ Ints w' b us ∧ us.length ≤ 65 ∧ us.length ≤ capb ∧ Below w.heap.size w w'
theorem CC.done {R n : Nat} {w wq : World} {m k : Int} {a b : Option Addr} {cap capb K1 K2 : Nat} {zs us : List Int} (h : CC R w n wq) (o1 : Owns wq K1 (.slice a zs.length cap) zs) (o2 : Owns wq K2 (.slice b us.length capb) us) (h1 : w.heap.size + 2 ≤ K1) (h2 : w.heap.size + 2 ≤ K2) (l1 : zs.length ≤ 65) (l2 : us.length ≤ 65) (x y z u : Value) :
    ((((wq.setCell ⟨w.heap.size, 0, none⟩ x).setCell ⟨w.heap.size, 1, none⟩ y).setCell ⟨w.heap.size + 1, 0, none⟩ z).setCell ⟨w.heap.size + 1, 1, none⟩ u).heap[w.heap.size]? = some (.cells #[x, y] 26 (0, 0)) ∧
    ((((wq.setCell ⟨w.heap.size, 0, none⟩ x).setCell ⟨w.heap.size, 1, none⟩ y).setCell ⟨w.heap.size + 1, 0, none⟩ z).setCell ⟨w.heap.size + 1, 1, none⟩ u).heap[w.heap.size + 1]? = some (.cells #[z, u] 26 (0, 0)) ∧
    DrawCCPost w (.returned (.tuple #[.agg #[.int .i64 m, .slice a zs.length cap], .agg #[.int .i64 k, .slice b us.length capb]])) ((((wq.setCell ⟨w.heap.size, 0, none⟩ x).setCell ⟨w.heap.size, 1, none⟩ y).setCell ⟨w.heap.size + 1, 0, none⟩ z).setCell ⟨w.heap.size + 1, 1, none⟩ u) := by
  obtain ⟨g1, g2, g3, _, _⟩ := h
  have hne : w.heap.size ≠ w.heap.size + 1 := by omega
  have a1 := block_setCell (i := 1) (block_setCell (i := 0) g1 x) y
  have a2 := (Below.heap_setCell (wq.setCell ⟨w.heap.size, 0, none⟩ x) ⟨w.heap.size, 1, none⟩ y _ (show w.heap.size + 1 ≠ w.heap.size by omega)).trans ((Below.heap_setCell wq ⟨w.heap.size, 0, none⟩ x _ (show w.heap.size + 1 ≠ w.heap.size by omega)).trans g2)
  refine ⟨(Below.heap_setCell _ ⟨w.heap.size + 1, 1, none⟩ u _ hne).trans ((Below.heap_setCell _ ⟨w.heap.size + 1, 0, none⟩ z _ hne).trans a1), block_setCell (i := 1) (block_setCell (i := 0) a2 z) u, m, a, zs, cap, k, b, us, capb, rfl, ?_, l1, o1.cap, ?_, l2, o2.cap, ?_⟩
  · exact ((o1.set2 (g := w.heap.size) (by omega) x y).set2 (g := w.heap.size + 1) (by omega) z u).ints
  · exact ((o2.set2 (g := w.heap.size) (by omega) x y).set2 (g := w.heap.size + 1) (by omega) z u).ints
  · exact (((g3.setCell (p := ⟨w.heap.size, 0, none⟩) (Nat.le_refl _) _).setCell (p := ⟨w.heap.size, 1, none⟩) (Nat.le_refl _) _).setCell (p := ⟨w.heap.size + 1, 0, none⟩) (by show w.heap.size ≤ w.heap.size + 1; omega) _).setCell (p := ⟨w.heap.size + 1, 1, none⟩) (by show w.heap.size ≤ w.heap.size + 1; omega) _

set_option maxHeartbeats 4000000 in
set_option maxRecDepth 100000 in
theorem drawCrossSpaces_any (a : Option Addr) (cap : Nat) (zs : List Nat) (w : World) (hi : Byts w a zs) (hl : zs.length ≤ 1048576) (hc : zs.length ≤ cap) :
    Calls Try.prog 35 #[.slice a zs.length cap] w (DrawCCPost w) := by
  have b0 := bel2 w (.cells #[.int .i64 0, .slice none 0 0] 26) (.cells #[.int .i64 0, .slice none 0 0] 26)
  have h0 := ((bel1 (w.alloc (.cells #[.int .i64 0, .slice none 0 0] 26)) (.cells #[.int .i64 0, .slice none 0 0] 26)).block w.heap.size (by simp)).trans (heap_alloc_new w (.cells #[.int .i64 0, .slice none 0 0] 26))
  have k0 := heap_alloc_new (w.alloc (.cells #[.int .i64 0, .slice none 0 0] 26)) (.cells #[.int .i64 0, .slice none 0 0] 26)
  simp only [World.size_alloc] at k0
  have hib := hi.below b0
  have H0 := hide h0
  have K0 := hide k0
  have HB0 := hide b0
  clear hi h0 b0 k0
  go_enter Try.func35, Try.ntmps35
  go_wp2_with fail
  refine (newReader_any _ _ _ _ hib hl hc).mono ?_
  rintro e w1 ⟨R, rfl, hR, rd, B⟩
  have hR' : w.heap.size + 2 ≤ R := by simpa using hR
  have C1 : Hid (CC R w 0 w1) := ⟨(B.block w.heap.size (by simp; omega)).trans H0.out, (B.block (w.heap.size + 1) (by simp)).trans K0.out, bnext HB0.out B, rd, hR'⟩
  have HR := hide hR'
  clear hR hR' B hib H0 K0 HB0 rd
  go_wp2_with fail
  refine (pick_any R _ _ _ C1.out.2.2.2.1 (by omega) ⟨by omega, by omega⟩).mono ?_
  rintro e w2 ⟨r, rfl, _, _, _, g, rd⟩
  have C2 := hide (C1.out.pick g rd)
  clear g rd C1
  by_cases h0 : (r == 0) = true
  · go_wp2_with fail
    refine (someSpace_any R _ _ C2.out.2.2.2.1 (by omega)).mono ?_
    rintro e w3 ⟨m, v, ss, rfl, own, hsl, g, rd⟩
    have hR2 := C2.out.2.2.2.1.lt
    have C3 := hide (C2.out.pick g rd)
    have hz2 := hide C2.out.2.2.1.size
    have hz3 := hide g.size
    have HO := hide own
    have HSL := hide hsl.1
    have HRR := hide hR2
    clear g rd own hsl hR2 C2
    go_wp2_with fail
    refine (someSpace_any R _ _ C3.out.2.2.2.1 (by omega)).mono ?_
    rintro e w4 ⟨k, u, us, rfl, own, hul, g, rd⟩
    have C4 := hide (C3.out.pick g rd)
    have O1 := hide (HO.out.other g (fun k e => by cases e; exact HRR.out))
    have O2 := hide own
    have HUL := hide hul.1
    have hR4 := HR.out
    have hk1 : w.heap.size + 2 ≤ w2.heap.size := by have := HRR.out; omega
    have hk2 : w.heap.size + 2 ≤ w3.heap.size := by have := hz3.out; omega
    obtain ⟨av, cv, rfl, _, _⟩ := HO.out.form
    obtain ⟨bv, cu, rfl, _, _⟩ := own.form
    have f0 := unfrozen_of_block C4.out.1 0
    have f1 := unfrozen_of_block C4.out.1 1
    have r0 := cell_of_block C4.out.1 0
    have r1 := cell_of_block C4.out.1 1
    have f2 := unfrozen_of_block C4.out.2.1 0
    have f3 := unfrozen_of_block C4.out.2.1 1
    have r2 := cell_of_block C4.out.2.1 0
    have r3 := cell_of_block C4.out.2.1 1
    clear g rd own hul C3
    go_wp2_with fail
    refine bodyPost_ret (ret_bothS rfl _ _ _ _ _ _ _ _ rfl rfl (C4.out.done (m := m) (k := k) O1.out O2.out hk1 hk2 HSL.out HUL.out _ _ _ _).1 (C4.out.done (m := m) (k := k) O1.out O2.out hk1 hk2 HSL.out HUL.out _ _ _ _).2.1) rfl ?_
    exact (C4.out.done O1.out O2.out hk1 hk2 HSL.out HUL.out _ _ _ _).2.2
  · have h0 : (r == 0) = false := by simpa using h0
    have hl2 : Hid (Ints (w2.alloc (.cells #[.int .i64 2, .int .i64 1, .int .i64 2, .int .i64 3] 3)) (some ⟨w2.heap.size, 0, none⟩) [2, 1, 2, 3]) := litC w2 [2, 1, 2, 3]
    have C2' := hide (C2.out.below (bel1 w2 (.cells #[.int .i64 2, .int .i64 1, .int .i64 2, .int .i64 3] 3)))
    have HR2 := hide C2.out.2.2.2.1.lt
    have hz2 := hide C2.out.2.2.1.size
    clear C2
    go_wp2_with fail
    refine (one_any R _ 4 _ _ _ C2'.out.2.2.2.1 (by omega) hl2.out (by simp) (by simp) (fun b o s e => by cases e; have := HR2.out; omega)).mono ?_
    rintro e w3 ⟨m, hm, rfl, g, rd⟩
    have hm4 : 1 ≤ m ∧ m ≤ 4 := by
      simp only [List.mem_cons, List.not_mem_nil, or_false] at hm
      omega
    have C3 := hide (C2'.out.pick g rd)
    have hz3 : Hid (w2.heap.size + 1 ≤ w3.heap.size) := by unfold Hid; have := g.size; simpa using this
    clear g rd hm C2' hl2
    go_wp2_with fail
    refine (spaceOf_any R _ m _ C3.out.2.2.2.1 (by omega) hm4.1 hm4.2).mono ?_
    rintro e w4 ⟨m', v, ss, rfl, own, hsl, g, rd⟩
    have C4 := hide (C3.out.pick g rd)
    have hz4 := hide g.size
    have hl4 : Hid (Ints (w4.alloc (.cells #[.int .i64 2, .int .i64 1, .int .i64 1, .int .i64 2] 3)) (some ⟨w4.heap.size, 0, none⟩) [2, 1, 1, 2]) := litC w4 [2, 1, 1, 2]
    have C4' := hide (C4.out.below (bel1 w4 (.cells #[.int .i64 2, .int .i64 1, .int .i64 1, .int .i64 2] 3)))
    have O4 := hide (own.below (bel1 w4 (.cells #[.int .i64 2, .int .i64 1, .int .i64 1, .int .i64 2] 3)))
    have HSL := hide hsl.1
    clear g rd own hsl C3 C4 hm4
    go_wp2_with fail
    refine (one_any R _ 4 _ _ _ C4'.out.2.2.2.1 (by omega) hl4.out (by simp) (by simp) (fun b o s e => by cases e; have := HR2.out; have := hz3.out; have := hz4.out; omega)).mono ?_
    rintro e w5 ⟨k, hk, rfl, g, rd⟩
    have hk4 : 1 ≤ k ∧ k ≤ 4 := by
      simp only [List.mem_cons, List.not_mem_nil, or_false] at hk
      omega
    have C5 := hide (C4'.out.pick g rd)
    have O5 := hide (O4.out.other g (fun k e => by cases e; have := HR2.out; have := hz3.out; omega))
    have hz5 : Hid (w4.heap.size + 1 ≤ w5.heap.size) := by unfold Hid; have := g.size; simpa using this
    clear g rd hk C4' hl4 O4
    go_wp2_with fail
    refine (spaceOf_any R _ k _ C5.out.2.2.2.1 (by omega) hk4.1 hk4.2).mono ?_
    rintro e w6 ⟨k', u, us, rfl, own, hul, g, rd⟩
    have C6 := hide (C5.out.pick g rd)
    have O1 := hide (O5.out.other g (fun k e => by cases e; have := HR2.out; have := hz3.out; omega))
    have O2 := hide own
    have HUL := hide hul.1
    have hR4 := HR.out
    have l1 : ss.length ≤ 65 := by have := HSL.out; omega
    have l2 : us.length ≤ 65 := by have := HUL.out; omega
    have hk1 : w.heap.size + 2 ≤ w3.heap.size := by have := HR2.out; have := hz3.out; omega
    have hk2 : w.heap.size + 2 ≤ w5.heap.size := by have := hz4.out; have := hz5.out; omega
    obtain ⟨av, cv, rfl, _, _⟩ := O1.out.form
    obtain ⟨bv, cu, rfl, _, _⟩ := own.form
    have f0 := unfrozen_of_block C6.out.1 0
    have f1 := unfrozen_of_block C6.out.1 1
    have r0 := cell_of_block C6.out.1 0
    have r1 := cell_of_block C6.out.1 1
    have f2 := unfrozen_of_block C6.out.2.1 0
    have f3 := unfrozen_of_block C6.out.2.1 1
    have r2 := cell_of_block C6.out.2.1 0
    have r3 := cell_of_block C6.out.2.1 1
    clear g rd own hul C5 O5
    go_wp2_with fail
    refine bodyPost_ret (ret_bothS rfl _ _ _ _ _ _ _ _ rfl rfl (C6.out.done (m := m') (k := k') O1.out O2.out hk1 hk2 l1 l2 _ _ _ _).1 (C6.out.done (m := m') (k := k') O1.out O2.out hk1 hk2 l1 l2 _ _ _ _).2.1) rfl ?_
    exact (C6.out.done O1.out O2.out hk1 hk2 l1 l2 _ _ _ _).2.2
end Go.Proofs.Ytbnnblfgpdfmpaa

/- PCross: The law of CrossSpaces answers true at every code: its walk. -/
namespace Go.Proofs.Ytbnnblfgpdfmpaa
open Go.RowKit Go.Joins

/-- three spaces in variables -/
def QC (w1 : World) (m : Int) (av : Option Addr) (ss : List Int) (cv g2 : Nat) (nn : Int) (oa : Option Addr) (C : List Int) (oc g8 : Nat) (xn : Int) (xa : Option Addr) (xl : List Int) (xc : Nat) (w' : World) : Prop :=
  Box w' w1.heap.size m av ss.length cv ∧ Ints w' av ss ∧ Box w' g2 nn oa C.length oc ∧ Ints w' oa C ∧ Box w' g8 xn xa xl.length xc ∧ Ints w' xa xl ∧ Below w1.heap.size w1 w'
theorem QC.below {w1 wx wy : World} {m : Int} {av : Option Addr} {ss : List Int} {cv g2 : Nat} {nn : Int} {oa : Option Addr} {C : List Int} {oc g8 : Nat} {xn : Int} {xa : Option Addr} {xl : List Int} {xc : Nat} (h : QC w1 m av ss cv g2 nn oa C oc g8 xn xa xl xc wx) (hb : Below wx.heap.size wx wy) : QC w1 m av ss cv g2 nn oa C oc g8 xn xa xl xc wy :=
  ⟨h.1.below hb, h.2.1.below hb, h.2.2.1.below hb, h.2.2.2.1.below hb, h.2.2.2.2.1.below hb, h.2.2.2.2.2.1.below hb, bnext h.2.2.2.2.2.2 hb⟩
theorem QC.drew {w1 wx : World} {m : Int} {av : Option Addr} {ss : List Int} {cv g2 : Nat} {nn : Int} {oa : Option Addr} {C : List Int} {oc g8 : Nat} {xn : Int} {xa : Option Addr} {xl : List Int} {xc : Nat} (h : QC w1 m av ss cv g2 nn oa C oc g8 xn xa xl xc wx) : QC w1 m av ss cv g2 nn oa C oc g8 xn xa xl xc wx.drew := h.below (bdrew' (Below.refl _ _))
theorem QC.third {w1 wx : World} {m : Int} {av : Option Addr} {ss : List Int} {cv g2 : Nat} {nn : Int} {oa : Option Addr} {C : List Int} {oc g8 g9 : Nat} {xn yn : Int} {xa ya : Option Addr} {xl yl : List Int} {xc yc : Nat} (h : QC w1 m av ss cv g2 nn oa C oc g8 xn xa xl xc wx) (hb : Box wx g9 yn ya yl.length yc) (hi : Ints wx ya yl) : QC w1 m av ss cv g2 nn oa C oc g9 yn ya yl yc wx :=
  ⟨h.1, h.2.1, h.2.2.1, h.2.2.2.1, hb, hi, h.2.2.2.2.2.2⟩
theorem crossSX_was (na nb : Int) (a b : Option Addr) (ca cb : Nat) (xs ys : List Int) (N : Int) (L : List Int) (B : Bool) (w : World) (hx : Ints w a xs) (hy : Ints w b ys) (hn : xs.length ≤ 1048576) (hm : ys.length ≤ 1048576) (h1 : crsN na xs nb ys = N) (h2 : crsL na xs nb ys = L) (h3 : crsB na xs nb ys = B) :
    Calls Try.prog 33 #[.agg #[.int .i64 na, .slice a xs.length ca], .agg #[.int .i64 nb, .slice b ys.length cb]] w (GivesX N L B w) := by
  subst h1 h2 h3
  exact specCross_any na nb a b ca cb xs ys w hx hy hn hm
theorem crossPX_was (na nb : Int) (a b : Option Addr) (ca cb : Nat) (xs ys : List Int) (N : Int) (L : List Int) (B : Bool) (w : World) (hx : Ints w a xs) (hy : Ints w b ys) (hn : xs.length ≤ 1048576) (hm : ys.length ≤ 1048576) (h1 : crsN na xs nb ys = N) (h2 : crsL na xs nb ys = L) (h3 : crsB na xs nb ys = B) :
    Calls Try.prog 34 #[.agg #[.int .i64 na, .slice a xs.length ca], .agg #[.int .i64 nb, .slice b ys.length cb]] w (GivesX N L B w) := by
  subst h1 h2 h3
  exact implCross_any na nb a b ca cb xs ys w hx hy hn hm
theorem implBlkX_was (n : Int) (a : Option Addr) (cap : Nat) (zs : List Int) (r : Bool) (w : World) (hi : Ints w a zs) (hn : zs.length ≤ 1048576) (h : blkB n zs = r) :
    Calls Try.prog 28 #[.agg #[.int .i64 n, .slice a zs.length cap]] w fun e w' => e = .returned (.bool r) ∧ Below w.heap.size w w' := by
  subst h
  exact implIsBlocked_any n a cap zs w hi hn
theorem critX_was (n : Int) (a : Option Addr) (cap : Nat) (zs : List Int) (K : Nat) (w : World) (hi : Ints w a zs) (hn : zs.length ≤ 1048576) (h : (crR n zs).length = K) :
    Calls Try.prog 24 #[.agg #[.int .i64 n, .slice a zs.length cap]] w fun e w' => ∃ va vc, e = .returned (.slice va K vc) ∧ Below w.heap.size w w' := by
  refine (implCrit_was n a cap zs _ w hi hn rfl).mono ?_
  rintro e w' ⟨v, rfl, ov, hb⟩
  obtain ⟨va, vc, rfl, _⟩ := ov.form
  exact ⟨va, vc, by rw [h], hb⟩
theorem cross_wraps {a b l k1 k2 k : Nat} (hp : (a : Int) * (b : Int) = (l : Int)) (hl : l ≤ 256) (hk : (k1 : Int) + (k2 : Int) = (k : Int)) (h8 : k ≤ 81) : IntKind.i64.wrap ((a : Int) * (b : Int)) = (l : Int) ∧ wrap64 ((a : Int) * (b : Int)) = (l : Int) ∧ wrap64 (l : Int) = (l : Int) ∧ IntKind.i64.wrap (l : Int) = (l : Int) ∧ IntKind.i64.wrap ((k1 : Int) + (k2 : Int)) = (k : Int) ∧ wrap64 ((k1 : Int) + (k2 : Int)) = (k : Int) ∧ wrap64 (k : Int) = (k : Int) ∧ IntKind.i64.wrap (k : Int) = (k : Int) := by
  have h1 : wrap64 (l : Int) = (l : Int) := IntWalk.wrap64_in _ (by omega)
  have h2 : IntKind.i64.wrap (l : Int) = (l : Int) := IntWalk.i64_in _ (by omega)
  have h3 : wrap64 (k : Int) = (k : Int) := IntWalk.wrap64_in _ (by omega)
  have h4 : IntKind.i64.wrap (k : Int) = (k : Int) := IntWalk.i64_in _ (by omega)
  rw [hp, hk]
  exact ⟨h2, h1, h1, h2, h4, h3, h3, h4⟩
/-- what the law says of a crossed space -/
theorem cross_law {na nb : Int} {xs ys : List Int} (h : crsB na xs nb ys = true) : ∃ A B N : Nat, na = (A : Int) ∧ nb = (B : Int) ∧ crsN na xs nb ys = (N : Int) ∧ ((xs.length : Int) * (ys.length : Int) = ((crsL na xs nb ys).length : Int) ∧ (crsL na xs nb ys).length ≤ 256) ∧
    (crR (N : Int) (crsL na xs nb ys)).length = (crR na xs).length + (crR nb ys).length ∧ blkB (N : Int) (crsL na xs nb ys) = false ∧ closedB med (N : Int) (crsL na xs nb ys) = (closedB med na xs && closedB med nb ys) := by
  have hok : CrossOk na xs nb ys := by simpa [crsB] using h
  obtain ⟨hx, hy, hN⟩ := hok
  have e2 : crsL na xs nb ys = crossL (pw na) xs ys := if_pos ⟨hx, hy, hN⟩
  have e1 : crsN na xs nb ys = na + nb := if_pos ⟨hx, hy, hN⟩
  have hlen := crL_len na xs nb ys
  rw [e2] at hlen ⊢
  rw [e1]
  obtain ⟨A, rfl⟩ : ∃ A : Nat, na = (A : Int) := ⟨na.toNat, by have := hx.1; omega⟩
  obtain ⟨B, rfl⟩ : ∃ B : Nat, nb = (B : Int) := ⟨nb.toNat, by have := hy.1; omega⟩
  have hN' : A + B ≤ 4 := by omega
  have hV := crs_valid hx hy hN'
  refine ⟨A, B, A + B, rfl, rfl, by omega, ⟨?_, hlen⟩, ?_, crs_blk hx hy hN', crs_med hx hy hN'⟩
  · rw [cross_len, Nat.mul_comm, Int.natCast_mul]
  · rw [crR_yes (vsB_true hV), crR_yes (vsB_true hx), crR_yes (vsB_true hy), Int.toNat_natCast, Int.toNat_natCast, Int.toNat_natCast]
    unfold ofP
    rw [List.length_map, List.length_map, List.length_map, crs_count hx hy hN']

set_option maxHeartbeats 8000000 in
set_option maxRecDepth 100000 in
theorem walk_FnCrossSpaces (a : Option Addr) (zs : List Nat) (cap : Nat) (w : World) (hi : Byts w a zs) (hl : zs.length ≤ maxLen) (hc : zs.length ≤ cap) :
    Calls Try.prog 10 #[.slice a zs.length cap] w fun e w' => e = .returned (.bool true) ∧ Below w.heap.size w w' := by
  by_cases h : 1048576 < zs.length
  · unfold maxLen at hl
    go_enter Try.func10, Try.ntmps10
    go_wp2
    go_ret
    exact ⟨rfl, Below.refl _ _⟩
  · have hl' : zs.length ≤ 1048576 := by omega
    clear h hl
    go_enter Try.func10, Try.ntmps10
    go_wp2_with fail
    refine (drawCrossSpaces_any _ _ _ _ hi hl' hc).mono ?_
    rintro e w1 ⟨m, av, ss, cv, k, bv, us, cu, rfl, iv, hsl, hcv, iw, hul, hcu, hb⟩
    have b1 := Box.new w1 m av ss.length cv 26
    have b2 := Box.new (w1.alloc (.cells #[.int .i64 m, .slice av ss.length cv] 26)) k bv us.length cu 26
    have b2' := bel1 (w1.alloc (.cells #[.int .i64 m, .slice av ss.length cv] 26)) (.cells #[.int .i64 k, .slice bv us.length cu] 26)
    simp only [World.size_alloc] at b2
    have S0 : QC w1 m av ss cv (w1.heap.size + 1) k bv us cu (w1.heap.size + 1) k bv us cu ((w1.alloc (.cells #[.int .i64 m, .slice av ss.length cv] 26)).alloc (.cells #[.int .i64 k, .slice bv us.length cu] 26)) :=
      ⟨b1.below b2', iv.below (bel2 _ _ _), b2, iw.below (bel2 _ _ _), b2, iw.below (bel2 _ _ _), bel2 _ _ _⟩
    have HB := hide hb
    have hn : ss.length ≤ 1048576 := by omega
    have hm : us.length ≤ 1048576 := by omega
    have HCV := hide hcv
    have HCU := hide hcu
    clear hb hi iv iw hl' hsl hul hcv hcu b1 b2 b2'
    have HS0 := hide S0
    obtain ⟨⟨_, c0, c1⟩, _, ⟨_, d0, d1⟩, _⟩ := S0
    have S0 := HS0.out
    clear HS0
    by_cases hB : crsB m ss k us = false
    · have HBB := hide hB
      obtain ⟨N0, hN⟩ : ∃ N0, crsN m ss k us = N0 := ⟨_, rfl⟩
      obtain ⟨L, hL⟩ : ∃ L, crsL m ss k us = L := ⟨_, rfl⟩
      have hLl : L.length ≤ 1048576 := by have := crL_len m ss k us; rw [hL] at this; omega
      have HN := hide hN
      have HL := hide hL
      clear hB hN hL
      go_wp2_with fail
      refine (crossPX_was _ _ _ _ _ _ _ _ N0 L false _ S0.2.1 S0.2.2.2.1 hn hm HN.out HL.out HBB.out).mono ?_
      rintro e w2 ⟨vo, rfl, oo, bq⟩
      obtain ⟨oa, oc, rfl, io, _⟩ := oo.form
      have HOC := hide oo.cap
      have bo := bel1 w2 (.cells #[.int .i64 N0, .slice oa L.length oc] 26)
      have bx := Box.new w2 N0 oa L.length oc 26
      obtain ⟨g2, hgx⟩ : ∃ g, g = w2.heap.size := ⟨_, rfl⟩
      rw [← hgx] at bx
      have M2 := hide ((((S0.below bq).below bo)).third bx (io.below bo))
      clear c0 c1 d0 d1 S0 bq oo io bo bx
      go_upto_region 5 with fail
      rw [← hgx]
      obtain ⟨Qw2, hW⟩ : ∃ W : World, W = w2.alloc (.cells #[.int .i64 N0, .slice oa L.length oc] 26) := ⟨_, rfl⟩
      rw [← hW] at M2 ⊢
      clear hW hgx
      obtain ⟨⟨_, c0, c1⟩, is2, ⟨_, d0, d1⟩, iu2, _⟩ := M2.out
      go_wp2_with fail
      refine (crossSX_was _ _ _ _ _ _ _ _ N0 L false _ is2 iu2 hn hm HN.out HL.out HBB.out).mono ?_
      rintro e w3 ⟨vo, rfl, oo, bq⟩
      obtain ⟨xa, xc, rfl, io, _⟩ := oo.form
      have bo := bel1 w3 (.cells #[.int .i64 N0, .slice xa L.length xc] 26)
      have bx := Box.new w3 N0 xa L.length xc 26
      obtain ⟨g3, hgx⟩ : ∃ g, g = w3.heap.size := ⟨_, rfl⟩
      rw [← hgx] at bx
      have M3 := hide ((M2.out.below bq).below bo)
      have ix3 := io.below bo
      have HX := hide ix3
      have BX := hide bx
      clear c0 c1 d0 d1 bq oo io bo is2 iu2 M2
      go_upto_region 6 with fail
      rw [← hgx]
      obtain ⟨Qw3, hW⟩ : ∃ W : World, W = w3.alloc (.cells #[.int .i64 N0, .slice xa L.length xc] 26) := ⟨_, rfl⟩
      rw [← hW] at M3 HX BX bx ix3 ⊢
      clear hW hgx
      obtain ⟨_, _, _, _, ⟨_, d0, d1⟩, io3, _⟩ := M3.out
      obtain ⟨_, x0, x1⟩ := bx
      go_wp2_with fail
      refine (equalSpace_was _ _ _ _ _ _ _ _ _ true io3 ix3 hLl hLl (eqS_refl _ _)).mono ?_
      rintro e w4 ⟨rfl, b4⟩
      have M4 := hide (M3.out.below b4)
      have ix4 := HX.out.below b4
      have bx4 := BX.out.below b4
      clear d0 d1 x0 x1 io3 ix3 b4
      obtain ⟨_, _, _, _, ⟨_, d0, d1⟩, io4, _⟩ := M4.out
      obtain ⟨_, x0, x1⟩ := bx4
      go_wp2_with fail
      refine (equalSpace_was _ _ _ _ _ _ _ _ _ true io4 ix4 hLl hLl (eqS_refl _ _)).mono ?_
      rintro e w5 ⟨rfl, b5⟩
      go_wp2
      go_ret
      exact ⟨rfl, bnext HB.out (M4.out.below b5).2.2.2.2.2.2⟩
    · have hB : crsB m ss k us = true := by simpa using hB
      have HBB := hide hB
      obtain ⟨A, B, N, rfl, rfl, f1, ⟨f2, f2'⟩, f3, f4, f5⟩ := cross_law hB
      have HN := hide f1
      obtain ⟨L, hL⟩ : ∃ L, crsL (A : Int) ss (B : Int) us = L := ⟨_, rfl⟩
      rw [hL] at f2 f2' f3 f4 f5
      have hLl : L.length ≤ 1048576 := by omega
      obtain ⟨K1, hK1⟩ : ∃ K1, (crR (A : Int) ss).length = K1 := ⟨_, rfl⟩
      obtain ⟨K2, hK2⟩ : ∃ K2, (crR (B : Int) us).length = K2 := ⟨_, rfl⟩
      obtain ⟨K, hK⟩ : ∃ K, (crR (N : Int) L).length = K := ⟨_, rfl⟩
      obtain ⟨r1, hr1⟩ : ∃ r, closedB med (A : Int) ss = r := ⟨_, rfl⟩
      obtain ⟨r2, hr2⟩ : ∃ r, closedB med (B : Int) us = r := ⟨_, rfl⟩
      have h81 : K ≤ 81 := by rw [← hK]; exact crR_81 _ _
      rw [hK1, hK2, hK] at f3
      rw [hr1, hr2] at f5
      have HL := hide hL
      have HP := hide f2
      have HLB := hide f2'
      have HKK : Hid ((K1 : Int) + (K2 : Int) = (K : Int)) := by unfold Hid; omega
      have HKB := hide h81
      have HK := hide hK
      have HK1 := hide hK1
      have HK2 := hide hK2
      have HBK := hide f4
      have HR0 := hide f5
      have HR1 := hide hr1
      have HR2 := hide hr2
      clear hB f1 f2 f2' f3 f4 f5 hL hK hK1 hK2 hr1 hr2 h81
      go_wp2_with fail
      refine (crossPX_was _ _ _ _ _ _ _ _ (N : Int) L true _ S0.2.1 S0.2.2.2.1 hn hm HN.out HL.out HBB.out).mono ?_
      rintro e w2 ⟨vo, rfl, oo, bq⟩
      obtain ⟨oa, oc, rfl, io, _⟩ := oo.form
      have HOC := hide oo.cap
      have bo := bel1 w2 (.cells #[.int .i64 (N : Int), .slice oa L.length oc] 26)
      have bx := Box.new w2 (N : Int) oa L.length oc 26
      obtain ⟨g2, hgx⟩ : ∃ g, g = w2.heap.size := ⟨_, rfl⟩
      rw [← hgx] at bx
      have M2 := hide ((((S0.below bq).below bo)).third bx (io.below bo))
      clear c0 c1 d0 d1 S0 bq oo io bo bx
      go_upto_region 5 with fail
      rw [← hgx]
      obtain ⟨Qw2, hW⟩ : ∃ W : World, W = w2.alloc (.cells #[.int .i64 (N : Int), .slice oa L.length oc] 26) := ⟨_, rfl⟩
      rw [← hW] at M2 ⊢
      clear hW hgx
      obtain ⟨⟨_, c0, c1⟩, is2, ⟨_, d0, d1⟩, iu2, _⟩ := M2.out
      go_wp2_with fail
      refine (crossSX_was _ _ _ _ _ _ _ _ (N : Int) L true _ is2 iu2 hn hm HN.out HL.out HBB.out).mono ?_
      rintro e w3 ⟨vo, rfl, oo, bq⟩
      obtain ⟨xa, xc, rfl, io, _⟩ := oo.form
      have bo := bel1 w3 (.cells #[.int .i64 (N : Int), .slice xa L.length xc] 26)
      have bx := Box.new w3 (N : Int) xa L.length xc 26
      obtain ⟨g3, hgx⟩ : ∃ g, g = w3.heap.size := ⟨_, rfl⟩
      rw [← hgx] at bx
      have M3 := hide ((M2.out.below bq).below bo)
      have ix3 := io.below bo
      have HX := hide ix3
      have BX := hide bx
      clear c0 c1 d0 d1 bq oo io bo is2 iu2 M2
      go_upto_region 6 with fail
      rw [← hgx]
      obtain ⟨Qw3, hW⟩ : ∃ W : World, W = w3.alloc (.cells #[.int .i64 (N : Int), .slice xa L.length xc] 26) := ⟨_, rfl⟩
      rw [← hW] at M3 HX BX bx ix3 ⊢
      clear hW hgx
      obtain ⟨_, _, _, _, ⟨_, d0, d1⟩, io3, _⟩ := M3.out
      obtain ⟨_, x0, x1⟩ := bx
      go_wp2_with fail
      refine (equalSpace_was _ _ _ _ _ _ _ _ _ true io3 ix3 hLl hLl (eqS_refl _ _)).mono ?_
      rintro e w4 ⟨rfl, b4⟩
      have M4 := hide (M3.out.below b4)
      have M10 := hide (M3.out.below b4)
      clear d0 d1 x0 x1 io3 ix3 b4 M3 M4 HX BX
      go_upto_region 8 with fail
      have MD := hide (M10.out.below (bdrew' (Below.refl _ _)))
      have is10 := MD.out.2.1
      have iu10 := MD.out.2.2.2.1
      have io10 := MD.out.2.2.2.2.2.1
      obtain ⟨⟨_, c0, c1⟩, _, ⟨_, d0, d1⟩, _, ⟨_, x0, x1⟩, _⟩ := M10.out
      have HC10 : Hid (w4.drew.cell? ⟨w1.heap.size, 0, none⟩ = some (.int .i64 (A : Int)) ∧ w4.drew.cell? ⟨w1.heap.size, 1, none⟩ = some (.slice av ss.length cv) ∧ w4.drew.cell? ⟨w1.heap.size + 1, 0, none⟩ = some (.int .i64 (B : Int)) ∧ w4.drew.cell? ⟨w1.heap.size + 1, 1, none⟩ = some (.slice bv us.length cu) ∧ w4.drew.cell? ⟨g2, 0, none⟩ = some (.int .i64 (N : Int)) ∧ w4.drew.cell? ⟨g2, 1, none⟩ = some (.slice oa L.length oc)) := ⟨MD.out.1.2.1, MD.out.1.2.2, MD.out.2.2.1.2.1, MD.out.2.2.1.2.2, MD.out.2.2.2.2.1.2.1, MD.out.2.2.2.2.1.2.2⟩
      obtain ⟨hw1, hw2, hw3, hw4, hw5, hw6, hw7, hw8⟩ := cross_wraps HP.out HLB.out HKK.out HKB.out
      have he1 : ((L.length : Int) == (L.length : Int)) = true := by simp
      have he2 : ((K : Int) == (K : Int)) = true := by simp
      cases r1 with
      | false =>
        have HR := hide (show closedB med (N : Int) L = false from by rw [HR0.out]; rfl)
        refine wp_region_held_drew (S := (fun w' => w'.cell? ⟨w1.heap.size, 0, none⟩ = some (.int .i64 (A : Int)) ∧ w'.cell? ⟨w1.heap.size, 1, none⟩ = some (.slice av ss.length cv) ∧ w'.cell? ⟨w1.heap.size + 1, 0, none⟩ = some (.int .i64 (B : Int)) ∧ w'.cell? ⟨w1.heap.size + 1, 1, none⟩ = some (.slice bv us.length cu) ∧ w'.cell? ⟨g2, 0, none⟩ = some (.int .i64 (N : Int)) ∧ w'.cell? ⟨g2, 1, none⟩ = some (.slice oa L.length oc))) (by kernel_rfl) ?_ (fun hHeld => ?_)
        · exact HC10.out
        refine wpAnyH_take (i := 0) (v := ?vv0) rfl (by kernel_rfl) (by kernel_rfl) (by kernel_rfl) (fun _ _ _ h => h) (Or.inl ⟨by rfl, ?hy0⟩) (by assumption) ?rest0
        case hy0 => (intro w hSw; (try dsimp only at hSw); go_simp; (try with_reducible rfl))
        case rest0 =>
          (try simp only [Act.put, List.setIfInBounds_toArray, List.set_cons_zero, List.set_cons_succ, List.getElem_toArray, List.getElem_cons_zero])
          (try simp only [he1, he2])
          refine wpAnyH_take (i := 1) (v := ?vv1) rfl (by kernel_rfl) (by kernel_rfl) (by kernel_rfl) (fun _ _ _ h => h) (Or.inl ⟨by rfl, ?hy1⟩) (by assumption) ?rest1
          case hy1 => (intro w hSw; (try dsimp only at hSw); go_simp; (try with_reducible rfl))
          case rest1 =>
            (try simp only [Act.put, List.setIfInBounds_toArray, List.set_cons_zero, List.set_cons_succ, List.getElem_toArray, List.getElem_cons_zero, List.getElem_cons_succ])
            (try simp only [he1, he2])
            refine wpAnyH_take (i := 2) (v := ?vv2) rfl (by kernel_rfl) (by kernel_rfl) (by kernel_rfl) (fun _ _ _ h => h) (Or.inl ⟨by rfl, ?hy2⟩) (by assumption) ?rest2
            case hy2 => (intro w hSw; (try dsimp only at hSw); go_simp; (try with_reducible rfl))
            case rest2 =>
              (try simp only [Act.put, List.setIfInBounds_toArray, List.set_cons_zero, List.set_cons_succ, List.getElem_toArray, List.getElem_cons_zero, List.getElem_cons_succ])
              (try simp only [he1, he2])
              refine wpAnyH_take (i := 3) (v := ?vv3) rfl (by kernel_rfl) (by kernel_rfl) (by kernel_rfl) (fun _ _ _ h => h) (Or.inl ⟨by rfl, ?hy3⟩) (by assumption) ?rest3
              case hy3 => (intro w hSw; (try dsimp only at hSw); go_simp; (try with_reducible rfl))
              case rest3 =>
                (try simp only [Act.put, List.setIfInBounds_toArray, List.set_cons_zero, List.set_cons_succ, List.getElem_toArray, List.getElem_cons_zero, List.getElem_cons_succ])
                (try simp only [he1, he2])
                refine wpAnyH_take (i := 4) (v := ?vv4) rfl (by kernel_rfl) (by kernel_rfl) (by kernel_rfl) (fun _ _ _ h => h) (Or.inl ⟨by rfl, ?hy4⟩) (by assumption) ?rest4
                case hy4 => (intro w hSw; (try dsimp only at hSw); go_simp; (try with_reducible rfl))
                case rest4 =>
                  (try simp only [Act.put, List.setIfInBounds_toArray, List.set_cons_zero, List.set_cons_succ, List.getElem_toArray, List.getElem_cons_zero, List.getElem_cons_succ])
                  (try simp only [he1, he2])
                  refine wpAnyH_take (i := 5) (v := ?vv5) rfl (by kernel_rfl) (by kernel_rfl) (by kernel_rfl) (fun _ _ _ h => h) (Or.inl ⟨by rfl, ?hy5⟩) (by assumption) ?rest5
                  case hy5 => (intro w hSw; (try dsimp only at hSw); go_simp; (try with_reducible rfl))
                  case rest5 =>
                    (try simp only [Act.put, List.setIfInBounds_toArray, List.set_cons_zero, List.set_cons_succ, List.getElem_toArray, List.getElem_cons_zero, List.getElem_cons_succ])
                    (try simp only [he1, he2])
                    refine wpAnyH_take (i := 6) (v := ?vv6) rfl (by kernel_rfl) (by kernel_rfl) (by kernel_rfl) (fun _ _ _ h => h) (Or.inl ⟨by rfl, ?hy6⟩) (by assumption) ?rest6
                    case hy6 => (intro w hSw; (try dsimp only at hSw); go_simp; (try with_reducible rfl))
                    case rest6 =>
                      (try simp only [Act.put, List.setIfInBounds_toArray, List.set_cons_zero, List.set_cons_succ, List.getElem_toArray, List.getElem_cons_zero, List.getElem_cons_succ])
                      (try simp only [he1, he2])
                      refine wpAnyH_take (i := 7) (v := ?vv7) rfl (by kernel_rfl) (by kernel_rfl) (by kernel_rfl) (fun _ _ _ h => h) (Or.inl ⟨by rfl, ?hy7⟩) (by assumption) ?rest7
                      case hy7 => (intro w hSw; (try dsimp only at hSw); go_simp; (try with_reducible rfl))
                      case rest7 =>
                        (try simp only [Act.put, List.setIfInBounds_toArray, List.set_cons_zero, List.set_cons_succ, List.getElem_toArray, List.getElem_cons_zero, List.getElem_cons_succ])
                        (try simp only [he1, he2])
                        refine wpAnyH_take (i := 8) (v := ?vv8) rfl (by kernel_rfl) (by kernel_rfl) (by kernel_rfl) (fun _ _ _ h => h) (Or.inl ⟨by rfl, ?hy8⟩) (by assumption) ?rest8
                        case hy8 => (intro w hSw; (try dsimp only at hSw); go_simp; (try with_reducible rfl))
                        case rest8 =>
                          (try simp only [Act.put, List.setIfInBounds_toArray, List.set_cons_zero, List.set_cons_succ, List.getElem_toArray, List.getElem_cons_zero, List.getElem_cons_succ])
                          (try simp only [he1, he2])
                          refine wpAnyH_take (i := 9) (v := ?vv9) rfl (by kernel_rfl) (by kernel_rfl) (by kernel_rfl) (fun _ _ _ h => h) (Or.inl ⟨by rfl, ?hy9⟩) (by assumption) ?rest9
                          case hy9 => (intro w hSw; (try dsimp only at hSw); go_simp; (try with_reducible rfl))
                          case rest9 =>
                            (try simp only [Act.put, List.setIfInBounds_toArray, List.set_cons_zero, List.set_cons_succ, List.getElem_toArray, List.getElem_cons_zero, List.getElem_cons_succ])
                            (try simp only [he1, he2])
                            refine wpAnyH_take (i := 10) (v := ?vv10) rfl (by kernel_rfl) (by kernel_rfl) (by kernel_rfl) (fun _ _ _ h => h) (Or.inl ⟨by rfl, ?hy10⟩) (by assumption) ?rest10
                            case hy10 => (intro w hSw; (try dsimp only at hSw); go_simp; (try with_reducible rfl))
                            case rest10 =>
                              (try simp only [Act.put, List.setIfInBounds_toArray, List.set_cons_zero, List.set_cons_succ, List.getElem_toArray, List.getElem_cons_zero, List.getElem_cons_succ])
                              (try simp only [he1, he2])
                              refine wpAnyH_take (i := 11) (v := ?vv11) rfl (by kernel_rfl) (by kernel_rfl) (by kernel_rfl) (fun _ _ _ h => h) (Or.inl ⟨by rfl, ?hy11⟩) (by assumption) ?rest11
                              case hy11 => (intro w hSw; (try dsimp only at hSw); go_simp; (try with_reducible rfl))
                              case rest11 =>
                                (try simp only [Act.put, List.setIfInBounds_toArray, List.set_cons_zero, List.set_cons_succ, List.getElem_toArray, List.getElem_cons_zero, List.getElem_cons_succ])
                                (try simp only [he1, he2])
                                refine wpAnyH_take (i := 12) (v := ?vv12) rfl (by kernel_rfl) (by kernel_rfl) (by kernel_rfl) (fun _ _ _ h => h) (Or.inl ⟨by rfl, ?hy12⟩) (by assumption) ?rest12
                                case hy12 => (intro w hSw; (try dsimp only at hSw); go_simp; (try with_reducible rfl))
                                case rest12 =>
                                  (try simp only [Act.put, List.setIfInBounds_toArray, List.set_cons_zero, List.set_cons_succ, List.getElem_toArray, List.getElem_cons_zero, List.getElem_cons_succ])
                                  (try simp only [he1, he2])
                                  refine wpAnyH_take (i := 15) (v := ?vv15) rfl (by kernel_rfl) (by kernel_rfl) (by kernel_rfl) (fun _ _ _ h => h) (Or.inl ⟨by rfl, ?hy15⟩) (by assumption) ?rest15
                                  case hy15 => (intro w hSw; (try dsimp only at hSw); go_simp; (try with_reducible rfl))
                                  case rest15 =>
                                    (try simp only [Act.put, List.setIfInBounds_toArray, List.set_cons_zero, List.set_cons_succ, List.getElem_toArray, List.getElem_cons_zero, List.getElem_cons_succ])
                                    (try simp only [he1, he2])
                                    refine wpAnyH_take (i := 18) (v := ?vv18) rfl (by kernel_rfl) (by kernel_rfl) (by kernel_rfl) (fun _ _ _ h => h) (Or.inl ⟨by rfl, ?hy18⟩) (by assumption) ?rest18
                                    case hy18 => (intro w hSw; (try dsimp only at hSw); go_simp; (try with_reducible rfl))
                                    case rest18 =>
                                      (try simp only [Act.put, List.setIfInBounds_toArray, List.set_cons_zero, List.set_cons_succ, List.getElem_toArray, List.getElem_cons_zero, List.getElem_cons_succ])
                                      (try simp only [he1, he2])
                                      refine wpAnyH_ready (rs := [13]) (by kernel_rfl) (by simp) ?_
                                      refine AllReadyH.cons rfl (fun K' hK' => ?_) AllReadyH.nil
                                      go_simp
                                      (go_at_call 24; (with_reducible refine (critX_was _ _ _ _ K _ io10 hLl HK.out).mono ?_); rintro e w11 ⟨va11, vc11, rfl, b11⟩; have M11 := hide (MD.out.below b11); have is11 := M11.out.2.1; have iu11 := M11.out.2.2.2.1; have io11 := M11.out.2.2.2.2.2.1; clear b11)
                                      go_wp2_with fail
                                      refine hK'.out _ _ ?_ (fun hHeld => ?_)
                                      · exact ⟨M11.out.1.2.1, M11.out.1.2.2, M11.out.2.2.1.2.1, M11.out.2.2.1.2.2, M11.out.2.2.2.2.1.2.1, M11.out.2.2.2.2.1.2.2⟩
                                      clear hK' K'
                                      (try simp only [Act.put, List.setIfInBounds_toArray, List.set_cons_zero, List.set_cons_succ, List.getElem_toArray, List.getElem_cons_zero, List.getElem_cons_succ])
                                      refine wpAnyH_take (i := 14) (v := ?vv14) rfl (by kernel_rfl) (by kernel_rfl) (by kernel_rfl) (fun _ _ _ h => h) (Or.inl ⟨by rfl, ?hy14⟩) (by assumption) ?rest14
                                      case hy14 => (intro w hSw; (try dsimp only at hSw); go_simp; (try with_reducible rfl))
                                      case rest14 =>
                                        (try simp only [Act.put, List.setIfInBounds_toArray, List.set_cons_zero, List.set_cons_succ, List.getElem_toArray, List.getElem_cons_zero, List.getElem_cons_succ])
                                        (try simp only [he1, he2])
                                        refine wpAnyH_ready (rs := [16]) (by kernel_rfl) (by simp) ?_
                                        refine AllReadyH.cons rfl (fun K' hK' => ?_) AllReadyH.nil
                                        go_simp
                                        (go_at_call 24; (with_reducible refine (critX_was _ _ _ _ K1 _ is11 hn HK1.out).mono ?_); rintro e w12 ⟨va12, vc12, rfl, b12⟩; have M12 := hide (M11.out.below b12); have is12 := M12.out.2.1; have iu12 := M12.out.2.2.2.1; have io12 := M12.out.2.2.2.2.2.1; clear b12)
                                        go_wp2_with fail
                                        refine hK'.out _ _ ?_ (fun hHeld => ?_)
                                        · exact ⟨M12.out.1.2.1, M12.out.1.2.2, M12.out.2.2.1.2.1, M12.out.2.2.1.2.2, M12.out.2.2.2.2.1.2.1, M12.out.2.2.2.2.1.2.2⟩
                                        clear hK' K'
                                        (try simp only [Act.put, List.setIfInBounds_toArray, List.set_cons_zero, List.set_cons_succ, List.getElem_toArray, List.getElem_cons_zero, List.getElem_cons_succ])
                                        refine wpAnyH_take (i := 17) (v := ?vv17) rfl (by kernel_rfl) (by kernel_rfl) (by kernel_rfl) (fun _ _ _ h => h) (Or.inl ⟨by rfl, ?hy17⟩) (by assumption) ?rest17
                                        case hy17 => (intro w hSw; (try dsimp only at hSw); go_simp; (try with_reducible rfl))
                                        case rest17 =>
                                          (try simp only [Act.put, List.setIfInBounds_toArray, List.set_cons_zero, List.set_cons_succ, List.getElem_toArray, List.getElem_cons_zero, List.getElem_cons_succ])
                                          (try simp only [he1, he2])
                                          refine wpAnyH_ready (rs := [19]) (by kernel_rfl) (by simp) ?_
                                          refine AllReadyH.cons rfl (fun K' hK' => ?_) AllReadyH.nil
                                          go_simp
                                          (go_at_call 24; (with_reducible refine (critX_was _ _ _ _ K2 _ iu12 hm HK2.out).mono ?_); rintro e w13 ⟨va13, vc13, rfl, b13⟩; have M13 := hide (M12.out.below b13); have is13 := M13.out.2.1; have iu13 := M13.out.2.2.2.1; have io13 := M13.out.2.2.2.2.2.1; clear b13)
                                          go_wp2_with fail
                                          refine hK'.out _ _ ?_ (fun hHeld => ?_)
                                          · exact ⟨M13.out.1.2.1, M13.out.1.2.2, M13.out.2.2.1.2.1, M13.out.2.2.1.2.2, M13.out.2.2.2.2.1.2.1, M13.out.2.2.2.2.1.2.2⟩
                                          clear hK' K'
                                          (try simp only [Act.put, List.setIfInBounds_toArray, List.set_cons_zero, List.set_cons_succ, List.getElem_toArray, List.getElem_cons_zero, List.getElem_cons_succ])
                                          refine wpAnyH_take (i := 20) (v := ?vv20) rfl (by kernel_rfl) (by kernel_rfl) (by kernel_rfl) (fun _ _ _ h => h) (Or.inl ⟨by rfl, ?hy20⟩) (by assumption) ?rest20
                                          case hy20 => (intro w hSw; (try dsimp only at hSw); go_simp; (try with_reducible rfl))
                                          case rest20 =>
                                            (try simp only [Act.put, List.setIfInBounds_toArray, List.set_cons_zero, List.set_cons_succ, List.getElem_toArray, List.getElem_cons_zero, List.getElem_cons_succ])
                                            (try simp only [he1, he2])
                                            refine wpAnyH_take (i := 21) (v := ?vv21) rfl (by kernel_rfl) (by kernel_rfl) (by kernel_rfl) (fun _ _ _ h => h) (Or.inl ⟨by rfl, ?hy21⟩) (by assumption) ?rest21
                                            case hy21 => (intro w hSw; (try dsimp only at hSw); go_simp; (try with_reducible rfl))
                                            case rest21 =>
                                              (try simp only [Act.put, List.setIfInBounds_toArray, List.set_cons_zero, List.set_cons_succ, List.getElem_toArray, List.getElem_cons_zero, List.getElem_cons_succ])
                                              (try simp only [he1, he2])
                                              refine wpAnyH_take (i := 22) (v := ?vv22) rfl (by kernel_rfl) (by kernel_rfl) (by kernel_rfl) (fun _ _ _ h => h) (Or.inl ⟨by rfl, ?hy22⟩) (by assumption) ?rest22
                                              case hy22 => (intro w hSw; (try dsimp only at hSw); go_simp; (try with_reducible rfl))
                                              case rest22 =>
                                                (try simp only [Act.put, List.setIfInBounds_toArray, List.set_cons_zero, List.set_cons_succ, List.getElem_toArray, List.getElem_cons_zero, List.getElem_cons_succ])
                                                (try simp only [he1, he2])
                                                refine wpAnyH_take (i := 23) (v := ?vv23) rfl (by kernel_rfl) (by kernel_rfl) (by kernel_rfl) (fun _ _ _ h => h) (Or.inl ⟨by rfl, ?hy23⟩) (by assumption) ?rest23
                                                case hy23 => (intro w hSw; (try dsimp only at hSw); go_simp; (try with_reducible rfl))
                                                case rest23 =>
                                                  (try simp only [Act.put, List.setIfInBounds_toArray, List.set_cons_zero, List.set_cons_succ, List.getElem_toArray, List.getElem_cons_zero, List.getElem_cons_succ])
                                                  (try simp only [he1, he2])
                                                  refine wpAnyH_take (i := 24) (v := ?vv24) rfl (by kernel_rfl) (by kernel_rfl) (by kernel_rfl) (fun _ _ _ h => h) (Or.inl ⟨by rfl, ?hy24⟩) (by assumption) ?rest24
                                                  case hy24 => (intro w hSw; (try dsimp only at hSw); go_simp; (try with_reducible rfl))
                                                  case rest24 =>
                                                    (try simp only [Act.put, List.setIfInBounds_toArray, List.set_cons_zero, List.set_cons_succ, List.getElem_toArray, List.getElem_cons_zero, List.getElem_cons_succ])
                                                    (try simp only [he1, he2])
                                                    refine wpAnyH_take (i := 25) (v := ?vv25) rfl (by kernel_rfl) (by kernel_rfl) (by kernel_rfl) (fun _ _ _ h => h) (Or.inl ⟨by rfl, ?hy25⟩) (by assumption) ?rest25
                                                    case hy25 => (intro w hSw; (try dsimp only at hSw); go_simp; (try with_reducible rfl))
                                                    case rest25 =>
                                                      (try simp only [Act.put, List.setIfInBounds_toArray, List.set_cons_zero, List.set_cons_succ, List.getElem_toArray, List.getElem_cons_zero, List.getElem_cons_succ])
                                                      (try simp only [he1, he2])
                                                      refine wpAnyH_ready (rs := [26]) (by kernel_rfl) (by simp) ?_
                                                      refine AllReadyH.cons rfl (fun K' hK' => ?_) AllReadyH.nil
                                                      go_simp
                                                      (go_at_call 28; (with_reducible refine (implBlkX_was _ _ _ _ false _ io13 hLl HBK.out).mono ?_); rintro e w14 ⟨rfl, b14⟩; have M14 := hide (M13.out.below b14); have is14 := M14.out.2.1; have iu14 := M14.out.2.2.2.1; have io14 := M14.out.2.2.2.2.2.1; clear b14)
                                                      go_wp2_with fail
                                                      refine hK'.out _ _ ?_ (fun hHeld => ?_)
                                                      · exact ⟨M14.out.1.2.1, M14.out.1.2.2, M14.out.2.2.1.2.1, M14.out.2.2.1.2.2, M14.out.2.2.2.2.1.2.1, M14.out.2.2.2.2.1.2.2⟩
                                                      clear hK' K'
                                                      (try simp only [Act.put, List.setIfInBounds_toArray, List.set_cons_zero, List.set_cons_succ, List.getElem_toArray, List.getElem_cons_zero, List.getElem_cons_succ])
                                                      refine wpAnyH_take (i := 27) (v := ?vv27) rfl (by kernel_rfl) (by kernel_rfl) (by kernel_rfl) (fun _ _ _ h => h) (Or.inl ⟨by rfl, ?hy27⟩) (by assumption) ?rest27
                                                      case hy27 => (intro w hSw; (try dsimp only at hSw); go_simp; (try with_reducible rfl))
                                                      case rest27 =>
                                                        (try simp only [Act.put, List.setIfInBounds_toArray, List.set_cons_zero, List.set_cons_succ, List.getElem_toArray, List.getElem_cons_zero, List.getElem_cons_succ])
                                                        (try simp only [he1, he2])
                                                        refine wpAnyH_take (i := 28) (v := ?vv28) rfl (by kernel_rfl) (by kernel_rfl) (by kernel_rfl) (fun _ _ _ h => h) (Or.inl ⟨by rfl, ?hy28⟩) (by assumption) ?rest28
                                                        case hy28 => (intro w hSw; (try dsimp only at hSw); go_simp; (try with_reducible rfl))
                                                        case rest28 =>
                                                          (try simp only [Act.put, List.setIfInBounds_toArray, List.set_cons_zero, List.set_cons_succ, List.getElem_toArray, List.getElem_cons_zero, List.getElem_cons_succ])
                                                          (try simp only [he1, he2])
                                                          refine wpAnyH_take (i := 29) (v := ?vv29) rfl (by kernel_rfl) (by kernel_rfl) (by kernel_rfl) (fun _ _ _ h => h) (Or.inl ⟨by rfl, ?hy29⟩) (by assumption) ?rest29
                                                          case hy29 => (intro w hSw; (try dsimp only at hSw); go_simp; (try with_reducible rfl))
                                                          case rest29 =>
                                                            (try simp only [Act.put, List.setIfInBounds_toArray, List.set_cons_zero, List.set_cons_succ, List.getElem_toArray, List.getElem_cons_zero, List.getElem_cons_succ])
                                                            (try simp only [he1, he2])
                                                            refine wpAnyH_take (i := 30) (v := ?vv30) rfl (by kernel_rfl) (by kernel_rfl) (by kernel_rfl) (fun _ _ _ h => h) (Or.inl ⟨by rfl, ?hy30⟩) (by assumption) ?rest30
                                                            case hy30 => (intro w hSw; (try dsimp only at hSw); go_simp; (try with_reducible rfl))
                                                            case rest30 =>
                                                              (try simp only [Act.put, List.setIfInBounds_toArray, List.set_cons_zero, List.set_cons_succ, List.getElem_toArray, List.getElem_cons_zero, List.getElem_cons_succ])
                                                              (try simp only [he1, he2])
                                                              refine wpAnyH_take (i := 32) (v := ?vv32) rfl (by kernel_rfl) (by kernel_rfl) (by kernel_rfl) (fun _ _ _ h => h) (Or.inl ⟨by rfl, ?hy32⟩) (by assumption) ?rest32
                                                              case hy32 => (intro w hSw; (try dsimp only at hSw); go_simp; (try with_reducible rfl))
                                                              case rest32 =>
                                                                (try simp only [Act.put, List.setIfInBounds_toArray, List.set_cons_zero, List.set_cons_succ, List.getElem_toArray, List.getElem_cons_zero, List.getElem_cons_succ])
                                                                (try simp only [he1, he2])
                                                                refine wpAnyH_ready (rs := [31]) (by kernel_rfl) (by simp) ?_
                                                                refine AllReadyH.cons rfl (fun K' hK' => ?_) AllReadyH.nil
                                                                go_simp
                                                                (go_at_call 22; (with_reducible refine (implMed_was _ _ _ _ _ false io14 hLl HOC.out HR.out).mono ?_); rintro e w15 ⟨rfl, b15⟩; have M15 := hide (M14.out.below b15); have is15 := M15.out.2.1; have iu15 := M15.out.2.2.2.1; have io15 := M15.out.2.2.2.2.2.1; clear b15)
                                                                go_wp2_with fail
                                                                refine hK'.out _ _ ?_ (fun hHeld => ?_)
                                                                · exact ⟨M15.out.1.2.1, M15.out.1.2.2, M15.out.2.2.1.2.1, M15.out.2.2.1.2.2, M15.out.2.2.2.2.1.2.1, M15.out.2.2.2.2.1.2.2⟩
                                                                clear hK' K'
                                                                (try simp only [Act.put, List.setIfInBounds_toArray, List.set_cons_zero, List.set_cons_succ, List.getElem_toArray, List.getElem_cons_zero, List.getElem_cons_succ])
                                                                refine wpAnyH_ready (rs := [33]) (by kernel_rfl) (by simp) ?_
                                                                refine AllReadyH.cons rfl (fun K' hK' => ?_) AllReadyH.nil
                                                                go_simp
                                                                (go_at_call 22; (with_reducible refine (implMed_was _ _ _ _ _ false is15 hn HCV.out HR1.out).mono ?_); rintro e w16 ⟨rfl, b16⟩; have M16 := hide (M15.out.below b16); have is16 := M16.out.2.1; have iu16 := M16.out.2.2.2.1; have io16 := M16.out.2.2.2.2.2.1; clear b16)
                                                                go_wp2_with fail
                                                                refine hK'.out _ _ ?_ (fun hHeld => ?_)
                                                                · exact ⟨M16.out.1.2.1, M16.out.1.2.2, M16.out.2.2.1.2.1, M16.out.2.2.1.2.2, M16.out.2.2.2.2.1.2.1, M16.out.2.2.2.2.1.2.2⟩
                                                                clear hK' K'
                                                                (try simp only [Act.put, List.setIfInBounds_toArray, List.set_cons_zero, List.set_cons_succ, List.getElem_toArray, List.getElem_cons_zero, List.getElem_cons_succ])
                                                                refine wpAnyH_take (i := 34) (v := ?vv34) rfl (by kernel_rfl) (by kernel_rfl) (by kernel_rfl) (fun _ _ _ h => h) (Or.inl ⟨by rfl, ?hy34⟩) (by assumption) ?rest34
                                                                case hy34 => (intro w hSw; (try dsimp only at hSw); go_simp; (try with_reducible rfl))
                                                                case rest34 =>
                                                                  (try simp only [Act.put, List.setIfInBounds_toArray, List.set_cons_zero, List.set_cons_succ, List.getElem_toArray, List.getElem_cons_zero, List.getElem_cons_succ])
                                                                  (try simp only [he1, he2])
                                                                  refine wpAnyH_take (i := 35) (v := undef) rfl (by kernel_rfl) (by kernel_rfl) (by kernel_rfl) (fun _ _ _ h => h) (Or.inr ⟨by rfl, rfl⟩) (by assumption) ?_
                                                                  (try simp only [Act.put, List.setIfInBounds_toArray, List.set_cons_zero, List.set_cons_succ, List.getElem_toArray, List.getElem_cons_zero, List.getElem_cons_succ])
                                                                  refine wpAnyH_take (i := 36) (v := undef) rfl (by kernel_rfl) (by kernel_rfl) (by kernel_rfl) (fun _ _ _ h => h) (Or.inr ⟨by rfl, rfl⟩) (by assumption) ?_
                                                                  (try simp only [Act.put, List.setIfInBounds_toArray, List.set_cons_zero, List.set_cons_succ, List.getElem_toArray, List.getElem_cons_zero, List.getElem_cons_succ])
                                                                  refine wpAnyH_take (i := 37) (v := ?vv37) rfl (by kernel_rfl) (by kernel_rfl) (by kernel_rfl) (fun _ _ _ h => h) (Or.inl ⟨by rfl, ?hy37⟩) (by assumption) ?rest37
                                                                  case hy37 => (intro w hSw; (try dsimp only at hSw); go_simp; (try with_reducible rfl))
                                                                  case rest37 =>
                                                                    (try simp only [Act.put, List.setIfInBounds_toArray, List.set_cons_zero, List.set_cons_succ, List.getElem_toArray, List.getElem_cons_zero, List.getElem_cons_succ])
                                                                    (try simp only [he1, he2])
                                                                    refine wpAnyH_take (i := 38) (v := ?vv38) rfl (by kernel_rfl) (by kernel_rfl) (by kernel_rfl) (fun _ _ _ h => h) (Or.inl ⟨by rfl, ?hy38⟩) (by assumption) ?rest38
                                                                    case hy38 => (intro w hSw; (try dsimp only at hSw); go_simp; (try with_reducible rfl))
                                                                    case rest38 =>
                                                                      (try simp only [Act.put, List.setIfInBounds_toArray, List.set_cons_zero, List.set_cons_succ, List.getElem_toArray, List.getElem_cons_zero, List.getElem_cons_succ])
                                                                      (try simp only [he1, he2])
                                                                      refine wpAnyH_take (i := 39) (v := ?vv39) rfl (by kernel_rfl) (by kernel_rfl) (by kernel_rfl) (fun _ _ _ h => h) (Or.inl ⟨by rfl, ?hy39⟩) (by assumption) ?rest39
                                                                      case hy39 => (intro w hSw; (try dsimp only at hSw); go_simp; (try with_reducible rfl))
                                                                      case rest39 =>
                                                                        (try simp only [Act.put, List.setIfInBounds_toArray, List.set_cons_zero, List.set_cons_succ, List.getElem_toArray, List.getElem_cons_zero, List.getElem_cons_succ])
                                                                        (try simp only [he1, he2])
                                                                        refine wpAnyH_take (i := 40) (v := ?vv40) rfl (by kernel_rfl) (by kernel_rfl) (by kernel_rfl) (fun _ _ _ h => h) (Or.inl ⟨by rfl, ?hy40⟩) (by assumption) ?rest40
                                                                        case hy40 => (intro w hSw; (try dsimp only at hSw); go_simp; (try with_reducible rfl))
                                                                        case rest40 =>
                                                                          (try simp only [Act.put, List.setIfInBounds_toArray, List.set_cons_zero, List.set_cons_succ, List.getElem_toArray, List.getElem_cons_zero, List.getElem_cons_succ])
                                                                          (try simp only [he1, he2])
                                                                          refine wpAnyH_done (by kernel_rfl) ?_ _
                                                                          go_wp2
                                                                          go_ret
                                                                          exact ⟨rfl, bnext HB.out M16.out.2.2.2.2.2.2⟩
      | true =>
        cases r2 with
        | false =>
          have HR := hide (show closedB med (N : Int) L = false from by rw [HR0.out]; rfl)
          go_region_held3 (fun w' => w'.cell? ⟨w1.heap.size, 0, none⟩ = some (.int .i64 (A : Int)) ∧ w'.cell? ⟨w1.heap.size, 1, none⟩ = some (.slice av ss.length cv) ∧ w'.cell? ⟨w1.heap.size + 1, 0, none⟩ = some (.int .i64 (B : Int)) ∧ w'.cell? ⟨w1.heap.size + 1, 1, none⟩ = some (.slice bv us.length cu) ∧ w'.cell? ⟨g2, 0, none⟩ = some (.int .i64 (N : Int)) ∧ w'.cell? ⟨g2, 1, none⟩ = some (.slice oa L.length oc)) (first | exact HC10.out | exact HC17.out | exact HC16.out | exact HC15.out | exact HC14.out | exact HC13.out | exact HC12.out | exact HC11.out | go_keep) (first
            | (go_at_call 24; (with_reducible refine (critX_was _ _ _ _ K _ io10 hLl HK.out).mono ?_); rintro e w11 ⟨va11, vc11, rfl, b11⟩; have M11 := hide (MD.out.below b11); have is11 := M11.out.2.1; have iu11 := M11.out.2.2.2.1; have io11 := M11.out.2.2.2.2.2.1; have HC11 := hide (show w11.cell? ⟨w1.heap.size, 0, none⟩ = some (.int .i64 (A : Int)) ∧ w11.cell? ⟨w1.heap.size, 1, none⟩ = some (.slice av ss.length cv) ∧ w11.cell? ⟨w1.heap.size + 1, 0, none⟩ = some (.int .i64 (B : Int)) ∧ w11.cell? ⟨w1.heap.size + 1, 1, none⟩ = some (.slice bv us.length cu) ∧ w11.cell? ⟨g2, 0, none⟩ = some (.int .i64 (N : Int)) ∧ w11.cell? ⟨g2, 1, none⟩ = some (.slice oa L.length oc) from ⟨M11.out.1.2.1, M11.out.1.2.2, M11.out.2.2.1.2.1, M11.out.2.2.1.2.2, M11.out.2.2.2.2.1.2.1, M11.out.2.2.2.2.1.2.2⟩); clear b11)
            | (go_at_call 24; (with_reducible refine (critX_was _ _ _ _ K1 _ is11 hn HK1.out).mono ?_); rintro e w12 ⟨va12, vc12, rfl, b12⟩; have M12 := hide (M11.out.below b12); have is12 := M12.out.2.1; have iu12 := M12.out.2.2.2.1; have io12 := M12.out.2.2.2.2.2.1; have HC12 := hide (show w12.cell? ⟨w1.heap.size, 0, none⟩ = some (.int .i64 (A : Int)) ∧ w12.cell? ⟨w1.heap.size, 1, none⟩ = some (.slice av ss.length cv) ∧ w12.cell? ⟨w1.heap.size + 1, 0, none⟩ = some (.int .i64 (B : Int)) ∧ w12.cell? ⟨w1.heap.size + 1, 1, none⟩ = some (.slice bv us.length cu) ∧ w12.cell? ⟨g2, 0, none⟩ = some (.int .i64 (N : Int)) ∧ w12.cell? ⟨g2, 1, none⟩ = some (.slice oa L.length oc) from ⟨M12.out.1.2.1, M12.out.1.2.2, M12.out.2.2.1.2.1, M12.out.2.2.1.2.2, M12.out.2.2.2.2.1.2.1, M12.out.2.2.2.2.1.2.2⟩); clear b12)
            | (go_at_call 24; (with_reducible refine (critX_was _ _ _ _ K2 _ iu12 hm HK2.out).mono ?_); rintro e w13 ⟨va13, vc13, rfl, b13⟩; have M13 := hide (M12.out.below b13); have is13 := M13.out.2.1; have iu13 := M13.out.2.2.2.1; have io13 := M13.out.2.2.2.2.2.1; have HC13 := hide (show w13.cell? ⟨w1.heap.size, 0, none⟩ = some (.int .i64 (A : Int)) ∧ w13.cell? ⟨w1.heap.size, 1, none⟩ = some (.slice av ss.length cv) ∧ w13.cell? ⟨w1.heap.size + 1, 0, none⟩ = some (.int .i64 (B : Int)) ∧ w13.cell? ⟨w1.heap.size + 1, 1, none⟩ = some (.slice bv us.length cu) ∧ w13.cell? ⟨g2, 0, none⟩ = some (.int .i64 (N : Int)) ∧ w13.cell? ⟨g2, 1, none⟩ = some (.slice oa L.length oc) from ⟨M13.out.1.2.1, M13.out.1.2.2, M13.out.2.2.1.2.1, M13.out.2.2.1.2.2, M13.out.2.2.2.2.1.2.1, M13.out.2.2.2.2.1.2.2⟩); clear b13)
            | (go_at_call 28; (with_reducible refine (implBlkX_was _ _ _ _ false _ io13 hLl HBK.out).mono ?_); rintro e w14 ⟨rfl, b14⟩; have M14 := hide (M13.out.below b14); have is14 := M14.out.2.1; have iu14 := M14.out.2.2.2.1; have io14 := M14.out.2.2.2.2.2.1; have HC14 := hide (show w14.cell? ⟨w1.heap.size, 0, none⟩ = some (.int .i64 (A : Int)) ∧ w14.cell? ⟨w1.heap.size, 1, none⟩ = some (.slice av ss.length cv) ∧ w14.cell? ⟨w1.heap.size + 1, 0, none⟩ = some (.int .i64 (B : Int)) ∧ w14.cell? ⟨w1.heap.size + 1, 1, none⟩ = some (.slice bv us.length cu) ∧ w14.cell? ⟨g2, 0, none⟩ = some (.int .i64 (N : Int)) ∧ w14.cell? ⟨g2, 1, none⟩ = some (.slice oa L.length oc) from ⟨M14.out.1.2.1, M14.out.1.2.2, M14.out.2.2.1.2.1, M14.out.2.2.1.2.2, M14.out.2.2.2.2.1.2.1, M14.out.2.2.2.2.1.2.2⟩); clear b14)
            | (go_at_call 22; (with_reducible refine (implMed_was _ _ _ _ _ false io14 hLl HOC.out HR.out).mono ?_); rintro e w15 ⟨rfl, b15⟩; have M15 := hide (M14.out.below b15); have is15 := M15.out.2.1; have iu15 := M15.out.2.2.2.1; have io15 := M15.out.2.2.2.2.2.1; have HC15 := hide (show w15.cell? ⟨w1.heap.size, 0, none⟩ = some (.int .i64 (A : Int)) ∧ w15.cell? ⟨w1.heap.size, 1, none⟩ = some (.slice av ss.length cv) ∧ w15.cell? ⟨w1.heap.size + 1, 0, none⟩ = some (.int .i64 (B : Int)) ∧ w15.cell? ⟨w1.heap.size + 1, 1, none⟩ = some (.slice bv us.length cu) ∧ w15.cell? ⟨g2, 0, none⟩ = some (.int .i64 (N : Int)) ∧ w15.cell? ⟨g2, 1, none⟩ = some (.slice oa L.length oc) from ⟨M15.out.1.2.1, M15.out.1.2.2, M15.out.2.2.1.2.1, M15.out.2.2.1.2.2, M15.out.2.2.2.2.1.2.1, M15.out.2.2.2.2.1.2.2⟩); clear b15)
            | (go_at_call 22; (with_reducible refine (implMed_was _ _ _ _ _ true is15 hn HCV.out HR1.out).mono ?_); rintro e w16 ⟨rfl, b16⟩; have M16 := hide (M15.out.below b16); have is16 := M16.out.2.1; have iu16 := M16.out.2.2.2.1; have io16 := M16.out.2.2.2.2.2.1; have HC16 := hide (show w16.cell? ⟨w1.heap.size, 0, none⟩ = some (.int .i64 (A : Int)) ∧ w16.cell? ⟨w1.heap.size, 1, none⟩ = some (.slice av ss.length cv) ∧ w16.cell? ⟨w1.heap.size + 1, 0, none⟩ = some (.int .i64 (B : Int)) ∧ w16.cell? ⟨w1.heap.size + 1, 1, none⟩ = some (.slice bv us.length cu) ∧ w16.cell? ⟨g2, 0, none⟩ = some (.int .i64 (N : Int)) ∧ w16.cell? ⟨g2, 1, none⟩ = some (.slice oa L.length oc) from ⟨M16.out.1.2.1, M16.out.1.2.2, M16.out.2.2.1.2.1, M16.out.2.2.1.2.2, M16.out.2.2.2.2.1.2.1, M16.out.2.2.2.2.1.2.2⟩); clear b16)
            | (go_at_call 22; (with_reducible refine (implMed_was _ _ _ _ _ false iu16 hm HCU.out HR2.out).mono ?_); rintro e w17 ⟨rfl, b17⟩; have M17 := hide (M16.out.below b17); have is17 := M17.out.2.1; have iu17 := M17.out.2.2.2.1; have io17 := M17.out.2.2.2.2.2.1; have HC17 := hide (show w17.cell? ⟨w1.heap.size, 0, none⟩ = some (.int .i64 (A : Int)) ∧ w17.cell? ⟨w1.heap.size, 1, none⟩ = some (.slice av ss.length cv) ∧ w17.cell? ⟨w1.heap.size + 1, 0, none⟩ = some (.int .i64 (B : Int)) ∧ w17.cell? ⟨w1.heap.size + 1, 1, none⟩ = some (.slice bv us.length cu) ∧ w17.cell? ⟨g2, 0, none⟩ = some (.int .i64 (N : Int)) ∧ w17.cell? ⟨g2, 1, none⟩ = some (.slice oa L.length oc) from ⟨M17.out.1.2.1, M17.out.1.2.2, M17.out.2.2.1.2.1, M17.out.2.2.1.2.2, M17.out.2.2.2.2.1.2.1, M17.out.2.2.2.2.1.2.2⟩); clear b17))
          all_goals
            go_wp2
            go_ret
            exact ⟨rfl, bnext HB.out M17.out.2.2.2.2.2.2⟩
        | true =>
          have HR := hide (show closedB med (N : Int) L = true from by rw [HR0.out]; rfl)
          go_region_held3 (fun w' => w'.cell? ⟨w1.heap.size, 0, none⟩ = some (.int .i64 (A : Int)) ∧ w'.cell? ⟨w1.heap.size, 1, none⟩ = some (.slice av ss.length cv) ∧ w'.cell? ⟨w1.heap.size + 1, 0, none⟩ = some (.int .i64 (B : Int)) ∧ w'.cell? ⟨w1.heap.size + 1, 1, none⟩ = some (.slice bv us.length cu) ∧ w'.cell? ⟨g2, 0, none⟩ = some (.int .i64 (N : Int)) ∧ w'.cell? ⟨g2, 1, none⟩ = some (.slice oa L.length oc)) (first | exact HC10.out | exact HC17.out | exact HC16.out | exact HC15.out | exact HC14.out | exact HC13.out | exact HC12.out | exact HC11.out | go_keep) (first
            | (go_at_call 24; (with_reducible refine (critX_was _ _ _ _ K _ io10 hLl HK.out).mono ?_); rintro e w11 ⟨va11, vc11, rfl, b11⟩; have M11 := hide (MD.out.below b11); have is11 := M11.out.2.1; have iu11 := M11.out.2.2.2.1; have io11 := M11.out.2.2.2.2.2.1; have HC11 := hide (show w11.cell? ⟨w1.heap.size, 0, none⟩ = some (.int .i64 (A : Int)) ∧ w11.cell? ⟨w1.heap.size, 1, none⟩ = some (.slice av ss.length cv) ∧ w11.cell? ⟨w1.heap.size + 1, 0, none⟩ = some (.int .i64 (B : Int)) ∧ w11.cell? ⟨w1.heap.size + 1, 1, none⟩ = some (.slice bv us.length cu) ∧ w11.cell? ⟨g2, 0, none⟩ = some (.int .i64 (N : Int)) ∧ w11.cell? ⟨g2, 1, none⟩ = some (.slice oa L.length oc) from ⟨M11.out.1.2.1, M11.out.1.2.2, M11.out.2.2.1.2.1, M11.out.2.2.1.2.2, M11.out.2.2.2.2.1.2.1, M11.out.2.2.2.2.1.2.2⟩); clear b11)
            | (go_at_call 24; (with_reducible refine (critX_was _ _ _ _ K1 _ is11 hn HK1.out).mono ?_); rintro e w12 ⟨va12, vc12, rfl, b12⟩; have M12 := hide (M11.out.below b12); have is12 := M12.out.2.1; have iu12 := M12.out.2.2.2.1; have io12 := M12.out.2.2.2.2.2.1; have HC12 := hide (show w12.cell? ⟨w1.heap.size, 0, none⟩ = some (.int .i64 (A : Int)) ∧ w12.cell? ⟨w1.heap.size, 1, none⟩ = some (.slice av ss.length cv) ∧ w12.cell? ⟨w1.heap.size + 1, 0, none⟩ = some (.int .i64 (B : Int)) ∧ w12.cell? ⟨w1.heap.size + 1, 1, none⟩ = some (.slice bv us.length cu) ∧ w12.cell? ⟨g2, 0, none⟩ = some (.int .i64 (N : Int)) ∧ w12.cell? ⟨g2, 1, none⟩ = some (.slice oa L.length oc) from ⟨M12.out.1.2.1, M12.out.1.2.2, M12.out.2.2.1.2.1, M12.out.2.2.1.2.2, M12.out.2.2.2.2.1.2.1, M12.out.2.2.2.2.1.2.2⟩); clear b12)
            | (go_at_call 24; (with_reducible refine (critX_was _ _ _ _ K2 _ iu12 hm HK2.out).mono ?_); rintro e w13 ⟨va13, vc13, rfl, b13⟩; have M13 := hide (M12.out.below b13); have is13 := M13.out.2.1; have iu13 := M13.out.2.2.2.1; have io13 := M13.out.2.2.2.2.2.1; have HC13 := hide (show w13.cell? ⟨w1.heap.size, 0, none⟩ = some (.int .i64 (A : Int)) ∧ w13.cell? ⟨w1.heap.size, 1, none⟩ = some (.slice av ss.length cv) ∧ w13.cell? ⟨w1.heap.size + 1, 0, none⟩ = some (.int .i64 (B : Int)) ∧ w13.cell? ⟨w1.heap.size + 1, 1, none⟩ = some (.slice bv us.length cu) ∧ w13.cell? ⟨g2, 0, none⟩ = some (.int .i64 (N : Int)) ∧ w13.cell? ⟨g2, 1, none⟩ = some (.slice oa L.length oc) from ⟨M13.out.1.2.1, M13.out.1.2.2, M13.out.2.2.1.2.1, M13.out.2.2.1.2.2, M13.out.2.2.2.2.1.2.1, M13.out.2.2.2.2.1.2.2⟩); clear b13)
            | (go_at_call 28; (with_reducible refine (implBlkX_was _ _ _ _ false _ io13 hLl HBK.out).mono ?_); rintro e w14 ⟨rfl, b14⟩; have M14 := hide (M13.out.below b14); have is14 := M14.out.2.1; have iu14 := M14.out.2.2.2.1; have io14 := M14.out.2.2.2.2.2.1; have HC14 := hide (show w14.cell? ⟨w1.heap.size, 0, none⟩ = some (.int .i64 (A : Int)) ∧ w14.cell? ⟨w1.heap.size, 1, none⟩ = some (.slice av ss.length cv) ∧ w14.cell? ⟨w1.heap.size + 1, 0, none⟩ = some (.int .i64 (B : Int)) ∧ w14.cell? ⟨w1.heap.size + 1, 1, none⟩ = some (.slice bv us.length cu) ∧ w14.cell? ⟨g2, 0, none⟩ = some (.int .i64 (N : Int)) ∧ w14.cell? ⟨g2, 1, none⟩ = some (.slice oa L.length oc) from ⟨M14.out.1.2.1, M14.out.1.2.2, M14.out.2.2.1.2.1, M14.out.2.2.1.2.2, M14.out.2.2.2.2.1.2.1, M14.out.2.2.2.2.1.2.2⟩); clear b14)
            | (go_at_call 22; (with_reducible refine (implMed_was _ _ _ _ _ true io14 hLl HOC.out HR.out).mono ?_); rintro e w15 ⟨rfl, b15⟩; have M15 := hide (M14.out.below b15); have is15 := M15.out.2.1; have iu15 := M15.out.2.2.2.1; have io15 := M15.out.2.2.2.2.2.1; have HC15 := hide (show w15.cell? ⟨w1.heap.size, 0, none⟩ = some (.int .i64 (A : Int)) ∧ w15.cell? ⟨w1.heap.size, 1, none⟩ = some (.slice av ss.length cv) ∧ w15.cell? ⟨w1.heap.size + 1, 0, none⟩ = some (.int .i64 (B : Int)) ∧ w15.cell? ⟨w1.heap.size + 1, 1, none⟩ = some (.slice bv us.length cu) ∧ w15.cell? ⟨g2, 0, none⟩ = some (.int .i64 (N : Int)) ∧ w15.cell? ⟨g2, 1, none⟩ = some (.slice oa L.length oc) from ⟨M15.out.1.2.1, M15.out.1.2.2, M15.out.2.2.1.2.1, M15.out.2.2.1.2.2, M15.out.2.2.2.2.1.2.1, M15.out.2.2.2.2.1.2.2⟩); clear b15)
            | (go_at_call 22; (with_reducible refine (implMed_was _ _ _ _ _ true is15 hn HCV.out HR1.out).mono ?_); rintro e w16 ⟨rfl, b16⟩; have M16 := hide (M15.out.below b16); have is16 := M16.out.2.1; have iu16 := M16.out.2.2.2.1; have io16 := M16.out.2.2.2.2.2.1; have HC16 := hide (show w16.cell? ⟨w1.heap.size, 0, none⟩ = some (.int .i64 (A : Int)) ∧ w16.cell? ⟨w1.heap.size, 1, none⟩ = some (.slice av ss.length cv) ∧ w16.cell? ⟨w1.heap.size + 1, 0, none⟩ = some (.int .i64 (B : Int)) ∧ w16.cell? ⟨w1.heap.size + 1, 1, none⟩ = some (.slice bv us.length cu) ∧ w16.cell? ⟨g2, 0, none⟩ = some (.int .i64 (N : Int)) ∧ w16.cell? ⟨g2, 1, none⟩ = some (.slice oa L.length oc) from ⟨M16.out.1.2.1, M16.out.1.2.2, M16.out.2.2.1.2.1, M16.out.2.2.1.2.2, M16.out.2.2.2.2.1.2.1, M16.out.2.2.2.2.1.2.2⟩); clear b16)
            | (go_at_call 22; (with_reducible refine (implMed_was _ _ _ _ _ true iu16 hm HCU.out HR2.out).mono ?_); rintro e w17 ⟨rfl, b17⟩; have M17 := hide (M16.out.below b17); have is17 := M17.out.2.1; have iu17 := M17.out.2.2.2.1; have io17 := M17.out.2.2.2.2.2.1; have HC17 := hide (show w17.cell? ⟨w1.heap.size, 0, none⟩ = some (.int .i64 (A : Int)) ∧ w17.cell? ⟨w1.heap.size, 1, none⟩ = some (.slice av ss.length cv) ∧ w17.cell? ⟨w1.heap.size + 1, 0, none⟩ = some (.int .i64 (B : Int)) ∧ w17.cell? ⟨w1.heap.size + 1, 1, none⟩ = some (.slice bv us.length cu) ∧ w17.cell? ⟨g2, 0, none⟩ = some (.int .i64 (N : Int)) ∧ w17.cell? ⟨g2, 1, none⟩ = some (.slice oa L.length oc) from ⟨M17.out.1.2.1, M17.out.1.2.2, M17.out.2.2.1.2.1, M17.out.2.2.1.2.2, M17.out.2.2.2.2.1.2.1, M17.out.2.2.2.2.1.2.2⟩); clear b17))
          all_goals
            go_wp2
            go_ret
            exact ⟨rfl, bnext HB.out M17.out.2.2.2.2.2.2⟩
end Go.Proofs.Ytbnnblfgpdfmpaa
