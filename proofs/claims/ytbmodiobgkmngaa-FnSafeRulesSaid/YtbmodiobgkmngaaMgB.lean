/- Texts of this seat one behind the other: AppM, LdT, BkP, CrE, Grp, GrC, MtI, MtS, MtM, SmM, SmF, SfK, SfQ, Rle, PSfr. Conditions: none. -/
import Derived.Test.YtbmodiobgkmngaaApplyR
import Derived.Test.YtbmodiobgkmngaaTabX
import Derived.Test.YtbmodiobgkmngaaSafeI
import Derived.Test.YtbmodiobgkmngaaMgA
import Derived.Test.YtbmodiobgkmngaaVlt
import Derived.Test.YtbmodiobgkmngaaTabG
import Derived.Test.YtbmodiobgkmngaaRule
import Derived.Test.YtbmodiobgkmngaaApply
import Derived.Test.YtbmodiobgkmngaaMgC
import Derived.Test.YtbmodiobgkmngaaRls
import Derived.Test.YtbmodiobgkmngaaLawH
import Derived.Test.YtbmodiobgkmngaaMgD
import Derived.Deep.RegionHeld3

/- AppM: Applying a rule: safe rules answer in the space, a dictator's answer is his vote: mathematics. -/
namespace Go.Proofs.Ytbmodiobgkmngaa
open Go.RowKit Go.Joins

theorem dictA {v x : Int} {i : Nat} (hv : 1 ≤ v ∧ v ≤ 3) (h : holdDict v (upT v (memF i)) x = true) (g : Nat) (hg : (g : Int) < pw v) : bitN x.toNat g = bitN g i := by
  unfold holdDict at h
  rw [eqT_up (pw_le3 v hv.2)] at h
  have h1 := h g hg
  unfold winF memF at h1
  have h2 : (bitN x.toNat g == bitN g i) = true := by
    rw [bit_same, h1]
    simp
  simpa using h2
theorem isD_all {v : Int} {ws : List Int} {i : Nat} (h : isD v ws i = true) : ∀ x ∈ ws, holdDict v (upT v (memF i)) x = true := fun x hx => by
  unfold isD at h
  cases hh : holdDict v (upT v (memF i)) x with
  | true => rfl
  | false =>
    have h1 : (ws.any fun x => !holdDict v (upT v (memF i)) x) = true := List.any_eq_true.2 ⟨x, hx, by simp [hh]⟩
    rw [h1] at h
    cases h
theorem firstI_inA {v : Int} {P : Nat → Bool} {r : Int} (e : firstI v P = r) (h : ¬ r < 0) : ∃ i : Nat, (i : Int) < v ∧ P i = true ∧ r = i := by
  unfold firstI at e
  split at e
  · rename_i h0; exact ⟨0, by omega, h0.2, by omega⟩
  · split at e
    · rename_i h0; exact ⟨1, by omega, h0.2, by omega⟩
    · split at e
      · rename_i h0; exact ⟨2, by omega, h0.2, by omega⟩
      · omega
theorem safeK_all {zs ws : List Int} : ∀ (k : Nat) (pre vs : List Int), safeK zs ws k pre = true → vs.length = k → (∀ x ∈ vs, x ∈ zs) → hasB zs ((applyK (pre ++ vs) ws ws.length : Nat) : Int) = true
  | 0, pre, vs, h, hl, _ => by
    rw [List.length_eq_zero_iff.1 hl, List.append_nil]
    exact h
  | k + 1, pre, [], _, hl, _ => by simp at hl
  | k + 1, pre, x :: vs, h, hl, hin => by
    have h1 : (zs.all fun x => safeK zs ws k (pre ++ [x])) = true := h
    rw [List.all_eq_true] at h1
    have h2 := safeK_all k (pre ++ [x]) vs (h1 x (hin x (by simp))) (by simpa using hl) (fun y hy => hin y (by simp [hy]))
    rwa [List.append_assoc, List.singleton_append] at h2
/-- a safe rule answers in the space -/
theorem app_safe {n v r : Int} {zs ws vs : List Int} (hr : applyR n zs v ws vs = r) (h0 : ¬ r < 0) (hs : safeR n zs v ws = true) : inB n zs r = true := by
  by_cases hok : ApplyOk n zs v ws vs
  · rw [applyR_yes hok] at hr
    obtain ⟨hv, hvo, hl⟩ := hok
    rw [safeR_yes hv] at hs
    have hvo' : VotesOk zs vs := by simpa [votesB] using hvo
    have h1 := safeK_all v.toNat [] vs hs (by omega) (fun x hx => hvo'.mem x hx)
    rw [List.nil_append, hr] at h1
    rw [inB_true (vsB_true (vr_of hv).1)]
    exact h1
  · rw [applyR_no hok] at hr
    omega
theorem groupK_bit (vs : List Int) (j : Nat) : ∀ k i, i < k → bitN (groupK vs j k) i = bitN (vs.getD i 0).toNat j
  | 0, i, h => by omega
  | k + 1, i, h => by
    have hb := bitN_le (vs.getD k 0).toNat j
    have hlt := groupK_lt vs j k
    rw [groupK]
    rcases Nat.lt_or_ge i k with h1 | h1
    · rw [← groupK_bit vs j k i h1]
      unfold bitN
      have e : (groupK vs j k + 2 ^ k * bitN (vs.getD k 0).toNat j) = groupK vs j k + 2 ^ i * (2 * (2 ^ (k - i - 1) * bitN (vs.getD k 0).toNat j)) := by
        have e2 : 2 ^ k = 2 ^ i * (2 * 2 ^ (k - i - 1)) := by
          rw [← Nat.pow_succ', ← Nat.pow_add]
          congr 1
          omega
        rw [e2, Nat.mul_assoc, Nat.mul_assoc]
      show (groupK vs j k + 2 ^ k * bitN (vs.getD k 0).toNat j) / 2 ^ i % 2 = _
      rw [e, Nat.add_mul_div_left _ _ (Nat.two_pow_pos i), Nat.add_mul_mod_self_left]
    · obtain rfl : i = k := by omega
      show (groupK vs j i + 2 ^ i * bitN (vs.getD i 0).toNat j) / 2 ^ i % 2 = _
      rw [Nat.add_mul_div_left _ _ (Nat.two_pow_pos i), Nat.div_eq_of_lt hlt, Nat.zero_add]
      have := bitN_le (vs.getD i 0).toNat j
      omega
/-- a dictator's answer is his vote -/
theorem app_dict {n v r d : Int} {zs ws vs : List Int} (hr : applyR n zs v ws vs = r) (h0 : ¬ r < 0) (hd : dictR n zs v ws = d) (hd0 : ¬ d < 0) : ∃ i : Nat, d = i ∧ i < vs.length ∧ vs.getD i 0 = r := by
  by_cases hok : ApplyOk n zs v ws vs
  · rw [applyR_yes hok] at hr
    obtain ⟨hv, hvo, hl⟩ := hok
    obtain ⟨hV, hru⟩ := vr_of hv
    have hvo' : VotesOk zs vs := by simpa [votesB] using hvo
    unfold dictR at hd
    rw [if_pos hv] at hd
    obtain ⟨i, hi, hD, rfl⟩ := firstI_inA hd hd0
    have hDS : ∀ j, j < ws.length → ∀ g : Nat, (g : Int) < pw v → bitN (ws.getD j 0).toNat g = bitN g i := fun j hj g hg => by
      rw [getD_lt hj]
      exact dictA hru.1 (isD_all hD _ (List.getElem_mem hj)) g hg
    refine ⟨i, rfl, by omega, ?_⟩
    have hiv : i < vs.length := by omega
    have hx : vs.getD i 0 ∈ zs := hvo'.1 i hiv
    obtain ⟨x, hxe⟩ : ∃ x, x = vs.getD i 0 := ⟨_, rfl⟩
    rw [← hxe] at hx ⊢
    have key : ∀ k, k ≤ ws.length → applyK vs ws k = x.toNat % 2 ^ k := by
      intro k
      induction k with
      | zero => intro _; simp [applyK, Nat.mod_one]
      | succ k ih =>
        intro hk
        have hlt := groupK_lt vs k vs.length
        have hs := hDS k (by omega) (groupK vs k vs.length) (by
          have e : pw v = ((2 ^ vs.length : Nat) : Int) := by
            have : v.toNat = vs.length := by omega
            unfold pw
            rw [this]
          rw [e]
          omega)
        rw [groupK_bit vs k vs.length i hiv, ← hxe] at hs
        rw [applyK, ih (by omega), hs, Nat.mod_pow_succ]
        rfl
    have hxr : 0 ≤ x ∧ x < ((2 ^ ws.length : Nat) : Int) := by
      obtain ⟨t, ht, rfl⟩ := List.getElem_of_mem hx
      have h1 := (hV.2.2 t ht).1
      rw [getD_lt ht] at h1
      have e : pw n = ((2 ^ ws.length : Nat) : Int) := by
        have : n.toNat = ws.length := by have := hru.2.1; omega
        unfold pw
        rw [this]
      rw [e] at h1
      omega
    rw [key ws.length (Nat.le_refl _), Nat.mod_eq_of_lt (by omega)] at hr
    omega
  · rw [applyR_no hok] at hr
    omega

theorem implDictA_was (n v : Int) (a b : Option Addr) (cap capb : Nat) (zs ws : List Int) (w : World) (r : Int) (hi : Ints w a zs) (hj : Ints w b ws) (hn : zs.length ≤ 1048576) (hm : ws.length ≤ 1048576) (hr : dictR n zs v ws = r) :
    Calls Try.prog 13 #[.agg #[.int .i64 n, .slice a zs.length cap], .agg #[.int .i64 v, .slice b ws.length capb]] w fun e w' => e = .returned (.int .i64 r) ∧ Below w.heap.size w w' := by
  subst hr
  exact implDictatorOf_any n v a b cap capb zs ws w hi hj hn hm
theorem implSafeA_was (n v : Int) (a b : Option Addr) (cap capb : Nat) (zs ws : List Int) (w : World) (r : Bool) (hi : Ints w a zs) (hj : Ints w b ws) (hn : zs.length ≤ 1048576) (hm : ws.length ≤ 1048576) (hr : safeR n zs v ws = r) :
    Calls Try.prog 12 #[.agg #[.int .i64 n, .slice a zs.length cap], .agg #[.int .i64 v, .slice b ws.length capb]] w fun e w' => e = .returned (.bool r) ∧ Below w.heap.size w w' := by
  subst hr
  exact implIsSafe_any n v a b cap capb zs ws w hi hj hn hm
end Go.Proofs.Ytbmodiobgkmngaa

/- LdT: Following leads: the result is closed, and as symmetric as what it began with. -/
namespace Go.Proofs.Ytbmodiobgkmngaa
open Go.RowKit Go.Joins

/-- a leads to b -/
def rel (r : List Nat) (a b : Nat) : Prop := (r.getD a 0).testBit b = true
theorem set_at {r : List Nat} {f y a : Nat} (hf : f < r.length) : (r.set f y).getD a 0 = if a = f then y else r.getD a 0 := by
  rw [List.getD_eq_getElem?_getD, List.getElem?_set]
  by_cases h : f = a
  · subst h
    simp [hf]
  · rw [if_neg h, if_neg (fun e => h e.symm), List.getD_eq_getElem?_getD]
theorem rel_upd {r : List Nat} {f t a b : Nat} (hf : f < r.length) : rel (upd r f t) a b ↔ rel r a b ∨ (a = f ∧ b = t) := by
  unfold rel upd
  rw [set_at hf]
  by_cases h : a = f
  · subst h
    rw [if_pos rfl, Nat.testBit_or, Nat.testBit_two_pow, Bool.or_eq_true, decide_eq_true_eq]
    constructor
    · rintro (h | h)
      · exact Or.inl h
      · exact Or.inr ⟨rfl, h.symm⟩
    · rintro (h | h)
      · exact Or.inl h
      · exact Or.inr h.2.symm
  · rw [if_neg h]
    constructor
    · exact Or.inl
    · rintro (h1 | h1)
      · exact h1
      · exact absurd h1.1 h
theorem foldl_rel {X : Type} {K : Nat} {f : List Nat → X → List Nat} {P : X → Nat → Nat → Prop} : ∀ (l : List X) (r : List Nat), r.length = K →
    (∀ r x, x ∈ l → r.length = K → (f r x).length = K ∧ ∀ a b, rel (f r x) a b ↔ rel r a b ∨ P x a b) →
    (l.foldl f r).length = K ∧ ∀ a b, rel (l.foldl f r) a b ↔ rel r a b ∨ ∃ x ∈ l, P x a b
  | [], r, hr, _ => ⟨hr, fun a b => by simp⟩
  | x :: l, r, hr, h => by
    obtain ⟨h1, h2⟩ := h r x (by simp) hr
    obtain ⟨h3, h4⟩ := foldl_rel l (f r x) h1 (fun r y hy => h r y (by simp [hy]))
    refine ⟨h3, fun a b => ?_⟩
    rw [List.foldl_cons, h4, h2]
    constructor
    · rintro ((h5 | h5) | ⟨y, hy, h5⟩)
      · exact Or.inl h5
      · exact Or.inr ⟨x, by simp, h5⟩
      · exact Or.inr ⟨y, by simp [hy], h5⟩
    · rintro (h5 | ⟨y, hy, h5⟩)
      · exact Or.inl (Or.inl h5)
      · rcases List.mem_cons.1 hy with e | e
        · subst e
          exact Or.inl (Or.inr h5)
        · exact Or.inr ⟨y, e, h5⟩
theorem stK_rel {N : Nat} {m : Nat × Nat} {j : Nat} (hj : j < N) {r : List Nat} (hr : r.length = 2 * N) : (stK m j N r).length = 2 * N ∧ ∀ a b, rel (stK m j N r) a b ↔ rel r a b ∨ ∃ k ∈ List.range N, condK m j k = true ∧ a = plc m j ∧ b = opp m k :=
  foldl_rel (P := fun k a b => condK m j k = true ∧ a = plc m j ∧ b = opp m k) (List.range N) r hr fun r k _ hl => by
    have hf : plc m j < r.length := by rw [hl]; exact plc_lt m hj
    by_cases hc : condK m j k = true
    · rw [if_pos hc]
      refine ⟨by unfold upd; rw [List.length_set]; exact hl, fun a b => ?_⟩
      rw [rel_upd hf]
      constructor
      · rintro (h | h)
        · exact Or.inl h
        · exact Or.inr ⟨hc, h⟩
      · rintro (h | h)
        · exact Or.inl h
        · exact Or.inr h.2
    · rw [if_neg hc]
      refine ⟨hl, fun a b => ⟨Or.inl, ?_⟩⟩
      rintro (h | h)
      · exact h
      · exact absurd h.1 hc
theorem stJ_rel {N : Nat} {m : Nat × Nat} {r : List Nat} (hr : r.length = 2 * N) : (stJ N m N r).length = 2 * N ∧ ∀ a b, rel (stJ N m N r) a b ↔ rel r a b ∨ ∃ j ∈ List.range N, ∃ k ∈ List.range N, condK m j k = true ∧ a = plc m j ∧ b = opp m k :=
  foldl_rel (P := fun j a b => ∃ k ∈ List.range N, condK m j k = true ∧ a = plc m j ∧ b = opp m k) (List.range N) r hr fun _ _ hj hl => stK_rel (List.mem_range.1 hj) hl
theorem stI_rel (N : Nat) (L : List (Nat × Nat)) (a b : Nat) : rel (stI N L L.length) a b ↔ ∃ m ∈ L, ∃ j ∈ List.range N, ∃ k ∈ List.range N, condK m j k = true ∧ a = plc m j ∧ b = opp m k := by
  have h := (foldl_rel (P := fun m a b => ∃ j ∈ List.range N, ∃ k ∈ List.range N, condK m j k = true ∧ a = plc m j ∧ b = opp m k) L (List.replicate (2 * N) 0) (by simp) fun r m _ hl => stJ_rel hl).2 a b
  unfold stI
  rw [List.take_length, h]
  constructor
  · rintro (h1 | h1)
    · unfold rel at h1
      rw [List.getD_eq_getElem?_getD, List.getElem?_replicate] at h1
      split at h1 <;> simp at h1
    · exact h1
  · exact Or.inr
theorem plc_fin : ∀ k : Fin 4, ∀ b : Fin 2, (2 * k.val + 1 - b.val) ^^^ 1 = 2 * k.val + b.val := by decide +kernel
theorem opp_back (m : Nat × Nat) {k : Nat} (hk : k < 4) : opp m k ^^^ 1 = plc m k := by
  have hb := bitN_le m.2 k
  exact plc_fin ⟨k, hk⟩ ⟨bitN m.2 k, by omega⟩
theorem stI_sym {N : Nat} (hN : N ≤ 4) (L : List (Nat × Nat)) {a b : Nat} (h : rel (stI N L L.length) a b) : rel (stI N L L.length) (b ^^^ 1) (a ^^^ 1) := by
  rw [stI_rel] at h ⊢
  obtain ⟨m, hm, j, hj, k, hk, hc, rfl, rfl⟩ := h
  have h1 : condK m k j = true := by
    unfold condK at hc ⊢
    simp only [Bool.and_eq_true, bne_iff_ne, beq_iff_eq] at hc ⊢
    exact ⟨fun e => hc.1 e.symm, hc.2.2, hc.2.1⟩
  have j4 := List.mem_range.1 hj
  have k4 := List.mem_range.1 hk
  exact ⟨m, hm, k, hk, j, hj, h1, opp_back m (by omega), plc_opp m (by omega)⟩
/-- paths -/
inductive Pth (R : Nat → Nat → Prop) : Nat → Nat → Prop
  | one {a b : Nat} : R a b → Pth R a b
  | more {a b c : Nat} : Pth R a b → R b c → Pth R a c
theorem Pth.trans {R : Nat → Nat → Prop} {a b c : Nat} (h1 : Pth R a b) (h2 : Pth R b c) : Pth R a c := by
  induction h2 with
  | one h => exact .more h1 h
  | more _ h ih => exact .more ih h
theorem Pth.least {R T : Nat → Nat → Prop} (h1 : ∀ a b, R a b → T a b) (h2 : ∀ a b c, T a b → T b c → T a c) {a b : Nat} (h : Pth R a b) : T a b := by
  induction h with
  | one h => exact h1 _ _ h
  | more _ h ih => exact h2 _ _ _ ih (h1 _ _ h)
theorem Pth.turn {R : Nat → Nat → Prop} (h1 : ∀ a b, R a b → R (b ^^^ 1) (a ^^^ 1)) {a b : Nat} (h : Pth R a b) : Pth R (b ^^^ 1) (a ^^^ 1) := by
  induction h with
  | one h => exact .one (h1 _ _ h)
  | more _ h ih => exact Pth.trans (.one (h1 _ _ h)) ih
/-- one round of following -/
theorem clS_len (r : List Nat) (k i : Nat) : (clS r k i).length = r.length := by
  unfold clS
  split
  · rw [List.length_set]
  · rfl
theorem clI_len (k ii : Nat) (r : List Nat) : (clI k ii r).length = r.length := foldl_inv (fun x => x.length = r.length) _ _ (fun b a _ hb => (clS_len b k a).trans hb) rfl
theorem clK_len (K kk : Nat) (r : List Nat) : (clK K kk r).length = r.length := foldl_inv (fun x => x.length = r.length) _ _ (fun b a _ hb => (clI_len a K b).trans hb) rfl
theorem clI_row {k : Nat} {r : List Nat} : ∀ (ii : Nat), ii ≤ r.length → ∀ a, (clI k ii r).getD a 0 = if a < ii ∧ bitN (r.getD a 0) k = 1 then r.getD a 0 ||| r.getD k 0 else r.getD a 0
  | 0, _, a => by rw [if_neg (by omega)]; rfl
  | ii + 1, h, a => by
    have ih := clI_row (k := k) (r := r) ii (by omega)
    have hk : (clI k ii r).getD k 0 = r.getD k 0 := by
      rw [ih k]
      split
      · exact Nat.or_self _
      · rfl
    have hi : (clI k ii r).getD ii 0 = r.getD ii 0 := by
      rw [ih ii, if_neg (fun h => Nat.lt_irrefl _ h.1)]
    rw [clI_succ]
    unfold clS
    rw [hi, hk]
    by_cases hb : bitN (r.getD ii 0) k = 1
    · rw [if_pos hb, set_at (show ii < (clI k ii r).length by rw [clI_len]; omega)]
      by_cases ha : a = ii
      · subst ha
        rw [if_pos rfl, if_pos ⟨by omega, hb⟩]
      · rw [if_neg ha, ih a]
        by_cases h2 : a < ii ∧ bitN (r.getD a 0) k = 1
        · rw [if_pos h2, if_pos ⟨by omega, h2.2⟩]
        · rw [if_neg h2, if_neg (fun h3 => h2 ⟨by omega, h3.2⟩)]
    · rw [if_neg hb, ih a]
      by_cases h2 : a < ii ∧ bitN (r.getD a 0) k = 1
      · rw [if_pos h2, if_pos ⟨by omega, h2.2⟩]
      · rw [if_neg h2, if_neg (fun h3 => h2 ⟨by
          rcases Nat.lt_or_ge a ii with h4 | h4
          · exact h4
          · obtain rfl : a = ii := by omega
            exact absurd h3.2 hb, h3.2⟩)]
theorem clI_rel {K k : Nat} {r : List Nat} (hr : r.length = K) {a b : Nat} (ha : a < K) : rel (clI k K r) a b ↔ rel r a b ∨ (rel r a k ∧ rel r k b) := by
  unfold rel
  rw [clI_row K (by omega) a]
  by_cases hb : bitN (r.getD a 0) k = 1
  · rw [if_pos ⟨ha, hb⟩, Nat.testBit_or, Bool.or_eq_true]
    have h1 := (bitN_testBit _ _).1 hb
    constructor
    · rintro (h | h)
      · exact Or.inl h
      · exact Or.inr ⟨h1, h⟩
    · rintro (h | h)
      · exact Or.inl h
      · exact Or.inr h.2
  · rw [if_neg (fun h => hb h.2)]
    constructor
    · exact Or.inl
    · rintro (h | h)
      · exact h
      · exact absurd ((bitN_testBit _ _).2 h.1) hb
theorem rel_lt {K : Nat} {r : List Nat} (hr : r.length = K) {a b : Nat} (h : rel r a b) : a < K := by
  rcases Nat.lt_or_ge a K with h1 | h1
  · exact h1
  · unfold rel at h
    rw [List.getD_eq_getElem?_getD, List.getElem?_eq_none (by omega)] at h
    simp at h
theorem clK_rel {K : Nat} {r : List Nat} (hr : r.length = K) : ∀ kk, kk ≤ K → (∀ a b, rel r a b → rel (clK K kk r) a b) ∧ (∀ a b, rel (clK K kk r) a b → Pth (rel r) a b) ∧
    ∀ c, c < kk → ∀ a b, rel (clK K kk r) a c → rel (clK K kk r) c b → rel (clK K kk r) a b
  | 0, _ => ⟨fun a b h => h, fun a b h => .one h, fun c h => by omega⟩
  | k + 1, hk => by
    obtain ⟨h1, h2, h3⟩ := clK_rel hr k (by omega)
    rw [clK_succ]
    have hl : (clK K k r).length = K := (clK_len K k r).trans hr
    have hl' : (clI k K (clK K k r)).length = K := (clI_len k K _).trans hl
    generalize clK K k r = q at h1 h2 h3 hl hl'
    refine ⟨fun a b h => (clI_rel hl (rel_lt hl (h1 a b h))).2 (Or.inl (h1 a b h)), fun a b h => ?_, fun c hc a b hac hcb => ?_⟩
    · rcases (clI_rel hl (rel_lt hl' h)).1 h with h4 | ⟨h4, h5⟩
      · exact h2 a b h4
      · exact (h2 _ _ h4).trans (h2 _ _ h5)
    · have ha := rel_lt hl' hac
      have hcK := rel_lt hl' hcb
      have e1 := (clI_rel hl ha).1 hac
      have e2 := (clI_rel hl hcK).1 hcb
      refine (clI_rel hl ha).2 ?_
      rcases Nat.lt_or_ge c k with hck | hck
      · rcases e1 with e1 | ⟨e1, e1'⟩
        · rcases e2 with e2 | ⟨e2, e2'⟩
          · exact Or.inl (h3 c hck a b e1 e2)
          · exact Or.inr ⟨h3 c hck a k e1 e2, e2'⟩
        · rcases e2 with e2 | ⟨e2, e2'⟩
          · exact Or.inr ⟨e1, h3 c hck k b e1' e2⟩
          · exact Or.inr ⟨e1, e2'⟩
      · obtain rfl : c = k := by omega
        have f1 : rel q a c := e1.elim id And.left
        have f2 : rel q c b := e2.elim id And.right
        exact Or.inr ⟨f1, f2⟩
/-- what is led to, is led to from the other side -/
theorem ldR_sym {N : Nat} {zs : List Int} (h : vsB (N : Int) zs = true) {a b : Nat} (hr : rel (ldR (N : Int) zs) a b) : rel (ldR (N : Int) zs) (b ^^^ 1) (a ^^^ 1) := by
  have hN : N ≤ 4 := by have := (valid_of h).1; omega
  rw [ldR_yes h] at hr ⊢
  have hl : (stI N (critL N zs) (critL N zs).length).length = 2 * N := (rc_stI N _ _).1
  obtain ⟨h1, h2, h3⟩ := clK_rel hl (2 * N) (Nat.le_refl _)
  have hp := (h2 a b hr).turn (fun a b h => stI_sym hN _ h)
  have hl' : (clK (2 * N) (2 * N) (stI N (critL N zs) (critL N zs).length)).length = 2 * N := (clK_len _ _ _).trans hl
  exact hp.least h1 (fun x y z hxy hyz => h3 y (rel_lt hl' hyz) x z hxy hyz)
theorem rel_bit {r : List Nat} {a b : Nat} : rel r a b ↔ bitN (r.getD a 0) b = 1 := (bitN_testBit _ _).symm
theorem flip_fin : ∀ k : Fin 8, (k.val ^^^ 1) ^^^ 1 = k.val := by decide +kernel
theorem flip_lt : ∀ N : Fin 5, ∀ k : Fin 8, k.val < 2 * N.val → k.val ^^^ 1 < 2 * N.val := by decide +kernel
theorem ldR_bits {N : Nat} {zs : List Int} (h : vsB (N : Int) zs = true) {a b : Nat} (ha : a < 2 * N) (hb : b < 2 * N) : bitN ((ldR (N : Int) zs).getD a 0) b = bitN ((ldR (N : Int) zs).getD (b ^^^ 1) 0) (a ^^^ 1) := by
  have hN : N ≤ 4 := by have := (valid_of h).1; omega
  have h1 := bitN_le ((ldR (N : Int) zs).getD a 0) b
  have h2 := bitN_le ((ldR (N : Int) zs).getD (b ^^^ 1) 0) (a ^^^ 1)
  have ea := flip_fin ⟨a, by omega⟩
  have eb := flip_fin ⟨b, by omega⟩
  have key : bitN ((ldR (N : Int) zs).getD a 0) b = 1 ↔ bitN ((ldR (N : Int) zs).getD (b ^^^ 1) 0) (a ^^^ 1) = 1 := by
    rw [← rel_bit, ← rel_bit]
    constructor
    · exact ldR_sym h
    · intro h3
      have h4 := ldR_sym h h3
      simp only at ea eb
      rw [ea, eb] at h4
      exact h4
  omega
end Go.Proofs.Ytbmodiobgkmngaa

/- BkP: Blocked spaces: paths of leads. Plain mathematics. -/
namespace Go.Proofs.Ytbmodiobgkmngaa
open Go.RowKit Go.Joins

/-- an answer leads to another one by a critical part -/
def LR (N : Nat) (zs : List Int) (a b : Nat) : Prop := ∃ m ∈ critL N zs, ∃ j ∈ List.range N, ∃ k ∈ List.range N, condK m j k = true ∧ a = plc m j ∧ b = opp m k
theorem Pth.map {R T : Nat → Nat → Prop} {s : Nat → Nat} (h : ∀ a b, R a b → T (s a) (s b)) {a b : Nat} (hp : Pth R a b) : Pth T (s a) (s b) := by
  induction hp with
  | one h1 => exact .one (h _ _ h1)
  | more _ h1 ih => exact .more ih (h _ _ h1)
section
variable {N : Nat} {zs : List Int}
theorem ldR_pth (hv : vsB (N : Int) zs = true) (a b : Nat) : rel (ldR (N : Int) zs) a b ↔ Pth (LR N zs) a b := by
  rw [ldR_yes hv]
  have hl : (stI N (critL N zs) (critL N zs).length).length = 2 * N := (rc_stI N _ _).1
  obtain ⟨h1, h2, h3⟩ := clK_rel hl (2 * N) (Nat.le_refl _)
  have hl' : (clK (2 * N) (2 * N) (stI N (critL N zs) (critL N zs).length)).length = 2 * N := (clK_len _ _ _).trans hl
  have hR : ∀ a b, rel (stI N (critL N zs) (critL N zs).length) a b ↔ LR N zs a b := fun a b => stI_rel N (critL N zs) a b
  constructor
  · intro h
    have hp := h2 a b h
    exact hp.map (s := fun x => x) fun a b h => (hR a b).1 h
  · intro h
    exact h.least (fun a b h => h1 a b ((hR a b).2 h)) (fun x y z hxy hyz => h3 y (rel_lt hl' hyz) x z hxy hyz)
theorem blk_pth (hv : vsB (N : Int) zs = true) : blkB (N : Int) zs = true ↔ ∀ i, i < 2 * N → ∀ k, k < 2 * N → i ≠ k → Pth (LR N zs) i k := by
  rw [blkB_yes hv, Int.toNat_natCast, allB_iff]
  constructor
  · intro h i hi k hk hne
    rw [← ldR_pth hv, rel_bit]
    exact h i hi k hk hne
  · intro h i hi k hk hne
    rw [← rel_bit, ldR_pth hv]
    exact h i hi k hk hne
end
end Go.Proofs.Ytbmodiobgkmngaa

/- CrE: Critical parts: which parts a judgment has. Plain mathematics. -/
namespace Go.Proofs.Ytbmodiobgkmngaa
open Go.RowKit Go.Joins

set_option maxRecDepth 100000 in
theorem ord_all : range5 (fun n => (List.range (2 ^ n)).all fun c => (List.range (2 ^ n)).all fun b => !(b &&& c == b) || (ordL n).contains (c, b)) = true := by decide +kernel
theorem ord_mem {n : Nat} (hn : n ≤ 4) {c b : Nat} (hc : c < 2 ^ n) (hb : b &&& c = b) : (c, b) ∈ ordL n := by
  have hb' : b < 2 ^ n := by
    have : b &&& c ≤ c := Nat.and_le_right
    omega
  have h := range5_of ord_all hn
  rw [List.all_eq_true] at h
  have h1 := h c (List.mem_range.2 hc)
  rw [List.all_eq_true] at h1
  have h2 := h1 b (List.mem_range.2 hb')
  rw [show (b &&& c == b) = true from by simpa using hb] at h2
  simpa using h2
theorem crit_mem {n : Nat} {zs : List Int} {m : Nat × Nat} : m ∈ critL n zs ↔ m ∈ ordL n ∧ crB n zs m = true := List.mem_filter
/-- open exactly if no critical part lies in it -/
theorem opn_crit {n : Nat} (hn : n ≤ 4) (zs : List Int) {p : Nat × Nat} (hp : p ∈ ordL n) : opn zs p = !(critL n zs).any fun m => subP m p := by
  rw [Bool.eq_iff_iff, Bool.not_eq_true', List.any_eq_false]
  constructor
  · intro ho m hm hs
    have := (cr_iff.1 (crit_mem.1 hm).2).1
    rw [opn_sub hs ho] at this
    cases this
  · intro h
    rcases Bool.eq_false_or_eq_true (opn zs p) with ho | ho
    · exact ho
    · obtain ⟨m, hm, hc, hs⟩ := cr_ex hn zs _ p hp (Nat.le_refl _) ho
      exact absurd hs (h m (crit_mem.2 ⟨hm, hc⟩))
theorem and_full {n x : Nat} (hx : x < 2 ^ n) : x &&& (2 ^ n - 1) = x := by rw [Nat.and_two_pow_sub_one_eq_mod, Nat.mod_eq_of_lt hx]
theorem sub_full {N : Nat} {m : Nat × Nat} (hm : m.1 < 2 ^ N) (x : Nat) : subP m (2 ^ N - 1, x) = (x &&& m.1 == m.2) := by
  unfold subP
  rw [and_full hm]
  simp
theorem full_mem {n : Nat} (hn : n ≤ 4) {x : Nat} (hx : x < 2 ^ n) : (2 ^ n - 1, x) ∈ ordL n :=
  ord_mem hn (by have := Nat.two_pow_pos n; omega) (and_full hx)
theorem opn_full {N : Nat} {zs : List Int} (hV : Valid (N : Int) zs) {x : Nat} (hx : x < 2 ^ N) : opn zs (2 ^ N - 1, x) = true ↔ (x : Int) ∈ zs := by
  rw [opn_iff]
  constructor
  · rintro ⟨z, hz, e⟩
    have h1 := valid_lt hV hz
    rw [and_full h1.2] at e
    have e2 : (x : Int) = z := by
      have e' : z.toNat = x := e
      omega
    rw [e2]
    exact hz
  · intro h
    exact ⟨(x : Int), h, by rw [Int.toNat_natCast]; exact and_full hx⟩
/-- a critical part answers something, and is a part that is not open -/
theorem crit_pt {N : Nat} {zs : List Int} (hV : Valid (N : Int) zs) {m : Nat × Nat} (hm : m ∈ critL N zs) : m.1 ≠ 0 ∧ IsPt (N : Int) (m.1 : Int) (m.2 : Int) ∧ openB zs (m.1 : Int) (m.2 : Int) = false ∧ m.1 < 16 ∧ m.2 < 16 := by
  have hn : N ≤ 4 := by have := hV.1; omega
  obtain ⟨h1, h2⟩ := crit_mem.1 hm
  have hf := ord_facts hn h1
  have ho := (cr_iff.1 h2).1
  have e : pw (N : Int) = ((2 ^ N : Nat) : Int) := by unfold pw; rw [Int.toNat_natCast]
  have p2 : 2 ^ N ≤ 16 := Nat.pow_le_pow_right (n := 2) (by omega) hn
  have hb : m.2 ≤ m.1 := by rw [← hf.2.1]; exact Nat.and_le_right
  refine ⟨fun h0 => ?_, ⟨⟨by omega, by omega⟩, ⟨by omega, by omega⟩, by rw [Int.toNat_natCast, Int.toNat_natCast]; exact hf.2.1⟩, ho, by omega, by omega⟩
  have hx : opn zs m = true := by
    rw [opn_iff]
    have hpos := hV.2.1
    refine ⟨zs[0], List.getElem_mem hpos, ?_⟩
    rw [h0, Nat.and_zero]
    omega
  rw [ho] at hx
  cases hx

set_option maxRecDepth 100000 in
theorem less_chk : ((List.range 16).all fun c => (List.range 16).all fun b => (List.range 4).all fun i => !(bitN c i == 1 && b &&& c == b) || (List.range 16).all fun x => !(x &&& (c - 2 ^ i) == b - (b &&& 2 ^ i)) || (List.range 4).all fun t => t == i || bitN (x &&& c) t == bitN b t) = true := by decide +kernel
theorem less_bit {c b i x t : Nat} (hc : c < 16) (hb : b &&& c = b) (hi : i < 4) (hx : x < 16) (hci : bitN c i = 1) (he : x &&& (c - 2 ^ i) = b - (b &&& 2 ^ i)) (ht : t < 4) (hne : t ≠ i) : bitN (x &&& c) t = bitN b t := by
  have hb16 : b < 16 := by
    have : b &&& c ≤ c := Nat.and_le_right
    omega
  have h := less_chk
  rw [List.all_eq_true] at h
  have h1 := h c (List.mem_range.2 hc)
  rw [List.all_eq_true] at h1
  have h2 := h1 b (List.mem_range.2 hb16)
  rw [List.all_eq_true] at h2
  have h3 := h2 i (List.mem_range.2 hi)
  rw [show (bitN c i == 1 && b &&& c == b) = true from by simp [hci, hb], Bool.not_true, Bool.false_or, List.all_eq_true] at h3
  have h4 := h3 x (List.mem_range.2 hx)
  rw [show (x &&& (c - 2 ^ i) == b - (b &&& 2 ^ i)) = true from by simpa using he, Bool.not_true, Bool.false_or, List.all_eq_true] at h4
  have h5 := h4 t (List.mem_range.2 ht)
  rw [show (t == i) = false from by simpa using hne, Bool.false_or, beq_iff_eq] at h5
  exact h5
theorem bits_ext {a b : Nat} (ha : a < 16) (hb : b < 16) (h : ∀ t, t < 4 → bitN a t = bitN b t) : a = b := by
  have h0 := h 0 (by omega)
  have h1 := h 1 (by omega)
  have h2 := h 2 (by omega)
  have h3 := h 3 (by omega)
  unfold bitN at h0 h1 h2 h3
  simp only [Nat.reducePow] at h0 h1 h2 h3
  omega
end Go.Proofs.Ytbmodiobgkmngaa

/- Grp: What two sets of groups have in common, group by group, in the program. -/
namespace Go.Proofs.Ytbmodiobgkmngaa
open Go.RowKit Go.Joins

/-- the groups that lie in a group of each, so far -/
def crJ (f h : Nat → Bool) (i j q : Nat) : Bool := (List.range j).any fun y => f i && (h y && (i &&& y == q))
def crI (f h : Nat → Bool) (i q : Nat) : Bool := (List.range i).any fun x => crJ f h x 8 q
def crX (f h : Nat → Bool) (i j q : Nat) : Bool := crI f h i q || crJ f h i j q
/-- the common groups of two sets -/
def crF (f h : Nat → Bool) (q : Nat) : Bool := crI f h 8 q
theorem crJ_succ (f h : Nat → Bool) (i j q : Nat) : crJ f h i (j + 1) q = (crJ f h i j q || (f i && (h j && (i &&& j == q)))) := by
  unfold crJ; rw [List.range_succ, List.any_append]; simp
theorem crX_zero (f h : Nat → Bool) (i : Nat) : crX f h i 0 = crI f h i := by
  funext q; unfold crX crJ; simp
theorem crX_end (f h : Nat → Bool) (i : Nat) : crI f h (i + 1) = crX f h i 8 := by
  funext q; unfold crX crI; rw [List.range_succ, List.any_append]; simp
theorem crX_no {f h : Nat → Bool} {i j : Nat} (e : (f i && h j) = false) : crX f h i (j + 1) = crX f h i j := by
  funext q
  unfold crX
  rw [crJ_succ, ← Bool.and_assoc, e]
  simp
theorem crX_yes {f h : Nat → Bool} {i j : Nat} (e1 : f i = true) (e2 : h j = true) : crX f h i (j + 1) = fun q => crX f h i j q || (i &&& j == q) := by
  funext q
  unfold crX
  rw [crJ_succ, e1, e2, Bool.or_assoc]
  simp
theorem b8_set (F : Nat → Bool) (k : Nat) (hk : k < 8) : #[Value.bool (F 0), Value.bool (F 1), Value.bool (F 2), Value.bool (F 3), Value.bool (F 4), Value.bool (F 5), Value.bool (F 6), Value.bool (F 7)].setIfInBounds k (.bool true) = #[Value.bool ((fun q => F q || (k == q)) 0), Value.bool ((fun q => F q || (k == q)) 1), Value.bool ((fun q => F q || (k == q)) 2), Value.bool ((fun q => F q || (k == q)) 3), Value.bool ((fun q => F q || (k == q)) 4), Value.bool ((fun q => F q || (k == q)) 5), Value.bool ((fun q => F q || (k == q)) 6), Value.bool ((fun q => F q || (k == q)) 7)] := by
  rcases (show k = 0 ∨ k = 1 ∨ k = 2 ∨ k = 3 ∨ k = 4 ∨ k = 5 ∨ k = 6 ∨ k = 7 from by omega) with rfl | rfl | rfl | rfl | rfl | rfl | rfl | rfl <;> simp
/-- a set of groups in a block of its own -/
def GB (w : World) (g : Nat) (F : Nat → Bool) : Prop := w.heap[g]? = some (.cells #[Value.bool (F 0), Value.bool (F 1), Value.bool (F 2), Value.bool (F 3), Value.bool (F 4), Value.bool (F 5), Value.bool (F 6), Value.bool (F 7)] 61 (0, 0))
theorem GB.below {w w' : World} {g : Nat} {F : Nat → Bool} (h : GB w g F) (hb : Below w.heap.size w w') : GB w' g F := blk_below h hb
theorem GB.put {w : World} {g k : Nat} {F : Nat → Bool} (h : GB w g F) (hk : k < 8) : GB (w.setCell ⟨g, k, none⟩ (.bool true)) g (fun q => F q || (k == q)) := by
  unfold GB
  rw [block_setCell h, b8_set F k hk]
theorem GB.at {w : World} {g k : Nat} {F : Nat → Bool} (h : GB w g F) (hk : k < 8) : w.cell? ⟨g, k, none⟩ = some (.bool (F k)) ∧ w.frozen? ⟨g, k, none⟩ = false := by
  refine ⟨(Tab.of (f := F) h).at k hk, free_blk h k⟩
end Go.Proofs.Ytbmodiobgkmngaa

/- GrC: The groups that agree on the answers of a part, in the program: commonGroups. -/
namespace Go.Proofs.Ytbmodiobgkmngaa
open Go.RowKit Go.Joins

/-- the groups that win for the answer of a part to an issue -/
def wnF (v : Int) (ws : List Int) (m : Nat × Nat) (j : Nat) : Nat → Bool := if bitN m.2 j = 0 then upT v (oppF v (upT v (winF (ws.getD j 0)))) else upT v (winF (ws.getD j 0))
/-- what groups that win for the answers of a part to the first issues have in common -/
def cgK (v : Int) (ws : List Int) (m : Nat × Nat) : Nat → Nat → Bool
  | 0 => fun q => false || ((pw v - 1).toNat == q)
  | j + 1 => if bitN m.1 j = 0 then cgK v ws m j else crF (cgK v ws m j) (wnF v ws m j)
theorem cgK_no {v : Int} {ws : List Int} {m : Nat × Nat} {j : Nat} (h : bitN m.1 j = 0) : cgK v ws m (j + 1) = cgK v ws m j := by rw [cgK, if_pos h]
theorem cgK_yes {v : Int} {ws : List Int} {m : Nat × Nat} {j : Nat} (h : bitN m.1 j = 1) : cgK v ws m (j + 1) = crF (cgK v ws m j) (wnF v ws m j) := by rw [cgK, if_neg (by rw [h]; decide)]
theorem wnF_opp {v : Int} {ws : List Int} {m : Nat × Nat} {j : Nat} (h : bitN m.2 j = 0) : wnF v ws m j = upT v (oppF v (upT v (winF (ws.getD j 0)))) := by rw [wnF, if_pos h]
theorem wnF_own {v : Int} {ws : List Int} {m : Nat × Nat} {j : Nat} (h : bitN m.2 j = 1) : wnF v ws m j = upT v (winF (ws.getD j 0)) := by rw [wnF, if_neg (by rw [h]; decide)]
theorem setE (E : Nat) (hE : E < 8) : ([.bool false, .bool false, .bool false, .bool false, .bool false, .bool false, .bool false, .bool false].set E (.bool true) : List Value).toArray = #[Value.bool ((fun q => false || (E == q)) 0), Value.bool ((fun q => false || (E == q)) 1), Value.bool ((fun q => false || (E == q)) 2), Value.bool ((fun q => false || (E == q)) 3), Value.bool ((fun q => false || (E == q)) 4), Value.bool ((fun q => false || (E == q)) 5), Value.bool ((fun q => false || (E == q)) 6), Value.bool ((fun q => false || (E == q)) 7)] := by
  rcases (show E = 0 ∨ E = 1 ∨ E = 2 ∨ E = 3 ∨ E = 4 ∨ E = 5 ∨ E = 6 ∨ E = 7 from by omega) with rfl | rfl | rfl | rfl | rfl | rfl | rfl | rfl <;> simp
theorem GB.cells {w : World} {g : Nat} {F : Nat → Bool} (h : GB w g F) : Tab w g F := Tab.of (f := F) h
end Go.Proofs.Ytbmodiobgkmngaa

/- MtI: DoMeet's look at the critical parts, in the program: ContainsFunc over parts with DoMeet's closure. -/
namespace Go.Proofs.Ytbmodiobgkmngaa
open Go.RowKit Go.Joins

/-- whether groups that agree on the answers of a part have no common voter -/
def noneB (v : Int) (ws : List Int) (m : Nat × Nat) : Bool := cgK v ws m ws.length 0
end Go.Proofs.Ytbmodiobgkmngaa

/- MtS: Groups that win for the answers of a part, and what they have in common: the model's walk. -/
namespace Go.Proofs.Ytbmodiobgkmngaa
open Go.RowKit Go.Joins

/-- whether a group wins for the answer of a part to an issue -/
def winB (v : Nat) (ws : List Int) (m : Nat × Nat) (j x : Nat) : Bool := if bitN m.2 j = 0 then bitN (ws.getD j 0).toNat (2 ^ v - 1 - x) == 0 else bitN (ws.getD j 0).toNat x == 1
/-- whether groups that win for all answers from an issue on have a voter in common with a group -/
def mtK (v : Nat) (ws : List Int) (m : Nat × Nat) : Nat → Nat → Nat → Bool
  | 0, _, c => decide (0 < c)
  | k + 1, j, c => if bitN m.1 j = 0 then mtK v ws m k (j + 1) c else (List.range (2 ^ v)).all fun x => !winB v ws m j x || mtK v ws m k (j + 1) (c &&& x)
theorem mtK_skip {v : Nat} {ws : List Int} {m : Nat × Nat} {k j c : Nat} (h : bitN m.1 j = 0) : mtK v ws m (k + 1) j c = mtK v ws m k (j + 1) c := by rw [mtK, if_pos h]
theorem mtK_no {v : Nat} {ws : List Int} {m : Nat × Nat} {k j c x : Nat} (h : bitN m.1 j = 1) (hx : x < 2 ^ v) (hw : winB v ws m j x = true) (hm : mtK v ws m k (j + 1) (c &&& x) = false) : mtK v ws m (k + 1) j c = false := by
  rw [mtK, if_neg (by rw [h]; decide), List.all_eq_false]
  exact ⟨x, List.mem_range.2 hx, by rw [hw, hm]; decide⟩
theorem mtK_yes {v : Nat} {ws : List Int} {m : Nat × Nat} {k j c : Nat} (h : bitN m.1 j = 1) (ha : ∀ x, x < 2 ^ v → (!winB v ws m j x || mtK v ws m k (j + 1) (c &&& x)) = true) : mtK v ws m (k + 1) j c = true := by
  rw [mtK, if_neg (by rw [h]; decide), List.all_eq_true]
  exact fun x hx => ha x (List.mem_range.1 hx)
/-- the three variables of a call -/
def MV (w : World) (N : Nat) (a : Option Addr) (zn cap v : Nat) (b : Option Addr) (ws : List Int) (capb : Nat) (m : Nat × Nat) (wx : World) : Prop :=
  (wx.cell? ⟨w.heap.size, 0, none⟩ = some (.int .i64 (N : Int)) ∧ wx.cell? ⟨w.heap.size, 1, none⟩ = some (.slice a zn cap)) ∧ (wx.cell? ⟨w.heap.size + 1, 0, none⟩ = some (.int .i64 (v : Int)) ∧ wx.cell? ⟨w.heap.size + 1, 1, none⟩ = some (.slice b N capb)) ∧
  (wx.cell? ⟨w.heap.size + 2, 0, none⟩ = some (.int .i64 (m.1 : Int)) ∧ wx.cell? ⟨w.heap.size + 2, 1, none⟩ = some (.int .i64 (m.2 : Int))) ∧ Ints wx b ws ∧ Below w.heap.size w wx
theorem MV.below {w : World} {N : Nat} {a : Option Addr} {zn cap v : Nat} {b : Option Addr} {ws : List Int} {capb : Nat} {m : Nat × Nat} {wx wy : World} (h : MV w N a zn cap v b ws capb m wx) (hb : Below wx.heap.size wx wy) : MV w N a zn cap v b ws capb m wy := by
  obtain ⟨⟨h1, h2⟩, ⟨h3, h4⟩, ⟨h5, h6⟩, h7, h8⟩ := h
  have k : ∀ (p : Addr) (u : Value), wx.cell? p = some u → wy.cell? p = some u := fun p u h => (hb.cell (p := p) (World.block_lt_of_cell? _ _ h)).trans h
  exact ⟨⟨k _ _ h1, k _ _ h2⟩, ⟨k _ _ h3, k _ _ h4⟩, ⟨k _ _ h5, k _ _ h6⟩, h7.below hb, bnext h8 hb⟩
theorem MV.new (w : World) (N : Nat) (a : Option Addr) (zn cap v : Nat) (b : Option Addr) (ws : List Int) (capb : Nat) (m : Nat × Nat) (hi : Ints w b ws) :
    MV w N a zn cap v b ws capb m (((w.alloc (.cells #[.int .i64 (N : Int), .slice a zn cap] 25)).alloc (.cells #[.int .i64 (v : Int), .slice b N capb] 34)).alloc (.cells #[.int .i64 (m.1 : Int), .int .i64 (m.2 : Int)] 79)) := by
  have h0 := heap_alloc_new w (.cells #[.int .i64 (N : Int), .slice a zn cap] 25)
  have h1 := heap_alloc_new (w.alloc (.cells #[.int .i64 (N : Int), .slice a zn cap] 25)) (.cells #[.int .i64 (v : Int), .slice b N capb] 34)
  have h2 := heap_alloc_new ((w.alloc (.cells #[.int .i64 (N : Int), .slice a zn cap] 25)).alloc (.cells #[.int .i64 (v : Int), .slice b N capb] 34)) (.cells #[.int .i64 (m.1 : Int), .int .i64 (m.2 : Int)] 79)
  have b1 := bel1 ((w.alloc (.cells #[.int .i64 (N : Int), .slice a zn cap] 25)).alloc (.cells #[.int .i64 (v : Int), .slice b N capb] 34)) (.cells #[.int .i64 (m.1 : Int), .int .i64 (m.2 : Int)] 79)
  have b2 := bel2 (w.alloc (.cells #[.int .i64 (N : Int), .slice a zn cap] 25)) (.cells #[.int .i64 (v : Int), .slice b N capb] 34) (.cells #[.int .i64 (m.1 : Int), .int .i64 (m.2 : Int)] 79)
  have b3 := bnext (bel1 w (.cells #[.int .i64 (N : Int), .slice a zn cap] 25)) b2
  have g0 := (b2.block w.heap.size (by simp)).trans h0
  simp only [World.size_alloc] at h1 h2
  have g1 := (b1.block (w.heap.size + 1) (by simp)).trans h1
  exact ⟨⟨cell_of_block g0 0, cell_of_block g0 1⟩, ⟨cell_of_block g1 0, cell_of_block g1 1⟩, ⟨cell_of_block h2 0, cell_of_block h2 1⟩, hi.below b3, b3⟩
theorem bit8_int (a j r : Nat) (y : Int) (w : World) (hy : y = (j : Int)) (ha : a < 65536) (hj : j ≤ 8) (h : bitN a j = r) : Calls Try.prog 83 #[.int .i64 a, .int .i64 y] w fun e w' => e = .returned (.int .i64 (r : Nat)) ∧ w = w' := by
  subst h hy
  exact bit8_any a j w ha hj

end Go.Proofs.Ytbmodiobgkmngaa

/- MtM: Groups that meet: the program's sets and the model's recursion say the same. -/
namespace Go.Proofs.Ytbmodiobgkmngaa
open Go.RowKit Go.Joins

theorem crF_iff {f h : Nat → Bool} {q : Nat} : crF f h q = true ↔ ∃ x, x < 8 ∧ ∃ y, y < 8 ∧ f x = true ∧ h y = true ∧ x &&& y = q := by
  unfold crF crI crJ
  simp only [List.any_eq_true, List.mem_range, Bool.and_eq_true, beq_iff_eq]
theorem comp_fin : ∀ v : Fin 4, ∀ x : Fin 8, x.val < 2 ^ v.val → (2 ^ v.val - 1) ^^^ x.val = 2 ^ v.val - 1 - x.val := by decide +kernel
theorem pwN (v : Nat) : pw (v : Int) = ((2 ^ v : Nat) : Int) := by unfold pw; rw [Int.toNat_natCast]
theorem wn_win {v : Nat} (hv : 1 ≤ v ∧ v ≤ 3) {ws : List Int} {m : Nat × Nat} {j x : Nat} (hx : x < 8) : wnF (v : Int) ws m j x = true ↔ x < 2 ^ v ∧ winB v ws m j x = true := by
  have hE : (pw (v : Int) - 1).toNat = 2 ^ v - 1 := by
    rw [pwN]
    have := Nat.two_pow_pos v
    omega
  have hcast : ((x : Int) < pw (v : Int)) ↔ x < 2 ^ v := by rw [pwN]; omega
  by_cases hb : bitN m.2 j = 0
  · rw [wnF_opp hb]
    unfold winB
    rw [if_pos hb]
    unfold upT oppF
    rw [hE]
    by_cases hx2 : x < 2 ^ v
    · have hc := comp_fin ⟨v, by omega⟩ ⟨x, hx⟩ hx2
      simp only at hc
      rw [hc]
      have h2 : ((2 ^ v - 1 - x : Nat) : Int) < pw (v : Int) := by rw [pwN]; omega
      show (decide ((x : Int) < pw (v : Int)) && !(decide (((2 ^ v - 1 - x : Nat) : Int) < pw (v : Int)) && winF (ws.getD j 0) (2 ^ v - 1 - x))) = true ↔ _
      rw [decide_eq_true (hcast.2 hx2), decide_eq_true h2, Bool.true_and, Bool.true_and]
      unfold winF
      generalize (ws.getD j 0).toNat = wj
      have h3 := bitN_le wj (2 ^ v - 1 - x)
      have h4 : wj.testBit (2 ^ v - 1 - x) = decide (bitN wj (2 ^ v - 1 - x) = 1) := by
        rw [Nat.testBit_eq_decide_div_mod_eq]
        rfl
      rw [h4]
      constructor
      · intro h
        refine ⟨hx2, ?_⟩
        simp at h
        simp
        omega
      · rintro ⟨_, h⟩
        simp at h
        simp
        omega
    · rw [decide_eq_false (fun h => hx2 (hcast.1 h))]
      simp [hx2]
  · have hb1 : bitN m.2 j = 1 := by have := bitN_le m.2 j; omega
    rw [wnF_own hb1]
    unfold winB
    rw [if_neg hb]
    unfold upT winF
    have h4 : (ws.getD j 0).toNat.testBit x = decide (bitN (ws.getD j 0).toNat x = 1) := by
      rw [Nat.testBit_eq_decide_div_mod_eq]
      rfl
    rw [h4, Bool.and_eq_true, decide_eq_true_eq, decide_eq_true_eq, hcast, beq_iff_eq]
theorem cgK_lt {v : Nat} (hv : 1 ≤ v ∧ v ≤ 3) {ws : List Int} {m : Nat × Nat} : ∀ (j : Nat) {c : Nat}, cgK (v : Int) ws m j c = true → c < 8
  | 0, c, h => by
    unfold cgK at h
    rw [Bool.false_or, beq_iff_eq, pwN] at h
    have : 2 ^ v ≤ 2 ^ 3 := Nat.pow_le_pow_right (by omega) hv.2
    omega
  | j + 1, c, h => by
    by_cases hb : bitN m.1 j = 0
    · rw [cgK_no hb] at h
      exact cgK_lt hv j h
    · rw [cgK_yes (by have := bitN_le m.1 j; omega), crF_iff] at h
      obtain ⟨x, hx, y, _, _, _, rfl⟩ := h
      exact Nat.lt_of_le_of_lt Nat.and_le_left hx
theorem mt_iff {v : Nat} (hv : 1 ≤ v ∧ v ≤ 3) {ws : List Int} {m : Nat × Nat} {N : Nat} : ∀ (k j : Nat), j + k = N → ((∀ c, cgK (v : Int) ws m j c = true → mtK v ws m k j c = true) ↔ cgK (v : Int) ws m N 0 = false)
  | 0, j, hj => by
    obtain rfl : j = N := by omega
    constructor
    · intro h
      cases hc : cgK (v : Int) ws m j 0 with
      | false => rfl
      | true =>
        have := h 0 hc
        simp [mtK] at this
    · intro h c hc
      rw [mtK, decide_eq_true_eq]
      rcases Nat.eq_zero_or_pos c with e | e
      · subst e
        rw [h] at hc
        cases hc
      · exact e
  | k + 1, j, hj => by
    rw [← mt_iff hv k (j + 1) (by omega)]
    by_cases hb : bitN m.1 j = 0
    · rw [cgK_no hb]
      constructor
      · intro h c hc
        rw [← mtK_skip hb]
        exact h c hc
      · intro h c hc
        rw [mtK_skip hb]
        exact h c hc
    · have hb1 : bitN m.1 j = 1 := by have := bitN_le m.1 j; omega
      rw [cgK_yes hb1]
      constructor
      · intro h q hq
        obtain ⟨x, hx, y, hy, hcx, hwy, rfl⟩ := crF_iff.1 hq
        obtain ⟨hy2, hwin⟩ := (wn_win hv hy).1 hwy
        cases hm : mtK v ws m k (j + 1) (x &&& y) with
        | true => rfl
        | false =>
          have h1 := h x hcx
          rw [mtK_no hb1 hy2 hwin hm] at h1
          cases h1
      · intro h c hc
        refine mtK_yes hb1 fun x hx => ?_
        cases hw : winB v ws m j x with
        | false => rfl
        | true =>
          have hx8 : x < 8 := by
            have : 2 ^ v ≤ 2 ^ 3 := Nat.pow_le_pow_right (by omega) hv.2
            omega
          have h1 := h (c &&& x) (crF_iff.2 ⟨c, cgK_lt hv j hc, x, hx8, hc, (wn_win hv hx8).2 ⟨hx, hw⟩, rfl⟩)
          rw [h1]
          rfl
/-- the model's answer for a part is that of the program -/
theorem mt_none {v : Nat} (hv : 1 ≤ v ∧ v ≤ 3) {ws : List Int} {m : Nat × Nat} : mtK v ws m ws.length 0 (2 ^ v - 1) = !noneB (v : Int) ws m := by
  have h := mt_iff hv (ws := ws) (m := m) (N := ws.length) ws.length 0 (by omega)
  have h0 : ∀ c, cgK (v : Int) ws m 0 c = true ↔ c = 2 ^ v - 1 := fun c => by
    have hp := Nat.two_pow_pos v
    unfold cgK
    rw [Bool.false_or, beq_iff_eq, pwN]
    omega
  unfold noneB
  cases hc : cgK (v : Int) ws m ws.length 0 with
  | false => exact h.2 hc _ ((h0 _).2 rfl)
  | true =>
    cases hm : mtK v ws m ws.length 0 (2 ^ v - 1) with
    | false => rfl
    | true =>
      have := h.1 fun c hcc => by rw [(h0 c).1 hcc]; exact hm
      rw [hc] at this
      cases this
/-- what DoMeet answers -/
def meetR (n : Int) (zs : List Int) (v : Int) (ws : List Int) : Bool := vrB n zs v ws && !(critL n.toNat zs).any (noneB v ws)
theorem meetR_no {n v : Int} {zs ws : List Int} (h : vrB n zs v ws = false) : meetR n zs v ws = false := by unfold meetR; rw [h]; rfl
theorem meetR_yes {n v : Int} {zs ws : List Int} (h : vrB n zs v ws = true) : meetR n zs v ws = !(critL n.toNat zs).any (noneB v ws) := by unfold meetR; rw [h]; rfl
end Go.Proofs.Ytbmodiobgkmngaa

/- SmM: Safe rules and groups that meet: the groups that agree with a part. -/
namespace Go.Proofs.Ytbmodiobgkmngaa
open Go.RowKit Go.Joins

/-- the voters that answer an issue as a part does -/
def agN (v : Nat) (m : Nat × Nat) (vs : List Int) (j : Nat) : Nat := if bitN m.2 j = 0 then 2 ^ v - 1 - groupK vs j v else groupK vs j v
theorem agN_lt (v : Nat) (m : Nat × Nat) (vs : List Int) (j : Nat) : agN v m vs j < 2 ^ v := by
  have h := groupK_lt vs j v
  have := Nat.two_pow_pos v
  unfold agN
  split <;> omega
/-- they win exactly if the answer is the part's -/
theorem win_ag (v : Nat) (ws : List Int) (m : Nat × Nat) (vs : List Int) (j : Nat) : winB v ws m j (agN v m vs j) = (bitN (ws.getD j 0).toNat (groupK vs j v) == bitN m.2 j) := by
  have h := groupK_lt vs j v
  have hb := bitN_le m.2 j
  unfold winB agN
  by_cases e : bitN m.2 j = 0
  · rw [if_pos e, if_pos e, e, show 2 ^ v - 1 - (2 ^ v - 1 - groupK vs j v) = groupK vs j v from by omega]
  · rw [if_neg e, if_neg e, show bitN m.2 j = 1 from by omega]
/-- the voters that answer all issues of a part from one on as it does -/
def andA (v : Nat) (m : Nat × Nat) (vs : List Int) : Nat → Nat → Nat → Nat
  | 0, _, c => c
  | k + 1, j, c => if bitN m.1 j = 0 then andA v m vs k (j + 1) c else andA v m vs k (j + 1) (c &&& agN v m vs j)
theorem mt_and {v : Nat} {ws : List Int} {m : Nat × Nat} {vs : List Int} : ∀ (k j c : Nat), mtK v ws m k j c = true → (∀ i, j ≤ i → i < j + k → bitN m.1 i = 1 → winB v ws m i (agN v m vs i) = true) → 0 < andA v m vs k j c
  | 0, j, c, h, _ => by simpa [mtK, andA] using h
  | k + 1, j, c, h, hw => by
    by_cases hb : bitN m.1 j = 0
    · rw [mtK_skip hb] at h
      rw [andA, if_pos hb]
      exact mt_and k (j + 1) c h fun i h1 h2 h3 => hw i (by omega) (by omega) h3
    · have hb1 : bitN m.1 j = 1 := by have := bitN_le m.1 j; omega
      rw [andA, if_neg hb]
      have hwin := hw j (Nat.le_refl _) (by omega) hb1
      refine mt_and k (j + 1) (c &&& agN v m vs j) ?_ fun i h1 h2 h3 => hw i (by omega) (by omega) h3
      cases hm : mtK v ws m k (j + 1) (c &&& agN v m vs j) with
      | true => rfl
      | false =>
        rw [mtK_no hb1 (agN_lt v m vs j) hwin hm] at h
        cases h
/-- a voter of these answers each of the issues so -/
theorem andA_bit {v : Nat} {m : Nat × Nat} {vs : List Int} {i : Nat} : ∀ (k j c : Nat), (andA v m vs k j c).testBit i = true → c.testBit i = true ∧ ∀ t, j ≤ t → t < j + k → bitN m.1 t = 1 → (agN v m vs t).testBit i = true
  | 0, j, c, h => ⟨h, fun t h1 h2 => by omega⟩
  | k + 1, j, c, h => by
    rw [andA] at h
    by_cases hb : bitN m.1 j = 0
    · rw [if_pos hb] at h
      obtain ⟨h1, h2⟩ := andA_bit k (j + 1) c h
      refine ⟨h1, fun t h3 h4 h5 => ?_⟩
      rcases Nat.eq_or_lt_of_le h3 with e | e
      · subst e
        rw [hb] at h5
        cases h5
      · exact h2 t e (by omega) h5
    · rw [if_neg hb] at h
      obtain ⟨h1, h2⟩ := andA_bit k (j + 1) _ h
      rw [Nat.testBit_and, Bool.and_eq_true] at h1
      refine ⟨h1.1, fun t h3 h4 h5 => ?_⟩
      rcases Nat.eq_or_lt_of_le h3 with e | e
      · subst e
        exact h1.2
      · exact h2 t e (by omega) h5
theorem groupK_bitS (vs : List Int) (j : Nat) : ∀ k i, i < k → bitN (groupK vs j k) i = bitN (vs.getD i 0).toNat j
  | 0, i, h => by omega
  | k + 1, i, h => by
    have hb := bitN_le (vs.getD k 0).toNat j
    have hlt := groupK_lt vs j k
    rw [groupK]
    rcases Nat.lt_or_ge i k with h1 | h1
    · rw [← groupK_bitS vs j k i h1]
      unfold bitN
      have e : (groupK vs j k + 2 ^ k * bitN (vs.getD k 0).toNat j) = groupK vs j k + 2 ^ i * (2 * (2 ^ (k - i - 1) * bitN (vs.getD k 0).toNat j)) := by
        have e2 : 2 ^ k = 2 ^ i * (2 * 2 ^ (k - i - 1)) := by
          rw [← Nat.pow_succ', ← Nat.pow_add]
          congr 1
          omega
        rw [e2, Nat.mul_assoc, Nat.mul_assoc]
      show (groupK vs j k + 2 ^ k * bitN (vs.getD k 0).toNat j) / 2 ^ i % 2 = _
      rw [e, Nat.add_mul_div_left _ _ (Nat.two_pow_pos i), Nat.add_mul_mod_self_left]
    · obtain rfl : i = k := by omega
      show (groupK vs j i + 2 ^ i * bitN (vs.getD i 0).toNat j) / 2 ^ i % 2 = _
      rw [Nat.add_mul_div_left _ _ (Nat.two_pow_pos i), Nat.div_eq_of_lt hlt, Nat.zero_add]
      have := bitN_le (vs.getD i 0).toNat j
      omega
theorem bitS (a k : Nat) : a.testBit k = decide (bitN a k = 1) := by rw [Nat.testBit_eq_decide_div_mod_eq]; rfl
theorem compS : ∀ v : Fin 4, ∀ g : Fin 8, ∀ i : Fin 3, g.val < 2 ^ v.val → i.val < v.val → (2 ^ v.val - 1 - g.val).testBit i.val = !g.val.testBit i.val := by decide +kernel
/-- a voter is among them exactly if he answers as the part does -/
theorem agN_bit {v : Nat} (hv : v ≤ 3) (m : Nat × Nat) (vs : List Int) (j : Nat) {i : Nat} (hi : i < v) : (agN v m vs j).testBit i = (bitN (vs.getD i 0).toNat j == bitN m.2 j) := by
  have h := groupK_lt vs j v
  have hb := bitN_le m.2 j
  have hg := groupK_bitS vs j v i hi
  have h8 : 2 ^ v ≤ 8 := by
    have : 2 ^ v ≤ 2 ^ 3 := Nat.pow_le_pow_right (by omega) hv
    omega
  have hx := bitN_le (vs.getD i 0).toNat j
  unfold agN
  by_cases e : bitN m.2 j = 0
  · rw [if_pos e, e]
    have hc := compS ⟨v, by omega⟩ ⟨groupK vs j v, by omega⟩ ⟨i, by omega⟩ h hi
    simp only at hc
    rw [hc, bitS, hg]
    rcases (show bitN (vs.getD i 0).toNat j = 0 ∨ bitN (vs.getD i 0).toNat j = 1 from by omega) with e2 | e2 <;> rw [e2] <;> rfl
  · rw [if_neg e, show bitN m.2 j = 1 from by omega, bitS, hg]
    rcases (show bitN (vs.getD i 0).toNat j = 0 ∨ bitN (vs.getD i 0).toNat j = 1 from by omega) with e2 | e2 <;> rw [e2] <;> rfl
end Go.Proofs.Ytbmodiobgkmngaa

/- SmF: Safe rules are those whose groups meet (without what dictators are). Plain mathematics. -/
namespace Go.Proofs.Ytbmodiobgkmngaa
open Go.RowKit Go.Joins

/-- where groups do not meet there are some that have no voter in common -/
theorem mt_false {v : Nat} {ws : List Int} {m : Nat × Nat} : ∀ (k j c : Nat), mtK v ws m k j c = false → ∃ g : Nat → Nat, (∀ i, j ≤ i → i < j + k → bitN m.1 i = 1 → g i < 2 ^ v ∧ winB v ws m i (g i) = true) ∧ ∀ t, c.testBit t = true → ∃ i, j ≤ i ∧ i < j + k ∧ bitN m.1 i = 1 ∧ (g i).testBit t = false
  | 0, j, c, h => by
    rw [mtK, decide_eq_false_iff_not] at h
    obtain rfl : c = 0 := by omega
    exact ⟨fun _ => 0, fun i h1 h2 => by omega, fun t ht => by simp at ht⟩
  | k + 1, j, c, h => by
    by_cases hb : bitN m.1 j = 0
    · rw [mtK_skip hb] at h
      obtain ⟨g, h1, h2⟩ := mt_false k (j + 1) c h
      refine ⟨g, fun i a b e => ?_, fun t ht => ?_⟩
      · rcases Nat.eq_or_lt_of_le a with e2 | e2
        · subst e2
          rw [hb] at e
          cases e
        · exact h1 i e2 (by omega) e
      · obtain ⟨i, a, b, d⟩ := h2 t ht
        exact ⟨i, by omega, by omega, d⟩
    · have hb1 : bitN m.1 j = 1 := by have := bitN_le m.1 j; omega
      have hx : ∃ x, x < 2 ^ v ∧ winB v ws m j x = true ∧ mtK v ws m k (j + 1) (c &&& x) = false := by
        refine Classical.byContradiction fun hno => ?_
        have hyes := mtK_yes (v := v) (ws := ws) (m := m) (k := k) (j := j) (c := c) hb1 (fun x hx => by
          cases hw : winB v ws m j x with
          | false => rfl
          | true =>
            cases hm : mtK v ws m k (j + 1) (c &&& x) with
            | true => rfl
            | false => exact absurd ⟨x, hx, hw, hm⟩ hno)
        rw [hyes] at h
        cases h
      obtain ⟨x, hx, hw, hm⟩ := hx
      obtain ⟨g, h1, h2⟩ := mt_false k (j + 1) (c &&& x) hm
      refine ⟨fun i => if i = j then x else g i, fun i a b e => ?_, fun t ht => ?_⟩
      · show (if i = j then x else g i) < 2 ^ v ∧ winB v ws m i (if i = j then x else g i) = true
        by_cases e2 : i = j
        · rw [if_pos e2, e2]
          exact ⟨hx, hw⟩
        · rw [if_neg e2]
          exact h1 i (by omega) (by omega) e
      · by_cases hxt : x.testBit t = true
        · obtain ⟨i, a, b, d, f⟩ := h2 t (by rw [Nat.testBit_and, ht, hxt]; rfl)
          refine ⟨i, by omega, by omega, d, ?_⟩
          show (if i = j then x else g i).testBit t = false
          rw [if_neg (by omega)]
          exact f
        · refine ⟨j, Nat.le_refl _, by omega, hb1, ?_⟩
          show (if j = j then x else g j).testBit t = false
          rw [if_pos rfl]
          simpa using hxt

def upC (v : Nat) : Bool := (List.range 256).all fun x => !monoC (v : Int) x || (List.range 8).all fun g => (List.range 8).all fun h => !(decide (g < 2 ^ v) && decide (h < 2 ^ v) && (g &&& h == g) && (bitN x g == 1)) || (bitN x h == 1)
theorem up_chk1 : upC 1 = true := by kernel_rfl
theorem up_chk2 : upC 2 = true := by kernel_rfl
theorem up_chk3 : upC 3 = true := by kernel_rfl
/-- a greater group of one that wins wins -/
theorem mono_up {v : Nat} (hv : 1 ≤ v ∧ v ≤ 3) {x g h : Nat} (hx : x < 256) (hm : monoC (v : Int) x = true) (hg : g < 2 ^ v) (hh : h < 2 ^ v) (hs : g &&& h = g) (hb : bitN x g = 1) : bitN x h = 1 := by
  have h8 : 2 ^ v ≤ 2 ^ 3 := Nat.pow_le_pow_right (by omega) hv.2
  have hc : upC v = true := by
    rcases (show v = 1 ∨ v = 2 ∨ v = 3 from by omega) with rfl | rfl | rfl
    · exact up_chk1
    · exact up_chk2
    · exact up_chk3
  unfold upC at hc
  rw [List.all_eq_true] at hc
  have h1 := hc x (List.mem_range.2 hx)
  rw [hm, Bool.not_true, Bool.false_or, List.all_eq_true] at h1
  have h2 := h1 g (List.mem_range.2 (by omega))
  rw [List.all_eq_true] at h2
  have h3 := h2 h (List.mem_range.2 (by omega))
  rw [decide_eq_true hg, decide_eq_true hh, hs, hb] at h3
  simpa using h3
theorem comp_sub : ∀ v : Fin 4, ∀ g : Fin 8, ∀ h : Fin 8, g.val < 2 ^ v.val → h.val < 2 ^ v.val → g.val &&& h.val = g.val → (2 ^ v.val - 1 - h.val) &&& (2 ^ v.val - 1 - g.val) = 2 ^ v.val - 1 - h.val := by decide +kernel
theorem win_up {v : Nat} (hv : 1 ≤ v ∧ v ≤ 3) {ws : List Int} {m : Nat × Nat} {j g h : Nat} (hx : (ws.getD j 0).toNat < 256) (hm : monoC (v : Int) (ws.getD j 0).toNat = true) (hg : g < 2 ^ v) (hh : h < 2 ^ v) (hs : g &&& h = g) (hw : winB v ws m j g = true) : winB v ws m j h = true := by
  have h8 : 2 ^ v ≤ 2 ^ 3 := Nat.pow_le_pow_right (by omega) hv.2
  unfold winB at hw ⊢
  by_cases hb : bitN m.2 j = 0
  · rw [if_pos hb, beq_iff_eq] at hw ⊢
    have l := bitN_le (ws.getD j 0).toNat (2 ^ v - 1 - h)
    rcases (show bitN (ws.getD j 0).toNat (2 ^ v - 1 - h) = 0 ∨ bitN (ws.getD j 0).toNat (2 ^ v - 1 - h) = 1 from by omega) with e | e
    · exact e
    · have hp := Nat.two_pow_pos v
      have := mono_up hv hx hm (g := 2 ^ v - 1 - h) (h := 2 ^ v - 1 - g) (by omega) (by omega) (comp_sub ⟨v, by omega⟩ ⟨g, by omega⟩ ⟨h, by omega⟩ hg hh hs) e
      omega
  · rw [if_neg hb, beq_iff_eq] at hw ⊢
    exact mono_up hv hx hm hg hh hs hw
theorem sub_bits {v g h : Nat} (hg : g < 2 ^ v) (hb : ∀ t, t < v → g.testBit t = true → h.testBit t = true) : g &&& h = g := by
  apply Nat.eq_of_testBit_eq
  intro t
  rw [Nat.testBit_and]
  cases hgt : g.testBit t with
  | false => rfl
  | true =>
    rcases Nat.lt_or_ge t v with h1 | h1
    · rw [hb t h1 hgt]; rfl
    · have : g < 2 ^ t := Nat.lt_of_lt_of_le hg (Nat.pow_le_pow_right (by omega) h1)
      rw [Nat.testBit_lt_two_pow this] at hgt
      cases hgt
theorem applyK_bitS (vs ws : List Int) : ∀ k i, i < k → bitN (applyK vs ws k) i = bitN (ws.getD i 0).toNat (groupK vs i vs.length)
  | 0, i, h => by omega
  | k + 1, i, h => by
    have hb := bitN_le (ws.getD k 0).toNat (groupK vs k vs.length)
    have hlt := applyK_lt vs ws k
    rw [applyK]
    rcases Nat.lt_or_ge i k with h1 | h1
    · rw [← applyK_bitS vs ws k i h1]
      generalize bitN (ws.getD k 0).toNat (groupK vs k vs.length) = b
      unfold bitN
      have e : applyK vs ws k + 2 ^ k * b = applyK vs ws k + 2 ^ i * (2 * (2 ^ (k - i - 1) * b)) := by
        have e2 : 2 ^ k = 2 ^ i * (2 * 2 ^ (k - i - 1)) := by
          rw [← Nat.pow_succ', ← Nat.pow_add]
          congr 1
          omega
        rw [e2, Nat.mul_assoc, Nat.mul_assoc]
      rw [e, Nat.add_mul_div_left _ _ (Nat.two_pow_pos i), Nat.add_mul_mod_self_left]
    · obtain rfl : i = k := by omega
      generalize bitN (ws.getD i 0).toNat (groupK vs i vs.length) = b at hb ⊢
      show (applyK vs ws i + 2 ^ i * b) / 2 ^ i % 2 = b
      rw [Nat.add_mul_div_left _ _ (Nat.two_pow_pos i), Nat.div_eq_of_lt hlt, Nat.zero_add]
      omega
theorem bitN_and (x c t : Nat) : bitN (x &&& c) t = bitN x t * bitN c t := by
  rw [bitN_eq, bitN_eq x, bitN_eq c, Nat.testBit_and]
  cases x.testBit t <;> cases c.testBit t <;> rfl
theorem and_bits {x c b : Nat} (hc : c < 16) (hb : b &&& c = b) (h : ∀ t, t < 4 → bitN c t = 1 → bitN x t = bitN b t) : x &&& c = b := by
  have hb16 : b < 16 := by
    have : b &&& c ≤ c := Nat.and_le_right
    omega
  have hx16 : x &&& c < 16 := by
    have : x &&& c ≤ c := Nat.and_le_right
    omega
  refine bits_ext hx16 hb16 fun t ht => ?_
  have l := bitN_le c t
  rcases (show bitN c t = 0 ∨ bitN c t = 1 from by omega) with e | e
  · rw [← hb, bitN_and, bitN_and, e]
    simp
  · rw [bitN_and, e, h t ht e, Nat.mul_one]
theorem bits_and {x c b t : Nat} (h : x &&& c = b) (ht : bitN c t = 1) : bitN x t = bitN b t := by
  rw [← h, bitN_and, ht, Nat.mul_one]
/-- what all lists of votes lead to is what all lists from some on lead to -/
theorem safeK_of {zs ws : List Int} : ∀ (k : Nat) (pre : List Int), (∀ vs : List Int, vs.length = k → (∀ x ∈ vs, x ∈ zs) → hasB zs ((applyK (pre ++ vs) ws ws.length : Nat) : Int) = true) → safeK zs ws k pre = true
  | 0, pre, h => by
    have := h [] rfl (fun x hx => by cases hx)
    rwa [List.append_nil] at this
  | k + 1, pre, h => by
    show (zs.all fun x => safeK zs ws k (pre ++ [x])) = true
    rw [List.all_eq_true]
    intro x hx
    refine safeK_of k (pre ++ [x]) fun vs hl hin => ?_
    rw [List.append_assoc, List.singleton_append]
    exact h (x :: vs) (by simp [hl]) (fun y hy => by
      rcases List.mem_cons.1 hy with e | e
      · rw [e]; exact hx
      · exact hin y e)
theorem hasB_iff {zs : List Int} {x : Int} : hasB zs x = true ↔ x ∈ zs := by unfold hasB; exact decide_eq_true_iff
/-- if groups meet all votes lead to judgments -/
theorem meet_safe {v : Nat} (hv : 1 ≤ v ∧ v ≤ 3) {zs ws : List Int} (hV : Valid (ws.length : Int) zs) (h : ∀ m ∈ critL ws.length zs, mtK v ws m ws.length 0 (2 ^ v - 1) = true) : safeK zs ws v [] = true := by
  have hn : ws.length ≤ 4 := by have := hV.1; omega
  refine safeK_of v [] fun vs hl hin => ?_
  rw [List.nil_append, hasB_iff]
  have hlt := applyK_lt vs ws ws.length
  generalize hx : applyK vs ws ws.length = x at hlt
  refine Classical.byContradiction fun hno => ?_
  have ho : opn zs (2 ^ ws.length - 1, x) = false := by
    rcases Bool.eq_false_or_eq_true (opn zs (2 ^ ws.length - 1, x)) with e | e
    · exact absurd ((opn_full hV hlt).1 e) hno
    · exact e
  rw [opn_crit hn zs (full_mem hn hlt), Bool.not_eq_false', List.any_eq_true] at ho
  obtain ⟨m, hm, hs⟩ := ho
  have hf := ord_facts hn (crit_mem.1 hm).1
  rw [sub_full hf.1, beq_iff_eq] at hs
  obtain ⟨_, _, hclosed, h16, _⟩ := crit_pt hV hm
  have hpos := mt_and (vs := vs) ws.length 0 (2 ^ v - 1) (h m hm) (fun i _ hi hb => by
    rw [win_ag, beq_iff_eq]
    have e := bits_and hs hb
    rw [← hx, applyK_bitS vs ws ws.length i (by omega), hl] at e
    exact e)
  have hex : ∃ t, (andA v m vs ws.length 0 (2 ^ v - 1)).testBit t = true := Classical.byContradiction fun hno => by
    have h0 : andA v m vs ws.length 0 (2 ^ v - 1) = 0 := Nat.eq_of_testBit_eq fun i => by
      rw [Nat.zero_testBit]
      cases hb : (andA v m vs ws.length 0 (2 ^ v - 1)).testBit i with
      | false => rfl
      | true => exact absurd ⟨i, hb⟩ hno
    omega
  obtain ⟨t, ht⟩ := hex
  obtain ⟨h1, h2⟩ := andA_bit ws.length 0 (2 ^ v - 1) ht
  rw [Nat.testBit_two_pow_sub_one, decide_eq_true_eq] at h1
  have hmem : vs.getD t 0 ∈ zs := by
    rw [getD_lt (by omega)]
    exact hin _ (List.getElem_mem _)
  have hag : (vs.getD t 0).toNat &&& m.1 = m.2 := and_bits h16 hf.2.1 fun s hs4 hb => by
    have hsN : s < ws.length := by
      refine Classical.byContradiction fun hge => ?_
      have h1 : m.1 < 2 ^ s := Nat.lt_of_lt_of_le hf.1 (Nat.pow_le_pow_right (by omega) (by omega))
      unfold bitN at hb
      rw [Nat.div_eq_of_lt h1] at hb
      omega
    have := h2 s (Nat.zero_le _) (by omega) hb
    rw [agN_bit hv.2 m vs s h1, beq_iff_eq] at this
    exact this
  have hop : opn zs m = true := opn_iff.2 ⟨_, hmem, hag⟩
  have hno2 : opn zs m = false := hclosed
  rw [hop] at hno2
  cases hno2
/-- if all votes lead to judgments by a monotone rule groups meet -/
theorem safe_meets {v : Nat} (hv : 1 ≤ v ∧ v ≤ 3) {zs ws : List Int} (hV : Valid (ws.length : Int) zs) (hr : ∀ x ∈ ws, 0 ≤ x ∧ x ≤ 255) (hmono : ∀ x ∈ ws, monoC (v : Int) x.toNat = true) (h : safeK zs ws v [] = true) {m : Nat × Nat} (hm : m ∈ critL ws.length zs) : mtK v ws m ws.length 0 (2 ^ v - 1) = true := by
  have hn : ws.length ≤ 4 := by have := hV.1; omega
  have p2 : 2 ^ ws.length ≤ 16 := Nat.pow_le_pow_right (n := 2) (by omega) hn
  rcases Bool.eq_false_or_eq_true (mtK v ws m ws.length 0 (2 ^ v - 1)) with hmt | hmt
  · exact hmt
  exfalso
  obtain ⟨g, hg, hz⟩ := mt_false _ _ _ hmt
  have hf := ord_facts hn (crit_mem.1 hm).1
  have hcr := (cr_iff.1 (crit_mem.1 hm).2).2
  obtain ⟨_, _, hclosed, h16, _⟩ := crit_pt hV hm
  have hy : ∀ t, ∃ y : Int, t < v → y ∈ zs ∧ ∃ i, i < ws.length ∧ bitN m.1 i = 1 ∧ (g i).testBit t = false ∧ y.toNat &&& (m.1 - 2 ^ i) = m.2 - (m.2 &&& 2 ^ i) := fun t => by
    by_cases ht : t < v
    · obtain ⟨i, _, hi, hb, hgt⟩ := hz t (by rw [Nat.testBit_two_pow_sub_one, decide_eq_true_eq]; exact ht)
      obtain ⟨y, hy, e⟩ := opn_iff.1 (hcr i (by omega) hb)
      exact ⟨y, fun _ => ⟨hy, i, by omega, hb, hgt, e⟩⟩
    · exact ⟨0, fun h => absurd h ht⟩
  obtain ⟨yf, hyf⟩ := Classical.axiomOfChoice hy
  have hlen : ((List.range v).map yf).length = v := by simp
  have hat : ∀ t, t < v → ((List.range v).map yf).getD t 0 = yf t := fun t ht => by
    rw [getD_lt (by rw [hlen]; exact ht)]
    simp
  have hall := safeK_all v [] ((List.range v).map yf) h hlen (fun x hx => by
    obtain ⟨t, ht, rfl⟩ := List.mem_map.1 hx
    exact (hyf t (List.mem_range.1 ht)).1)
  rw [List.nil_append, hasB_iff] at hall
  generalize (List.range v).map yf = vs at hlen hat hall
  have hlt := applyK_lt vs ws ws.length
  have key : ∀ j, j < ws.length → bitN m.1 j = 1 → bitN (applyK vs ws ws.length) j = bitN m.2 j := fun j hj hb => by
    rw [applyK_bitS vs ws ws.length j hj, hlen]
    obtain ⟨hgl, hgw⟩ := hg j (Nat.zero_le _) (by omega) hb
    have hsub : g j &&& agN v m vs j = g j := sub_bits hgl fun t ht hgt => by
      rw [agN_bit hv.2 m vs j ht, beq_iff_eq, hat t ht]
      obtain ⟨hyz, i, hi, hbi, hgi, he⟩ := hyf t ht
      have hne : j ≠ i := fun e => by
        rw [e] at hgt
        rw [hgt] at hgi
        cases hgi
      have h1 := valid_lt hV hyz
      have hbit := less_bit h16 hf.2.1 (by omega) (show (yf t).toNat < 16 by omega) hbi he (show j < 4 by omega) hne
      rw [bitN_and, hb, Nat.mul_one] at hbit
      exact hbit
    have hrj := hr _ (List.getElem_mem hj)
    have hmj := hmono _ (List.getElem_mem hj)
    have hw := win_up hv (ws := ws) (m := m) (j := j) (by rw [getD_lt hj]; omega) (by rw [getD_lt hj]; exact hmj) hgl (agN_lt v m vs j) hsub hgw
    rw [win_ag, beq_iff_eq] at hw
    exact hw
  have hag : applyK vs ws ws.length &&& m.1 = m.2 := and_bits h16 hf.2.1 fun s hs4 hb => by
    have hsN : s < ws.length := by
      refine Classical.byContradiction fun hge => ?_
      have h1 : m.1 < 2 ^ s := Nat.lt_of_lt_of_le hf.1 (Nat.pow_le_pow_right (by omega) (by omega))
      unfold bitN at hb
      rw [Nat.div_eq_of_lt h1] at hb
      omega
    exact key s hsN hb
  have hop : opn zs m = true := opn_iff.2 ⟨_, hall, by rw [Int.toNat_natCast]; exact hag⟩
  have hno2 : opn zs m = false := hclosed
  rw [hop] at hno2
  cases hno2
/-- a monotone rule is safe exactly if its groups meet -/
theorem safe_meet {n v : Int} {zs ws : List Int} (hv : vrB n zs v ws = true) (hm : monoR n zs v ws = true) : safeR n zs v ws = meetR n zs v ws := by
  obtain ⟨hV, hr⟩ := vr_of hv
  have hrv := hr.1
  have hrl := hr.2.1
  obtain rfl : n = (ws.length : Int) := by omega
  obtain ⟨vN, rfl⟩ : ∃ vN : Nat, v = (vN : Int) := ⟨v.toNat, by omega⟩
  have hvN : 1 ≤ vN ∧ vN ≤ 3 := by omega
  rw [safeR_yes hv, meetR_yes hv, Int.toNat_natCast, Int.toNat_natCast, Bool.eq_iff_iff, Bool.not_eq_true', List.any_eq_false]
  constructor
  · intro hs m hmem hnone
    rw [monoR_yes hv] at hm
    have hmono : ∀ x ∈ ws, monoC (vN : Int) x.toNat = true := fun x hx => by
      have h1 := hr.range x hx
      rw [← mono_eq hrv h1]
      obtain ⟨i, hi, e⟩ := List.getElem_of_mem hx
      have := all_not.1 hm i hi
      rwa [getD_lt hi, e] at this
    have := safe_meets hvN hV hr.range hmono hs hmem
    rw [mt_none hvN, hnone] at this
    cases this
  · intro hall
    refine meet_safe hvN hV fun m hmem => ?_
    rw [mt_none hvN]
    have := hall m hmem
    simpa using this
theorem meet_empty {n v : Int} {zs ws : List Int} (hv : vrB n zs v ws = true) (h : (critL n.toNat zs).length = 0) : meetR n zs v ws = true := by
  rw [meetR_yes hv, List.length_eq_zero_iff.1 h]
  rfl

theorem not_any_of {p : Int → Bool} {ws : List Int} (h : ∀ x ∈ ws, p x = true) : (!ws.any fun x => !p x) = true :=
  all_not.2 fun j hj => by rw [getD_lt hj]; exact h _ (List.getElem_mem hj)
end Go.Proofs.Ytbmodiobgkmngaa

/- SfK: Safe rules of blocked spaces are dictators; each dictator is listed once. Plain mathematics. -/
namespace Go.Proofs.Ytbmodiobgkmngaa
open Go.RowKit Go.Joins

/-! ### what is listed -/
theorem mem_genS {os : List Int} (S : List Int → Bool) : ∀ (k : Nat) (hs ws : List Int), ws ∈ genS os S k hs ↔ ∃ us : List Int, us.length = k ∧ (∀ u ∈ us, u ∈ os) ∧ ws = hs ++ us ∧ S ws = true
  | 0, hs, ws => by
    unfold genS
    constructor
    · intro h
      split at h
      · rename_i hS
        rw [List.mem_singleton] at h
        subst h
        exact ⟨[], rfl, (fun u hu => by cases hu), (List.append_nil _).symm, hS⟩
      · cases h
    · rintro ⟨us, hl, _, rfl, hS⟩
      obtain rfl : us = [] := List.eq_nil_of_length_eq_zero hl
      rw [List.append_nil] at hS ⊢
      rw [if_pos hS]; simp
  | k + 1, hs, ws => by
    rw [genS, List.mem_flatMap]
    constructor
    · rintro ⟨o, ho, h⟩
      obtain ⟨us, hl, hm, rfl, hS⟩ := (mem_genS S k _ _).1 h
      refine ⟨o :: us, by simp [hl], fun u hu => ?_, by simp, hS⟩
      rcases List.mem_cons.1 hu with rfl | hu
      · exact ho
      · exact hm u hu
    · rintro ⟨us, hl, hm, rfl, hS⟩
      cases us with
      | nil => cases hl
      | cons o us =>
        refine ⟨o, hm o (by simp), (mem_genS S k _ _).2 ⟨us, by simpa using hl, fun u hu => hm u (by simp [hu]), by simp, hS⟩⟩
theorem nodup_genS {os : List Int} (S : List Int → Bool) (hos : os.Nodup) : ∀ (k : Nat) (hs : List Int), (genS os S k hs).Nodup
  | 0, hs => by unfold genS; split <;> simp
  | k + 1, hs => by
    rw [genS]
    unfold List.Nodup
    rw [List.pairwise_flatMap]
    refine ⟨fun o _ => nodup_genS S hos k _, hos.imp fun {a b} hab x hx y hy e => ?_⟩
    subst e
    obtain ⟨us, _, _, e1, _⟩ := (mem_genS S k _ _).1 hx
    obtain ⟨vs, _, _, e2, _⟩ := (mem_genS S k _ _).1 hy
    rw [e1, List.append_assoc, List.append_assoc] at e2
    have := List.append_cancel_left e2
    simp only [List.singleton_append, List.cons.injEq] at this
    exact hab this.1
theorem fam_nodup (v : Int) : (famL v).Nodup := by unfold famL; split <;> simp
section
variable {N : Nat} {zs : List Int} {v : Int}
theorem mem_rules (hV : Valid (N : Int) zs) (hN : 0 < N) (ws : List Int) : ws ∈ rulesL (N : Int) zs v ↔ ws.length = N ∧ (∀ u ∈ ws, u ∈ famL v) ∧ safeK zs ws v.toNat [] = true := by
  rw [← rules_same hV hN, mem_genS]
  constructor
  · rintro ⟨us, h1, h2, rfl, h3⟩
    exact ⟨h1, h2, h3⟩
  · rintro ⟨h1, h2, h3⟩
    exact ⟨ws, h1, h2, by simp, h3⟩
theorem rules_nodup (hV : Valid (N : Int) zs) (hN : 0 < N) : (rulesL (N : Int) zs v).Nodup := by
  rw [← rules_same hV hN]; exact nodup_genS _ (fam_nodup v) _ _
theorem fam_facts (hv : 1 ≤ v ∧ v ≤ 2) : ∀ x ∈ famL v, okWin v x = true ∧ monoC v x.toNat = true ∧ badUnan v x.toNat = false := by
  rcases (show v = 1 ∨ v = 2 by omega) with rfl | rfl
  · intro x hx
    have hx2 : x ∈ ([2] : List Int) := hx
    simp at hx2
    subst hx2
    decide +kernel
  · intro x hx
    have hx2 : x ∈ ([8, 10, 12, 14] : List Int) := hx
    simp at hx2
    rcases hx2 with rfl | rfl | rfl | rfl <;> decide +kernel
theorem rule_facts (hV : Valid (N : Int) zs) (hN : 0 < N) (hv : 1 ≤ v ∧ v ≤ 2) {ws : List Int} (h : ws ∈ rulesL (N : Int) zs v) : vrB (N : Int) zs v ws = true ∧ monoR (N : Int) zs v ws = true ∧ unanR (N : Int) zs v ws = true ∧ safeR (N : Int) zs v ws = true := by
  obtain ⟨h1, h2, h3⟩ := (mem_rules hV hN ws).1 h
  have hvr : vrB (N : Int) zs v ws = true := vr_mk hV ⟨by omega, by omega, fun j hj => by rw [getD_lt hj]; exact (fam_facts hv _ (h2 _ (List.getElem_mem hj))).1⟩
  have hr := fam_range (v := v)
  refine ⟨hvr, ?_, ?_, ?_⟩
  · rw [monoR_yes hvr]
    exact not_any_of fun x hx => by rw [mono_eq (by omega) (hr x (h2 x hx))]; exact (fam_facts hv x (h2 x hx)).2.1
  · rw [unanR_yes hvr]
    exact not_any_of fun x hx => by rw [unan_eq (by omega) (hr x (h2 x hx)), (fam_facts hv x (h2 x hx)).2.2]; rfl
  · rw [safeR_yes hvr]; exact h3
/-! ### dictators -/
def dictQ (N : Nat) (zs : List Int) (v : Int) (ws : List Int) : Bool := decide (0 ≤ dictR (N : Int) zs v ws)
def dictL (N : Nat) (v : Int) : List (List Int) := if v = 1 then [List.replicate N 2] else [List.replicate N 10, List.replicate N 12]
theorem hold1 : holdDict 1 (upT 1 (memF (0 : Nat))) 2 = true := by decide +kernel
theorem hold2 : ∀ x ∈ ([8, 10, 12, 14] : List Int), (holdDict 2 (upT 2 (memF (0 : Nat))) x = decide (x = 10)) ∧ (holdDict 2 (upT 2 (memF (1 : Nat))) x = decide (x = 12)) := by
  intro x hx
  simp at hx
  rcases hx with rfl | rfl | rfl | rfl <;> decide +kernel
theorem not_any_iff {p : Int → Bool} {ws : List Int} : (!ws.any fun x => !p x) = true ↔ ∀ x ∈ ws, p x = true := by
  rw [Bool.not_eq_true', List.any_eq_false]
  constructor
  · intro h x hx
    have := h x hx
    simpa using this
  · intro h x hx
    simp [h x hx]
theorem isD_two {ws : List Int} (h : ∀ u ∈ ws, u ∈ famL 2) : (isD 2 ws 0 = true ↔ ws = List.replicate ws.length 10) ∧ (isD 2 ws 1 = true ↔ ws = List.replicate ws.length 12) := by
  unfold isD
  rw [not_any_iff, not_any_iff]
  constructor
  · constructor
    · intro hh
      refine List.eq_replicate_iff.2 ⟨rfl, fun x hx => ?_⟩
      have h1 := (hold2 x (h x hx)).1
      rw [hh x hx] at h1
      exact (decide_eq_true_iff.1 h1.symm)
    · intro e x hx
      rw [(hold2 x (h x hx)).1, decide_eq_true_iff]
      exact (List.eq_replicate_iff.1 e).2 x hx
  · constructor
    · intro hh
      refine List.eq_replicate_iff.2 ⟨rfl, fun x hx => ?_⟩
      have h1 := (hold2 x (h x hx)).2
      rw [hh x hx] at h1
      exact (decide_eq_true_iff.1 h1.symm)
    · intro e x hx
      rw [(hold2 x (h x hx)).2, decide_eq_true_iff]
      exact (List.eq_replicate_iff.1 e).2 x hx
/-- a rule of the options has a dictator exactly if it is one of these -/
theorem dict_iff (hV : Valid (N : Int) zs) (hv : 1 ≤ v ∧ v ≤ 2) {ws : List Int} (hl : ws.length = N) (h2 : ∀ u ∈ ws, u ∈ famL v) : dictQ N zs v ws = true ↔ ws ∈ dictL N v := by
  have hvr : vrB (N : Int) zs v ws = true := vr_mk hV ⟨by omega, by omega, fun j hj => by rw [getD_lt hj]; exact (fam_facts hv _ (h2 _ (List.getElem_mem hj))).1⟩
  unfold dictQ dictL
  rw [dictR_yes hvr, decide_eq_true_iff]
  rcases (show v = 1 ∨ v = 2 by omega) with rfl | rfl
  · have e : ws = List.replicate N 2 := List.eq_replicate_iff.2 ⟨hl, fun x hx => by
      have hx2 : x ∈ ([2] : List Int) := h2 x hx
      simpa using hx2⟩
    have hd : isD 1 ws 0 = true := by
      unfold isD
      rw [not_any_iff]
      intro x hx
      have hx2 : x ∈ ([2] : List Int) := h2 x hx
      simp at hx2
      subst hx2
      exact hold1
    rw [if_pos rfl, List.mem_singleton]
    constructor
    · intro _; exact e
    · intro _; unfold firstI; rw [if_pos ⟨by decide, hd⟩]; decide
  · obtain ⟨d0, d1⟩ := isD_two h2
    rw [hl] at d0 d1
    rw [if_neg (by decide)]
    simp only [List.mem_cons, List.not_mem_nil, or_false]
    unfold firstI
    constructor
    · intro h
      split at h
      · rename_i c; exact .inl (d0.1 c.2)
      · split at h
        · rename_i c; exact .inr (d1.1 c.2)
        · split at h
          · rename_i c; exact absurd c.1 (by decide)
          · exact absurd h (by decide)
    · rintro (e | e)
      · rw [if_pos ⟨by decide, d0.2 e⟩]; decide
      · have h1 := d1.2 e
        by_cases c : isD 2 ws 0 = true
        · rw [if_pos ⟨by decide, c⟩]; decide
        · rw [if_neg (fun h => c h.2), if_pos ⟨by decide, h1⟩]; decide
theorem dict_in_fam (hv : 1 ≤ v ∧ v ≤ 2) {ws : List Int} (h : ws ∈ dictL N v) : ws.length = N ∧ ∀ u ∈ ws, u ∈ famL v := by
  unfold dictL at h
  rcases (show v = 1 ∨ v = 2 by omega) with rfl | rfl
  · rw [if_pos rfl, List.mem_singleton] at h
    subst h
    refine ⟨by simp, fun u hu => ?_⟩
    rw [List.eq_of_mem_replicate hu]
    decide
  · rw [if_neg (by decide)] at h
    simp only [List.mem_cons, List.not_mem_nil, or_false] at h
    rcases h with rfl | rfl
    · refine ⟨by simp, fun u hu => ?_⟩
      rw [List.eq_of_mem_replicate hu]
      decide
    · refine ⟨by simp, fun u hu => ?_⟩
      rw [List.eq_of_mem_replicate hu]
      decide
theorem applyK_dict {vs ws : List Int} {x n : Nat} (h : ∀ k, k < n → bitN (ws.getD k 0).toNat (groupK vs k vs.length) = bitN x k) : ∀ k, k ≤ n → applyK vs ws k = x % 2 ^ k
  | 0, _ => by rw [applyK, Nat.pow_zero, Nat.mod_one]
  | k + 1, hk => by
    rw [applyK, applyK_dict h k (by omega), h k (by omega), Nat.mod_pow_succ]
    rfl
theorem dict_apply (hV : Valid (N : Int) zs) {vs : List Int} {c x : Int} (hx : x ∈ zs) (h : ∀ k, bitN c.toNat (groupK vs k vs.length) = bitN x.toNat k) : hasB zs ((applyK vs (List.replicate N c) (List.replicate N c).length : Nat) : Int) = true := by
  have h1 := valid_lt hV hx
  rw [hasS_iff, List.length_replicate, applyK_dict (x := x.toNat) (n := N) (fun k hk => by rw [getD_lt (by simpa using hk), List.getElem_replicate]; exact h k) N (Nat.le_refl _), Nat.mod_eq_of_lt h1.2, Int.toNat_of_nonneg h1.1]
  exact hx
theorem pick_one : ∀ b : Fin 2, bitN 2 b.val = b.val := by decide +kernel
theorem pick_two : ∀ b c : Fin 2, bitN 10 (b.val + 2 * c.val) = b.val ∧ bitN 12 (b.val + 2 * c.val) = c.val := by decide +kernel
theorem dict_safe (hV : Valid (N : Int) zs) (hN : 0 < N) (hv : 1 ≤ v ∧ v ≤ 2) {ws : List Int} (h : ws ∈ dictL N v) : ws ∈ rulesL (N : Int) zs v := by
  obtain ⟨hl, h2⟩ := dict_in_fam hv h
  refine (mem_rules hV hN ws).2 ⟨hl, h2, ?_⟩
  unfold dictL at h
  rcases (show v = 1 ∨ v = 2 by omega) with rfl | rfl
  · rw [if_pos rfl, List.mem_singleton] at h
    subst h
    refine safeK_from _ _ fun vs hvl hin => ?_
    rw [List.nil_append]
    obtain ⟨x, rfl⟩ : ∃ x, vs = [x] := List.length_eq_one_iff.1 hvl
    refine dict_apply hV (hin x (by simp)) fun k => ?_
    have hb := bitN_le x.toNat k
    have e : groupK [x] k ([x] : List Int).length = bitN x.toNat k := by
      show 0 + 2 ^ 0 * bitN x.toNat k = _
      omega
    rw [e]
    exact pick_one ⟨bitN x.toNat k, by omega⟩
  · rw [if_neg (by decide)] at h
    simp only [List.mem_cons, List.not_mem_nil, or_false] at h
    have key : ∀ vs : List Int, vs.length = 2 → ∃ x y, vs = [x, y] := fun vs h => by
      match vs, h with
      | [x, y], _ => exact ⟨x, y, rfl⟩
    have hg : ∀ (x y : Int) (k : Nat), groupK [x, y] k ([x, y] : List Int).length = bitN x.toNat k + 2 * bitN y.toNat k := fun x y k => by
      show 0 + 2 ^ 0 * bitN x.toNat k + 2 ^ 1 * bitN y.toNat k = _
      omega
    rcases h with rfl | rfl
    · refine safeK_from _ _ fun vs hvl hin => ?_
      rw [List.nil_append]
      obtain ⟨x, y, rfl⟩ := key vs hvl
      refine dict_apply hV (hin x (by simp)) fun k => ?_
      have h1 := bitN_le x.toNat k
      have h2 := bitN_le y.toNat k
      rw [hg]
      exact (pick_two ⟨bitN x.toNat k, by omega⟩ ⟨bitN y.toNat k, by omega⟩).1
    · refine safeK_from _ _ fun vs hvl hin => ?_
      rw [List.nil_append]
      obtain ⟨x, y, rfl⟩ := key vs hvl
      refine dict_apply hV (hin y (by simp)) fun k => ?_
      have h1 := bitN_le x.toNat k
      have h2 := bitN_le y.toNat k
      rw [hg]
      exact (pick_two ⟨bitN x.toNat k, by omega⟩ ⟨bitN y.toNat k, by omega⟩).2
theorem dictL_nodup (hN : 0 < N) : (dictL N v).Nodup := by
  unfold dictL
  split
  · simp
  · obtain ⟨k, rfl⟩ : ∃ k, N = k + 1 := ⟨N - 1, by omega⟩
    simp [List.replicate_succ]
theorem dictL_len (hv : 1 ≤ v ∧ v ≤ 2) : ((dictL N v).length : Int) = v := by
  unfold dictL
  rcases (show v = 1 ∨ v = 2 by omega) with rfl | rfl
  · rw [if_pos rfl]; rfl
  · rw [if_neg (by decide)]; rfl
theorem dict_count (hV : Valid (N : Int) zs) (hN : 0 < N) (hv : 1 ≤ v ∧ v ≤ 2) : (((rulesL (N : Int) zs v).countP (dictQ N zs v) : Nat) : Int) = v := by
  rw [List.countP_eq_length_filter]
  refine Eq.trans (congrArg (fun x : Nat => (x : Int)) ?_) (dictL_len (N := N) hv)
  refine List.Perm.length_eq ((List.perm_ext_iff_of_nodup ((rules_nodup hV hN).filter _) (dictL_nodup hN)).2 fun ws => ?_)
  rw [List.mem_filter]
  constructor
  · rintro ⟨h1, h2⟩
    obtain ⟨hl, hf, _⟩ := (mem_rules hV hN ws).1 h1
    exact (dict_iff hV hv hl hf).1 h2
  · intro h
    have h1 := dict_safe hV hN hv h
    obtain ⟨hl, hf, _⟩ := (mem_rules hV hN ws).1 h1
    exact ⟨h1, (dict_iff hV hv hl hf).2 h⟩
end
end Go.Proofs.Ytbmodiobgkmngaa

/- SfQ: Safe rules of blocked spaces are dictators: leads keep the groups that win. Plain mathematics. -/
namespace Go.Proofs.Ytbmodiobgkmngaa
open Go.RowKit Go.Joins

/-- whether a group wins for the answer of a place -/
def winP (ws : List Int) (a g : Nat) : Bool := if a % 2 = 0 then bitN (ws.getD (a / 2) 0).toNat (3 - g) == 0 else bitN (ws.getD (a / 2) 0).toNat g == 1
theorem bit_chk : ∀ c : Fin 8, 0 < c.val → c.val.testBit 0 = true ∨ c.val.testBit 1 = true ∨ c.val.testBit 2 = true := by decide +kernel
theorem bit_some (c : Fin 8) (h : 0 < c.val) : ∃ t, c.val.testBit t = true := by
  rcases bit_chk c h with e | e | e
  · exact ⟨0, e⟩
  · exact ⟨1, e⟩
  · exact ⟨2, e⟩
theorem mt_true {ws : List Int} {m : Nat × Nat} : ∀ (k j c : Nat), c < 8 → mtK 2 ws m k j c = true → ∀ g : Nat → Nat, (∀ i, j ≤ i → i < j + k → bitN m.1 i = 1 → g i < 4 ∧ winB 2 ws m i (g i) = true) →
    ∃ t, c.testBit t = true ∧ ∀ i, j ≤ i → i < j + k → bitN m.1 i = 1 → (g i).testBit t = true
  | 0, j, c, h8, h, g, _ => by
    rw [mtK, decide_eq_true_iff] at h
    obtain ⟨t, ht⟩ := bit_some ⟨c, h8⟩ h
    exact ⟨t, ht, fun i h1 h2 => by omega⟩
  | k + 1, j, c, h8, h, g, hg => by
    by_cases hb : bitN m.1 j = 0
    · rw [mtK_skip hb] at h
      obtain ⟨t, h1, h2⟩ := mt_true k (j + 1) c h8 h g (fun i hi hi2 => hg i (by omega) (by omega))
      refine ⟨t, h1, fun i hi hi2 hbi => ?_⟩
      by_cases e : i = j
      · subst e; rw [hb] at hbi; cases hbi
      · exact h2 i (by omega) (by omega) hbi
    · have hb1 : bitN m.1 j = 1 := by have := bitN_le m.1 j; omega
      obtain ⟨g4, gw⟩ := hg j (Nat.le_refl _) (by omega) hb1
      rw [mtK, if_neg hb, List.all_eq_true] at h
      have hx := h (g j) (List.mem_range.2 g4)
      rw [gw, Bool.not_true, Bool.false_or] at hx
      have hc8 : c &&& g j < 8 := Nat.lt_of_le_of_lt Nat.and_le_left h8
      obtain ⟨t, h1, h2⟩ := mt_true k (j + 1) _ hc8 hx g (fun i hi hi2 => hg i (by omega) (by omega))
      rw [Nat.testBit_and, Bool.and_eq_true] at h1
      refine ⟨t, h1.1, fun i hi hi2 hbi => ?_⟩
      by_cases e : i = j
      · subst e; exact h1.2
      · exact h2 i (by omega) (by omega) hbi
theorem all_wins : ∀ x ∈ ([8, 10, 12, 14] : List Int), bitN x.toNat 0 = 0 ∧ bitN x.toNat 3 = 1 := by
  intro x hx
  simp at hx
  rcases hx with rfl | rfl | rfl | rfl <;> decide
theorem no_both : ∀ g : Fin 4, ∀ t : Fin 2, ¬ (g.val.testBit t.val = true ∧ (3 - g.val).testBit t.val = true) := by decide +kernel
theorem three_bit {t : Nat} (h : (3 : Nat).testBit t = true) : t < 2 := by
  rcases Nat.lt_or_ge t 2 with h1 | h1
  · exact h1
  · have : 3 < 2 ^ t := Nat.lt_of_lt_of_le (by decide : 3 < 2 ^ 2) (Nat.pow_le_pow_right (by omega) h1)
    rw [Nat.testBit_lt_two_pow this] at h; cases h
section
variable {N : Nat} {zs : List Int}
/-- a lead keeps the groups that win -/
theorem lead_wins (hV : Valid (N : Int) zs) {ws : List Int} (hl : ws.length = N) (hf : ∀ u ∈ ws, u ∈ famL 2) (hs : safeK zs ws 2 [] = true) {a b : Nat} (h : LR N zs a b) : ∀ g, g < 4 → winP ws a g = true → winP ws b g = true := by
  intro g hg hw
  have hN := hV.1
  obtain ⟨m, hm, j, hj, k, hk, hc, rfl, rfl⟩ := h
  have hj' := List.mem_range.1 hj
  have hk' := List.mem_range.1 hk
  unfold condK at hc
  rw [Bool.and_eq_true, Bool.and_eq_true, bne_iff_ne, beq_iff_eq, beq_iff_eq] at hc
  obtain ⟨hne, hbj, hbk⟩ := hc
  have hmt := safe_meets (v := 2) (by omega) (ws := ws) (by rw [hl]; exact hV) (fun x hx => fam_range x (hf x hx)) (fun x hx => (fam_facts (v := 2) (by omega) x (hf x hx)).2.1) hs (by rw [hl]; exact hm)
  have b1 := bitN_le m.2 j
  have b2 := bitN_le m.2 k
  -- the group wins for the answer of the part
  have hwj : winB 2 ws m j g = true := by
    unfold winP plc at hw
    unfold winB
    by_cases e : bitN m.2 j = 0
    · rw [e] at hw
      rw [if_pos e]
      rw [if_pos (by omega), show (2 * j + 0) / 2 = j by omega] at hw
      exact hw
    · have e1 : bitN m.2 j = 1 := by omega
      rw [e1] at hw
      rw [if_neg e]
      rw [if_neg (by omega), show (2 * j + 1) / 2 = j by omega] at hw
      exact hw
  cases hb : winP ws (opp m k) g with
  | true => rfl
  | false =>
    exfalso
    have hwk : winB 2 ws m k (3 - g) = true := by
      unfold winP opp at hb
      unfold winB
      have b3 := bitN_le (ws.getD k 0).toNat g
      have b4 := bitN_le (ws.getD k 0).toNat (3 - g)
      by_cases e : bitN m.2 k = 0
      · rw [e] at hb
        rw [if_pos e]
        rw [if_neg (by omega), show (2 * k + 1 - 0) / 2 = k by omega, beq_eq_false_iff_ne] at hb
        rw [show 2 ^ 2 - 1 - (3 - g) = g by omega, beq_iff_eq]
        omega
      · have e1 : bitN m.2 k = 1 := by omega
        rw [e1] at hb
        rw [if_neg e]
        rw [if_pos (by omega), show (2 * k + 1 - 1) / 2 = k by omega, beq_eq_false_iff_ne] at hb
        rw [beq_iff_eq]
        omega
    obtain ⟨t, h1, h2⟩ := mt_true ws.length 0 3 (by omega) hmt (fun i => if i = j then g else if i = k then 3 - g else 3) (fun i _ hi hbi => by
      by_cases ej : i = j
      · subst ej
        rw [if_pos rfl]; exact ⟨hg, hwj⟩
      · rw [if_neg ej]
        by_cases ek : i = k
        · subst ek
          rw [if_pos rfl]; exact ⟨by omega, hwk⟩
        · rw [if_neg ek]
          refine ⟨by omega, ?_⟩
          have hi' : i < ws.length := by omega
          have hx := all_wins _ (hf _ (List.getElem_mem hi'))
          unfold winB
          rw [getD_lt hi']
          split
          · rw [show 2 ^ 2 - 1 - 3 = 0 by omega, beq_iff_eq]; exact hx.1
          · rw [beq_iff_eq]; exact hx.2)
    have ht := three_bit h1
    have hgj := h2 j (Nat.zero_le _) (by omega) hbj
    have hgk := h2 k (Nat.zero_le _) (by omega) hbk
    rw [if_pos rfl] at hgj
    rw [if_neg (fun e => hne e.symm), if_pos rfl] at hgk
    exact no_both ⟨g, hg⟩ ⟨t, ht⟩ ⟨hgj, hgk⟩
theorem path_wins (hV : Valid (N : Int) zs) {ws : List Int} (hl : ws.length = N) (hf : ∀ u ∈ ws, u ∈ famL 2) (hs : safeK zs ws 2 [] = true) {a b : Nat} (h : Pth (LR N zs) a b) : ∀ g, g < 4 → winP ws a g = true → winP ws b g = true :=
  h.least (T := fun a b => ∀ g, g < 4 → winP ws a g = true → winP ws b g = true) (fun _ _ h => lead_wins hV hl hf hs h) (fun _ _ _ h1 h2 g hg hw => h2 g hg (h1 g hg hw))
theorem own_chk : ∀ x ∈ ([8, 10, 12, 14] : List Int), ((List.range 4).all fun g => !(bitN x.toNat (3 - g) == 0) || (bitN x.toNat g == 1)) = true → ((List.range 4).all fun g => !(bitN x.toNat g == 1) || (bitN x.toNat (3 - g) == 0)) = true → x = 10 ∨ x = 12 := by
  intro x hx
  simp at hx
  rcases hx with rfl | rfl | rfl | rfl <;> decide
theorem two_chk2 : ∀ x ∈ ([10, 12] : List Int), ∀ y ∈ ([10, 12] : List Int), ((List.range 4).all fun g => !(bitN x.toNat g == 1) || (bitN y.toNat g == 1)) = true → y = x := by
  intro x hx y hy
  simp at hx hy
  rcases hx with rfl | rfl <;> rcases hy with rfl | rfl <;> decide
theorem imp_all {p q : Nat → Bool} (h : ∀ g, g < 4 → p g = true → q g = true) : ((List.range 4).all fun g => !p g || q g) = true := by
  rw [List.all_eq_true]
  intro g hg
  cases hp : p g with
  | false => rfl
  | true => rw [h g (List.mem_range.1 hg) hp]; rfl
/-- safe rules of blocked spaces are dictators -/
theorem blocked_dict {v : Int} (hV : Valid (N : Int) zs) (hN : 0 < N) (hv : 1 ≤ v ∧ v ≤ 2) (hb : blkB (N : Int) zs = true) {ws : List Int} (h : ws ∈ rulesL (N : Int) zs v) : ws ∈ dictL N v := by
  obtain ⟨hl, hf, hs⟩ := (mem_rules hV hN ws).1 h
  rcases (show v = 1 ∨ v = 2 by omega) with rfl | rfl
  · unfold dictL
    rw [if_pos rfl, List.mem_singleton]
    exact List.eq_replicate_iff.2 ⟨hl, fun x hx => by
      have hx2 : x ∈ ([2] : List Int) := hf x hx
      simpa using hx2⟩
  · have hp := (blk_pth (vsB_true hV)).1 hb
    have hT : ∀ a, a < 2 * N → ∀ b, b < 2 * N → a ≠ b → ∀ g, g < 4 → winP ws a g = true → winP ws b g = true := fun a ha b hb hne => path_wins hV hl hf hs (hp a ha b hb hne)
    have hev : ∀ i g, winP ws (2 * i) g = (bitN (ws.getD i 0).toNat (3 - g) == 0) := fun i g => by
      unfold winP; rw [if_pos (by omega), show 2 * i / 2 = i by omega]
    have hod : ∀ i g, winP ws (2 * i + 1) g = (bitN (ws.getD i 0).toNat g == 1) := fun i g => by
      unfold winP; rw [if_neg (by omega), show (2 * i + 1) / 2 = i by omega]
    have hown : ∀ i, i < N → ws.getD i 0 = 10 ∨ ws.getD i 0 = 12 := fun i hi => by
      have hm : ws.getD i 0 ∈ famL 2 := by rw [getD_lt (by omega)]; exact hf _ (List.getElem_mem (by omega))
      refine own_chk _ hm (imp_all fun g hg hw => ?_) (imp_all fun g hg hw => ?_)
      · have := hT (2 * i) (by omega) (2 * i + 1) (by omega) (by omega) g hg (by rw [hev]; exact hw)
        rwa [hod] at this
      · have := hT (2 * i + 1) (by omega) (2 * i) (by omega) (by omega) g hg (by rw [hod]; exact hw)
        rwa [hev] at this
    have hmem : ∀ i, i < N → ws.getD i 0 ∈ ([10, 12] : List Int) := fun i hi => by
      rcases hown i hi with e | e <;> rw [e] <;> simp
    have hsame : ∀ i, i < N → ws.getD i 0 = ws.getD 0 0 := fun i hi => by
      by_cases e : i = 0
      · rw [e]
      · refine two_chk2 _ (hmem 0 hN) _ (hmem i hi) (imp_all fun g hg hw => ?_)
        have := hT (2 * 0 + 1) (by omega) (2 * i + 1) (by omega) (by omega) g hg (by rw [hod]; exact hw)
        rwa [hod] at this
    have hrep : ws = List.replicate N (ws.getD 0 0) := List.eq_replicate_iff.2 ⟨hl, fun x hx => by
      obtain ⟨i, hi, rfl⟩ := List.getElem_of_mem hx
      have := hsame i (by omega)
      rwa [getD_lt hi] at this⟩
    unfold dictL
    rw [if_neg (by decide)]
    simp only [List.mem_cons, List.not_mem_nil, or_false]
    rcases hown 0 hN with e | e
    · left; rw [e] at hrep; exact hrep
    · right; rw [e] at hrep; exact hrep
theorem blocked_len {v : Int} (hV : Valid (N : Int) zs) (hN : 0 < N) (hv : 1 ≤ v ∧ v ≤ 2) (hb : blkB (N : Int) zs = true) : ((rulesL (N : Int) zs v).length : Int) = v := by
  refine Eq.trans (congrArg (fun x : Nat => (x : Int)) ?_) (dict_count hV hN hv)
  symm
  rw [List.countP_eq_length]
  intro ws hws
  obtain ⟨hl, hf, _⟩ := (mem_rules hV hN ws).1 hws
  exact (dict_iff hV hv hl hf).2 (blocked_dict hV hN hv hb hws)
end
end Go.Proofs.Ytbmodiobgkmngaa

/- Rle: equalRules of the laws. -/
namespace Go.Proofs.Ytbmodiobgkmngaa
open Go.RowKit Go.Joins

theorem equalRule_yes (n : Int) (a b : Option Addr) (ca cb : Nat) (xs : List Int) (w : World) (hx : Ints w a xs) (hy : Ints w b xs) (hn : xs.length ≤ 1048576) :
    Calls Try.prog 29 #[.agg #[.int .i64 n, .slice a xs.length ca], .agg #[.int .i64 n, .slice b xs.length cb]] w fun e w' => e = .returned (.bool true) ∧ Below w.heap.size w w' := by
  have hB := bel2 w (.cells #[.int .i64 n, .slice a xs.length ca] 34) (.cells #[.int .i64 n, .slice b xs.length cb] 34)
  have hx2 := hx.below hB
  have hy2 := hy.below hB
  have heq : (n == n) = true := by simp
  have hE : eqB xs xs = true := by unfold eqB; simp
  have HE := hide hE
  have HB := hide hB
  clear hx hy hE hB
  go_enter Try.func29, Try.ntmps29
  go_wp2_with fail
  refine (equalInts_any _ _ _ _ _ _ _ hx2 hy2 hn hn).mono ?_
  rw [HE.out]
  rintro e w1 ⟨rfl, hb⟩
  go_wp2
  go_ret
  exact ⟨rfl, bnext HB.out hb⟩
set_option maxHeartbeats 4000000 in
set_option maxRecDepth 100000 in
theorem equalRules_yes (B B' : Nat) (vx vy : Value) (xs ys : List RT) (w : World) (hx : RL w B vx xs) (hy : RL w B' vy ys) (hk : keys xs = keys ys) (hn : xs.length ≤ 1048576) (hl : ∀ t ∈ xs, t.2.1.length ≤ 4) :
    Calls Try.prog 7 #[vx, vy] w fun e w' => e = .returned (.bool true) ∧ Below w.heap.size w w' := by
  have hlen : xs.length = ys.length := by simpa [keys] using congrArg List.length hk
  have HE : Hid (∀ k (h1 : k < xs.length) (h2 : k < ys.length), xs[k].1 = ys[k].1 ∧ xs[k].2.1 = ys[k].2.1) := fun k h1 h2 => by
    have e := congrArg (fun l => l[k]?) hk
    simp only [keys, List.getElem?_map, List.getElem?_eq_getElem h1, List.getElem?_eq_getElem h2, Option.map_some, Option.some.injEq, Prod.mk.injEq] at e
    exact e
  have HX := hide hx
  have HY := hide hy
  have HL := hide hl
  obtain ⟨a, ca, rfl, ha⟩ := hx.form
  obtain ⟨b, cb, rfl, hb⟩ := hy.form
  have HA := hide ha
  have HB := hide hb
  have HLEN := hide hlen
  obtain ⟨n, hnn⟩ : ∃ n, ys.length = n := ⟨_, rfl⟩
  have hne : ((xs.length : Int) != (n : Int)) = false := by rw [hlen, hnn]; simp
  rw [hnn]
  clear hx hy hl hk ha hb hlen
  go_enter Try.func7, Try.ntmps7
  go_wp2_with fail
  go_loopw [5] (fun i wr => ∃ k : Nat, k ≤ xs.length ∧ i = .int .i64 k ∧ Below w.heap.size w wr) (fun i _ => xs.length - (intOf i).toNat)
  case atStart => exact ⟨0, Nat.zero_le _, rfl, Below.refl _ _⟩
  case round =>
    obtain ⟨k, hk, rfl, hb⟩ := hrel
    have HBL := hide hb
    by_cases hlt : k < xs.length
    · have hlt2 : k < n := by have := HLEN.out; omega
      have hlt3 : k < ys.length := by omega
      obtain ⟨g, rfl, _, hgl⟩ := HA.out (by omega)
      obtain ⟨g', rfl, _, hgl'⟩ := HB.out (by omega)
      obtain ⟨p0, p1, ix⟩ := (HX.out.below hb).at k hlt
      obtain ⟨q0, q1, iy⟩ := (HY.out.below hb).at k hlt3
      obtain ⟨e1, e2⟩ := HE.out k hlt hlt3
      have hl4 := HL.out _ (List.getElem_mem hlt)
      rw [← e1] at q0
      rw [← e2] at q1 iy
      clear e1 e2
      obtain ⟨x, hx⟩ : ∃ x, xs[k].1 = x := ⟨_, rfl⟩
      obtain ⟨ws, hw⟩ : ∃ x, xs[k].2.1 = x := ⟨_, rfl⟩
      obtain ⟨b1, hb1⟩ : ∃ x, xs[k].2.2.1 = x := ⟨_, rfl⟩
      obtain ⟨c1, hc1⟩ : ∃ x, xs[k].2.2.2 = x := ⟨_, rfl⟩
      obtain ⟨b2, hb2⟩ : ∃ x, ys[k].2.2.1 = x := ⟨_, rfl⟩
      obtain ⟨c2, hc2⟩ : ∃ x, ys[k].2.2.2 = x := ⟨_, rfl⟩
      rw [hx] at p0 q0
      rw [hw, hb1, hc1] at p1
      rw [hw, hb2, hc2] at q1
      rw [hw, hb1] at ix
      rw [hw, hb2] at iy
      rw [hw] at hl4
      clear hx hw hb1 hc1 hb2 hc2 hlt3
      have hgw : g < wr.heap.size := by have := hb.size; omega
      have hgw' : g' < wr.heap.size := by have := hb.size; omega
      have HIX := hide ix
      have HIY := hide iy
      clear ix iy hb
      go_wp2
      go_region_held3 (fun W => W.cell? ⟨g, k * 2, none⟩ = some (.int .i64 x) ∧ W.cell? ⟨g, k * 2 + 1, none⟩ = some (.slice (some ⟨b1, 0, none⟩) ws.length c1) ∧ W.cell? ⟨g', k * 2, none⟩ = some (.int .i64 x) ∧ W.cell? ⟨g', k * 2 + 1, none⟩ = some (.slice (some ⟨b2, 0, none⟩) ws.length c2)) (first | exact ⟨p0, p1, q0, q1⟩ | exact K1.out) ((go_at_call 29; (with_reducible refine (equalRule_yes _ _ _ _ _ _ _ (by exact HIX.out.below (bdrew' (Below.refl _ _))) (by exact HIY.out.below (bdrew' (Below.refl _ _))) (by omega)).mono ?_); rintro e w5 ⟨rfl, b5⟩; have B5 := hide b5; have K1 : Hid (w5.cell? ⟨g, k * 2, none⟩ = some (.int .i64 x) ∧ w5.cell? ⟨g, k * 2 + 1, none⟩ = some (.slice (some ⟨b1, 0, none⟩) ws.length c1) ∧ w5.cell? ⟨g', k * 2, none⟩ = some (.int .i64 x) ∧ w5.cell? ⟨g', k * 2 + 1, none⟩ = some (.slice (some ⟨b2, 0, none⟩) ws.length c2)) := ⟨(b5.cell (p := ⟨g, k * 2, none⟩) hgw).trans p0, (b5.cell (p := ⟨g, k * 2 + 1, none⟩) hgw).trans p1, (b5.cell (p := ⟨g', k * 2, none⟩) hgw').trans q0, (b5.cell (p := ⟨g', k * 2 + 1, none⟩) hgw').trans q1⟩; clear b5))
      all_goals
        go_wp2
        go_roundw
        case rel => exact ⟨k + 1, by omega, by go_num, bnext HBL.out (bdrew B5.out)⟩
        case measure => simp only [intOf]; omega
    · obtain rfl : k = xs.length := by omega
      go_wp2
      go_ret
      exact ⟨rfl, HBL.out⟩
end Go.Proofs.Ytbmodiobgkmngaa

/- PSfr: The law of SafeRules answers true at every code; its walk. -/
namespace Go.Proofs.Ytbmodiobgkmngaa
open Go.RowKit Go.Joins

theorem sfL_short (n v : Int) (zs : List Int) : (sfL n zs v).length ≤ 256 := by
  unfold sfL
  split
  · rename_i h
    unfold sfB at h
    rw [Bool.and_eq_true] at h
    have hV := valid_of h.1
    obtain ⟨N, rfl⟩ : ∃ N : Nat, n = (N : Int) := ⟨n.toNat, by have := hV.1; omega⟩
    exact rules_len hV (by have := hV.1; omega)
  · simp
theorem specSq_was (n v : Int) (a : Option Addr) (cap : Nat) (zs : List Int) (L : List (List Int)) (w : World) (hi : Ints w a zs) (hn : zs.length ≤ 1048576) (hL : sfL n zs v = L) :
    Calls Try.prog 8 #[.agg #[.int .i64 n, .slice a zs.length cap], .int .i64 v] w (GivesL v L w) := by
  subst hL
  exact specSafeRules_any n v a cap zs w hi hn
theorem implSq_was (n v : Int) (a : Option Addr) (cap : Nat) (zs : List Int) (L : List (List Int)) (w : World) (hi : Ints w a zs) (hn : zs.length ≤ 1048576) (hL : sfL n zs v = L) :
    Calls Try.prog 6 #[.agg #[.int .i64 n, .slice a zs.length cap], .int .i64 v] w (GivesO v L w) := by
  subst hL
  exact implSafeRules_any n v a cap zs w hi hn
theorem implVSf2_was (n : Int) (a : Option Addr) (cap : Nat) (zs : List Int) (r : Bool) (w : World) (hi : Ints w a zs) (hn : zs.length ≤ 1048576) (h : vsB n zs = r) :
    Calls Try.prog 9 #[.agg #[.int .i64 n, .slice a zs.length cap]] w fun e w' => e = .returned (.bool r) ∧ Below w.heap.size w w' := by
  subst h
  exact implValidSpace_any n a cap zs w hi hn
theorem implMono_was (n v : Int) (a b : Option Addr) (cap capb : Nat) (zs ws : List Int) (w : World) (hi : Ints w a zs) (hj : Ints w b ws) (hn : zs.length ≤ 1048576) (hm : ws.length ≤ 1048576) (h : monoR n zs v ws = true) :
    Calls Try.prog 10 #[.agg #[.int .i64 n, .slice a zs.length cap], .agg #[.int .i64 v, .slice b ws.length capb]] w fun e w' => e = .returned (.bool true) ∧ Below w.heap.size w w' := by
  have := implIsMonotone_any n v a b cap capb zs ws w hi hj hn hm
  rwa [h] at this
theorem implUnan_was (n v : Int) (a b : Option Addr) (cap capb : Nat) (zs ws : List Int) (w : World) (hi : Ints w a zs) (hj : Ints w b ws) (hn : zs.length ≤ 1048576) (hm : ws.length ≤ 1048576) (h : unanR n zs v ws = true) :
    Calls Try.prog 11 #[.agg #[.int .i64 n, .slice a zs.length cap], .agg #[.int .i64 v, .slice b ws.length capb]] w fun e w' => e = .returned (.bool true) ∧ Below w.heap.size w w' := by
  have := implIsUnanimous_any n v a b cap capb zs ws w hi hj hn hm
  rwa [h] at this
theorem implSafe_was (n v : Int) (a b : Option Addr) (cap capb : Nat) (zs ws : List Int) (w : World) (hi : Ints w a zs) (hj : Ints w b ws) (hn : zs.length ≤ 1048576) (hm : ws.length ≤ 1048576) (h : safeR n zs v ws = true) :
    Calls Try.prog 12 #[.agg #[.int .i64 n, .slice a zs.length cap], .agg #[.int .i64 v, .slice b ws.length capb]] w fun e w' => e = .returned (.bool true) ∧ Below w.heap.size w w' := by
  have := implIsSafe_any n v a b cap capb zs ws w hi hj hn hm
  rwa [h] at this
theorem implDict_was (n v : Int) (a b : Option Addr) (cap capb : Nat) (zs ws : List Int) (d : Int) (w : World) (hi : Ints w a zs) (hj : Ints w b ws) (hn : zs.length ≤ 1048576) (hm : ws.length ≤ 1048576) (h : dictR n zs v ws = d) :
    Calls Try.prog 13 #[.agg #[.int .i64 n, .slice a zs.length cap], .agg #[.int .i64 v, .slice b ws.length capb]] w fun e w' => e = .returned (.int .i64 d) ∧ Below w.heap.size w w' := by
  subst h
  exact implDictatorOf_any n v a b cap capb zs ws w hi hj hn hm
theorem implBlk_was (n : Int) (a : Option Addr) (cap : Nat) (zs : List Int) (r : Bool) (w : World) (hi : Ints w a zs) (hn : zs.length ≤ 1048576) (h : blkB n zs = r) :
    Calls Try.prog 14 #[.agg #[.int .i64 n, .slice a zs.length cap]] w fun e w' => e = .returned (.bool r) ∧ Below w.heap.size w w' := by
  subst h
  exact implIsBlocked_any n a cap zs w hi hn
theorem count_take {p : List Int → Bool} {L : List (List Int)} {k : Nat} (h : k < L.length) : (L.take (k + 1)).countP p = (L.take k).countP p + if p L[k] = true then 1 else 0 := by
  rw [List.take_succ_eq_append_getElem h, List.countP_append, List.countP_singleton]
set_option maxHeartbeats 8000000 in
set_option maxRecDepth 100000 in
theorem walk_FnSafeRules (a : Option Addr) (zs : List Nat) (cap : Nat) (w : World) (hi : Byts w a zs) (hl : zs.length ≤ maxLen) (hc : zs.length ≤ cap) :
    Calls Try.prog 3 #[.slice a zs.length cap] w fun e w' => e = .returned (.bool true) ∧ Below w.heap.size w w' := by
  by_cases h : 1048576 < zs.length
  · unfold maxLen at hl
    go_enter Try.func3, Try.ntmps3
    go_wp2
    go_ret
    exact ⟨rfl, Below.refl _ _⟩
  · have hl' : zs.length ≤ 1048576 := by omega
    clear h hl
    go_enter Try.func3, Try.ntmps3
    go_wp2_with fail
    refine (drawSafeRules_any _ _ _ _ hi hl' hc).mono ?_
    rintro e w1 ⟨m, av, ss, cv, x, rfl, iv, hsl, hcv, hb⟩
    have S0 := SV.new w1 m av ss cv none [] 25 iv (Ints.nil _ _)
    have HB := hide hb
    have hn : ss.length ≤ 1048576 := by omega
    clear hb hi iv hl' hcv
    obtain ⟨⟨_, c0, c1⟩, _⟩ := S0.pair
    obtain ⟨L, hL⟩ : ∃ L, sfL m ss x = L := ⟨_, rfl⟩
    have HL := hide hL
    have hL256 : L.length ≤ 256 := by rw [← hL]; exact sfL_short m x ss
    cases hv : vsB m ss with
    | false =>
      have HVS := hide hv
      clear hL hv
      go_wp2_with fail
      refine (implSq_was _ _ _ _ _ L _ S0.2.1 hn HL.out).mono ?_
      rintro e w2 ⟨vg, tg, rfl, kg, rog, htl, b2⟩
      have HKG := hide kg
      have HTL := hide htl
      have htg : tg.length ≤ 256 := by have := keys_len kg; omega
      have RG2 := hide rog.1
      have S2 := S0.below b2
      have HS2 := hide S2
      clear c0 c1 S0 b2 kg htl rog
      obtain ⟨⟨_, c0, c1⟩, _⟩ := S2.pair
      go_wp2_with fail
      refine (specSq_was _ _ _ _ _ L _ HS2.out.2.1 hn HL.out).mono ?_
      rintro e w3 ⟨vw, tw, rfl, kw, rlw, b3⟩
      have HKK := hide (HKG.out.trans kw.symm)
      have RW3 := hide rlw
      have RG3 := hide (RG2.out.below b3)
      have S3 := HS2.out.below b3
      have HS3 := hide S3
      clear c0 c1 S2 HS2 b3 kw rlw RG2
      go_wp2_with fail
      refine (equalRules_yes _ _ _ _ tg tw _ RG3.out RW3.out HKK.out (by omega) HTL.out).mono ?_
      rintro e w4 ⟨rfl, b4⟩
      have RG4 := hide (RG3.out.below b4)
      have S4 := HS3.out.below b4
      have HS4 := hide S4
      clear S3 HS3 b4 RG3 RW3 HKK
      obtain ⟨⟨_, c0, c1⟩, _⟩ := S4.pair
      go_wp2_with fail
      refine (implVSf2_was _ _ _ _ false _ HS4.out.2.1 hn HVS.out).mono ?_
      rintro e w5 ⟨rfl, b5⟩
      have RG5 := hide (RG4.out.below b5)
      have S5 := HS4.out.below b5
      have HS5 := hide S5
      clear c0 c1 S4 HS4 b5 RG4
      obtain ⟨⟨_, c0, c1⟩, _⟩ := S5.pair
      go_wp2_with fail
      refine (specSq_was _ _ _ _ _ L _ HS5.out.2.1 hn HL.out).mono ?_
      rintro e w6 ⟨vw, tw, rfl, kw, rlw, b6⟩
      have HKK := hide (HKG.out.trans kw.symm)
      have RW6 := hide rlw
      have RG6 := hide (RG5.out.below b6)
      have S6 := hide (HS5.out.below b6)
      clear c0 c1 S5 HS5 b6 kw rlw RG5
      go_wp2_with fail
      refine (equalRules_yes _ _ _ _ tg tw _ RG6.out RW6.out HKK.out (by omega) HTL.out).mono ?_
      rintro e w7 ⟨rfl, b7⟩
      go_wp2
      go_ret
      exact ⟨rfl, bnext HB.out (S6.out.below b7).2.2.2⟩
    | true =>
      have HVS := hide hv
      rcases Int.lt_or_le x 1 with hx1 | hx1
      · clear hL hv
        go_wp2_with fail
        refine (implSq_was _ _ _ _ _ L _ S0.2.1 hn HL.out).mono ?_
        rintro e w2 ⟨vg, tg, rfl, kg, rog, htl, b2⟩
        have HKG := hide kg
        have HTL := hide htl
        have htg : tg.length ≤ 256 := by have := keys_len kg; omega
        have RG2 := hide rog.1
        have S2 := S0.below b2
        have HS2 := hide S2
        clear c0 c1 S0 b2 kg htl rog
        obtain ⟨⟨_, c0, c1⟩, _⟩ := S2.pair
        go_wp2_with fail
        refine (specSq_was _ _ _ _ _ L _ HS2.out.2.1 hn HL.out).mono ?_
        rintro e w3 ⟨vw, tw, rfl, kw, rlw, b3⟩
        have HKK := hide (HKG.out.trans kw.symm)
        have RW3 := hide rlw
        have RG3 := hide (RG2.out.below b3)
        have S3 := HS2.out.below b3
        have HS3 := hide S3
        clear c0 c1 S2 HS2 b3 kw rlw RG2
        go_wp2_with fail
        refine (equalRules_yes _ _ _ _ tg tw _ RG3.out RW3.out HKK.out (by omega) HTL.out).mono ?_
        rintro e w4 ⟨rfl, b4⟩
        have RG4 := hide (RG3.out.below b4)
        have S4 := HS3.out.below b4
        have HS4 := hide S4
        clear S3 HS3 b4 RG3 RW3 HKK
        obtain ⟨⟨_, c0, c1⟩, _⟩ := S4.pair
        go_wp2_with fail
        refine (implVSf2_was _ _ _ _ true _ HS4.out.2.1 hn HVS.out).mono ?_
        rintro e w5 ⟨rfl, b5⟩
        have RG5 := hide (RG4.out.below b5)
        have S5 := HS4.out.below b5
        have HS5 := hide S5
        clear c0 c1 S4 HS4 b5 RG4
        obtain ⟨⟨_, c0, c1⟩, _⟩ := S5.pair
        go_wp2_with fail
        refine (specSq_was _ _ _ _ _ L _ HS5.out.2.1 hn HL.out).mono ?_
        rintro e w6 ⟨vw, tw, rfl, kw, rlw, b6⟩
        have HKK := hide (HKG.out.trans kw.symm)
        have RW6 := hide rlw
        have RG6 := hide (RG5.out.below b6)
        have S6 := hide (HS5.out.below b6)
        clear c0 c1 S5 HS5 b6 kw rlw RG5
        go_wp2_with fail
        refine (equalRules_yes _ _ _ _ tg tw _ RG6.out RW6.out HKK.out (by omega) HTL.out).mono ?_
        rintro e w7 ⟨rfl, b7⟩
        go_wp2
        go_ret
        exact ⟨rfl, bnext HB.out (S6.out.below b7).2.2.2⟩
      rcases Int.lt_or_le 2 x with hx2 | hx2
      · have hx1' : ¬ x < 1 := by omega
        clear hL hv
        go_wp2_with fail
        refine (implSq_was _ _ _ _ _ L _ S0.2.1 hn HL.out).mono ?_
        rintro e w2 ⟨vg, tg, rfl, kg, rog, htl, b2⟩
        have HKG := hide kg
        have HTL := hide htl
        have htg : tg.length ≤ 256 := by have := keys_len kg; omega
        have RG2 := hide rog.1
        have S2 := S0.below b2
        have HS2 := hide S2
        clear c0 c1 S0 b2 kg htl rog
        obtain ⟨⟨_, c0, c1⟩, _⟩ := S2.pair
        go_wp2_with fail
        refine (specSq_was _ _ _ _ _ L _ HS2.out.2.1 hn HL.out).mono ?_
        rintro e w3 ⟨vw, tw, rfl, kw, rlw, b3⟩
        have HKK := hide (HKG.out.trans kw.symm)
        have RW3 := hide rlw
        have RG3 := hide (RG2.out.below b3)
        have S3 := HS2.out.below b3
        have HS3 := hide S3
        clear c0 c1 S2 HS2 b3 kw rlw RG2
        go_wp2_with fail
        refine (equalRules_yes _ _ _ _ tg tw _ RG3.out RW3.out HKK.out (by omega) HTL.out).mono ?_
        rintro e w4 ⟨rfl, b4⟩
        have RG4 := hide (RG3.out.below b4)
        have S4 := HS3.out.below b4
        have HS4 := hide S4
        clear S3 HS3 b4 RG3 RW3 HKK
        obtain ⟨⟨_, c0, c1⟩, _⟩ := S4.pair
        go_wp2_with fail
        refine (implVSf2_was _ _ _ _ true _ HS4.out.2.1 hn HVS.out).mono ?_
        rintro e w5 ⟨rfl, b5⟩
        have RG5 := hide (RG4.out.below b5)
        have S5 := HS4.out.below b5
        have HS5 := hide S5
        clear c0 c1 S4 HS4 b5 RG4
        obtain ⟨⟨_, c0, c1⟩, _⟩ := S5.pair
        go_wp2_with fail
        refine (specSq_was _ _ _ _ _ L _ HS5.out.2.1 hn HL.out).mono ?_
        rintro e w6 ⟨vw, tw, rfl, kw, rlw, b6⟩
        have HKK := hide (HKG.out.trans kw.symm)
        have RW6 := hide rlw
        have RG6 := hide (RG5.out.below b6)
        have S6 := hide (HS5.out.below b6)
        clear c0 c1 S5 HS5 b6 kw rlw RG5
        go_wp2_with fail
        refine (equalRules_yes _ _ _ _ tg tw _ RG6.out RW6.out HKK.out (by omega) HTL.out).mono ?_
        rintro e w7 ⟨rfl, b7⟩
        go_wp2
        go_ret
        exact ⟨rfl, bnext HB.out (S6.out.below b7).2.2.2⟩
      have hx1' : ¬ x < 1 := by omega
      have hx2' : ¬ 2 < x := by omega
      have hxx : 1 ≤ x ∧ x ≤ 2 := ⟨hx1, hx2⟩
      have hV := valid_of hv
      obtain ⟨N, rfl⟩ : ∃ N : Nat, m = (N : Int) := ⟨m.toNat, by have := hV.1; omega⟩
      have hN : 0 < N := by have := hV.1; omega
      have hLr : L = rulesL (N : Int) ss x := by rw [← hL, sfL_yes (by unfold sfB; rw [hv, decide_eq_true hxx]; rfl)]
      have HRF : Hid (∀ ws, ws ∈ L → vrB (N : Int) ss x ws = true ∧ monoR (N : Int) ss x ws = true ∧ unanR (N : Int) ss x ws = true ∧ safeR (N : Int) ss x ws = true) := fun ws h => rule_facts hV hN hxx (hLr ▸ h)
      have HCNT : Hid (((L.countP (dictQ N ss x) : Nat) : Int) = x) := by rw [hLr]; exact dict_count hV hN hxx
      have HBLK : Hid (blkB (N : Int) ss = true → (L.length : Int) = x) := fun hb => by rw [hLr]; exact blocked_len hV hN hxx hb
      clear hL hv hV hLr
      go_wp2_with fail
      refine (implSq_was _ _ _ _ _ L _ S0.2.1 hn HL.out).mono ?_
      rintro e w2 ⟨vg, tg, rfl, kg, rog, htl, b2⟩
      have HKG := hide kg
      have HTL := hide htl
      have htg : tg.length ≤ 256 := by have := keys_len kg; omega
      have RG2 := hide rog.1
      have S2 := S0.below b2
      have HS2 := hide S2
      clear c0 c1 S0 b2 kg htl rog
      obtain ⟨⟨_, c0, c1⟩, _⟩ := S2.pair
      go_wp2_with fail
      refine (specSq_was _ _ _ _ _ L _ HS2.out.2.1 hn HL.out).mono ?_
      rintro e w3 ⟨vw, tw, rfl, kw, rlw, b3⟩
      have HKK := hide (HKG.out.trans kw.symm)
      have RW3 := hide rlw
      have RG3 := hide (RG2.out.below b3)
      have S3 := HS2.out.below b3
      have HS3 := hide S3
      clear c0 c1 S2 HS2 b3 kw rlw RG2
      go_wp2_with fail
      refine (equalRules_yes _ _ _ _ tg tw _ RG3.out RW3.out HKK.out (by omega) HTL.out).mono ?_
      rintro e w4 ⟨rfl, b4⟩
      have RG4 := hide (RG3.out.below b4)
      have S4 := HS3.out.below b4
      have HS4 := hide S4
      clear S3 HS3 b4 RG3 RW3 HKK
      obtain ⟨⟨_, c0, c1⟩, _⟩ := S4.pair
      go_wp2_with fail
      refine (implVSf2_was _ _ _ _ true _ HS4.out.2.1 hn HVS.out).mono ?_
      rintro e w5 ⟨rfl, b5⟩
      have RG5 := hide (RG4.out.below b5)
      have S5 := HS4.out.below b5
      have HS5 := hide S5
      clear c0 c1 S4 HS4 b5 RG4
      obtain ⟨⟨_, c0, c1⟩, _⟩ := S5.pair
      have HLEN := hide (keys_len HKG.out)
      obtain ⟨ag, cg, rfl, hag⟩ := RG5.out.form
      have HAG := hide hag
      clear hag
      go_wp2_with fail
      go_loopw [6, 7] (fun d i wr => ∃ k : Nat, k ≤ tg.length ∧ i = .int .i64 k ∧ d = .int .i64 (((L.take k).countP (dictQ N ss x) : Nat) : Int) ∧ Below w5.heap.size w5 wr) (fun _ i _ => tg.length - (intOf i).toNat)
      case atStart => exact ⟨0, Nat.zero_le _, rfl, by simp, Below.refl _ _⟩
      case round =>
        clear c0 c1 S5
        obtain ⟨k, hk, rfl, rfl, hb⟩ := hrel
        have HBW := hide hb
        by_cases hlt : k < tg.length
        · obtain ⟨g, rfl, _, hgl⟩ := HAG.out (by omega)
          have hltL : k < L.length := by have := HLEN.out; omega
          obtain ⟨p0, p1, ix⟩ := (RG5.out.below hb).at k hlt
          have hke : tg[k].1 = x ∧ tg[k].2.1 = L[k] := by
            have e := congrArg (fun l => l[k]?) HKG.out
            simp only [keys, withV, List.getElem?_map, List.getElem?_eq_getElem hlt, List.getElem?_eq_getElem hltL, Option.map_some, Option.some.injEq, Prod.mk.injEq] at e
            exact e
          obtain ⟨b1, hb1⟩ : ∃ b, tg[k].2.2.1 = b := ⟨_, rfl⟩
          obtain ⟨k1, hk1⟩ : ∃ b, tg[k].2.2.2 = b := ⟨_, rfl⟩
          obtain ⟨ws, hws⟩ : ∃ ws, L[k] = ws := ⟨_, rfl⟩
          rw [hke.1] at p0
          rw [hke.2, hws, hb1, hk1] at p1
          rw [hke.2, hws, hb1] at ix
          have hwm : ws ∈ L := by rw [← hws]; exact List.getElem_mem hltL
          have hwl : ws.length ≤ 1048576 := by
            have := HTL.out _ (List.getElem_mem hlt)
            rw [hke.2, hws] at this
            omega
          obtain ⟨_, hmono, hunan, hsafe⟩ := HRF.out ws hwm
          have HMO := hide hmono
          have HUN := hide hunan
          have HSA := hide hsafe
          have HCT := hide (count_take (p := dictQ N ss x) hltL)
          rw [hws] at HCT
          have hgw : g < wr.heap.size := by have := hb.size; omega
          have S6 := HS5.out.below hb
          obtain ⟨⟨_, c0, c1⟩, i6, _⟩ := S6.pair
          have HII : Hid (∀ W : World, Below wr.heap.size wr W → Ints W av ss ∧ Ints W (some ⟨b1, 0, none⟩) ws) := fun W h => ⟨i6.below h, ix.below h⟩
          have HFC : Hid (∀ W : World, Below wr.heap.size wr W → W.cell? ⟨w1.heap.size, 0, none⟩ = some (.int .i64 (N : Int)) ∧ W.cell? ⟨w1.heap.size, 1, none⟩ = some (.slice av ss.length cv) ∧ W.cell? ⟨g, k * 2, none⟩ = some (.int .i64 x) ∧ W.cell? ⟨g, k * 2 + 1, none⟩ = some (.slice (some ⟨b1, 0, none⟩) ws.length k1)) := fun W h => by
            obtain ⟨⟨_, e0, e1⟩, _⟩ := ((HS5.out.below hb).below h).pair
            exact ⟨e0, e1, (h.cell (p := ⟨g, k * 2, none⟩) hgw).trans p0, (h.cell (p := ⟨g, k * 2 + 1, none⟩) hgw).trans p1⟩
          clear hke hb1 hk1 hws hwm hmono hunan hsafe ix i6 S6 hb
          obtain ⟨dd, hdd⟩ : ∃ d, dictR (N : Int) ss x ws = d := ⟨_, rfl⟩
          have HDD := hide hdd
          have hq : dictQ N ss x ws = decide (0 ≤ dd) := by unfold dictQ; rw [hdd]
          have HQ := hide hq
          clear hdd hq
          have hcb : ((L.take k).countP (dictQ N ss x)) ≤ 256 := Nat.le_trans List.countP_le_length (by rw [List.length_take]; omega)
          go_upto_region 11 with fail
          go_region_held3 (fun W => W.cell? ⟨w1.heap.size, 0, none⟩ = some (.int .i64 (N : Int)) ∧ W.cell? ⟨w1.heap.size, 1, none⟩ = some (.slice av ss.length cv) ∧ W.cell? ⟨g, k * 2, none⟩ = some (.int .i64 x) ∧ W.cell? ⟨g, k * 2 + 1, none⟩ = some (.slice (some ⟨b1, 0, none⟩) ws.length k1))
            (first | go_keep | exact K7.out | exact K6.out | exact K5.out | exact HFC.out _ (bdrew' (Below.refl _ _)))
            (first
              | (go_at_call 10; refine (implMono_was _ _ _ _ _ _ _ ws _ (by exact (HII.out _ (bdrew' (Below.refl _ _))).1) (by exact (HII.out _ (bdrew' (Below.refl _ _))).2) hn hwl HMO.out).mono ?_; rintro e w6 ⟨rfl, b6⟩; have B5 := hide (bdrew b6); have K5 := hide (HFC.out w6 B5.out); clear b6)
              | (go_at_call 11; refine (implUnan_was _ _ _ _ _ _ _ ws _ (by exact (HII.out _ B5.out).1) (by exact (HII.out _ B5.out).2) hn hwl HUN.out).mono ?_; rintro e w7 ⟨rfl, b7⟩; have B6 := hide (bnext B5.out b7); have K6 := hide (HFC.out w7 B6.out); clear b7)
              | (go_at_call 12; refine (implSafe_was _ _ _ _ _ _ _ ws _ (by exact (HII.out _ B6.out).1) (by exact (HII.out _ B6.out).2) hn hwl HSA.out).mono ?_; rintro e w8 ⟨rfl, b8⟩; have B7 := hide (bnext B6.out b8); have K7 := hide (HFC.out w8 B7.out); clear b8))
          all_goals
            obtain ⟨c0', c1', p0', p1'⟩ := K7.out
            clear c0 c1 p0 p1
            go_upto_region 13 with fail
            go_region_held3 (fun W => W.cell? ⟨w1.heap.size, 0, none⟩ = some (.int .i64 (N : Int)) ∧ W.cell? ⟨w1.heap.size, 1, none⟩ = some (.slice av ss.length cv) ∧ W.cell? ⟨g, k * 2, none⟩ = some (.int .i64 x) ∧ W.cell? ⟨g, k * 2 + 1, none⟩ = some (.slice (some ⟨b1, 0, none⟩) ws.length k1))
              (first | go_keep | exact K9.out | exact HFC.out _ (bdrew' B7.out))
              ((go_at_call 13; refine (implDict_was _ _ _ _ _ _ _ ws dd _ (by exact (HII.out _ (bdrew' B7.out)).1) (by exact (HII.out _ (bdrew' B7.out)).2) hn hwl HDD.out).mono ?_; rintro e w9 ⟨rfl, b9⟩; have B9 := hide (bnext B7.out (bdrew b9)); have K9 := hide (HFC.out w9 B9.out); clear b9))
            all_goals
              by_cases hd : 0 ≤ dd
              · go_wp2
                go_roundw
                case rel => exact ⟨k + 1, by omega, by go_num, by rw [HCT.out, HQ.out, decide_eq_true hd, if_pos rfl]; go_num, bnext HBW.out B9.out⟩
                case measure => simp only [intOf]; omega
              · go_wp2
                go_roundw
                case rel => exact ⟨k + 1, by omega, by go_num, by rw [HCT.out, HQ.out, decide_eq_false hd, if_neg (by decide)]; go_num, bnext HBW.out B9.out⟩
                case measure => simp only [intOf]; omega
        · obtain rfl : k = tg.length := by omega
          have hfull : L.take tg.length = L := List.take_of_length_le (by have := HLEN.out; omega)
          have S6 := HS5.out.below hb
          have HS6 := hide S6
          obtain ⟨⟨_, c0, c1⟩, _⟩ := S6.pair
          have hcx : (((L.take tg.length).countP (dictQ N ss x) : Nat) : Int) = x := by rw [hfull]; exact HCNT.out
          rw [hcx]
          clear hfull hcx S6 hb
          cases hbk : blkB (N : Int) ss with
          | false =>
            have HBK := hide hbk
            clear hbk
            go_wp2_with fail
            refine (implBlk_was _ _ _ _ false _ HS6.out.2.1 hn HBK.out).mono ?_
            rintro e w8 ⟨rfl, b8⟩
            go_wp2
            go_ret
            exact ⟨rfl, bnext HB.out (HS6.out.below b8).2.2.2⟩
          | true =>
            have HBK := hide hbk
            have hlx : ((tg.length : Int) == x) = true := by rw [beq_iff_eq, HLEN.out]; exact HBLK.out hbk
            clear hbk
            go_wp2_with fail
            refine (implBlk_was _ _ _ _ true _ HS6.out.2.1 hn HBK.out).mono ?_
            rintro e w8 ⟨rfl, b8⟩
            go_wp2
            go_ret
            exact ⟨rfl, bnext HB.out (HS6.out.below b8).2.2.2⟩
end Go.Proofs.Ytbmodiobgkmngaa
