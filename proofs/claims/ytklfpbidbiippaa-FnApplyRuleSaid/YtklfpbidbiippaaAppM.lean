/- Applying a rule: safe rules answer in the space, a dictator's answer is his vote: mathematics. -/
import Derived.Test.YtklfpbidbiippaaApplyR
import Derived.Test.YtklfpbidbiippaaTabX
import Derived.Test.YtklfpbidbiippaaSafeI
namespace Go.Proofs.Ytklfpbidbiippaa
open Go.RowKit Go.Joins

theorem dictA {v x : Int} {i : Nat} (hv : 1 ≤ v ∧ v ≤ 3) (h : holdDict v (upT v (memF i)) x = true) (g : Nat) (hg : (g : Int) < pw v) : bitN x.toNat g = bitN g i := by
  unfold holdDict at h
  rw [eqT_up (pw_le3 v hv.2)] at h
  have h1 := h g hg
  unfold winF memF at h1
  have h2 : (bitN x.toNat g == bitN g i) = true := by
    rw [bit_same, h1]
    simp
  simpa using h2
theorem isD_all {v : Int} {ws : List Int} {i : Nat} (h : isD v ws i = true) : ∀ x ∈ ws, holdDict v (upT v (memF i)) x = true := fun x hx => by
  unfold isD at h
  cases hh : holdDict v (upT v (memF i)) x with
  | true => rfl
  | false =>
    have h1 : (ws.any fun x => !holdDict v (upT v (memF i)) x) = true := List.any_eq_true.2 ⟨x, hx, by simp [hh]⟩
    rw [h1] at h
    cases h
theorem firstI_inA {v : Int} {P : Nat → Bool} {r : Int} (e : firstI v P = r) (h : ¬ r < 0) : ∃ i : Nat, (i : Int) < v ∧ P i = true ∧ r = i := by
  unfold firstI at e
  split at e
  · rename_i h0; exact ⟨0, by omega, h0.2, by omega⟩
  · split at e
    · rename_i h0; exact ⟨1, by omega, h0.2, by omega⟩
    · split at e
      · rename_i h0; exact ⟨2, by omega, h0.2, by omega⟩
      · omega
theorem safeK_all {zs ws : List Int} : ∀ (k : Nat) (pre vs : List Int), safeK zs ws k pre = true → vs.length = k → (∀ x ∈ vs, x ∈ zs) → hasB zs ((applyK (pre ++ vs) ws ws.length : Nat) : Int) = true
  | 0, pre, vs, h, hl, _ => by
    rw [List.length_eq_zero_iff.1 hl, List.append_nil]
    exact h
  | k + 1, pre, [], _, hl, _ => by simp at hl
  | k + 1, pre, x :: vs, h, hl, hin => by
    have h1 : (zs.all fun x => safeK zs ws k (pre ++ [x])) = true := h
    rw [List.all_eq_true] at h1
    have h2 := safeK_all k (pre ++ [x]) vs (h1 x (hin x (by simp))) (by simpa using hl) (fun y hy => hin y (by simp [hy]))
    rwa [List.append_assoc, List.singleton_append] at h2
/-- a safe rule answers in the space -/
theorem app_safe {n v r : Int} {zs ws vs : List Int} (hr : applyR n zs v ws vs = r) (h0 : ¬ r < 0) (hs : safeR n zs v ws = true) : inB n zs r = true := by
  by_cases hok : ApplyOk n zs v ws vs
  · rw [applyR_yes hok] at hr
    obtain ⟨hv, hvo, hl⟩ := hok
    rw [safeR_yes hv] at hs
    have hvo' : VotesOk zs vs := by simpa [votesB] using hvo
    have h1 := safeK_all v.toNat [] vs hs (by omega) (fun x hx => hvo'.mem x hx)
    rw [List.nil_append, hr] at h1
    rw [inB_true (vsB_true (vr_of hv).1)]
    exact h1
  · rw [applyR_no hok] at hr
    omega
theorem groupK_bit (vs : List Int) (j : Nat) : ∀ k i, i < k → bitN (groupK vs j k) i = bitN (vs.getD i 0).toNat j
  | 0, i, h => by omega
  | k + 1, i, h => by
    have hb := bitN_le (vs.getD k 0).toNat j
    have hlt := groupK_lt vs j k
    rw [groupK]
    rcases Nat.lt_or_ge i k with h1 | h1
    · rw [← groupK_bit vs j k i h1]
      unfold bitN
      have e : (groupK vs j k + 2 ^ k * bitN (vs.getD k 0).toNat j) = groupK vs j k + 2 ^ i * (2 * (2 ^ (k - i - 1) * bitN (vs.getD k 0).toNat j)) := by
        have e2 : 2 ^ k = 2 ^ i * (2 * 2 ^ (k - i - 1)) := by
          rw [← Nat.pow_succ', ← Nat.pow_add]
          congr 1
          omega
        rw [e2, Nat.mul_assoc, Nat.mul_assoc]
      show (groupK vs j k + 2 ^ k * bitN (vs.getD k 0).toNat j) / 2 ^ i % 2 = _
      rw [e, Nat.add_mul_div_left _ _ (Nat.two_pow_pos i), Nat.add_mul_mod_self_left]
    · obtain rfl : i = k := by omega
      show (groupK vs j i + 2 ^ i * bitN (vs.getD i 0).toNat j) / 2 ^ i % 2 = _
      rw [Nat.add_mul_div_left _ _ (Nat.two_pow_pos i), Nat.div_eq_of_lt hlt, Nat.zero_add]
      have := bitN_le (vs.getD i 0).toNat j
      omega
/-- a dictator's answer is his vote -/
theorem app_dict {n v r d : Int} {zs ws vs : List Int} (hr : applyR n zs v ws vs = r) (h0 : ¬ r < 0) (hd : dictR n zs v ws = d) (hd0 : ¬ d < 0) : ∃ i : Nat, d = i ∧ i < vs.length ∧ vs.getD i 0 = r := by
  by_cases hok : ApplyOk n zs v ws vs
  · rw [applyR_yes hok] at hr
    obtain ⟨hv, hvo, hl⟩ := hok
    obtain ⟨hV, hru⟩ := vr_of hv
    have hvo' : VotesOk zs vs := by simpa [votesB] using hvo
    unfold dictR at hd
    rw [if_pos hv] at hd
    obtain ⟨i, hi, hD, rfl⟩ := firstI_inA hd hd0
    have hDS : ∀ j, j < ws.length → ∀ g : Nat, (g : Int) < pw v → bitN (ws.getD j 0).toNat g = bitN g i := fun j hj g hg => by
      rw [getD_lt hj]
      exact dictA hru.1 (isD_all hD _ (List.getElem_mem hj)) g hg
    refine ⟨i, rfl, by omega, ?_⟩
    have hiv : i < vs.length := by omega
    have hx : vs.getD i 0 ∈ zs := hvo'.1 i hiv
    obtain ⟨x, hxe⟩ : ∃ x, x = vs.getD i 0 := ⟨_, rfl⟩
    rw [← hxe] at hx ⊢
    have key : ∀ k, k ≤ ws.length → applyK vs ws k = x.toNat % 2 ^ k := by
      intro k
      induction k with
      | zero => intro _; simp [applyK, Nat.mod_one]
      | succ k ih =>
        intro hk
        have hlt := groupK_lt vs k vs.length
        have hs := hDS k (by omega) (groupK vs k vs.length) (by
          have e : pw v = ((2 ^ vs.length : Nat) : Int) := by
            have : v.toNat = vs.length := by omega
            unfold pw
            rw [this]
          rw [e]
          omega)
        rw [groupK_bit vs k vs.length i hiv, ← hxe] at hs
        rw [applyK, ih (by omega), hs, Nat.mod_pow_succ]
        rfl
    have hxr : 0 ≤ x ∧ x < ((2 ^ ws.length : Nat) : Int) := by
      obtain ⟨t, ht, rfl⟩ := List.getElem_of_mem hx
      have h1 := (hV.2.2 t ht).1
      rw [getD_lt ht] at h1
      have e : pw n = ((2 ^ ws.length : Nat) : Int) := by
        have : n.toNat = ws.length := by have := hru.2.1; omega
        unfold pw
        rw [this]
      rw [e] at h1
      omega
    rw [key ws.length (Nat.le_refl _), Nat.mod_eq_of_lt (by omega)] at hr
    omega
  · rw [applyR_no hok] at hr
    omega

theorem implApplyA_was (n v : Int) (a b l : Option Addr) (cap capb capl : Nat) (zs ws vs : List Int) (w : World) (r : Int) (hi : Ints w a zs) (hj : Ints w b ws) (hl : Ints w l vs) (hn : zs.length ≤ 1048576) (hm : ws.length ≤ 1048576) (ho : vs.length ≤ 1048576) (hr : applyR n zs v ws vs = r) :
    Calls Try.prog 41 #[.agg #[.int .i64 n, .slice a zs.length cap], .agg #[.int .i64 v, .slice b ws.length capb], .slice l vs.length capl] w fun e w' => e = .returned (.int .i64 r) ∧ Below w.heap.size w w' := by
  subst hr
  exact implApplyRule_any n v a b l cap capb capl zs ws vs w hi hj hl hn hm ho
theorem specApplyA_was (n v : Int) (a b l : Option Addr) (cap capb capl : Nat) (zs ws vs : List Int) (w : World) (r : Int) (hi : Ints w a zs) (hj : Ints w b ws) (hl : Ints w l vs) (hn : zs.length ≤ 1048576) (hm : ws.length ≤ 1048576) (ho : vs.length ≤ 1048576) (hr : applyR n zs v ws vs = r) :
    Calls Try.prog 47 #[.agg #[.int .i64 n, .slice a zs.length cap], .agg #[.int .i64 v, .slice b ws.length capb], .slice l vs.length capl] w fun e w' => e = .returned (.int .i64 r) ∧ Below w.heap.size w w' := by
  subst hr
  exact specApplyRule_any n v a b l cap capb capl zs ws vs w hi hj hl hn hm ho
theorem implDictA_was (n v : Int) (a b : Option Addr) (cap capb : Nat) (zs ws : List Int) (w : World) (r : Int) (hi : Ints w a zs) (hj : Ints w b ws) (hn : zs.length ≤ 1048576) (hm : ws.length ≤ 1048576) (hr : dictR n zs v ws = r) :
    Calls Try.prog 45 #[.agg #[.int .i64 n, .slice a zs.length cap], .agg #[.int .i64 v, .slice b ws.length capb]] w fun e w' => e = .returned (.int .i64 r) ∧ Below w.heap.size w w' := by
  subst hr
  exact implDictatorOf_any n v a b cap capb zs ws w hi hj hn hm
theorem implSafeA_was (n v : Int) (a b : Option Addr) (cap capb : Nat) (zs ws : List Int) (w : World) (r : Bool) (hi : Ints w a zs) (hj : Ints w b ws) (hn : zs.length ≤ 1048576) (hm : ws.length ≤ 1048576) (hr : safeR n zs v ws = r) :
    Calls Try.prog 48 #[.agg #[.int .i64 n, .slice a zs.length cap], .agg #[.int .i64 v, .slice b ws.length capb]] w fun e w' => e = .returned (.bool r) ∧ Below w.heap.size w w' := by
  subst hr
  exact implIsSafe_any n v a b cap capb zs ws w hi hj hn hm
theorem implInA_was (n x : Int) (a : Option Addr) (cap : Nat) (zs : List Int) (w : World) (r : Bool) (hi : Ints w a zs) (hn : zs.length ≤ 1048576) (hr : inB n zs x = r) :
    Calls Try.prog 18 #[.agg #[.int .i64 n, .slice a zs.length cap], .int .i64 x] w fun e w' => e = .returned (.bool r) ∧ Below w.heap.size w w' := by
  subst hr
  exact implInSpace_any n x a cap zs w hi hn
end Go.Proofs.Ytklfpbidbiippaa
