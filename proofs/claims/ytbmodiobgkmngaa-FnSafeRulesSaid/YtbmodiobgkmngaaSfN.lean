/- A safe rule is safe for the first issues alone. -/
import Derived.Test.YtbmodiobgkmngaaSfM
import Derived.Test.YtbmodiobgkmngaaVlt
namespace Go.Proofs.Ytbmodiobgkmngaa
open Go.RowKit Go.Joins

theorem applyK_mod (vs ws : List Int) (k : Nat) : ∀ n, k ≤ n → applyK vs ws n % 2 ^ k = applyK vs ws k
  | 0, h => by
    obtain rfl : k = 0 := by omega
    rfl
  | n + 1, h => by
    rcases Nat.lt_or_ge n k with h1 | h1
    · obtain rfl : k = n + 1 := by omega
      exact Nat.mod_eq_of_lt (applyK_lt _ _ _)
    · rw [applyK]
      have e : 2 ^ n = 2 ^ k * 2 ^ (n - k) := by rw [← Nat.pow_add]; congr 1; omega
      rw [e, Nat.mul_assoc, Nat.add_mul_mod_self_left]
      exact applyK_mod vs ws k n h1
theorem getD_left {ws us : List Int} {i : Nat} (h : i < ws.length) : (ws ++ us).getD i 0 = ws.getD i 0 := by
  rw [List.getD_eq_getElem?_getD, List.getD_eq_getElem?_getD, List.getElem?_append_left h]
theorem applyK_pre (vs ws us : List Int) : ∀ k, k ≤ ws.length → applyK vs (ws ++ us) k = applyK vs ws k
  | 0, _ => rfl
  | k + 1, h => by rw [applyK, applyK, applyK_pre vs ws us k (by omega), getD_left (by omega)]
theorem bitN_low {x i j : Nat} (h : i ≤ j) : bitN (x % 2 ^ (j + 1)) i = bitN x i := by
  rw [bitN_eq, bitN_eq, Nat.testBit_mod_two_pow]
  simp [show i < j + 1 by omega]
theorem low_nat (j : Nat) (x : Int) : (lowI j x).toNat = x.toNat % 2 ^ (j + 1) := by unfold lowI; rw [Int.toNat_natCast]
theorem getD_low (j : Nat) (vs : List Int) (k : Nat) : (vs.map (lowI j)).getD k 0 = lowI j (vs.getD k 0) := by
  have h0 : lowI j 0 = 0 := by unfold lowI; simp
  rw [List.getD_eq_getElem?_getD, List.getD_eq_getElem?_getD, List.getElem?_map]
  cases vs[k]? with
  | none => exact h0.symm
  | some x => rfl
theorem groupK_low (vs : List Int) {i j : Nat} (h : i ≤ j) : ∀ k, groupK (vs.map (lowI j)) i k = groupK vs i k
  | 0 => rfl
  | k + 1 => by rw [groupK, groupK, groupK_low vs h k, getD_low, low_nat, bitN_low h]
theorem applyK_low (vs ws : List Int) {j : Nat} : ∀ k, k ≤ j + 1 → applyK (vs.map (lowI j)) ws k = applyK vs ws k
  | 0, _ => rfl
  | k + 1, h => by rw [applyK, applyK, applyK_low vs ws k (by omega), groupK_low vs (by omega), List.length_map]
theorem hasS_iff {zs : List Int} {x : Int} : hasB zs x = true ↔ x ∈ zs := by unfold hasB; exact decide_eq_true_iff
theorem safeK_from {zs ws : List Int} : ∀ (k : Nat) (pre : List Int), (∀ vs : List Int, vs.length = k → (∀ x ∈ vs, x ∈ zs) → hasB zs ((applyK (pre ++ vs) ws ws.length : Nat) : Int) = true) → safeK zs ws k pre = true
  | 0, pre, h => by
    have := h [] rfl (fun x hx => by cases hx)
    rwa [List.append_nil] at this
  | k + 1, pre, h => by
    show (zs.all fun x => safeK zs ws k (pre ++ [x])) = true
    rw [List.all_eq_true]
    intro x hx
    refine safeK_from k (pre ++ [x]) fun vs hl hin => ?_
    rw [List.append_assoc, List.singleton_append]
    exact h (x :: vs) (by simp [hl]) (fun y hy => by
      rcases List.mem_cons.1 hy with e | e
      · rw [e]; exact hx
      · exact hin y e)
theorem safeK_to {zs ws : List Int} : ∀ (k : Nat) (pre : List Int), safeK zs ws k pre = true → ∀ vs : List Int, vs.length = k → (∀ x ∈ vs, x ∈ zs) → hasB zs ((applyK (pre ++ vs) ws ws.length : Nat) : Int) = true
  | 0, pre, h, vs, hl, _ => by
    obtain rfl : vs = [] := List.eq_nil_of_length_eq_zero hl
    rw [List.append_nil]
    exact h
  | k + 1, pre, h, vs, hl, hin => by
    cases vs with
    | nil => cases hl
    | cons x vs =>
      have h' : (zs.all fun x => safeK zs ws k (pre ++ [x])) = true := h
      rw [List.all_eq_true] at h'
      have := safeK_to k (pre ++ [x]) (h' x (hin x (by simp))) vs (by simpa using hl) (fun y hy => hin y (by simp [hy]))
      rwa [List.append_assoc, List.singleton_append] at this
theorem lift_votes {zs : List Int} {j : Nat} : ∀ vs : List Int, (∀ x ∈ vs, x ∈ hdL zs j) → ∃ us : List Int, us.map (lowI j) = vs ∧ ∀ x ∈ us, x ∈ zs
  | [], _ => ⟨[], rfl, fun x hx => by cases hx⟩
  | x :: vs, h => by
    obtain ⟨z, hz, e⟩ := hd_mem.1 (h x (by simp))
    obtain ⟨us, e2, hm⟩ := lift_votes vs (fun y hy => h y (by simp [hy]))
    refine ⟨z :: us, by rw [List.map_cons, e, e2], fun y hy => ?_⟩
    rcases List.mem_cons.1 hy with rfl | hy
    · exact hz
    · exact hm y hy
theorem valid_up {n : Int} {zs : List Int} (h : Valid n zs) : zs.Pairwise (· < ·) := by
  rw [List.pairwise_iff_getElem]
  intro i j hi hj hij
  have key : ∀ k, i < k → k < zs.length → zs.getD i 0 < zs.getD k 0 := by
    intro k
    induction k with
    | zero => intro h0; omega
    | succ k ih =>
      intro h1 h2
      have h3 := (h.2.2 (k + 1) h2).2 (by omega)
      simp only [Nat.add_sub_cancel] at h3
      rcases Nat.lt_or_ge i k with h4 | h4
      · have := ih h4 (by omega); omega
      · obtain rfl : i = k := by omega
        exact h3
  have := key j hij hj
  rwa [getD_lt hi, getD_lt hj] at this
/-- whether a head is good: safe among the heads of judgments -/
def goodP (zs : List Int) (v : Int) (ws : List Int) : Bool := safeK (hdL zs (ws.length - 1)) ws v.toNat []
theorem good_pre {zs : List Int} {v : Int} {ws us : List Int} (hw : 0 < ws.length) (h : safeK zs (ws ++ us) v.toNat [] = true) : goodP zs v ws = true := by
  obtain ⟨j, hj⟩ : ∃ j, ws.length = j + 1 := ⟨ws.length - 1, by omega⟩
  unfold goodP
  rw [hj, Nat.add_sub_cancel]
  refine safeK_from _ _ fun vs hl hin => ?_
  obtain ⟨us', rfl, hm⟩ := lift_votes vs hin
  rw [List.length_map] at hl
  have := safeK_to _ _ h us' hl hm
  rw [hasS_iff, List.nil_append] at this
  rw [hasS_iff, List.nil_append, hd_mem]
  refine ⟨_, this, ?_⟩
  rw [hj, applyK_low _ _ _ (Nat.le_refl _)]
  unfold lowI
  rw [Int.toNat_natCast, applyK_mod _ _ (j + 1) _ (by rw [List.length_append]; omega), applyK_pre _ _ _ _ (by omega)]
theorem hd_full {n : Nat} {zs : List Int} (hV : Valid (n : Int) zs) (hn : 0 < n) : hdL zs (n - 1) = zs := by
  have hid : ∀ z ∈ zs, lowI (n - 1) z = z := fun z hz => by
    have h1 := valid_lt hV hz
    unfold lowI
    rw [Nat.sub_add_cancel hn, Nat.mod_eq_of_lt h1.2]
    exact Int.toNat_of_nonneg h1.1
  unfold hdL
  rw [List.map_congr_left (g := id) hid, List.map_id]
  exact unq_eq (valid_up hV) fun x => Iff.rfl
theorem good_full {n : Nat} {zs : List Int} {v : Int} (hV : Valid (n : Int) zs) (hn : 0 < n) {ws : List Int} (hl : ws.length = n) : goodP zs v ws = safeK zs ws v.toNat [] := by
  unfold goodP
  rw [hl, hd_full hV hn]
/-- all safe rules, as the search lists them -/
def rulesL (n : Int) (zs : List Int) (v : Int) : List (List Int) := gen (famL v) (goodP zs v) n.toNat []
theorem rules_same {n : Nat} {zs : List Int} {v : Int} (hV : Valid (n : Int) zs) (hn : 0 < n) : genS (famL v) (fun ws => safeK zs ws v.toNat []) n [] = rulesL n zs v := by
  obtain ⟨k, rfl⟩ : ∃ k, n = k + 1 := ⟨n - 1, by omega⟩
  unfold rulesL
  rw [Int.toNat_natCast]
  exact gen_same (famL v) (goodP zs v) _ (k + 1) (fun ws hl => good_full hV hn hl) (fun ws us hw _ h => good_pre hw h) k [] (by simp)
end Go.Proofs.Ytbmodiobgkmngaa
