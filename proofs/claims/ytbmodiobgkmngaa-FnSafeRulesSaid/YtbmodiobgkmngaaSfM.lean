/- All safe rules: what is listed, by the model and by the search. -/
import Derived.Test.YtbmodiobgkmngaaSafeM
import Derived.Test.YtbmodiobgkmngaaTabB
import Derived.Test.YtbmodiobgkmngaaSrt
namespace Go.Proofs.Ytbmodiobgkmngaa
open Go.RowKit Go.Joins

/-! ### the options -/
def famP (v : Int) (x : Nat) : Bool := monoC v x && !badUnan v x
def famK (v : Int) (t : Nat) : List Int := ((List.range t).filter (famP v)).map fun (x : Nat) => (x : Int)
theorem famK_yes {v : Int} {t : Nat} (h : famP v t = true) : famK v (t + 1) = famK v t ++ [(t : Int)] := by
  unfold famK; rw [List.range_succ, List.filter_append, List.map_append]; simp [h]
theorem famK_no {v : Int} {t : Nat} (h : famP v t = false) : famK v (t + 1) = famK v t := by
  unfold famK; rw [List.range_succ, List.filter_append, List.map_append]; simp [h]
theorem famK_len (v : Int) (t : Nat) : (famK v t).length ≤ t := by
  unfold famK
  rw [List.length_map]
  exact Nat.le_trans (List.length_filter_le _ _) (by simp)
/-- the options of one voter and of two -/
def famL (v : Int) : List Int := if v = 1 then [2] else [8, 10, 12, 14]
theorem fam_one : famK 1 4 = [2] := by decide +kernel
theorem fam_two : famK 2 16 = [8, 10, 12, 14] := by decide +kernel
def cntW (v : Int) : Nat := if v = 1 then 4 else 16
theorem fam_all {v : Int} (hv : v = 1 ∨ v = 2) : famK v (cntW v) = famL v := by
  rcases hv with rfl | rfl
  · exact fam_one
  · exact fam_two
theorem fam_len {v : Int} : 1 ≤ (famL v).length ∧ (famL v).length ≤ 4 := by
  unfold famL; split <;> simp
theorem fam_range {v : Int} : ∀ x ∈ famL v, 0 ≤ x ∧ x ≤ 255 := by
  unfold famL
  intro x hx
  split at hx
  · simp at hx; omega
  · simp at hx; omega

/-! ### heads -/
def lowI (j : Nat) (x : Int) : Int := ((x.toNat % 2 ^ (j + 1) : Nat) : Int)
def hdL (zs : List Int) (j : Nat) : List Int := unq (zs.map (lowI j))
theorem hd_mem {zs : List Int} {j : Nat} {x : Int} : x ∈ hdL zs j ↔ ∃ z ∈ zs, lowI j z = x := by
  unfold hdL
  rw [(unq_facts _).2, List.mem_map]

/-! ### the search -/
section
variable (os : List Int) (P : List Int → Bool)
/-- what the search lists below a head that is good, k issues from the end -/
def gen : Nat → List Int → List (List Int)
  | 0, ws => [ws]
  | k + 1, ws => os.flatMap fun o => if P (ws ++ [o]) then gen k (ws ++ [o]) else []
/-- what the model lists -/
def genS (S : List Int → Bool) : Nat → List Int → List (List Int)
  | 0, ws => if S ws then [ws] else []
  | k + 1, ws => os.flatMap fun o => genS S k (ws ++ [o])
theorem genS_none (S : List Int → Bool) : ∀ k ws, (∀ us : List Int, us.length = k → (∀ u ∈ us, u ∈ os) → S (ws ++ us) = false) → genS os S k ws = []
  | 0, ws, h => by
    have := h [] rfl (fun u hu => by cases hu)
    rw [List.append_nil] at this
    rw [genS, this]; simp
  | k + 1, ws, h => by
    rw [genS, List.flatMap_eq_nil_iff]
    intro o ho
    refine genS_none S k (ws ++ [o]) fun us hl hm => ?_
    have := h (o :: us) (by simp [hl]) (fun u hu => by
      rcases List.mem_cons.1 hu with rfl | hu
      · exact ho
      · exact hm u hu)
    rwa [List.append_assoc]
theorem gen_same (S : List Int → Bool) (n : Nat) (hfull : ∀ ws : List Int, ws.length = n → P ws = S ws)
    (hpre : ∀ ws us : List Int, 0 < ws.length → (ws ++ us).length = n → S (ws ++ us) = true → P ws = true) :
    ∀ k ws, ws.length + (k + 1) = n → genS os S (k + 1) ws = gen os P (k + 1) ws
  | 0, ws, hl => by
    rw [genS, gen]
    congr 1
    funext o
    rw [genS, gen, hfull (ws ++ [o]) (by simp; omega)]
  | k + 1, ws, hl => by
    rw [genS, gen]
    congr 1
    funext o
    cases hP : P (ws ++ [o]) with
    | true =>
      rw [if_pos rfl]
      exact gen_same S n hfull hpre k (ws ++ [o]) (by simp; omega)
    | false =>
      rw [if_neg (by decide)]
      refine genS_none os S _ _ fun us hu _ => ?_
      cases hS : S (ws ++ [o] ++ us) with
      | false => rfl
      | true =>
        have := hpre (ws ++ [o]) us (by simp) (by simp [hu]; omega) hS
        rw [hP] at this; cases this

/-- the head up to an issue, by places among the options -/
def wsF (p : Nat → Nat) (j : Nat) : List Int := (List.range j).map fun i => os.getD (p i) 0
theorem wsF_succ (p : Nat → Nat) (j : Nat) : wsF os p (j + 1) = wsF os p j ++ [os.getD (p j) 0] := by
  unfold wsF; rw [List.range_succ, List.map_append]; rfl
theorem wsF_len (p : Nat → Nat) (j : Nat) : (wsF os p j).length = j := by unfold wsF; simp
theorem wsF_congr {p q : Nat → Nat} {j : Nat} (h : ∀ i, i < j → p i = q i) : wsF os p j = wsF os q j := by
  unfold wsF
  refine List.map_congr_left fun i hi => ?_
  rw [h i (List.mem_range.1 hi)]
/-- what is listed for a head with one more answer -/
def stepG (n : Nat) (ws : List Int) : List (List Int) := if P ws then gen os P (n - ws.length) ws else []
/-- what is still to be listed behind a place -/
def upF (n : Nat) (p : Nat → Nat) : Nat → List (List Int)
  | 0 => (os.drop (p 0 + 1)).flatMap fun o => stepG os P n (wsF os p 0 ++ [o])
  | j + 1 => ((os.drop (p (j + 1) + 1)).flatMap fun o => stepG os P n (wsF os p (j + 1) ++ [o])) ++ upF n p j
theorem upF_eq (n : Nat) (p : Nat → Nat) (j : Nat) : upF os P n p j = ((os.drop (p j + 1)).flatMap fun o => stepG os P n (wsF os p j ++ [o])) ++ (if j = 0 then [] else upF os P n p (j - 1)) := by
  cases j with
  | zero => simp [upF]
  | succ j => simp [upF]
theorem upF_congr (n : Nat) {p q : Nat → Nat} : ∀ {j : Nat}, (∀ i, i ≤ j → p i = q i) → upF os P n p j = upF os P n q j
  | 0, h => by rw [upF, upF, h 0 (Nat.le_refl _), wsF_congr os (fun i hi => by omega : ∀ i, i < 0 → p i = q i)]
  | j + 1, h => by
    rw [upF, upF, h (j + 1) (Nat.le_refl _), wsF_congr os (fun i hi => h i (by omega) : ∀ i, i < j + 1 → p i = q i), upF_congr n (fun i hi => h i (by omega))]
/-- at an option: what it gives and what comes behind it -/
def tryF (n : Nat) (p : Nat → Nat) (j : Nat) : List (List Int) := stepG os P n (wsF os p (j + 1)) ++ upF os P n p j
def putP (p : Nat → Nat) (j x : Nat) (i : Nat) : Nat := if i = j then x else p i
theorem putP_at (p : Nat → Nat) (j x : Nat) : putP p j x j = x := if_pos rfl
theorem putP_ne (p : Nat → Nat) {j i : Nat} (x : Nat) (h : i ≠ j) : putP p j x i = p i := if_neg h
theorem drop_flat {os : List Int} {k : Nat} (h : k < os.length) (f : Int → List (List Int)) : (os.drop k).flatMap f = f (os.getD k 0) ++ (os.drop (k + 1)).flatMap f := by
  rw [getD_lt h, List.drop_eq_getElem_cons h, List.flatMap_cons]
theorem all_flat {os : List Int} (h : 0 < os.length) (f : Int → List (List Int)) : os.flatMap f = f (os.getD 0 0) ++ (os.drop 1).flatMap f := by
  have := drop_flat h f
  rwa [List.drop_zero] at this
/-- going on to the next option -/
theorem up_next (n : Nat) (p : Nat → Nat) (j : Nat) (h : p j + 1 < os.length) : upF os P n p j = tryF os P n (putP p j (p j + 1)) j := by
  have e1 : wsF os (putP p j (p j + 1)) j = wsF os p j := wsF_congr os fun i hi => putP_ne p (p j + 1) (by omega)
  have e2 : (if j = 0 then [] else upF os P n (putP p j (p j + 1)) (j - 1)) = if j = 0 then [] else upF os P n p (j - 1) := by
    by_cases hj : j = 0
    · rw [if_pos hj, if_pos hj]
    · rw [if_neg hj, if_neg hj, upF_congr os P n (fun i hi => putP_ne p (p j + 1) (by omega) : ∀ i, i ≤ j - 1 → putP p j (p j + 1) i = p i)]
  have e3 : tryF os P n (putP p j (p j + 1)) j = stepG os P n (wsF os p j ++ [os.getD (p j + 1) 0]) ++ (((os.drop (p j + 1 + 1)).flatMap fun o => stepG os P n (wsF os p j ++ [o])) ++ (if j = 0 then [] else upF os P n p (j - 1))) := by
    unfold tryF
    rw [wsF_succ, e1, putP_at]
    rw [upF_eq os P n (putP p j (p j + 1)) j, e1, putP_at, e2]
  rw [e3, upF_eq, drop_flat h, List.append_assoc]
/-- no option left: back -/
theorem up_done (n : Nat) (p : Nat → Nat) (j : Nat) (h : os.length ≤ p j + 1) : upF os P n p j = if j = 0 then [] else upF os P n p (j - 1) := by
  rw [upF_eq, List.drop_eq_nil_of_le h]; rfl
/-- a head that is not good -/
theorem try_no (n : Nat) (p : Nat → Nat) (j : Nat) (h : P (wsF os p (j + 1)) = false) : tryF os P n p j = upF os P n p j := by
  unfold tryF stepG; rw [h]; rfl
/-- a head of all issues that is good -/
theorem try_full (n : Nat) (p : Nat → Nat) (j : Nat) (hj : j + 1 = n) (h : P (wsF os p (j + 1)) = true) : tryF os P n p j = wsF os p n :: upF os P n p j := by
  unfold tryF stepG; rw [h, if_pos rfl, wsF_len, hj, Nat.sub_self]; rfl
/-- a good head: to the next issue -/
theorem try_deep (n : Nat) (p : Nat → Nat) (j : Nat) (hj : j + 1 < n) (ho : 0 < os.length) (h : P (wsF os p (j + 1)) = true) : tryF os P n p j = tryF os P n (putP p (j + 1) 0) (j + 1) := by
  have e1 : wsF os (putP p (j + 1) 0) (j + 1) = wsF os p (j + 1) := wsF_congr os fun i hi => putP_ne p 0 (by omega)
  have e2 : upF os P n (putP p (j + 1) 0) j = upF os P n p j := upF_congr os P n fun i hi => putP_ne p 0 (by omega)
  obtain ⟨k, hk⟩ : ∃ k, n - (j + 1) = k + 1 := ⟨n - (j + 1) - 1, by omega⟩
  have hlen : n - ((j + 1) + 1) = k := by omega
  have e3 : stepG os P n (wsF os p (j + 1)) = stepG os P n (wsF os p (j + 1) ++ [os.getD 0 0]) ++ (os.drop 1).flatMap fun o => stepG os P n (wsF os p (j + 1) ++ [o]) := by
    have hg : stepG os P n (wsF os p (j + 1)) = os.flatMap fun o => stepG os P n (wsF os p (j + 1) ++ [o]) := by
      unfold stepG
      rw [h, if_pos rfl, wsF_len, hk, gen]
      congr 1
      funext o
      rw [List.length_append, wsF_len, List.length_singleton, hlen]
    rw [hg]
    exact all_flat ho _
  have e4 : tryF os P n (putP p (j + 1) 0) (j + 1) = stepG os P n (wsF os p (j + 1) ++ [os.getD 0 0]) ++ (((os.drop 1).flatMap fun o => stepG os P n (wsF os p (j + 1) ++ [o])) ++ upF os P n p j) := by
    unfold tryF
    rw [wsF_succ os (putP p (j + 1) 0) (j + 1), e1, putP_at, upF, e1, putP_at, e2]
  rw [e4]
  unfold tryF
  rw [e3, List.append_assoc]
theorem try_first (n : Nat) (hn : 0 < n) (ho : 0 < os.length) : tryF os P n (fun _ => 0) 0 = gen os P n [] := by
  obtain ⟨k, rfl⟩ : ∃ k, n = k + 1 := ⟨n - 1, by omega⟩
  have e0 : wsF os (fun _ => 0) 0 = [] := rfl
  have e1 : gen os P (k + 1) [] = os.flatMap fun o => stepG os P (k + 1) ([] ++ [o]) := by
    rw [gen]
    congr 1
  rw [e1, all_flat ho]
  unfold tryF
  rw [wsF_succ, e0, upF, e0]
end

/-! ### how far the search is -/
/-- the digits of a place, level by level -/
def rkF (p : Nat → Nat) : Nat → Nat
  | 0 => 0
  | j + 1 => rkF p j + (p j + 1) * 6 ^ (3 - j)
theorem rkF_congr {p q : Nat → Nat} : ∀ {j : Nat}, (∀ i, i < j → p i = q i) → rkF p j = rkF q j
  | 0, _ => rfl
  | j + 1, h => by rw [rkF, rkF, h j (by omega), rkF_congr fun i hi => h i (by omega)]
def lvl (j : Nat) : Nat := 6 ^ (3 - j)
theorem lvl_pos (j : Nat) : 0 < lvl j := Nat.pow_pos (by decide)
theorem lvl_next {j : Nat} (h : j < 3) : lvl j = 6 * lvl (j + 1) := by
  unfold lvl
  obtain ⟨k, hk⟩ : ∃ k, 3 - j = k + 1 := ⟨3 - j - 1, by omega⟩
  rw [hk, show 3 - (j + 1) = k from by omega, Nat.pow_succ]; omega
theorem rkF_succ (p : Nat → Nat) (j : Nat) : rkF p (j + 1) = rkF p j + (p j + 1) * lvl j := rfl
theorem rkF_bound {p : Nat → Nat} : ∀ {j : Nat}, j ≤ 4 → (∀ i, i < j → p i ≤ 4) → rkF p j + (if j = 4 then 1 else 6 * lvl j) ≤ 1296
  | 0, _, _ => by show 0 + (if (0 : Nat) = 4 then 1 else 6 * lvl 0) ≤ 1296; decide
  | j + 1, hj, h => by
    have ih := rkF_bound (p := p) (j := j) (by omega) (fun i hi => h i (by omega))
    rw [if_neg (by omega)] at ih
    rw [rkF_succ]
    have hp := h j (by omega)
    have h5 : (p j + 1) * lvl j ≤ 5 * lvl j := Nat.mul_le_mul_right _ (by omega)
    have hl := lvl_pos j
    by_cases h4 : j + 1 = 4
    · rw [if_pos h4]; omega
    · rw [if_neg h4, ← lvl_next (by omega)]; omega
/-- what is left at an option, and behind one -/
def leftT (p : Nat → Nat) (j : Nat) : Nat := 3000 - 2 * rkF p (j + 1)
def leftB (p : Nat → Nat) (j : Nat) : Nat := 3000 - (2 * (rkF p (j + 1) + lvl j - 1) + 1)
theorem rk_cap {p : Nat → Nat} {j : Nat} (hj : j < 4) (h : ∀ i, i ≤ j → p i ≤ 4) : rkF p (j + 1) + lvl j ≤ 1296 := by
  have ih := rkF_bound (p := p) (j := j) (by omega) (fun i hi => h i (by omega))
  rw [if_neg (by omega)] at ih
  rw [rkF_succ]
  have h5 : (p j + 1) * lvl j ≤ 5 * lvl j := Nat.mul_le_mul_right _ (by have := h j (Nat.le_refl _); omega)
  omega
theorem left_back {p : Nat → Nat} {j : Nat} (hj : j < 4) (h : ∀ i, i ≤ j → p i ≤ 4) : leftB p j < leftT p j := by
  have := rk_cap hj h
  have := lvl_pos j
  unfold leftB leftT
  omega
theorem left_deep {p : Nat → Nat} {j : Nat} (hj : j < 3) (h : ∀ i, i ≤ j → p i ≤ 4) : leftT (putP p (j + 1) 0) (j + 1) < leftT p j := by
  have h1 := rk_cap (p := p) (by omega : j < 4) h
  have e : rkF (putP p (j + 1) 0) (j + 1) = rkF p (j + 1) := rkF_congr fun i hi => putP_ne p 0 (by omega)
  unfold leftT
  rw [rkF_succ _ (j + 1), e, putP_at]
  have h2 := lvl_pos (j + 1)
  have h3 := lvl_next hj
  omega
theorem left_next {p : Nat → Nat} {j : Nat} (hj : j < 4) (h : ∀ i, i ≤ j → p i ≤ 3) : leftT (putP p j (p j + 1)) j < leftB p j := by
  have h1 := rk_cap (p := putP p j (p j + 1)) hj (fun i hi => by
    by_cases e : i = j
    · subst e; rw [putP_at]; have := h i hi; omega
    · rw [putP_ne p _ e]; have := h i hi; omega)
  have e : rkF (putP p j (p j + 1)) j = rkF p j := rkF_congr fun i hi => putP_ne p _ (by omega)
  have hs : (p j + 1 + 1) * lvl j = (p j + 1) * lvl j + lvl j := Nat.succ_mul _ _
  have h2 := lvl_pos j
  have h4 : rkF (putP p j (p j + 1)) (j + 1) = rkF p (j + 1) + lvl j := by
    rw [rkF_succ, putP_at, e, hs, rkF_succ, Nat.add_assoc]
  rw [h4] at h1
  unfold leftT leftB
  rw [h4]
  omega
theorem left_pop {p : Nat → Nat} {j : Nat} (hj : j + 1 < 4) (h : ∀ i, i ≤ j + 1 → p i ≤ 3) : leftB p j < leftB p (j + 1) := by
  have h1 := rk_cap (p := p) (by omega : j < 4) (fun i hi => by have := h i (by omega); omega)
  have h3 := lvl_next (j := j) (by omega)
  have h2 := lvl_pos (j + 1)
  have hp := h (j + 1) (Nat.le_refl _)
  have h5 : (p (j + 1) + 1) * lvl (j + 1) ≤ 4 * lvl (j + 1) := Nat.mul_le_mul_right _ (by omega)
  unfold leftB
  rw [rkF_succ p (j + 1)]
  omega
end Go.Proofs.Ytbmodiobgkmngaa
