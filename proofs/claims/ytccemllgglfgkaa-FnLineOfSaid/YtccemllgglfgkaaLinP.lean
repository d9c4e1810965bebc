/- What the promise of LineOf needs: a line is all votes once, and the middle of an odd line is the majority. -/
import Derived.Test.YtccemllgglfgkaaLinO
namespace Go.Proofs.Ytccemllgglfgkaa
open Go.RowKit Go.Joins

theorem firstL_is (g : Nat → List Int) : ∀ n, firstL g n = [] ∨ ∃ x, x < n ∧ firstL g n = g x
  | 0 => .inl rfl
  | n + 1 => by
    rw [firstL]
    split
    · exact .inr ⟨n, by omega, rfl⟩
    · rename_i h
      rcases firstL_is g n with h1 | ⟨x, hx, e⟩
      · exact absurd h1 h
      · exact .inr ⟨x, by omega, e⟩
def Line (m : Nat) (vs r : List Int) : Prop := r.length = vs.length ∧ r.Nodup ∧ (∀ h ∈ r, 0 ≤ h ∧ h < (vs.length : Int)) ∧ linB m (inRow vs r) = true
theorem up_full (m : Nat) (vs : List Int) : ∀ (f : Nat) (hs : List Int), hs.length + f = vs.length → hs.Nodup → (∀ h ∈ hs, 0 ≤ h ∧ h < (vs.length : Int)) → upL m vs f hs = [] ∨ Line m vs (upL m vs f hs)
  | 0, hs, hl, hd, hh => by
    rw [upL]
    split
    · rename_i h; exact .inr ⟨by omega, hd, hh, h⟩
    · exact .inl rfl
  | f + 1, hs, hl, hd, hh => by
    rw [upL]
    rcases firstL_is (fun x => if (x : Int) ∈ hs then [] else upL m vs f (hs ++ [(x : Int)])) vs.length with h | ⟨x, hx, e⟩
    · exact .inl h
    · rw [e]
      by_cases hin : (x : Int) ∈ hs
      · simp only [if_pos hin]; exact .inl trivial
      · simp only [if_neg hin]
        refine up_full m vs f _ (by rw [List.length_append, List.length_singleton]; omega) ?_ ?_
        · rw [List.nodup_append]
          refine ⟨hd, by simp, fun a ha b hb => ?_⟩
          rw [List.mem_singleton.1 hb]
          exact fun e => hin (e ▸ ha)
        · intro h hh'
          rcases List.mem_append.1 hh' with h1 | h1
          · exact hh h h1
          · rw [List.mem_singleton.1 h1]; omega
/-- all lists of m numbers up to n -/
def allM (n : Nat) : Nat → List (List Nat)
  | 0 => [[]]
  | m + 1 => (List.range (n + 1)).flatMap fun a => (allM n m).map fun l => a :: l
theorem mem_allM {n : Nat} : ∀ {m : Nat} {l : List Nat}, l.length = m → (∀ x ∈ l, x ≤ n) → l ∈ allM n m
  | 0, l, hl, _ => by simp [allM, List.length_eq_zero_iff.1 hl]
  | m + 1, [], hl, _ => by simp at hl
  | m + 1, a :: l, hl, h => by
    unfold allM
    rw [List.mem_flatMap]
    refine ⟨a, List.mem_range.2 (by have := h a (by simp); omega), List.mem_map.2 ⟨l, mem_allM (by simpa using hl) (fun x hx => h x (by simp [hx])), rfl⟩⟩
def chgB (b : List Nat) : Nat → Nat
  | 0 => 0
  | k + 1 => chgB b k + if b.getD k 0 = b.getD (k + 1) 0 then 0 else 1
def sumK (b : List Nat) : Nat → Nat
  | 0 => 0
  | k + 1 => sumK b k + b.getD k 0
def rowB (b l : List Nat) : List Nat := l.map fun i => b.getD i 0
set_option maxRecDepth 100000 in
theorem perm_chk : ((List.range 5).all fun k => ((allM k (k + 1)).filter fun l => decide l.Nodup).all fun l => (List.range (k + 1)).all fun i => decide (i ∈ l)) = true := by decide +kernel
set_option maxRecDepth 100000 in
theorem mid_chk : ([0, 2, 4].all fun k => ((allM k (k + 1)).filter fun l => decide l.Nodup).all fun l => (allM 1 (k + 1)).all fun b => !decide (chgB (rowB b l) k ≤ 1) || (decide ((rowB b l).getD ((k + 1) / 2) 0 = 1) == decide (k + 1 < 2 * sumK b (k + 1)))) = true := by decide +kernel
def bitsL (xs : List Int) (j : Nat) : List Nat := xs.map fun x => bitN x.toNat j
theorem bits_at (xs : List Int) (j k : Nat) : (bitsL xs j).getD k 0 = bitN (xs.getD k 0).toNat j := by
  unfold bitsL
  rw [List.getD_eq_getElem?_getD, List.getD_eq_getElem?_getD, List.getElem?_map]
  cases h : xs[k]? with
  | none => simp [bitN]
  | some x => rfl
theorem chg_bits (xs : List Int) (j : Nat) : ∀ k, chgK xs j k = chgB (bitsL xs j) k
  | 0 => rfl
  | k + 1 => by rw [chgK, chgB, chg_bits xs j k, bits_at, bits_at]
theorem sup_bits (vs : List Int) (j : Nat) : ∀ k, supK vs j k = sumK (bitsL vs j) k
  | 0 => rfl
  | k + 1 => by rw [supK, sumK, sup_bits vs j k, bits_at]
theorem row_bits (vs r : List Int) (j : Nat) : bitsL (inRow vs r) j = rowB (bitsL vs j) (r.map Int.toNat) := by
  unfold rowB
  rw [List.map_map]
  show (inRow vs r).map _ = _
  unfold inRow
  rw [List.map_map]
  refine List.map_congr_left fun h _ => ?_
  exact (bits_at vs j h.toNat).symm
theorem want_mod {vs : List Int} {X : Nat} : ∀ k, (∀ j, j < k → (bitN X j = 1 ↔ vs.length < 2 * supN vs j)) → wantB vs k = X % 2 ^ k
  | 0, _ => by simp [wantB, Nat.mod_one]
  | k + 1, h => by
    have ih := want_mod k (fun j hj => h j (by omega))
    have hk := h k (by omega)
    have hb := bitN_le X k
    rw [Nat.pow_succ, Nat.mod_mul, ← ih]
    by_cases hc : vs.length < 2 * supN vs k
    · have h1 := hk.2 hc
      unfold bitN at h1
      rw [wantB_yes hc, h1, Nat.mul_one]
    · have h0 : bitN X k = 0 := by
        have : ¬ bitN X k = 1 := fun e => hc (hk.1 e)
        omega
      unfold bitN at h0
      rw [wantB_no hc, h0, Nat.mul_zero, Nat.add_zero]
/-- What the promise of LineOf needs. -/
theorem line_facts {n : Int} {zs vs : List Int} (hv : vvB n zs vs = true) (hL : 0 < (liV n zs vs).length) :
    (liV n zs vs).length = vs.length ∧ (∀ i : Nat, i < vs.length → (i : Int) ∈ liV n zs vs) ∧ (vs.length % 2 = 1 → ∃ q : Nat, q < vs.length ∧ (liV n zs vs).getD (vs.length / 2) 0 = (q : Int) ∧ vs.getD q 0 = majV n zs vs) := by
  obtain ⟨hV, hO⟩ := vv_of hv
  have hm : n.toNat ≤ 4 := by have := hV.1; omega
  have h5 := hO.2
  have hline : Line n.toNat vs (liV n zs vs) := by
    rcases up_full n.toNat vs vs.length [] (by simp) (by simp) (fun h hh => by simp at hh) with h | h
    · rw [liV_yes hv, h] at hL; simp at hL
    · rw [liV_yes hv]; exact h
  obtain ⟨r, hr⟩ : ∃ r, liV n zs vs = r := ⟨_, rfl⟩
  rw [hr] at hline ⊢
  obtain ⟨hl, hd, hh, hlin⟩ := hline
  have hrt : ∀ h ∈ r, ((h.toNat : Nat) : Int) = h := fun h hm => by have := hh h hm; omega
  have hnd : (r.map Int.toNat).Nodup := by
    rw [List.Nodup, List.pairwise_map]
    refine List.Pairwise.imp_of_mem ?_ hd
    intro a b ha hb hne e
    have := hrt a ha; have := hrt b hb
    omega
  have hmem : r.map Int.toNat ∈ allM (vs.length - 1) (vs.length - 1 + 1) := mem_allM (by rw [List.length_map]; omega) (fun x hx => by
    obtain ⟨h, hm', rfl⟩ := List.mem_map.1 hx
    have := hh h hm'
    omega)
  have hfil : r.map Int.toNat ∈ (allM (vs.length - 1) (vs.length - 1 + 1)).filter fun l => decide l.Nodup := List.mem_filter.2 ⟨hmem, decide_eq_true hnd⟩
  refine ⟨hl, fun i hi => ?_, fun ho => ?_⟩
  · have h1 := List.all_eq_true.1 (List.all_eq_true.1 perm_chk (vs.length - 1) (List.mem_range.2 (by omega))) _ hfil
    have h2 := of_decide_eq_true (List.all_eq_true.1 h1 i (List.mem_range.2 (by omega)))
    obtain ⟨h, hm', e⟩ := List.mem_map.1 h2
    have := hrt h hm'
    rw [← e, this]
    exact hm'
  · have hmid : vs.length / 2 < r.length := by omega
    have hq := hh _ (List.getElem_mem hmid)
    obtain ⟨q, hqe⟩ := Int.eq_ofNat_of_zero_le hq.1
    have hqn : q < vs.length := by omega
    refine ⟨q, hqn, by rw [getD_lt hmid]; exact hqe, ?_⟩
    obtain ⟨z, hz, hz1, hz2⟩ := zs_nat hV (hO.mem _ (mem_of_at (zs := vs) (k := q) hqn))
    have hk : vs.length - 1 ∈ [0, 2, 4] := by
      rcases (show vs.length = 1 ∨ vs.length = 3 ∨ vs.length = 5 by omega) with e | e | e <;> simp [e]
    have h1 := List.all_eq_true.1 (List.all_eq_true.1 mid_chk _ hk) _ hfil
    have key : ∀ j, j < n.toNat → (bitN z j = 1 ↔ vs.length < 2 * supN vs j) := fun j hj => by
      have hb : bitsL vs j ∈ allM 1 (vs.length - 1 + 1) := mem_allM (by unfold bitsL; rw [List.length_map]; omega) (fun x hx => by
        obtain ⟨v, _, rfl⟩ := List.mem_map.1 hx
        exact bitN_le _ _)
      have h2 := List.all_eq_true.1 h1 _ hb
      have hc := lin_of hlin j hj
      unfold chg at hc
      rw [inRow_len, hl, chg_bits, row_bits] at hc
      rw [Bool.or_eq_true, Bool.not_eq_true', decide_eq_false_iff_not] at h2
      rcases h2 with h2 | h2
      · exact absurd hc h2
      · rw [beq_iff_eq, decide_eq_decide, show vs.length - 1 + 1 = vs.length by omega, ← sup_bits, ← row_bits, bits_at] at h2
        have e : (inRow vs r).getD (vs.length / 2) 0 = (z : Int) := by
          rw [getD_lt (by rw [inRow_len]; exact hmid)]
          unfold inRow
          rw [List.getElem_map, hqe, Int.toNat_natCast, getD_lt hqn]
          exact hz
        rw [e, Int.toNat_natCast] at h2
        exact h2
    rw [getD_lt hqn, hz, majV_yes hv, want_mod n.toNat key, Nat.mod_eq_of_lt hz1]
end Go.Proofs.Ytccemllgglfgkaa
