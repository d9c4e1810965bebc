/- Critical parts: what the laws say of them. Plain mathematics. -/
import Derived.Test.YtklgganapphioaaCrP
import Derived.Test.YtklgganapphioaaMed
import Derived.Test.YtklgganapphioaaCloM
namespace Go.Proofs.Ytklgganapphioaa
open Go.RowKit Go.Joins

set_option maxRecDepth 100000 in
theorem ord_all : range5 (fun n => (List.range (2 ^ n)).all fun c => (List.range (2 ^ n)).all fun b => !(b &&& c == b) || (ordL n).contains (c, b)) = true := by decide +kernel
theorem ord_mem {n : Nat} (hn : n ≤ 4) {c b : Nat} (hc : c < 2 ^ n) (hb : b &&& c = b) : (c, b) ∈ ordL n := by
  have hb' : b < 2 ^ n := by
    have : b &&& c ≤ c := Nat.and_le_right
    omega
  have h := range5_of ord_all hn
  rw [List.all_eq_true] at h
  have h1 := h c (List.mem_range.2 hc)
  rw [List.all_eq_true] at h1
  have h2 := h1 b (List.mem_range.2 hb')
  rw [show (b &&& c == b) = true from by simpa using hb] at h2
  simpa using h2
theorem crit_mem {n : Nat} {zs : List Int} {m : Nat × Nat} : m ∈ critL n zs ↔ m ∈ ordL n ∧ crB n zs m = true := List.mem_filter
/-- open exactly if no critical part lies in it -/
theorem opn_crit {n : Nat} (hn : n ≤ 4) (zs : List Int) {p : Nat × Nat} (hp : p ∈ ordL n) : opn zs p = !(critL n zs).any fun m => subP m p := by
  rw [Bool.eq_iff_iff, Bool.not_eq_true', List.any_eq_false]
  constructor
  · intro ho m hm hs
    have := (cr_iff.1 (crit_mem.1 hm).2).1
    rw [opn_sub hs ho] at this
    cases this
  · intro h
    rcases Bool.eq_false_or_eq_true (opn zs p) with ho | ho
    · exact ho
    · obtain ⟨m, hm, hc, hs⟩ := cr_ex hn zs _ p hp (Nat.le_refl _) ho
      exact absurd hs (h m (crit_mem.2 ⟨hm, hc⟩))
theorem and_full {n x : Nat} (hx : x < 2 ^ n) : x &&& (2 ^ n - 1) = x := by rw [Nat.and_two_pow_sub_one_eq_mod, Nat.mod_eq_of_lt hx]
theorem sub_full {N : Nat} {m : Nat × Nat} (hm : m.1 < 2 ^ N) (x : Nat) : subP m (2 ^ N - 1, x) = (x &&& m.1 == m.2) := by
  unfold subP
  rw [and_full hm]
  simp
theorem full_mem {n : Nat} (hn : n ≤ 4) {x : Nat} (hx : x < 2 ^ n) : (2 ^ n - 1, x) ∈ ordL n :=
  ord_mem hn (by have := Nat.two_pow_pos n; omega) (and_full hx)
theorem opn_full {N : Nat} {zs : List Int} (hV : Valid (N : Int) zs) {x : Nat} (hx : x < 2 ^ N) : opn zs (2 ^ N - 1, x) = true ↔ (x : Int) ∈ zs := by
  rw [opn_iff]
  constructor
  · rintro ⟨z, hz, e⟩
    have h1 := valid_lt hV hz
    rw [and_full h1.2] at e
    have e2 : (x : Int) = z := by
      have e' : z.toNat = x := e
      omega
    rw [e2]
    exact hz
  · intro h
    exact ⟨(x : Int), h, by rw [Int.toNat_natCast]; exact and_full hx⟩
theorem free_of (L : List (Nat × Nat)) (x : Nat) : freeB (ofP L) (x : Int) = L.all fun m => !(x &&& m.1 == m.2) := by
  unfold freeB ofP
  rw [List.all_map]
  exact congrArg (fun g => L.all g) (funext fun m => by
    show (!hpB (x : Int) (m.1 : Int) (m.2 : Int)) = _
    rw [hp_nat, Int.toNat_natCast])
theorem swK_of {N : Nat} {zs : List Int} (hV : Valid (N : Int) zs) {ps : List (Int × Int)} (h : ∀ x : Nat, x < 2 ^ N → (freeB ps (x : Int) = true ↔ (x : Int) ∈ zs)) : swK ps (2 ^ N) = zs := by
  have e : (List.range (2 ^ N)).filter (fun (x : Nat) => freeB ps (x : Int)) = zs.map Int.toNat := by
    refine asc_ext _ _ (asc_filter (asc_range _) _) (valid_nat hV).1 (fun x => ?_)
    rw [List.mem_filter, List.mem_range, List.mem_map]
    constructor
    · rintro ⟨h1, h2⟩
      exact ⟨(x : Int), (h x h1).1 h2, Int.toNat_natCast x⟩
    · rintro ⟨z, hz, rfl⟩
      have h1 := valid_lt hV hz
      refine ⟨h1.2, (h _ h1.2).2 ?_⟩
      rw [Int.toNat_of_nonneg h1.1]
      exact hz
  unfold swK
  rw [e, List.map_map]
  refine (List.map_congr_left (fun z hz => ?_)).trans (List.map_id zs)
  have h1 := valid_lt hV hz
  show ((z.toNat : Nat) : Int) = z
  omega
/-- the space without its critical parts is the space -/
theorem sw_crit {N : Nat} {zs : List Int} (hV : Valid (N : Int) zs) : swK (ofP (critL N zs)) (2 ^ N) = zs := by
  have hn : N ≤ 4 := by have := hV.1; omega
  refine swK_of hV (fun x hx => ?_)
  rw [← opn_full hV hx, opn_crit hn zs (full_mem hn hx), free_of, List.all_eq_true, Bool.not_eq_true', List.any_eq_false]
  constructor
  · intro h m hm hs
    rw [sub_full (ord_facts hn (crit_mem.1 hm).1).1] at hs
    have := h m hm
    rw [hs] at this
    cases this
  · intro h m hm
    have := h m hm
    rw [sub_full (ord_facts hn (crit_mem.1 hm).1).1] at this
    simpa using this
/-- a critical part answers something, and is a part that is not open -/
theorem crit_pt {N : Nat} {zs : List Int} (hV : Valid (N : Int) zs) {m : Nat × Nat} (hm : m ∈ critL N zs) : m.1 ≠ 0 ∧ IsPt (N : Int) (m.1 : Int) (m.2 : Int) ∧ openB zs (m.1 : Int) (m.2 : Int) = false ∧ m.1 < 16 ∧ m.2 < 16 := by
  have hn : N ≤ 4 := by have := hV.1; omega
  obtain ⟨h1, h2⟩ := crit_mem.1 hm
  have hf := ord_facts hn h1
  have ho := (cr_iff.1 h2).1
  have e : pw (N : Int) = ((2 ^ N : Nat) : Int) := by unfold pw; rw [Int.toNat_natCast]
  have p2 : 2 ^ N ≤ 16 := Nat.pow_le_pow_right (n := 2) (by omega) hn
  have hb : m.2 ≤ m.1 := by rw [← hf.2.1]; exact Nat.and_le_right
  refine ⟨fun h0 => ?_, ⟨⟨by omega, by omega⟩, ⟨by omega, by omega⟩, by rw [Int.toNat_natCast, Int.toNat_natCast]; exact hf.2.1⟩, ho, by omega, by omega⟩
  have hx : opn zs m = true := by
    rw [opn_iff]
    have hpos := hV.2.1
    refine ⟨zs[0], List.getElem_mem hpos, ?_⟩
    rw [h0, Nat.and_zero]
    omega
  rw [ho] at hx
  cases hx

/-! ### medians -/
set_option maxRecDepth 100000 in
theorem med_chk : ((List.range 16).all fun c => decide (2 < wt c) || (List.range 16).all fun x => (List.range 16).all fun y => (List.range 16).all fun z => (med x y z &&& c == x &&& c) || (med x y z &&& c == y &&& c) || (med x y z &&& c == z &&& c)) = true := by decide +kernel
theorem med_two {c x y z : Nat} (hc : c < 16) (hw : wt c ≤ 2) (hx : x < 16) (hy : y < 16) (hz : z < 16) : med x y z &&& c = x &&& c ∨ med x y z &&& c = y &&& c ∨ med x y z &&& c = z &&& c := by
  have h := med_chk
  rw [List.all_eq_true] at h
  have h1 := h c (List.mem_range.2 hc)
  rw [show decide (2 < wt c) = false from decide_eq_false (by omega), Bool.false_or, List.all_eq_true] at h1
  have h2 := h1 x (List.mem_range.2 hx)
  rw [List.all_eq_true] at h2
  have h3 := h2 y (List.mem_range.2 hy)
  rw [List.all_eq_true] at h3
  have h4 := h3 z (List.mem_range.2 hz)
  simp only [Bool.or_eq_true, beq_iff_eq] at h4
  rcases h4 with (h4 | h4) | h4
  · exact .inl h4
  · exact .inr (.inl h4)
  · exact .inr (.inr h4)
set_option maxRecDepth 100000 in
theorem three_chk : ((List.range 16).all fun c => decide (wt c ≤ 2) || (List.range 4).any fun i => (List.range 4).any fun j => (List.range 4).any fun k => decide (i < j) && decide (j < k) && (bitN c i == 1) && (bitN c j == 1) && (bitN c k == 1)) = true := by decide +kernel
theorem three_of {c : Nat} (hc : c < 16) (hw : ¬ wt c ≤ 2) : ∃ i j k, i < j ∧ j < k ∧ k < 4 ∧ bitN c i = 1 ∧ bitN c j = 1 ∧ bitN c k = 1 := by
  have h := three_chk
  rw [List.all_eq_true] at h
  have h1 := h c (List.mem_range.2 hc)
  rw [decide_eq_false hw, Bool.false_or, List.any_eq_true] at h1
  obtain ⟨i, _, h2⟩ := h1
  rw [List.any_eq_true] at h2
  obtain ⟨j, _, h3⟩ := h2
  rw [List.any_eq_true] at h3
  obtain ⟨k, hk, h4⟩ := h3
  simp only [Bool.and_eq_true, decide_eq_true_eq, beq_iff_eq] at h4
  obtain ⟨⟨⟨⟨a, b⟩, d⟩, e⟩, f⟩ := h4
  exact ⟨i, j, k, a, b, List.mem_range.1 hk, d, e, f⟩
set_option maxRecDepth 100000 in
theorem less_chk : ((List.range 16).all fun c => (List.range 16).all fun b => (List.range 4).all fun i => !(bitN c i == 1 && b &&& c == b) || (List.range 16).all fun x => !(x &&& (c - 2 ^ i) == b - (b &&& 2 ^ i)) || (List.range 4).all fun t => t == i || bitN (x &&& c) t == bitN b t) = true := by decide +kernel
theorem less_bit {c b i x t : Nat} (hc : c < 16) (hb : b &&& c = b) (hi : i < 4) (hx : x < 16) (hci : bitN c i = 1) (he : x &&& (c - 2 ^ i) = b - (b &&& 2 ^ i)) (ht : t < 4) (hne : t ≠ i) : bitN (x &&& c) t = bitN b t := by
  have hb16 : b < 16 := by
    have : b &&& c ≤ c := Nat.and_le_right
    omega
  have h := less_chk
  rw [List.all_eq_true] at h
  have h1 := h c (List.mem_range.2 hc)
  rw [List.all_eq_true] at h1
  have h2 := h1 b (List.mem_range.2 hb16)
  rw [List.all_eq_true] at h2
  have h3 := h2 i (List.mem_range.2 hi)
  rw [show (bitN c i == 1 && b &&& c == b) = true from by simp [hci, hb], Bool.not_true, Bool.false_or, List.all_eq_true] at h3
  have h4 := h3 x (List.mem_range.2 hx)
  rw [show (x &&& (c - 2 ^ i) == b - (b &&& 2 ^ i)) = true from by simpa using he, Bool.not_true, Bool.false_or, List.all_eq_true] at h4
  have h5 := h4 t (List.mem_range.2 ht)
  rw [show (t == i) = false from by simpa using hne, Bool.false_or, beq_iff_eq] at h5
  exact h5
set_option maxRecDepth 100000 in
theorem mbit_chk : ∀ x : Fin 16, ∀ y : Fin 16, ∀ z : Fin 16, ∀ j : Fin 4, bitN (med x.val y.val z.val) j.val = if 2 ≤ bitN x.val j.val + bitN y.val j.val + bitN z.val j.val then 1 else 0 := by decide +kernel
theorem mbit {x y z j : Nat} (hx : x < 16) (hy : y < 16) (hz : z < 16) (hj : j < 4) : bitN (med x y z) j = if 2 ≤ bitN x j + bitN y j + bitN z j then 1 else 0 := mbit_chk ⟨x, hx⟩ ⟨y, hy⟩ ⟨z, hz⟩ ⟨j, hj⟩
theorem med_and (x y z c : Nat) : med x y z &&& c = med (x &&& c) (y &&& c) (z &&& c) := by
  unfold med
  apply Nat.eq_of_testBit_eq
  intro i
  simp only [Nat.testBit_or, Nat.testBit_and]
  cases x.testBit i <;> cases y.testBit i <;> cases z.testBit i <;> cases c.testBit i <;> rfl
theorem bits_ext {a b : Nat} (ha : a < 16) (hb : b < 16) (h : ∀ t, t < 4 → bitN a t = bitN b t) : a = b := by
  have h0 := h 0 (by omega)
  have h1 := h 1 (by omega)
  have h2 := h 2 (by omega)
  have h3 := h 3 (by omega)
  unfold bitN at h0 h1 h2 h3
  simp only [Nat.reducePow] at h0 h1 h2 h3
  omega
/-- closed under medians, said of its judgments -/
theorem closed_mem {f : Nat → Nat → Nat → Nat} (J : Join f) {n : Int} {zs : List Int} (h : Valid n zs) : closedB f n zs = true ↔ ∀ a b c : Nat, (a : Int) ∈ zs → (b : Int) ∈ zs → (c : Int) ∈ zs → ((f a b c : Nat) : Int) ∈ zs := by
  rw [closed_iff J h]
  constructor
  · intro hc a b c ha hb hcc
    have at_ : ∀ t : Nat, (t : Int) ∈ zs → ∃ i, i < zs.length ∧ zN zs i = t := fun t ht => by
      obtain ⟨i, hi, e⟩ := List.getElem_of_mem ht
      exact ⟨i, hi, by unfold zN; rw [getD_lt hi, e]; simp⟩
    obtain ⟨i, hi, rfl⟩ := at_ a ha
    obtain ⟨j, hj, rfl⟩ := at_ b hb
    obtain ⟨k, hk, rfl⟩ := at_ c hcc
    exact hc i j k hi hj hk
  · intro hc i j k hi hj hk
    have hm : ∀ i, i < zs.length → ((zN zs i : Nat) : Int) ∈ zs := fun i hi => by
      have h1 := valid_range h _ (List.getElem_mem hi)
      have e : ((zN zs i : Nat) : Int) = zs[i] := by unfold zN; rw [getD_lt hi]; omega
      rw [e]
      exact List.getElem_mem hi
    exact hc _ _ _ (hm i hi) (hm j hj) (hm k hk)
/-- a space with small critical parts alone is closed under medians -/
theorem median_small {N : Nat} {zs : List Int} (hV : Valid (N : Int) zs) : closedB med (N : Int) zs = (critL N zs).all fun m => decide (wt m.1 ≤ 2) := by
  have hn : N ≤ 4 := by have := hV.1; omega
  have p2 : 2 ^ N ≤ 16 := Nat.pow_le_pow_right (n := 2) (by omega) hn
  rw [Bool.eq_iff_iff, closed_mem join_med hV, List.all_eq_true]
  constructor
  · intro hc m hm
    rw [decide_eq_true_iff]
    refine Classical.byContradiction fun hw => ?_
    obtain ⟨_, hpt, ho, h16, hb16⟩ := crit_pt hV hm
    have hf := ord_facts hn (crit_mem.1 hm).1
    have hcr := (cr_iff.1 (crit_mem.1 hm).2).2
    obtain ⟨i, j, k, hij, hjk, hk4, bi, bj, bk⟩ := three_of h16 hw
    have hlt : ∀ t, bitN m.1 t = 1 → t < N := fun t ht => by
      refine Classical.byContradiction fun h => ?_
      have h1 : m.1 < 2 ^ t := Nat.lt_of_lt_of_le hf.1 (Nat.pow_le_pow_right (by omega) (by omega))
      unfold bitN at ht
      rw [Nat.div_eq_of_lt h1] at ht
      omega
    have wit : ∀ t, bitN m.1 t = 1 → ∃ x : Nat, (x : Int) ∈ zs ∧ x < 16 ∧ x &&& (m.1 - 2 ^ t) = m.2 - (m.2 &&& 2 ^ t) := fun t ht => by
      obtain ⟨z, hz, e⟩ := opn_iff.1 (hcr t (hlt t ht) ht)
      have h1 := valid_lt hV hz
      exact ⟨z.toNat, by rw [Int.toNat_of_nonneg h1.1]; exact hz, by omega, e⟩
    obtain ⟨x, mx, x16, ex⟩ := wit i bi
    obtain ⟨y, my, y16, ey⟩ := wit j bj
    obtain ⟨z, mz, z16, ez⟩ := wit k bk
    have hmem := hc x y z mx my mz
    have hX : ∀ u, u &&& m.1 < 16 := fun u => by
      have : u &&& m.1 ≤ m.1 := Nat.and_le_right
      omega
    have he : med x y z &&& m.1 = m.2 := by
      rw [med_and]
      refine bits_ext (join_med.lt _ _ _ (hX x) (hX y) (hX z)) hb16 (fun t ht => ?_)
      rw [mbit (hX x) (hX y) (hX z) ht]
      have l1 := bitN_le (x &&& m.1) t
      have l2 := bitN_le (y &&& m.1) t
      have l3 := bitN_le (z &&& m.1) t
      have l4 := bitN_le m.2 t
      have a1 : t ≠ i → bitN (x &&& m.1) t = bitN m.2 t := less_bit h16 hf.2.1 (by omega) x16 bi ex ht
      have a2 : t ≠ j → bitN (y &&& m.1) t = bitN m.2 t := less_bit h16 hf.2.1 (by omega) y16 bj ey ht
      have a3 : t ≠ k → bitN (z &&& m.1) t = bitN m.2 t := less_bit h16 hf.2.1 (by omega) z16 bk ez ht
      by_cases e1 : t = i
      · have b2 := a2 (by omega)
        have b3 := a3 (by omega)
        split <;> omega
      · have b1 := a1 e1
        by_cases e2 : t = j
        · have b3 := a3 (by omega)
          split <;> omega
        · have b2 := a2 e2
          split <;> omega
    have hop : opn zs m = true := opn_iff.2 ⟨_, hmem, by rw [Int.toNat_natCast]; exact he⟩
    have hno : opn zs m = false := ho
    rw [hop] at hno
    cases hno
  · intro hall a b c ha hb hcc
    have lt_ : ∀ t : Nat, (t : Int) ∈ zs → t < 2 ^ N := fun t ht => by
      have := valid_lt hV ht
      omega
    have hm2 : med a b c < 2 ^ N := by
      unfold med
      exact Nat.or_lt_two_pow (Nat.or_lt_two_pow (Nat.and_lt_two_pow _ (lt_ b hb)) (Nat.and_lt_two_pow _ (lt_ c hcc))) (Nat.and_lt_two_pow _ (lt_ c hcc))
    rw [← opn_full hV hm2, opn_crit hn zs (full_mem hn hm2), Bool.not_eq_true', List.any_eq_false]
    intro m hm hs
    obtain ⟨_, _, ho, h16, _⟩ := crit_pt hV hm
    rw [sub_full (ord_facts hn (crit_mem.1 hm).1).1, beq_iff_eq] at hs
    have hw := hall m hm
    rw [decide_eq_true_iff] at hw
    have hno : opn zs m = false := ho
    have yes : ∀ t : Nat, (t : Int) ∈ zs → t &&& m.1 = m.2 → False := fun t ht e => by
      have : opn zs m = true := opn_iff.2 ⟨(t : Int), ht, by rw [Int.toNat_natCast]; exact e⟩
      rw [this] at hno
      cases hno
    rcases med_two (x := a) (y := b) (z := c) h16 hw (by have := lt_ a ha; omega) (by have := lt_ b hb; omega) (by have := lt_ c hcc; omega) with e | e | e
    · exact yes a ha (e.symm.trans hs)
    · exact yes b hb (e.symm.trans hs)
    · exact yes c hcc (e.symm.trans hs)
end Go.Proofs.Ytklgganapphioaa
