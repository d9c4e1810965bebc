/- Greedy committees leave no great group without a name: plain mathematics. -/
import Derived.Test.YtgkaghappogglaaGreedF
import Derived.Test.YtgkaghappogglaaBestM
import Derived.Test.YtgkaghappogglaaMask
namespace Go.Proofs.Ytgkaghappogglaa
open Go.RowKit Go.Joins

/-- the pick number j -/
def nm (q : Nat) (bs : List Int) (m j : Nat) : Nat := (nextS q bs (gw q bs m j) m).2
theorem nextS_max (q : Nat) (bs : List Int) (w : Nat) : ∀ t x, x < t → bitN w x = 0 → (scoreV q bs (w ||| 2 ^ x) : Int) ≤ (nextS q bs w t).1
  | 0, x, h, _ => by omega
  | t + 1, x, h, hb => by
    by_cases hc : bitN w t = 0 ∧ (nextS q bs w t).1 < (scoreV q bs (w ||| 2 ^ t) : Int)
    · rw [nextS_yes hc.1 hc.2]
      rcases Nat.lt_or_ge x t with h1 | h1
      · have := nextS_max q bs w t x h1 hb
        show _ ≤ (scoreV q bs (w ||| 2 ^ t) : Int)
        omega
      · obtain rfl : x = t := by omega
        exact Int.le_refl _
    · rw [nextS_no hc]
      rcases Nat.lt_or_ge x t with h1 | h1
      · exact nextS_max q bs w t x h1 hb
      · obtain rfl : x = t := by omega
        rcases Int.lt_or_le (nextS q bs w x).1 (scoreV q bs (w ||| 2 ^ x) : Int) with h2 | h2
        · exact absurd ⟨hb, h2⟩ hc
        · exact h2
theorem nextS_val (q : Nat) (bs : List Int) (w : Nat) : ∀ t, (nextS q bs w t).1 = -1 ∨ (nextS q bs w t).1 = (scoreV q bs (w ||| 2 ^ (nextS q bs w t).2) : Int)
  | 0 => .inl rfl
  | t + 1 => by
    by_cases hc : bitN w t = 0 ∧ (nextS q bs w t).1 < (scoreV q bs (w ||| 2 ^ t) : Int)
    · rw [nextS_yes hc.1 hc.2]; exact .inr rfl
    · rw [nextS_no hc]; exact nextS_val q bs w t
theorem gw_succ (q : Nat) (bs : List Int) (m j : Nat) : gw q bs m (j + 1) = gw q bs m j ||| 2 ^ nm q bs m j := rfl
theorem nm_facts (q : Nat) (bs : List Int) {m j : Nat} (hm : m ≤ 5) (hj : j < m) : nm q bs m j < m ∧ bitN (gw q bs m j) (nm q bs m j) = 0 ∧ ∀ x, x < m → bitN (gw q bs m j) x = 0 → scoreV q bs (gw q bs m j ||| 2 ^ x) ≤ scoreV q bs (gw q bs m (j + 1)) := by
  obtain ⟨h1, h2⟩ := gw_inv q bs m hm j (by omega)
  obtain ⟨x0, hx0, hb0⟩ := free_name m _ hm h1 (by omega)
  rcases nextS_inv q bs (gw q bs m j) m with ⟨_, _, h3⟩ | ⟨h3, h4, h5⟩
  · exact absurd hb0 (h3 x0 hx0)
  · refine ⟨h4, h5, fun x hx hb => ?_⟩
    have h6 := nextS_max q bs (gw q bs m j) m x hx hb
    rcases nextS_val q bs (gw q bs m j) m with h7 | h7
    · omega
    · rw [h7] at h6
      exact_mod_cast h6
theorem gw_sub (q : Nat) (bs : List Int) (m i : Nat) : ∀ j, i ≤ j → ∀ x, (gw q bs m i).testBit x = true → (gw q bs m j).testBit x = true
  | 0, h, x, hx => by
    obtain rfl : i = 0 := by omega
    exact hx
  | j + 1, h, x, hx => by
    rcases Nat.lt_or_ge i (j + 1) with h1 | h1
    · rw [gw_succ, Nat.testBit_or, gw_sub q bs m i j (by omega) x hx]; rfl
    · obtain rfl : i = j + 1 := by omega
      exact hx
theorem nm_in (q : Nat) (bs : List Int) (m j : Nat) : (gw q bs m (j + 1)).testBit (nm q bs m j) = true := by
  rw [gw_succ, Nat.testBit_or, Nat.testBit_two_pow_self, Bool.or_true]
theorem bit0 {w x : Nat} : bitN w x = 0 ↔ w.testBit x = false := by
  have h := tb_bitN w x
  have h2 := bitN_le w x
  constructor
  · intro e
    rw [Bool.eq_false_iff]
    intro hh
    have := h.2 hh
    omega
  · intro e
    rcases (show bitN w x = 0 ∨ bitN w x = 1 from by omega) with h3 | h3
    · exact h3
    · rw [h.1 h3] at e; cases e
/-- a part of a list and the rest -/
theorem sub_rest {ms bs : List Int} (h : ms.Sublist bs) : ∃ os : List Int, os.Sublist bs ∧ os.length + ms.length = bs.length ∧ ∀ f, sm f bs = sm f os + sm f ms := by
  induction h with
  | slnil => exact ⟨[], List.Sublist.refl _, rfl, fun _ => rfl⟩
  | cons a _ ih =>
    obtain ⟨os, h1, h2, h3⟩ := ih
    exact ⟨a :: os, h1.cons_cons a, by simp only [List.length_cons]; omega, fun f => by simp only [sm, h3 f]; omega⟩
  | cons_cons a _ ih =>
    obtain ⟨os, h1, h2, h3⟩ := ih
    exact ⟨os, h1.cons a, by simp only [List.length_cons]; omega, fun f => by simp only [sm, h3 f]; omega⟩
theorem sm_zero {f : Int → Nat} {bs : List Int} (h : ∀ b ∈ bs, f b = 0) : sm f bs = 0 := by
  induction bs with
  | nil => rfl
  | cons b bs ih => simp only [sm, h b (by simp), ih (fun x hx => h x (by simp [hx]))]
theorem worth_zero (q : Nat) (hq : q ≤ 2) : worth q 0 = 0 := by
  rcases (show q = 0 ∨ q = 1 ∨ q = 2 from by omega) with rfl | rfl | rfl <;> decide
/-- who has no name of a committee has none of a lesser one -/
theorem none_sub {b w v : Nat} (hw : w < 32) (hv : v < 32) (h : pc (b &&& w) < 1) (hs : ∀ x, v.testBit x = true → w.testBit x = true) : pc (b &&& v) = 0 := by
  have h1 := pc_mono (b &&& v) (b &&& w) (Nat.and_lt_two_pow (n := 5) _ hv) (Nat.and_lt_two_pow (n := 5) _ hw) (by
    apply Nat.eq_of_testBit_eq
    intro i
    simp only [Nat.testBit_and]
    cases hi : v.testBit i with
    | false => simp
    | true => rw [hs i hi]; simp)
  omega
theorem out_fin : ∀ b w : Fin 32, ∀ x : Fin 5, pc (b.val &&& w.val) < 1 → b.val.testBit x.val = true → w.val.testBit x.val = false := by decide +kernel
theorem five_fin : ∀ w : Fin 32, pc w.val = 5 → ∀ x : Fin 5, w.val.testBit x.val = true := by decide +kernel
theorem add_fin : ∀ b w : Fin 32, ∀ x : Fin 5, bitN w.val x.val = 0 → pc (b.val &&& (w.val ||| 2 ^ x.val)) = pc (b.val &&& w.val) + bitN b.val x.val := by decide +kernel
theorem harm_fin : ∀ b w : Fin 32, ∀ x : Fin 5, bitN w.val x.val = 0 → worth 1 (pc (b.val &&& (w.val ||| 2 ^ x.val))) = worth 1 (pc (b.val &&& w.val)) + (if bitN b.val x.val = 1 then 60 / (pc (b.val &&& w.val) + 1) else 0) := by decide +kernel
theorem tp_fin : ∀ j : Fin 5, ∀ t : Fin 16, ∀ e : Fin 2, t.val < 2 ^ j.val → pc (t.val + 2 ^ j.val * e.val) = pc t.val + e.val := by decide +kernel

/-- which of the first k picks a ballot has -/
def tp (q : Nat) (bs : List Int) (m : Nat) (b : Int) : Nat → Nat
  | 0 => 0
  | k + 1 => tp q bs m b k + 2 ^ k * bitN b.toNat (nm q bs m k)
theorem tp_lt (q : Nat) (bs : List Int) (m : Nat) (b : Int) : ∀ k, tp q bs m b k < 2 ^ k
  | 0 => by show 0 < 1; omega
  | k + 1 => by
    have h1 := tp_lt q bs m b k
    have h2 := bitN_le b.toNat (nm q bs m k)
    have h3 : 2 ^ k * bitN b.toNat (nm q bs m k) ≤ 2 ^ k * 1 := Nat.mul_le_mul_left _ h2
    show tp q bs m b k + 2 ^ k * bitN b.toNat (nm q bs m k) < 2 ^ (k + 1)
    rw [Nat.pow_succ]; omega
theorem tp_mod (q : Nat) (bs : List Int) (m : Nat) (b : Int) (j : Nat) : ∀ k, j ≤ k → tp q bs m b k % 2 ^ j = tp q bs m b j
  | 0, h => by
    obtain rfl : j = 0 := by omega
    rfl
  | k + 1, h => by
    rcases Nat.lt_or_ge j (k + 1) with h1 | h1
    · have ih := tp_mod q bs m b j k (by omega)
      obtain ⟨d, rfl⟩ : ∃ d, k = j + d := ⟨k - j, by omega⟩
      show (tp q bs m b (j + d) + 2 ^ (j + d) * bitN b.toNat (nm q bs m (j + d))) % 2 ^ j = _
      rw [Nat.pow_add, Nat.mul_assoc, Nat.add_mul_mod_self_left]
      exact ih
    · obtain rfl : j = k + 1 := by omega
      exact Nat.mod_eq_of_lt (tp_lt q bs m b (k + 1))
theorem tp_bit (q : Nat) (bs : List Int) (m : Nat) (b : Int) {i k : Nat} (h : i < k) : tp q bs m b k / 2 ^ i % 2 = bitN b.toNat (nm q bs m i) := by
  have h1 := tp_mod q bs m b (i + 1) k (by omega)
  have h2 := tp_lt q bs m b i
  have h3 := bitN_le b.toNat (nm q bs m i)
  have h4 : tp q bs m b (i + 1) = tp q bs m b i + 2 ^ i * bitN b.toNat (nm q bs m i) := rfl
  have h5 : tp q bs m b k % 2 ^ (i + 1) / 2 ^ i = tp q bs m b k / 2 ^ i % 2 := by
    rw [Nat.pow_succ, Nat.mod_mul_right_div_self]
  rw [← h5, h1, h4, Nat.add_mul_div_left _ _ (Nat.two_pow_pos i), Nat.div_eq_of_lt h2, Nat.zero_add]
theorem tp_pc (q : Nat) (bs : List Int) {m : Nat} (hm : m ≤ 5) {b : Int} (hb : 0 ≤ b ∧ b ≤ 31) : ∀ k, k ≤ m → k ≤ 4 → pc (b.toNat &&& gw q bs m k) = pc (tp q bs m b k)
  | 0, _, _ => by
    show pc (b.toNat &&& 0) = pc 0
    rw [Nat.and_zero]
  | k + 1, hk, h4 => by
    have ih := tp_pc q bs hm hb k (by omega) (by omega)
    obtain ⟨h1, h2, _⟩ := nm_facts q bs hm (show k < m from by omega)
    have h32 : 2 ^ m ≤ 2 ^ 5 := Nat.pow_le_pow_right (by omega) hm
    have hw := (gw_inv q bs m hm k (by omega)).1
    have h3 := add_fin ⟨b.toNat, toNat_lt hb⟩ ⟨gw q bs m k, by omega⟩ ⟨nm q bs m k, by omega⟩ h2
    simp only at h3
    have hle := bitN_le b.toNat (nm q bs m k)
    have h16 : (2 : Nat) ^ k ≤ 2 ^ 4 := Nat.pow_le_pow_right (by omega) (by omega)
    have hlt := tp_lt q bs m b k
    have h5 := tp_fin ⟨k, by omega⟩ ⟨tp q bs m b k, by omega⟩ ⟨bitN b.toNat (nm q bs m k), by omega⟩ hlt
    simp only at h5
    rw [gw_succ, h3, ih]
    exact h5.symm
/-- what a ballot gains by a pick -/
theorem tp_gain (q : Nat) (bs : List Int) {m K j i : Nat} (hm : m ≤ 5) (hK : K ≤ 4) (hKm : K ≤ m) (hi : i < K) (hj : j ≤ i) {b : Int} (hb : 0 ≤ b ∧ b ≤ 31) (hfree : bitN (gw q bs m j) (nm q bs m i) = 0) :
    wB 1 (gw q bs m j ||| 2 ^ nm q bs m i) b = wB 1 (gw q bs m j) b + gT j i (tp q bs m b K) := by
  have h32 : 2 ^ m ≤ 2 ^ 5 := Nat.pow_le_pow_right (by omega) hm
  have hw := (gw_inv q bs m hm j (by omega)).1
  have hn := (nm_facts q bs hm (show i < m from by omega)).1
  have h1 := harm_fin ⟨b.toNat, toNat_lt hb⟩ ⟨gw q bs m j, by omega⟩ ⟨nm q bs m i, by omega⟩ hfree
  simp only at h1
  unfold wB
  rw [h1]
  unfold gT
  rw [tp_bit q bs m b hi, tp_mod q bs m b j K (by omega), tp_pc q bs hm hb j (by omega) (by omega)]
theorem sT_map (q : Nat) (bs : List Int) (m K j i : Nat) (os : List Int) : sT j i (os.map fun b => tp q bs m b K) = sm (fun b => gT j i (tp q bs m b K)) os := by
  induction os with
  | nil => rfl
  | cons b os ih => simp only [List.map_cons, sT, sm, ih]
/-- greedy committees, harmonic or by covers, leave no great group without a name -/
theorem greedy_group {q m K : Nat} {bs ms : List Int} (hq : 1 ≤ q ∧ q ≤ 2) (hm : m ≤ 5) (hK1 : 1 ≤ K) (hKm : K ≤ m) (hr : ∀ b ∈ bs, 0 ≤ b ∧ b ≤ 31) (hn : 1 ≤ bs.length) (h6 : bs.length ≤ 6) (hs : ms.Sublist bs)
    (hd : bs.length ≤ ms.length * K) {x : Nat} (hx : x < m) (hmx : ∀ b ∈ ms, b.toNat.testBit x = true) (hmw : ∀ b ∈ ms, pc (b.toNat &&& gw q bs m K) < 1) : False := by
  have h32 : 2 ^ m ≤ 2 ^ 5 := Nat.pow_le_pow_right (by omega) hm
  have hgw : ∀ j, j ≤ m → gw q bs m j < 32 := fun j hj => by have := (gw_inv q bs m hm j hj).1; omega
  have hg1 : 1 ≤ ms.length := by
    rcases Nat.eq_zero_or_pos ms.length with e | e
    · rw [e] at hd; omega
    · exact e
  have hxw : (gw q bs m K).testBit x = false := by
    obtain ⟨b0, hb0⟩ := List.exists_mem_of_length_pos hg1
    exact out_fin ⟨b0.toNat, toNat_lt (hr b0 (hs.subset hb0))⟩ ⟨gw q bs m K, hgw K hKm⟩ ⟨x, by omega⟩ (hmw b0 hb0) (hmx b0 hb0)
  have hxj : ∀ j, j ≤ K → bitN (gw q bs m j) x = 0 := by
    intro j hj
    rw [bit0, Bool.eq_false_iff]
    intro hh
    rw [gw_sub q bs m j K hj x hh] at hxw
    cases hxw
  have hms0 : ∀ v, v < 32 → (∀ y, v.testBit y = true → (gw q bs m K).testBit y = true) → sm (wB q v) ms = 0 := by
    intro v hv hsub
    refine sm_zero fun b hb => ?_
    unfold wB
    rw [none_sub (hgw K hKm) hv (hmw b hb) hsub]
    exact worth_zero q hq.2
  have hq3 : q ≠ 3 := by omega
  obtain ⟨os, ho1, ho2, ho3⟩ := sub_rest hs
  -- each pick gains as much as the name that the group wants
  have step : ∀ j, j < K → sm (wB q (gw q bs m j)) os + oneW q * ms.length ≤ sm (wB q (gw q bs m (j + 1))) os := by
    intro j hj
    obtain ⟨_, _, hbest⟩ := nm_facts q bs hm (show j < m from by omega)
    have h1 := hbest x hx (hxj j (by omega))
    rw [scoreV_sm hq3, scoreV_sm hq3] at h1
    obtain ⟨G, hG, hg⟩ := group_gain (l := 1) hq (hgw j (by omega)) (show x < 5 from by omega) hr (hxj j (by omega)) hs (fun b hb => ⟨(tb_bitN _ _).2 (hmx b hb), by
      have := none_sub (hgw K hKm) (hgw j (by omega)) (hmw b hb) (gw_sub q bs m j K (by omega))
      omega⟩) (.inr rfl)
    rw [ho3 (wB q (gw q bs m j)), hms0 _ (hgw j (by omega)) (gw_sub q bs m j K (by omega))] at hG
    rw [ho3 (wB q (gw q bs m (j + 1))), hms0 _ (hgw (j + 1) (by omega)) (gw_sub q bs m (j + 1) K (by omega))] at h1
    omega
  rcases (show q = 2 ∨ q = 1 from by omega) with rfl | rfl
  · -- covers: all picks together cover more than there are
    have hall : ∀ j, j ≤ K → j * ms.length ≤ sm (wB 2 (gw 2 bs m j)) os := by
      intro j
      induction j with
      | zero => intro _; omega
      | succ j ih =>
        intro hj
        have h1 := ih (by omega)
        have h2 := step j (by omega)
        have e : oneW 2 = 1 := rfl
        rw [e] at h2
        rw [Nat.add_mul]
        omega
    have h1 := hall K (Nat.le_refl _)
    have h2 : sm (wB 2 (gw 2 bs m K)) os ≤ 1 * os.length := sm_most fun b hb => by
      show min (pc (b.toNat &&& gw 2 bs m K)) 1 ≤ 1
      omega
    have h3 : K * ms.length = ms.length * K := Nat.mul_comm _ _
    omega
  · -- harmonic: no four picks can each gain as much
    have hK4 : K ≤ 4 := by
      rcases Nat.lt_or_ge K 5 with h | h
      · omega
      · have e : K = 5 := by omega
        have h1 := (gw_inv 1 bs m hm K hKm).2
        have h2 := five_fin ⟨gw 1 bs m K, hgw K hKm⟩ (by simp only; omega) ⟨x, by omega⟩
        simp only at h2
        rw [h2] at hxw; cases hxw
    have hfree : ∀ j i, j ≤ i → i < K → bitN (gw 1 bs m j) (nm 1 bs m i) = 0 := by
      intro j i h1 h2
      have h3 := (nm_facts 1 bs hm (show i < m from by omega)).2.1
      rw [bit0] at h3 ⊢
      rw [Bool.eq_false_iff]
      intro hh
      rw [gw_sub 1 bs m j i h1 _ hh] at h3
      cases h3
    have hsum : ∀ j i, j ≤ i → i < K → sm (wB 1 (gw 1 bs m j ||| 2 ^ nm 1 bs m i)) os = sm (wB 1 (gw 1 bs m j)) os + sT j i (os.map fun b => tp 1 bs m b K) := by
      intro j i h1 h2
      rw [sT_map, ← sm_add]
      exact sm_eq fun b hb => tp_gain 1 bs hm hK4 hKm h2 h1 (hr b (ho1.subset hb)) (hfree j i h1 h2)
    have hmay : mayG K ms.length (os.map fun b => tp 1 bs m b K) = true := by
      unfold mayG
      rw [List.all_eq_true]
      intro j hj
      rw [List.mem_range] at hj
      rw [Bool.and_eq_true, decide_eq_true_eq, List.all_eq_true]
      have h0 := hsum j j (Nat.le_refl _) hj
      rw [← gw_succ] at h0
      constructor
      · have h1 := step j hj
        have e : oneW 1 = 60 := rfl
        rw [e] at h1
        omega
      · intro i hi
        rw [List.mem_range] at hi
        rw [Bool.or_eq_true, decide_eq_true_eq, decide_eq_true_eq]
        rcases Nat.lt_or_ge j i with h1 | h1
        · right
          have h2 := hsum j i (by omega) hi
          obtain ⟨_, _, hbest⟩ := nm_facts 1 bs hm (show j < m from by omega)
          obtain ⟨hni, _, _⟩ := nm_facts 1 bs hm (show i < m from by omega)
          have h3 := hbest _ hni (hfree j i (by omega) hi)
          rw [scoreV_sm hq3, scoreV_sm hq3, ho3 (wB 1 (gw 1 bs m (j + 1))), hms0 _ (hgw (j + 1) (by omega)) (gw_sub 1 bs m (j + 1) K (by omega)), ho3 (wB 1 (gw 1 bs m j ||| 2 ^ nm 1 bs m i)),
            hms0 _ (Nat.or_lt_two_pow (n := 5) (hgw j (by omega)) (Nat.pow_lt_pow_right (by omega) (by omega))) (fun y hy => by
              rw [Nat.testBit_or, Bool.or_eq_true] at hy
              rcases hy with hy | hy
              · exact gw_sub 1 bs m j K (by omega) y hy
              · rw [Nat.testBit_two_pow, decide_eq_true_eq] at hy
                subst hy
                exact gw_sub 1 bs m (i + 1) K (by omega) _ (nm_in 1 bs m i))] at h3
          omega
        · left; exact h1
    have hno := no_picks (K := K) (g := ms.length) (ts := os.map fun b => tp 1 bs m b K) hK1 hK4 hg1 (by rw [List.length_map]; omega) (by rw [List.length_map]; omega) (fun t ht => by
      obtain ⟨b, _, rfl⟩ := List.mem_map.1 ht
      exact tp_lt 1 bs m b K)
    rw [hno] at hmay
    cases hmay
theorem greedy_just {s : ByteArray} {q m K : Nat} {bs : List Int} (hq : 1 ≤ q ∧ q ≤ 2) (hS : seatsB (m : Int) bs (K : Int) = true) (hc : claimN s = 1) : justB s (m : Int) bs (K : Int) (gw q bs m K : Int) = true := by
  obtain ⟨hok, hk1, hkc⟩ := seats_of hS
  have hm5 : m ≤ 5 := by have := hok.1; omega
  have hn1 : 1 ≤ bs.length := by have := hok.2.1.1; omega
  have h6 : bs.length ≤ 6 := by have := hok.2.1.2; omega
  have hr := bal_range hok
  obtain ⟨hw, hp⟩ := gw_inv q bs m hm5 K (by omega)
  have h32 : 2 ^ m ≤ 2 ^ 5 := Nat.pow_le_pow_right (by omega) hm5
  have hs : seatedB (m : Int) bs (K : Int) (gw q bs m K : Int) = true := seatedB_yes hS ⟨by omega, by rw [pw_nat]; omega⟩ (by rw [Int.toNat_natCast]; omega)
  rw [just_iff (by omega) hs]
  intro l h1 h2 g hg
  rw [Bool.eq_false_iff]
  intro hbad
  rw [Int.toNat_natCast, Int.toNat_natCast, Int.toNat_natCast] at hbad
  unfold badB at hbad
  rw [Bool.and_eq_true, due_iff, hc, wrong1_iff] at hbad
  obtain ⟨⟨hd1, hd2⟩, rfl, hw1⟩ := hbad
  have hal := andL_le (memL bs g) (2 ^ m - 1)
  obtain ⟨x, hx5, hx⟩ := pc_pos (by omega) hd2
  rw [andL_bit] at hx
  obtain ⟨hxm, hxb⟩ := hx
  rw [Nat.testBit_two_pow_sub_one, decide_eq_true_eq] at hxm
  exact greedy_group hq hm5 (by omega) (by omega) hr hn1 h6 (memL_sub bs g) (by rw [Nat.one_mul] at hd1; exact hd1) hxm hxb hw1

/-- how many approve of a name -/
def supS (bs : List Int) (x : Nat) : Nat := sm (fun b => bitN b.toNat x) bs
theorem and_bits : ∀ b w : Fin 32, pc (b.val &&& w.val) = bitN w.val 0 * bitN b.val 0 + bitN w.val 1 * bitN b.val 1 + bitN w.val 2 * bitN b.val 2 + bitN w.val 3 * bitN b.val 3 + bitN w.val 4 * bitN b.val 4 := by decide +kernel
theorem sm_mulL (u : Nat) (f : Int → Nat) (bs : List Int) : sm (fun b => u * f b) bs = u * sm f bs := by
  induction bs with
  | nil => rfl
  | cons b bs ih => simp only [sm, ih, Nat.mul_add]
theorem appr_sum {bs : List Int} {w : Nat} (hr : ∀ b ∈ bs, 0 ≤ b ∧ b ≤ 31) (hw : w < 32) : scoreV 0 bs w = bitN w 0 * supS bs 0 + bitN w 1 * supS bs 1 + bitN w 2 * supS bs 2 + bitN w 3 * supS bs 3 + bitN w 4 * supS bs 4 := by
  rw [scoreV_sm (by omega)]
  have h : sm (wB 0 w) bs = sm (fun b => (((bitN w 0 * bitN b.toNat 0 + bitN w 1 * bitN b.toNat 1) + bitN w 2 * bitN b.toNat 2) + bitN w 3 * bitN b.toNat 3) + bitN w 4 * bitN b.toNat 4) bs :=
    sm_eq fun b hb => and_bits ⟨b.toNat, toNat_lt (hr b hb)⟩ ⟨w, hw⟩
  rw [h, sm_add, sm_add, sm_add, sm_add, sm_mulL, sm_mulL, sm_mulL, sm_mulL, sm_mulL]
  rfl
theorem or_bit_fin : ∀ w : Fin 32, ∀ x y : Fin 5, bitN (w.val ||| 2 ^ x.val) y.val = if y = x then 1 else bitN w.val y.val := by decide +kernel
theorem appr_more {bs : List Int} {w x : Nat} (hr : ∀ b ∈ bs, 0 ≤ b ∧ b ≤ 31) (hw : w < 32) (hx : x < 5) (hb : bitN w x = 0) : scoreV 0 bs (w ||| 2 ^ x) = scoreV 0 bs w + supS bs x := by
  rw [scoreV_sm (by omega), scoreV_sm (by omega)]
  unfold supS
  rw [← sm_add]
  exact sm_eq fun b hb' => add_fin ⟨b.toNat, toNat_lt (hr b hb')⟩ ⟨w, hw⟩ ⟨x, hx⟩ hb
/-- what greedy picks by approval have at least, and what they leave at most -/
theorem appr_inv {m : Nat} {bs : List Int} (hm : m ≤ 5) (hr : ∀ b ∈ bs, 0 ≤ b ∧ b ≤ 31) : ∀ j, j ≤ m → ∃ t, (∀ x, x < m → bitN (gw 0 bs m j) x = 1 → t ≤ supS bs x) ∧ (∀ x, x < m → bitN (gw 0 bs m j) x = 0 → supS bs x ≤ t)
  | 0, _ => ⟨1 * bs.length, fun x _ h => by
      have : bitN (gw 0 bs m 0) x = 0 := by show 0 / 2 ^ x % 2 = 0; simp
      omega, fun x _ _ => sm_most fun b _ => bitN_le _ _⟩
  | j + 1, hj => by
    obtain ⟨t, h1, h2⟩ := appr_inv hm hr j (by omega)
    obtain ⟨hn, hfree, hbest⟩ := nm_facts 0 bs hm (show j < m from by omega)
    have h32 : 2 ^ m ≤ 2 ^ 5 := Nat.pow_le_pow_right (by omega) hm
    have hw := (gw_inv 0 bs m hm j (by omega)).1
    refine ⟨supS bs (nm 0 bs m j), fun x hx hb => ?_, fun x hx hb => ?_⟩
    · have h3 := or_bit_fin ⟨gw 0 bs m j, by omega⟩ ⟨nm 0 bs m j, by omega⟩ ⟨x, by omega⟩
      simp only at h3
      rw [gw_succ, h3] at hb
      by_cases e : x = nm 0 bs m j
      · rw [e]; exact Nat.le_refl _
      · rw [if_neg (fun hh => e (congrArg Fin.val hh))] at hb
        exact Nat.le_trans (h2 _ hn hfree) (h1 x hx hb)
    · have h3 := or_bit_fin ⟨gw 0 bs m j, by omega⟩ ⟨nm 0 bs m j, by omega⟩ ⟨x, by omega⟩
      simp only at h3
      rw [gw_succ, h3] at hb
      by_cases e : x = nm 0 bs m j
      · rw [if_pos (Fin.ext e)] at hb; omega
      · rw [if_neg (fun hh => e (congrArg Fin.val hh))] at hb
        have h4 := hbest x hx hb
        rw [gw_succ, appr_more hr (by omega) (by omega) hb, appr_more hr (by omega) (by omega) hfree] at h4
        omega
theorem one_term {y w s t : Nat} (hy : y ≤ 1) (hw : w ≤ 1) (h1 : w = 1 → t ≤ s) (h0 : w = 0 → s ≤ t) : y * s + w * t ≤ w * s + y * t := by
  rcases (show y = 0 ∨ y = 1 from by omega) with rfl | rfl <;> rcases (show w = 0 ∨ w = 1 from by omega) with rfl | rfl
  · omega
  · have := h1 rfl; omega
  · have := h0 rfl; omega
  · omega
theorem high_bit {m w x : Nat} (hw : w < 2 ^ m) (hx : m ≤ x) : bitN w x = 0 := by
  rw [bit0]
  exact Nat.testBit_lt_two_pow (Nat.lt_of_lt_of_le hw (Nat.pow_le_pow_right (by omega) hx))
theorem greedy_best {m K : Nat} {bs : List Int} (hS : seatsB (m : Int) bs (K : Int) = true) : (gw 0 bs m K : Int) ∈ bestL 0 bs (comL (2 ^ m) (K : Int)) := by
  obtain ⟨hok, hk1, hkc⟩ := seats_of hS
  have hm5 : m ≤ 5 := by have := hok.1; omega
  have hr := bal_range hok
  obtain ⟨hw, hp⟩ := gw_inv 0 bs m hm5 K (by omega)
  have h32 : 2 ^ m ≤ 2 ^ 5 := Nat.pow_le_pow_right (by omega) hm5
  have hin : (gw 0 bs m K : Int) ∈ comL (2 ^ m) (K : Int) := comL_iff.2 ⟨_, rfl, hw, by rw [hp]⟩
  rw [bestL_iff (List.length_pos_of_mem hin)]
  refine ⟨hin, fun z hz => ?_⟩
  obtain ⟨y, rfl, hy, hpy⟩ := comL_iff.1 hz
  obtain ⟨t, h1, h0⟩ := appr_inv hm5 hr K (by omega)
  unfold scF
  rw [Int.toNat_natCast, Int.toNat_natCast, appr_sum hr (by omega), appr_sum hr (by omega)]
  have hterm : ∀ x, bitN y x * supS bs x + bitN (gw 0 bs m K) x * t ≤ bitN (gw 0 bs m K) x * supS bs x + bitN y x * t := by
    intro x
    rcases Nat.lt_or_ge x m with hx | hx
    · exact one_term (bitN_le _ _) (bitN_le _ _) (h1 x hx) (h0 x hx)
    · rw [high_bit hw hx, high_bit hy hx]; omega
  have e1 := pc_bits y (by omega)
  have e2 := pc_bits (gw 0 bs m K) (by omega)
  have e3 : pc y * t = pc (gw 0 bs m K) * t := by rw [hp]; congr 1; omega
  rw [e1, e2, Nat.add_mul, Nat.add_mul, Nat.add_mul, Nat.add_mul, Nat.add_mul, Nat.add_mul, Nat.add_mul, Nat.add_mul] at e3
  have t0 := hterm 0
  have t1 := hterm 1
  have t2 := hterm 2
  have t3 := hterm 3
  have t4 := hterm 4
  omega
/-- the committee of the greedy names -/
theorem maskK_app (xs : List Int) (y : Int) : ∀ k, k ≤ xs.length → maskK (xs ++ [y]) k = maskK xs k
  | 0, _ => rfl
  | k + 1, h => by
    have ih := maskK_app xs y k (by omega)
    show maskK (xs ++ [y]) k ||| 2 ^ ((xs ++ [y]).getD k 0).toNat = maskK xs k ||| 2 ^ (xs.getD k 0).toNat
    rw [ih, List.getD_eq_getElem?_getD, List.getElem?_append_left (by omega), ← List.getD_eq_getElem?_getD]
theorem mask_gl (q : Nat) (bs : List Int) {m : Nat} (hm : m ≤ 5) : ∀ j, j ≤ m → maskK (gl q bs m j) j = gw q bs m j ∧ ∀ z ∈ gl q bs m j, 0 ≤ z ∧ z ≤ 4
  | 0, _ => ⟨rfl, fun z hz => by cases hz⟩
  | j + 1, hj => by
    obtain ⟨h1, h2⟩ := mask_gl q bs hm j (by omega)
    have hn := (nm_facts q bs hm (show j < m from by omega)).1
    have hl := gl_length q bs m j
    have he : gl q bs m (j + 1) = gl q bs m j ++ [((nm q bs m j : Nat) : Int)] := rfl
    constructor
    · show maskK (gl q bs m (j + 1)) j ||| 2 ^ ((gl q bs m (j + 1)).getD j 0).toNat = _
      rw [he, maskK_app _ _ _ (by omega), h1, List.getD_eq_getElem?_getD, List.getElem?_append_right (by omega), hl, Nat.sub_self]
      rfl
    · intro z hz
      rw [he, List.mem_append] at hz
      rcases hz with hz | hz
      · exact h2 z hz
      · simp at hz; omega
theorem maskV_gl (q : Nat) (bs : List Int) {m K : Nat} (hm : m ≤ 5) (hK : K ≤ m) : maskV (gl q bs m K) = (gw q bs m K : Int) := by
  obtain ⟨h1, h2⟩ := mask_gl q bs hm K hK
  rw [maskV_yes (fun j hj => by rw [getD_lt hj]; exact h2 _ (mem_of_at hj)), gl_length, h1]
end Go.Proofs.Ytgkaghappogglaa
