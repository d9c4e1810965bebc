/- What the promises of the four rules need: gaps from all votes as a weighted sum of the wanted answers that are lost. -/
import Derived.Test.YtccemllgglfgkaaBestD
import Derived.Test.YtccemllgglfgkaaOpenB
namespace Go.Proofs.Ytccemllgglfgkaa
open Go.RowKit Go.Joins

theorem wt4 : ∀ x : Fin 16, wt x.val = bitN x.val 0 + bitN x.val 1 + bitN x.val 2 + bitN x.val 3 := by decide +kernel
theorem xor_bit : ∀ x y : Fin 16, ∀ j : Fin 4, bitN (x.val ^^^ y.val) j.val = (bitN x.val j.val + bitN y.val j.val) % 2 := by decide +kernel
theorem gp_bits {x v : Nat} (hx : x < 16) (hv : v < 16) : gp (x : Int) (v : Int) = (bitN x 0 + bitN v 0) % 2 + (bitN x 1 + bitN v 1) % 2 + (bitN x 2 + bitN v 2) % 2 + (bitN x 3 + bitN v 3) % 2 := by
  have hxv : x ^^^ v < 16 := Nat.xor_lt_two_pow (n := 4) hx hv
  have h := wt4 ⟨x ^^^ v, hxv⟩
  have h0 := xor_bit ⟨x, hx⟩ ⟨v, hv⟩ 0
  have h1 := xor_bit ⟨x, hx⟩ ⟨v, hv⟩ 1
  have h2 := xor_bit ⟨x, hx⟩ ⟨v, hv⟩ 2
  have h3 := xor_bit ⟨x, hx⟩ ⟨v, hv⟩ 3
  simp only [Fin.isValue, Fin.val_zero, Fin.val_one, Fin.val_two, show ((3 : Fin 4).val) = 3 from rfl] at h h0 h1 h2 h3
  unfold gp
  rw [Int.toNat_natCast, Int.toNat_natCast, h, h0, h1, h2, h3]
/-- how many of the first k votes answer otherwise -/
def cstK (vs : List Int) (k j t : Nat) : Nat := if t = 1 then k - supK vs j k else supK vs j k
theorem cst_step (vs : List Int) (k j t : Nat) (ht : t ≤ 1) : cstK vs (k + 1) j t = cstK vs k j t + (t + bitN (vs.getD k 0).toNat j) % 2 := by
  have h1 := supK_le vs j k
  have h2 := bitN_le (vs.getD k 0).toNat j
  unfold cstK
  rw [show supK vs j (k + 1) = supK vs j k + bitN (vs.getD k 0).toNat j from rfl]
  rcases (show t = 0 ∨ t = 1 from by omega) with rfl | rfl
  · rw [if_neg (by omega), if_neg (by omega)]; omega
  · rw [if_pos rfl, if_pos rfl]; omega
theorem tot_cst {vs : List Int} {x : Nat} (hx : x < 16) (hr : ∀ v ∈ vs, 0 ≤ v ∧ v ≤ 15) : ∀ k, k ≤ vs.length → totK vs (x : Int) k = cstK vs k 0 (bitN x 0) + cstK vs k 1 (bitN x 1) + cstK vs k 2 (bitN x 2) + cstK vs k 3 (bitN x 3)
  | 0, _ => by simp [totK, cstK, supK]
  | k + 1, h => by
    have ih := tot_cst hx hr k (by omega)
    have hm := hr _ (mem_of_at (zs := vs) (k := k) h)
    obtain ⟨v, hv⟩ := Int.eq_ofNat_of_zero_le hm.1
    have hg : vs.getD k 0 = (v : Int) := by rw [getD_lt (show k < vs.length from h)]; exact hv
    have hb := gp_bits (x := x) (v := v) hx (by omega)
    have e : (vs.getD k 0).toNat = v := by rw [hg]; simp
    rw [totK, ih, hg, hb, cst_step _ _ _ _ (bitN_le x 0), cst_step _ _ _ _ (bitN_le x 1), cst_step _ _ _ _ (bitN_le x 2), cst_step _ _ _ _ (bitN_le x 3), e]
    omega

theorem bit_push : ∀ k : Fin 4, ∀ a : Fin 16, ∀ j : Fin 4, a.val < 2 ^ k.val → bitN (a.val + 2 ^ k.val) j.val = if j.val = k.val then 1 else bitN a.val j.val := by decide +kernel
theorem bit_high : ∀ k : Fin 5, ∀ a : Fin 16, ∀ j : Fin 4, a.val < 2 ^ k.val → k.val ≤ j.val → bitN a.val j.val = 0 := by decide +kernel
theorem pow_16 {k a : Nat} (hk : k ≤ 4) (ha : a < 2 ^ k) : a < 16 := Nat.lt_of_lt_of_le ha (Nat.pow_le_pow_right (n := 2) (by omega) hk)
theorem bitC (vs : List Int) (j : Nat) (hj : j < 4) : ∀ k, k ≤ 4 → bitN (wantC vs k) j = if j < k ∧ 2 * supN vs j ≠ vs.length then 1 else 0
  | 0, _ => by simp [wantC, bitN]
  | k + 1, h => by
    have ih := bitC vs j hj k (by omega)
    have hlt := wantC_lt vs k
    have h16 := pow_16 (show k ≤ 4 by omega) hlt
    by_cases he : 2 * supN vs k = vs.length
    · rw [wantC_no he, ih]
      by_cases hjk : j < k
      · simp [hjk, show j < k + 1 by omega]
      · rw [if_neg (by omega), if_neg]
        rintro ⟨h1, h2⟩
        obtain rfl : j = k := by omega
        exact h2 he
    · have hp := bit_push ⟨k, by omega⟩ ⟨wantC vs k, h16⟩ ⟨j, hj⟩ hlt
      simp only at hp
      rw [wantC_yes he, hp, ih]
      by_cases hjk : j = k
      · subst hjk
        rw [if_pos rfl, if_pos ⟨by omega, he⟩]
      · rw [if_neg hjk]
        by_cases hjl : j < k
        · simp [hjl, show j < k + 1 by omega]
        · rw [if_neg (by omega), if_neg (by omega)]
theorem bitB (vs : List Int) (j : Nat) (hj : j < 4) : ∀ k, k ≤ 4 → bitN (wantB vs k) j = if j < k ∧ vs.length < 2 * supN vs j then 1 else 0
  | 0, _ => by simp [wantB, bitN]
  | k + 1, h => by
    have ih := bitB vs j hj k (by omega)
    have hlt := wantB_lt vs k
    have h16 := pow_16 (show k ≤ 4 by omega) hlt
    by_cases he : vs.length < 2 * supN vs k
    · have hp := bit_push ⟨k, by omega⟩ ⟨wantB vs k, h16⟩ ⟨j, hj⟩ hlt
      simp only at hp
      rw [wantB_yes he, hp, ih]
      by_cases hjk : j = k
      · subst hjk
        rw [if_pos rfl, if_pos ⟨by omega, he⟩]
      · rw [if_neg hjk]
        by_cases hjl : j < k
        · simp [hjl, show j < k + 1 by omega]
        · rw [if_neg (by omega), if_neg (by omega)]
    · rw [wantB_no he, ih]
      by_cases hjk : j < k
      · simp [hjk, show j < k + 1 by omega]
      · rw [if_neg (by omega), if_neg]
        rintro ⟨h1, h2⟩
        obtain rfl : j = k := by omega
        exact he h2
theorem lost_bit : ∀ x b c : Fin 16, ∀ j : Fin 4, bitN ((x.val ^^^ b.val) &&& c.val) j.val = if bitN c.val j.val = 1 ∧ bitN x.val j.val ≠ bitN b.val j.val then 1 else 0 := by decide +kernel

/-- how much more it costs not to give a wanted answer -/
def wj (vs : List Int) (j : Nat) : Nat := if vs.length < 2 * supN vs j then 2 * supN vs j - vs.length else vs.length - 2 * supN vs j
def bj (vs : List Int) (m j : Nat) : Nat := if j < m ∧ vs.length < 2 * supN vs j then vs.length - supN vs j else supN vs j
theorem cst_arith (n s t : Nat) (p : Prop) [Decidable p] (hs : s ≤ n) (ht : t = 0 ∨ t = 1) (h0 : ¬ p → t = 0) :
    (if t = 1 then n - s else s) = (if p ∧ n < 2 * s then n - s else s) + (if (if p ∧ 2 * s ≠ n then 1 else 0) = 1 ∧ t ≠ (if p ∧ n < 2 * s then 1 else 0) then 1 else 0) * (if n < 2 * s then 2 * s - n else n - 2 * s) := by
  by_cases hp : p
  · by_cases h1 : n < 2 * s
    · have h2 : ¬ 2 * s = n := by omega
      rcases ht with rfl | rfl
      · simp [hp, h1, h2]; omega
      · simp [hp, h1]
    · by_cases h2 : 2 * s = n
      · rcases ht with rfl | rfl <;> simp [hp, h2] <;> omega
      · rcases ht with rfl | rfl
        · simp [hp, h1, h2]
        · simp [hp, h1, h2]; omega
  · obtain rfl := h0 hp
    simp [hp]
theorem cst_lost {vs : List Int} {m x : Nat} (hm : m ≤ 4) (hx : x < 2 ^ m) (j : Nat) (hj : j < 4) :
    cstK vs vs.length j (bitN x j) = bj vs m j + bitN (lostN (wantC vs m) (wantB vs m) (x : Int)) j * wj vs j := by
  have hx16 := pow_16 hm hx
  have hc := pow_16 hm (wantC_lt vs m)
  have hb := pow_16 hm (wantB_lt vs m)
  have hl := lost_bit ⟨x, hx16⟩ ⟨wantB vs m, hb⟩ ⟨wantC vs m, hc⟩ ⟨j, hj⟩
  simp only at hl
  have e : lostN (wantC vs m) (wantB vs m) (x : Int) = (x ^^^ wantB vs m) &&& wantC vs m := by unfold lostN; rw [Int.toNat_natCast]
  have hs := supN_le vs j
  have hbx := bitN_le x j
  have h0 : ¬ j < m → bitN x j = 0 := fun hjm => by
    have := bit_high ⟨m, by omega⟩ ⟨x, hx16⟩ ⟨j, hj⟩ hx (by simp only; omega)
    simpa only using this
  rw [e, hl, bitC vs j hj m hm, bitB vs j hj m hm]
  unfold cstK bj wj
  exact cst_arith _ _ _ _ hs (by omega) h0
theorem wj_pos {vs : List Int} {m j : Nat} (hm : m ≤ 4) (hj : j < 4) (h : bitN (wantC vs m) j = 1) : 0 < wj vs j := by
  rw [bitC vs j hj m hm] at h
  unfold wj
  split at h
  · split <;> omega
  · omega
def base4 (vs : List Int) (m : Nat) : Nat := bj vs m 0 + bj vs m 1 + bj vs m 2 + bj vs m 3
def wsum4 (vs : List Int) (l : Nat) : Nat := bitN l 0 * wj vs 0 + bitN l 1 * wj vs 1 + bitN l 2 * wj vs 2 + bitN l 3 * wj vs 3
theorem tot_lost {vs : List Int} {m x : Nat} (hm : m ≤ 4) (hx : x < 2 ^ m) (hr : ∀ v ∈ vs, 0 ≤ v ∧ v ≤ 15) : totN vs (x : Int) = base4 vs m + wsum4 vs (lostN (wantC vs m) (wantB vs m) (x : Int)) := by
  unfold totN
  rw [tot_cst (pow_16 hm hx) hr _ (Nat.le_refl _), cst_lost hm hx 0 (by omega), cst_lost hm hx 1 (by omega), cst_lost hm hx 2 (by omega), cst_lost hm hx 3 (by omega)]
  unfold base4 wsum4
  omega
theorem sub_bits : ∀ p q : Fin 16, p.val &&& q.val = p.val → ∀ j : Fin 4, bitN p.val j.val ≤ bitN q.val j.val := by decide +kernel
theorem sub_less : ∀ p q : Fin 16, p.val &&& q.val = p.val → p.val ≠ q.val → ∃ j : Fin 4, bitN p.val j.val = 0 ∧ bitN q.val j.val = 1 := by decide +kernel
theorem sub_wt : ∀ p q : Fin 16, p.val &&& q.val = p.val → p.val ≠ q.val → wt p.val < wt q.val := by decide +kernel
theorem and_bit : ∀ p c : Fin 16, p.val &&& c.val = p.val → ∀ j : Fin 4, bitN p.val j.val = 1 → bitN c.val j.val = 1 := by decide +kernel
theorem and_self16 (p c : Nat) : (p &&& c) &&& c = p &&& c := by rw [Nat.and_assoc, Nat.and_self]
theorem wsum_less {vs : List Int} {m p q : Nat} (hm : m ≤ 4) (hp : p < 16) (hq : q < 16) (h : p &&& q = p) (hne : p ≠ q) (hc : q &&& wantC vs m = q) : wsum4 vs p < wsum4 vs q := by
  have hC := pow_16 hm (wantC_lt vs m)
  have s := sub_bits ⟨p, hp⟩ ⟨q, hq⟩ h
  have m0 := Nat.mul_le_mul_right (wj vs 0) (s 0)
  have m1 := Nat.mul_le_mul_right (wj vs 1) (s 1)
  have m2 := Nat.mul_le_mul_right (wj vs 2) (s 2)
  have m3 := Nat.mul_le_mul_right (wj vs 3) (s 3)
  obtain ⟨j, h0, h1⟩ := sub_less ⟨p, hp⟩ ⟨q, hq⟩ h hne
  have hw := wj_pos hm j.isLt (and_bit ⟨q, hq⟩ ⟨wantC vs m, hC⟩ hc j h1)
  have hs : bitN p j.val * wj vs j.val < bitN q j.val * wj vs j.val := by
    simp only at h0 h1
    rw [h0, h1]; omega
  simp only [Fin.isValue, Fin.val_zero, Fin.val_one, Fin.val_two, show ((3 : Fin 4).val) = 3 from rfl] at m0 m1 m2 m3
  unfold wsum4
  match j, hs with
  | 0, hs => simp only [Fin.isValue, Fin.val_zero] at hs; omega
  | 1, hs => simp only [Fin.isValue, Fin.val_one] at hs; omega
  | 2, hs => simp only [Fin.isValue, Fin.val_two] at hs; omega
  | 3, hs => simp only [Fin.isValue, show ((3 : Fin 4).val) = 3 from rfl] at hs; omega
theorem wsum_zero (vs : List Int) : wsum4 vs 0 = 0 := by simp [wsum4, bitN]

/-- A judgment of the space as a number. -/
theorem zs_nat {n : Int} {zs : List Int} (h : Valid n zs) {x : Int} (hx : x ∈ zs) : ∃ z : Nat, x = (z : Int) ∧ z < 2 ^ n.toNat ∧ z < 16 := by
  obtain ⟨i, hi, e⟩ := List.getElem_of_mem hx
  have h1 := (h.2.2 i hi).1
  rw [getD_lt hi, e] at h1
  have h2 := valid_range h x hx
  unfold pw at h1
  exact ⟨x.toNat, by omega, by omega, by omega⟩
theorem kept_less {n : Int} {zs vs : List Int} (h : vvB n zs vs = true) {x y : Int} (hx : x ∈ zs) (hy : y ∈ zs) (hk : keptB (wantC vs n.toNat) (wantB vs n.toNat) y x = true) : totN vs y < totN vs x := by
  obtain ⟨hV, hO⟩ := vv_of h
  have hm : n.toNat ≤ 4 := by have := hV.1; omega
  have hr := votes_range hV hO
  obtain ⟨a, rfl, ha, _⟩ := zs_nat hV hx
  obtain ⟨b, rfl, hb, _⟩ := zs_nat hV hy
  have hC := pow_16 hm (wantC_lt vs n.toNat)
  unfold keptB at hk
  rw [Bool.and_eq_true, beq_iff_eq, bne_iff_ne] at hk
  rw [tot_lost hm ha hr, tot_lost hm hb hr]
  have := wsum_less hm (lostN_lt _ hC) (lostN_lt _ hC) hk.1 hk.2 (by unfold lostN; exact and_self16 _ _)
  omega
theorem more_of_kept {c b : Nat} {x y : Int} (hc : c < 16) (hk : keptB c b y x = true) : wt (lostN c b y) < wt (lostN c b x) := by
  unfold keptB at hk
  rw [Bool.and_eq_true, beq_iff_eq, bne_iff_ne] at hk
  exact sub_wt ⟨_, lostN_lt _ hc⟩ ⟨_, lostN_lt _ hc⟩ hk.1 hk.2
theorem lost_zero : ∀ x b c : Fin 16, b.val &&& c.val = b.val → (((x.val ^^^ b.val) &&& c.val = 0) ↔ (x.val &&& c.val = b.val)) := by decide +kernel
theorem want_sub {vs : List Int} {m : Nat} (hm : m ≤ 4) : wantB vs m &&& wantC vs m = wantB vs m := want_and vs m hm
/-- who gives all wanted answers -/
theorem lost_iff {n : Int} {zs vs : List Int} (h : vvB n zs vs = true) {x : Int} (hx : x ∈ zs) : lostN (wantC vs n.toNat) (wantB vs n.toNat) x = 0 ↔ x.toNat &&& wantC vs n.toNat = wantB vs n.toNat := by
  obtain ⟨hV, hO⟩ := vv_of h
  have hm : n.toNat ≤ 4 := by have := hV.1; omega
  obtain ⟨a, rfl, _, ha⟩ := zs_nat hV hx
  have := lost_zero ⟨a, ha⟩ ⟨wantB vs n.toNat, pow_16 hm (wantB_lt vs _)⟩ ⟨wantC vs n.toNat, pow_16 hm (wantC_lt vs _)⟩ (want_sub hm)
  unfold lostN
  rw [Int.toNat_natCast]
  exact this
theorem set_iff {n : Int} {zs vs : List Int} (h : vvB n zs vs = true) : setB n zs vs = true ↔ ∃ x ∈ zs, lostN (wantC vs n.toNat) (wantB vs n.toNat) x = 0 := by
  rw [setB_yes h]
  unfold openB
  rw [List.any_eq_true]
  constructor
  · rintro ⟨x, hx, e⟩
    refine ⟨x, hx, (lost_iff h hx).2 ?_⟩
    unfold hpB at e
    simpa using e
  · rintro ⟨x, hx, e⟩
    refine ⟨x, hx, ?_⟩
    unfold hpB
    simpa using (lost_iff h hx).1 e
theorem mem_unb {b : Int → Int → Bool} {zs : List Int} {x : Int} : x ∈ unbL b zs ↔ x ∈ zs ∧ ∀ y ∈ zs, b y x = false := by
  unfold unbL unbP
  rw [List.mem_filter, Bool.not_eq_true', List.any_eq_false]
  exact ⟨fun h => ⟨h.1, fun y hy => by simpa using h.2 y hy⟩, fun h => ⟨h.1, fun y hy => by simp [h.2 y hy]⟩⟩
theorem bestM_sub {n : Int} {zs vs : List Int} {x : Int} (h : x ∈ bestM n zs vs) : x ∈ zs := by
  unfold bestM at h
  split at h
  · exact (mem_unb.1 h).1
  · simp at h
theorem near_mem (f : Int → Nat) (zs : List Int) (hpos : 0 < zs.length) : ∃ x, x ∈ unbL (fun y x => decide (f y < f x)) zs := by
  obtain ⟨z, hz, e⟩ := leastF_at f zs hpos zs.length (Nat.le_refl _)
  refine ⟨z, mem_unb.2 ⟨hz, fun y hy => ?_⟩⟩
  obtain ⟨i, hi, rfl⟩ := List.getElem_of_mem hy
  have := leastF_le f zs zs.length i hi
  rw [getD_lt hi] at this
  exact decide_eq_false (by omega)
theorem asc_best {n : Int} {zs : List Int} (h : Valid n zs) (i : Nat) : ∀ j, i < j → j < zs.length → zs.getD i 0 < zs.getD j 0
  | 0, h1, _ => by omega
  | j + 1, h1, h2 => by
    have hs := (h.2.2 (j + 1) h2).2 (by omega)
    rw [Nat.add_sub_cancel] at hs
    rcases Nat.lt_or_ge i j with hlt | hge
    · have := asc_best h i j hlt (by omega)
      omega
    · obtain rfl : i = j := by omega
      exact hs
theorem ups_unb {n : Int} {zs : List Int} (h : Valid n zs) (b : Int → Int → Bool) : ∀ i, i < (unbL b zs).length → 0 < i → (unbL b zs).getD (i - 1) 0 < (unbL b zs).getD i 0 := by
  have hp0 : zs.Pairwise (· < ·) := by
    rw [List.pairwise_iff_getElem]
    intro i j hi hj hij
    have := asc_best h i j hij hj
    rwa [getD_lt hi, getD_lt hj] at this
  have hp : (unbL b zs).Pairwise (· < ·) := List.Pairwise.filter (unbP b zs) hp0
  intro i hi h0
  have := (List.pairwise_iff_getElem.1 hp) (i - 1) i (by omega) hi (by omega)
  rwa [getD_lt hi, getD_lt (by omega)]
/-- What the promise of MedianRule needs. -/
theorem median_facts {n : Int} {zs vs : List Int} (h : vvB n zs vs = true) :
    0 < (bestA n zs vs).length ∧ (∀ x ∈ bestA n zs vs, x ∈ bestK n zs vs) ∧ (setB n zs vs = true → ∀ z ∈ zs, hasB (bestA n zs vs) z = (z.toNat &&& wantC vs n.toNat == wantB vs n.toNat)) := by
  obtain ⟨hV, hO⟩ := vv_of h
  have hm : n.toNat ≤ 4 := by have := hV.1; omega
  have hr := votes_range hV hO
  rw [bestA_yes h, bestK_yes h]
  refine ⟨?_, fun x hx => ?_, fun hs z hz => ?_⟩
  · obtain ⟨x, hx⟩ := near_mem (totN vs) zs hV.2.1
    exact List.length_pos_of_mem hx
  · rw [mem_unb] at hx ⊢
    refine ⟨hx.1, fun y hy => ?_⟩
    by_cases hk : keptB (wantC vs n.toNat) (wantB vs n.toNat) y x = true
    · have := kept_less h hx.1 hy hk
      have h2 := hx.2 y hy
      simp only [decide_eq_false_iff_not] at h2
      omega
    · simpa using hk
  · obtain ⟨x0, hx0, e0⟩ := (set_iff h).1 hs
    obtain ⟨a, rfl, ha, _⟩ := zs_nat hV hx0
    obtain ⟨c, rfl, hc, hc16⟩ := zs_nat hV hz
    have t0 := tot_lost hm ha hr
    have tz := tot_lost hm hc hr
    rw [e0, wsum_zero] at t0
    have hC := pow_16 hm (wantC_lt vs n.toNat)
    have hl := lost_iff h hz
    rw [Int.toNat_natCast] at hl ⊢
    rw [Bool.eq_iff_iff, beq_iff_eq, ← hl]
    unfold hasB
    rw [decide_eq_true_eq, mem_unb]
    constructor
    · rintro ⟨_, hall⟩
      have h1 := hall _ hx0
      simp only [decide_eq_false_iff_not] at h1
      by_cases hz0 : lostN (wantC vs n.toNat) (wantB vs n.toNat) (c : Int) = 0
      · exact hz0
      · have := wsum_less (vs := vs) (p := 0) hm (by omega) (lostN_lt (b := wantB vs n.toNat) (c : Int) hC) (by simp) (fun e => hz0 e.symm) (by unfold lostN; exact and_self16 _ _)
        omega
    · intro e
      rw [e, wsum_zero] at tz
      refine ⟨hz, fun y hy => ?_⟩
      obtain ⟨d, rfl, hd, _⟩ := zs_nat hV hy
      have td := tot_lost hm hd hr
      exact decide_eq_false (by omega)
/-- What the promise of SlaterRule needs. -/
theorem slater_facts {n : Int} {zs vs : List Int} (h : vvB n zs vs = true) :
    0 < (bestM n zs vs).length ∧ (∀ x ∈ bestM n zs vs, x ∈ bestK n zs vs) ∧ (∀ x ∈ bestM n zs vs, ∀ z ∈ zs, wt (lostN (wantC vs n.toNat) (wantB vs n.toNat) x) ≤ wt (lostN (wantC vs n.toNat) (wantB vs n.toNat) z)) ∧
      (∀ x ∈ bestM n zs vs, ∀ z ∈ zs, hasB (bestM n zs vs) z = (wt (lostN (wantC vs n.toNat) (wantB vs n.toNat) z) == wt (lostN (wantC vs n.toNat) (wantB vs n.toNat) x))) := by
  obtain ⟨hV, hO⟩ := vv_of h
  have hm : n.toNat ≤ 4 := by have := hV.1; omega
  have hC := pow_16 hm (wantC_lt vs n.toNat)
  rw [bestM_yes h, bestK_yes h]
  have le : ∀ x ∈ unbL (fun y x => moreB (wantC vs n.toNat) (wantB vs n.toNat) y x) zs, ∀ z ∈ zs, wt (lostN (wantC vs n.toNat) (wantB vs n.toNat) x) ≤ wt (lostN (wantC vs n.toNat) (wantB vs n.toNat) z) := fun x hx z hz => by
    have := (mem_unb.1 hx).2 z hz
    unfold moreB at this
    simp only [decide_eq_false_iff_not] at this
    omega
  refine ⟨?_, fun x hx => ?_, le, fun x hx z hz => ?_⟩
  · obtain ⟨x, hx⟩ := near_mem (fun x => wt (lostN (wantC vs n.toNat) (wantB vs n.toNat) x)) zs hV.2.1
    exact List.length_pos_of_mem hx
  · have hx' := mem_unb.1 hx
    refine mem_unb.2 ⟨hx'.1, fun y hy => ?_⟩
    by_cases hk : keptB (wantC vs n.toNat) (wantB vs n.toNat) y x = true
    · have h1 := more_of_kept hC hk
      have h2 := le x hx y hy
      omega
    · simpa using hk
  · have hx' := mem_unb.1 hx
    have h1 := le x hx z hz
    rw [Bool.eq_iff_iff, beq_iff_eq]
    unfold hasB
    rw [decide_eq_true_eq, mem_unb]
    constructor
    · rintro ⟨_, hall⟩
      have := hall x hx'.1
      unfold moreB at this
      simp only [decide_eq_false_iff_not] at this
      omega
    · intro e
      refine ⟨hz, fun y hy => ?_⟩
      have := le x hx y hy
      unfold moreB
      exact decide_eq_false (by omega)
end Go.Proofs.Ytccemllgglfgkaa
