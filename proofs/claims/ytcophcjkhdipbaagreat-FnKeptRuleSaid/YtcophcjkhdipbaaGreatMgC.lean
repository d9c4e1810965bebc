/- Texts of this seat one behind the other: BestM, TurnM, TurnN, RankN, RuleW, PKept. Conditions: none. -/
import Derived.Test.YtcophcjkhdipbaaGreatMgB
import Derived.Test.YtcophcjkhdipbaaGreatOpenB
import Derived.Test.YtcophcjkhdipbaaGreatMgA
import Derived.Test.YtcophcjkhdipbaaGreatLawH
import Derived.Test.YtcophcjkhdipbaaGreatSet
import Derived.Test.YtcophcjkhdipbaaGreatDrawT
import Derived.Deep.RegionHeld3

/- BestM: What the promises of the four rules need: gaps from all votes as a weighted sum of the wanted answers that are lost. -/
namespace Go.Proofs.YtcophcjkhdipbaaGreat
open Go.RowKit Go.Joins

theorem wt4 : ∀ x : Fin 16, wt x.val = bitN x.val 0 + bitN x.val 1 + bitN x.val 2 + bitN x.val 3 := by decide +kernel
theorem xor_bit : ∀ x y : Fin 16, ∀ j : Fin 4, bitN (x.val ^^^ y.val) j.val = (bitN x.val j.val + bitN y.val j.val) % 2 := by decide +kernel
theorem gp_bits {x v : Nat} (hx : x < 16) (hv : v < 16) : gp (x : Int) (v : Int) = (bitN x 0 + bitN v 0) % 2 + (bitN x 1 + bitN v 1) % 2 + (bitN x 2 + bitN v 2) % 2 + (bitN x 3 + bitN v 3) % 2 := by
  have hxv : x ^^^ v < 16 := Nat.xor_lt_two_pow (n := 4) hx hv
  have h := wt4 ⟨x ^^^ v, hxv⟩
  have h0 := xor_bit ⟨x, hx⟩ ⟨v, hv⟩ 0
  have h1 := xor_bit ⟨x, hx⟩ ⟨v, hv⟩ 1
  have h2 := xor_bit ⟨x, hx⟩ ⟨v, hv⟩ 2
  have h3 := xor_bit ⟨x, hx⟩ ⟨v, hv⟩ 3
  simp only [Fin.isValue, Fin.val_zero, Fin.val_one, Fin.val_two, show ((3 : Fin 4).val) = 3 from rfl] at h h0 h1 h2 h3
  unfold gp
  rw [Int.toNat_natCast, Int.toNat_natCast, h, h0, h1, h2, h3]
/-- how many of the first k votes answer otherwise -/
def cstK (vs : List Int) (k j t : Nat) : Nat := if t = 1 then k - supK vs j k else supK vs j k
theorem cst_step (vs : List Int) (k j t : Nat) (ht : t ≤ 1) : cstK vs (k + 1) j t = cstK vs k j t + (t + bitN (vs.getD k 0).toNat j) % 2 := by
  have h1 := supK_le vs j k
  have h2 := bitN_le (vs.getD k 0).toNat j
  unfold cstK
  rw [show supK vs j (k + 1) = supK vs j k + bitN (vs.getD k 0).toNat j from rfl]
  rcases (show t = 0 ∨ t = 1 from by omega) with rfl | rfl
  · rw [if_neg (by omega), if_neg (by omega)]; omega
  · rw [if_pos rfl, if_pos rfl]; omega
theorem tot_cst {vs : List Int} {x : Nat} (hx : x < 16) (hr : ∀ v ∈ vs, 0 ≤ v ∧ v ≤ 15) : ∀ k, k ≤ vs.length → totK vs (x : Int) k = cstK vs k 0 (bitN x 0) + cstK vs k 1 (bitN x 1) + cstK vs k 2 (bitN x 2) + cstK vs k 3 (bitN x 3)
  | 0, _ => by simp [totK, cstK, supK]
  | k + 1, h => by
    have ih := tot_cst hx hr k (by omega)
    have hm := hr _ (mem_of_at (zs := vs) (k := k) h)
    obtain ⟨v, hv⟩ := Int.eq_ofNat_of_zero_le hm.1
    have hg : vs.getD k 0 = (v : Int) := by rw [getD_lt (show k < vs.length from h)]; exact hv
    have hb := gp_bits (x := x) (v := v) hx (by omega)
    have e : (vs.getD k 0).toNat = v := by rw [hg]; simp
    rw [totK, ih, hg, hb, cst_step _ _ _ _ (bitN_le x 0), cst_step _ _ _ _ (bitN_le x 1), cst_step _ _ _ _ (bitN_le x 2), cst_step _ _ _ _ (bitN_le x 3), e]
    omega

theorem bit_push : ∀ k : Fin 4, ∀ a : Fin 16, ∀ j : Fin 4, a.val < 2 ^ k.val → bitN (a.val + 2 ^ k.val) j.val = if j.val = k.val then 1 else bitN a.val j.val := by decide +kernel
theorem bit_high : ∀ k : Fin 5, ∀ a : Fin 16, ∀ j : Fin 4, a.val < 2 ^ k.val → k.val ≤ j.val → bitN a.val j.val = 0 := by decide +kernel
theorem pow_16 {k a : Nat} (hk : k ≤ 4) (ha : a < 2 ^ k) : a < 16 := Nat.lt_of_lt_of_le ha (Nat.pow_le_pow_right (n := 2) (by omega) hk)
theorem bitC (vs : List Int) (j : Nat) (hj : j < 4) : ∀ k, k ≤ 4 → bitN (wantC vs k) j = if j < k ∧ 2 * supN vs j ≠ vs.length then 1 else 0
  | 0, _ => by simp [wantC, bitN]
  | k + 1, h => by
    have ih := bitC vs j hj k (by omega)
    have hlt := wantC_lt vs k
    have h16 := pow_16 (show k ≤ 4 by omega) hlt
    by_cases he : 2 * supN vs k = vs.length
    · rw [wantC_no he, ih]
      by_cases hjk : j < k
      · simp [hjk, show j < k + 1 by omega]
      · rw [if_neg (by omega), if_neg]
        rintro ⟨h1, h2⟩
        obtain rfl : j = k := by omega
        exact h2 he
    · have hp := bit_push ⟨k, by omega⟩ ⟨wantC vs k, h16⟩ ⟨j, hj⟩ hlt
      simp only at hp
      rw [wantC_yes he, hp, ih]
      by_cases hjk : j = k
      · subst hjk
        rw [if_pos rfl, if_pos ⟨by omega, he⟩]
      · rw [if_neg hjk]
        by_cases hjl : j < k
        · simp [hjl, show j < k + 1 by omega]
        · rw [if_neg (by omega), if_neg (by omega)]
theorem bitB (vs : List Int) (j : Nat) (hj : j < 4) : ∀ k, k ≤ 4 → bitN (wantB vs k) j = if j < k ∧ vs.length < 2 * supN vs j then 1 else 0
  | 0, _ => by simp [wantB, bitN]
  | k + 1, h => by
    have ih := bitB vs j hj k (by omega)
    have hlt := wantB_lt vs k
    have h16 := pow_16 (show k ≤ 4 by omega) hlt
    by_cases he : vs.length < 2 * supN vs k
    · have hp := bit_push ⟨k, by omega⟩ ⟨wantB vs k, h16⟩ ⟨j, hj⟩ hlt
      simp only at hp
      rw [wantB_yes he, hp, ih]
      by_cases hjk : j = k
      · subst hjk
        rw [if_pos rfl, if_pos ⟨by omega, he⟩]
      · rw [if_neg hjk]
        by_cases hjl : j < k
        · simp [hjl, show j < k + 1 by omega]
        · rw [if_neg (by omega), if_neg (by omega)]
    · rw [wantB_no he, ih]
      by_cases hjk : j < k
      · simp [hjk, show j < k + 1 by omega]
      · rw [if_neg (by omega), if_neg]
        rintro ⟨h1, h2⟩
        obtain rfl : j = k := by omega
        exact he h2
theorem lost_bit : ∀ x b c : Fin 16, ∀ j : Fin 4, bitN ((x.val ^^^ b.val) &&& c.val) j.val = if bitN c.val j.val = 1 ∧ bitN x.val j.val ≠ bitN b.val j.val then 1 else 0 := by decide +kernel

/-- how much more it costs not to give a wanted answer -/
def wj (vs : List Int) (j : Nat) : Nat := if vs.length < 2 * supN vs j then 2 * supN vs j - vs.length else vs.length - 2 * supN vs j
def bj (vs : List Int) (m j : Nat) : Nat := if j < m ∧ vs.length < 2 * supN vs j then vs.length - supN vs j else supN vs j
theorem cst_arith (n s t : Nat) (p : Prop) [Decidable p] (hs : s ≤ n) (ht : t = 0 ∨ t = 1) (h0 : ¬ p → t = 0) :
    (if t = 1 then n - s else s) = (if p ∧ n < 2 * s then n - s else s) + (if (if p ∧ 2 * s ≠ n then 1 else 0) = 1 ∧ t ≠ (if p ∧ n < 2 * s then 1 else 0) then 1 else 0) * (if n < 2 * s then 2 * s - n else n - 2 * s) := by
  by_cases hp : p
  · by_cases h1 : n < 2 * s
    · have h2 : ¬ 2 * s = n := by omega
      rcases ht with rfl | rfl
      · simp [hp, h1, h2]; omega
      · simp [hp, h1]
    · by_cases h2 : 2 * s = n
      · rcases ht with rfl | rfl <;> simp [hp, h2] <;> omega
      · rcases ht with rfl | rfl
        · simp [hp, h1, h2]
        · simp [hp, h1, h2]; omega
  · obtain rfl := h0 hp
    simp [hp]
theorem cst_lost {vs : List Int} {m x : Nat} (hm : m ≤ 4) (hx : x < 2 ^ m) (j : Nat) (hj : j < 4) :
    cstK vs vs.length j (bitN x j) = bj vs m j + bitN (lostN (wantC vs m) (wantB vs m) (x : Int)) j * wj vs j := by
  have hx16 := pow_16 hm hx
  have hc := pow_16 hm (wantC_lt vs m)
  have hb := pow_16 hm (wantB_lt vs m)
  have hl := lost_bit ⟨x, hx16⟩ ⟨wantB vs m, hb⟩ ⟨wantC vs m, hc⟩ ⟨j, hj⟩
  simp only at hl
  have e : lostN (wantC vs m) (wantB vs m) (x : Int) = (x ^^^ wantB vs m) &&& wantC vs m := by unfold lostN; rw [Int.toNat_natCast]
  have hs := supN_le vs j
  have hbx := bitN_le x j
  have h0 : ¬ j < m → bitN x j = 0 := fun hjm => by
    have := bit_high ⟨m, by omega⟩ ⟨x, hx16⟩ ⟨j, hj⟩ hx (by simp only; omega)
    simpa only using this
  rw [e, hl, bitC vs j hj m hm, bitB vs j hj m hm]
  unfold cstK bj wj
  exact cst_arith _ _ _ _ hs (by omega) h0
theorem wj_pos {vs : List Int} {m j : Nat} (hm : m ≤ 4) (hj : j < 4) (h : bitN (wantC vs m) j = 1) : 0 < wj vs j := by
  rw [bitC vs j hj m hm] at h
  unfold wj
  split at h
  · split <;> omega
  · omega
def base4 (vs : List Int) (m : Nat) : Nat := bj vs m 0 + bj vs m 1 + bj vs m 2 + bj vs m 3
def wsum4 (vs : List Int) (l : Nat) : Nat := bitN l 0 * wj vs 0 + bitN l 1 * wj vs 1 + bitN l 2 * wj vs 2 + bitN l 3 * wj vs 3
theorem tot_lost {vs : List Int} {m x : Nat} (hm : m ≤ 4) (hx : x < 2 ^ m) (hr : ∀ v ∈ vs, 0 ≤ v ∧ v ≤ 15) : totN vs (x : Int) = base4 vs m + wsum4 vs (lostN (wantC vs m) (wantB vs m) (x : Int)) := by
  unfold totN
  rw [tot_cst (pow_16 hm hx) hr _ (Nat.le_refl _), cst_lost hm hx 0 (by omega), cst_lost hm hx 1 (by omega), cst_lost hm hx 2 (by omega), cst_lost hm hx 3 (by omega)]
  unfold base4 wsum4
  omega
theorem sub_bits : ∀ p q : Fin 16, p.val &&& q.val = p.val → ∀ j : Fin 4, bitN p.val j.val ≤ bitN q.val j.val := by decide +kernel
theorem sub_less : ∀ p q : Fin 16, p.val &&& q.val = p.val → p.val ≠ q.val → ∃ j : Fin 4, bitN p.val j.val = 0 ∧ bitN q.val j.val = 1 := by decide +kernel
theorem sub_wt : ∀ p q : Fin 16, p.val &&& q.val = p.val → p.val ≠ q.val → wt p.val < wt q.val := by decide +kernel
theorem and_bit : ∀ p c : Fin 16, p.val &&& c.val = p.val → ∀ j : Fin 4, bitN p.val j.val = 1 → bitN c.val j.val = 1 := by decide +kernel
theorem and_self16 (p c : Nat) : (p &&& c) &&& c = p &&& c := by rw [Nat.and_assoc, Nat.and_self]
theorem wsum_less {vs : List Int} {m p q : Nat} (hm : m ≤ 4) (hp : p < 16) (hq : q < 16) (h : p &&& q = p) (hne : p ≠ q) (hc : q &&& wantC vs m = q) : wsum4 vs p < wsum4 vs q := by
  have hC := pow_16 hm (wantC_lt vs m)
  have s := sub_bits ⟨p, hp⟩ ⟨q, hq⟩ h
  have m0 := Nat.mul_le_mul_right (wj vs 0) (s 0)
  have m1 := Nat.mul_le_mul_right (wj vs 1) (s 1)
  have m2 := Nat.mul_le_mul_right (wj vs 2) (s 2)
  have m3 := Nat.mul_le_mul_right (wj vs 3) (s 3)
  obtain ⟨j, h0, h1⟩ := sub_less ⟨p, hp⟩ ⟨q, hq⟩ h hne
  have hw := wj_pos hm j.isLt (and_bit ⟨q, hq⟩ ⟨wantC vs m, hC⟩ hc j h1)
  have hs : bitN p j.val * wj vs j.val < bitN q j.val * wj vs j.val := by
    simp only at h0 h1
    rw [h0, h1]; omega
  simp only [Fin.isValue, Fin.val_zero, Fin.val_one, Fin.val_two, show ((3 : Fin 4).val) = 3 from rfl] at m0 m1 m2 m3
  unfold wsum4
  match j, hs with
  | 0, hs => simp only [Fin.isValue, Fin.val_zero] at hs; omega
  | 1, hs => simp only [Fin.isValue, Fin.val_one] at hs; omega
  | 2, hs => simp only [Fin.isValue, Fin.val_two] at hs; omega
  | 3, hs => simp only [Fin.isValue, show ((3 : Fin 4).val) = 3 from rfl] at hs; omega
theorem wsum_zero (vs : List Int) : wsum4 vs 0 = 0 := by simp [wsum4, bitN]

/-- A judgment of the space as a number. -/
theorem zs_nat {n : Int} {zs : List Int} (h : Valid n zs) {x : Int} (hx : x ∈ zs) : ∃ z : Nat, x = (z : Int) ∧ z < 2 ^ n.toNat ∧ z < 16 := by
  obtain ⟨i, hi, e⟩ := List.getElem_of_mem hx
  have h1 := (h.2.2 i hi).1
  rw [getD_lt hi, e] at h1
  have h2 := valid_range h x hx
  unfold pw at h1
  exact ⟨x.toNat, by omega, by omega, by omega⟩
theorem kept_less {n : Int} {zs vs : List Int} (h : vvB n zs vs = true) {x y : Int} (hx : x ∈ zs) (hy : y ∈ zs) (hk : keptB (wantC vs n.toNat) (wantB vs n.toNat) y x = true) : totN vs y < totN vs x := by
  obtain ⟨hV, hO⟩ := vv_of h
  have hm : n.toNat ≤ 4 := by have := hV.1; omega
  have hr := votes_range hV hO
  obtain ⟨a, rfl, ha, _⟩ := zs_nat hV hx
  obtain ⟨b, rfl, hb, _⟩ := zs_nat hV hy
  have hC := pow_16 hm (wantC_lt vs n.toNat)
  unfold keptB at hk
  rw [Bool.and_eq_true, beq_iff_eq, bne_iff_ne] at hk
  rw [tot_lost hm ha hr, tot_lost hm hb hr]
  have := wsum_less hm (lostN_lt _ hC) (lostN_lt _ hC) hk.1 hk.2 (by unfold lostN; exact and_self16 _ _)
  omega
theorem more_of_kept {c b : Nat} {x y : Int} (hc : c < 16) (hk : keptB c b y x = true) : wt (lostN c b y) < wt (lostN c b x) := by
  unfold keptB at hk
  rw [Bool.and_eq_true, beq_iff_eq, bne_iff_ne] at hk
  exact sub_wt ⟨_, lostN_lt _ hc⟩ ⟨_, lostN_lt _ hc⟩ hk.1 hk.2
theorem lost_zero : ∀ x b c : Fin 16, b.val &&& c.val = b.val → (((x.val ^^^ b.val) &&& c.val = 0) ↔ (x.val &&& c.val = b.val)) := by decide +kernel
theorem want_sub {vs : List Int} {m : Nat} (hm : m ≤ 4) : wantB vs m &&& wantC vs m = wantB vs m := want_and vs m hm
/-- who gives all wanted answers -/
theorem lost_iff {n : Int} {zs vs : List Int} (h : vvB n zs vs = true) {x : Int} (hx : x ∈ zs) : lostN (wantC vs n.toNat) (wantB vs n.toNat) x = 0 ↔ x.toNat &&& wantC vs n.toNat = wantB vs n.toNat := by
  obtain ⟨hV, hO⟩ := vv_of h
  have hm : n.toNat ≤ 4 := by have := hV.1; omega
  obtain ⟨a, rfl, _, ha⟩ := zs_nat hV hx
  have := lost_zero ⟨a, ha⟩ ⟨wantB vs n.toNat, pow_16 hm (wantB_lt vs _)⟩ ⟨wantC vs n.toNat, pow_16 hm (wantC_lt vs _)⟩ (want_sub hm)
  unfold lostN
  rw [Int.toNat_natCast]
  exact this
theorem set_iff {n : Int} {zs vs : List Int} (h : vvB n zs vs = true) : setB n zs vs = true ↔ ∃ x ∈ zs, lostN (wantC vs n.toNat) (wantB vs n.toNat) x = 0 := by
  rw [setB_yes h]
  unfold openB
  rw [List.any_eq_true]
  constructor
  · rintro ⟨x, hx, e⟩
    refine ⟨x, hx, (lost_iff h hx).2 ?_⟩
    unfold hpB at e
    simpa using e
  · rintro ⟨x, hx, e⟩
    refine ⟨x, hx, ?_⟩
    unfold hpB
    simpa using (lost_iff h hx).1 e
theorem mem_unb {b : Int → Int → Bool} {zs : List Int} {x : Int} : x ∈ unbL b zs ↔ x ∈ zs ∧ ∀ y ∈ zs, b y x = false := by
  unfold unbL unbP
  rw [List.mem_filter, Bool.not_eq_true', List.any_eq_false]
  exact ⟨fun h => ⟨h.1, fun y hy => by simpa using h.2 y hy⟩, fun h => ⟨h.1, fun y hy => by simp [h.2 y hy]⟩⟩
theorem bestM_sub {n : Int} {zs vs : List Int} {x : Int} (h : x ∈ bestM n zs vs) : x ∈ zs := by
  unfold bestM at h
  split at h
  · exact (mem_unb.1 h).1
  · simp at h
theorem near_mem (f : Int → Nat) (zs : List Int) (hpos : 0 < zs.length) : ∃ x, x ∈ unbL (fun y x => decide (f y < f x)) zs := by
  obtain ⟨z, hz, e⟩ := leastF_at f zs hpos zs.length (Nat.le_refl _)
  refine ⟨z, mem_unb.2 ⟨hz, fun y hy => ?_⟩⟩
  obtain ⟨i, hi, rfl⟩ := List.getElem_of_mem hy
  have := leastF_le f zs zs.length i hi
  rw [getD_lt hi] at this
  exact decide_eq_false (by omega)
theorem asc_best {n : Int} {zs : List Int} (h : Valid n zs) (i : Nat) : ∀ j, i < j → j < zs.length → zs.getD i 0 < zs.getD j 0
  | 0, h1, _ => by omega
  | j + 1, h1, h2 => by
    have hs := (h.2.2 (j + 1) h2).2 (by omega)
    rw [Nat.add_sub_cancel] at hs
    rcases Nat.lt_or_ge i j with hlt | hge
    · have := asc_best h i j hlt (by omega)
      omega
    · obtain rfl : i = j := by omega
      exact hs
theorem ups_unb {n : Int} {zs : List Int} (h : Valid n zs) (b : Int → Int → Bool) : ∀ i, i < (unbL b zs).length → 0 < i → (unbL b zs).getD (i - 1) 0 < (unbL b zs).getD i 0 := by
  have hp0 : zs.Pairwise (· < ·) := by
    rw [List.pairwise_iff_getElem]
    intro i j hi hj hij
    have := asc_best h i j hij hj
    rwa [getD_lt hi, getD_lt hj] at this
  have hp : (unbL b zs).Pairwise (· < ·) := List.Pairwise.filter (unbP b zs) hp0
  intro i hi h0
  have := (List.pairwise_iff_getElem.1 hp) (i - 1) i (by omega) hi (by omega)
  rwa [getD_lt hi, getD_lt (by omega)]
/-- What the promise of MedianRule needs. -/
theorem median_facts {n : Int} {zs vs : List Int} (h : vvB n zs vs = true) :
    0 < (bestA n zs vs).length ∧ (∀ x ∈ bestA n zs vs, x ∈ bestK n zs vs) ∧ (setB n zs vs = true → ∀ z ∈ zs, hasB (bestA n zs vs) z = (z.toNat &&& wantC vs n.toNat == wantB vs n.toNat)) := by
  obtain ⟨hV, hO⟩ := vv_of h
  have hm : n.toNat ≤ 4 := by have := hV.1; omega
  have hr := votes_range hV hO
  rw [bestA_yes h, bestK_yes h]
  refine ⟨?_, fun x hx => ?_, fun hs z hz => ?_⟩
  · obtain ⟨x, hx⟩ := near_mem (totN vs) zs hV.2.1
    exact List.length_pos_of_mem hx
  · rw [mem_unb] at hx ⊢
    refine ⟨hx.1, fun y hy => ?_⟩
    by_cases hk : keptB (wantC vs n.toNat) (wantB vs n.toNat) y x = true
    · have := kept_less h hx.1 hy hk
      have h2 := hx.2 y hy
      simp only [decide_eq_false_iff_not] at h2
      omega
    · simpa using hk
  · obtain ⟨x0, hx0, e0⟩ := (set_iff h).1 hs
    obtain ⟨a, rfl, ha, _⟩ := zs_nat hV hx0
    obtain ⟨c, rfl, hc, hc16⟩ := zs_nat hV hz
    have t0 := tot_lost hm ha hr
    have tz := tot_lost hm hc hr
    rw [e0, wsum_zero] at t0
    have hC := pow_16 hm (wantC_lt vs n.toNat)
    have hl := lost_iff h hz
    rw [Int.toNat_natCast] at hl ⊢
    rw [Bool.eq_iff_iff, beq_iff_eq, ← hl]
    unfold hasB
    rw [decide_eq_true_eq, mem_unb]
    constructor
    · rintro ⟨_, hall⟩
      have h1 := hall _ hx0
      simp only [decide_eq_false_iff_not] at h1
      by_cases hz0 : lostN (wantC vs n.toNat) (wantB vs n.toNat) (c : Int) = 0
      · exact hz0
      · have := wsum_less (vs := vs) (p := 0) hm (by omega) (lostN_lt (b := wantB vs n.toNat) (c : Int) hC) (by simp) (fun e => hz0 e.symm) (by unfold lostN; exact and_self16 _ _)
        omega
    · intro e
      rw [e, wsum_zero] at tz
      refine ⟨hz, fun y hy => ?_⟩
      obtain ⟨d, rfl, hd, _⟩ := zs_nat hV hy
      have td := tot_lost hm hd hr
      exact decide_eq_false (by omega)
/-- What the promise of SlaterRule needs. -/
theorem slater_facts {n : Int} {zs vs : List Int} (h : vvB n zs vs = true) :
    0 < (bestM n zs vs).length ∧ (∀ x ∈ bestM n zs vs, x ∈ bestK n zs vs) ∧ (∀ x ∈ bestM n zs vs, ∀ z ∈ zs, wt (lostN (wantC vs n.toNat) (wantB vs n.toNat) x) ≤ wt (lostN (wantC vs n.toNat) (wantB vs n.toNat) z)) ∧
      (∀ x ∈ bestM n zs vs, ∀ z ∈ zs, hasB (bestM n zs vs) z = (wt (lostN (wantC vs n.toNat) (wantB vs n.toNat) z) == wt (lostN (wantC vs n.toNat) (wantB vs n.toNat) x))) := by
  obtain ⟨hV, hO⟩ := vv_of h
  have hm : n.toNat ≤ 4 := by have := hV.1; omega
  have hC := pow_16 hm (wantC_lt vs n.toNat)
  rw [bestM_yes h, bestK_yes h]
  have le : ∀ x ∈ unbL (fun y x => moreB (wantC vs n.toNat) (wantB vs n.toNat) y x) zs, ∀ z ∈ zs, wt (lostN (wantC vs n.toNat) (wantB vs n.toNat) x) ≤ wt (lostN (wantC vs n.toNat) (wantB vs n.toNat) z) := fun x hx z hz => by
    have := (mem_unb.1 hx).2 z hz
    unfold moreB at this
    simp only [decide_eq_false_iff_not] at this
    omega
  refine ⟨?_, fun x hx => ?_, le, fun x hx z hz => ?_⟩
  · obtain ⟨x, hx⟩ := near_mem (fun x => wt (lostN (wantC vs n.toNat) (wantB vs n.toNat) x)) zs hV.2.1
    exact List.length_pos_of_mem hx
  · have hx' := mem_unb.1 hx
    refine mem_unb.2 ⟨hx'.1, fun y hy => ?_⟩
    by_cases hk : keptB (wantC vs n.toNat) (wantB vs n.toNat) y x = true
    · have h1 := more_of_kept hC hk
      have h2 := le x hx y hy
      omega
    · simpa using hk
  · have hx' := mem_unb.1 hx
    have h1 := le x hx z hz
    rw [Bool.eq_iff_iff, beq_iff_eq]
    unfold hasB
    rw [decide_eq_true_eq, mem_unb]
    constructor
    · rintro ⟨_, hall⟩
      have := hall x hx'.1
      unfold moreB at this
      simp only [decide_eq_false_iff_not] at this
      omega
    · intro e
      refine ⟨hz, fun y hy => ?_⟩
      have := le x hx y hy
      unfold moreB
      exact decide_eq_false (by omega)
end Go.Proofs.YtcophcjkhdipbaaGreat

/- TurnM: What the promises on issues settled in turn need. -/
namespace Go.Proofs.YtcophcjkhdipbaaGreat
open Go.RowKit Go.Joins

theorem tm1 : ∀ c b : Fin 16, ∀ i j : Fin 4, bitN c.val j.val = 0 → b.val &&& c.val = b.val → bitN (b.val + 2 ^ j.val) i.val = (if i.val = j.val then 1 else bitN b.val i.val) ∧ bitN b.val j.val = 0 := by decide +kernel
theorem tm2 : ∀ y c b : Fin 16, b.val &&& c.val = b.val → ((y.val &&& c.val = b.val) ↔ ∀ i : Fin 4, bitN c.val i.val = 1 → bitN y.val i.val = bitN b.val i.val) := by decide +kernel
/-- a judgment gives the answers that are settled -/
def Fits (s : Nat × Nat) (y : Nat) : Prop := ∀ i, i < 4 → bitN s.1 i = 1 → bitN y i = bitN s.2 i
theorem fits_iff {c b y : Nat} (hc : c < 16) (hb : b < 16) (hy : y < 16) (h : b &&& c = b) : y &&& c = b ↔ Fits (c, b) y := by
  have := tm2 ⟨y, hy⟩ ⟨c, hc⟩ ⟨b, hb⟩ h
  simp only at this
  rw [this]
  exact ⟨fun h i hi => h ⟨i, hi⟩, fun h i => h i.val i.isLt⟩
/-- the answer of more than half -/
def mj (vs : List Int) (j : Nat) : Nat := if vs.length < 2 * supN vs j then 1 else 0
theorem open_fits {n : Int} {zs : List Int} (hV : Valid n zs) {c b : Nat} (hc : c < 16) (hb : b < 16) (h : b &&& c = b) : openB zs (c : Int) (b : Int) = true ↔ ∃ y : Nat, (y : Int) ∈ zs ∧ Fits (c, b) y := by
  unfold openB
  rw [List.any_eq_true]
  constructor
  · rintro ⟨x, hx, e⟩
    obtain ⟨z, rfl, _, hz⟩ := zs_nat hV hx
    refine ⟨z, hx, (fits_iff hc hb hz h).1 ?_⟩
    unfold hpB at e
    simpa using e
  · rintro ⟨y, hy, e⟩
    have hz := valid_range hV _ hy
    refine ⟨_, hy, ?_⟩
    unfold hpB
    simpa using (fits_iff hc hb (by omega) h).2 e
/-- one step: the answer t of issue j -/
theorem turn_step {n : Int} {zs vs ls : List Int} (hV : Valid n zs) (h : OrdOk n ls) {k : Nat} (hk : k < ls.length) :
    ∃ j t : Nat, ls.getD k 0 = (j : Int) ∧ j < 4 ∧ (j : Int) < n ∧ t ≤ 1 ∧ bitN (turnK zs vs ls k).1 j = 0 ∧ (∀ i, i < 4 → bitN (turnK zs vs ls (k + 1)).1 i = if i = j then 1 else bitN (turnK zs vs ls k).1 i) ∧
      (∀ i, i < 4 → bitN (turnK zs vs ls (k + 1)).2 i = if i = j then t else bitN (turnK zs vs ls k).2 i) ∧
      ((t = mj vs j ∧ ∃ y : Nat, (y : Int) ∈ zs ∧ Fits (turnK zs vs ls (k + 1)) y) ∨ (t ≠ mj vs j ∧ ∀ y : Nat, (y : Int) ∈ zs → Fits (turnK zs vs ls k) y → bitN y j ≠ mj vs j)) := by
  have h4 : n ≤ 4 := hV.1.2
  obtain ⟨j, hj, hj4, hjn, hjt⟩ := ord_at h h4 hk
  obtain ⟨hc, hb, hbc, hbits⟩ := tinv (zs := zs) (vs := vs) h h4 k (by omega)
  have h0 : bitN (turnK zs vs ls k).1 j = 0 := by
    have hle := bitN_le (turnK zs vs ls k).1 j
    rcases (show bitN (turnK zs vs ls k).1 j = 0 ∨ bitN (turnK zs vs ls k).1 j = 1 by omega) with h1 | h1
    · exact h1
    · obtain ⟨t, ht, e⟩ := (hbits j hj4).1 h1
      have := h.2.2 k (by omega) t ht
      rw [getD_lt hk, hj] at this
      exact absurd e this
  have e : turnK zs vs ls (k + 1) = stpT zs vs (turnK zs vs ls k) j := by rw [turnK, hjt]
  obtain ⟨s, hs⟩ : ∃ s, turnK zs vs ls k = s := ⟨_, rfl⟩
  obtain ⟨C, B⟩ := s
  rw [e]
  rw [hs] at hc hb hbc h0 ⊢
  simp only at hc hb hbc h0
  have f1 := tf1 ⟨C, hc⟩ ⟨j, hj4⟩ h0
  have f2 := tf2 ⟨C, hc⟩ ⟨B, hb⟩ ⟨j, hj4⟩ h0 hbc
  have f3 : ∀ i, i < 4 → bitN (C + 2 ^ j) i = if i = j then 1 else bitN C i := fun i hi => tf3 ⟨C, hc⟩ ⟨i, hi⟩ ⟨j, hj4⟩ h0
  have f4 : ∀ i, i < 4 → bitN (B + 2 ^ j) i = if i = j then 1 else bitN B i := fun i hi => (tm1 ⟨C, hc⟩ ⟨B, hb⟩ ⟨i, hi⟩ ⟨j, hj4⟩ h0 hbc).1
  have f5 : bitN B j = 0 := (tm1 ⟨C, hc⟩ ⟨B, hb⟩ 0 ⟨j, hj4⟩ h0 hbc).2
  simp only at f1 f2
  have f6 : ∀ i, i < 4 → bitN B i = if i = j then 0 else bitN B i := fun i _ => by
    split
    · rename_i hij; rw [hij, f5]
    · rfl
  have o1 := open_fits hV (c := C + 2 ^ j) (b := B + 2 ^ j) f1.2 f2.2.1 f2.2.2.1
  have o0 := open_fits hV (c := C + 2 ^ j) (b := B) f1.2 hb f2.2.2.2.1
  have fit1 : ∀ y, Fits (C, B) y → bitN y j = 1 → Fits (C + 2 ^ j, B + 2 ^ j) y := fun y hf hy i hi hci => by
    simp only at hci ⊢
    rw [f4 i hi]
    rw [f3 i hi] at hci
    split
    · rename_i hij; rw [hij, hy]
    · rename_i hij; rw [if_neg hij] at hci; exact hf i hi hci
  have fit0 : ∀ y, Fits (C, B) y → bitN y j = 0 → Fits (C + 2 ^ j, B) y := fun y hf hy i hi hci => by
    simp only at hci ⊢
    rw [f3 i hi] at hci
    by_cases hij : i = j
    · rw [hij, hy, f5]
    · rw [if_neg hij] at hci; exact hf i hi hci
  by_cases hm : vs.length < 2 * supN vs j
  · have em : mj vs j = 1 := if_pos hm
    have e1 : stpT zs vs (C, B) j = (C + 2 ^ j, if openB zs ((C + 2 ^ j : Nat) : Int) ((B + 2 ^ j : Nat) : Int) = true then B + 2 ^ j else B) := by
      unfold stpT
      simp only [if_pos hm, f2.2.2.2.2.1]
    by_cases ho : openB zs ((C + 2 ^ j : Nat) : Int) ((B + 2 ^ j : Nat) : Int) = true
    · rw [if_pos ho] at e1
      refine ⟨j, 1, by rw [getD_lt hk]; exact hj, hj4, hjn, Nat.le_refl _, h0, ?_, ?_, .inl ⟨em.symm, ?_⟩⟩
      · rw [e1]; exact f3
      · rw [e1]; exact f4
      · rw [e1]; exact o1.1 ho
    · rw [if_neg ho] at e1
      refine ⟨j, 0, by rw [getD_lt hk]; exact hj, hj4, hjn, by omega, h0, ?_, ?_, .inr ⟨by omega, fun y hy hf hyj => ho (o1.2 ⟨y, hy, fit1 y hf (by omega)⟩)⟩⟩
      · rw [e1]; exact f3
      · rw [e1]; exact f6
  · have em : mj vs j = 0 := if_neg hm
    have e1 : stpT zs vs (C, B) j = (C + 2 ^ j, if openB zs ((C + 2 ^ j : Nat) : Int) (B : Int) = true then B else B + 2 ^ j) := by
      unfold stpT
      simp only [if_neg hm, Nat.add_zero, f2.2.2.2.2.2]
    by_cases ho : openB zs ((C + 2 ^ j : Nat) : Int) (B : Int) = true
    · rw [if_pos ho] at e1
      refine ⟨j, 0, by rw [getD_lt hk]; exact hj, hj4, hjn, by omega, h0, ?_, ?_, .inl ⟨em.symm, ?_⟩⟩
      · rw [e1]; exact f3
      · rw [e1]; exact f6
      · rw [e1]; exact o0.1 ho
    · rw [if_neg ho] at e1
      refine ⟨j, 1, by rw [getD_lt hk]; exact hj, hj4, hjn, Nat.le_refl _, h0, ?_, ?_, .inr ⟨by omega, fun y hy hf hyj => ho (o0.2 ⟨y, hy, fit0 y hf (by omega)⟩)⟩⟩
      · rw [e1]; exact f3
      · rw [e1]; exact f4
end Go.Proofs.YtcophcjkhdipbaaGreat

/- TurnN: What is settled in turn is a judgment; where undecided issues come last it keeps what can be kept; where the space is settled it is what is wanted. -/
namespace Go.Proofs.YtcophcjkhdipbaaGreat
open Go.RowKit Go.Joins

theorem turn_fits {n : Int} {zs vs ls : List Int} (hV : Valid n zs) (h : OrdOk n ls) : ∀ k, k ≤ ls.length → ∃ y : Nat, (y : Int) ∈ zs ∧ Fits (turnK zs vs ls k) y
  | 0, _ => by
    have hp := hV.2.1
    obtain ⟨z, hz, _, _⟩ := zs_nat hV (List.getElem_mem hp)
    exact ⟨z, by rw [← hz]; exact List.getElem_mem hp, fun i _ hc => by simp [turnK, bitN] at hc⟩
  | k + 1, hk => by
    obtain ⟨y, hy, hf⟩ := turn_fits (vs := vs) hV h k (by omega)
    obtain ⟨j, t, hj, hj4, hjn, ht, h0, hC, hB, hh⟩ := turn_step (vs := vs) hV h (k := k) (by omega)
    rcases hh with ⟨_, hh⟩ | ⟨hne, hh⟩
    · exact hh
    · refine ⟨y, hy, fun i hi hc => ?_⟩
      have h1 := hh y hy hf
      have h2 := bitN_le y j
      have h3 : mj vs j ≤ 1 := by unfold mj; split <;> omega
      rw [hB i hi]
      rw [hC i hi] at hc
      split
      · rename_i hij; rw [hij]; omega
      · rename_i hij; rw [if_neg hij] at hc; exact hf i hi hc
theorem turn_sum {n : Int} {zs vs ls : List Int} (hV : Valid n zs) (h : OrdOk n ls) : ∀ k, k ≤ ls.length → bitN (turnK zs vs ls k).1 0 + bitN (turnK zs vs ls k).1 1 + bitN (turnK zs vs ls k).1 2 + bitN (turnK zs vs ls k).1 3 = k
  | 0, _ => by simp [turnK, bitN]
  | k + 1, hk => by
    have ih := turn_sum (vs := vs) hV h k (by omega)
    obtain ⟨j, t, hj, hj4, hjn, ht, h0, hC, hB, hh⟩ := turn_step (vs := vs) hV h (k := k) (by omega)
    rw [hC 0 (by omega), hC 1 (by omega), hC 2 (by omega), hC 3 (by omega)]
    rcases (show j = 0 ∨ j = 1 ∨ j = 2 ∨ j = 3 by omega) with rfl | rfl | rfl | rfl <;> simp <;> omega
theorem turn_high {n : Int} {zs vs ls : List Int} (hV : Valid n zs) (h : OrdOk n ls) (k : Nat) (hk : k ≤ ls.length) (i : Nat) (hi : i < 4) (hin : n ≤ (i : Int)) : bitN (turnK zs vs ls k).1 i = 0 := by
  have hb := (tinv (zs := zs) (vs := vs) h hV.1.2 k hk).2.2.2 i hi
  have hle := bitN_le (turnK zs vs ls k).1 i
  by_cases h1 : bitN (turnK zs vs ls k).1 i = 1
  · obtain ⟨t, ht, e⟩ := hb.1 h1
    have := (h.2.1 t (by omega)).2
    omega
  · omega
theorem turn_full {n : Int} {zs vs ls : List Int} (hV : Valid n zs) (h : OrdOk n ls) (i : Nat) (hin : (i : Int) < n) : bitN (turnK zs vs ls ls.length).1 i = 1 := by
  have hs := turn_sum (vs := vs) hV h ls.length (Nat.le_refl _)
  have hl := h.1
  have h1 := hV.1
  have hh := fun i hi hin => turn_high (vs := vs) hV h ls.length (Nat.le_refl _) i hi hin
  have b0 := bitN_le (turnK zs vs ls ls.length).1 0
  have b1 := bitN_le (turnK zs vs ls ls.length).1 1
  have b2 := bitN_le (turnK zs vs ls ls.length).1 2
  have b3 := bitN_le (turnK zs vs ls ls.length).1 3
  rcases (show n = 1 ∨ n = 2 ∨ n = 3 ∨ n = 4 by omega) with rfl | rfl | rfl | rfl
  · have := hh 1 (by omega) (by omega); have := hh 2 (by omega) (by omega); have := hh 3 (by omega) (by omega)
    obtain rfl : i = 0 := by omega
    omega
  · have := hh 2 (by omega) (by omega); have := hh 3 (by omega) (by omega)
    rcases (show i = 0 ∨ i = 1 by omega) with rfl | rfl <;> omega
  · have := hh 3 (by omega) (by omega)
    rcases (show i = 0 ∨ i = 1 ∨ i = 2 by omega) with rfl | rfl | rfl <;> omega
  · rcases (show i = 0 ∨ i = 1 ∨ i = 2 ∨ i = 3 by omega) with rfl | rfl | rfl | rfl <;> omega
theorem bits_eq : ∀ y b : Fin 16, (∀ i : Fin 4, bitN y.val i.val = bitN b.val i.val) → y.val = b.val := by decide +kernel
theorem sub_zero : ∀ b c : Fin 16, b.val &&& c.val = b.val → ∀ i : Fin 4, bitN c.val i.val = 0 → bitN b.val i.val = 0 := by decide +kernel
/-- who gives all the answers of the end is the end -/
theorem turn_end {n : Int} {zs vs ls : List Int} (hV : Valid n zs) (h : OrdOk n ls) {y : Nat} (hy : (y : Int) ∈ zs) (hf : Fits (turnK zs vs ls ls.length) y) : y = (turnK zs vs ls ls.length).2 := by
  obtain ⟨hc, hb, hbc, _⟩ := tinv (zs := zs) (vs := vs) h hV.1.2 ls.length (Nat.le_refl _)
  obtain ⟨z, hz, hz1, hz2⟩ := zs_nat hV hy
  obtain rfl : y = z := by omega
  refine bits_eq ⟨y, hz2⟩ ⟨_, hb⟩ fun i => ?_
  by_cases hi : ((i.val : Nat) : Int) < n
  · exact hf i.val i.isLt (turn_full hV h i.val hi)
  · have h1 := bit_high ⟨n.toNat, by have := hV.1; omega⟩ ⟨y, hz2⟩ i hz1 (by simp only; omega)
    have h2 := sub_zero ⟨_, hb⟩ ⟨_, hc⟩ hbc i (turn_high hV h _ (Nat.le_refl _) i.val i.isLt (by omega))
    simp only at h1 h2 ⊢
    rw [h1, h2]
theorem turn_in {n : Int} {zs vs ls : List Int} (hV : Valid n zs) (h : OrdOk n ls) : (((turnK zs vs ls ls.length).2 : Nat) : Int) ∈ zs := by
  obtain ⟨y, hy, hf⟩ := turn_fits (vs := vs) hV h ls.length (Nat.le_refl _)
  rw [← turn_end hV h hy hf]
  exact hy
theorem turn_later {n : Int} {zs vs ls : List Int} (hV : Valid n zs) (h : OrdOk n ls) (k i : Nat) (hi : i < 4) (hc : bitN (turnK zs vs ls k).1 i = 1) : ∀ d, k + d ≤ ls.length → bitN (turnK zs vs ls (k + d)).1 i = 1 ∧ bitN (turnK zs vs ls (k + d)).2 i = bitN (turnK zs vs ls k).2 i
  | 0, _ => ⟨hc, rfl⟩
  | d + 1, hd => by
    have ih := turn_later hV h k i hi hc d (by omega)
    obtain ⟨j, t, hj, hj4, hjn, ht, h0, hC, hB, hh⟩ := turn_step (vs := vs) hV h (k := k + d) (by omega)
    have hij : i ≠ j := fun e => by rw [e] at ih; omega
    rw [← Nat.add_assoc, hC i hi, hB i hi, if_neg hij, if_neg hij]
    exact ih
/-- undecided -/
def Tie (vs : List Int) (j : Nat) : Prop := 2 * supN vs j = vs.length
instance (vs : List Int) (j : Nat) : Decidable (Tie vs j) := by unfold Tie; infer_instance
/-- the undecided issues come last -/
def TiesLast (vs ls : List Int) : Prop := ∀ p q, p < q → q < ls.length → Tie vs (ls.getD p 0).toNat → Tie vs (ls.getD q 0).toNat
theorem lost_at {vs : List Int} {m y i : Nat} (hm : m ≤ 4) (hy : y < 16) (hi : i < 4) : bitN (lostN (wantC vs m) (wantB vs m) (y : Int)) i = if (i < m ∧ ¬ Tie vs i) ∧ bitN y i ≠ mj vs i then 1 else 0 := by
  have hc := pow_16 hm (wantC_lt vs m)
  have hb := pow_16 hm (wantB_lt vs m)
  have hl := lost_bit ⟨y, hy⟩ ⟨_, hb⟩ ⟨_, hc⟩ ⟨i, hi⟩
  simp only at hl
  unfold lostN
  rw [Int.toNat_natCast, hl, bitC vs i hi m hm, bitB vs i hi m hm]
  unfold mj Tie
  by_cases h1 : i < m
  · by_cases h2 : 2 * supN vs i = vs.length
    · simp [h1, h2]
    · by_cases h3 : vs.length < 2 * supN vs i
      · simp [h1, h2, h3]
      · simp [h1, h2, h3]
  · simp [h1]
theorem turn_kept {n : Int} {zs vs ls : List Int} (hV : Valid n zs) (h : OrdOk n ls) (hT : TiesLast vs ls) {y : Nat} (hy : (y : Int) ∈ zs) : ∀ k, k ≤ ls.length → Fits (turnK zs vs ls k) y ∨
    (∃ i, i < 4 ∧ bitN (lostN (wantC vs n.toNat) (wantB vs n.toNat) (y : Int)) i = 1 ∧ bitN (lostN (wantC vs n.toNat) (wantB vs n.toNat) ((turnK zs vs ls ls.length).2 : Nat)) i = 0) ∨
    (∀ i, i < 4 → bitN (lostN (wantC vs n.toNat) (wantB vs n.toNat) (y : Int)) i = bitN (lostN (wantC vs n.toNat) (wantB vs n.toNat) ((turnK zs vs ls ls.length).2 : Nat)) i)
  | 0, _ => .inl fun i _ hc => by simp [turnK, bitN] at hc
  | k + 1, hk => by
    rcases turn_kept hV h hT hy k (by omega) with hf | hx
    · have h4 : n.toNat ≤ 4 := by have := hV.1; omega
      obtain ⟨z, hz, hz1, hz2⟩ := zs_nat hV hy
      obtain rfl : y = z := by omega
      have hb := (tinv (zs := zs) (vs := vs) h hV.1.2 ls.length (Nat.le_refl _)).2.1
      obtain ⟨j, t, hj, hj4, hjn, ht, h0, hC, hB, hh⟩ := turn_step (vs := vs) hV h (k := k) (by omega)
      have hyj := bitN_le y j
      have hmj : mj vs j ≤ 1 := by unfold mj; split <;> omega
      by_cases he : bitN y j = t
      · refine .inl fun i hi hc => ?_
        rw [hB i hi]
        rw [hC i hi] at hc
        split
        · rename_i hij; rw [hij]; exact he
        · rename_i hij; rw [if_neg hij] at hc; exact hf i hi hc
      · rcases hh with ⟨htm, _⟩ | ⟨hne, hh⟩
        · have hcj : bitN (turnK zs vs ls (k + 1)).1 j = 1 := by rw [hC j hj4, if_pos rfl]
          have hlast := (turn_later hV h (k + 1) j hj4 hcj (ls.length - (k + 1)) (by omega)).2
          rw [show k + 1 + (ls.length - (k + 1)) = ls.length by omega, hB j hj4, if_pos rfl] at hlast
          by_cases htie : Tie vs j
          · refine .inr (.inr fun i hi => ?_)
            rw [lost_at h4 hz2 hi, lost_at h4 hb hi]
            by_cases hci : bitN (turnK zs vs ls k).1 i = 1
            · have hl2 := (turn_later hV h k i hi hci (ls.length - k) (by omega)).2
              rw [show k + (ls.length - k) = ls.length by omega] at hl2
              rw [hl2, hf i hi hci]
            · by_cases him : i < n.toNat
              · have hfull := turn_full (vs := vs) hV h i (by omega)
                obtain ⟨q, hq, eq⟩ := ((tinv (zs := zs) (vs := vs) h hV.1.2 ls.length (Nat.le_refl _)).2.2.2 i hi).1 hfull
                have hkq : k ≤ q := by
                  rcases Nat.lt_or_ge q k with h1 | h1
                  · exact absurd (((tinv (zs := zs) (vs := vs) h hV.1.2 k (by omega)).2.2.2 i hi).2 ⟨q, h1, eq⟩) hci
                  · exact h1
                have hti : Tie vs i := by
                  rcases Nat.lt_or_ge k q with h1 | h1
                  · have := hT k q h1 hq (by rw [hj, Int.toNat_natCast]; exact htie)
                    rwa [eq, Int.toNat_natCast] at this
                  · obtain rfl : k = q := by omega
                    rw [hj] at eq
                    obtain rfl : j = i := by omega
                    exact htie
                rw [if_neg (fun hh => hh.1.2 hti), if_neg (fun hh => hh.1.2 hti)]
              · rw [if_neg (fun hh => him hh.1.1), if_neg (fun hh => him hh.1.1)]
          · refine .inr (.inl ⟨j, hj4, ?_, ?_⟩)
            · rw [lost_at h4 hz2 hj4, if_pos ⟨⟨by omega, htie⟩, by omega⟩]
            · rw [lost_at h4 hb hj4, if_neg (fun hh => hh.2 (by omega))]
        · have := hh y hy hf
          omega
    · exact .inr hx
theorem and_bits : ∀ p q : Fin 16, p.val &&& q.val = p.val → ∀ i : Fin 4, bitN p.val i.val = 1 → bitN q.val i.val = 1 := by decide +kernel
/-- What the promise of RankedRule needs. -/
theorem turn_best {n : Int} {zs vs ls : List Int} (hv : vvB n zs vs = true) (h : OrdOk n ls) (hT : TiesLast vs ls) : (((turnK zs vs ls ls.length).2 : Nat) : Int) ∈ bestK n zs vs := by
  obtain ⟨hV, hO⟩ := vv_of hv
  have h4 : n.toNat ≤ 4 := by have := hV.1; omega
  have hC := pow_16 h4 (wantC_lt vs n.toNat)
  rw [bestK_yes hv, mem_unb]
  refine ⟨turn_in hV h, fun x hx => ?_⟩
  obtain ⟨y, rfl, hy1, hy2⟩ := zs_nat hV hx
  have hp := lostN_lt (b := wantB vs n.toNat) (y : Int) hC
  have hq := lostN_lt (b := wantB vs n.toNat) (((turnK zs vs ls ls.length).2 : Nat) : Int) hC
  have key : (∃ i, i < 4 ∧ bitN (lostN (wantC vs n.toNat) (wantB vs n.toNat) (y : Int)) i = 1 ∧ bitN (lostN (wantC vs n.toNat) (wantB vs n.toNat) ((turnK zs vs ls ls.length).2 : Nat)) i = 0) ∨
      (∀ i, i < 4 → bitN (lostN (wantC vs n.toNat) (wantB vs n.toNat) (y : Int)) i = bitN (lostN (wantC vs n.toNat) (wantB vs n.toNat) ((turnK zs vs ls ls.length).2 : Nat)) i) := by
    rcases turn_kept hV h hT hx ls.length (Nat.le_refl _) with hf | hh
    · rw [← turn_end hV h hx hf]; exact .inr fun i _ => rfl
    · exact hh
  obtain ⟨P, hP⟩ : ∃ P, lostN (wantC vs n.toNat) (wantB vs n.toNat) (y : Int) = P := ⟨_, rfl⟩
  obtain ⟨Q, hQ⟩ : ∃ Q, lostN (wantC vs n.toNat) (wantB vs n.toNat) (((turnK zs vs ls ls.length).2 : Nat) : Int) = Q := ⟨_, rfl⟩
  unfold keptB
  rw [hP] at hp
  rw [hQ] at hq
  rw [hP, hQ] at key ⊢
  rcases key with ⟨i, hi, h1, h0⟩ | key
  · rw [Bool.and_eq_false_iff]
    refine .inl (beq_eq_false_iff_ne.2 fun e => ?_)
    have := and_bits ⟨P, hp⟩ ⟨Q, hq⟩ e ⟨i, hi⟩ h1
    simp only at this
    omega
  · have := bits_eq ⟨P, hp⟩ ⟨Q, hq⟩ fun i => key i.val i.isLt
    simp only at this
    rw [this]
    simp
end Go.Proofs.YtcophcjkhdipbaaGreat

/- RankN: The clearest first: undecided issues come last; what RankedRule answers is kept. -/
namespace Go.Proofs.YtcophcjkhdipbaaGreat
open Go.RowKit Go.Joins

theorem rowF_val {f : Int → Int} {d x : Int} : ∀ k, x ∈ rowF f d k → f x = d
  | 0, h => by simp [rowF] at h
  | k + 1, h => by
    unfold rowF at h
    split at h
    · rename_i hk
      rcases List.mem_append.1 h with h | h
      · exact rowF_val k h
      · rw [List.mem_singleton.1 h]; exact hk
    · exact rowF_val k h
theorem rowsF_ge {f : Int → Int} {n m : Nat} {x : Int} : ∀ t, x ∈ rowsF f n m t → (n : Int) - (t : Int) < f x
  | 0, h => by simp [rowsF] at h
  | t + 1, h => by
    unfold rowsF at h
    rcases List.mem_append.1 h with h | h
    · have := rowsF_ge t h; omega
    · have := rowF_val m h; omega
theorem rowsF_down (f : Int → Int) (n m : Nat) : ∀ t, (rowsF f n m t).Pairwise fun x y => f y ≤ f x
  | 0 => by simp [rowsF]
  | t + 1 => by
    unfold rowsF
    rw [List.pairwise_append]
    refine ⟨rowsF_down f n m t, ?_, fun x hx y hy => ?_⟩
    · rw [List.pairwise_iff_getElem]
      intro i j hi hj _
      rw [rowF_val m (List.getElem_mem hi), rowF_val m (List.getElem_mem hj)]
      exact Int.le_refl _
    · have := rowsF_ge t hx
      have := rowF_val m hy
      omega
theorem lead_tie {m : Nat} {vs : List Int} {j : Nat} (h : j < m) : 0 ≤ leadV vs.length (supL m vs) (j : Int) ∧ (Tie vs j ↔ leadV vs.length (supL m vs) (j : Int) = 0) := by
  unfold leadV supL Tie
  rw [Int.toNat_natCast, supKL_getD _ _ _ _ h]
  unfold supN
  constructor
  · omega
  · constructor <;> intro h <;> omega
theorem clear_last {n : Nat} {zs vs : List Int} (hv : vvB n zs vs = true) : TiesLast vs (clearL vs.length (supL n vs)) := by
  obtain ⟨e, hok, _⟩ := rankV_yes hv
  have hd := rowsF_down (leadV vs.length (supL n vs)) vs.length n (vs.length + 1)
  rw [← e] at hd
  intro p q hpq hq htie
  have hp : p < (clearL vs.length (supL n vs)).length := by omega
  have h1 := hok.2.1 p hp
  have h2 := hok.2.1 q hq
  have hpw := (List.pairwise_iff_getElem.1 hd) p q hp hq hpq
  obtain ⟨x, hx⟩ := Int.eq_ofNat_of_zero_le h1.1
  obtain ⟨y, hy⟩ := Int.eq_ofNat_of_zero_le h2.1
  rw [← getD_lt hp, ← getD_lt hq, hx, hy] at hpw
  rw [hx] at h1 htie
  rw [hy] at h2 ⊢
  rw [Int.toNat_natCast] at htie ⊢
  have a := (lead_tie (vs := vs) (show x < n by omega)).2.1 htie
  have b := lead_tie (vs := vs) (show y < n by omega)
  rw [b.2]
  have := b.1
  omega
/-- What the promise of RankedRule needs. -/
theorem rank_facts {n : Int} {zs vs : List Int} (hv : vvB n zs vs = true) : rankV n zs vs ∈ bestK n zs vs ∧ rankV n zs vs ∈ zs := by
  obtain ⟨m, rfl⟩ := Int.eq_ofNat_of_zero_le (show 0 ≤ n from by have := (vv_of hv).1.1; omega)
  obtain ⟨_, hok, e⟩ := rankV_yes hv
  rw [e]
  exact ⟨turn_best hv hok (clear_last hv), turn_in (vv_of hv).1 hok⟩
end Go.Proofs.YtcophcjkhdipbaaGreat

/- RuleW: Small contracts with a free answer, for the laws of the rules. -/
namespace Go.Proofs.YtcophcjkhdipbaaGreat
open Go.RowKit Go.Joins

theorem settled_was (n : Int) (a l : Option Addr) (cap capl : Nat) (zs vs : List Int) (w : World) (r : Bool) (hi : Ints w a zs) (hj : Ints w l vs) (hn : zs.length ≤ 1048576) (hm : vs.length ≤ 1048576) (hr : setB n zs vs = r) :
    Calls Tryz.prog 14 #[.agg #[.int .i64 n, .slice a zs.length cap], .slice l vs.length capl] w fun e w' => e = .returned (.bool r) ∧ Below w.heap.size w w' := by
  subst hr
  exact implIsSettled_any n a l cap capl zs vs w hi hj hn hm
theorem isIn_was (x : Int) (a : Option Addr) (cap : Nat) (zs : List Int) (r : Bool) (w : World) (hi : Ints w a zs) (hn : zs.length ≤ 1048576) (hr : hasB zs x = r) :
    Calls Tryz.prog 12 #[.slice a zs.length cap, .int .i64 x] w fun e w' => e = .returned (.bool r) ∧ w = w' := by
  subst hr
  exact isIn_any x a cap zs w hi hn
theorem and_16s (p q : Nat) (hp : p < 16) (hq : q < 16) : bits .and .i64 (p : Int) (q : Int) = ((p &&& q : Nat) : Int) := by
  have h : ∀ p q : Fin 16, bits .and .i64 ((p.val : Nat) : Int) ((q.val : Nat) : Int) = ((p.val &&& q.val : Nat) : Int) := by decide +kernel
  exact h ⟨p, hp⟩ ⟨q, hq⟩
end Go.Proofs.YtcophcjkhdipbaaGreat

/- PKept: The law of KeptRule answers true at every code: its walk. -/
namespace Go.Proofs.YtcophcjkhdipbaaGreat
open Go.RowKit Go.Joins

theorem wt_none : ∀ p : Fin 16, wt p.val = 0 → p.val = 0 := by decide +kernel
theorem kept_iff {n : Int} {zs vs : List Int} (h : vvB n zs vs = true) (hs : setB n zs vs = true) {x : Int} (hx : x ∈ zs) : x ∈ unbL (fun y x => keptB (wantC vs n.toNat) (wantB vs n.toNat) y x) zs ↔ lostN (wantC vs n.toNat) (wantB vs n.toNat) x = 0 := by
  obtain ⟨x0, hx0, e0⟩ := (set_iff h).1 hs
  rw [mem_unb]
  constructor
  · rintro ⟨_, hall⟩
    have := hall x0 hx0
    unfold keptB at this
    rw [e0] at this
    simp only [Nat.zero_and, beq_self_eq_true, Bool.true_and] at this
    have h2 : ¬ (0 != lostN (wantC vs n.toNat) (wantB vs n.toNat) x) = true := by rw [this]; decide
    rw [bne_iff_ne] at h2
    omega
  · intro e
    refine ⟨hx, fun y hy => ?_⟩
    unfold keptB
    rw [e, Nat.and_zero]
    by_cases h0 : lostN (wantC vs n.toNat) (wantB vs n.toNat) y = 0
    · rw [h0]; rfl
    · rw [Bool.and_eq_false_iff]
      exact .inl (beq_eq_false_iff_ne.2 (fun e => h0 e.symm))
theorem more_iff {n : Int} {zs vs : List Int} (h : vvB n zs vs = true) (hs : setB n zs vs = true) {x : Int} (hx : x ∈ zs) : x ∈ unbL (fun y x => moreB (wantC vs n.toNat) (wantB vs n.toNat) y x) zs ↔ lostN (wantC vs n.toNat) (wantB vs n.toNat) x = 0 := by
  obtain ⟨x0, hx0, e0⟩ := (set_iff h).1 hs
  have h4 : n.toNat ≤ 4 := by have := (vv_of h).1.1; omega
  have hC := pow_16 h4 (wantC_lt vs n.toNat)
  have h0 : wt 0 = 0 := wt_zero
  rw [mem_unb]
  constructor
  · rintro ⟨_, hall⟩
    have := hall x0 hx0
    unfold moreB at this
    rw [e0, h0] at this
    simp only [decide_eq_false_iff_not] at this
    exact wt_none ⟨_, lostN_lt _ hC⟩ (by simp only; omega)
  · intro e
    refine ⟨hx, fun y hy => ?_⟩
    unfold moreB
    rw [e, h0]
    exact decide_eq_false (by omega)
/-- Where the space is settled, what is kept is what keeps most. -/
theorem kept_settled {n : Int} {zs vs : List Int} (h : vvB n zs vs = true) (hs : setB n zs vs = true) : bestK n zs vs = bestM n zs vs := by
  rw [bestK_yes h, bestM_yes h]
  unfold unbL
  refine List.filter_congr fun x hx => ?_
  have a := kept_iff h hs hx
  have b := more_iff h hs hx
  unfold unbL at a b
  rw [List.mem_filter] at a b
  rw [Bool.eq_iff_iff]
  constructor
  · exact fun hh => (b.2 (a.1 ⟨hx, hh⟩)).2
  · exact fun hh => (a.2 (b.1 ⟨hx, hh⟩)).2
set_option maxHeartbeats 8000000 in
set_option maxRecDepth 100000 in
theorem walk_FnKeptRule (a : Option Addr) (zs : List Nat) (cap : Nat) (w : World) (hi : Byts w a zs) (hl : zs.length ≤ maxLen) (hc : zs.length ≤ cap) :
    Calls Tryz.prog 3 #[.slice a zs.length cap] w fun e w' => e = .returned (.bool true) ∧ Below w.heap.size w w' := by
  by_cases h : 1048576 < zs.length
  · unfold maxLen at hl
    go_enter Tryz.func3, Tryz.ntmps3
    go_wp2
    go_ret
    exact ⟨rfl, Below.refl _ _⟩
  · have hl' : zs.length ≤ 1048576 := by omega
    clear h hl
    go_enter Tryz.func3, Tryz.ntmps3
    go_wp2_with fail
    refine (drawKeptRule_any _ _ _ _ hi hl' hc).mono ?_
    rintro e w1 ⟨m, av, ss, cv, al, ls, cl, rfl, ii, hsl, il, hll, hb⟩
    have S0 := SV.new w1 m av ss cv al ls 25 ii il
    have HB := hide hb
    have hn : ss.length ≤ 1048576 := by omega
    have hm : ls.length ≤ 1048576 := by omega
    have hsA := hide (Nat.le_trans (bestK_len m ss ls) hn)
    clear hb hi ii il hl' hsl
    obtain ⟨⟨_, c0, c1⟩, _⟩ := S0.pair
    go_wp2_with fail
    refine (implKeptRule_any _ _ _ _ _ _ _ _ S0.2.1 S0.2.2.1 hn hm).mono ?_
    rintro e w2 ⟨v2, rfl, ow2, b2⟩
    have S2 := S0.below b2
    obtain ⟨a2, k2, rfl, i2, _⟩ := ow2.form
    clear c0 c1 S0 ow2 b2
    obtain ⟨⟨_, c0, c1⟩, _⟩ := S2.pair
    go_wp2_with fail
    refine (specKeptRule_any _ _ _ _ _ _ _ _ S2.2.1 S2.2.2.1 hn hm).mono ?_
    rintro e w3 ⟨v3, rfl, ow3, b3⟩
    have S3 := S2.below b3
    have i23 := i2.below b3
    obtain ⟨a3, k3, rfl, i3, _⟩ := ow3.form
    clear c0 c1 S2 ow3 b3 i2
    obtain ⟨⟨_, c0, c1⟩, _⟩ := S3.pair
    go_wp2_with fail
    refine (equalInts_yes _ _ _ _ _ _ i23 i3 hsA.out).mono ?_
    rintro e w4 ⟨rfl, b4⟩
    have S4 := S3.below b4
    have i24 := i23.below b4
    clear c0 c1 S3 b4 i23 i3
    obtain ⟨⟨_, c0, c1⟩, _⟩ := S4.pair
    by_cases hv : vvB m ss ls = true
    · go_wp2_with fail
      refine (implVotes_is _ _ _ _ _ _ _ _ true S4.2.1 S4.2.2.1 hn hm hv).mono ?_
      rintro e w5 ⟨rfl, b5⟩
      have S5 := S4.below b5
      have i25 := i24.below b5
      have HV := hide hv
      have HK : Hid (Ups (bestK m ss ls)) := by rw [bestK_yes hv]; exact ups_unb (vv_of hv).1 _
      have HAM := hide (slater_facts hv).2.1
      have HRK := hide (rank_facts hv).1
      have HKM : Hid (setB m ss ls = true → bestK m ss ls = bestM m ss ls) := fun h => kept_settled hv h
      have hML := Nat.le_trans (bestM_len m ss ls) hn
      have HSL := fun w hi hj => implSlaterRule_any m av al cv cl ss ls w hi hj hn hm
      have HRR := fun w hi hj => implRankedRule_any m av al cv cl ss ls w hi hj hn hm
      obtain ⟨K, hK⟩ : ∃ K, bestK m ss ls = K := ⟨_, rfl⟩
      obtain ⟨M, hM⟩ : ∃ M, bestM m ss ls = M := ⟨_, rfl⟩
      obtain ⟨x, hx⟩ : ∃ x, rankV m ss ls = x := ⟨_, rfl⟩
      rw [hK] at HK HAM HRK HKM hsA i25 ⊢
      rw [hM] at HAM HKM hML HSL
      rw [hx] at HRK HRR
      have HSL := hide HSL
      have HRR := hide HRR
      have HML := hide hML
      clear c0 c1 S4 b5 i24 hv hK hM hx hML
      go_wp2_with fail
      refine (ascends_yes _ _ _ _ i25 hsA.out HK.out).mono ?_
      rintro e w6 ⟨rfl, b6⟩
      have S6 := S5.below b6
      have i26 := i25.below b6
      clear S5 i25 b6
      obtain ⟨⟨_, c0, c1⟩, _⟩ := S6.pair
      go_wp2_with fail
      refine (HSL.out _ S6.2.1 S6.2.2.1).mono ?_
      rintro e w7 ⟨v7, rfl, o7, b7⟩
      have S7 := S6.below b7
      have i27 := i26.below b7
      obtain ⟨a7, k7, rfl, j7, _⟩ := o7.form
      clear S6 i26 b7 o7 c0 c1
      go_wp2_with fail
      refine (among_yes _ _ _ _ _ _ _ j7 i27 HML.out hsA.out HAM.out).mono ?_
      rintro e w8 ⟨rfl, b8⟩
      have S8 := S7.below b8
      have i28 := i27.below b8
      clear S7 i27 b8 j7
      obtain ⟨⟨_, c0, c1⟩, _⟩ := S8.pair
      go_wp2_with fail
      refine (HRR.out _ S8.2.1 S8.2.2.1).mono ?_
      rintro e w9 ⟨rfl, b9⟩
      have S9 := S8.below b9
      have i29 := i28.below b9
      clear S8 i28 b9 c0 c1
      go_wp2_with fail
      refine (isIn_was _ _ _ _ true _ i29 hsA.out (hasB_true HRK.out)).mono ?_
      rintro e w' ⟨rfl, rfl⟩
      obtain ⟨⟨_, c0, c1⟩, _⟩ := S9.pair
      by_cases hs : setB m ss ls = true
      · have HS := hide hs
        have hKM := HKM.out hs
        clear hs HKM
        subst hKM
        go_wp2_with fail
        refine (settled_was _ _ _ _ _ _ _ _ true S9.2.1 S9.2.2.1 hn hm HS.out).mono ?_
        rintro e wa ⟨rfl, ba⟩
        have SA := S9.below ba
        have iA := i29.below ba
        clear c0 c1 S9 i29 ba
        obtain ⟨⟨_, c0, c1⟩, _⟩ := SA.pair
        go_wp2_with fail
        refine (HSL.out _ SA.2.1 SA.2.2.1).mono ?_
        rintro e wb ⟨vb, rfl, ob, bb⟩
        have SB := SA.below bb
        have iB := iA.below bb
        obtain ⟨ab, kb, rfl, jb, _⟩ := ob.form
        clear SA iA bb ob c0 c1
        go_wp2_with fail
        refine (equalInts_yes _ _ _ _ _ _ iB jb hsA.out).mono ?_
        rintro e wc ⟨rfl, bc⟩
        go_wp2
        go_ret
        exact ⟨rfl, bnext HB.out (SB.below bc).2.2.2⟩
      · have hs : setB m ss ls = false := by simpa using hs
        have HS := hide hs
        clear hs
        go_wp2_with fail
        refine (settled_was _ _ _ _ _ _ _ _ false S9.2.1 S9.2.2.1 hn hm HS.out).mono ?_
        rintro e wa ⟨rfl, ba⟩
        go_wp2
        go_ret
        exact ⟨rfl, bnext HB.out (S9.below ba).2.2.2⟩
    · have hv : vvB m ss ls = false := by simpa using hv
      go_wp2_with fail
      refine (implVotes_is _ _ _ _ _ _ _ _ false S4.2.1 S4.2.2.1 hn hm hv).mono ?_
      rintro e w5 ⟨rfl, b5⟩
      have S5 := S4.below b5
      have i25 := i24.below b5
      clear c0 c1 S4 b5 i24 hv
      obtain ⟨⟨_, c0, c1⟩, _⟩ := S5.pair
      go_wp2_with fail
      refine (specKeptRule_any _ _ _ _ _ _ _ _ S5.2.1 S5.2.2.1 hn hm).mono ?_
      rintro e w6 ⟨v6, rfl, ow6, b6⟩
      have S6 := S5.below b6
      have i26 := i25.below b6
      obtain ⟨a6, k6, rfl, i6, _⟩ := ow6.form
      clear c0 c1 S5 ow6 b6 i25
      go_wp2_with fail
      refine (equalInts_yes _ _ _ _ _ _ i26 i6 hsA.out).mono ?_
      rintro e w7 ⟨rfl, b7⟩
      go_wp2
      go_ret
      exact ⟨rfl, bnext HB.out (S6.below b7).2.2.2⟩
end Go.Proofs.YtcophcjkhdipbaaGreat
