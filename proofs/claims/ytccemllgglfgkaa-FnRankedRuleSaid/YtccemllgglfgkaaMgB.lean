/- Texts of this seat one behind the other: BestD, BestM, Rng, PollJ, Unb, UnbK, BstK, TurnM, TurnN, RankN, RuleW, PRank. Conditions: none. -/
import Derived.Test.YtccemllgglfgkaaPoll
import Derived.Test.YtccemllgglfgkaaSet
import Derived.Test.YtccemllgglfgkaaOpenB
import Derived.Test.YtccemllgglfgkaaBase
import Derived.Test.YtccemllgglfgkaaSV
import Derived.Test.YtccemllgglfgkaaNearF
import Derived.Test.YtccemllgglfgkaaMgA
import Derived.Test.YtccemllgglfgkaaLawH
import Derived.Test.YtccemllgglfgkaaDrawT
import Derived.RangeFuncNested
import Derived.RangeFuncLeaves
import Derived.RangeFuncCalls
import Derived.Shelf.Abstract
import Derived.Shelf.RegionOpen
import Derived.WalkKit
import Derived.OwnWalkIn
import Derived.TacticsInMore
import Derived.LoopNIn
import Derived.LoopIn
import Derived.Maps.AppendAt
import Derived.Scope
import Derived.WalkMore
import Derived.Deep.DeepCutAuto
import Derived.Laws.EntriesVeiled

/- BestD: What the four rules answer. -/
namespace Go.Proofs.Ytccemllgglfgkaa
open Go.RowKit Go.Joins

def bestA (n : Int) (zs vs : List Int) : List Int := if vvB n zs vs = true then unbL (fun y x => decide (totN vs y < totN vs x)) zs else []
theorem bestA_yes {n : Int} {zs vs : List Int} (h : vvB n zs vs = true) : bestA n zs vs = unbL (fun y x => decide (totN vs y < totN vs x)) zs := if_pos h
theorem bestA_no {n : Int} {zs vs : List Int} (h : vvB n zs vs = false) : bestA n zs vs = [] := if_neg (by rw [h]; decide)
theorem bestA_len (n : Int) (zs vs : List Int) : (bestA n zs vs).length ≤ zs.length := by
  unfold bestA
  split
  · exact List.length_filter_le _ _
  · simp

def bestF (n : Int) (zs vs : List Int) : List Int := if vvB n zs vs = true then unbL (fun y x => decide (farN vs y < farN vs x)) zs else []
theorem bestF_yes {n : Int} {zs vs : List Int} (h : vvB n zs vs = true) : bestF n zs vs = unbL (fun y x => decide (farN vs y < farN vs x)) zs := if_pos h
theorem bestF_no {n : Int} {zs vs : List Int} (h : vvB n zs vs = false) : bestF n zs vs = [] := if_neg (by rw [h]; decide)
theorem bestF_len (n : Int) (zs vs : List Int) : (bestF n zs vs).length ≤ zs.length := by
  unfold bestF
  split
  · exact List.length_filter_le _ _
  · simp

def bestK (n : Int) (zs vs : List Int) : List Int := if vvB n zs vs = true then unbL (fun y x => keptB (wantC vs n.toNat) (wantB vs n.toNat) y x) zs else []
theorem bestK_yes {n : Int} {zs vs : List Int} (h : vvB n zs vs = true) : bestK n zs vs = unbL (fun y x => keptB (wantC vs n.toNat) (wantB vs n.toNat) y x) zs := if_pos h
theorem bestK_no {n : Int} {zs vs : List Int} (h : vvB n zs vs = false) : bestK n zs vs = [] := if_neg (by rw [h]; decide)
theorem bestK_len (n : Int) (zs vs : List Int) : (bestK n zs vs).length ≤ zs.length := by
  unfold bestK
  split
  · exact List.length_filter_le _ _
  · simp

def bestM (n : Int) (zs vs : List Int) : List Int := if vvB n zs vs = true then unbL (fun y x => moreB (wantC vs n.toNat) (wantB vs n.toNat) y x) zs else []
theorem bestM_yes {n : Int} {zs vs : List Int} (h : vvB n zs vs = true) : bestM n zs vs = unbL (fun y x => moreB (wantC vs n.toNat) (wantB vs n.toNat) y x) zs := if_pos h
theorem bestM_no {n : Int} {zs vs : List Int} (h : vvB n zs vs = false) : bestM n zs vs = [] := if_neg (by rw [h]; decide)
theorem bestM_len (n : Int) (zs vs : List Int) : (bestM n zs vs).length ≤ zs.length := by
  unfold bestM
  split
  · exact List.length_filter_le _ _
  · simp

end Go.Proofs.Ytccemllgglfgkaa

/- BestM: What the promises of the four rules need: gaps from all votes as a weighted sum of the wanted answers that are lost. -/
namespace Go.Proofs.Ytccemllgglfgkaa
open Go.RowKit Go.Joins

theorem wt4 : ∀ x : Fin 16, wt x.val = bitN x.val 0 + bitN x.val 1 + bitN x.val 2 + bitN x.val 3 := by decide +kernel
theorem xor_bit : ∀ x y : Fin 16, ∀ j : Fin 4, bitN (x.val ^^^ y.val) j.val = (bitN x.val j.val + bitN y.val j.val) % 2 := by decide +kernel
theorem gp_bits {x v : Nat} (hx : x < 16) (hv : v < 16) : gp (x : Int) (v : Int) = (bitN x 0 + bitN v 0) % 2 + (bitN x 1 + bitN v 1) % 2 + (bitN x 2 + bitN v 2) % 2 + (bitN x 3 + bitN v 3) % 2 := by
  have hxv : x ^^^ v < 16 := Nat.xor_lt_two_pow (n := 4) hx hv
  have h := wt4 ⟨x ^^^ v, hxv⟩
  have h0 := xor_bit ⟨x, hx⟩ ⟨v, hv⟩ 0
  have h1 := xor_bit ⟨x, hx⟩ ⟨v, hv⟩ 1
  have h2 := xor_bit ⟨x, hx⟩ ⟨v, hv⟩ 2
  have h3 := xor_bit ⟨x, hx⟩ ⟨v, hv⟩ 3
  simp only [Fin.isValue, Fin.val_zero, Fin.val_one, Fin.val_two, show ((3 : Fin 4).val) = 3 from rfl] at h h0 h1 h2 h3
  unfold gp
  rw [Int.toNat_natCast, Int.toNat_natCast, h, h0, h1, h2, h3]
/-- how many of the first k votes answer otherwise -/
def cstK (vs : List Int) (k j t : Nat) : Nat := if t = 1 then k - supK vs j k else supK vs j k
theorem cst_step (vs : List Int) (k j t : Nat) (ht : t ≤ 1) : cstK vs (k + 1) j t = cstK vs k j t + (t + bitN (vs.getD k 0).toNat j) % 2 := by
  have h1 := supK_le vs j k
  have h2 := bitN_le (vs.getD k 0).toNat j
  unfold cstK
  rw [show supK vs j (k + 1) = supK vs j k + bitN (vs.getD k 0).toNat j from rfl]
  rcases (show t = 0 ∨ t = 1 from by omega) with rfl | rfl
  · rw [if_neg (by omega), if_neg (by omega)]; omega
  · rw [if_pos rfl, if_pos rfl]; omega
theorem tot_cst {vs : List Int} {x : Nat} (hx : x < 16) (hr : ∀ v ∈ vs, 0 ≤ v ∧ v ≤ 15) : ∀ k, k ≤ vs.length → totK vs (x : Int) k = cstK vs k 0 (bitN x 0) + cstK vs k 1 (bitN x 1) + cstK vs k 2 (bitN x 2) + cstK vs k 3 (bitN x 3)
  | 0, _ => by simp [totK, cstK, supK]
  | k + 1, h => by
    have ih := tot_cst hx hr k (by omega)
    have hm := hr _ (mem_of_at (zs := vs) (k := k) h)
    obtain ⟨v, hv⟩ := Int.eq_ofNat_of_zero_le hm.1
    have hg : vs.getD k 0 = (v : Int) := by rw [getD_lt (show k < vs.length from h)]; exact hv
    have hb := gp_bits (x := x) (v := v) hx (by omega)
    have e : (vs.getD k 0).toNat = v := by rw [hg]; simp
    rw [totK, ih, hg, hb, cst_step _ _ _ _ (bitN_le x 0), cst_step _ _ _ _ (bitN_le x 1), cst_step _ _ _ _ (bitN_le x 2), cst_step _ _ _ _ (bitN_le x 3), e]
    omega

theorem bit_push : ∀ k : Fin 4, ∀ a : Fin 16, ∀ j : Fin 4, a.val < 2 ^ k.val → bitN (a.val + 2 ^ k.val) j.val = if j.val = k.val then 1 else bitN a.val j.val := by decide +kernel
theorem bit_high : ∀ k : Fin 5, ∀ a : Fin 16, ∀ j : Fin 4, a.val < 2 ^ k.val → k.val ≤ j.val → bitN a.val j.val = 0 := by decide +kernel
theorem pow_16 {k a : Nat} (hk : k ≤ 4) (ha : a < 2 ^ k) : a < 16 := Nat.lt_of_lt_of_le ha (Nat.pow_le_pow_right (n := 2) (by omega) hk)
theorem bitC (vs : List Int) (j : Nat) (hj : j < 4) : ∀ k, k ≤ 4 → bitN (wantC vs k) j = if j < k ∧ 2 * supN vs j ≠ vs.length then 1 else 0
  | 0, _ => by simp [wantC, bitN]
  | k + 1, h => by
    have ih := bitC vs j hj k (by omega)
    have hlt := wantC_lt vs k
    have h16 := pow_16 (show k ≤ 4 by omega) hlt
    by_cases he : 2 * supN vs k = vs.length
    · rw [wantC_no he, ih]
      by_cases hjk : j < k
      · simp [hjk, show j < k + 1 by omega]
      · rw [if_neg (by omega), if_neg]
        rintro ⟨h1, h2⟩
        obtain rfl : j = k := by omega
        exact h2 he
    · have hp := bit_push ⟨k, by omega⟩ ⟨wantC vs k, h16⟩ ⟨j, hj⟩ hlt
      simp only at hp
      rw [wantC_yes he, hp, ih]
      by_cases hjk : j = k
      · subst hjk
        rw [if_pos rfl, if_pos ⟨by omega, he⟩]
      · rw [if_neg hjk]
        by_cases hjl : j < k
        · simp [hjl, show j < k + 1 by omega]
        · rw [if_neg (by omega), if_neg (by omega)]
theorem bitB (vs : List Int) (j : Nat) (hj : j < 4) : ∀ k, k ≤ 4 → bitN (wantB vs k) j = if j < k ∧ vs.length < 2 * supN vs j then 1 else 0
  | 0, _ => by simp [wantB, bitN]
  | k + 1, h => by
    have ih := bitB vs j hj k (by omega)
    have hlt := wantB_lt vs k
    have h16 := pow_16 (show k ≤ 4 by omega) hlt
    by_cases he : vs.length < 2 * supN vs k
    · have hp := bit_push ⟨k, by omega⟩ ⟨wantB vs k, h16⟩ ⟨j, hj⟩ hlt
      simp only at hp
      rw [wantB_yes he, hp, ih]
      by_cases hjk : j = k
      · subst hjk
        rw [if_pos rfl, if_pos ⟨by omega, he⟩]
      · rw [if_neg hjk]
        by_cases hjl : j < k
        · simp [hjl, show j < k + 1 by omega]
        · rw [if_neg (by omega), if_neg (by omega)]
    · rw [wantB_no he, ih]
      by_cases hjk : j < k
      · simp [hjk, show j < k + 1 by omega]
      · rw [if_neg (by omega), if_neg]
        rintro ⟨h1, h2⟩
        obtain rfl : j = k := by omega
        exact he h2
theorem lost_bit : ∀ x b c : Fin 16, ∀ j : Fin 4, bitN ((x.val ^^^ b.val) &&& c.val) j.val = if bitN c.val j.val = 1 ∧ bitN x.val j.val ≠ bitN b.val j.val then 1 else 0 := by decide +kernel

/-- how much more it costs not to give a wanted answer -/
def wj (vs : List Int) (j : Nat) : Nat := if vs.length < 2 * supN vs j then 2 * supN vs j - vs.length else vs.length - 2 * supN vs j
def bj (vs : List Int) (m j : Nat) : Nat := if j < m ∧ vs.length < 2 * supN vs j then vs.length - supN vs j else supN vs j
theorem cst_arith (n s t : Nat) (p : Prop) [Decidable p] (hs : s ≤ n) (ht : t = 0 ∨ t = 1) (h0 : ¬ p → t = 0) :
    (if t = 1 then n - s else s) = (if p ∧ n < 2 * s then n - s else s) + (if (if p ∧ 2 * s ≠ n then 1 else 0) = 1 ∧ t ≠ (if p ∧ n < 2 * s then 1 else 0) then 1 else 0) * (if n < 2 * s then 2 * s - n else n - 2 * s) := by
  by_cases hp : p
  · by_cases h1 : n < 2 * s
    · have h2 : ¬ 2 * s = n := by omega
      rcases ht with rfl | rfl
      · simp [hp, h1, h2]; omega
      · simp [hp, h1]
    · by_cases h2 : 2 * s = n
      · rcases ht with rfl | rfl <;> simp [hp, h2] <;> omega
      · rcases ht with rfl | rfl
        · simp [hp, h1, h2]
        · simp [hp, h1, h2]; omega
  · obtain rfl := h0 hp
    simp [hp]
theorem cst_lost {vs : List Int} {m x : Nat} (hm : m ≤ 4) (hx : x < 2 ^ m) (j : Nat) (hj : j < 4) :
    cstK vs vs.length j (bitN x j) = bj vs m j + bitN (lostN (wantC vs m) (wantB vs m) (x : Int)) j * wj vs j := by
  have hx16 := pow_16 hm hx
  have hc := pow_16 hm (wantC_lt vs m)
  have hb := pow_16 hm (wantB_lt vs m)
  have hl := lost_bit ⟨x, hx16⟩ ⟨wantB vs m, hb⟩ ⟨wantC vs m, hc⟩ ⟨j, hj⟩
  simp only at hl
  have e : lostN (wantC vs m) (wantB vs m) (x : Int) = (x ^^^ wantB vs m) &&& wantC vs m := by unfold lostN; rw [Int.toNat_natCast]
  have hs := supN_le vs j
  have hbx := bitN_le x j
  have h0 : ¬ j < m → bitN x j = 0 := fun hjm => by
    have := bit_high ⟨m, by omega⟩ ⟨x, hx16⟩ ⟨j, hj⟩ hx (by simp only; omega)
    simpa only using this
  rw [e, hl, bitC vs j hj m hm, bitB vs j hj m hm]
  unfold cstK bj wj
  exact cst_arith _ _ _ _ hs (by omega) h0
theorem wj_pos {vs : List Int} {m j : Nat} (hm : m ≤ 4) (hj : j < 4) (h : bitN (wantC vs m) j = 1) : 0 < wj vs j := by
  rw [bitC vs j hj m hm] at h
  unfold wj
  split at h
  · split <;> omega
  · omega
def base4 (vs : List Int) (m : Nat) : Nat := bj vs m 0 + bj vs m 1 + bj vs m 2 + bj vs m 3
def wsum4 (vs : List Int) (l : Nat) : Nat := bitN l 0 * wj vs 0 + bitN l 1 * wj vs 1 + bitN l 2 * wj vs 2 + bitN l 3 * wj vs 3
theorem tot_lost {vs : List Int} {m x : Nat} (hm : m ≤ 4) (hx : x < 2 ^ m) (hr : ∀ v ∈ vs, 0 ≤ v ∧ v ≤ 15) : totN vs (x : Int) = base4 vs m + wsum4 vs (lostN (wantC vs m) (wantB vs m) (x : Int)) := by
  unfold totN
  rw [tot_cst (pow_16 hm hx) hr _ (Nat.le_refl _), cst_lost hm hx 0 (by omega), cst_lost hm hx 1 (by omega), cst_lost hm hx 2 (by omega), cst_lost hm hx 3 (by omega)]
  unfold base4 wsum4
  omega
theorem sub_bits : ∀ p q : Fin 16, p.val &&& q.val = p.val → ∀ j : Fin 4, bitN p.val j.val ≤ bitN q.val j.val := by decide +kernel
theorem sub_less : ∀ p q : Fin 16, p.val &&& q.val = p.val → p.val ≠ q.val → ∃ j : Fin 4, bitN p.val j.val = 0 ∧ bitN q.val j.val = 1 := by decide +kernel
theorem sub_wt : ∀ p q : Fin 16, p.val &&& q.val = p.val → p.val ≠ q.val → wt p.val < wt q.val := by decide +kernel
theorem and_bit : ∀ p c : Fin 16, p.val &&& c.val = p.val → ∀ j : Fin 4, bitN p.val j.val = 1 → bitN c.val j.val = 1 := by decide +kernel
theorem and_self16 (p c : Nat) : (p &&& c) &&& c = p &&& c := by rw [Nat.and_assoc, Nat.and_self]
theorem wsum_less {vs : List Int} {m p q : Nat} (hm : m ≤ 4) (hp : p < 16) (hq : q < 16) (h : p &&& q = p) (hne : p ≠ q) (hc : q &&& wantC vs m = q) : wsum4 vs p < wsum4 vs q := by
  have hC := pow_16 hm (wantC_lt vs m)
  have s := sub_bits ⟨p, hp⟩ ⟨q, hq⟩ h
  have m0 := Nat.mul_le_mul_right (wj vs 0) (s 0)
  have m1 := Nat.mul_le_mul_right (wj vs 1) (s 1)
  have m2 := Nat.mul_le_mul_right (wj vs 2) (s 2)
  have m3 := Nat.mul_le_mul_right (wj vs 3) (s 3)
  obtain ⟨j, h0, h1⟩ := sub_less ⟨p, hp⟩ ⟨q, hq⟩ h hne
  have hw := wj_pos hm j.isLt (and_bit ⟨q, hq⟩ ⟨wantC vs m, hC⟩ hc j h1)
  have hs : bitN p j.val * wj vs j.val < bitN q j.val * wj vs j.val := by
    simp only at h0 h1
    rw [h0, h1]; omega
  simp only [Fin.isValue, Fin.val_zero, Fin.val_one, Fin.val_two, show ((3 : Fin 4).val) = 3 from rfl] at m0 m1 m2 m3
  unfold wsum4
  match j, hs with
  | 0, hs => simp only [Fin.isValue, Fin.val_zero] at hs; omega
  | 1, hs => simp only [Fin.isValue, Fin.val_one] at hs; omega
  | 2, hs => simp only [Fin.isValue, Fin.val_two] at hs; omega
  | 3, hs => simp only [Fin.isValue, show ((3 : Fin 4).val) = 3 from rfl] at hs; omega
theorem wsum_zero (vs : List Int) : wsum4 vs 0 = 0 := by simp [wsum4, bitN]

/-- A judgment of the space as a number. -/
theorem zs_nat {n : Int} {zs : List Int} (h : Valid n zs) {x : Int} (hx : x ∈ zs) : ∃ z : Nat, x = (z : Int) ∧ z < 2 ^ n.toNat ∧ z < 16 := by
  obtain ⟨i, hi, e⟩ := List.getElem_of_mem hx
  have h1 := (h.2.2 i hi).1
  rw [getD_lt hi, e] at h1
  have h2 := valid_range h x hx
  unfold pw at h1
  exact ⟨x.toNat, by omega, by omega, by omega⟩
theorem kept_less {n : Int} {zs vs : List Int} (h : vvB n zs vs = true) {x y : Int} (hx : x ∈ zs) (hy : y ∈ zs) (hk : keptB (wantC vs n.toNat) (wantB vs n.toNat) y x = true) : totN vs y < totN vs x := by
  obtain ⟨hV, hO⟩ := vv_of h
  have hm : n.toNat ≤ 4 := by have := hV.1; omega
  have hr := votes_range hV hO
  obtain ⟨a, rfl, ha, _⟩ := zs_nat hV hx
  obtain ⟨b, rfl, hb, _⟩ := zs_nat hV hy
  have hC := pow_16 hm (wantC_lt vs n.toNat)
  unfold keptB at hk
  rw [Bool.and_eq_true, beq_iff_eq, bne_iff_ne] at hk
  rw [tot_lost hm ha hr, tot_lost hm hb hr]
  have := wsum_less hm (lostN_lt _ hC) (lostN_lt _ hC) hk.1 hk.2 (by unfold lostN; exact and_self16 _ _)
  omega
theorem more_of_kept {c b : Nat} {x y : Int} (hc : c < 16) (hk : keptB c b y x = true) : wt (lostN c b y) < wt (lostN c b x) := by
  unfold keptB at hk
  rw [Bool.and_eq_true, beq_iff_eq, bne_iff_ne] at hk
  exact sub_wt ⟨_, lostN_lt _ hc⟩ ⟨_, lostN_lt _ hc⟩ hk.1 hk.2
theorem lost_zero : ∀ x b c : Fin 16, b.val &&& c.val = b.val → (((x.val ^^^ b.val) &&& c.val = 0) ↔ (x.val &&& c.val = b.val)) := by decide +kernel
theorem want_sub {vs : List Int} {m : Nat} (hm : m ≤ 4) : wantB vs m &&& wantC vs m = wantB vs m := want_and vs m hm
/-- who gives all wanted answers -/
theorem lost_iff {n : Int} {zs vs : List Int} (h : vvB n zs vs = true) {x : Int} (hx : x ∈ zs) : lostN (wantC vs n.toNat) (wantB vs n.toNat) x = 0 ↔ x.toNat &&& wantC vs n.toNat = wantB vs n.toNat := by
  obtain ⟨hV, hO⟩ := vv_of h
  have hm : n.toNat ≤ 4 := by have := hV.1; omega
  obtain ⟨a, rfl, _, ha⟩ := zs_nat hV hx
  have := lost_zero ⟨a, ha⟩ ⟨wantB vs n.toNat, pow_16 hm (wantB_lt vs _)⟩ ⟨wantC vs n.toNat, pow_16 hm (wantC_lt vs _)⟩ (want_sub hm)
  unfold lostN
  rw [Int.toNat_natCast]
  exact this
theorem set_iff {n : Int} {zs vs : List Int} (h : vvB n zs vs = true) : setB n zs vs = true ↔ ∃ x ∈ zs, lostN (wantC vs n.toNat) (wantB vs n.toNat) x = 0 := by
  rw [setB_yes h]
  unfold openB
  rw [List.any_eq_true]
  constructor
  · rintro ⟨x, hx, e⟩
    refine ⟨x, hx, (lost_iff h hx).2 ?_⟩
    unfold hpB at e
    simpa using e
  · rintro ⟨x, hx, e⟩
    refine ⟨x, hx, ?_⟩
    unfold hpB
    simpa using (lost_iff h hx).1 e
theorem mem_unb {b : Int → Int → Bool} {zs : List Int} {x : Int} : x ∈ unbL b zs ↔ x ∈ zs ∧ ∀ y ∈ zs, b y x = false := by
  unfold unbL unbP
  rw [List.mem_filter, Bool.not_eq_true', List.any_eq_false]
  exact ⟨fun h => ⟨h.1, fun y hy => by simpa using h.2 y hy⟩, fun h => ⟨h.1, fun y hy => by simp [h.2 y hy]⟩⟩
theorem bestM_sub {n : Int} {zs vs : List Int} {x : Int} (h : x ∈ bestM n zs vs) : x ∈ zs := by
  unfold bestM at h
  split at h
  · exact (mem_unb.1 h).1
  · simp at h
theorem near_mem (f : Int → Nat) (zs : List Int) (hpos : 0 < zs.length) : ∃ x, x ∈ unbL (fun y x => decide (f y < f x)) zs := by
  obtain ⟨z, hz, e⟩ := leastF_at f zs hpos zs.length (Nat.le_refl _)
  refine ⟨z, mem_unb.2 ⟨hz, fun y hy => ?_⟩⟩
  obtain ⟨i, hi, rfl⟩ := List.getElem_of_mem hy
  have := leastF_le f zs zs.length i hi
  rw [getD_lt hi] at this
  exact decide_eq_false (by omega)
theorem asc_best {n : Int} {zs : List Int} (h : Valid n zs) (i : Nat) : ∀ j, i < j → j < zs.length → zs.getD i 0 < zs.getD j 0
  | 0, h1, _ => by omega
  | j + 1, h1, h2 => by
    have hs := (h.2.2 (j + 1) h2).2 (by omega)
    rw [Nat.add_sub_cancel] at hs
    rcases Nat.lt_or_ge i j with hlt | hge
    · have := asc_best h i j hlt (by omega)
      omega
    · obtain rfl : i = j := by omega
      exact hs
theorem ups_unb {n : Int} {zs : List Int} (h : Valid n zs) (b : Int → Int → Bool) : ∀ i, i < (unbL b zs).length → 0 < i → (unbL b zs).getD (i - 1) 0 < (unbL b zs).getD i 0 := by
  have hp0 : zs.Pairwise (· < ·) := by
    rw [List.pairwise_iff_getElem]
    intro i j hi hj hij
    have := asc_best h i j hij hj
    rwa [getD_lt hi, getD_lt hj] at this
  have hp : (unbL b zs).Pairwise (· < ·) := List.Pairwise.filter (unbP b zs) hp0
  intro i hi h0
  have := (List.pairwise_iff_getElem.1 hp) (i - 1) i (by omega) hi (by omega)
  rwa [getD_lt hi, getD_lt (by omega)]
/-- What the promise of MedianRule needs. -/
theorem median_facts {n : Int} {zs vs : List Int} (h : vvB n zs vs = true) :
    0 < (bestA n zs vs).length ∧ (∀ x ∈ bestA n zs vs, x ∈ bestK n zs vs) ∧ (setB n zs vs = true → ∀ z ∈ zs, hasB (bestA n zs vs) z = (z.toNat &&& wantC vs n.toNat == wantB vs n.toNat)) := by
  obtain ⟨hV, hO⟩ := vv_of h
  have hm : n.toNat ≤ 4 := by have := hV.1; omega
  have hr := votes_range hV hO
  rw [bestA_yes h, bestK_yes h]
  refine ⟨?_, fun x hx => ?_, fun hs z hz => ?_⟩
  · obtain ⟨x, hx⟩ := near_mem (totN vs) zs hV.2.1
    exact List.length_pos_of_mem hx
  · rw [mem_unb] at hx ⊢
    refine ⟨hx.1, fun y hy => ?_⟩
    by_cases hk : keptB (wantC vs n.toNat) (wantB vs n.toNat) y x = true
    · have := kept_less h hx.1 hy hk
      have h2 := hx.2 y hy
      simp only [decide_eq_false_iff_not] at h2
      omega
    · simpa using hk
  · obtain ⟨x0, hx0, e0⟩ := (set_iff h).1 hs
    obtain ⟨a, rfl, ha, _⟩ := zs_nat hV hx0
    obtain ⟨c, rfl, hc, hc16⟩ := zs_nat hV hz
    have t0 := tot_lost hm ha hr
    have tz := tot_lost hm hc hr
    rw [e0, wsum_zero] at t0
    have hC := pow_16 hm (wantC_lt vs n.toNat)
    have hl := lost_iff h hz
    rw [Int.toNat_natCast] at hl ⊢
    rw [Bool.eq_iff_iff, beq_iff_eq, ← hl]
    unfold hasB
    rw [decide_eq_true_eq, mem_unb]
    constructor
    · rintro ⟨_, hall⟩
      have h1 := hall _ hx0
      simp only [decide_eq_false_iff_not] at h1
      by_cases hz0 : lostN (wantC vs n.toNat) (wantB vs n.toNat) (c : Int) = 0
      · exact hz0
      · have := wsum_less (vs := vs) (p := 0) hm (by omega) (lostN_lt (b := wantB vs n.toNat) (c : Int) hC) (by simp) (fun e => hz0 e.symm) (by unfold lostN; exact and_self16 _ _)
        omega
    · intro e
      rw [e, wsum_zero] at tz
      refine ⟨hz, fun y hy => ?_⟩
      obtain ⟨d, rfl, hd, _⟩ := zs_nat hV hy
      have td := tot_lost hm hd hr
      exact decide_eq_false (by omega)
/-- What the promise of SlaterRule needs. -/
theorem slater_facts {n : Int} {zs vs : List Int} (h : vvB n zs vs = true) :
    0 < (bestM n zs vs).length ∧ (∀ x ∈ bestM n zs vs, x ∈ bestK n zs vs) ∧ (∀ x ∈ bestM n zs vs, ∀ z ∈ zs, wt (lostN (wantC vs n.toNat) (wantB vs n.toNat) x) ≤ wt (lostN (wantC vs n.toNat) (wantB vs n.toNat) z)) ∧
      (∀ x ∈ bestM n zs vs, ∀ z ∈ zs, hasB (bestM n zs vs) z = (wt (lostN (wantC vs n.toNat) (wantB vs n.toNat) z) == wt (lostN (wantC vs n.toNat) (wantB vs n.toNat) x))) := by
  obtain ⟨hV, hO⟩ := vv_of h
  have hm : n.toNat ≤ 4 := by have := hV.1; omega
  have hC := pow_16 hm (wantC_lt vs n.toNat)
  rw [bestM_yes h, bestK_yes h]
  have le : ∀ x ∈ unbL (fun y x => moreB (wantC vs n.toNat) (wantB vs n.toNat) y x) zs, ∀ z ∈ zs, wt (lostN (wantC vs n.toNat) (wantB vs n.toNat) x) ≤ wt (lostN (wantC vs n.toNat) (wantB vs n.toNat) z) := fun x hx z hz => by
    have := (mem_unb.1 hx).2 z hz
    unfold moreB at this
    simp only [decide_eq_false_iff_not] at this
    omega
  refine ⟨?_, fun x hx => ?_, le, fun x hx z hz => ?_⟩
  · obtain ⟨x, hx⟩ := near_mem (fun x => wt (lostN (wantC vs n.toNat) (wantB vs n.toNat) x)) zs hV.2.1
    exact List.length_pos_of_mem hx
  · have hx' := mem_unb.1 hx
    refine mem_unb.2 ⟨hx'.1, fun y hy => ?_⟩
    by_cases hk : keptB (wantC vs n.toNat) (wantB vs n.toNat) y x = true
    · have h1 := more_of_kept hC hk
      have h2 := le x hx y hy
      omega
    · simpa using hk
  · have hx' := mem_unb.1 hx
    have h1 := le x hx z hz
    rw [Bool.eq_iff_iff, beq_iff_eq]
    unfold hasB
    rw [decide_eq_true_eq, mem_unb]
    constructor
    · rintro ⟨_, hall⟩
      have := hall x hx'.1
      unfold moreB at this
      simp only [decide_eq_false_iff_not] at this
      omega
    · intro e
      refine ⟨hz, fun y hy => ?_⟩
      have := le x hx y hy
      unfold moreB
      exact decide_eq_false (by omega)
end Go.Proofs.Ytccemllgglfgkaa

/- Rng: A loop over a method value: the loop's law where the iterator bears a bound receiver, outermost and within a round of another loop. -/
namespace Go.Proofs.Ytccemllgglfgkaa
open Go.RowKit

/-- the ways in which one round may end -/
def LeftBy (B : Nat) (I : World → Prop) (Ix : Code → World → Prop) (W : World) : Exit → Act → World → Prop
  | .normal, _, V => KeepsFrom B W V ∧ I V
  | .ret, _, V => KeepsFrom B W V ∧ Ix .ret V
  | .exit i, _, V => KeepsFrom B W V ∧ Ix (.exit i) V
  | .goto t, _, V => KeepsFrom B W V ∧ Ix (.goto t) V
  | .panic _, _, _ => False
  | .outgrown, _, _ => False

/-- the iterator gf with the bound values fb hands over the numbers zs, whatever the rounds do to memory that is not that of w0 -/
def Iter (F : Fence) (n : Nat) (P : Program) (gf : Nat) (fb : Array Value) (zs : List Int) (w0 : World) : Prop :=
  ∀ (l : Nat) (J : List Int → World → Prop) (Jx : World → Prop) (W : World),
    (∀ s V, J s V → Below w0.heap.size w0 V) →
    (∀ s V o, J s V → J s (V.alloc o)) →
    (∀ s x V, s ++ [x] <+: zs → J s V → YieldAt F (n - 1) P l #[.int .i64 x] V fun e V' => (e = .returned (.bool true) ∧ J (s ++ [x]) V') ∨ (e = .returned (.bool false) ∧ Jx V')) →
    J [] W →
    CallsIn F n P gf (fb ++ #[.func (.yield l) #[] #[]]) W fun e V => (∃ v, e = .returned v) ∧ (J zs V ∨ Jx V)

theorem range_core {F : Fence} {n : Nat} {P : Program} {ps : Array Tmp} {assign body : Code} {Q : Exit → Act → World → Prop} {tm : Array Value} {a' : Act} {W1 w0 : World} {fn l B d gf : Nat} {fb : Array Value} {zs : List Int}
    (hfn : F.fn fn) (hps : ps.size = 1) (hBl : B ≤ l) (hseq : Iter F (n - 1) P gf fb zs w0)
    (I : List Int → World → Prop) (Ix : Code → World → Prop) (T : World → Prop) (hI : OwnFrom B I) (hIx : OwnFrom B Ix) (hIb : ∀ s V, I s V → Below w0.heap.size w0 V)
    (hT : ∀ V V' : World, (∀ (k : Nat) (o : Obj), k ≠ l → B ≤ k → V.heap[k]? = some o → o.isCells = false → V'.heap[k]? = some o) → T V → T V')
    (hl1 : W1.heap[l]? = some (.loop { state := .ready, pending := none, fn, tmps := tm, params := ps, assign, body, defers := d }))
    (h1 : I [] W1) (ht : T W1)
    (hround : ∀ s x W, s ++ [x] <+: zs → (∃ r, W.heap[l]? = some (.loop r)) → I s W →
      assign.wpIn (F.inRound l) (n - 1 - 1) P (Exit.then (fun a₁ U => KeepsFrom B W U ∧ ∀ V, U.grownBy V (some l) → (∃ r, U.heap[l]? = some (.loop r)) → (∃ r, V.heap[l]? = some (.loop r)) →
        body.wpIn (F.inRound l) (n - 1 - 1) P (LeftBy B (I (s ++ [x])) Ix V) a₁ V) (fun _ _ _ => False))
        { tmps := (ps.zip #[.int .i64 x]).foldl (fun t (p, v) => t.setIfInBounds p v) tm, defers := [] } W)
    (hdone : ∀ V, I zs V → T V → Q .normal a' V) (hstop : ∀ c V, Ix c V → T V → c.wpIn F n P Q a' V) :
    CallsIn F (n - 1) P gf (fb ++ #[.func (.yield l) #[] #[]]) W1 (rangePost F n P l Q a') := by
  have kf : ∀ {X Y : World}, KeepsFrom B X Y → T X → T Y := fun {X Y} h => hT X Y fun k o _ hB hk ho => h.same k o hB hk ho
  have kp : ∀ {X : World} (o : Obj), T X → T (X.putObj l o) := fun {X} o => hT X _ fun k ob hne _ hk _ => (World.putObj_heap_other hne).trans hk
  refine (hseq l
    (fun s V => I s V ∧ V.heap[l]? = some (.loop { state := .ready, pending := none, fn, tmps := tm, params := ps, assign, body, defers := d }) ∧ T V)
    (fun V => ∃ c, Ix c V ∧ V.heap[l]? = some (.loop { state := .done, pending := some c, fn, tmps := tm, params := ps, assign, body, defers := d }) ∧ T V)
    W1 (fun s V h => hIb s V h.1) ?_ ?_ ⟨h1, hl1, ht⟩).mono ?_
  · rintro s V o ⟨hi, hl, ht⟩
    have hk : ∀ (k : Nat) (ob : Obj), V.heap[k]? = some ob → (V.alloc o).heap[k]? = some ob := fun k ob hk => (Below.heap_alloc V o k (Array.getElem?_eq_some_iff.1 hk).1).trans hk
    exact ⟨hI.alloc o hi, hk _ _ hl, hT V _ (fun k ob _ _ h _ => hk k ob h) ht⟩
  · rintro s x V hp ⟨hi, hl, ht⟩
    refine ⟨fn, _, assign, body, run_yield (P := P) (args := #[.int .i64 x]) hl (by simp [hps]), roundIn_of_wpIn hfn (wpIn_mono (hround s x V hp ⟨_, hl⟩ hi) ?_)⟩
    rintro e a₁ U hq
    cases e with
    | normal =>
      obtain ⟨hk, hb⟩ := hq
      have hlU := hk.same l _ hBl hl rfl
      have hlt : l < U.heap.size := (Array.getElem?_eq_some_iff.1 hlU).1
      have hl2 : (U.putObj l (.loop { state := .busy, pending := none, fn, tmps := tm, params := ps, assign, body, defers := d })).heap[l]? = some (.loop { state := .busy, pending := none, fn, tmps := tm, params := ps, assign, body, defers := d }) := World.putObj_heap_same hlt
      have t2 := kp (.loop { state := .busy, pending := none, fn, tmps := tm, params := ps, assign, body, defers := d }) (kf hk ht)
      refine ⟨_, run_beginRound hlU rfl, wpIn_mono (hb _ (grownBy_putObj' U l _) ⟨_, hlU⟩ ⟨_, hl2⟩) ?_⟩
      rintro e a₃ Y hq
      have fin : KeepsFrom B (U.putObj l (.loop { state := .busy, pending := none, fn, tmps := tm, params := ps, assign, body, defers := d })) Y →
          Y.heap[l]? = some (.loop { state := .busy, pending := none, fn, tmps := tm, params := ps, assign, body, defers := d }) ∧ l < Y.heap.size ∧ T Y := fun h3 => by
        have h := h3.same l _ hBl hl2 rfl
        exact ⟨h, (Array.getElem?_eq_some_iff.1 h).1, kf h3 t2⟩
      cases e with
      | normal =>
        obtain ⟨h3, h4⟩ := hq
        obtain ⟨g1, g2, g3⟩ := fin h3
        exact ⟨_, _, run_endRound none g1, .inl ⟨rfl, hI.putObj _ h4 hBl g1 rfl, World.putObj_heap_same g2, kp _ g3⟩⟩
      | ret =>
        obtain ⟨h3, h4⟩ := hq
        obtain ⟨g1, g2, g3⟩ := fin h3
        exact ⟨_, _, run_endRound (some .ret) g1, .inr ⟨rfl, .ret, hIx.putObj _ h4 hBl g1 rfl, World.putObj_heap_same g2, kp _ g3⟩⟩
      | exit i =>
        obtain ⟨h3, h4⟩ := hq
        obtain ⟨g1, g2, g3⟩ := fin h3
        exact ⟨_, _, run_endRound (some (.exit i)) g1, .inr ⟨rfl, .exit i, hIx.putObj _ h4 hBl g1 rfl, World.putObj_heap_same g2, kp _ g3⟩⟩
      | goto t =>
        obtain ⟨h3, h4⟩ := hq
        obtain ⟨g1, g2, g3⟩ := fin h3
        exact ⟨_, _, run_endRound (some (.goto t)) g1, .inr ⟨rfl, .goto t, hIx.putObj _ h4 hBl g1 rfl, World.putObj_heap_same g2, kp _ g3⟩⟩
      | panic ch => exact hq.elim
      | outgrown => exact hq.elim
    | ret => exact hq.elim
    | exit i => exact hq.elim
    | goto t => exact hq.elim
    | panic ch => exact hq.elim
    | outgrown => exact hq.elim
  · rintro e V ⟨⟨v, rfl⟩, (⟨hi, hl, ht⟩ | ⟨c, hi, hl, ht⟩)⟩
    · exact ⟨none, _, run_endLoop hl (by simp), hdone _ (hI.putObj _ hi hBl hl rfl) (kp _ ht)⟩
    · exact ⟨some c, _, run_endLoop hl (by simp), hstop c _ (hIx.putObj _ hi hBl hl rfl) (kp _ ht)⟩

/-- The loop that stands in no other one. -/
theorem range_outer {F : Fence} {n : Nat} {P : Program} {g : Operand} {ps : Array Tmp} {assign body : Code} {Q : Exit → Act → World → Prop} {a : Act} {w w0 : World} {gf : Nat} {fb : Array Value} {zs : List Int}
    (hro : F.round = none) (hn : 1 ≤ n) (hg : a.eval g = .func (.func gf) fb #[]) (hFg : F.fn gf) (eg : ∀ args w, (callFunc gf args).run P w = .ok (.enter gf args) w) (hps : ps.size = 1)
    (hseq : Iter F (n - 1) P gf fb zs w0)
    (I : List Int → World → Prop) (Ix : Code → World → Prop) (hI : OwnFrom w.heap.size I) (hIx : OwnFrom w.heap.size Ix) (hIb : ∀ s V, I s V → Below w0.heap.size w0 V) (h0 : I [] w)
    (hround : ∀ s x W, s ++ [x] <+: zs → (∃ r, W.heap[w.heap.size + 1]? = some (.loop r)) → I s W →
      assign.wpIn (F.inRound (w.heap.size + 1)) (n - 1 - 1) P (Exit.then (fun a₁ U => KeepsFrom w.heap.size W U ∧ ∀ V, U.grownBy V (some (w.heap.size + 1)) → (∃ r, U.heap[w.heap.size + 1]? = some (.loop r)) → (∃ r, V.heap[w.heap.size + 1]? = some (.loop r)) →
        body.wpIn (F.inRound (w.heap.size + 1)) (n - 1 - 1) P (LeftBy w.heap.size (I (s ++ [x])) Ix V) a₁ V) (fun _ _ _ => False))
        { tmps := (ps.zip #[.int .i64 x]).foldl (fun t (p, v) => t.setIfInBounds p v) a.tmps, defers := [] } W)
    (hdone : ∀ V, I zs V → V.heap[w.heap.size]? = some (.deferred (some [])) → Q .normal { a with defers := { target := .collected w.heap.size, args := #[] } :: a.defers } V)
    (hstop : ∀ c V, Ix c V → V.heap[w.heap.size]? = some (.deferred (some [])) → c.wpIn F n P Q { a with defers := { target := .collected w.heap.size, args := #[] } :: a.defers } V) :
    (Code.rangeFunc g ps assign body).wpIn F n P Q a w := by
  refine wpIn_rangeFunc fun fn hfn => ?_
  rw [hro]
  obtain ⟨X, hX⟩ : ∃ X : World, X = (w.alloc (.deferred (some []))).alloc (.loop { state := .ready, pending := none, fn, tmps := a.tmps, params := ps, assign, body, defers := w.heap.size }) := ⟨_, rfl⟩
  refine ⟨w.heap.size + 1, [{ target := .collected w.heap.size, args := #[] }], X, { target := .fn (.func gf) #[], args := fb ++ #[.func (.yield (w.heap.size + 1)) #[] #[]] }, X, gf, fb ++ #[.func (.yield (w.heap.size + 1)) #[] #[]], X, by rw [hX]; exact run_enterLoop_outer _ _ _ _ _, ?_, ?_, ?_, fun _ => hn, ?_⟩
  · simp only [resolve, hg]
    simp [go_sem]
  · intro f' hf'; simp [Target.leads] at hf'; subst hf'; exact hFg
  · simp [invoke, go_sem, eg]
  · refine range_core (T := fun V => V.heap[w.heap.size]? = some (.deferred (some []))) (d := w.heap.size) (tm := a.tmps) hfn hps (Nat.le_succ _) hseq I Ix hI hIx hIb (fun V V' hk hd => hk _ _ (by omega) (Nat.le_refl _) hd rfl) ?_ (by rw [hX]; exact hI.alloc _ (hI.alloc _ h0)) ?_ hround hdone hstop
    · rw [hX]
      have := World.alloc_heap_new (w.alloc (.deferred (some []))) (.loop { state := .ready, pending := none, fn, tmps := a.tmps, params := ps, assign, body, defers := w.heap.size })
      rwa [World.size_alloc] at this
    · rw [hX]
      exact (Below.heap_alloc _ _ _ (by simp)).trans (World.alloc_heap_new w _)

/-- The loop in a round of loop l₀. -/
theorem range_inner {F : Fence} {n l₀ : Nat} {r₀ : Loop} {P : Program} {g : Operand} {ps : Array Tmp} {assign body : Code} {Q : Exit → Act → World → Prop} {a : Act} {w w0 : World} {gf : Nat} {fb : Array Value} {zs : List Int}
    (hro : F.round = some l₀) (hl₀ : w.heap[l₀]? = some (.loop r₀)) (hn : 1 ≤ n) (hg : a.eval g = .func (.func gf) fb #[]) (hFg : F.fn gf) (eg : ∀ args w, (callFunc gf args).run P w = .ok (.enter gf args) w) (hps : ps.size = 1)
    (hseq : Iter F (n - 1) P gf fb zs w0)
    (I : List Int → World → Prop) (Ix : Code → World → Prop) (hI : OwnFrom w.heap.size I) (hIx : OwnFrom w.heap.size Ix) (hIb : ∀ s V, I s V → Below w0.heap.size w0 V) (h0 : I [] w)
    (hround : ∀ s x W, s ++ [x] <+: zs → (∃ r, W.heap[w.heap.size]? = some (.loop r)) → I s W →
      assign.wpIn (F.inRound w.heap.size) (n - 1 - 1) P (Exit.then (fun a₁ U => KeepsFrom w.heap.size W U ∧ ∀ V, U.grownBy V (some w.heap.size) → (∃ r, U.heap[w.heap.size]? = some (.loop r)) → (∃ r, V.heap[w.heap.size]? = some (.loop r)) →
        body.wpIn (F.inRound w.heap.size) (n - 1 - 1) P (LeftBy w.heap.size (I (s ++ [x])) Ix V) a₁ V) (fun _ _ _ => False))
        { tmps := (ps.zip #[.int .i64 x]).foldl (fun t (p, v) => t.setIfInBounds p v) a.tmps, defers := [] } W)
    (hdone : ∀ V, I zs V → Q .normal a V) (hstop : ∀ c V, Ix c V → c.wpIn F n P Q a V) :
    (Code.rangeFunc g ps assign body).wpIn F n P Q a w := by
  refine wpIn_rangeFunc fun fn hfn => ?_
  rw [hro]
  obtain ⟨X, hX⟩ : ∃ X : World, X = w.alloc (.loop { state := .ready, pending := none, fn, tmps := a.tmps, params := ps, assign, body, defers := r₀.defers }) := ⟨_, rfl⟩
  refine ⟨w.heap.size, [], X, { target := .fn (.func gf) #[], args := fb ++ #[.func (.yield w.heap.size) #[] #[]] }, X, gf, fb ++ #[.func (.yield w.heap.size) #[] #[]], X, by rw [hX]; exact run_enterLoop_inner hl₀ _ _ _ _ _, ?_, ?_, ?_, fun _ => hn, ?_⟩
  · simp only [resolve, hg]
    simp [go_sem]
  · intro f' hf'; simp [Target.leads] at hf'; subst hf'; exact hFg
  · simp [invoke, go_sem, eg]
  · exact range_core (T := fun _ => True) (d := r₀.defers) (tm := a.tmps) hfn hps (Nat.le_refl _) hseq I Ix hI hIx hIb (fun _ _ _ _ => trivial) (by rw [hX]; exact World.alloc_heap_new w _) (by rw [hX]; exact hI.alloc _ h0) trivial hround (fun V h _ => hdone V h) (fun c V h _ => hstop c V h)
end Go.Proofs.Ytccemllgglfgkaa

/- PollJ: The judgments of a poll: what the iterator hands over. -/
namespace Go.Proofs.Ytccemllgglfgkaa
open Go.RowKit

attribute [local go_sem] Oper.semAt_some

theorem take_step {zs : List Int} {k : Nat} (h : k < zs.length) : zs.take k ++ [zs[k]] = zs.take (k + 1) := by
  rw [List.take_add_one, List.getElem?_eq_getElem h]; rfl

set_option maxRecDepth 100000 in
set_option maxHeartbeats 2000000 in
theorem judgments_iter (N : Nat) (n : Int) (a l : Option Addr) (cap capl m : Nat) (zs : List Int) (C B : Int) (w0 : World) (hi : Ints w0 a zs) (hn : zs.length ≤ 1048576) :
    Iter Fence.wide N Try.prog 150 #[.agg #[.int .i64 n, .slice a zs.length cap, .slice l m capl, .int .i64 C, .int .i64 B]] zs w0 := by
  intro q J Jx W hJb hJa hY h0
  have h1 := hJa [] W (.cells #[.int .i64 n, .slice a zs.length cap, .slice l m capl, .int .i64 C, .int .i64 B] 116) h0
  refine callsIn_of_wp Try.func150 rfl trivial ?_ rfl
  simp only [Try.ntmps150, List.size_toArray, List.length_cons, List.length_nil, Nat.reduceAdd, Nat.reduceSub, Array.replicate_succ, Array.replicate_zero, List.push_toArray, List.append_toArray, List.nil_append, List.cons_append]
  gi_wp2
  gi_loopw [10] (fun i wr => ∃ k : Nat, k ≤ zs.length ∧ i = .int .i64 k ∧ J (zs.take k) wr) (fun i _ => zs.length - (intOf i).toNat)
  case atStart => exact ⟨0, Nat.zero_le _, rfl, h1⟩
  case round =>
    obtain ⟨k, hk, rfl, hj⟩ := hrel
    by_cases hlt : k < zs.length
    · obtain ⟨b, off, rfl, hbl, hc⟩ := (hi.below (hJb _ _ hj)) (by omega)
      have hck := hc k hlt
      rw [getD_lt hlt] at hck
      obtain ⟨fn, tmps, assign, body, hy, hR⟩ := hY (zs.take k) zs[k] wr (by rw [take_step hlt]; exact List.take_prefix _ _) hj
      have HT := take_step hlt
      clear hc hi hY hJb hJa
      gi_wp2
      refine ⟨fun h => (by cases h), hR.mono ?_⟩
      rintro e W3 (⟨rfl, hj3⟩ | ⟨rfl, hx3⟩)
      · gi_wp2
        go_roundw
        case rel => exact ⟨k + 1, by omega, by go_num, by rw [← HT]; exact hj3⟩
        case measure => simp [intOf]; omega
      · gi_wp2
        refine bodyPost_ret (results_none rfl _ _ _) rfl ?_
        exact ⟨⟨_, rfl⟩, .inr hx3⟩
    · obtain rfl : k = zs.length := by omega
      rw [List.take_length] at hj
      gi_wp2
      go_end0
      exact ⟨⟨_, rfl⟩, .inl hj⟩
end Go.Proofs.Ytccemllgglfgkaa

/- Unb: What holds between two rounds of the loop over a poll's judgments that collects those than which no other one is better. -/
namespace Go.Proofs.Ytccemllgglfgkaa
open Go.RowKit Go.Joins

theorem block_own {β : Type} (B : Nat) (cs : Array Value) (t : TypeId) : Own (fun (_ : β) (W : World) => W.heap[B]? = some (.cells cs t (0, 0))) := fun s X Y row hs hg hrow => by
  refine (hg.block B (Array.getElem?_eq_some_iff.1 hs).1 (fun e' => ?_)).trans hs
  obtain ⟨o, ho, hc⟩ := hrow B e'.symm
  rw [show X.heap[B]? = _ from hs] at ho; cases ho; cases hc

def UnbI (b : Int → Int → Bool) (zs : List Int) (w : World) (cs : Array Value) (fv : Value) (s : List Int) (W : World) : Prop :=
  ((∃ v, Boxed W (w.heap.size + 1 + 1) 22 v ∧ W.ownsRow w.heap.size 3 1 v (s.filter (unbP b zs)).length ((s.filter (unbP b zs)).map (Value.int .i64)) ∧ True) ∧
    (W.heap[w.heap.size]? = some (.cells cs 116 (0, 0)) ∧ Boxed W (w.heap.size + 1) 79 fv)) ∧ Below w.heap.size w W
theorem UnbI.own {b : Int → Int → Bool} {zs : List Int} {w : World} {cs : Array Value} {fv : Value} {K : Nat} (hK : w.heap.size ≤ K) : OwnFrom K (UnbI b zs w cs fv) :=
  OwnFrom.and (OwnFrom.and (Own.from (holdsRow_own _ _ _ _ _ _ _ (fun _ _ => True)) _) (OwnFrom.and (Own.from (block_own _ _ _) _) (Own.from (boxed_own _ _ _) _))) (ownFrom_below (Nat.le_refl _) hK)
theorem keeps_below {W W' : World} (h : Below W.heap.size W W') (B : Nat) : KeepsFrom B W W' := ⟨h.size, fun k _ _ hk _ => (h.block k (Array.getElem?_eq_some_iff.1 hk).1).trans hk⟩
theorem block_past {W w1 : World} {B P : Nat} {cs : Array Value} {t e : TypeId} {base size k : Nat} {v u : Value} {xs : List Value} {tmp : Obj} (h : W.heap[B]? = some (.cells cs t (0, 0))) (hte : t ≠ e) (hr : W.ownsRow base e size v k xs)
    (hg : (W.alloc tmp).grownBy w1 v.ownBlock) (hne : B ≠ P) : (w1.setCell ⟨P, 0, none⟩ u).heap[B]? = some (.cells cs t (0, 0)) := by
  have hlt := (Array.getElem?_eq_some_iff.1 h).1
  refine (Below.heap_setCell _ _ _ _ hne).trans ((hg.block B (by simp; omega) ?_).trans ((Below.heap_alloc W tmp B hlt).trans h))
  rcases hr.2 with ⟨rfl, _⟩ | ⟨g, cap, cur, rfl, _, hgb, _⟩
  · simp [Value.ownBlock]
  · intro e'
    obtain rfl : B = g := by simpa [Value.ownBlock] using e'
    have := h.symm.trans hgb
    simp at this
    exact hte this.2
theorem filter_snoc (p : Int → Bool) (s : List Int) (x : Int) : (s ++ [x]).filter p = s.filter p ++ (if p x then [x] else []) := by
  rw [List.filter_append]
  by_cases h : p x = true <;> simp [h]
end Go.Proofs.Ytccemllgglfgkaa

/- UnbK: The judgments than which no other one is better: a loop over the judgments in a loop over the judgments (by keepsAllAndMore). -/
namespace Go.Proofs.Ytccemllgglfgkaa
open Go.RowKit Go.Joins

attribute [local go_sem] Oper.semAt_some

set_option maxRecDepth 100000 in
set_option maxHeartbeats 4000000 in
theorem unbeatenK_any (b : Int → Int → Bool) (n : Int) (a l : Option Addr) (cap capl m : Nat) (zs : List Int) (C B : Int) (w : World) (hi : Ints w a zs) (hn : zs.length ≤ 1048576)
    (hf : ∀ (y x : Int) (w' : World), y ∈ zs → x ∈ zs → Below w.heap.size w w' → Calls Try.prog 131 #[.agg #[.int .i64 n, .slice a zs.length cap, .slice l m capl, .int .i64 C, .int .i64 B], .int .i64 y, .int .i64 x] w' fun e w'' => e = .returned (.bool (b y x)) ∧ Below w'.heap.size w' w'') :
    Calls Try.prog 133 #[.agg #[.int .i64 n, .slice a zs.length cap, .slice l m capl, .int .i64 C, .int .i64 B], .func (.func 131) #[.agg #[.int .i64 n, .slice a zs.length cap, .slice l m capl, .int .i64 C, .int .i64 B]] #[]] w (Gives (unbL b zs) w) := by
  obtain ⟨i0, hi0, hz0, hz1, hz2⟩ := info_parts info_int
  have HF := hide hf
  clear hf
  have hIt := hide (judgments_iter 5 n a l cap capl m zs C B w hi hn)
  have hIt2 := hide (judgments_iter 3 n a l cap capl m zs C B w hi hn)
  obtain ⟨W0, hW0⟩ : ∃ W0 : World, ((w.alloc (.cells #[.int .i64 n, .slice a zs.length cap, .slice l m capl, .int .i64 C, .int .i64 B] 116)).alloc (.cells #[.func (.func 131) #[.agg #[.int .i64 n, .slice a zs.length cap, .slice l m capl, .int .i64 C, .int .i64 B]] #[]] 79)).alloc (.cells #[.slice none 0 0] 22) = W0 := ⟨_, rfl⟩
  have p0 : W0.heap[w.heap.size]? = some (.cells #[.int .i64 n, .slice a zs.length cap, .slice l m capl, .int .i64 C, .int .i64 B] 116 (0, 0)) := by
    rw [← hW0]
    exact (Below.heap_alloc _ _ _ (by simp; omega)).trans ((Below.heap_alloc _ _ _ (by simp)).trans (World.alloc_heap_new w _))
  have f0 : Boxed W0 (w.heap.size + 1) 79 (.func (.func 131) #[.agg #[.int .i64 n, .slice a zs.length cap, .slice l m capl, .int .i64 C, .int .i64 B]] #[]) := by
    rw [← hW0]
    have h := (Boxed.new (w.alloc (.cells #[.int .i64 n, .slice a zs.length cap, .slice l m capl, .int .i64 C, .int .i64 B] 116)) 79 (.func (.func 131) #[.agg #[.int .i64 n, .slice a zs.length cap, .slice l m capl, .int .i64 C, .int .i64 B]] #[])).alloc (.cells #[.slice none 0 0] 22)
    rwa [World.size_alloc] at h
  have l0 : Boxed W0 (w.heap.size + 1 + 1) 22 (.slice none 0 0) := by
    rw [← hW0]
    have h := Boxed.new ((w.alloc (.cells #[.int .i64 n, .slice a zs.length cap, .slice l m capl, .int .i64 C, .int .i64 B] 116)).alloc (.cells #[.func (.func 131) #[.agg #[.int .i64 n, .slice a zs.length cap, .slice l m capl, .int .i64 C, .int .i64 B]] #[]] 79)) 22 (.slice none 0 0)
    rwa [World.size_alloc, World.size_alloc] at h
  have hB0 : Below w.heap.size w W0 := by rw [← hW0]; exact bel3 _ _ _ _
  have hsz : W0.heap.size = w.heap.size + 3 := by rw [← hW0]; simp
  refine (callsIn_wide (n := 6)).1 ?_
  refine callsIn_of_wp_marks Try.func133 rfl trivial ?_ rfl
  simp only [Try.ntmps133, List.size_toArray, List.length_cons, List.length_nil, Nat.reduceAdd, Nat.reduceSub, Array.replicate_succ, Array.replicate_zero, List.push_toArray, List.append_toArray, List.nil_append, List.cons_append]
  gi_wp2
  refine wpIn_wide.2 (wp_scope_straight ((wpIn_wide (n := 6)).1 ?_))
  gi_wp2
  clear hW0
  refine wpIn_label ?_
  have hUI : OwnFrom W0.heap.size (UnbI b zs w #[.int .i64 n, .slice a zs.length cap, .slice l m capl, .int .i64 C, .int .i64 B] (.func (.func 131) #[.agg #[.int .i64 n, .slice a zs.length cap, .slice l m capl, .int .i64 C, .int .i64 B]] #[])) := UnbI.own (by omega)
  have hu0 : UnbI b zs w #[.int .i64 n, .slice a zs.length cap, .slice l m capl, .int .i64 C, .int .i64 B] (.func (.func 131) #[.agg #[.int .i64 n, .slice a zs.length cap, .slice l m capl, .int .i64 C, .int .i64 B]] #[]) [] W0 := ⟨⟨⟨_, l0, World.ownsRow_nil _ _ _ _, trivial⟩, p0, f0⟩, hB0⟩
  have HU := hide hUI
  have HU0 := hide hu0
  have c0 := cell_of_block p0 0
  have c1 := cell_of_block p0 1
  have c2 := cell_of_block p0 2
  have c3 := cell_of_block p0 3
  have c4 := cell_of_block p0 4
  clear hUI hu0 hi
  gi_wp2
  clear c0 c1 c2 c3 c4 p0 f0 l0
  refine range_outer (F := Fence.wide) rfl (by omega) (gf := 150) (fb := #[.agg #[.int .i64 n, .slice a zs.length cap, .slice l m capl, .int .i64 C, .int .i64 B]]) rfl trivial (enters_of Try.func150 (by kernel_rfl) rfl) rfl hIt.out
    (UnbI b zs w #[.int .i64 n, .slice a zs.length cap, .slice l m capl, .int .i64 C, .int .i64 B] (.func (.func 131) #[.agg #[.int .i64 n, .slice a zs.length cap, .slice l m capl, .int .i64 C, .int .i64 B]] #[])) (fun _ _ => False) HU.out (fun _ _ _ _ h _ _ => h) (fun s V h => h.2) HU0.out ?round ?done ?stop
  case stop => exact fun c V h => h.elim
  case done =>
    rintro V ⟨⟨⟨v, bv, ov, _⟩, pA, bF⟩, hB⟩ hD
    have hc := bv.cell
    clear HU HU0 hIt hIt2 HF
    gi_wp2
    rw [Exit.noGoto_ret]
    refine ⟨by simp, .inl ⟨_, _, rfl, run_takeDeferred hD, ?_⟩⟩
    exact ⟨_, results_tmp rfl _ _ _, v, rfl, ownsRow_putObj ov _ hD rfl, hB.trans (belowK_b (w := w) (Nat.le_refl _) V W0.heap.size _ _ (by omega) hD rfl rfl)⟩
  case round =>
    rintro s x W hp ⟨r, hr⟩ hi
    have hx : x ∈ zs := hp.subset (by simp)
    have hlen : s.length < zs.length := by have := hp.length_le; simp at this; omega
    have hlt := (Array.getElem?_eq_some_iff.1 hr).1
    clear hIt HU0
    gi_wp2
    refine ⟨(KeepsOthers.alloc _ _).from _, fun V hg ⟨r1, hr1⟩ ⟨r2, hr2⟩ => ?_⟩
    have hi1 := HU.out s _ V _ (HU.out.alloc (.cells #[.int .i64 x] 3) hi) hg (fun r e => by cases e; exact ⟨by omega, _, hr1, rfl⟩)
    have bX : Boxed V W.heap.size 3 (.int .i64 x) := (Boxed.new W _ _).kept hg (by simp; omega)
    have HI := hide hi1
    obtain ⟨⟨_, pA, bF⟩, hB⟩ := hi1
    have cF := bF.cell
    have cX := bX.cell
    have c0 := cell_of_block pA 0
    have c1 := cell_of_block pA 1
    have c2 := cell_of_block pA 2
    have c3 := cell_of_block pA 3
    have c4 := cell_of_block pA 4
    have hlF := bF.lt
    have hlX := bX.lt
    have HB := hide hB
    have hBV := hB.size
    clear hi hg hr1 pA hB
    gi_wp2
    clear c0 c1 c2 c3 c4
    refine range_inner (l₀ := W0.heap.size + 1) rfl hr2 (by omega) (gf := 150) (fb := #[.agg #[.int .i64 n, .slice a zs.length cap, .slice l m capl, .int .i64 C, .int .i64 B]]) rfl trivial (enters_of Try.func150 (by kernel_rfl) rfl) rfl hIt2.out
      (fun s' U => (∀ y ∈ s', b y x = false) ∧ Below V.heap.size V U) (fun c U => (c = .exit 1 ∧ ∃ y ∈ zs, b y x = true) ∧ Below V.heap.size V U)
      (OwnFrom.and (ownFrom_pure _ _) (ownFrom_below (Nat.le_refl _) (Nat.le_refl _))) (OwnFrom.and (ownFrom_pure _ _) (ownFrom_below (Nat.le_refl _) (Nat.le_refl _)))
      (fun s' U h => HB.out.trans (h.2.mono hBV)) ⟨fun y h => (by cases h), Below.refl _ _⟩ ?round2 ?done2 ?stop2
    case round2 =>
      rintro s' y U hp' ⟨r3, hr3⟩ ⟨hall, hB2⟩
      have hy : y ∈ zs := hp'.subset (by simp)
      gi_wp2
      refine ⟨KeepsFrom.refl _ _, fun U' hg' _ _ => ?_⟩
      have hB3 : Below V.heap.size V U' := hB2.grown hg' hB2.size (fun k e => by cases e; exact Nat.le_refl _)
      have cF' := (hB3.cell (p := ⟨w.heap.size + 1, 0, none⟩) hlF).trans cF
      have cX' := (hB3.cell (p := ⟨W.heap.size, 0, none⟩) hlX).trans cX
      have HAL := hide hall
      clear hg' hr3 hB2 cF cX hall hr2 bX bF hp hp' HI
      have HX : ∀ {r : Bool}, b y x = r → Calls Try.prog 131 #[.agg #[.int .i64 n, .slice a zs.length cap, .slice l m capl, .int .i64 C, .int .i64 B], .int .i64 y, .int .i64 x] U' fun e w'' => e = .returned (.bool r) ∧ Below U'.heap.size U' w'' := fun e => by rw [← e]; exact HF.out y x U' hy hx (HB.out.trans (hB3.mono hBV))
      have HN3 := hide hB3
      clear hB3 HB
      by_cases hb : b y x = true
      · have HBT := hide hb
        gi_wp2
        refine ⟨trivial, (CallsIn.inRound _ (CallsIn.inRound _ (callsIn_wide.2 (HX hb)))).mono ?_⟩
        rintro e U2 ⟨rfl, hb4⟩
        gi_wp2
        exact ⟨keeps_below hb4 _, ⟨rfl, y, hy, HBT.out⟩, bnext HN3.out hb4⟩
      · have hb : b y x = false := by simpa using hb
        have HBT := hide hb
        gi_wp2
        refine ⟨trivial, (CallsIn.inRound _ (CallsIn.inRound _ (callsIn_wide.2 (HX hb)))).mono ?_⟩
        rintro e U2 ⟨rfl, hb4⟩
        gi_wp2
        refine ⟨keeps_below hb4 _, fun z hz => ?_, bnext HN3.out hb4⟩
        rcases List.mem_append.1 hz with h | h
        · exact HAL.out z h
        · obtain rfl : z = y := by simpa using h
          exact HBT.out
    case stop2 =>
      rintro c U ⟨⟨rfl, y, hy, hb⟩, hB2⟩
      obtain ⟨⟨⟨v, bv, ov, _⟩, pA, bF⟩, hB⟩ := HI.out
      have HNO := hide (unbP_no (b := b) ⟨y, hy, hb⟩)
      have HB2 := hide hB2
      clear hB2 bX hr2
      gi_wp2
      refine ⟨keeps_below HB2.out _, ⟨⟨v, (HB2.out.block _ bv.lt).trans bv, ?_, trivial⟩, (HB2.out.block _ (Array.getElem?_eq_some_iff.1 pA).1).trans pA, (HB2.out.block _ bF.lt).trans bF⟩, hB.trans (HB2.out.mono hBV)⟩
      rw [filter_snoc, HNO.out, if_neg (by decide), List.append_nil]
      exact Owns.below ov HB2.out
    case done2 =>
      rintro U ⟨hall, hB2⟩
      obtain ⟨⟨⟨v, bv, ov, _⟩, pA, bF⟩, hB⟩ := HI.out
      have HYES := hide (unbP_yes hall)
      have hv : Boxed U (w.heap.size + 1 + 1) 22 v := (hB2.block _ bv.lt).trans bv
      have hrow : U.ownsRow w.heap.size 3 1 v (s.filter (unbP b zs)).length ((s.filter (unbP b zs)).map (Value.int .i64)) := Owns.below ov hB2
      have HPA : Hid (U.heap[w.heap.size]? = some (.cells #[.int .i64 n, .slice a zs.length cap, .slice l m capl, .int .i64 C, .int .i64 B] 116 (0, 0))) := (hB2.block _ (Array.getElem?_eq_some_iff.1 pA).1).trans pA
      have HBF : Hid (U.heap[w.heap.size + 1]? = some (.cells #[.func (.func 131) #[.agg #[.int .i64 n, .slice a zs.length cap, .slice l m capl, .int .i64 C, .int .i64 B]] #[]] 79 (0, 0))) := (hB2.block _ bF.lt).trans bF
      have cX2 := (hB2.cell (p := ⟨W.heap.size, 0, none⟩) hlX).trans cX
      have cv := hv.cell
      have hfl : (s.filter (unbP b zs)).length ≤ s.length := List.length_filter_le _ _
      have hB' : Below w.heap.size w U := hB.trans (hB2.mono hBV)
      have hUs := hB'.size
      have HB' := hide hB'
      have HB2 := hide hB2
      clear hall hB2 bX bv ov pA bF hB hB' hr2 cX cF HI HU HF hIt2 hp hr hlt
      gi_wp2_with ((gi_at_builtin; refine wpListIn_append_own _ rfl _ _ 22 rfl w.heap.size 3 i0 (.int .i64 0) 1 8 Try.underlying22 hi0 hz0 hz1 hz2 rfl (by decide) _ _ _ rfl (hrow.alloc _) ⟨U.heap.size, 0, none⟩ 1 1 [.int .i64 x] rfl rfl (cell_one_new _ _ _) (by simp [Value.oneCell']) (by unfold maxLen; omega) (by omega) (by simp; omega) ?_; intro v' w1 hown' hgrow _; obtain ⟨g', cap', rfl⟩ := ownsRow_succ hown'; obtain ⟨hv1, hv2, hr2, hk2, hb2⟩ := hv.appended (by decide) hrow hUs (by omega) hown' hgrow; have hc1 := hv1.cell; have hf1 := hv1.frozen))
      refine ⟨(keeps_below HB2.out _).trans (hk2.from _), ⟨⟨_, hv2, ?_, trivial⟩, block_past HPA.out (by decide) hrow hgrow (by omega), block_past HBF.out (by decide) hrow hgrow (by omega)⟩, HB'.out.trans hb2⟩
      rw [filter_snoc, HYES.out, if_pos rfl, List.length_append, List.map_append]
      exact hr2
end Go.Proofs.Ytccemllgglfgkaa

/- BstK: bestBy by keepsAllAndMore, and KeptRule of the program. -/
namespace Go.Proofs.Ytccemllgglfgkaa
open Go.RowKit Go.Joins

set_option maxRecDepth 100000 in
set_option maxHeartbeats 4000000 in
theorem bestByK_any (n : Int) (a l : Option Addr) (cap capl : Nat) (zs vs : List Int) (w : World) (hi : Ints w a zs) (hj : Ints w l vs) (hn : zs.length ≤ 1048576) (hm : vs.length ≤ 1048576) :
    Calls Try.prog 89 #[.int .i64 2, .agg #[.int .i64 n, .slice a zs.length cap], .slice l vs.length capl] w (Gives (bestK n zs vs) w) := by
  have S0 := SV.new w n a zs cap l vs 28 hi hj
  clear hi hj
  by_cases hv : vvB n zs vs = false
  · have HN := hide (bestK_no hv)
    have HV := hide hv
    clear hv
    obtain ⟨⟨_, c0, c1⟩, _⟩ := S0.pair
    go_enter Try.func89, Try.ntmps89
    go_wp2_with fail
    refine (implVotes_is _ _ _ _ _ _ _ _ false S0.2.1 S0.2.2.1 hn hm HV.out).mono ?_
    rintro e w1 ⟨rfl, hb⟩
    go_wp2
    go_ret
    exact gives_nil HN.out (S0.below hb).2.2.2
  · have hv : vvB n zs vs = true := by simpa using hv
    have hV := vv_of hv
    obtain ⟨m, rfl⟩ := Int.eq_ofNat_of_zero_le (show 0 ≤ n from by have := hV.1.1; omega)
    have h4 : m ≤ 4 := by have := hV.1.1; omega
    have h5 : vs.length ≤ 5 := by have := hV.2.2; omega
    have HZ := hide (valid_range hV.1)
    have HR := hide (votes_range hV.1 hV.2)
    have HN := hide (show bestK (m : Int) zs vs = unbL (fun y x => keptB (wantC vs m) (wantB vs m) y x) zs from bestK_yes hv)
    have HV := hide hv
    have HC := hide (wpC_yes hv)
    have HB := hide (wpB_yes hv)
    have H16 := hide (want_16 vs m h4)
    clear hv hV
    obtain ⟨⟨_, c0, c1⟩, _⟩ := S0.pair
    go_enter Try.func89, Try.ntmps89
    go_wp2_with fail
    refine (implVotes_is _ _ _ _ _ _ _ _ true S0.2.1 S0.2.2.1 hn hm HV.out).mono ?_
    rintro e w1 ⟨rfl, hb⟩
    have S1 := S0.below hb
    clear S0 hb c0 c1
    obtain ⟨⟨_, c0, c1⟩, _⟩ := S1.pair
    go_wp2_with fail
    go_cut [7] (fun v wx => ∃ g : Nat, v = .pointer (some ⟨g, 0, none⟩) ∧ w1.heap.size ≤ g ∧ wx.heap[g]? = some (.cells #[.int .i64 m, .slice a zs.length cap, .slice l vs.length capl, .int .i64 (wantC vs m : Nat), .int .i64 (wantB vs m : Nat)] 116 (0, 0)) ∧ Below w1.heap.size w1 wx)
    case first =>
      refine wp_region_held_drew (S := (fun w' => w'.cell? ⟨w.heap.size, 0, none⟩ = some (.int .i64 m) ∧ w'.cell? ⟨w.heap.size, 1, none⟩ = some (.slice a zs.length cap))) (by kernel_rfl) ?_ (fun hHeld => ?_)
      · exact ⟨c0, c1⟩
      refine wpAnyH_take (i := 0) (v := ?vvt1) rfl (by kernel_rfl) (by kernel_rfl) (by kernel_rfl) (fun _ _ _ h => h) (Or.inl ⟨by rfl, ?hyt1⟩) (by assumption) ?restt1
      case hyt1 => (intro w hSw; (try dsimp only at hSw); go_simp; (try with_reducible rfl))
      case restt1 =>
        (try simp only [Act.put, List.setIfInBounds_toArray, List.set_cons_zero, List.set_cons_succ, List.getElem_toArray, List.getElem_cons_zero])
        refine wpAnyH_take (i := 1) (v := ?vvt2) rfl (by kernel_rfl) (by kernel_rfl) (by kernel_rfl) (fun _ _ _ h => h) (Or.inl ⟨by rfl, ?hyt2⟩) (by assumption) ?restt2
        case hyt2 => (intro w hSw; (try dsimp only at hSw); go_simp; (try with_reducible rfl))
        case restt2 =>
          (try simp only [Act.put, List.setIfInBounds_toArray, List.set_cons_zero, List.set_cons_succ, List.getElem_toArray, List.getElem_cons_zero, List.getElem_cons_succ])
          refine wpAnyH_take (i := 2) (v := ?vvt3) rfl (by kernel_rfl) (by kernel_rfl) (by kernel_rfl) (fun _ _ _ h => h) (Or.inl ⟨by rfl, ?hyt3⟩) (by assumption) ?restt3
          case hyt3 => (intro w hSw; (try dsimp only at hSw); go_simp; (try with_reducible rfl))
          case restt3 =>
            (try simp only [Act.put, List.setIfInBounds_toArray, List.set_cons_zero, List.set_cons_succ, List.getElem_toArray, List.getElem_cons_zero, List.getElem_cons_succ])
            refine wpAnyH_take (i := 3) (v := ?vvt4) rfl (by kernel_rfl) (by kernel_rfl) (by kernel_rfl) (fun _ _ _ h => h) (Or.inl ⟨by rfl, ?hyt4⟩) (by assumption) ?restt4
            case hyt4 => (intro w hSw; (try dsimp only at hSw); go_simp; (try with_reducible rfl))
            case restt4 =>
              (try simp only [Act.put, List.setIfInBounds_toArray, List.set_cons_zero, List.set_cons_succ, List.getElem_toArray, List.getElem_cons_zero, List.getElem_cons_succ])
              refine wpAnyH_ready (rs := [4, 6]) (by kernel_rfl) (by simp) ?_
              refine (AllReadyH.cons rfl (fun K hK => ?_) (AllReadyH.cons rfl (fun K hK => ?_) AllReadyH.nil))
              · go_simp
                (go_at_call 55; refine (implWanted_any _ _ _ _ _ _ _ _ (S1.drew).2.1 (S1.drew).2.2.1 hn hm).mono ?_)
                rintro e w2 ⟨rfl, hb2⟩
                have S2 := S1.drew.below hb2
                have B2 := hide (bdrew hb2)
                rw [HC.out, HB.out, Int.toNat_natCast]
                go_wp2_with fail
                refine hK.out _ _ ?_ (fun hHeld => ?_)
                · exact S2.1.2
                clear hK K
                (try simp only [Act.put, List.setIfInBounds_toArray, List.set_cons_zero, List.set_cons_succ, List.getElem_toArray, List.getElem_cons_zero, List.getElem_cons_succ])
                refine wpAnyH_take (i := 5) (v := ?vvt5) rfl (by kernel_rfl) (by kernel_rfl) (by kernel_rfl) (fun _ _ _ h => h) (Or.inl ⟨by rfl, ?hyt5⟩) (by assumption) ?restt5
                case hyt5 => (intro w hSw; (try dsimp only at hSw); go_simp; (try with_reducible rfl))
                case restt5 =>
                  (try simp only [Act.put, List.setIfInBounds_toArray, List.set_cons_zero, List.set_cons_succ, List.getElem_toArray, List.getElem_cons_zero, List.getElem_cons_succ])
                  refine wpAnyH_ready (rs := [6]) (by kernel_rfl) (by simp) ?_
                  refine (AllReadyH.cons rfl (fun K hK => ?_) AllReadyH.nil)
                  go_simp
                  refine hK.out _ _ ?_ (fun hHeld => ?_)
                  · exact (S2.below (bel1 w2 (.cells #[.int .i64 0, .slice none 0 0, .slice none 0 0, .int .i64 0, .int .i64 0] 116))).1.2
                  clear hK K
                  (try simp only [Act.put, List.setIfInBounds_toArray, List.set_cons_zero, List.set_cons_succ, List.getElem_toArray, List.getElem_cons_zero, List.getElem_cons_succ])
                  refine wpAnyH_ready (rs := [7]) (by kernel_rfl) (by simp) ?_
                  refine (AllReadyH.cons rfl (fun K hK => ?_) AllReadyH.nil)
                  go_simp
                  have SA := S2.below (bel1 w2 (.cells #[.int .i64 m, .slice a zs.length cap, .slice l vs.length capl, .int .i64 (wantC vs m : Nat), .int .i64 (wantB vs m : Nat)] 116))
                  refine hK.out _ _ ?_ (fun hHeld => ?_)
                  · exact SA.1.2
                  clear hK K
                  (try simp only [Act.put, List.setIfInBounds_toArray, List.set_cons_zero, List.set_cons_succ, List.getElem_toArray, List.getElem_cons_zero, List.getElem_cons_succ])
                  refine wpAnyH_done (by kernel_rfl) ?_ _
                  go_wp2_with fail
                  go_meet
                  exact ⟨_, rfl, B2.out.size, heap_alloc_new w2 _, bnext B2.out (bel1 w2 _)⟩
              · go_simp
                have S2 := S1.below (bdrew' (bel1 w1 (.cells #[.int .i64 0, .slice none 0 0, .slice none 0 0, .int .i64 0, .int .i64 0] 116)))
                refine hK.out _ _ ?_ (fun hHeld => ?_)
                · exact S2.1.2
                clear hK K
                (try simp only [Act.put, List.setIfInBounds_toArray, List.set_cons_zero, List.set_cons_succ, List.getElem_toArray, List.getElem_cons_zero, List.getElem_cons_succ])
                refine wpAnyH_ready (rs := [4]) (by kernel_rfl) (by simp) ?_
                refine (AllReadyH.cons rfl (fun K hK => ?_) AllReadyH.nil)
                go_simp
                (go_at_call 55; refine (implWanted_any _ _ _ _ _ _ _ _ (S2).2.1 (S2).2.2.1 hn hm).mono ?_)
                rintro e w2 ⟨rfl, hb2⟩
                have S3 := S2.below hb2
                have hg2 : w2.heap[w1.heap.size]? = some (.cells #[.int .i64 0, .slice none 0 0, .slice none 0 0, .int .i64 0, .int .i64 0] 116 (0, 0)) := (hb2.block _ (by simp)).trans (heap_alloc_new w1 (.cells #[.int .i64 0, .slice none 0 0, .slice none 0 0, .int .i64 0, .int .i64 0] 116))
                have f0 := unfrozen_of_block hg2 0
                have f1 := unfrozen_of_block hg2 1
                have f2 := unfrozen_of_block hg2 2
                have f3 := unfrozen_of_block hg2 3
                have f4 := unfrozen_of_block hg2 4
                have r0 := cell_of_block hg2 0
                have r1 := cell_of_block hg2 1
                have r2 := cell_of_block hg2 2
                have r3 := cell_of_block hg2 3
                have r4 := cell_of_block hg2 4
                have B2 := hide (bnext (bdrew' (bel1 w1 (.cells #[.int .i64 0, .slice none 0 0, .slice none 0 0, .int .i64 0, .int .i64 0] 116))) hb2)
                rw [HC.out, HB.out, Int.toNat_natCast]
                go_wp2_with fail
                refine hK.out _ _ ?_ (fun hHeld => ?_)
                · exact S3.1.2
                clear hK K
                (try simp only [Act.put, List.setIfInBounds_toArray, List.set_cons_zero, List.set_cons_succ, List.getElem_toArray, List.getElem_cons_zero, List.getElem_cons_succ])
                refine wpAnyH_take (i := 5) (v := ?vvt6) rfl (by kernel_rfl) (by kernel_rfl) (by kernel_rfl) (fun _ _ _ h => h) (Or.inl ⟨by rfl, ?hyt6⟩) (by assumption) ?restt6
                case hyt6 => (intro w hSw; (try dsimp only at hSw); go_simp; (try with_reducible rfl))
                case restt6 =>
                  (try simp only [Act.put, List.setIfInBounds_toArray, List.set_cons_zero, List.set_cons_succ, List.getElem_toArray, List.getElem_cons_zero, List.getElem_cons_succ])
                  refine wpAnyH_ready (rs := [7]) (by kernel_rfl) (by simp) ?_
                  refine (AllReadyH.cons rfl (fun K hK => ?_) AllReadyH.nil)
                  go_simp
                  have BB := (((((B2.out.setCell (p := ⟨w1.heap.size, 0, none⟩) (Nat.le_refl _) (.int .i64 m)).setCell (p := ⟨w1.heap.size, 1, none⟩) (Nat.le_refl _) (.slice a zs.length cap)).setCell (p := ⟨w1.heap.size, 2, none⟩) (Nat.le_refl _) (.slice l vs.length capl)).setCell (p := ⟨w1.heap.size, 3, none⟩) (Nat.le_refl _) (.int .i64 (wantC vs m : Nat))).setCell (p := ⟨w1.heap.size, 4, none⟩) (Nat.le_refl _) (.int .i64 (wantB vs m : Nat)))
                  have SB := S1.below BB
                  refine hK.out _ _ ?_ (fun hHeld => ?_)
                  · exact SB.1.2
                  clear hK K
                  (try simp only [Act.put, List.setIfInBounds_toArray, List.set_cons_zero, List.set_cons_succ, List.getElem_toArray, List.getElem_cons_zero, List.getElem_cons_succ])
                  refine wpAnyH_done (by kernel_rfl) ?_ _
                  go_wp2_with fail
                  go_meet
                  exact ⟨_, rfl, Nat.le_refl _, block_setCell (i := 4) (block_setCell (i := 3) (block_setCell (i := 2) (block_setCell (i := 1) (block_setCell (i := 0) hg2 _) _) _) _) _, BB⟩
    case rest =>
      obtain ⟨g, rfl, hg1, hgb, BG⟩ := hcut
      have q0 := cell_of_block hgb 0
      have q1 := cell_of_block hgb 1
      have q2 := cell_of_block hgb 2
      have q3 := cell_of_block hgb 3
      have q4 := cell_of_block hgb 4
      have S2 := S1.below BG
      clear S1 c0 c1
      have hgf := heap_alloc_new wc (.cells #[.nilFunc, .nilFunc, .nilFunc, .nilFunc] 117)
      have s0 := cell_of_block hgf 0
      have s1 := cell_of_block hgf 1
      have s2 := cell_of_block hgf 2
      have s3 := cell_of_block hgf 3
      have f0 := unfrozen_of_block hgf 0
      have f1 := unfrozen_of_block hgf 1
      have f2 := unfrozen_of_block hgf 2
      have f3 := unfrozen_of_block hgf 3
      go_wp2_with fail
      obtain ⟨wd, hwd⟩ : ∃ wd : World, wc.alloc (.cells #[.func (.func 129) #[.agg #[.int .i64 m, .slice a zs.length cap, .slice l vs.length capl, .int .i64 (wantC vs m : Nat), .int .i64 (wantB vs m : Nat)]] #[], .func (.func 130) #[.agg #[.int .i64 m, .slice a zs.length cap, .slice l vs.length capl, .int .i64 (wantC vs m : Nat), .int .i64 (wantB vs m : Nat)]] #[], .func (.func 131) #[.agg #[.int .i64 m, .slice a zs.length cap, .slice l vs.length capl, .int .i64 (wantC vs m : Nat), .int .i64 (wantB vs m : Nat)]] #[], .func (.func 132) #[.agg #[.int .i64 m, .slice a zs.length cap, .slice l vs.length capl, .int .i64 (wantC vs m : Nat), .int .i64 (wantB vs m : Nat)]] #[]] 117) = wd := ⟨_, rfl⟩
      have BD : Below wc.heap.size wc wd := by rw [← hwd]; exact bel1 _ _
      have hgd : wd.heap[wc.heap.size]? = some (.cells #[.func (.func 129) #[.agg #[.int .i64 m, .slice a zs.length cap, .slice l vs.length capl, .int .i64 (wantC vs m : Nat), .int .i64 (wantB vs m : Nat)]] #[], .func (.func 130) #[.agg #[.int .i64 m, .slice a zs.length cap, .slice l vs.length capl, .int .i64 (wantC vs m : Nat), .int .i64 (wantB vs m : Nat)]] #[], .func (.func 131) #[.agg #[.int .i64 m, .slice a zs.length cap, .slice l vs.length capl, .int .i64 (wantC vs m : Nat), .int .i64 (wantB vs m : Nat)]] #[], .func (.func 132) #[.agg #[.int .i64 m, .slice a zs.length cap, .slice l vs.length capl, .int .i64 (wantC vs m : Nat), .int .i64 (wantB vs m : Nat)]] #[]] 117 (0, 0)) := by rw [← hwd]; exact heap_alloc_new wc _
      rw [hwd]
      clear hwd s0 s1 s2 s3 f0 f1 f2 f3 hgf
      have hgg := lt_of_block hgb
      have S3 := S2.below (bdrew' BD)
      have q0 := (BD.cell (p := ⟨g, 0, none⟩) hgg).trans q0
      have q1 := (BD.cell (p := ⟨g, 1, none⟩) hgg).trans q1
      have q2 := (BD.cell (p := ⟨g, 2, none⟩) hgg).trans q2
      have q3 := (BD.cell (p := ⟨g, 3, none⟩) hgg).trans q3
      have q4 := (BD.cell (p := ⟨g, 4, none⟩) hgg).trans q4
      have qk := cell_of_block hgd 2
      have hlg := lt_of_block hgd
      have hgg2 : g < wd.heap.size := Nat.lt_of_lt_of_le hgg BD.size
      have hW := S3.2.2.2
      have hIZ := S3.2.1
      have hIV := hide S3.2.2.1
      clear S2 S3 BD hgd hgb
      refine wp_region_held_drew (S := (fun w' => w'.cell? ⟨g, 0, none⟩ = some (.int .i64 m) ∧ w'.cell? ⟨g, 1, none⟩ = some (.slice a zs.length cap) ∧ w'.cell? ⟨g, 2, none⟩ = some (.slice l vs.length capl) ∧ w'.cell? ⟨g, 3, none⟩ = some (.int .i64 (wantC vs m : Nat)) ∧ w'.cell? ⟨g, 4, none⟩ = some (.int .i64 (wantB vs m : Nat)) ∧ w'.cell? ⟨wc.heap.size, 2, none⟩ = some (.func (.func 131) #[.agg #[.int .i64 m, .slice a zs.length cap, .slice l vs.length capl, .int .i64 (wantC vs m : Nat), .int .i64 (wantB vs m : Nat)]] #[]))) (by kernel_rfl) ?_ (fun hHeld => ?_)
      · exact ⟨q0, q1, q2, q3, q4, qk⟩
      refine wpAnyH_take (i := 0) (v := ?vvt17) rfl (by kernel_rfl) (by kernel_rfl) (by kernel_rfl) (fun _ _ _ h => h) (Or.inl ⟨by rfl, ?hyt17⟩) (by assumption) ?restt17
      case hyt17 => (intro w hSw; (try dsimp only at hSw); go_simp; (try with_reducible rfl))
      case restt17 =>
        (try simp only [Act.put, List.setIfInBounds_toArray, List.set_cons_zero, List.set_cons_succ, List.getElem_toArray, List.getElem_cons_zero])
        refine wpAnyH_take (i := 1) (v := ?vvt18) rfl (by kernel_rfl) (by kernel_rfl) (by kernel_rfl) (fun _ _ _ h => h) (Or.inl ⟨by rfl, ?hyt18⟩) (by assumption) ?restt18
        case hyt18 => (intro w hSw; (try dsimp only at hSw); go_simp; (try with_reducible rfl))
        case restt18 =>
          (try simp only [Act.put, List.setIfInBounds_toArray, List.set_cons_zero, List.set_cons_succ, List.getElem_toArray, List.getElem_cons_zero, List.getElem_cons_succ])
          refine wpAnyH_take (i := 2) (v := ?vvt19) rfl (by kernel_rfl) (by kernel_rfl) (by kernel_rfl) (fun _ _ _ h => h) (Or.inl ⟨by rfl, ?hyt19⟩) (by assumption) ?restt19
          case hyt19 => (intro w hSw; (try dsimp only at hSw); go_simp; (try with_reducible rfl))
          case restt19 =>
            (try simp only [Act.put, List.setIfInBounds_toArray, List.set_cons_zero, List.set_cons_succ, List.getElem_toArray, List.getElem_cons_zero, List.getElem_cons_succ])
            refine wpAnyH_take (i := 3) (v := ?vvt20) rfl (by kernel_rfl) (by kernel_rfl) (by kernel_rfl) (fun _ _ _ h => h) (Or.inl ⟨by rfl, ?hyt20⟩) (by assumption) ?restt20
            case hyt20 => (intro w hSw; (try dsimp only at hSw); go_simp; (try with_reducible rfl))
            case restt20 =>
              (try simp only [Act.put, List.setIfInBounds_toArray, List.set_cons_zero, List.set_cons_succ, List.getElem_toArray, List.getElem_cons_zero, List.getElem_cons_succ])
              refine wpAnyH_ready (rs := [4]) (by kernel_rfl) (by simp) ?_
              refine (AllReadyH.cons rfl (fun K hK => ?_) AllReadyH.nil)
              go_simp
              (go_at_call 133; refine (unbeatenK_any (fun y x => keptB (wantC vs m) (wantB vs m) y x) m a l cap capl vs.length zs (wantC vs m : Nat) (wantB vs m : Nat) _ hIZ hn (fun y x w' hy hx hb => keepsAll_any m a l zs.length cap vs.length capl (wantC vs m) (wantB vs m) y x w' H16.out.1 H16.out.2 (HZ.out y hy) (HZ.out x hx))).mono ?_)
              rintro e w3 ⟨v, rfl, ov, hb3⟩
              obtain ⟨av, cv, rfl, _, _⟩ := ov.form
              have hb3' := bdrew hb3
              have OV := hide ov
              clear ov hIZ
              have p0 := (hb3'.cell (p := ⟨g, 0, none⟩) hgg2).trans q0
              have p1 := (hb3'.cell (p := ⟨g, 1, none⟩) hgg2).trans q1
              have p2 := (hb3'.cell (p := ⟨g, 2, none⟩) hgg2).trans q2
              have p3 := (hb3'.cell (p := ⟨g, 3, none⟩) hgg2).trans q3
              have p4 := (hb3'.cell (p := ⟨g, 4, none⟩) hgg2).trans q4
              have pk := (hb3'.cell (p := ⟨wc.heap.size, 2, none⟩) hlg).trans qk
              go_wp2_with fail
              refine hK.out _ _ ?_ (fun hHeld => ?_)
              · exact ⟨p0, p1, p2, p3, p4, pk⟩
              clear hK K
              (try simp only [Act.put, List.setIfInBounds_toArray, List.set_cons_zero, List.set_cons_succ, List.getElem_toArray, List.getElem_cons_zero, List.getElem_cons_succ])
              refine wpAnyH_take (i := 5) (v := ?vvt21) rfl (by kernel_rfl) (by kernel_rfl) (by kernel_rfl) (fun _ _ _ h => h) (Or.inl ⟨by rfl, ?hyt21⟩) (by assumption) ?restt21
              case hyt21 => (intro w hSw; (try dsimp only at hSw); go_simp; (try with_reducible rfl))
              case restt21 =>
                (try simp only [Act.put, List.setIfInBounds_toArray, List.set_cons_zero, List.set_cons_succ, List.getElem_toArray, List.getElem_cons_zero, List.getElem_cons_succ])
                refine wpAnyH_done (by kernel_rfl) ?_ _
                go_wp2_with fail
                go_ret
                exact ⟨_, rfl, by rw [HN.out]; exact OV.out.le hW.size, bnext hW hb3⟩

theorem implKeptRule_any (n : Int) (a l : Option Addr) (cap capl : Nat) (zs vs : List Int) (w : World) (hi : Ints w a zs) (hj : Ints w l vs) (hn : zs.length ≤ 1048576) (hm : vs.length ≤ 1048576) :
    Calls Try.prog 47 #[.agg #[.int .i64 n, .slice a zs.length cap], .slice l vs.length capl] w (Gives (bestK n zs vs) w) := by
  have S0 := SV.new w n a zs cap l vs 28 hi hj
  obtain ⟨⟨_, c0, c1⟩, _⟩ := S0.pair
  clear hi hj
  go_enter Try.func47, Try.ntmps47
  go_wp2_with fail
  refine (bestByK_any _ _ _ _ _ _ _ _ S0.2.1 S0.2.2.1 hn hm).mono ?_
  rintro e w1 ⟨v, rfl, ov, hb⟩
  go_wp2
  go_ret
  exact ⟨_, rfl, ov.le S0.2.2.2.size, bnext S0.2.2.2 hb⟩
end Go.Proofs.Ytccemllgglfgkaa

/- TurnM: What the promises on issues settled in turn need. -/
namespace Go.Proofs.Ytccemllgglfgkaa
open Go.RowKit Go.Joins

theorem tm1 : ∀ c b : Fin 16, ∀ i j : Fin 4, bitN c.val j.val = 0 → b.val &&& c.val = b.val → bitN (b.val + 2 ^ j.val) i.val = (if i.val = j.val then 1 else bitN b.val i.val) ∧ bitN b.val j.val = 0 := by decide +kernel
theorem tm2 : ∀ y c b : Fin 16, b.val &&& c.val = b.val → ((y.val &&& c.val = b.val) ↔ ∀ i : Fin 4, bitN c.val i.val = 1 → bitN y.val i.val = bitN b.val i.val) := by decide +kernel
/-- a judgment gives the answers that are settled -/
def Fits (s : Nat × Nat) (y : Nat) : Prop := ∀ i, i < 4 → bitN s.1 i = 1 → bitN y i = bitN s.2 i
theorem fits_iff {c b y : Nat} (hc : c < 16) (hb : b < 16) (hy : y < 16) (h : b &&& c = b) : y &&& c = b ↔ Fits (c, b) y := by
  have := tm2 ⟨y, hy⟩ ⟨c, hc⟩ ⟨b, hb⟩ h
  simp only at this
  rw [this]
  exact ⟨fun h i hi => h ⟨i, hi⟩, fun h i => h i.val i.isLt⟩
/-- the answer of more than half -/
def mj (vs : List Int) (j : Nat) : Nat := if vs.length < 2 * supN vs j then 1 else 0
theorem open_fits {n : Int} {zs : List Int} (hV : Valid n zs) {c b : Nat} (hc : c < 16) (hb : b < 16) (h : b &&& c = b) : openB zs (c : Int) (b : Int) = true ↔ ∃ y : Nat, (y : Int) ∈ zs ∧ Fits (c, b) y := by
  unfold openB
  rw [List.any_eq_true]
  constructor
  · rintro ⟨x, hx, e⟩
    obtain ⟨z, rfl, _, hz⟩ := zs_nat hV hx
    refine ⟨z, hx, (fits_iff hc hb hz h).1 ?_⟩
    unfold hpB at e
    simpa using e
  · rintro ⟨y, hy, e⟩
    have hz := valid_range hV _ hy
    refine ⟨_, hy, ?_⟩
    unfold hpB
    simpa using (fits_iff hc hb (by omega) h).2 e
/-- one step: the answer t of issue j -/
theorem turn_step {n : Int} {zs vs ls : List Int} (hV : Valid n zs) (h : OrdOk n ls) {k : Nat} (hk : k < ls.length) :
    ∃ j t : Nat, ls.getD k 0 = (j : Int) ∧ j < 4 ∧ (j : Int) < n ∧ t ≤ 1 ∧ bitN (turnK zs vs ls k).1 j = 0 ∧ (∀ i, i < 4 → bitN (turnK zs vs ls (k + 1)).1 i = if i = j then 1 else bitN (turnK zs vs ls k).1 i) ∧
      (∀ i, i < 4 → bitN (turnK zs vs ls (k + 1)).2 i = if i = j then t else bitN (turnK zs vs ls k).2 i) ∧
      ((t = mj vs j ∧ ∃ y : Nat, (y : Int) ∈ zs ∧ Fits (turnK zs vs ls (k + 1)) y) ∨ (t ≠ mj vs j ∧ ∀ y : Nat, (y : Int) ∈ zs → Fits (turnK zs vs ls k) y → bitN y j ≠ mj vs j)) := by
  have h4 : n ≤ 4 := hV.1.2
  obtain ⟨j, hj, hj4, hjn, hjt⟩ := ord_at h h4 hk
  obtain ⟨hc, hb, hbc, hbits⟩ := tinv (zs := zs) (vs := vs) h h4 k (by omega)
  have h0 : bitN (turnK zs vs ls k).1 j = 0 := by
    have hle := bitN_le (turnK zs vs ls k).1 j
    rcases (show bitN (turnK zs vs ls k).1 j = 0 ∨ bitN (turnK zs vs ls k).1 j = 1 by omega) with h1 | h1
    · exact h1
    · obtain ⟨t, ht, e⟩ := (hbits j hj4).1 h1
      have := h.2.2 k (by omega) t ht
      rw [getD_lt hk, hj] at this
      exact absurd e this
  have e : turnK zs vs ls (k + 1) = stpT zs vs (turnK zs vs ls k) j := by rw [turnK, hjt]
  obtain ⟨s, hs⟩ : ∃ s, turnK zs vs ls k = s := ⟨_, rfl⟩
  obtain ⟨C, B⟩ := s
  rw [e]
  rw [hs] at hc hb hbc h0 ⊢
  simp only at hc hb hbc h0
  have f1 := tf1 ⟨C, hc⟩ ⟨j, hj4⟩ h0
  have f2 := tf2 ⟨C, hc⟩ ⟨B, hb⟩ ⟨j, hj4⟩ h0 hbc
  have f3 : ∀ i, i < 4 → bitN (C + 2 ^ j) i = if i = j then 1 else bitN C i := fun i hi => tf3 ⟨C, hc⟩ ⟨i, hi⟩ ⟨j, hj4⟩ h0
  have f4 : ∀ i, i < 4 → bitN (B + 2 ^ j) i = if i = j then 1 else bitN B i := fun i hi => (tm1 ⟨C, hc⟩ ⟨B, hb⟩ ⟨i, hi⟩ ⟨j, hj4⟩ h0 hbc).1
  have f5 : bitN B j = 0 := (tm1 ⟨C, hc⟩ ⟨B, hb⟩ 0 ⟨j, hj4⟩ h0 hbc).2
  simp only at f1 f2
  have f6 : ∀ i, i < 4 → bitN B i = if i = j then 0 else bitN B i := fun i _ => by
    split
    · rename_i hij; rw [hij, f5]
    · rfl
  have o1 := open_fits hV (c := C + 2 ^ j) (b := B + 2 ^ j) f1.2 f2.2.1 f2.2.2.1
  have o0 := open_fits hV (c := C + 2 ^ j) (b := B) f1.2 hb f2.2.2.2.1
  have fit1 : ∀ y, Fits (C, B) y → bitN y j = 1 → Fits (C + 2 ^ j, B + 2 ^ j) y := fun y hf hy i hi hci => by
    simp only at hci ⊢
    rw [f4 i hi]
    rw [f3 i hi] at hci
    split
    · rename_i hij; rw [hij, hy]
    · rename_i hij; rw [if_neg hij] at hci; exact hf i hi hci
  have fit0 : ∀ y, Fits (C, B) y → bitN y j = 0 → Fits (C + 2 ^ j, B) y := fun y hf hy i hi hci => by
    simp only at hci ⊢
    rw [f3 i hi] at hci
    by_cases hij : i = j
    · rw [hij, hy, f5]
    · rw [if_neg hij] at hci; exact hf i hi hci
  by_cases hm : vs.length < 2 * supN vs j
  · have em : mj vs j = 1 := if_pos hm
    have e1 : stpT zs vs (C, B) j = (C + 2 ^ j, if openB zs ((C + 2 ^ j : Nat) : Int) ((B + 2 ^ j : Nat) : Int) = true then B + 2 ^ j else B) := by
      unfold stpT
      simp only [if_pos hm, f2.2.2.2.2.1]
    by_cases ho : openB zs ((C + 2 ^ j : Nat) : Int) ((B + 2 ^ j : Nat) : Int) = true
    · rw [if_pos ho] at e1
      refine ⟨j, 1, by rw [getD_lt hk]; exact hj, hj4, hjn, Nat.le_refl _, h0, ?_, ?_, .inl ⟨em.symm, ?_⟩⟩
      · rw [e1]; exact f3
      · rw [e1]; exact f4
      · rw [e1]; exact o1.1 ho
    · rw [if_neg ho] at e1
      refine ⟨j, 0, by rw [getD_lt hk]; exact hj, hj4, hjn, by omega, h0, ?_, ?_, .inr ⟨by omega, fun y hy hf hyj => ho (o1.2 ⟨y, hy, fit1 y hf (by omega)⟩)⟩⟩
      · rw [e1]; exact f3
      · rw [e1]; exact f6
  · have em : mj vs j = 0 := if_neg hm
    have e1 : stpT zs vs (C, B) j = (C + 2 ^ j, if openB zs ((C + 2 ^ j : Nat) : Int) (B : Int) = true then B else B + 2 ^ j) := by
      unfold stpT
      simp only [if_neg hm, Nat.add_zero, f2.2.2.2.2.2]
    by_cases ho : openB zs ((C + 2 ^ j : Nat) : Int) (B : Int) = true
    · rw [if_pos ho] at e1
      refine ⟨j, 0, by rw [getD_lt hk]; exact hj, hj4, hjn, by omega, h0, ?_, ?_, .inl ⟨em.symm, ?_⟩⟩
      · rw [e1]; exact f3
      · rw [e1]; exact f6
      · rw [e1]; exact o0.1 ho
    · rw [if_neg ho] at e1
      refine ⟨j, 1, by rw [getD_lt hk]; exact hj, hj4, hjn, Nat.le_refl _, h0, ?_, ?_, .inr ⟨by omega, fun y hy hf hyj => ho (o0.2 ⟨y, hy, fit0 y hf (by omega)⟩)⟩⟩
      · rw [e1]; exact f3
      · rw [e1]; exact f4
end Go.Proofs.Ytccemllgglfgkaa

/- TurnN: What is settled in turn is a judgment; where undecided issues come last it keeps what can be kept; where the space is settled it is what is wanted. -/
namespace Go.Proofs.Ytccemllgglfgkaa
open Go.RowKit Go.Joins

theorem turn_fits {n : Int} {zs vs ls : List Int} (hV : Valid n zs) (h : OrdOk n ls) : ∀ k, k ≤ ls.length → ∃ y : Nat, (y : Int) ∈ zs ∧ Fits (turnK zs vs ls k) y
  | 0, _ => by
    have hp := hV.2.1
    obtain ⟨z, hz, _, _⟩ := zs_nat hV (List.getElem_mem hp)
    exact ⟨z, by rw [← hz]; exact List.getElem_mem hp, fun i _ hc => by simp [turnK, bitN] at hc⟩
  | k + 1, hk => by
    obtain ⟨y, hy, hf⟩ := turn_fits (vs := vs) hV h k (by omega)
    obtain ⟨j, t, hj, hj4, hjn, ht, h0, hC, hB, hh⟩ := turn_step (vs := vs) hV h (k := k) (by omega)
    rcases hh with ⟨_, hh⟩ | ⟨hne, hh⟩
    · exact hh
    · refine ⟨y, hy, fun i hi hc => ?_⟩
      have h1 := hh y hy hf
      have h2 := bitN_le y j
      have h3 : mj vs j ≤ 1 := by unfold mj; split <;> omega
      rw [hB i hi]
      rw [hC i hi] at hc
      split
      · rename_i hij; rw [hij]; omega
      · rename_i hij; rw [if_neg hij] at hc; exact hf i hi hc
theorem turn_sum {n : Int} {zs vs ls : List Int} (hV : Valid n zs) (h : OrdOk n ls) : ∀ k, k ≤ ls.length → bitN (turnK zs vs ls k).1 0 + bitN (turnK zs vs ls k).1 1 + bitN (turnK zs vs ls k).1 2 + bitN (turnK zs vs ls k).1 3 = k
  | 0, _ => by simp [turnK, bitN]
  | k + 1, hk => by
    have ih := turn_sum (vs := vs) hV h k (by omega)
    obtain ⟨j, t, hj, hj4, hjn, ht, h0, hC, hB, hh⟩ := turn_step (vs := vs) hV h (k := k) (by omega)
    rw [hC 0 (by omega), hC 1 (by omega), hC 2 (by omega), hC 3 (by omega)]
    rcases (show j = 0 ∨ j = 1 ∨ j = 2 ∨ j = 3 by omega) with rfl | rfl | rfl | rfl <;> simp <;> omega
theorem turn_high {n : Int} {zs vs ls : List Int} (hV : Valid n zs) (h : OrdOk n ls) (k : Nat) (hk : k ≤ ls.length) (i : Nat) (hi : i < 4) (hin : n ≤ (i : Int)) : bitN (turnK zs vs ls k).1 i = 0 := by
  have hb := (tinv (zs := zs) (vs := vs) h hV.1.2 k hk).2.2.2 i hi
  have hle := bitN_le (turnK zs vs ls k).1 i
  by_cases h1 : bitN (turnK zs vs ls k).1 i = 1
  · obtain ⟨t, ht, e⟩ := hb.1 h1
    have := (h.2.1 t (by omega)).2
    omega
  · omega
theorem turn_full {n : Int} {zs vs ls : List Int} (hV : Valid n zs) (h : OrdOk n ls) (i : Nat) (hin : (i : Int) < n) : bitN (turnK zs vs ls ls.length).1 i = 1 := by
  have hs := turn_sum (vs := vs) hV h ls.length (Nat.le_refl _)
  have hl := h.1
  have h1 := hV.1
  have hh := fun i hi hin => turn_high (vs := vs) hV h ls.length (Nat.le_refl _) i hi hin
  have b0 := bitN_le (turnK zs vs ls ls.length).1 0
  have b1 := bitN_le (turnK zs vs ls ls.length).1 1
  have b2 := bitN_le (turnK zs vs ls ls.length).1 2
  have b3 := bitN_le (turnK zs vs ls ls.length).1 3
  rcases (show n = 1 ∨ n = 2 ∨ n = 3 ∨ n = 4 by omega) with rfl | rfl | rfl | rfl
  · have := hh 1 (by omega) (by omega); have := hh 2 (by omega) (by omega); have := hh 3 (by omega) (by omega)
    obtain rfl : i = 0 := by omega
    omega
  · have := hh 2 (by omega) (by omega); have := hh 3 (by omega) (by omega)
    rcases (show i = 0 ∨ i = 1 by omega) with rfl | rfl <;> omega
  · have := hh 3 (by omega) (by omega)
    rcases (show i = 0 ∨ i = 1 ∨ i = 2 by omega) with rfl | rfl | rfl <;> omega
  · rcases (show i = 0 ∨ i = 1 ∨ i = 2 ∨ i = 3 by omega) with rfl | rfl | rfl | rfl <;> omega
theorem bits_eq : ∀ y b : Fin 16, (∀ i : Fin 4, bitN y.val i.val = bitN b.val i.val) → y.val = b.val := by decide +kernel
theorem sub_zero : ∀ b c : Fin 16, b.val &&& c.val = b.val → ∀ i : Fin 4, bitN c.val i.val = 0 → bitN b.val i.val = 0 := by decide +kernel
/-- who gives all the answers of the end is the end -/
theorem turn_end {n : Int} {zs vs ls : List Int} (hV : Valid n zs) (h : OrdOk n ls) {y : Nat} (hy : (y : Int) ∈ zs) (hf : Fits (turnK zs vs ls ls.length) y) : y = (turnK zs vs ls ls.length).2 := by
  obtain ⟨hc, hb, hbc, _⟩ := tinv (zs := zs) (vs := vs) h hV.1.2 ls.length (Nat.le_refl _)
  obtain ⟨z, hz, hz1, hz2⟩ := zs_nat hV hy
  obtain rfl : y = z := by omega
  refine bits_eq ⟨y, hz2⟩ ⟨_, hb⟩ fun i => ?_
  by_cases hi : ((i.val : Nat) : Int) < n
  · exact hf i.val i.isLt (turn_full hV h i.val hi)
  · have h1 := bit_high ⟨n.toNat, by have := hV.1; omega⟩ ⟨y, hz2⟩ i hz1 (by simp only; omega)
    have h2 := sub_zero ⟨_, hb⟩ ⟨_, hc⟩ hbc i (turn_high hV h _ (Nat.le_refl _) i.val i.isLt (by omega))
    simp only at h1 h2 ⊢
    rw [h1, h2]
theorem turn_in {n : Int} {zs vs ls : List Int} (hV : Valid n zs) (h : OrdOk n ls) : (((turnK zs vs ls ls.length).2 : Nat) : Int) ∈ zs := by
  obtain ⟨y, hy, hf⟩ := turn_fits (vs := vs) hV h ls.length (Nat.le_refl _)
  rw [← turn_end hV h hy hf]
  exact hy
theorem turn_later {n : Int} {zs vs ls : List Int} (hV : Valid n zs) (h : OrdOk n ls) (k i : Nat) (hi : i < 4) (hc : bitN (turnK zs vs ls k).1 i = 1) : ∀ d, k + d ≤ ls.length → bitN (turnK zs vs ls (k + d)).1 i = 1 ∧ bitN (turnK zs vs ls (k + d)).2 i = bitN (turnK zs vs ls k).2 i
  | 0, _ => ⟨hc, rfl⟩
  | d + 1, hd => by
    have ih := turn_later hV h k i hi hc d (by omega)
    obtain ⟨j, t, hj, hj4, hjn, ht, h0, hC, hB, hh⟩ := turn_step (vs := vs) hV h (k := k + d) (by omega)
    have hij : i ≠ j := fun e => by rw [e] at ih; omega
    rw [← Nat.add_assoc, hC i hi, hB i hi, if_neg hij, if_neg hij]
    exact ih
/-- undecided -/
def Tie (vs : List Int) (j : Nat) : Prop := 2 * supN vs j = vs.length
instance (vs : List Int) (j : Nat) : Decidable (Tie vs j) := by unfold Tie; infer_instance
/-- the undecided issues come last -/
def TiesLast (vs ls : List Int) : Prop := ∀ p q, p < q → q < ls.length → Tie vs (ls.getD p 0).toNat → Tie vs (ls.getD q 0).toNat
theorem lost_at {vs : List Int} {m y i : Nat} (hm : m ≤ 4) (hy : y < 16) (hi : i < 4) : bitN (lostN (wantC vs m) (wantB vs m) (y : Int)) i = if (i < m ∧ ¬ Tie vs i) ∧ bitN y i ≠ mj vs i then 1 else 0 := by
  have hc := pow_16 hm (wantC_lt vs m)
  have hb := pow_16 hm (wantB_lt vs m)
  have hl := lost_bit ⟨y, hy⟩ ⟨_, hb⟩ ⟨_, hc⟩ ⟨i, hi⟩
  simp only at hl
  unfold lostN
  rw [Int.toNat_natCast, hl, bitC vs i hi m hm, bitB vs i hi m hm]
  unfold mj Tie
  by_cases h1 : i < m
  · by_cases h2 : 2 * supN vs i = vs.length
    · simp [h1, h2]
    · by_cases h3 : vs.length < 2 * supN vs i
      · simp [h1, h2, h3]
      · simp [h1, h2, h3]
  · simp [h1]
theorem turn_kept {n : Int} {zs vs ls : List Int} (hV : Valid n zs) (h : OrdOk n ls) (hT : TiesLast vs ls) {y : Nat} (hy : (y : Int) ∈ zs) : ∀ k, k ≤ ls.length → Fits (turnK zs vs ls k) y ∨
    (∃ i, i < 4 ∧ bitN (lostN (wantC vs n.toNat) (wantB vs n.toNat) (y : Int)) i = 1 ∧ bitN (lostN (wantC vs n.toNat) (wantB vs n.toNat) ((turnK zs vs ls ls.length).2 : Nat)) i = 0) ∨
    (∀ i, i < 4 → bitN (lostN (wantC vs n.toNat) (wantB vs n.toNat) (y : Int)) i = bitN (lostN (wantC vs n.toNat) (wantB vs n.toNat) ((turnK zs vs ls ls.length).2 : Nat)) i)
  | 0, _ => .inl fun i _ hc => by simp [turnK, bitN] at hc
  | k + 1, hk => by
    rcases turn_kept hV h hT hy k (by omega) with hf | hx
    · have h4 : n.toNat ≤ 4 := by have := hV.1; omega
      obtain ⟨z, hz, hz1, hz2⟩ := zs_nat hV hy
      obtain rfl : y = z := by omega
      have hb := (tinv (zs := zs) (vs := vs) h hV.1.2 ls.length (Nat.le_refl _)).2.1
      obtain ⟨j, t, hj, hj4, hjn, ht, h0, hC, hB, hh⟩ := turn_step (vs := vs) hV h (k := k) (by omega)
      have hyj := bitN_le y j
      have hmj : mj vs j ≤ 1 := by unfold mj; split <;> omega
      by_cases he : bitN y j = t
      · refine .inl fun i hi hc => ?_
        rw [hB i hi]
        rw [hC i hi] at hc
        split
        · rename_i hij; rw [hij]; exact he
        · rename_i hij; rw [if_neg hij] at hc; exact hf i hi hc
      · rcases hh with ⟨htm, _⟩ | ⟨hne, hh⟩
        · have hcj : bitN (turnK zs vs ls (k + 1)).1 j = 1 := by rw [hC j hj4, if_pos rfl]
          have hlast := (turn_later hV h (k + 1) j hj4 hcj (ls.length - (k + 1)) (by omega)).2
          rw [show k + 1 + (ls.length - (k + 1)) = ls.length by omega, hB j hj4, if_pos rfl] at hlast
          by_cases htie : Tie vs j
          · refine .inr (.inr fun i hi => ?_)
            rw [lost_at h4 hz2 hi, lost_at h4 hb hi]
            by_cases hci : bitN (turnK zs vs ls k).1 i = 1
            · have hl2 := (turn_later hV h k i hi hci (ls.length - k) (by omega)).2
              rw [show k + (ls.length - k) = ls.length by omega] at hl2
              rw [hl2, hf i hi hci]
            · by_cases him : i < n.toNat
              · have hfull := turn_full (vs := vs) hV h i (by omega)
                obtain ⟨q, hq, eq⟩ := ((tinv (zs := zs) (vs := vs) h hV.1.2 ls.length (Nat.le_refl _)).2.2.2 i hi).1 hfull
                have hkq : k ≤ q := by
                  rcases Nat.lt_or_ge q k with h1 | h1
                  · exact absurd (((tinv (zs := zs) (vs := vs) h hV.1.2 k (by omega)).2.2.2 i hi).2 ⟨q, h1, eq⟩) hci
                  · exact h1
                have hti : Tie vs i := by
                  rcases Nat.lt_or_ge k q with h1 | h1
                  · have := hT k q h1 hq (by rw [hj, Int.toNat_natCast]; exact htie)
                    rwa [eq, Int.toNat_natCast] at this
                  · obtain rfl : k = q := by omega
                    rw [hj] at eq
                    obtain rfl : j = i := by omega
                    exact htie
                rw [if_neg (fun hh => hh.1.2 hti), if_neg (fun hh => hh.1.2 hti)]
              · rw [if_neg (fun hh => him hh.1.1), if_neg (fun hh => him hh.1.1)]
          · refine .inr (.inl ⟨j, hj4, ?_, ?_⟩)
            · rw [lost_at h4 hz2 hj4, if_pos ⟨⟨by omega, htie⟩, by omega⟩]
            · rw [lost_at h4 hb hj4, if_neg (fun hh => hh.2 (by omega))]
        · have := hh y hy hf
          omega
    · exact .inr hx
theorem and_bits : ∀ p q : Fin 16, p.val &&& q.val = p.val → ∀ i : Fin 4, bitN p.val i.val = 1 → bitN q.val i.val = 1 := by decide +kernel
/-- What the promise of RankedRule needs. -/
theorem turn_best {n : Int} {zs vs ls : List Int} (hv : vvB n zs vs = true) (h : OrdOk n ls) (hT : TiesLast vs ls) : (((turnK zs vs ls ls.length).2 : Nat) : Int) ∈ bestK n zs vs := by
  obtain ⟨hV, hO⟩ := vv_of hv
  have h4 : n.toNat ≤ 4 := by have := hV.1; omega
  have hC := pow_16 h4 (wantC_lt vs n.toNat)
  rw [bestK_yes hv, mem_unb]
  refine ⟨turn_in hV h, fun x hx => ?_⟩
  obtain ⟨y, rfl, hy1, hy2⟩ := zs_nat hV hx
  have hp := lostN_lt (b := wantB vs n.toNat) (y : Int) hC
  have hq := lostN_lt (b := wantB vs n.toNat) (((turnK zs vs ls ls.length).2 : Nat) : Int) hC
  have key : (∃ i, i < 4 ∧ bitN (lostN (wantC vs n.toNat) (wantB vs n.toNat) (y : Int)) i = 1 ∧ bitN (lostN (wantC vs n.toNat) (wantB vs n.toNat) ((turnK zs vs ls ls.length).2 : Nat)) i = 0) ∨
      (∀ i, i < 4 → bitN (lostN (wantC vs n.toNat) (wantB vs n.toNat) (y : Int)) i = bitN (lostN (wantC vs n.toNat) (wantB vs n.toNat) ((turnK zs vs ls ls.length).2 : Nat)) i) := by
    rcases turn_kept hV h hT hx ls.length (Nat.le_refl _) with hf | hh
    · rw [← turn_end hV h hx hf]; exact .inr fun i _ => rfl
    · exact hh
  obtain ⟨P, hP⟩ : ∃ P, lostN (wantC vs n.toNat) (wantB vs n.toNat) (y : Int) = P := ⟨_, rfl⟩
  obtain ⟨Q, hQ⟩ : ∃ Q, lostN (wantC vs n.toNat) (wantB vs n.toNat) (((turnK zs vs ls ls.length).2 : Nat) : Int) = Q := ⟨_, rfl⟩
  unfold keptB
  rw [hP] at hp
  rw [hQ] at hq
  rw [hP, hQ] at key ⊢
  rcases key with ⟨i, hi, h1, h0⟩ | key
  · rw [Bool.and_eq_false_iff]
    refine .inl (beq_eq_false_iff_ne.2 fun e => ?_)
    have := and_bits ⟨P, hp⟩ ⟨Q, hq⟩ e ⟨i, hi⟩ h1
    simp only at this
    omega
  · have := bits_eq ⟨P, hp⟩ ⟨Q, hq⟩ fun i => key i.val i.isLt
    simp only at this
    rw [this]
    simp
end Go.Proofs.Ytccemllgglfgkaa

/- RankN: The clearest first: undecided issues come last; what RankedRule answers is kept. -/
namespace Go.Proofs.Ytccemllgglfgkaa
open Go.RowKit Go.Joins

theorem rowF_val {f : Int → Int} {d x : Int} : ∀ k, x ∈ rowF f d k → f x = d
  | 0, h => by simp [rowF] at h
  | k + 1, h => by
    unfold rowF at h
    split at h
    · rename_i hk
      rcases List.mem_append.1 h with h | h
      · exact rowF_val k h
      · rw [List.mem_singleton.1 h]; exact hk
    · exact rowF_val k h
theorem rowsF_ge {f : Int → Int} {n m : Nat} {x : Int} : ∀ t, x ∈ rowsF f n m t → (n : Int) - (t : Int) < f x
  | 0, h => by simp [rowsF] at h
  | t + 1, h => by
    unfold rowsF at h
    rcases List.mem_append.1 h with h | h
    · have := rowsF_ge t h; omega
    · have := rowF_val m h; omega
theorem rowsF_down (f : Int → Int) (n m : Nat) : ∀ t, (rowsF f n m t).Pairwise fun x y => f y ≤ f x
  | 0 => by simp [rowsF]
  | t + 1 => by
    unfold rowsF
    rw [List.pairwise_append]
    refine ⟨rowsF_down f n m t, ?_, fun x hx y hy => ?_⟩
    · rw [List.pairwise_iff_getElem]
      intro i j hi hj _
      rw [rowF_val m (List.getElem_mem hi), rowF_val m (List.getElem_mem hj)]
      exact Int.le_refl _
    · have := rowsF_ge t hx
      have := rowF_val m hy
      omega
theorem lead_tie {m : Nat} {vs : List Int} {j : Nat} (h : j < m) : 0 ≤ leadV vs.length (supL m vs) (j : Int) ∧ (Tie vs j ↔ leadV vs.length (supL m vs) (j : Int) = 0) := by
  unfold leadV supL Tie
  rw [Int.toNat_natCast, supKL_getD _ _ _ _ h]
  unfold supN
  constructor
  · omega
  · constructor <;> intro h <;> omega
theorem clear_last {n : Nat} {zs vs : List Int} (hv : vvB n zs vs = true) : TiesLast vs (clearL vs.length (supL n vs)) := by
  obtain ⟨e, hok, _⟩ := rankV_yes hv
  have hd := rowsF_down (leadV vs.length (supL n vs)) vs.length n (vs.length + 1)
  rw [← e] at hd
  intro p q hpq hq htie
  have hp : p < (clearL vs.length (supL n vs)).length := by omega
  have h1 := hok.2.1 p hp
  have h2 := hok.2.1 q hq
  have hpw := (List.pairwise_iff_getElem.1 hd) p q hp hq hpq
  obtain ⟨x, hx⟩ := Int.eq_ofNat_of_zero_le h1.1
  obtain ⟨y, hy⟩ := Int.eq_ofNat_of_zero_le h2.1
  rw [← getD_lt hp, ← getD_lt hq, hx, hy] at hpw
  rw [hx] at h1 htie
  rw [hy] at h2 ⊢
  rw [Int.toNat_natCast] at htie ⊢
  have a := (lead_tie (vs := vs) (show x < n by omega)).2.1 htie
  have b := lead_tie (vs := vs) (show y < n by omega)
  rw [b.2]
  have := b.1
  omega
/-- What the promise of RankedRule needs. -/
theorem rank_facts {n : Int} {zs vs : List Int} (hv : vvB n zs vs = true) : rankV n zs vs ∈ bestK n zs vs ∧ rankV n zs vs ∈ zs := by
  obtain ⟨m, rfl⟩ := Int.eq_ofNat_of_zero_le (show 0 ≤ n from by have := (vv_of hv).1.1; omega)
  obtain ⟨_, hok, e⟩ := rankV_yes hv
  rw [e]
  exact ⟨turn_best hv hok (clear_last hv), turn_in (vv_of hv).1 hok⟩
end Go.Proofs.Ytccemllgglfgkaa

/- RuleW: Small contracts with a free answer, for the laws of the rules. -/
namespace Go.Proofs.Ytccemllgglfgkaa
open Go.RowKit Go.Joins

theorem settled_was (n : Int) (a l : Option Addr) (cap capl : Nat) (zs vs : List Int) (w : World) (r : Bool) (hi : Ints w a zs) (hj : Ints w l vs) (hn : zs.length ≤ 1048576) (hm : vs.length ≤ 1048576) (hr : setB n zs vs = r) :
    Calls Try.prog 42 #[.agg #[.int .i64 n, .slice a zs.length cap], .slice l vs.length capl] w fun e w' => e = .returned (.bool r) ∧ Below w.heap.size w w' := by
  subst hr
  exact implIsSettled_any n a l cap capl zs vs w hi hj hn hm
theorem isIn_was (x : Int) (a : Option Addr) (cap : Nat) (zs : List Int) (r : Bool) (w : World) (hi : Ints w a zs) (hn : zs.length ≤ 1048576) (hr : hasB zs x = r) :
    Calls Try.prog 23 #[.slice a zs.length cap, .int .i64 x] w fun e w' => e = .returned (.bool r) ∧ w = w' := by
  subst hr
  exact isIn_any x a cap zs w hi hn
theorem and_16s (p q : Nat) (hp : p < 16) (hq : q < 16) : bits .and .i64 (p : Int) (q : Int) = ((p &&& q : Nat) : Int) := by
  have h : ∀ p q : Fin 16, bits .and .i64 ((p.val : Nat) : Int) ((q.val : Nat) : Int) = ((p.val &&& q.val : Nat) : Int) := by decide +kernel
  exact h ⟨p, hp⟩ ⟨q, hq⟩
end Go.Proofs.Ytccemllgglfgkaa

/- PRank: The law of RankedRule answers true at every code: its walk. -/
namespace Go.Proofs.Ytccemllgglfgkaa
open Go.RowKit Go.Joins

theorem isIn_in (x : Int) (a : Option Addr) (cap : Nat) (zs : List Int) (w : World) (hi : Ints w a zs) (hn : zs.length ≤ 1048576) (h : x ∈ zs) :
    Calls Try.prog 23 #[.slice a zs.length cap, .int .i64 x] w fun e w' => e = .returned (.bool true) ∧ w = w' := by
  rw [← hasB_true h]
  exact isIn_any x a cap zs w hi hn
theorem inSpace_was (n x : Int) (a : Option Addr) (cap : Nat) (zs : List Int) (w : World) (r : Bool) (hi : Ints w a zs) (hn : zs.length ≤ 1048576) (hr : inB n zs x = r) :
    Calls Try.prog 41 #[.agg #[.int .i64 n, .slice a zs.length cap], .int .i64 x] w fun e w' => e = .returned (.bool r) ∧ Below w.heap.size w w' := by
  subst hr
  exact implInSpace_any n x a cap zs w hi hn
set_option maxHeartbeats 8000000 in
set_option maxRecDepth 100000 in
theorem walk_FnRankedRule (a : Option Addr) (zs : List Nat) (cap : Nat) (w : World) (hi : Byts w a zs) (hl : zs.length ≤ maxLen) (hc : zs.length ≤ cap) :
    Calls Try.prog 10 #[.slice a zs.length cap] w fun e w' => e = .returned (.bool true) ∧ Below w.heap.size w w' := by
  by_cases h : 1048576 < zs.length
  · unfold maxLen at hl
    go_enter Try.func10, Try.ntmps10
    go_wp2
    go_ret
    exact ⟨rfl, Below.refl _ _⟩
  · have hl' : zs.length ≤ 1048576 := by omega
    clear h hl
    go_enter Try.func10, Try.ntmps10
    go_wp2_with fail
    refine (drawRankedRule_any _ _ _ _ hi hl' hc).mono ?_
    rintro e w1 ⟨m, av, ss, cv, al, ls, cl, rfl, ii, hsl, il, hll, hb⟩
    have S0 := SV.new w1 m av ss cv al ls 28 ii il
    have HB := hide hb
    have hn : ss.length ≤ 1048576 := by omega
    have hm : ls.length ≤ 1048576 := by omega
    have HKL := hide (Nat.le_trans (bestK_len m ss ls) hn)
    have HF : Hid (vvB m ss ls = true → rankV m ss ls ∈ bestK m ss ls ∧ inB m ss (rankV m ss ls) = true) := fun h => ⟨(rank_facts h).1, by rw [inB_true (vsB_true (vv_of h).1)]; exact hasB_true (rank_facts h).2⟩
    obtain ⟨x, hx⟩ : ∃ x, rankV m ss ls = x := ⟨_, rfl⟩
    have hi0 := fun w hi hj => implRankedRule_any m av al cv cl ss ls w hi hj hn hm
    have hs0 := fun w hi hj => specRankedRule_any m av al cv cl ss ls w hi hj hn hm
    rw [hx] at hi0 hs0 HF
    have HI := hide hi0
    have HS := hide hs0
    clear hb hi ii il hl' hsl hx hi0 hs0
    obtain ⟨⟨_, c0, c1⟩, _⟩ := S0.pair
    go_wp2_with fail
    refine (HI.out _ S0.2.1 S0.2.2.1).mono ?_
    rintro e w2 ⟨rfl, b2⟩
    have S2 := S0.below b2
    clear c0 c1 S0 b2
    obtain ⟨⟨_, c0, c1⟩, _⟩ := S2.pair
    go_wp2_with fail
    refine (HS.out _ S2.2.1 S2.2.2.1).mono ?_
    rintro e w3 ⟨rfl, b3⟩
    have S3 := S2.below b3
    clear c0 c1 S2 b3
    obtain ⟨⟨_, c0, c1⟩, _⟩ := S3.pair
    by_cases hv : vvB m ss ls = true
    · obtain ⟨hk, hin⟩ := HF.out hv
      have HV := hide hv
      have HK := hide hk
      have HN := hide hin
      clear hv hk hin
      go_wp2_with fail
      refine (votes_was _ _ _ _ _ _ _ _ true S3.2.1 S3.2.2.1 hn hm HV.out).mono ?_
      rintro e w4 ⟨rfl, b4⟩
      have S4 := S3.below b4
      clear c0 c1 S3 b4
      obtain ⟨⟨_, c0, c1⟩, _⟩ := S4.pair
      go_wp2_with fail
      refine (implKeptRule_any _ _ _ _ _ _ _ _ S4.2.1 S4.2.2.1 hn hm).mono ?_
      rintro e w5 ⟨v5, rfl, ow5, b5⟩
      have S5 := S4.below b5
      obtain ⟨a5, k5, rfl, i5, _⟩ := ow5.form
      obtain ⟨L, hL⟩ : ∃ L, bestK m ss ls = L := ⟨_, rfl⟩
      rw [hL] at i5 HK HKL ⊢
      have I5 := hide i5
      clear c0 c1 S4 b5 ow5 hL i5
      obtain ⟨⟨_, c0, c1⟩, _⟩ := S5.pair
      go_wp2_with fail
      refine (isIn_in _ _ _ _ _ I5.out HKL.out HK.out).mono ?_
      rintro e w6 ⟨rfl, rfl⟩
      go_wp2_with fail
      refine (inSpace_was _ _ _ _ _ _ true S5.2.1 hn HN.out).mono ?_
      rintro e w7 ⟨rfl, b7⟩
      have S7 := S5.below b7
      clear c0 c1 S5 b7
      go_wp2
      go_ret
      exact ⟨rfl, bnext HB.out S7.2.2.2⟩
    · have hv : vvB m ss ls = false := by simpa using hv
      have HV := hide hv
      clear hv
      go_wp2_with fail
      refine (votes_was _ _ _ _ _ _ _ _ false S3.2.1 S3.2.2.1 hn hm HV.out).mono ?_
      rintro e w4 ⟨rfl, b4⟩
      have S4 := S3.below b4
      clear c0 c1 S3 b4
      obtain ⟨⟨_, c0, c1⟩, _⟩ := S4.pair
      go_wp2_with fail
      refine (HS.out _ S4.2.1 S4.2.2.1).mono ?_
      rintro e w5 ⟨rfl, b5⟩
      have S5 := S4.below b5
      clear c0 c1 S4 b5
      go_wp2
      go_ret
      exact ⟨rfl, bnext HB.out S5.2.2.2⟩
end Go.Proofs.Ytccemllgglfgkaa
