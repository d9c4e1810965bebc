/- Committees that no swap makes better wrong no group: plain mathematics. -/
import Derived.Test.YtgkaghappogglaaJustM
import Derived.Test.YtgkaghappogglaaGrp
namespace Go.Proofs.Ytgkaghappogglaa
open Go.RowKit Go.Joins

/-- a sum over a list -/
def sm (f : Int → Nat) : List Int → Nat
  | [] => 0
  | b :: bs => f b + sm f bs
theorem sm_append (f : Int → Nat) (xs ys : List Int) : sm f (xs ++ ys) = sm f xs + sm f ys := by
  induction xs with
  | nil => simp [sm]
  | cons x xs ih => simp only [List.cons_append, sm, ih]; omega
theorem sm_sub {f : Int → Nat} {ms bs : List Int} (h : ms.Sublist bs) : sm f ms ≤ sm f bs := by
  induction h with
  | slnil => exact Nat.le_refl _
  | cons a _ ih => simp only [sm]; omega
  | cons_cons a _ ih => simp only [sm]; omega
theorem sm_le {f g : Int → Nat} {bs : List Int} (h : ∀ b ∈ bs, f b ≤ g b) : sm f bs ≤ sm g bs := by
  induction bs with
  | nil => exact Nat.le_refl _
  | cons b bs ih =>
    have h1 := h b (by simp)
    have h2 := ih (fun x hx => h x (by simp [hx]))
    simp only [sm]; omega
theorem sm_add (f g : Int → Nat) (bs : List Int) : sm (fun b => f b + g b) bs = sm f bs + sm g bs := by
  induction bs with
  | nil => rfl
  | cons b bs ih => simp only [sm, ih]; omega
theorem sm_eq {f g : Int → Nat} {bs : List Int} (h : ∀ b ∈ bs, f b = g b) : sm f bs = sm g bs :=
  Nat.le_antisymm (sm_le fun b hb => Nat.le_of_eq (h b hb)) (sm_le fun b hb => Nat.le_of_eq (h b hb).symm)
theorem sm_most {f : Int → Nat} {U : Nat} {bs : List Int} (h : ∀ b ∈ bs, f b ≤ U) : sm f bs ≤ U * bs.length := by
  induction bs with
  | nil => exact Nat.le_refl _
  | cons b bs ih =>
    have h1 := h b (by simp)
    have h2 := ih (fun x hx => h x (by simp [hx]))
    simp only [sm, List.length_cons, Nat.mul_add]; omega
theorem sm_least {f : Int → Nat} {U l : Nat} {bs : List Int} (h : ∀ b ∈ bs, U ≤ l * f b) : U * bs.length ≤ l * sm f bs := by
  induction bs with
  | nil => exact Nat.le_refl _
  | cons b bs ih =>
    have h1 := h b (by simp)
    have h2 := ih (fun x hx => h x (by simp [hx]))
    simp only [sm, List.length_cons, Nat.mul_add]; omega

/-- what a ballot is worth to a committee -/
def wB (q y : Nat) (b : Int) : Nat := worth q (pc (b.toNat &&& y))
theorem scoreK_sm {q : Nat} (hq : q ≠ 3) (bs : List Int) (w : Nat) : ∀ k, k ≤ bs.length → scoreK q bs w k = sm (wB q w) (bs.take k)
  | 0, _ => by simp [scoreK, sm]
  | k + 1, hk => by
    have hlt : k < bs.length := by omega
    rw [scoreK_sum bs w k hq, scoreK_sm hq bs w k (by omega), List.take_succ_eq_append_getElem hlt, sm_append, getD_lt hlt]
    rfl
theorem scoreV_sm {q : Nat} (hq : q ≠ 3) (bs : List Int) (w : Nat) : scoreV q bs w = sm (wB q w) bs := by
  unfold scoreV
  rw [scoreK_sm hq bs w bs.length (Nat.le_refl _), List.take_length]

/-- what the first name is worth -/
def oneW (q : Nat) : Nat := if q = 1 then 60 else 1
/-- what a ballot loses without a name of the committee -/
def lossT (q y a : Nat) (b : Int) : Nat := if bitN y a = 1 then wB q y b - wB q (y ^^^ 2 ^ a) b else 0
def worthT (q y b : Nat) : Nat := worth q (pc (b &&& y))
def lossN (q y a b : Nat) : Nat := if bitN y a = 1 then worthT q y b - worthT q (y ^^^ 2 ^ a) b else 0
theorem loss_fin : ∀ q : Fin 3, 1 ≤ q.val → ∀ b y : Fin 32, lossN q.val y.val 0 b.val + lossN q.val y.val 1 b.val + lossN q.val y.val 2 b.val + lossN q.val y.val 3 b.val + lossN q.val y.val 4 b.val ≤ oneW q.val := by decide +kernel
theorem less_fin : ∀ q : Fin 3, ∀ b y : Fin 32, ∀ a : Fin 5, bitN y.val a.val = 1 → worthT q.val (y.val ^^^ 2 ^ a.val) b.val ≤ worthT q.val y.val b.val := by decide +kernel
theorem gain_fin : ∀ q : Fin 3, 1 ≤ q.val → ∀ b w : Fin 32, ∀ x : Fin 5, bitN b.val x.val = 1 → bitN w.val x.val = 0 → (q.val = 1 ∨ pc (b.val &&& w.val) = 0) → oneW q.val ≤ (pc (b.val &&& w.val) + 1) * (worthT q.val (w.val ||| 2 ^ x.val) b.val - worthT q.val w.val b.val) := by decide +kernel
theorem put_fin : ∀ w : Fin 32, ∀ x : Fin 5, bitN w.val x.val = 0 → (w.val ||| 2 ^ x.val) < 32 ∧ bitN (w.val ||| 2 ^ x.val) x.val = 1 ∧ (w.val ||| 2 ^ x.val) ^^^ 2 ^ x.val = w.val ∧ pc (w.val ||| 2 ^ x.val) = pc w.val + 1 := by decide +kernel
theorem swap_fin : ∀ w : Fin 32, ∀ x a : Fin 5, bitN w.val x.val = 0 → a ≠ x → bitN (w.val ||| 2 ^ x.val) a.val = bitN w.val a.val ∧ (w.val ||| 2 ^ x.val) ^^^ 2 ^ a.val = (w.val ^^^ 2 ^ a.val) ^^^ 2 ^ x.val := by decide +kernel
theorem pick_fin : ∀ A w : Fin 32, pc (A.val &&& w.val) < pc A.val → ∃ j : Fin 5, bitN A.val j.val = 1 ∧ bitN w.val j.val = 0 := by decide +kernel
theorem pc_bits (y : Nat) (hy : y < 32) : pc y = bitN y 0 + bitN y 1 + bitN y 2 + bitN y 3 + bitN y 4 := by unfold pc bitN; omega

theorem toNat_lt {b : Int} (h : 0 ≤ b ∧ b ≤ 31) : b.toNat < 32 := by omega
theorem lossT_n (q y a : Nat) (b : Int) : lossT q y a b = lossN q y a b.toNat := rfl
/-- no loss is greater than the first name -/
theorem loss_all {q y : Nat} {bs : List Int} (hq : 1 ≤ q ∧ q ≤ 2) (hy : y < 32) (hr : ∀ b ∈ bs, 0 ≤ b ∧ b ≤ 31) :
    sm (lossT q y 0) bs + sm (lossT q y 1) bs + sm (lossT q y 2) bs + sm (lossT q y 3) bs + sm (lossT q y 4) bs ≤ oneW q * bs.length := by
  rw [← sm_add, ← sm_add, ← sm_add, ← sm_add]
  exact sm_most fun b hb => loss_fin ⟨q, by omega⟩ hq.1 ⟨b.toNat, toNat_lt (hr b hb)⟩ ⟨y, hy⟩
theorem loss_one {q y a : Nat} {bs : List Int} (hq : q ≤ 2) (hy : y < 32) (ha : a < 5) (hr : ∀ b ∈ bs, 0 ≤ b ∧ b ≤ 31) (hb : bitN y a = 1) :
    sm (lossT q y a) bs + sm (wB q (y ^^^ 2 ^ a)) bs = sm (wB q y) bs := by
  rw [← sm_add]
  refine sm_eq fun b hm => ?_
  have h := less_fin ⟨q, by omega⟩ ⟨b.toNat, toNat_lt (hr b hm)⟩ ⟨y, hy⟩ ⟨a, ha⟩ hb
  have h' : wB q (y ^^^ 2 ^ a) b ≤ wB q y b := h
  unfold lossT
  rw [if_pos hb]; omega
/-- what a swap that is no better leaves to a name of the committee -/
theorem stable_sum {q k w x G : Nat} {bs : List Int} (hq : 1 ≤ q ∧ q ≤ 2) (hw : w < 32) (hx : x < 5) (hr : ∀ b ∈ bs, 0 ≤ b ∧ b ≤ 31) (hk : pc w = k) (hxw : bitN w x = 0)
    (hG : sm (wB q w) bs + G = sm (wB q (w ||| 2 ^ x)) bs) (hst : ∀ a, a < 5 → bitN w a = 1 → sm (wB q ((w ^^^ 2 ^ a) ^^^ 2 ^ x)) bs ≤ sm (wB q w) bs) : (k + 1) * G ≤ oneW q * bs.length := by
  obtain ⟨hy, hyx, hyw, hyp⟩ := put_fin ⟨w, hw⟩ ⟨x, hx⟩ hxw
  simp only at hy hyx hyw hyp
  have hone : ∀ a, a < 5 → bitN (w ||| 2 ^ x) a * G ≤ sm (lossT q (w ||| 2 ^ x) a) bs := by
    intro a ha
    have hle := bitN_le (w ||| 2 ^ x) a
    rcases (show bitN (w ||| 2 ^ x) a = 0 ∨ bitN (w ||| 2 ^ x) a = 1 from by omega) with h | h
    · rw [h, Nat.zero_mul]; exact Nat.zero_le _
    · have h1 := loss_one (q := q) hq.2 hy ha hr h
      rw [h, Nat.one_mul]
      by_cases e : a = x
      · subst e
        rw [hyw] at h1
        omega
      · have h2 := swap_fin ⟨w, hw⟩ ⟨x, hx⟩ ⟨a, ha⟩ hxw (fun hh => e (congrArg Fin.val hh))
        simp only at h2
        rw [h2.2] at h1
        have h3 := hst a ha (by rw [← h2.1]; exact h)
        omega
  have hsum := loss_all hq hy hr
  have h0 := hone 0 (by omega)
  have h1 := hone 1 (by omega)
  have h2 := hone 2 (by omega)
  have h3 := hone 3 (by omega)
  have h4 := hone 4 (by omega)
  have hp := pc_bits _ hy
  rw [hyp, hk] at hp
  rw [hp, Nat.add_mul, Nat.add_mul, Nat.add_mul, Nat.add_mul]
  omega
/-- a group that is due l names and has less gains by one more -/
theorem group_gain {q l w x : Nat} {bs ms : List Int} (hq : 1 ≤ q ∧ q ≤ 2) (hw : w < 32) (hx : x < 5) (hr : ∀ b ∈ bs, 0 ≤ b ∧ b ≤ 31) (hxw : bitN w x = 0) (hs : ms.Sublist bs)
    (hm : ∀ b ∈ ms, bitN b.toNat x = 1 ∧ pc (b.toNat &&& w) < l) (hl : q = 1 ∨ l = 1) :
    ∃ G, sm (wB q w) bs + G = sm (wB q (w ||| 2 ^ x)) bs ∧ oneW q * ms.length ≤ l * G := by
  obtain ⟨hy, hyx, hyw, hyp⟩ := put_fin ⟨w, hw⟩ ⟨x, hx⟩ hxw
  simp only at hy hyx hyw hyp
  refine ⟨sm (lossT q (w ||| 2 ^ x) x) bs, ?_, ?_⟩
  · have h := loss_one (q := q) hq.2 hy hx hr hyx
    rw [hyw] at h
    omega
  · have h1 : oneW q * ms.length ≤ l * sm (lossT q (w ||| 2 ^ x) x) ms := sm_least fun b hb => by
      obtain ⟨h2, h3⟩ := hm b hb
      have hb' := hs.subset hb
      have h4 := gain_fin ⟨q, by omega⟩ hq.1 ⟨b.toNat, toNat_lt (hr b hb')⟩ ⟨w, hw⟩ ⟨x, hx⟩ h2 hxw (by
        rcases hl with e | e
        · exact .inl e
        · right; simp only; omega)
      simp only at h4
      refine Nat.le_trans h4 ?_
      unfold lossT
      rw [if_pos hyx, hyw]
      exact Nat.mul_le_mul_right _ (by omega)
    exact Nat.le_trans h1 (Nat.mul_le_mul_left _ (sm_sub hs))
/-- so no group that is due is wronged by someone -/
theorem stable_group {q k l w m : Nat} {bs ms : List Int} (hq : 1 ≤ q ∧ q ≤ 2) (hw : w < 32) (hm5 : m ≤ 5) (hr : ∀ b ∈ bs, 0 ≤ b ∧ b ≤ 31) (hn : 1 ≤ bs.length) (hk : pc w = k) (hs : ms.Sublist bs) (hl1 : 1 ≤ l) (hl : q = 1 ∨ l = 1)
    (hst : ∀ a x, a < m → x < m → bitN w a = 1 → bitN w x = 0 → sm (wB q ((w ^^^ 2 ^ a) ^^^ 2 ^ x)) bs ≤ sm (wB q w) bs) (hwm : w < 2 ^ m)
    (hd : l * bs.length ≤ ms.length * k) (ha : l ≤ pc (andL ms (2 ^ m - 1))) (hb : ∀ b ∈ ms, pc (b.toNat &&& w) < l) : False := by
  have h32 := pow_le5 (m : Int) (by omega)
  rw [Int.toNat_natCast] at h32
  have hpos := Nat.two_pow_pos m
  have hal := andL_le ms (2 ^ m - 1)
  cases ms with
  | nil =>
    simp only [List.length_nil, Nat.zero_mul] at hd
    have := Nat.mul_le_mul hl1 hn
    omega
  | cons b0 ms0 =>
    have hb0 := hb b0 (by simp)
    have hsub : ∀ j, (andL (b0 :: ms0) (2 ^ m - 1)).testBit j = true → (2 ^ m - 1).testBit j = true ∧ ∀ b ∈ b0 :: ms0, b.toNat.testBit j = true := fun j hj => (andL_bit _ j _).1 hj
    have hle : pc (andL (b0 :: ms0) (2 ^ m - 1) &&& w) ≤ pc (b0.toNat &&& w) := by
      refine pc_mono _ _ (Nat.and_lt_two_pow (n := 5) _ hw) (Nat.and_lt_two_pow (n := 5) _ hw) ?_
      apply Nat.eq_of_testBit_eq
      intro i
      simp only [Nat.testBit_and]
      cases hi : (andL (b0 :: ms0) (2 ^ m - 1)).testBit i with
      | false => simp
      | true =>
        rw [(hsub i hi).2 b0 (by simp)]
        simp
    obtain ⟨j, hj1, hj2⟩ := pick_fin ⟨andL (b0 :: ms0) (2 ^ m - 1), by omega⟩ ⟨w, hw⟩ (by simp only; omega)
    simp only at hj1 hj2
    obtain ⟨hjm, hjb⟩ := hsub j.val ((tb_bitN _ _).1 hj1)
    have hjm' : j.val < m := by
      rw [Nat.testBit_two_pow_sub_one, decide_eq_true_eq] at hjm
      exact hjm
    obtain ⟨G, hG, hg⟩ := group_gain hq hw j.isLt hr hj2 hs (fun b hbm => ⟨(tb_bitN _ _).2 (hjb b hbm), hb b hbm⟩) hl
    have hst' := stable_sum hq hw j.isLt hr hk hj2 hG (fun a ha5 hba => by
      refine hst a j.val ?_ hjm' hba hj2
      rcases Nat.lt_or_ge a m with h | h
      · exact h
      · have h1 : w.testBit a = false := Nat.testBit_lt_two_pow (Nat.lt_of_lt_of_le hwm (Nat.pow_le_pow_right (by omega) h))
        rw [(tb_bitN w a).1 hba] at h1; cases h1)
    have hU : 1 ≤ oneW q := by unfold oneW; split <;> omega
    have h1 : (oneW q * bs.length) * l ≤ (k * G) * l := by
      have e1 : (oneW q * bs.length) * l = oneW q * (l * bs.length) := by rw [Nat.mul_assoc, Nat.mul_comm bs.length l]
      have e2 : oneW q * ((b0 :: ms0).length * k) = (oneW q * (b0 :: ms0).length) * k := (Nat.mul_assoc _ _ _).symm
      have e3 : (l * G) * k = (k * G) * l := by rw [Nat.mul_comm l G, Nat.mul_assoc, Nat.mul_comm l k, ← Nat.mul_assoc, Nat.mul_comm G k]
      calc (oneW q * bs.length) * l = oneW q * (l * bs.length) := e1
        _ ≤ oneW q * ((b0 :: ms0).length * k) := Nat.mul_le_mul_left _ hd
        _ = (oneW q * (b0 :: ms0).length) * k := e2
        _ ≤ (l * G) * k := Nat.mul_le_mul_right _ hg
        _ = (k * G) * l := e3
    have h2 : oneW q * bs.length ≤ k * G := Nat.le_of_mul_le_mul_right h1 (by omega)
    rw [Nat.add_mul, Nat.one_mul] at hst'
    have hG0 : G = 0 := by omega
    subst hG0
    have h3 := Nat.mul_le_mul hU hn
    rw [Nat.mul_zero] at h2
    omega
theorem seat32 {c : Int} {bs : List Int} {k x : Int} (h : seatedB c bs k x = true) : x.toNat < 32 := by
  obtain ⟨hS, hx, _⟩ := seated_of h
  obtain ⟨hok, _, _⟩ := seats_of hS
  have := pw_le5 c hok.1.2
  omega
/-- where no swap is better, the committee is just by someone -/
theorem stable_just {s : ByteArray} {q : Nat} {c : Int} {bs : List Int} {k x : Int} (hs : seatedB c bs k x = true) (hq : (q = 1 ∧ claimN s = 3) ∨ (q = 2 ∧ claimN s = 1)) (hk : (pc x.toNat : Int) = k)
    (hst : ∀ a b, a < c.toNat → b < c.toNat → bitN x.toNat a = 1 → bitN x.toNat b = 0 → scoreV q bs ((x.toNat ^^^ 2 ^ a) ^^^ 2 ^ b) ≤ scoreV q bs x.toNat) : justB s c bs k x = true := by
  have hx := seat32 hs
  obtain ⟨hS, hx2, _⟩ := seated_of hs
  obtain ⟨hok, hk1, hkc⟩ := seats_of hS
  obtain ⟨m, rfl⟩ := Int.eq_ofNat_of_zero_le (show 0 ≤ c from by omega)
  obtain ⟨K, rfl⟩ := Int.eq_ofNat_of_zero_le (show 0 ≤ k from by omega)
  have hm5 : m ≤ 5 := by have := hok.1; omega
  have hn1 : 1 ≤ bs.length := by have := hok.2.1.1; omega
  have hr := bal_range hok
  rw [pw_nat] at hx2
  rw [Int.toNat_natCast] at hst
  have hq3 : q ≠ 3 := by omega
  simp only [scoreV_sm hq3] at hst
  rw [just_iff (by omega) hs]
  intro l h1 h2 g hg
  rw [Bool.eq_false_iff]
  intro hbad
  rw [Int.toNat_natCast] at h2 hbad
  rw [Int.toNat_natCast] at hbad
  unfold badB at hbad
  rw [Bool.and_eq_true, due_iff] at hbad
  obtain ⟨⟨hd1, hd2⟩, hw⟩ := hbad
  have hwr : (q = 1 ∨ l = 1) ∧ ∀ b ∈ memL bs g, pc (b.toNat &&& x.toNat) < l := by
    rcases hq with ⟨e, e2⟩ | ⟨e, e2⟩
    · rw [e2, wrong3_iff h1] at hw
      exact ⟨.inl e, hw⟩
    · rw [e2, wrong1_iff] at hw
      obtain ⟨rfl, hw⟩ := hw
      exact ⟨.inr rfl, hw⟩
  exact stable_group (q := q) (m := m) (by omega) hx hm5 hr hn1 (by omega) (memL_sub bs g) h1 hwr.1 (fun a b ha hb h3 h4 => hst a b ha hb h3 h4) (by omega) hd1 hd2 hwr.2
end Go.Proofs.Ytgkaghappogglaa
