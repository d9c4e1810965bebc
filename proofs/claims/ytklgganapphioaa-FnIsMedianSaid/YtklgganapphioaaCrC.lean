/- The least median space and the small critical parts. Plain mathematics. -/
import Derived.Test.YtklgganapphioaaCrN
namespace Go.Proofs.Ytklgganapphioaa
open Go.RowKit Go.Joins

theorem cloK_sub (f : Nat → Nat → Nat → Nat) : ∀ (k : Nat) (l : List Nat), (∀ x ∈ l, x < 16) → ∀ x ∈ l, x ∈ cloK f k l
  | 0, l, hl, x, hx => sub_joined f l hl x hx
  | k + 1, l, hl, x, hx => by
    rw [cloK]
    split
    · exact sub_joined f l hl x hx
    · exact cloK_sub f k (joined f l) (joined_lt f l) x (sub_joined f l hl x hx)
theorem joined_in {f : Nat → Nat → Nat → Nat} (J : Join f) {T : Nat → Prop} (hT : ∀ a b c, T a → T b → T c → T (f a b c)) {l : List Nat} (hl : ∀ x ∈ l, x < 16) (h : ∀ x ∈ l, T x) : ∀ x ∈ joined f l, T x := fun x hx => by
  obtain ⟨i, j, k, hi, hj, hk, rfl⟩ := (mem_joined J l hl x).1 hx
  exact hT _ _ _ (h _ (mem_getD hi)) (h _ (mem_getD hj)) (h _ (mem_getD hk))
theorem cloK_min {f : Nat → Nat → Nat → Nat} (J : Join f) {T : Nat → Prop} (hT : ∀ a b c, T a → T b → T c → T (f a b c)) : ∀ (k : Nat) (l : List Nat), (∀ x ∈ l, x < 16) → (∀ x ∈ l, T x) → ∀ x ∈ cloK f k l, T x
  | 0, l, hl, h, x, hx => joined_in J hT hl h x hx
  | k + 1, l, hl, h, x, hx => by
    rw [cloK] at hx
    split at hx
    · exact joined_in J hT hl h x hx
    · exact cloK_min J hT k (joined f l) (joined_lt f l) (joined_in J hT hl h) x hx
theorem joined_same {f : Nat → Nat → Nat → Nat} (J : Join f) {l : List Nat} (ha : Asc l) (hl : ∀ x ∈ l, x < 16) (h : (joined f l).length = l.length) : joined f l = l :=
  asc_ext _ _ (joined_asc f l) ha (fun x => ⟨fun hx => (joined_len_iff J l ha hl).1 h x ((mem_joined J l hl x).1 hx), sub_joined f l hl x⟩)
theorem cloK_closed {f : Nat → Nat → Nat → Nat} (J : Join f) : ∀ (k : Nat) (l : List Nat), Asc l → (∀ x ∈ l, x < 16) → 16 - l.length ≤ k → (joined f (cloK f k l)).length = (cloK f k l).length
  | 0, l, ha, hl, hk => by
    have h1 := joined_ge f l ha hl
    have h2 := joined_le f l
    have h3 := joined_ge f (joined f l) (joined_asc f l) (joined_lt f l)
    have h4 := joined_le f (joined f l)
    show (joined f (joined f l)).length = (joined f l).length
    omega
  | k + 1, l, ha, hl, hk => by
    rw [cloK]
    split
    · rename_i h
      rw [joined_same J ha hl h, h]
    · rename_i h
      have h1 := joined_ge f l ha hl
      exact cloK_closed J k (joined f l) (joined_asc f l) (joined_lt f l) (by omega)
theorem cloK_asc (f : Nat → Nat → Nat → Nat) : ∀ (k : Nat) (l : List Nat), Asc (cloK f k l)
  | 0, l => joined_asc f l
  | k + 1, l => by
    rw [cloK]
    split
    · exact joined_asc f l
    · exact cloK_asc f k _
theorem valid_ofAsc {N : Nat} (hN : 1 ≤ N ∧ N ≤ 4) {l : List Nat} (ha : Asc l) (hl : ∀ x ∈ l, x < 2 ^ N) (hp : 0 < l.length) : Valid (N : Int) (l.map fun (t : Nat) => (t : Int)) := by
  have e : pw (N : Int) = ((2 ^ N : Nat) : Int) := by unfold pw; rw [Int.toNat_natCast]
  refine ⟨by omega, by rw [List.length_map]; exact hp, fun i hi => ?_⟩
  rw [List.length_map] at hi
  refine ⟨?_, fun h0 => ?_⟩
  · rw [getD_lt (by rw [List.length_map]; exact hi), List.getElem_map]
    have := hl _ (List.getElem_mem hi)
    omega
  · rw [getD_lt (k := i) (by rw [List.length_map]; exact hi), getD_lt (k := i - 1) (by rw [List.length_map]; omega), List.getElem_map, List.getElem_map]
    have := List.pairwise_iff_getElem.1 ha (i - 1) i (show i - 1 < l.length from by omega) hi (by omega)
    omega
section
variable {f : Nat → Nat → Nat → Nat} {N : Nat} {zs : List Int}
theorem clo_mem (hV : Valid (N : Int) zs) {x : Nat} (h : (x : Int) ∈ zs) : (x : Int) ∈ cloT f zs := by
  have hm : x ∈ zs.map Int.toNat := List.mem_map.2 ⟨_, h, by simp⟩
  unfold cloT
  exact List.mem_map.2 ⟨x, cloK_sub f _ _ (valid_nat hV).2 x hm, rfl⟩
theorem clo_valid (J : Join f) (hf : ∀ x y z, x < 2 ^ N → y < 2 ^ N → z < 2 ^ N → f x y z < 2 ^ N) (hV : Valid (N : Int) zs) : Valid (N : Int) (cloT f zs) := by
  have hN := hV.1
  refine valid_ofAsc (by omega) (cloK_asc f _ _) (cloK_min J hf _ _ (valid_nat hV).2 (fun x hx => ?_)) ?_
  · obtain ⟨z, hz, rfl⟩ := List.mem_map.1 hx
    exact (valid_lt hV hz).2
  · have hpos := hV.2.1
    have hm : zs[0].toNat ∈ zs.map Int.toNat := List.mem_map.2 ⟨zs[0], List.getElem_mem hpos, rfl⟩
    exact List.length_pos_of_mem (cloK_sub f _ _ (valid_nat hV).2 _ hm)
theorem clo_closed (J : Join f) (hf : ∀ x y z, x < 2 ^ N → y < 2 ^ N → z < 2 ^ N → f x y z < 2 ^ N) (hV : Valid (N : Int) zs) : closedB f (N : Int) (cloT f zs) = true := by
  have h1 := clo_valid J hf hV
  unfold closedB
  rw [vsB_true h1, Bool.true_and, beq_iff_eq]
  unfold cloT
  rw [cast_toNat, List.length_map]
  exact cloK_closed J _ _ (valid_nat hV).1 (valid_nat hV).2 (by rw [List.length_map]; exact Nat.le_refl _)
/-- the closure is the space itself exactly if that is closed -/
theorem clo_self (J : Join f) (hf : ∀ x y z, x < 2 ^ N → y < 2 ^ N → z < 2 ^ N → f x y z < 2 ^ N) (hV : Valid (N : Int) zs) : decide (cloT f zs = zs) = closedB f (N : Int) zs := by
  rw [Bool.eq_iff_iff, decide_eq_true_iff]
  constructor
  · intro h
    have := clo_closed J hf hV
    rwa [h] at this
  · intro h
    unfold closedB at h
    rw [vsB_true hV, Bool.true_and, beq_iff_eq] at h
    have hl : (zs.map Int.toNat).length = zs.length := List.length_map _
    have e := joined_same J (valid_nat hV).1 (valid_nat hV).2 (by omega)
    unfold cloT
    rw [clo_stop (by omega), e, List.map_map]
    refine (List.map_congr_left (fun z hz => ?_)).trans (List.map_id zs)
    have h1 := valid_lt hV hz
    show ((z.toNat : Nat) : Int) = z
    omega
end
theorem medlt (N : Nat) : ∀ x y z, x < 2 ^ N → y < 2 ^ N → z < 2 ^ N → med x y z < 2 ^ N := fun x y z _ hy hz => by
  unfold med
  exact Nat.or_lt_two_pow (Nat.or_lt_two_pow (Nat.and_lt_two_pow _ hy) (Nat.and_lt_two_pow _ hz)) (Nat.and_lt_two_pow _ hz)
/-- the critical parts that answer at most two issues -/
def critS (n : Nat) (zs : List Int) : List (Nat × Nat) := (critL n zs).filter fun m => decide (wt m.1 ≤ 2)
theorem small_clo {N : Nat} {zs : List Int} (hV : Valid (N : Int) zs) : swK (ofP (critS N zs)) (2 ^ N) = cloT med zs := by
  have hn : N ≤ 4 := by have := hV.1; omega
  have p2 : 2 ^ N ≤ 16 := Nat.pow_le_pow_right (n := 2) (by omega) hn
  have hC := clo_valid join_med (medlt N) hV
  have hcl := clo_closed join_med (medlt N) hV
  refine swK_of hC (fun x hx => ?_)
  rw [free_of, List.all_eq_true]
  constructor
  · intro hfree
    rw [← opn_full hC hx]
    rcases Bool.eq_false_or_eq_true (opn (cloT med zs) (2 ^ N - 1, x)) with h | h
    · exact h
    · exfalso
      rw [opn_crit hn _ (full_mem hn hx), Bool.not_eq_false', List.any_eq_true] at h
      obtain ⟨p, hp, hs⟩ := h
      rw [median_small hC, List.all_eq_true] at hcl
      have hw := hcl p hp
      rw [decide_eq_true_iff] at hw
      have hpo := (crit_mem.1 hp).1
      have hno : opn (cloT med zs) p = false := (cr_iff.1 (crit_mem.1 hp).2).1
      have hnz : opn zs p = false := by
        rcases Bool.eq_false_or_eq_true (opn zs p) with h1 | h1
        · exfalso
          obtain ⟨z, hz, e⟩ := opn_iff.1 h1
          have hz0 := valid_lt hV hz
          have hz' : ((z.toNat : Nat) : Int) ∈ zs := by rw [Int.toNat_of_nonneg hz0.1]; exact hz
          have : opn (cloT med zs) p = true := opn_iff.2 ⟨_, clo_mem hV hz', by rw [Int.toNat_natCast]; exact e⟩
          rw [this] at hno
          cases hno
        · exact h1
      obtain ⟨m, hm, hc, hsm⟩ := cr_ex hn zs _ p hpo (Nat.le_refl _) hnz
      have hwm : wt m.1 ≤ 2 := by
        by_cases e : m = p
        · rw [e]; exact hw
        · have := (sub_facts hn hpo hm hsm e).1
          omega
      have hmS : m ∈ critS N zs := List.mem_filter.2 ⟨crit_mem.2 ⟨hm, hc⟩, by simpa using hwm⟩
      have h1 := hfree m hmS
      have h2 := subP_trans hsm hs
      rw [sub_full (ord_facts hn hm).1] at h2
      rw [h2] at h1
      cases h1
  · intro hx' m hm
    obtain ⟨hmc, hw⟩ := List.mem_filter.1 hm
    rw [decide_eq_true_iff] at hw
    obtain ⟨_, _, ho, h16, _⟩ := crit_pt hV hmc
    have hno : opn zs m = false := ho
    have hT : ∀ y ∈ clo med (zs.map Int.toNat), y < 16 ∧ y &&& m.1 ≠ m.2 := by
      refine cloK_min join_med (T := fun y => y < 16 ∧ y &&& m.1 ≠ m.2) (fun a b c ha hb hc => ⟨join_med.lt _ _ _ ha.1 hb.1 hc.1, fun e => ?_⟩) _ _ (valid_nat hV).2 (fun y hy => ?_)
      · rcases med_two h16 hw ha.1 hb.1 hc.1 with e1 | e1 | e1
        · exact ha.2 (e1.symm.trans e)
        · exact hb.2 (e1.symm.trans e)
        · exact hc.2 (e1.symm.trans e)
      · refine ⟨(valid_nat hV).2 y hy, fun e => ?_⟩
        obtain ⟨z, hz, rfl⟩ := List.mem_map.1 hy
        have : opn zs m = true := opn_iff.2 ⟨z, hz, e⟩
        rw [this] at hno
        cases hno
    unfold cloT at hx'
    obtain ⟨y, hy, e⟩ := List.mem_map.1 hx'
    obtain rfl : y = x := by omega
    have := (hT y hy).2
    simpa using this
theorem sw_yes {N : Nat} {zs : List Int} (hV : Valid (N : Int) zs) {L : List (Nat × Nat)} (hL : ∀ m ∈ L, m ∈ critL N zs) (hl : L.length ≤ 10) {C : List Int} (hC : swK (ofP L) (2 ^ N) = C) (hp : 0 < C.length) : swN (N : Int) (ofP L) = N ∧ swL (N : Int) (ofP L) = C ∧ swB (N : Int) (ofP L) = true := by
  have hy : SwYes (N : Int) (ofP L) := by
    refine ⟨⟨hV.1, by unfold ofP; rw [List.length_map]; exact hl, fun j hj => ?_⟩, by rw [Int.toNat_natCast, hC]; omega⟩
    have hj' : j < L.length := by unfold ofP at hj; rwa [List.length_map] at hj
    have h1 := (crit_pt hV (hL _ (List.getElem_mem hj'))).2.1
    have e : (ofP L).getD j (0, 0) = ((L[j].1 : Int), (L[j].2 : Int)) := by
      unfold ofP
      rw [List.getD_eq_getElem?_getD, List.getElem?_map, List.getElem?_eq_getElem hj']
      rfl
    rw [e]
    exact h1
  unfold swN swL swB
  rw [if_pos hy, if_pos hy, Int.toNat_natCast, hC]
  exact ⟨rfl, rfl, decide_eq_true hy⟩
end Go.Proofs.Ytklgganapphioaa
