/- The least median space and the small critical parts. Plain mathematics. -/
import Derived.Test.YtklgganapphioaaCrN
namespace Go.Proofs.Ytklgganapphioaa
open Go.RowKit Go.Joins

theorem medlt (N : Nat) : ∀ x y z, x < 2 ^ N → y < 2 ^ N → z < 2 ^ N → med x y z < 2 ^ N := fun x y z _ hy hz => by
  unfold med
  exact Nat.or_lt_two_pow (Nat.or_lt_two_pow (Nat.and_lt_two_pow _ hy) (Nat.and_lt_two_pow _ hz)) (Nat.and_lt_two_pow _ hz)
/-- the critical parts that answer at most two issues -/
def critS (n : Nat) (zs : List Int) : List (Nat × Nat) := (critL n zs).filter fun m => decide (wt m.1 ≤ 2)
theorem small_clo {N : Nat} {zs : List Int} (hV : Valid (N : Int) zs) : swK (ofP (critS N zs)) (2 ^ N) = cloT med zs := by
  have hn : N ≤ 4 := by have := hV.1; omega
  have p2 : 2 ^ N ≤ 16 := Nat.pow_le_pow_right (n := 2) (by omega) hn
  have hC := clo_valid join_med (medlt N) hV
  have hcl := clo_closed join_med (medlt N) hV
  refine swK_of hC (fun x hx => ?_)
  rw [free_of, List.all_eq_true]
  constructor
  · intro hfree
    rw [← opn_full hC hx]
    rcases Bool.eq_false_or_eq_true (opn (cloT med zs) (2 ^ N - 1, x)) with h | h
    · exact h
    · exfalso
      rw [opn_crit hn _ (full_mem hn hx), Bool.not_eq_false', List.any_eq_true] at h
      obtain ⟨p, hp, hs⟩ := h
      rw [median_small hC, List.all_eq_true] at hcl
      have hw := hcl p hp
      rw [decide_eq_true_iff] at hw
      have hpo := (crit_mem.1 hp).1
      have hno : opn (cloT med zs) p = false := (cr_iff.1 (crit_mem.1 hp).2).1
      have hnz : opn zs p = false := by
        rcases Bool.eq_false_or_eq_true (opn zs p) with h1 | h1
        · exfalso
          obtain ⟨z, hz, e⟩ := opn_iff.1 h1
          have hz0 := valid_lt hV hz
          have hz' : ((z.toNat : Nat) : Int) ∈ zs := by rw [Int.toNat_of_nonneg hz0.1]; exact hz
          have : opn (cloT med zs) p = true := opn_iff.2 ⟨_, clo_mem hV hz', by rw [Int.toNat_natCast]; exact e⟩
          rw [this] at hno
          cases hno
        · exact h1
      obtain ⟨m, hm, hc, hsm⟩ := cr_ex hn zs _ p hpo (Nat.le_refl _) hnz
      have hwm : wt m.1 ≤ 2 := by
        by_cases e : m = p
        · rw [e]; exact hw
        · have := (sub_facts hn hpo hm hsm e).1
          omega
      have hmS : m ∈ critS N zs := List.mem_filter.2 ⟨crit_mem.2 ⟨hm, hc⟩, by simpa using hwm⟩
      have h1 := hfree m hmS
      have h2 := subP_trans hsm hs
      rw [sub_full (ord_facts hn hm).1] at h2
      rw [h2] at h1
      cases h1
  · intro hx' m hm
    obtain ⟨hmc, hw⟩ := List.mem_filter.1 hm
    rw [decide_eq_true_iff] at hw
    obtain ⟨_, _, ho, h16, _⟩ := crit_pt hV hmc
    have hno : opn zs m = false := ho
    have hT : ∀ y ∈ clo med (zs.map Int.toNat), y < 16 ∧ y &&& m.1 ≠ m.2 := by
      refine cloK_min join_med (T := fun y => y < 16 ∧ y &&& m.1 ≠ m.2) (fun a b c ha hb hc => ⟨join_med.lt _ _ _ ha.1 hb.1 hc.1, fun e => ?_⟩) _ _ (valid_nat hV).2 (fun y hy => ?_)
      · rcases med_two h16 hw ha.1 hb.1 hc.1 with e1 | e1 | e1
        · exact ha.2 (e1.symm.trans e)
        · exact hb.2 (e1.symm.trans e)
        · exact hc.2 (e1.symm.trans e)
      · refine ⟨(valid_nat hV).2 y hy, fun e => ?_⟩
        obtain ⟨z, hz, rfl⟩ := List.mem_map.1 hy
        have : opn zs m = true := opn_iff.2 ⟨z, hz, e⟩
        rw [this] at hno
        cases hno
    unfold cloT at hx'
    obtain ⟨y, hy, e⟩ := List.mem_map.1 hx'
    obtain rfl : y = x := by omega
    have := (hT y hy).2
    simpa using this
theorem sw_yes {N : Nat} {zs : List Int} (hV : Valid (N : Int) zs) {L : List (Nat × Nat)} (hL : ∀ m ∈ L, m ∈ critL N zs) (hl : L.length ≤ 10) {C : List Int} (hC : swK (ofP L) (2 ^ N) = C) (hp : 0 < C.length) : swN (N : Int) (ofP L) = N ∧ swL (N : Int) (ofP L) = C ∧ swB (N : Int) (ofP L) = true := by
  have hy : SwYes (N : Int) (ofP L) := by
    refine ⟨⟨hV.1, by unfold ofP; rw [List.length_map]; exact hl, fun j hj => ?_⟩, by rw [Int.toNat_natCast, hC]; omega⟩
    have hj' : j < L.length := by unfold ofP at hj; rwa [List.length_map] at hj
    have h1 := (crit_pt hV (hL _ (List.getElem_mem hj'))).2.1
    have e : (ofP L).getD j (0, 0) = ((L[j].1 : Int), (L[j].2 : Int)) := by
      unfold ofP
      rw [List.getD_eq_getElem?_getD, List.getElem?_map, List.getElem?_eq_getElem hj']
      rfl
    rw [e]
    exact h1
  unfold swN swL swB
  rw [if_pos hy, if_pos hy, Int.toNat_natCast, hC]
  exact ⟨rfl, rfl, decide_eq_true hy⟩
end Go.Proofs.Ytklgganapphioaa
