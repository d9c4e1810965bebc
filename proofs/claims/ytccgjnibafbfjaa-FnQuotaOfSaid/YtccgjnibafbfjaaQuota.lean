/- QuotaOf in the model and in the program. -/
import Derived.Test.YtccgjnibafbfjaaWant
import Derived.Test.YtccgjnibafbfjaaQuotaV
import Derived.Deep.RegionWith
import Derived.Deep.QuietTactic
import Derived.BigQuiet
import Derived.Deep.DeepCutAuto
namespace Go.Proofs.Ytccgjnibafbfjaa
open Go.RowKit Go.Joins

/-- the issues among the first k that reach their quota -/
def quotaK (vs qs : List Int) : Nat → Nat
  | 0 => 0
  | k + 1 => quotaK vs qs k + if qs.getD k 0 ≤ (supN vs k : Int) then 2 ^ k else 0
theorem quotaK_lt (vs qs : List Int) : ∀ k, quotaK vs qs k < 2 ^ k
  | 0 => by simp [quotaK]
  | k + 1 => by have := quotaK_lt vs qs k; unfold quotaK; rw [Nat.pow_succ]; split <;> omega
theorem quotaK_yes {vs qs : List Int} {k : Nat} (h : qs.getD k 0 ≤ (supN vs k : Int)) : quotaK vs qs (k + 1) = quotaK vs qs k + 2 ^ k := by rw [quotaK, if_pos h]
theorem quotaK_no {vs qs : List Int} {k : Nat} (h : ¬ qs.getD k 0 ≤ (supN vs k : Int)) : quotaK vs qs (k + 1) = quotaK vs qs k := by rw [quotaK, if_neg h]; rfl
def QuotaOk (n : Int) (zs vs qs : List Int) : Prop := vvB n zs vs = true ∧ quotasB n vs.length qs = true
instance (n : Int) (zs vs qs : List Int) : Decidable (QuotaOk n zs vs qs) := by unfold QuotaOk; infer_instance
/-- what QuotaOf answers -/
def quotaV (n : Int) (zs vs qs : List Int) : Int := if QuotaOk n zs vs qs then (quotaK vs qs n.toNat : Nat) else -1
theorem quotaV_yes {n : Int} {zs vs qs : List Int} (h : QuotaOk n zs vs qs) : quotaV n zs vs qs = (quotaK vs qs n.toNat : Nat) := if_pos h
theorem quotaV_no {n : Int} {zs vs qs : List Int} (h : ¬ QuotaOk n zs vs qs) : quotaV n zs vs qs = -1 := if_neg h

/-- a space in a variable, the votes and the quotas -/
def QV (w0 : World) (n : Int) (a : Option Addr) (zs : List Int) (cap : Nat) (l : Option Addr) (vs : List Int) (q : Option Addr) (qs : List Int) (wx : World) : Prop :=
  SV w0 n a zs cap l vs wx ∧ Ints wx q qs
theorem QV.below {w0 wx wy : World} {n : Int} {a l q : Option Addr} {zs vs qs : List Int} {cap : Nat} (h : QV w0 n a zs cap l vs q qs wx) (hb : Below wx.heap.size wx wy) : QV w0 n a zs cap l vs q qs wy :=
  ⟨h.1.below hb, h.2.below hb⟩
theorem QV.new (w : World) (n : Int) (a l q : Option Addr) (zs vs qs : List Int) (cap : Nat) (t : TypeId) (hi : Ints w a zs) (hj : Ints w l vs) (hq : Ints w q qs) : QV w n a zs cap l vs q qs (w.alloc (.cells #[.int .i64 n, .slice a zs.length cap] t)) :=
  ⟨SV.new _ _ _ _ _ _ _ _ hi hj, hq.below (bel1 _ _)⟩

set_option maxHeartbeats 4000000 in
set_option maxRecDepth 100000 in
theorem specQuotaOf_any (n : Int) (a l q : Option Addr) (cap capl capq : Nat) (zs vs qs : List Int) (w : World) (hi : Ints w a zs) (hj : Ints w l vs) (hq : Ints w q qs) (hn : zs.length ≤ 1048576) (hm : vs.length ≤ 1048576) (ho : qs.length ≤ 1048576) :
    Calls Try.prog 17 #[.agg #[.int .i64 n, .slice a zs.length cap], .slice l vs.length capl, .slice q qs.length capq] w fun e w' => e = .returned (.int .i64 (quotaV n zs vs qs)) ∧ Below w.heap.size w w' := by
  have S0 := QV.new w n a l q zs vs qs cap 25 hi hj hq
  clear hi hj hq
  by_cases hv : vsB n zs = false
  · have HN := hide (quotaV_no (qs := qs) (fun h : QuotaOk n zs vs qs => by have := h.1; rw [vvB_no hv] at this; cases this))
    go_enter Try.func17, Try.ntmps17
    go_wp2_with fail
    refine (validSpace_any _ _ _ _ _ S0.1.2.1 hn).mono ?_
    rintro e w1 ⟨rfl, hb⟩
    go_wp2
    go_ret
    exact ⟨ret_int HN.out.symm, (S0.below hb).1.2.2.2⟩
  · have hv : vsB n zs = true := by simpa using hv
    have hV := hide (valid_of hv)
    have HVV := hide (vvB_yes (vs := vs) hv)
    by_cases hvo : votesB zs vs = false
    · have HN := hide (quotaV_no (qs := qs) (fun h : QuotaOk n zs vs qs => by have := h.1; rw [HVV.out, hvo] at this; cases this))
      go_enter Try.func17, Try.ntmps17
      go_wp2_with fail
      refine (validSpace_any _ _ _ _ _ S0.1.2.1 hn).mono ?_
      rintro e w1 ⟨rfl, hb⟩
      have S1 := S0.below hb
      have ⟨⟨⟨_, c0, c1⟩, _⟩, _⟩ := S1
      go_wp2_with fail
      refine (validVotes_any _ _ _ _ _ _ _ _ S1.1.2.1 S1.1.2.2.1 hn hm).mono ?_
      rintro e w2 ⟨rfl, hb2⟩
      go_wp2
      go_ret
      exact ⟨ret_int HN.out.symm, (S1.below hb2).1.2.2.2⟩
    · have hvo : votesB zs vs = true := by simpa using hvo
      by_cases hqo : quotasB n vs.length qs = false
      · have HN := hide (quotaV_no (zs := zs) (fun h : QuotaOk n zs vs qs => by have := h.2; rw [hqo] at this; cases this))
        go_enter Try.func17, Try.ntmps17
        go_wp2_with fail
        refine (validSpace_any _ _ _ _ _ S0.1.2.1 hn).mono ?_
        rintro e w1 ⟨rfl, hb⟩
        have S1 := S0.below hb
        have ⟨⟨⟨_, c0, c1⟩, _⟩, _⟩ := S1
        go_wp2_with fail
        refine (validVotes_any _ _ _ _ _ _ _ _ S1.1.2.1 S1.1.2.2.1 hn hm).mono ?_
        rintro e w2 ⟨rfl, hb2⟩
        have S2 := S1.below hb2
        clear c0 c1
        have ⟨⟨⟨_, c0, c1⟩, _⟩, _⟩ := S2
        go_wp2_with fail
        refine (validQuotas_any _ _ _ _ _ _ _ _ _ S2.2 ho).mono ?_
        rintro e w3 ⟨rfl, hb3⟩
        go_wp2
        go_ret
        exact ⟨ret_int HN.out.symm, (S2.below hb3).1.2.2.2⟩
      · have hqo : quotasB n vs.length qs = true := by simpa using hqo
        have HN := hide (quotaV_yes (⟨HVV.out.trans hvo, hqo⟩ : QuotaOk n zs vs qs))
        have hql := (quotas_of hqo).2
        have HVO := hide (votes_of hvo)
        have HR := hide (votes_range hV.out HVO.out)
        obtain ⟨m, rfl⟩ := Int.eq_ofNat_of_zero_le (show 0 ≤ n from by have := hV.out.1; omega)
        have h4 : m ≤ 4 := by have := hV.out.1; omega
        have h5 : vs.length ≤ 5 := by have := HVO.out.2; omega
        have HQM : Hid (qs.length = m) := by unfold Hid; omega
        clear hql
        go_enter Try.func17, Try.ntmps17
        go_wp2_with fail
        refine (validSpace_any _ _ _ _ _ S0.1.2.1 hn).mono ?_
        rintro e w1 ⟨rfl, hb⟩
        have S1 := S0.below hb
        have ⟨⟨⟨_, c0, c1⟩, _⟩, _⟩ := S1
        go_wp2_with fail
        refine (validVotes_any _ _ _ _ _ _ _ _ S1.1.2.1 S1.1.2.2.1 hn hm).mono ?_
        rintro e w2 ⟨rfl, hb2⟩
        have S2 := S1.below hb2
        clear c0 c1
        have ⟨⟨⟨_, c0, c1⟩, _⟩, _⟩ := S2
        go_wp2_with fail
        refine (validQuotas_any _ _ _ _ _ _ _ _ _ S2.2 ho).mono ?_
        rintro e w3 ⟨rfl, hb3⟩
        have S3 := S2.below hb3
        clear c0 c1 S0 S1 S2 hb hb2 hb3
        go_wp2_with fail
        go_loopw [7, 8] (fun o i wr => ∃ k : Nat, k ≤ m ∧ i = .int .i64 k ∧ o = .int .i64 (quotaK vs qs k : Nat) ∧ QV w m a zs cap l vs q qs wr) (fun _ i _ => m - (intOf i).toNat)
        case atStart => exact ⟨0, Nat.zero_le _, rfl, rfl, S3⟩
        case round =>
          clear S3
          obtain ⟨k, hk, rfl, rfl, SR⟩ := hrel
          have ⟨⟨⟨_, c0, c1⟩, _, il, _⟩, iq⟩ := SR
          by_cases hlt : k < m
          · obtain ⟨b, off, rfl, hbl, hc⟩ := iq (by have := HQM.out; omega)
            have hck := hc k (by have := HQM.out; omega)
            rw [getD_lt (show k < qs.length from by have := HQM.out; omega)] at hck
            have hkq : k < qs.length := by have := HQM.out; omega
            have hp := pw_nat k
            have hpb := pow_small k (by omega)
            have hs := supN_le vs k
            have hbl4 := quotaK_lt vs qs k
            have hb16 : quotaK vs qs k ≤ 16 := Nat.le_trans (Nat.le_of_lt hbl4) (Nat.pow_le_pow_right (n := 2) (by omega) (show k ≤ 4 from by omega))
            clear hbl4 hc iq
            by_cases hge : qs.getD k 0 ≤ (supN vs k : Int)
            · have HK := hide (quotaK_yes hge)
              have hge' : qs[k]'hkq ≤ (supN vs k : Int) := by rwa [getD_lt hkq] at hge
              have hdec : decide (qs[k]'hkq ≤ (supN vs k : Int)) = true := by simpa using hge'
              clear hge hge'
              go_wp2_with fail
              go_quiet ((go_at_call 70; exact quiet_left (support_any _ _ _ _ _ (il.below (belN _ _)) hm HR.out (by omega))))
              go_wp2_with (go_at_call 71; refine (power_any _ _ (by omega) (by omega)).mono ?_; rintro e w' ⟨rfl, rfl⟩)
              go_roundw
              case rel => exact ⟨k + 1, by omega, by go_num, by rw [HK.out, Int.natCast_add, pow_cast], SR.below (belN _ _)⟩
              case measure => simp only [intOf]; omega
            · have HK := hide (quotaK_no hge)
              have hge' : ¬ qs[k]'hkq ≤ (supN vs k : Int) := by rwa [getD_lt hkq] at hge
              have hdec : decide (qs[k]'hkq ≤ (supN vs k : Int)) = false := by simpa using hge'
              clear hge hge'
              go_wp2_with fail
              go_quiet ((go_at_call 70; exact quiet_left (support_any _ _ _ _ _ (il.below (belN _ _)) hm HR.out (by omega))))
              go_wp2
              go_roundw
              case rel => exact ⟨k + 1, by omega, by go_num, by rw [HK.out], SR.below (belN _ _)⟩
              case measure => simp only [intOf]; omega
          · obtain rfl : k = m := by omega
            go_wp2
            go_ret
            exact ⟨ret_int (by rw [HN.out, Int.toNat_natCast]), SR.1.2.2.2⟩

set_option maxHeartbeats 4000000 in
set_option maxRecDepth 100000 in
theorem implQuotaOf_any (n : Int) (a l q : Option Addr) (cap capl capq : Nat) (zs vs qs : List Int) (w : World) (hi : Ints w a zs) (hj : Ints w l vs) (hq : Ints w q qs) (hn : zs.length ≤ 1048576) (hm : vs.length ≤ 1048576) (ho : qs.length ≤ 1048576) :
    Calls Try.prog 16 #[.agg #[.int .i64 n, .slice a zs.length cap], .slice l vs.length capl, .slice q qs.length capq] w fun e w' => e = .returned (.int .i64 (quotaV n zs vs qs)) ∧ Below w.heap.size w w' := by
  have S0 := QV.new w n a l q zs vs qs cap 25 hi hj hq
  clear hi hj hq
  by_cases hv : vvB n zs vs = false
  · have HN := hide (quotaV_no (qs := qs) (fun h : QuotaOk n zs vs qs => by have := h.1; rw [hv] at this; cases this))
    go_enter Try.func16, Try.ntmps16
    go_wp2_with fail
    refine (implValidVotes_any _ _ _ _ _ _ _ _ S0.1.2.1 S0.1.2.2.1 hn hm).mono ?_
    rintro e w1 ⟨rfl, hb⟩
    go_wp2
    go_ret
    exact ⟨ret_int HN.out.symm, (S0.below hb).1.2.2.2⟩
  · have hv : vvB n zs vs = true := by simpa using hv
    have hV := hide (vv_of hv)
    by_cases hqo : quotasB n vs.length qs = false
    · have HN := hide (quotaV_no (zs := zs) (fun h : QuotaOk n zs vs qs => by have := h.2; rw [hqo] at this; cases this))
      go_enter Try.func16, Try.ntmps16
      go_wp2_with fail
      refine (implValidVotes_any _ _ _ _ _ _ _ _ S0.1.2.1 S0.1.2.2.1 hn hm).mono ?_
      rintro e w1 ⟨rfl, hb⟩
      have S1 := S0.below hb
      have ⟨⟨⟨_, c0, c1⟩, _⟩, _⟩ := S1
      go_wp2_with fail
      refine (implValidQuotas_any _ _ _ _ _ _ _ _ _ S1.2 ho).mono ?_
      rintro e w2 ⟨rfl, hb2⟩
      go_wp2
      go_ret
      exact ⟨ret_int HN.out.symm, (S1.below hb2).1.2.2.2⟩
    · have hqo : quotasB n vs.length qs = true := by simpa using hqo
      have HN := hide (quotaV_yes (⟨hv, hqo⟩ : QuotaOk n zs vs qs))
      have HSA := hide (supA_yes hv)
      have hql := (quotas_of hqo).2
      obtain ⟨m, rfl⟩ := Int.eq_ofNat_of_zero_le (show 0 ≤ n from by have := hV.out.1.1; omega)
      have h4 : m ≤ 4 := by have := hV.out.1.1; omega
      have HQM : Hid (qs.length = m) := by unfold Hid; omega
      clear hql
      go_enter Try.func16, Try.ntmps16
      go_wp2_with fail
      refine (implValidVotes_any _ _ _ _ _ _ _ _ S0.1.2.1 S0.1.2.2.1 hn hm).mono ?_
      rintro e w1 ⟨rfl, hb⟩
      have S1 := S0.below hb
      have ⟨⟨⟨_, c0, c1⟩, _⟩, _⟩ := S1
      go_wp2_with fail
      refine (implValidQuotas_any _ _ _ _ _ _ _ _ _ S1.2 ho).mono ?_
      rintro e w2 ⟨rfl, hb2⟩
      have S2 := S1.below hb2
      clear c0 c1 S0 S1 hb hb2
      have ⟨⟨⟨_, c0, c1⟩, _⟩, _⟩ := S2
      go_wp2_with fail
      refine (implSupportOf_any _ _ _ _ _ _ _ _ S2.1.2.1 S2.1.2.2.1 hn hm).mono ?_
      rintro e w3 ⟨v, rfl, ov, hb3⟩
      rw [HSA.out, Int.toNat_natCast] at ov
      obtain ⟨av, cv, rfl, iv, _⟩ := ov.form
      have hl := supL_length m vs
      rw [hl]
      have S3 := S2.below hb3
      clear c0 c1 S2 hb3 ov hl
      obtain ⟨wo, hwo⟩ : ∃ wo : World, wo = w3 := ⟨_, rfl⟩
      subst hwo
      go_wp2_with fail
      go_loop [7, 26] (fun o i => ∃ k : Nat, k ≤ m ∧ i = .int .i64 k ∧ o = .int .i64 (quotaK vs qs k : Nat)) (fun _ i => m - (intOf i).toNat)
      case atStart => exact ⟨0, Nat.zero_le _, rfl, rfl⟩
      case round =>
        obtain ⟨k, hk, rfl, rfl⟩ := hrel
        by_cases hlt : k < m
        · have hlt' : k < (supL m vs).length := by rw [supL_length]; exact hlt
          obtain ⟨b, off, rfl, hbl, hc⟩ := S3.2 (by have := HQM.out; omega)
          have hck := hc k (by have := HQM.out; omega)
          rw [getD_lt (show k < qs.length from by have := HQM.out; omega)] at hck
          obtain ⟨b2, off2, rfl, hbl2, hc2⟩ := iv (by omega)
          have hsk : wo.cell? ⟨b2, off2 + k, none⟩ = some (.int .i64 (supN vs k : Nat)) := by
            rw [hc2 k hlt']
            unfold supL
            rw [supKL_getD m vs vs.length k hlt]
            rfl
          have hkq : k < qs.length := by have := HQM.out; omega
          have hs := supN_le vs k
          have hw2 := wrap_pow2 k (by omega)
          have ho1 := or_digit (quotaK vs qs k) k (by omega) (quotaK_lt vs qs k)
          have HS3 := hide S3
          clear hc hc2 iv hlt' S3
          by_cases hge : qs.getD k 0 ≤ (supN vs k : Int)
          · have HK := hide (quotaK_yes hge)
            have hge' : qs[k]'hkq ≤ (supN vs k : Int) := by rwa [getD_lt hkq] at hge
            clear hge
            go_wp2
            go_round
            case rel => exact ⟨k + 1, by omega, by go_num, by rw [HK.out, Int.natCast_add, pow_cast]⟩
            case measure => simp only [intOf]; omega
          · have HK := hide (quotaK_no hge)
            have hge' : ¬ qs[k]'hkq ≤ (supN vs k : Int) := by rwa [getD_lt hkq] at hge
            clear hge
            go_wp2
            go_round
            case rel => exact ⟨k + 1, by omega, by go_num, by rw [HK.out]⟩
            case measure => simp only [intOf]; omega
        · obtain rfl : k = m := by omega
          go_wp2
          go_ret
          exact ⟨ret_int (by rw [HN.out, Int.toNat_natCast]), S3.1.2.2.2⟩
end Go.Proofs.Ytccgjnibafbfjaa
