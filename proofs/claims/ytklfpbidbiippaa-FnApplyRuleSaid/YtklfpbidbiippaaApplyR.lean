/- ApplyRule, in the model and in the program. -/
import Derived.Test.YtklfpbidbiippaaApply
namespace Go.Proofs.Ytklfpbidbiippaa
open Go.RowKit Go.Joins

def ApplyOk (n : Int) (zs : List Int) (v : Int) (ws vs : List Int) : Prop := vrB n zs v ws = true ∧ votesB zs vs = true ∧ (vs.length : Int) = v
instance (n : Int) (zs : List Int) (v : Int) (ws vs : List Int) : Decidable (ApplyOk n zs v ws vs) := by unfold ApplyOk; infer_instance
/-- what ApplyRule answers -/
def applyR (n : Int) (zs : List Int) (v : Int) (ws vs : List Int) : Int := if ApplyOk n zs v ws vs then (applyK vs ws ws.length : Nat) else -1
theorem applyR_yes {n v : Int} {zs ws vs : List Int} (h : ApplyOk n zs v ws vs) : applyR n zs v ws vs = (applyK vs ws ws.length : Nat) := if_pos h
theorem applyR_no {n v : Int} {zs ws vs : List Int} (h : ¬ ApplyOk n zs v ws vs) : applyR n zs v ws vs = -1 := if_neg h
theorem vote_range {n : Int} {zs vs : List Int} (h : Valid n zs) (ho : VotesOk zs vs) : ∀ x ∈ vs, 0 ≤ x ∧ x ≤ 255 := fun x hx => by
  have := valid_range h x (ho.mem x hx)
  omega

set_option maxHeartbeats 4000000 in
theorem specApplyRule_any (n v : Int) (a b l : Option Addr) (cap capb capl : Nat) (zs ws vs : List Int) (w : World) (hi : Ints w a zs) (hj : Ints w b ws) (hl : Ints w l vs) (hn : zs.length ≤ 1048576) (hm : ws.length ≤ 1048576) (ho : vs.length ≤ 1048576) :
    Calls Try.prog 47 #[.agg #[.int .i64 n, .slice a zs.length cap], .agg #[.int .i64 v, .slice b ws.length capb], .slice l vs.length capl] w fun e w' => e = .returned (.int .i64 (applyR n zs v ws vs)) ∧ Below w.heap.size w w' := by
  have S0 := SRV.new w n v a b l zs ws vs cap capb 25 41 hi hj hl
  clear hi hj hl
  by_cases hv : vsB n zs = false
  · have HV := hide (applyR_no (vs := vs) (fun h : ApplyOk n zs v ws vs => by have := h.1; rw [vrB_no hv] at this; cases this))
    go_enter Try.func47, Try.ntmps47
    go_wp2_with fail
    refine (validSpace_any _ _ _ _ _ S0.1.2.2.1 hn).mono ?_
    rintro e w1 ⟨rfl, hb⟩
    go_wp2
    go_ret
    exact ⟨ret_int HV.out.symm, (S0.below hb).1.2.2.2.2⟩
  · have hv : vsB n zs = true := by simpa using hv
    by_cases hr : ruleB n v ws = false
    · have HV := hide (applyR_no (vs := vs) (fun h : ApplyOk n zs v ws vs => by have := h.1; rw [vrB_yes hv, hr] at this; cases this))
      go_enter Try.func47, Try.ntmps47
      go_wp2_with fail
      refine (validSpace_any _ _ _ _ _ S0.1.2.2.1 hn).mono ?_
      rintro e w1 ⟨rfl, hb⟩
      have S1 := S0.below hb
      have HS := hide S1
      clear S0 hb
      obtain ⟨⟨⟨_, c0, c1⟩, ⟨_, d0, d1⟩, _⟩, _⟩ := S1
      go_wp2_with fail
      refine (validRule_any _ _ _ _ _ _ _ _ _ HS.out.1.2.2.1 HS.out.1.2.2.2.1 hm).mono ?_
      rintro e w2 ⟨rfl, hb2⟩
      go_wp2
      go_ret
      exact ⟨ret_int HV.out.symm, (HS.out.below hb2).1.2.2.2.2⟩
    · have hr : ruleB n v ws = true := by simpa using hr
      have HVR := hide ((vrB_yes (v := v) (ws := ws) hv).trans hr)
      by_cases hlv : (vs.length : Int) = v
      · have hE : ((vs.length : Int) != v) = false := by simpa using hlv
        have HLV := hide hlv
        clear hlv
        by_cases hvo : votesB zs vs = false
        · have HV := hide (applyR_no (vs := vs) (fun h : ApplyOk n zs v ws vs => by have := h.2.1; rw [hvo] at this; cases this))
          go_enter Try.func47, Try.ntmps47
          go_wp2_with fail
          refine (validSpace_any _ _ _ _ _ S0.1.2.2.1 hn).mono ?_
          rintro e w1 ⟨rfl, hb⟩
          have S1 := S0.below hb
          have HS := hide S1
          clear S0 hb
          obtain ⟨⟨⟨_, c0, c1⟩, ⟨_, d0, d1⟩, _⟩, _⟩ := S1
          go_wp2_with fail
          refine (validRule_any _ _ _ _ _ _ _ _ _ HS.out.1.2.2.1 HS.out.1.2.2.2.1 hm).mono ?_
          rintro e w2 ⟨rfl, hb2⟩
          have S2 := HS.out.below hb2
          have HS2 := hide S2
          clear c0 c1 d0 d1 HS hb2
          obtain ⟨⟨⟨_, c0, c1⟩, ⟨_, d0, d1⟩, _⟩, _⟩ := S2
          go_wp2_with fail
          refine (validVotes_any _ _ _ _ _ _ _ _ HS2.out.1.2.2.1 HS2.out.2 hn ho).mono ?_
          rintro e w3 ⟨rfl, hb3⟩
          go_wp2
          go_ret
          exact ⟨ret_int HV.out.symm, (HS2.out.below hb3).1.2.2.2.2⟩
        · have hvo : votesB zs vs = true := by simpa using hvo
          have HV := hide (applyR_yes (⟨HVR.out, hvo, HLV.out⟩ : ApplyOk n zs v ws vs))
          have HRO := hide (rule_of hr)
          have HVA := hide (valid_of hv)
          have HVX := hide (vote_range (valid_of hv) (votes_of hvo))
          go_enter Try.func47, Try.ntmps47
          go_wp2_with fail
          refine (validSpace_any _ _ _ _ _ S0.1.2.2.1 hn).mono ?_
          rintro e w1 ⟨rfl, hb⟩
          have S1 := S0.below hb
          have HS := hide S1
          clear S0 hb
          obtain ⟨⟨⟨_, c0, c1⟩, ⟨_, d0, d1⟩, _⟩, _⟩ := S1
          go_wp2_with fail
          refine (validRule_any _ _ _ _ _ _ _ _ _ HS.out.1.2.2.1 HS.out.1.2.2.2.1 hm).mono ?_
          rintro e w2 ⟨rfl, hb2⟩
          have S2 := HS.out.below hb2
          have HS2 := hide S2
          clear c0 c1 d0 d1 HS hb2
          obtain ⟨⟨⟨_, c0, c1⟩, ⟨_, d0, d1⟩, _⟩, _⟩ := S2
          go_wp2_with fail
          refine (validVotes_any _ _ _ _ _ _ _ _ HS2.out.1.2.2.1 HS2.out.2 hn ho).mono ?_
          rintro e w3 ⟨rfl, hb3⟩
          have S3 := HS2.out.below hb3
          have HS3 := hide S3
          clear c0 c1 d0 d1 HS2 hb3
          obtain ⟨⟨⟨_, c0, c1⟩, ⟨_, d0, d1⟩, _⟩, _⟩ := S3
          go_wp2_with fail
          refine (apply_any _ _ _ _ _ _ _ _ _ _ _ _ HS3.out.1.2.2.1 HS3.out.1.2.2.2.1 HS3.out.2 (by have := HLV.out; have := HRO.out.1; omega) HVX.out HVA.out.1 HRO.out.2.1 HRO.out.range).mono ?_
          rintro e w4 ⟨rfl, hb4⟩
          go_wp2
          go_ret
          exact ⟨ret_int HV.out.symm, (HS3.out.below hb4).1.2.2.2.2⟩
      · have HV := hide (applyR_no (vs := vs) (fun h : ApplyOk n zs v ws vs => hlv h.2.2))
        have hE : ((vs.length : Int) != v) = true := by simpa using hlv
        clear hlv
        go_enter Try.func47, Try.ntmps47
        go_wp2_with fail
        refine (validSpace_any _ _ _ _ _ S0.1.2.2.1 hn).mono ?_
        rintro e w1 ⟨rfl, hb⟩
        have S1 := S0.below hb
        have HS := hide S1
        clear S0 hb
        obtain ⟨⟨⟨_, c0, c1⟩, ⟨_, d0, d1⟩, _⟩, _⟩ := S1
        go_wp2_with fail
        refine (validRule_any _ _ _ _ _ _ _ _ _ HS.out.1.2.2.1 HS.out.1.2.2.2.1 hm).mono ?_
        rintro e w2 ⟨rfl, hb2⟩
        have S2 := HS.out.below hb2
        have HS2 := hide S2
        clear c0 c1 d0 d1 HS hb2
        obtain ⟨⟨⟨_, c0, c1⟩, ⟨_, d0, d1⟩, _⟩, _⟩ := S2
        go_wp2
        go_ret
        exact ⟨ret_int HV.out.symm, HS2.out.1.2.2.2.2⟩
set_option maxHeartbeats 4000000 in
theorem implApplyRule_any (n v : Int) (a b l : Option Addr) (cap capb capl : Nat) (zs ws vs : List Int) (w : World) (hi : Ints w a zs) (hj : Ints w b ws) (hl : Ints w l vs) (hn : zs.length ≤ 1048576) (hm : ws.length ≤ 1048576) (ho : vs.length ≤ 1048576) :
    Calls Try.prog 41 #[.agg #[.int .i64 n, .slice a zs.length cap], .agg #[.int .i64 v, .slice b ws.length capb], .slice l vs.length capl] w fun e w' => e = .returned (.int .i64 (applyR n zs v ws vs)) ∧ Below w.heap.size w w' := by
  have S0 := SRV.new w n v a b l zs ws vs cap capb 25 41 hi hj hl
  clear hi hj hl
  by_cases hv : vrB n zs v ws = false
  · have HV := hide (applyR_no (vs := vs) (fun h : ApplyOk n zs v ws vs => by have := h.1; rw [hv] at this; cases this))
    go_enter Try.func41, Try.ntmps41
    go_wp2_with fail
    refine (implValidRule_any _ _ _ _ _ _ _ _ _ S0.1.2.2.1 S0.1.2.2.2.1 hn hm).mono ?_
    rintro e w1 ⟨rfl, hb⟩
    go_wp2
    go_ret
    exact ⟨ret_int HV.out.symm, (S0.below hb).1.2.2.2.2⟩
  · have hv : vrB n zs v ws = true := by simpa using hv
    have HVR := hide hv
    have HVA := hide (vr_of hv).1
    have HRO := hide (vr_of hv).2
    have HVV := hide (vvB_yes (vs := vs) (vsB_true (vr_of hv).1))
    by_cases hvo : vvB n zs vs = false
    · have HV := hide (applyR_no (vs := vs) (fun h : ApplyOk n zs v ws vs => by have := h.2.1; rw [← HVV.out, hvo] at this; cases this))
      go_enter Try.func41, Try.ntmps41
      go_wp2_with fail
      refine (implValidRule_any _ _ _ _ _ _ _ _ _ S0.1.2.2.1 S0.1.2.2.2.1 hn hm).mono ?_
      rintro e w1 ⟨rfl, hb⟩
      have S1 := S0.below hb
      have HS := hide S1
      clear S0 hb
      obtain ⟨⟨⟨_, c0, c1⟩, ⟨_, d0, d1⟩, _⟩, _⟩ := S1
      go_wp2_with fail
      refine (implValidVotes_any _ _ _ _ _ _ _ _ HS.out.1.2.2.1 HS.out.2 hn ho).mono ?_
      rintro e w2 ⟨rfl, hb2⟩
      go_wp2
      go_ret
      exact ⟨ret_int HV.out.symm, (HS.out.below hb2).1.2.2.2.2⟩
    · have hvo : vvB n zs vs = true := by simpa using hvo
      have HVO := hide (vv_of hvo).2
      have HVB := hide (HVV.out.symm.trans hvo)
      by_cases hlv : (vs.length : Int) = v
      · have hE : ((vs.length : Int) != v) = false := by simpa using hlv
        have HLV := hide hlv
        have HV := hide (applyR_yes (⟨HVR.out, HVB.out, hlv⟩ : ApplyOk n zs v ws vs))
        have HVX := hide (vote_range HVA.out HVO.out)
        clear hlv
        go_enter Try.func41, Try.ntmps41
        go_wp2_with fail
        refine (implValidRule_any _ _ _ _ _ _ _ _ _ S0.1.2.2.1 S0.1.2.2.2.1 hn hm).mono ?_
        rintro e w1 ⟨rfl, hb⟩
        have S1 := S0.below hb
        have HS := hide S1
        clear S0 hb
        obtain ⟨⟨⟨_, c0, c1⟩, ⟨_, d0, d1⟩, _⟩, _⟩ := S1
        go_wp2_with fail
        refine (implValidVotes_any _ _ _ _ _ _ _ _ HS.out.1.2.2.1 HS.out.2 hn ho).mono ?_
        rintro e w2 ⟨rfl, hb2⟩
        have S2 := HS.out.below hb2
        have HS2 := hide S2
        clear c0 c1 d0 d1 HS hb2
        obtain ⟨⟨⟨_, c0, c1⟩, ⟨_, d0, d1⟩, _⟩, _⟩ := S2
        go_wp2_with fail
        refine (applied_any _ _ _ _ _ _ _ _ HS2.out.1.2.2.2.1 HS2.out.2 (by have := HLV.out; have := HRO.out.1; omega) HVX.out (by have := HRO.out.2.1; have := HVA.out.1; omega) HRO.out.range).mono ?_
        rintro e w3 ⟨rfl, hb3⟩
        go_wp2
        go_ret
        exact ⟨ret_int HV.out.symm, (HS2.out.below hb3).1.2.2.2.2⟩
      · have hE : ((vs.length : Int) != v) = true := by simpa using hlv
        have HV := hide (applyR_no (vs := vs) (fun h : ApplyOk n zs v ws vs => hlv h.2.2))
        clear hlv
        go_enter Try.func41, Try.ntmps41
        go_wp2_with fail
        refine (implValidRule_any _ _ _ _ _ _ _ _ _ S0.1.2.2.1 S0.1.2.2.2.1 hn hm).mono ?_
        rintro e w1 ⟨rfl, hb⟩
        have S1 := S0.below hb
        have HS := hide S1
        clear S0 hb
        obtain ⟨⟨⟨_, c0, c1⟩, ⟨_, d0, d1⟩, _⟩, _⟩ := S1
        go_wp2_with fail
        refine (implValidVotes_any _ _ _ _ _ _ _ _ HS.out.1.2.2.1 HS.out.2 hn ho).mono ?_
        rintro e w2 ⟨rfl, hb2⟩
        have S2 := HS.out.below hb2
        have HS2 := hide S2
        clear c0 c1 d0 d1 HS hb2
        obtain ⟨⟨⟨_, c0, c1⟩, ⟨_, d0, d1⟩, _⟩, _⟩ := S2
        go_wp2
        go_ret
        exact ⟨ret_int HV.out.symm, HS2.out.1.2.2.2.2⟩
end Go.Proofs.Ytklfpbidbiippaa
