/- Texts of this seat one behind the other: ApplyR, TabX, SafeM, SafeI, AppM, Vlt, CrE, LawH, PNeut, SmE, SafeS, PSafe. Conditions: none. -/
import Derived.Test.YtnmfhnieknckcaaMgB
import Derived.Test.YtnmfhnieknckcaaTabB
import Derived.Test.YtnmfhnieknckcaaSpare
import Derived.Test.YtnmfhnieknckcaaBit
import Derived.Test.YtnmfhnieknckcaaValid
import Derived.Test.YtnmfhnieknckcaaMgA
import Derived.Test.YtnmfhnieknckcaaRead
import Derived.Test.YtnmfhnieknckcaaHas
import Derived.Test.YtnmfhnieknckcaaDrawR3
import Derived.Deep.RegionHeld3
import Derived.Deep.RegionLawGrows
import Derived.Deep.RegionWith

/- ApplyR: ApplyRule, in the model and in the program. -/
namespace Go.Proofs.Ytnmfhnieknckcaa
open Go.RowKit Go.Joins

def ApplyOk (n : Int) (zs : List Int) (v : Int) (ws vs : List Int) : Prop := vrB n zs v ws = true ∧ votesB zs vs = true ∧ (vs.length : Int) = v
instance (n : Int) (zs : List Int) (v : Int) (ws vs : List Int) : Decidable (ApplyOk n zs v ws vs) := by unfold ApplyOk; infer_instance
/-- what ApplyRule answers -/
def applyR (n : Int) (zs : List Int) (v : Int) (ws vs : List Int) : Int := if ApplyOk n zs v ws vs then (applyK vs ws ws.length : Nat) else -1
theorem applyR_yes {n v : Int} {zs ws vs : List Int} (h : ApplyOk n zs v ws vs) : applyR n zs v ws vs = (applyK vs ws ws.length : Nat) := if_pos h
theorem applyR_no {n v : Int} {zs ws vs : List Int} (h : ¬ ApplyOk n zs v ws vs) : applyR n zs v ws vs = -1 := if_neg h
theorem vote_range {n : Int} {zs vs : List Int} (h : Valid n zs) (ho : VotesOk zs vs) : ∀ x ∈ vs, 0 ≤ x ∧ x ≤ 255 := fun x hx => by
  have := valid_range h x (ho.mem x hx)
  omega

set_option maxHeartbeats 4000000 in
theorem implApplyRule_any (n v : Int) (a b l : Option Addr) (cap capb capl : Nat) (zs ws vs : List Int) (w : World) (hi : Ints w a zs) (hj : Ints w b ws) (hl : Ints w l vs) (hn : zs.length ≤ 1048576) (hm : ws.length ≤ 1048576) (ho : vs.length ≤ 1048576) :
    Calls Try.prog 35 #[.agg #[.int .i64 n, .slice a zs.length cap], .agg #[.int .i64 v, .slice b ws.length capb], .slice l vs.length capl] w fun e w' => e = .returned (.int .i64 (applyR n zs v ws vs)) ∧ Below w.heap.size w w' := by
  have S0 := SRV.new w n v a b l zs ws vs cap capb 25 27 hi hj hl
  clear hi hj hl
  by_cases hv : vrB n zs v ws = false
  · have HV := hide (applyR_no (vs := vs) (fun h : ApplyOk n zs v ws vs => by have := h.1; rw [hv] at this; cases this))
    go_enter Try.func35, Try.ntmps35
    go_wp2_with fail
    refine (implValidRule_any _ _ _ _ _ _ _ _ _ S0.1.2.2.1 S0.1.2.2.2.1 hn hm).mono ?_
    rintro e w1 ⟨rfl, hb⟩
    go_wp2
    go_ret
    exact ⟨ret_int HV.out.symm, (S0.below hb).1.2.2.2.2⟩
  · have hv : vrB n zs v ws = true := by simpa using hv
    have HVR := hide hv
    have HVA := hide (vr_of hv).1
    have HRO := hide (vr_of hv).2
    have HVV := hide (vvB_yes (vs := vs) (vsB_true (vr_of hv).1))
    by_cases hvo : vvB n zs vs = false
    · have HV := hide (applyR_no (vs := vs) (fun h : ApplyOk n zs v ws vs => by have := h.2.1; rw [← HVV.out, hvo] at this; cases this))
      go_enter Try.func35, Try.ntmps35
      go_wp2_with fail
      refine (implValidRule_any _ _ _ _ _ _ _ _ _ S0.1.2.2.1 S0.1.2.2.2.1 hn hm).mono ?_
      rintro e w1 ⟨rfl, hb⟩
      have S1 := S0.below hb
      have HS := hide S1
      clear S0 hb
      obtain ⟨⟨⟨_, c0, c1⟩, ⟨_, d0, d1⟩, _⟩, _⟩ := S1
      go_wp2_with fail
      refine (implValidVotes_any _ _ _ _ _ _ _ _ HS.out.1.2.2.1 HS.out.2 hn ho).mono ?_
      rintro e w2 ⟨rfl, hb2⟩
      go_wp2
      go_ret
      exact ⟨ret_int HV.out.symm, (HS.out.below hb2).1.2.2.2.2⟩
    · have hvo : vvB n zs vs = true := by simpa using hvo
      have HVO := hide (vv_of hvo).2
      have HVB := hide (HVV.out.symm.trans hvo)
      by_cases hlv : (vs.length : Int) = v
      · have hE : ((vs.length : Int) != v) = false := by simpa using hlv
        have HLV := hide hlv
        have HV := hide (applyR_yes (⟨HVR.out, HVB.out, hlv⟩ : ApplyOk n zs v ws vs))
        have HVX := hide (vote_range HVA.out HVO.out)
        clear hlv
        go_enter Try.func35, Try.ntmps35
        go_wp2_with fail
        refine (implValidRule_any _ _ _ _ _ _ _ _ _ S0.1.2.2.1 S0.1.2.2.2.1 hn hm).mono ?_
        rintro e w1 ⟨rfl, hb⟩
        have S1 := S0.below hb
        have HS := hide S1
        clear S0 hb
        obtain ⟨⟨⟨_, c0, c1⟩, ⟨_, d0, d1⟩, _⟩, _⟩ := S1
        go_wp2_with fail
        refine (implValidVotes_any _ _ _ _ _ _ _ _ HS.out.1.2.2.1 HS.out.2 hn ho).mono ?_
        rintro e w2 ⟨rfl, hb2⟩
        have S2 := HS.out.below hb2
        have HS2 := hide S2
        clear c0 c1 d0 d1 HS hb2
        obtain ⟨⟨⟨_, c0, c1⟩, ⟨_, d0, d1⟩, _⟩, _⟩ := S2
        go_wp2_with fail
        refine (applied_any _ _ _ _ _ _ _ _ HS2.out.1.2.2.2.1 HS2.out.2 (by have := HLV.out; have := HRO.out.1; omega) HVX.out (by have := HRO.out.2.1; have := HVA.out.1; omega) HRO.out.range).mono ?_
        rintro e w3 ⟨rfl, hb3⟩
        go_wp2
        go_ret
        exact ⟨ret_int HV.out.symm, (HS2.out.below hb3).1.2.2.2.2⟩
      · have hE : ((vs.length : Int) != v) = true := by simpa using hlv
        have HV := hide (applyR_no (vs := vs) (fun h : ApplyOk n zs v ws vs => hlv h.2.2))
        clear hlv
        go_enter Try.func35, Try.ntmps35
        go_wp2_with fail
        refine (implValidRule_any _ _ _ _ _ _ _ _ _ S0.1.2.2.1 S0.1.2.2.2.1 hn hm).mono ?_
        rintro e w1 ⟨rfl, hb⟩
        have S1 := S0.below hb
        have HS := hide S1
        clear S0 hb
        obtain ⟨⟨⟨_, c0, c1⟩, ⟨_, d0, d1⟩, _⟩, _⟩ := S1
        go_wp2_with fail
        refine (implValidVotes_any _ _ _ _ _ _ _ _ HS.out.1.2.2.1 HS.out.2 hn ho).mono ?_
        rintro e w2 ⟨rfl, hb2⟩
        have S2 := HS.out.below hb2
        have HS2 := hide S2
        clear c0 c1 d0 d1 HS hb2
        obtain ⟨⟨⟨_, c0, c1⟩, ⟨_, d0, d1⟩, _⟩, _⟩ := S2
        go_wp2
        go_ret
        exact ⟨ret_int HV.out.symm, HS2.out.1.2.2.2.2⟩
end Go.Proofs.Ytnmfhnieknckcaa

/- TabX: IsMonotone, IsUnanimous, IsNeutral, DictatorOf: in the model and in the program. -/
namespace Go.Proofs.Ytnmfhnieknckcaa
open Go.RowKit Go.Joins

theorem monoR_no {n v : Int} {zs ws : List Int} (h : vrB n zs v ws = false) : monoR n zs v ws = false := by unfold monoR; rw [h]; rfl
theorem monoR_yes {n v : Int} {zs ws : List Int} (h : vrB n zs v ws = true) : monoR n zs v ws = !ws.any fun x => !holdMono v x := by unfold monoR; rw [h]; rfl
set_option maxHeartbeats 2000000 in
theorem implIsMonotone_any (n v : Int) (a b : Option Addr) (cap capb : Nat) (zs ws : List Int) (w : World) (hi : Ints w a zs) (hj : Ints w b ws) (hn : zs.length ≤ 1048576) (hm : ws.length ≤ 1048576) :
    Calls Try.prog 14 #[.agg #[.int .i64 n, .slice a zs.length cap], .agg #[.int .i64 v, .slice b ws.length capb]] w fun e w' => e = .returned (.bool (monoR n zs v ws)) ∧ Below w.heap.size w w' := by
  have S0 := SR.new w n v a b zs ws cap capb 25 27 hi hj
  clear hi hj
  by_cases hv : vrB n zs v ws = false
  · have HV := hide (monoR_no hv)
    go_enter Try.func14, Try.ntmps14
    go_wp2_with fail
    refine (implValidRule_any _ _ _ _ _ _ _ _ _ S0.2.2.1 S0.2.2.2.1 hn hm).mono ?_
    rintro e w1 ⟨rfl, hb⟩
    go_wp2
    go_ret
    exact ⟨ret_bool HV.out.symm, (S0.below hb).2.2.2.2⟩
  · have hv : vrB n zs v ws = true := by simpa using hv
    have HV := hide (monoR_yes hv)
    have HRO := hide (vr_of hv).2
    go_enter Try.func14, Try.ntmps14
    go_wp2_with fail
    refine (implValidRule_any _ _ _ _ _ _ _ _ _ S0.2.2.1 S0.2.2.2.1 hn hm).mono ?_
    rintro e w1 ⟨rfl, hb⟩
    have S1 := S0.below hb
    have HS := hide S1
    clear S0 hb
    obtain ⟨⟨_, c0, c1⟩, ⟨_, d0, d1⟩, _⟩ := S1
    go_wp2_with fail
    refine (holdsForEachMono_any _ _ _ _ _ HRO.out.1 HRO.out.range HS.out.2.2.2.1 hm).mono ?_
    rintro e w2 ⟨rfl, hb2⟩
    go_wp2
    go_ret
    exact ⟨ret_bool HV.out.symm, (HS.out.below hb2).2.2.2.2⟩
theorem unanR_no {n v : Int} {zs ws : List Int} (h : vrB n zs v ws = false) : unanR n zs v ws = false := by unfold unanR; rw [h]; rfl
theorem unanR_yes {n v : Int} {zs ws : List Int} (h : vrB n zs v ws = true) : unanR n zs v ws = !ws.any fun x => !holdUnan v x := by unfold unanR; rw [h]; rfl
set_option maxHeartbeats 2000000 in
theorem implIsUnanimous_any (n v : Int) (a b : Option Addr) (cap capb : Nat) (zs ws : List Int) (w : World) (hi : Ints w a zs) (hj : Ints w b ws) (hn : zs.length ≤ 1048576) (hm : ws.length ≤ 1048576) :
    Calls Try.prog 22 #[.agg #[.int .i64 n, .slice a zs.length cap], .agg #[.int .i64 v, .slice b ws.length capb]] w fun e w' => e = .returned (.bool (unanR n zs v ws)) ∧ Below w.heap.size w w' := by
  have S0 := SR.new w n v a b zs ws cap capb 25 27 hi hj
  clear hi hj
  by_cases hv : vrB n zs v ws = false
  · have HV := hide (unanR_no hv)
    go_enter Try.func22, Try.ntmps22
    go_wp2_with fail
    refine (implValidRule_any _ _ _ _ _ _ _ _ _ S0.2.2.1 S0.2.2.2.1 hn hm).mono ?_
    rintro e w1 ⟨rfl, hb⟩
    go_wp2
    go_ret
    exact ⟨ret_bool HV.out.symm, (S0.below hb).2.2.2.2⟩
  · have hv : vrB n zs v ws = true := by simpa using hv
    have HV := hide (unanR_yes hv)
    have HRO := hide (vr_of hv).2
    go_enter Try.func22, Try.ntmps22
    go_wp2_with fail
    refine (implValidRule_any _ _ _ _ _ _ _ _ _ S0.2.2.1 S0.2.2.2.1 hn hm).mono ?_
    rintro e w1 ⟨rfl, hb⟩
    have S1 := S0.below hb
    have HS := hide S1
    clear S0 hb
    obtain ⟨⟨_, c0, c1⟩, ⟨_, d0, d1⟩, _⟩ := S1
    go_wp2_with fail
    refine (holdsForEachUnan_any _ _ _ _ _ HRO.out.1 HRO.out.range HS.out.2.2.2.1 hm).mono ?_
    rintro e w2 ⟨rfl, hb2⟩
    go_wp2
    go_ret
    exact ⟨ret_bool HV.out.symm, (HS.out.below hb2).2.2.2.2⟩
theorem neutR_no {n v : Int} {zs ws : List Int} (h : vrB n zs v ws = false) : neutR n zs v ws = false := by unfold neutR; rw [h]; rfl
theorem neutR_yes {n v : Int} {zs ws : List Int} (h : vrB n zs v ws = true) : neutR n zs v ws = !ws.any fun x => !holdOwn v x := by unfold neutR; rw [h]; rfl
set_option maxHeartbeats 2000000 in
theorem implIsNeutral_any (n v : Int) (a b : Option Addr) (cap capb : Nat) (zs ws : List Int) (w : World) (hi : Ints w a zs) (hj : Ints w b ws) (hn : zs.length ≤ 1048576) (hm : ws.length ≤ 1048576) :
    Calls Try.prog 23 #[.agg #[.int .i64 n, .slice a zs.length cap], .agg #[.int .i64 v, .slice b ws.length capb]] w fun e w' => e = .returned (.bool (neutR n zs v ws)) ∧ Below w.heap.size w w' := by
  have S0 := SR.new w n v a b zs ws cap capb 25 27 hi hj
  clear hi hj
  by_cases hv : vrB n zs v ws = false
  · have HV := hide (neutR_no hv)
    go_enter Try.func23, Try.ntmps23
    go_wp2_with fail
    refine (implValidRule_any _ _ _ _ _ _ _ _ _ S0.2.2.1 S0.2.2.2.1 hn hm).mono ?_
    rintro e w1 ⟨rfl, hb⟩
    go_wp2
    go_ret
    exact ⟨ret_bool HV.out.symm, (S0.below hb).2.2.2.2⟩
  · have hv : vrB n zs v ws = true := by simpa using hv
    have HV := hide (neutR_yes hv)
    have HRO := hide (vr_of hv).2
    go_enter Try.func23, Try.ntmps23
    go_wp2_with fail
    refine (implValidRule_any _ _ _ _ _ _ _ _ _ S0.2.2.1 S0.2.2.2.1 hn hm).mono ?_
    rintro e w1 ⟨rfl, hb⟩
    have S1 := S0.below hb
    have HS := hide S1
    clear S0 hb
    obtain ⟨⟨_, c0, c1⟩, ⟨_, d0, d1⟩, _⟩ := S1
    go_wp2_with fail
    refine (holdsForEachOwn_any _ _ _ _ _ HRO.out.1 HRO.out.range HS.out.2.2.2.1 hm).mono ?_
    rintro e w2 ⟨rfl, hb2⟩
    go_wp2
    go_ret
    exact ⟨ret_bool HV.out.symm, (HS.out.below hb2).2.2.2.2⟩
theorem dictR_no {n v : Int} {zs ws : List Int} (h : vrB n zs v ws = false) : dictR n zs v ws = -1 := by unfold dictR; rw [if_neg (by rw [h]; simp)]
theorem dictR_yes {n v : Int} {zs ws : List Int} (h : vrB n zs v ws = true) : dictR n zs v ws = firstI v (isD v ws) := if_pos h
set_option maxHeartbeats 2000000 in
theorem specDictatorOf_any (n v : Int) (a b : Option Addr) (cap capb : Nat) (zs ws : List Int) (w : World) (hi : Ints w a zs) (hj : Ints w b ws) (hn : zs.length ≤ 1048576) (hm : ws.length ≤ 1048576) :
    Calls Try.prog 21 #[.agg #[.int .i64 n, .slice a zs.length cap], .agg #[.int .i64 v, .slice b ws.length capb]] w fun e w' => e = .returned (.int .i64 (dictR n zs v ws)) ∧ Below w.heap.size w w' := by
  have S0 := SR.new w n v a b zs ws cap capb 25 27 hi hj
  clear hi hj
  by_cases hv : vsB n zs = false
  · have HV := hide (dictR_no (vrB_no (v := v) (ws := ws) hv))
    go_enter Try.func21, Try.ntmps21
    go_wp2_with fail
    refine (validSpace_any _ _ _ _ _ S0.2.2.1 hn).mono ?_
    rintro e w1 ⟨rfl, hb⟩
    go_wp2
    go_ret
    exact ⟨ret_int HV.out.symm, (S0.below hb).2.2.2.2⟩
  · have hv : vsB n zs = true := by simpa using hv
    by_cases hr : ruleB n v ws = false
    · have HV := hide (dictR_no ((vrB_yes (v := v) (ws := ws) hv).trans hr))
      go_enter Try.func21, Try.ntmps21
      go_wp2_with fail
      refine (validSpace_any _ _ _ _ _ S0.2.2.1 hn).mono ?_
      rintro e w1 ⟨rfl, hb⟩
      have S1 := S0.below hb
      have HS := hide S1
      clear S0 hb
      obtain ⟨⟨_, c0, c1⟩, ⟨_, d0, d1⟩, _⟩ := S1
      go_wp2_with fail
      refine (validRule_any _ _ _ _ _ _ _ _ _ HS.out.2.2.1 HS.out.2.2.2.1 hm).mono ?_
      rintro e w2 ⟨rfl, hb2⟩
      go_wp2
      go_ret
      exact ⟨ret_int HV.out.symm, (HS.out.below hb2).2.2.2.2⟩
    · have hr : ruleB n v ws = true := by simpa using hr
      have HV := hide (dictR_yes ((vrB_yes (v := v) (ws := ws) hv).trans hr))
      have HRO := hide (rule_of hr)
      go_enter Try.func21, Try.ntmps21
      go_wp2_with fail
      refine (validSpace_any _ _ _ _ _ S0.2.2.1 hn).mono ?_
      rintro e w1 ⟨rfl, hb⟩
      have S1 := S0.below hb
      have HS := hide S1
      clear S0 hb
      obtain ⟨⟨_, c0, c1⟩, ⟨_, d0, d1⟩, _⟩ := S1
      go_wp2_with fail
      refine (validRule_any _ _ _ _ _ _ _ _ _ HS.out.2.2.1 HS.out.2.2.2.1 hm).mono ?_
      rintro e w2 ⟨rfl, hb2⟩
      have S2 := HS.out.below hb2
      have HS2 := hide S2
      clear c0 c1 d0 d1 HS hb2
      obtain ⟨_, ⟨_, d0, d1⟩, _⟩ := S2
      go_wp2_with fail
      refine (dictator_any _ _ _ _ _ HRO.out.1 HRO.out.range HS2.out.2.2.2.1 hm).mono ?_
      rintro e w3 ⟨r, hr3, rfl, hb3⟩
      have HR3 := hide (isDict_first HRO.out.1 hr3)
      clear hr3
      go_wp2
      go_ret
      exact ⟨ret_int (by rw [HV.out, HR3.out]), (HS2.out.below hb3).2.2.2.2⟩
set_option maxHeartbeats 4000000 in
theorem implDictatorOf_any (n v : Int) (a b : Option Addr) (cap capb : Nat) (zs ws : List Int) (w : World) (hi : Ints w a zs) (hj : Ints w b ws) (hn : zs.length ≤ 1048576) (hm : ws.length ≤ 1048576) :
    Calls Try.prog 20 #[.agg #[.int .i64 n, .slice a zs.length cap], .agg #[.int .i64 v, .slice b ws.length capb]] w fun e w' => e = .returned (.int .i64 (dictR n zs v ws)) ∧ Below w.heap.size w w' := by
  have S0 := SR.new w n v a b zs ws cap capb 25 27 hi hj
  clear hi hj
  by_cases hv : vrB n zs v ws = false
  · have HV := hide (dictR_no hv)
    go_enter Try.func20, Try.ntmps20
    go_wp2_with fail
    refine (implValidRule_any _ _ _ _ _ _ _ _ _ S0.2.2.1 S0.2.2.2.1 hn hm).mono ?_
    rintro e w1 ⟨rfl, hb⟩
    go_wp2
    go_ret
    exact ⟨ret_int HV.out.symm, (S0.below hb).2.2.2.2⟩
  · have hv : vrB n zs v ws = true := by simpa using hv
    have HV := hide (dictR_yes hv)
    have HRO := hide (vr_of hv).2
    have hv1 := HRO.out.1.1
    have hv3 := HRO.out.1.2
    go_enter Try.func20, Try.ntmps20
    go_wp2_with fail
    refine (implValidRule_any _ _ _ _ _ _ _ _ _ S0.2.2.1 S0.2.2.2.1 hn hm).mono ?_
    rintro e w1 ⟨rfl, hb⟩
    have S1 := S0.below hb
    have HS := hide S1
    clear S0 hb
    obtain ⟨⟨_, c0, c1⟩, ⟨_, d0, d1⟩, _⟩ := S1
    go_wp2_with fail
    clear c0 c1 d0 d1
    go_loopw [13] (fun s wr => ∃ i : Nat, (i : Int) ≤ v ∧ s = .int .i64 i ∧ (∀ i', i' < i → isD v ws i' = false) ∧ SR w n a zs cap v b ws capb wr) (fun s _ => 3 - (intOf s).toNat)
    case atStart => exact ⟨0, by omega, rfl, fun i hi => by omega, HS.out⟩
    case round =>
      clear HS
      obtain ⟨i, hi, rfl, hall, S2⟩ := hrel
      have HA := hide hall
      have HS2 := hide S2
      clear hall
      obtain ⟨_, ⟨_, d0, d1⟩, _⟩ := S2
      by_cases hil : (i : Int) < v
      · go_wp2_with fail
        refine (groupsWith_any _ _ _ HRO.out.1 (by omega)).mono ?_
        rintro e w2 ⟨rfl, hb2⟩
        have B3 := bel1 w2 (.cells #[Value.bool (upT v (memF i) 0), Value.bool (upT v (memF i) 1), Value.bool (upT v (memF i) 2), Value.bool (upT v (memF i) 3), Value.bool (upT v (memF i) 4), Value.bool (upT v (memF i) 5), Value.bool (upT v (memF i) 6), Value.bool (upT v (memF i) 7)] 69)
        have S3 := (HS2.out.below hb2).below B3
        have T3 := Tab.new w2 (upT v (memF i)) 69
        have HS3 := hide S3
        have HT3 := hide T3
        clear B3 T3 d0 d1 HS2 hb2
        obtain ⟨_, ⟨_, d0, d1⟩, _⟩ := S3
        go_wp2_with fail
        refine (holdsForEachDict_any _ _ _ _ _ _ _ HRO.out.1 HRO.out.range HS3.out.2.2.2.1 hm HT3.out).mono ?_
        rintro e w4 ⟨rfl, hb4⟩
        have HS4 := hide (HS3.out.below hb4)
        clear hb4 HS3 HT3 d0 d1
        have HD : Hid (isD v ws i = !ws.any fun x => !holdDict v (upT v (memF i)) x) := rfl
        cases hd : (!ws.any fun x => !holdDict v (upT v (memF i)) x)
        · have HN : Hid (isD v ws i = false) := HD.out.trans hd
          go_wp2
          go_roundw
          case rel => exact ⟨i + 1, by omega, by go_num, fun i' hi' => by
            rcases Nat.lt_or_ge i' i with h | h
            · exact HA.out i' h
            · obtain rfl : i' = i := by omega
              exact HN.out, HS4.out⟩
          case measure => simp only [intOf]; omega
        · have HN : Hid (isD v ws i = true) := HD.out.trans hd
          go_wp2
          go_ret
          exact ⟨ret_int (by rw [HV.out, firstI_at hv3 hil HN.out HA.out]), HS4.out.2.2.2.2⟩
      · go_wp2
        go_ret
        exact ⟨ret_int (by rw [HV.out, firstI_none (fun i' hi' => HA.out i' (by omega))]), HS2.out.2.2.2.2⟩
end Go.Proofs.Ytnmfhnieknckcaa

/- SafeM: Safe rules: what the recursion answers; a row's prefix. -/
namespace Go.Proofs.Ytnmfhnieknckcaa
open Go.RowKit Go.Joins

/-- all lists of k more votes lead to a judgment -/
def safeK (zs ws : List Int) : Nat → List Int → Bool
  | 0, vs => hasB zs ((applyK vs ws ws.length : Nat) : Int)
  | k + 1, vs => zs.all fun x => safeK zs ws k (vs ++ [x])
/-- the answer of IsSafe -/
def safeR (n : Int) (zs : List Int) (v : Int) (ws : List Int) : Bool := vrB n zs v ws && safeK zs ws v.toNat []
theorem safeR_no {n v : Int} {zs ws : List Int} (h : vrB n zs v ws = false) : safeR n zs v ws = false := by unfold safeR; rw [h]; rfl
theorem safeR_yes {n v : Int} {zs ws : List Int} (h : vrB n zs v ws = true) : safeR n zs v ws = safeK zs ws v.toNat [] := by unfold safeR; rw [h]; rfl
theorem all_true {zs : List Int} {p : Int → Bool} (h : ∀ j, j < zs.length → p (zs.getD j 0) = true) : zs.all p = true := by
  rw [List.all_eq_true]
  intro x hx
  obtain ⟨i, hi, e⟩ := List.getElem_of_mem hx
  have := h i hi
  rwa [getD_lt hi, e] at this
theorem all_false {zs : List Int} {p : Int → Bool} {k : Nat} (hk : k < zs.length) (h : p zs[k] = false) : zs.all p = false := by
  rw [List.all_eq_false]
  exact ⟨_, List.getElem_mem hk, by rw [h]; simp⟩
theorem any_not {zs : List Int} (p : Int → Bool) : (!zs.any fun x => !p x) = zs.all p := by
  induction zs with
  | nil => rfl
  | cons x t ih => simp [List.any_cons, List.all_cons, ← ih]
theorem mem_pushed {vs : List Int} {z : Int} {P : Int → Prop} (h : ∀ x ∈ vs, P x) (hz : P z) : ∀ x ∈ vs ++ [z], P x := fun x hx => by
  rcases List.mem_append.1 hx with h' | h'
  · exact h x h'
  · rw [List.mem_singleton] at h'; rw [h']; exact hz
theorem nil_range (P : Int → Prop) : ∀ x ∈ ([] : List Int), P x := fun x hx => by cases hx
/-- of a list that was appended to in place the old list is still the beginning -/
theorem owns_prefix {w : World} {base g cap : Nat} {vs : List Int} {x : Int} (h : Owns w base (.slice (some ⟨g, 0, none⟩) (vs.length + 1) cap) (vs ++ [x])) : Owns w base (.slice (some ⟨g, 0, none⟩) vs.length cap) vs := by
  have h' : w.ownsRow base 3 1 (.slice (some ⟨g, 0, none⟩) (vs.length + 1) cap) (vs ++ [x]).length ((vs ++ [x]).map (Value.int .i64)) := h
  rcases h'.2 with ⟨e, _⟩ | ⟨g', cap', cur, e, hb, hg, hn, hc, hs, ht⟩
  · cases e
  · simp only [Value.slice.injEq, Option.some.injEq, Addr.mk.injEq] at e
    obtain ⟨⟨rfl, _⟩, e2, rfl⟩ := e
    refine ⟨by simp, .inr ⟨g, cap, cur, rfl, hb, hg, by omega, hc, hs, ?_⟩⟩
    have ht2 := congrArg (List.take (vs.length * 1)) ht
    rw [List.take_take, List.map_append, List.length_append] at ht2
    have e3 : min (vs.length * 1) ((vs.length + [x].length) * 1) = vs.length * 1 := by simp
    rw [e3] at ht2
    rw [ht2]
    rw [List.take_append_of_le_length (by simp)]
    rw [show vs.length * 1 = (vs.map (Value.int .i64)).length from by simp, List.take_length]
end Go.Proofs.Ytnmfhnieknckcaa

/- SafeI: IsSafe in the program. -/
namespace Go.Proofs.Ytnmfhnieknckcaa
open Go.RowKit Go.Joins

/-- a call of staysIn under way: the boxes of space, rule and votes; the votes' own row -/
def StI (w0 : World) (base : Nat) (n : Int) (a : Option Addr) (zs : List Int) (cap : Nat) (v : Int) (b : Option Addr) (ws : List Int) (capb : Nat) (vv : Value) (vs : List Int) (wq : World) : Prop :=
  (Box wq w0.heap.size n a zs.length cap ∧ Box wq (w0.heap.size + 1) v b ws.length capb ∧ wq.heap[w0.heap.size + 2]? = some (.cells #[vv] 23 (0, 0))) ∧ Ints wq a zs ∧ Ints wq b ws ∧ w0.grownBy wq vv.ownBlock ∧ Owns wq base vv vs ∧ w0.heap.size + 3 ≤ wq.heap.size
/-- what is older than the votes' rows -/
def Low (base : Nat) (a : Option Addr) : Prop := ∀ g o s, a = some ⟨g, o, s⟩ → g < base
theorem Ints.far {w w' : World} {a : Option Addr} {zs : List Int} {row : Option Nat} (h : Ints w a zs) (hg : w.grownBy w' row) (hne : ∀ g o s, a = some ⟨g, o, s⟩ → row ≠ some g) : Ints w' a zs := fun hz => by
  obtain ⟨b, off, e, hlt, hc⟩ := h hz
  exact ⟨b, off, e, Nat.lt_of_lt_of_le hlt hg.size, fun k hk => hg.cell (hc k hk) (fun e' => hne b off none e e'.symm)⟩
theorem Box.far {w w' : World} {g : Nat} {n : Int} {a : Option Addr} {len cap : Nat} {row : Option Nat} (h : Box w g n a len cap) (hg : w.grownBy w' row) (hne : row ≠ some g) : Box w' g n a len cap :=
  ⟨Nat.lt_of_lt_of_le h.1 hg.size, hg.cell h.2.1 (fun e => hne e.symm), hg.cell h.2.2 (fun e => hne e.symm)⟩
theorem grown_trans {w w' w'' : World} {row row' : Option Nat} (h : w.grownBy w' row) (hg : w'.grownBy w'' row') (hr : ∀ k, row' = some k → row = some k ∨ w.heap.size ≤ k) : w.grownBy w'' row :=
  ⟨hg.os.trans h.os, hg.tape.trans h.tape, hg.output.trans h.output, Nat.le_trans h.size hg.size, fun k hk hne =>
    (hg.block k (Nat.lt_of_lt_of_le hk h.size) (fun e => by
      rcases hr k e.symm with h' | h'
      · exact hne h'.symm
      · omega)).trans (h.block k hk hne)⟩
theorem StI.move {w0 wq w' : World} {base cap capb : Nat} {n v : Int} {a b : Option Addr} {zs ws vs : List Int} {vv : Value} {row : Option Nat} (h : StI w0 base n a zs cap v b ws capb vv vs wq)
    (ha : Low base a) (hb : Low base b) (hbw : base ≤ w0.heap.size) (hv : ∀ k, vv.ownBlock = some k → k < w0.heap.size)
    (hg : wq.grownBy w' row) (hr : ∀ k, row = some k → vv.ownBlock = some k ∨ w0.heap.size + 3 ≤ k) (ho : Owns w' base vv vs) : StI w0 base n a zs cap v b ws capb vv vs w' := by
  obtain ⟨⟨h1, h2, h3⟩, h4, h5, h6, h7, h8⟩ := h
  have hge := own_ge h7
  have hne : ∀ j, w0.heap.size ≤ j → j < w0.heap.size + 3 → row ≠ some j := fun j hj hj3 e => by
    rcases hr j e with h' | h'
    · have := hv j h'; omega
    · omega
  have hlow : ∀ j, j < base → row ≠ some j := fun j hj e => by
    rcases hr j e with h' | h'
    · have := hge j h'; omega
    · omega
  refine ⟨⟨h1.far hg (hne _ (by omega) (by omega)), h2.far hg (hne _ (by omega) (by omega)), (hg.block _ (by omega) (fun e => hne _ (by omega) (by omega) e.symm)).trans h3⟩, h4.far hg (fun g o s e => hlow g (ha g o s e)), h5.far hg (fun g o s e => hlow g (hb g o s e)), grown_trans h6 hg (fun k hk => ?_), ho, Nat.le_trans h8 hg.size⟩
  rcases hr k hk with h' | h'
  · exact .inl h'
  · exact .inr (by omega)
theorem grown_none {w w' : World} (hb : Below w.heap.size w w') : w.grownBy w' none := ⟨hb.os, hb.tape, hb.output, hb.size, fun k hk _ => hb.block k hk⟩
theorem none_below {w w' : World} (hg : w.grownBy w' none) : Below w.heap.size w w' := (Below.refl _ _).grown hg (Nat.le_refl _) (fun k hk => by cases hk)
theorem StI.below {w0 wq w' : World} {base cap capb : Nat} {n v : Int} {a b : Option Addr} {zs ws vs : List Int} {vv : Value} (h : StI w0 base n a zs cap v b ws capb vv vs wq)
    (ha : Low base a) (hb : Low base b) (hbw : base ≤ w0.heap.size) (hv : ∀ k, vv.ownBlock = some k → k < w0.heap.size) (hB : Below wq.heap.size wq w') : StI w0 base n a zs cap v b ws capb vv vs w' :=
  h.move ha hb hbw hv (grown_none hB) (fun k hk => by cases hk) (h.2.2.2.2.1.below hB)
theorem StI.new {w : World} {base cap capb : Nat} {n v : Int} {a b : Option Addr} {zs ws vs : List Int} {vv : Value} (hi : Ints w a zs) (hj : Ints w b ws) (ho : Owns w base vv vs) :
    StI w base n a zs cap v b ws capb vv vs (((w.alloc (.cells #[.int .i64 n, .slice a zs.length cap] 25)).alloc (.cells #[.int .i64 v, .slice b ws.length capb] 27)).alloc (.cells #[vv] 23)) := by
  have B2 := bel2 w (.cells #[.int .i64 n, .slice a zs.length cap] 25) (.cells #[.int .i64 v, .slice b ws.length capb] 27)
  have bx := Box.new (w.alloc (.cells #[.int .i64 n, .slice a zs.length cap] 25)) v b ws.length capb 27
  have bv := heap_alloc_new ((w.alloc (.cells #[.int .i64 n, .slice a zs.length cap] 25)).alloc (.cells #[.int .i64 v, .slice b ws.length capb] 27)) (.cells #[vv] 23)
  simp only [World.size_alloc] at bx bv
  have B3 := bel1 ((w.alloc (.cells #[.int .i64 n, .slice a zs.length cap] 25)).alloc (.cells #[.int .i64 v, .slice b ws.length capb] 27)) (.cells #[vv] 23)
  have BB := bnext B2 B3
  exact ⟨⟨((Box.new _ _ _ _ _ _).below (bel1 _ _)).below B3, bx.below B3, bv⟩, hi.below BB, hj.below BB,
    ⟨BB.os, BB.tape, BB.output, BB.size, fun k hk _ => BB.block k hk⟩, ho.below BB, by simp⟩
theorem StI.cells {w0 wq : World} {base cap capb : Nat} {n v : Int} {a b : Option Addr} {zs ws vs : List Int} {vv : Value} (h : StI w0 base n a zs cap v b ws capb vv vs wq) :
    wq.cell? ⟨w0.heap.size, 0, none⟩ = some (.int .i64 n) ∧ wq.cell? ⟨w0.heap.size, 1, none⟩ = some (.slice a zs.length cap) ∧ wq.cell? ⟨w0.heap.size + 1, 0, none⟩ = some (.int .i64 v) ∧ wq.cell? ⟨w0.heap.size + 1, 1, none⟩ = some (.slice b ws.length capb) ∧ wq.cell? ⟨w0.heap.size + 2, 0, none⟩ = some vv :=
  ⟨h.1.1.2.1, h.1.1.2.2, h.1.2.1.2.1, h.1.2.1.2.2, cell_of_block h.1.2.2 0⟩
/-- what staysIn leaves -/
def StPost (base : Nat) (vv : Value) (vs : List Int) (r : Bool) (w : World) (e : Ending) (w' : World) : Prop := e = .returned (.bool r) ∧ w.grownBy w' vv.ownBlock ∧ Owns w' base vv vs
def IdxIPost (p : Int → Bool) (zs : List Int) (I : World → Prop) (e : Ending) (w' : World) : Prop :=
  ∃ r : Int, (zs.any p = true ∧ 0 ≤ r ∨ zs.any p = false ∧ r = -1) ∧ r ≤ 1048576 ∧ e = .returned (.int .i64 r) ∧ I w'
set_option maxHeartbeats 1000000 in
theorem indexFuncS_any (p : Int → Bool) (I : World → Prop) (a : Option Addr) (cap g1 g2 g3 : Nat) (zs : List Int) (hI : ∀ w', I w' → Ints w' a zs) (hn : zs.length ≤ 1048576)
    (hf : ∀ (x : Int) (w' : World), x ∈ zs → I w' → Calls Try.prog 102 #[.int .i64 x, .pointer (some ⟨g1, 0, none⟩), .pointer (some ⟨g2, 0, none⟩), .pointer (some ⟨g3, 0, none⟩)] w' fun e w'' => e = .returned (.bool (p x)) ∧ I w'') (w : World) (hw : I w) :
    Calls Try.prog 105 #[.slice a zs.length cap, .func (.func 102) #[] #[.pointer (some ⟨g1, 0, none⟩), .pointer (some ⟨g2, 0, none⟩), .pointer (some ⟨g3, 0, none⟩)]] w (IdxIPost p zs I) := by
  have HF := hide hf
  have HI := hide hI
  clear hf hI
  go_enter Try.func105, Try.ntmps105
  go_wp2_with fail
  go_loopw [8] (fun i wr => ∃ k : Nat, k ≤ zs.length ∧ i = .int .i64 k ∧ (∀ j, j < k → p (zs.getD j 0) = false) ∧ I wr) (fun i _ => zs.length - (intOf i).toNat)
  case atStart => exact ⟨0, Nat.zero_le _, rfl, fun j hj => by omega, hw⟩
  case round =>
    obtain ⟨k, hk, rfl, hall, hb⟩ := hrel
    have HA := hide hall
    clear hall
    by_cases hlt : k < zs.length
    · obtain ⟨bb, off, rfl, hbl, hc⟩ := (HI.out _ hb) (by omega)
      have hck := hc k hlt
      rw [getD_lt hlt] at hck
      clear hc
      by_cases he : p zs[k] = true
      · have HF2 := hide (any_true hlt he)
        have HE := hide he
        clear he
        go_wp2_with fail
        refine (HF.out _ _ (mem_of_at hlt) hb).mono ?_
        rintro e w1 ⟨rfl, h1⟩
        have he := HE.out
        go_wp2
        go_ret
        exact ⟨k, .inl ⟨HF2.out, by omega⟩, by omega, rfl, h1⟩
      · have he : p zs[k] = false := by simpa using he
        have HE := hide he
        clear he
        go_wp2_with fail
        refine (HF.out _ _ (mem_of_at hlt) hb).mono ?_
        rintro e w1 ⟨rfl, h1⟩
        have he := HE.out
        go_wp2
        go_roundw
        case rel => exact ⟨k + 1, by omega, by go_num, fun j hj => by
          rcases Nat.lt_or_ge j k with h | h
          · exact HA.out j h
          · obtain rfl : j = k := by omega
            rw [getD_lt hlt]
            exact HE.out, h1⟩
        case measure => simp only [intOf]; omega
    · obtain rfl : k = zs.length := by omega
      go_wp2
      go_ret
      exact ⟨-1, .inr ⟨any_false HA.out, rfl⟩, by omega, rfl, hb⟩
set_option maxHeartbeats 1000000 in
theorem containsFuncS_any (p : Int → Bool) (I : World → Prop) (a : Option Addr) (cap g1 g2 g3 : Nat) (zs : List Int) (hI : ∀ w', I w' → Ints w' a zs) (hn : zs.length ≤ 1048576)
    (hf : ∀ (x : Int) (w' : World), x ∈ zs → I w' → Calls Try.prog 102 #[.int .i64 x, .pointer (some ⟨g1, 0, none⟩), .pointer (some ⟨g2, 0, none⟩), .pointer (some ⟨g3, 0, none⟩)] w' fun e w'' => e = .returned (.bool (p x)) ∧ I w'') (w : World) (hw : I w) :
    Calls Try.prog 54 #[.slice a zs.length cap, .func (.func 102) #[] #[.pointer (some ⟨g1, 0, none⟩), .pointer (some ⟨g2, 0, none⟩), .pointer (some ⟨g3, 0, none⟩)]] w fun e w' => e = .returned (.bool (zs.any p)) ∧ I w' := by
  have HF := hide hf
  have HI := hide hI
  clear hf hI
  by_cases hm : zs.any p = true
  · have HM := hide hm
    clear hm
    go_enter Try.func54, Try.ntmps54
    go_wp2_with fail
    refine (indexFuncS_any p I _ _ _ _ _ _ HI.out hn HF.out _ hw).mono ?_
    rintro e w' ⟨r, hr, hr2, rfl, hb⟩
    have h0 : 0 ≤ r := by
      rcases hr with ⟨_, h⟩ | ⟨h, _⟩
      · exact h
      · rw [HM.out] at h; cases h
    clear hr
    go_wp2
    go_ret
    exact ⟨ret_bool HM.out.symm, hb⟩
  · have hm : zs.any p = false := by simpa using hm
    have HM := hide hm
    clear hm
    go_enter Try.func54, Try.ntmps54
    go_wp2_with fail
    refine (indexFuncS_any p I _ _ _ _ _ _ HI.out hn HF.out _ hw).mono ?_
    rintro e w' ⟨r, hr, hr2, rfl, hb⟩
    have h0 : r < 0 := by
      rcases hr with ⟨h, _⟩ | ⟨_, h⟩
      · rw [HM.out] at h; cases h
      · omega
    clear hr
    go_wp2
    go_ret
    exact ⟨ret_bool (by rw [HM.out]; simp; omega), hb⟩

/-- what staysIn promises for k more votes -/
def Stays (n : Int) (a : Option Addr) (zs : List Int) (cap : Nat) (v : Int) (b : Option Addr) (ws : List Int) (capb k : Nat) : Prop :=
  ∀ (vs : List Int) (vv : Value) (base : Nat) (w : World), Ints w a zs → Ints w b ws → Low base a → Low base b → Owns w base vv vs → base ≤ w.heap.size → vs.length + k = v.toNat → (∀ x ∈ vs, 0 ≤ x ∧ x ≤ 255) →
    Calls Try.prog 49 #[.agg #[.int .i64 n, .slice a zs.length cap], .agg #[.int .i64 v, .slice b ws.length capb], vv] w (StPost base vv vs (safeK zs ws k vs) w)

set_option maxHeartbeats 4000000 in
set_option maxRecDepth 100000 in
theorem staysClosure_any (n v : Int) (a b : Option Addr) (cap capb k base : Nat) (zs ws vs : List Int) (vv : Value) (x : Int) (w0 w : World) (IH : Stays n a zs cap v b ws capb k) (hs : StI w0 base n a zs cap v b ws capb vv vs w)
    (ha : Low base a) (hb : Low base b) (hbw : base ≤ w0.heap.size) (hv : ∀ k, vv.ownBlock = some k → k < w0.heap.size) (hk : vs.length + (k + 1) = v.toNat) (h3 : v ≤ 3) (hr : ∀ x ∈ vs, 0 ≤ x ∧ x ≤ 255) (hx : 0 ≤ x ∧ x ≤ 255) :
    Calls Try.prog 102 #[.int .i64 x, .pointer (some ⟨w0.heap.size, 0, none⟩), .pointer (some ⟨w0.heap.size + 1, 0, none⟩), .pointer (some ⟨w0.heap.size + 2, 0, none⟩)] w fun e w' => e = .returned (.bool (!safeK zs ws k (vs ++ [x]))) ∧ StI w0 base n a zs cap v b ws capb vv vs w' := by
  obtain ⟨i0, hi0, hz0, hz1, hz2⟩ := info_parts info_int
  have hl2 : vs.length ≤ 2 := by omega
  have HIH := hide IH
  have HA := hide ha
  have HB := hide hb
  have HV := hide hv
  have HR := hide (mem_pushed (P := fun x => 0 ≤ x ∧ x ≤ 255) hr hx)
  have hlen : (vs ++ [x]).length = vs.length + 1 := by simp
  have HL := hide hlen
  have HK := hide (show (vs ++ [x]).length + k = v.toNat by omega)
  obtain ⟨c0, c1, d0, d1, e0⟩ := hs.cells
  have hown := hs.2.2.2.2.1
  have hws := hs.2.2.2.2.2
  have hown' : w.ownsRow base 3 1 vv vs.length (vs.map (Value.int .i64)) := hown
  have SD := hide (hs.below ha hb hbw hv (bdrew' (Below.refl w.heap.size w)))
  clear IH ha hb hv hr hs hlen hk
  have key : ∀ (l : Option Addr) (vc : Nat), vv = .slice l vs.length vc → (l = none → vs.length = 0 ∧ vc = 0) → vc < vs.length + 1 → Calls Try.prog 102 #[.int .i64 x, .pointer (some ⟨w0.heap.size, 0, none⟩), .pointer (some ⟨w0.heap.size + 1, 0, none⟩), .pointer (some ⟨w0.heap.size + 2, 0, none⟩)] w fun e w' => e = .returned (.bool (!safeK zs ws k (vs ++ [x]))) ∧ StI w0 base n a zs cap v b ws capb vv vs w' := by
    rintro l vc rfl hnone hfull
    have HOC : Hid (∀ b, l = some b → ∀ j u, (vs.map (Value.int .i64))[j]? = some u → (w.drew.alloc (.cells #[.int .i64 x] 3)).cell? (b.add j) = some u) := by
      intro b e j u hu
      subst e
      have hro := (hown'.drew).alloc (.cells #[.int .i64 x] 3)
      rcases ownsRow_forms hro with ⟨e, _⟩ | ⟨g, cc, e⟩
      · cases e
      · simp only [Value.slice.injEq, Option.some.injEq] at e
        obtain ⟨rfl, _, _⟩ := e
        exact own_cells hro _ rfl j u hu
    have HGR : Hid (∀ (w5 : World) (gg cc : Nat), (w.drew.alloc (.cells #[.int .i64 x] 3)).grownBy w5 none → w5.ownsRow (w.drew.alloc (.cells #[.int .i64 x] 3)).heap.size 3 1 (.slice (some ⟨gg, 0, none⟩) (vs.length + 1) cc) (vs.length + 1) (vs.map (Value.int .i64) ++ [.int .i64 x]) → w.heap.size ≤ gg → Owns w5 base (.slice (some ⟨gg, 0, none⟩) (vs.length + 1) cc) (vs ++ [x]) ∧ StI w0 base n a zs cap v b ws capb (.slice l vs.length vc) vs w5 ∧ (∀ k, (Value.slice (some ⟨gg, 0, none⟩) (vs.length + 1) cc).ownBlock = some k → w0.heap.size + 3 ≤ k ∧ (Value.slice l vs.length vc).ownBlock ≠ some k)) := fun w5 gg cc hg ho hgg => by
      have o5 := Owns.push ho
      have S1 := SD.out.below HA.out HB.out hbw HV.out (bel1 w.drew (.cells #[.int .i64 x] 3))
      refine ⟨o5.le (by simp; omega), S1.below HA.out HB.out hbw HV.out (none_below hg), fun k hk => ?_⟩
      have e : gg = k := by simpa [Value.ownBlock] using hk
      subst e
      exact ⟨by omega, fun e => by have := HV.out _ e; omega⟩
    go_enter Try.func102, Try.ntmps102
    go_wp2_with fail
    go_region_held3 (fun w' => w'.cell? ⟨w0.heap.size, 0, none⟩ = some (.int .i64 n) ∧ w'.cell? ⟨w0.heap.size, 1, none⟩ = some (.slice a zs.length cap) ∧ w'.cell? ⟨w0.heap.size + 1, 0, none⟩ = some (.int .i64 v) ∧ w'.cell? ⟨w0.heap.size + 1, 1, none⟩ = some (.slice b ws.length capb) ∧ w'.cell? ⟨w0.heap.size + 2, 0, none⟩ = some (.slice l vs.length vc))
      (first | go_keep | exact HS6.out | exact HS5.out)
      (first
        | (refine step_append_grows (by rfl) _ _ 23 (by rfl) 3 i0 (.int .i64 0) 1 8 Try.underlying23 hi0 hz0 hz1 hz2 rfl (by decide) l vs.length vc (vs.map (Value.int .i64)) (by rfl) hnone (by simp) HOC.out ⟨w.heap.size, 0, none⟩ 1 1 [.int .i64 x] (by rfl) (by rfl) (World.news_of_block (cs := #[.int .i64 x]) (t := 3) (fr := (0, 0)) (heap_alloc_new w.drew _)) (by intro u hu; simp at hu; subst hu; rfl) hfull (by unfold maxLen; omega) (by omega) ?_; intro v5 w5 hown5 hgrow; obtain ⟨gg, cc, rfl, hgb, hgl⟩ := World.ownsRow.form hown5 (by omega); have hgb' : w.heap.size ≤ gg := (by simp at hgb; omega); have O5 := hide (HGR.out w5 gg cc hgrow hown5 hgb'); have HS5 := hide O5.out.2.1.cells; clear hown5 hgrow hgb hgl)
        | (go_at_call 49; refine (HIH.out (vs ++ [x]) _ base _ O5.out.2.1.2.1 O5.out.2.1.2.2.1 HA.out HB.out O5.out.1 (by have := O5.out.2.1.2.2.2.2.2; omega) HK.out HR.out).mono ?_; rintro e w6 ⟨rfl, g6, o6⟩; have S6 := hide (O5.out.2.1.move HA.out HB.out hbw HV.out g6 (fun k hk => .inr (O5.out.2.2 k hk).1) (own_kept O5.out.2.1.2.2.2.2.1 g6 (fun k hk => (O5.out.2.2 k hk).2))); have HS6 := hide S6.out.cells; clear g6 o6))
    all_goals
      go_wp2
      go_ret
      exact ⟨rfl, S6.out⟩
  rcases ownsRow_forms hown' with ⟨e, h0⟩ | ⟨g, vc, e⟩
  · exact key none 0 (by rw [e, h0]) (fun _ => ⟨h0, rfl⟩) (by omega)
  · by_cases hroom : vs.length + 1 ≤ vc
    · clear key
      subst e
      have HSP : Hid (∀ w5 : World, (w.drew.alloc (.cells #[.int .i64 x] 3)).grownBy w5 (some g) → w5.ownsRow base 3 1 (.slice (some ⟨g, 0, none⟩) (vs.length + 1) vc) (vs.length + 1) (vs.map (Value.int .i64) ++ [.int .i64 x]) → Owns w5 base (.slice (some ⟨g, 0, none⟩) (vs.length + 1) vc) (vs ++ [x]) ∧ StI w0 base n a zs cap v b ws capb (.slice (some ⟨g, 0, none⟩) vs.length vc) vs w5) := fun w5 hg ho => by
        have o5 := Owns.push ho
        have S1 := SD.out.below HA.out HB.out hbw HV.out (bel1 w.drew (.cells #[.int .i64 x] 3))
        exact ⟨o5, S1.move HA.out HB.out hbw HV.out hg (fun k hk => .inl (by simpa [Value.ownBlock] using hk)) (owns_prefix o5)⟩
      go_enter Try.func102, Try.ntmps102
      go_wp2_with fail
      go_region_held3 (fun w' => w'.cell? ⟨w0.heap.size, 0, none⟩ = some (.int .i64 n) ∧ w'.cell? ⟨w0.heap.size, 1, none⟩ = some (.slice a zs.length cap) ∧ w'.cell? ⟨w0.heap.size + 1, 0, none⟩ = some (.int .i64 v) ∧ w'.cell? ⟨w0.heap.size + 1, 1, none⟩ = some (.slice b ws.length capb) ∧ w'.cell? ⟨w0.heap.size + 2, 0, none⟩ = some (.slice (some ⟨g, 0, none⟩) vs.length vc))
        (first | go_keep | exact HS6.out | exact HS5.out)
        (first
          | (refine step_append_spare (by rfl) _ _ 23 (by rfl) base 3 i0 1 Try.underlying23 hi0 hz1 g vs.length vc (vs.map (Value.int .i64)) (by rfl) ((hown'.drew).alloc _) ⟨w.heap.size, 0, none⟩ 1 1 [.int .i64 x] (by rfl) (by rfl) (World.news_of_block (cs := #[.int .i64 x]) (t := 3) (fr := (0, 0)) (heap_alloc_new w.drew _)) (by intro u hu; simp at hu; subst hu; rfl) hroom ?_; intro w5 hown5 hgrow; have O5 := hide (HSP.out w5 hgrow hown5); have HS5 := hide O5.out.2.cells; clear hown5 hgrow)
          | (go_at_call 49; refine (HIH.out (vs ++ [x]) _ base _ O5.out.2.2.1 O5.out.2.2.2.1 HA.out HB.out O5.out.1 (by have := O5.out.2.2.2.2.2.2; omega) HK.out HR.out).mono ?_; rintro e w6 ⟨rfl, g6, o6⟩; have S6 := hide (O5.out.2.move HA.out HB.out hbw HV.out g6 (fun k hk => .inl hk) (owns_prefix o6)); have HS6 := hide S6.out.cells; clear g6 o6))
      all_goals
        go_wp2
        go_ret
        exact ⟨rfl, S6.out⟩
    · exact key _ vc e (fun h => by cases h) (by omega)
set_option maxHeartbeats 4000000 in
set_option maxRecDepth 100000 in
theorem staysLeaf_any (n v : Int) (a b : Option Addr) (cap capb : Nat) (zs ws : List Int) (hv : 1 ≤ v ∧ v ≤ 3) (hl : ws.length ≤ 4) (hw : ∀ x ∈ ws, 0 ≤ x ∧ x ≤ 255) (hzn : zs.length ≤ 1048576) : Stays n a zs cap v b ws capb 0 := by
  intro vs vv base w hi hj ha hb ho hbase hk hr
  have S0 := StI.new (cap := cap) (capb := capb) (n := n) (v := v) hi hj ho
  have hvv : ∀ k, vv.ownBlock = some k → k < w.heap.size := own_lt ho
  have HVV := hide hvv
  have HA := hide ha
  have HB := hide hb
  have HW := hide hw
  have HR := hide hr
  have hE : ((vs.length : Int) == v) = true := by rw [beq_iff_eq]; omega
  have hv3 : vs.length ≤ 3 := by omega
  obtain ⟨l, vc, rfl, _, _⟩ := ho.form
  obtain ⟨c0, c1, d0, d1, e0⟩ := S0.cells
  have SD := hide (S0.below ha hb hbase hvv (bdrew' (Below.refl _ _)))
  have HD := hide SD.out.cells
  have iD := SD.out.2.2.1
  have oD := SD.out.2.2.2.2.1.ints
  clear hi hj ho hk S0 hvv ha hb hw hr
  go_enter Try.func49, Try.ntmps49
  go_wp2_with fail
  go_region_held3 (fun w' => w'.cell? ⟨w.heap.size, 0, none⟩ = some (.int .i64 n) ∧ w'.cell? ⟨w.heap.size, 1, none⟩ = some (.slice a zs.length cap) ∧ w'.cell? ⟨w.heap.size + 1, 0, none⟩ = some (.int .i64 v) ∧ w'.cell? ⟨w.heap.size + 1, 1, none⟩ = some (.slice b ws.length capb) ∧ w'.cell? ⟨w.heap.size + 2, 0, none⟩ = some (.slice l vs.length vc))
    (first | go_keep | exact HS6.out | exact HS5.out | exact HD.out)
    (first
      | (go_at_call 96; refine (applied_any v b l capb vc ws vs _ iD oD hv3 HR.out hl HW.out).mono ?_; rintro e w5 ⟨rfl, b5⟩; have S5 := hide (SD.out.below HA.out HB.out hbase HVV.out b5); have HS5 := hide S5.out.cells; have i5 := S5.out.2.1; clear b5)
      | (go_at_call 101; refine (contains_any _ a cap zs _ i5 hzn).mono ?_; rintro e w6 ⟨rfl, b6⟩; have S6 := hide (S5.out.below HA.out HB.out hbase HVV.out b6); have HS6 := hide S6.out.cells; clear b6))
  all_goals
    go_wp2
    go_ret
    exact ⟨rfl, S6.out.2.2.2.1, S6.out.2.2.2.2.1⟩
set_option maxHeartbeats 4000000 in
set_option maxRecDepth 100000 in
theorem staysIn_any (n v : Int) (a b : Option Addr) (cap capb : Nat) (zs ws : List Int) (hv : 1 ≤ v ∧ v ≤ 3) (hl : ws.length ≤ 4) (hz : ∀ x ∈ zs, 0 ≤ x ∧ x ≤ 255) (hw : ∀ x ∈ ws, 0 ≤ x ∧ x ≤ 255) (hzn : zs.length ≤ 1048576) : ∀ k, Stays n a zs cap v b ws capb k
  | 0 => staysLeaf_any n v a b cap capb zs ws hv hl hw hzn
  | k + 1 => by
    have HIH := hide (staysIn_any n v a b cap capb zs ws hv hl hz hw hzn k)
    intro vs vv base w hi hj ha hb ho hbase hk hr
    have S0 := hide (StI.new (cap := cap) (capb := capb) (n := n) (v := v) hi hj ho)
    have hvv : ∀ k, vv.ownBlock = some k → k < w.heap.size := own_lt ho
    have HVV := hide hvv
    have HA := hide ha
    have HB := hide hb
    have HZ := hide hz
    have HR := hide hr
    have hE : ((vs.length : Int) == v) = false := by rw [beq_eq_false_iff_ne]; omega
    have HK := hide hk
    have hv3 := hv.2
    have HN := hide (any_not (zs := zs) (fun x => safeK zs ws k (vs ++ [x])))
    obtain ⟨l, vc, rfl, _, _⟩ := ho.form
    obtain ⟨c0, c1, d0, d1, e0⟩ := S0.out.cells
    clear hi hj ho hk hvv ha hb hz hw hr
    go_enter Try.func49, Try.ntmps49
    go_wp2_with fail
    refine (containsFuncS_any (fun x => !safeK zs ws k (vs ++ [x])) (StI w base n a zs cap v b ws capb (.slice l vs.length vc) vs) a cap _ _ _ zs (fun w' h => h.2.1) hzn (fun x w' hx hI => staysClosure_any n v a b cap capb k base zs ws vs _ x w w' HIH.out hI HA.out HB.out hbase HVV.out HK.out hv3 HR.out (HZ.out x hx)) _ S0.out).mono ?_
    rintro e w2 ⟨rfl, S2⟩
    have HS2 := hide S2
    clear S2
    go_wp2
    go_ret
    exact ⟨ret_bool HN.out, HS2.out.2.2.2.1, HS2.out.2.2.2.2.1⟩
theorem Low.of {w : World} {a : Option Addr} {zs : List Int} (hi : Ints w a zs) (h : 0 < zs.length) : Low w.heap.size a := fun g o s e => by
  obtain ⟨b, off, rfl, hlt, _⟩ := hi h
  cases e
  exact hlt
set_option maxHeartbeats 2000000 in
theorem implIsSafe_any (n v : Int) (a b : Option Addr) (cap capb : Nat) (zs ws : List Int) (w : World) (hi : Ints w a zs) (hj : Ints w b ws) (hn : zs.length ≤ 1048576) (hm : ws.length ≤ 1048576) :
    Calls Try.prog 11 #[.agg #[.int .i64 n, .slice a zs.length cap], .agg #[.int .i64 v, .slice b ws.length capb]] w fun e w' => e = .returned (.bool (safeR n zs v ws)) ∧ Below w.heap.size w w' := by
  have S0 := SR.new w n v a b zs ws cap capb 25 27 hi hj
  clear hi hj
  by_cases hv : vrB n zs v ws = false
  · have HV := hide (safeR_no hv)
    go_enter Try.func11, Try.ntmps11
    go_wp2_with fail
    refine (implValidRule_any _ _ _ _ _ _ _ _ _ S0.2.2.1 S0.2.2.2.1 hn hm).mono ?_
    rintro e w1 ⟨rfl, hb⟩
    go_wp2
    go_ret
    exact ⟨ret_bool HV.out.symm, (S0.below hb).2.2.2.2⟩
  · have hv : vrB n zs v ws = true := by simpa using hv
    have HV := hide (safeR_yes hv)
    obtain ⟨hVa, hRo⟩ := vr_of hv
    have hv3 := hRo.1
    have hl4 : ws.length ≤ 4 := by have := hRo.2.1; have := hVa.1.2; omega
    have hw0 : 0 < ws.length := by have := hRo.2.1; have := hVa.1.1; omega
    have hz0 : 0 < zs.length := by have := hVa.2.1; omega
    have HWR := hide hRo.range
    have HZR : Hid (∀ x ∈ zs, 0 ≤ x ∧ x ≤ 255) := fun x hx => by have := valid_range hVa x hx; omega
    clear hVa hRo
    go_enter Try.func11, Try.ntmps11
    go_wp2_with fail
    refine (implValidRule_any _ _ _ _ _ _ _ _ _ S0.2.2.1 S0.2.2.2.1 hn hm).mono ?_
    rintro e w1 ⟨rfl, hb⟩
    have S1 := S0.below hb
    have HS := hide S1
    clear S0 hb
    obtain ⟨⟨_, c0, c1⟩, ⟨_, d0, d1⟩, _⟩ := S1
    go_wp2_with fail
    refine (staysIn_any n v a b cap capb zs ws hv3 hl4 HZR.out HWR.out hn v.toNat [] (.slice none 0 0) w1.heap.size w1 HS.out.2.2.1 HS.out.2.2.2.1 (Low.of HS.out.2.2.1 hz0) (Low.of HS.out.2.2.2.1 hw0) (World.ownsRow_nil _ _ _ _) (Nat.le_refl _) (by simp) (nil_range _)).mono ?_
    rintro e w2 ⟨rfl, g2, _⟩
    go_wp2
    go_ret
    exact ⟨ret_bool HV.out.symm, (HS.out.below (none_below g2)).2.2.2.2⟩
end Go.Proofs.Ytnmfhnieknckcaa

/- AppM: Applying a rule: safe rules answer in the space, a dictator's answer is his vote: mathematics. -/
namespace Go.Proofs.Ytnmfhnieknckcaa
open Go.RowKit Go.Joins

theorem dictA {v x : Int} {i : Nat} (hv : 1 ≤ v ∧ v ≤ 3) (h : holdDict v (upT v (memF i)) x = true) (g : Nat) (hg : (g : Int) < pw v) : bitN x.toNat g = bitN g i := by
  unfold holdDict at h
  rw [eqT_up (pw_le3 v hv.2)] at h
  have h1 := h g hg
  unfold winF memF at h1
  have h2 : (bitN x.toNat g == bitN g i) = true := by
    rw [bit_same, h1]
    simp
  simpa using h2
theorem isD_all {v : Int} {ws : List Int} {i : Nat} (h : isD v ws i = true) : ∀ x ∈ ws, holdDict v (upT v (memF i)) x = true := fun x hx => by
  unfold isD at h
  cases hh : holdDict v (upT v (memF i)) x with
  | true => rfl
  | false =>
    have h1 : (ws.any fun x => !holdDict v (upT v (memF i)) x) = true := List.any_eq_true.2 ⟨x, hx, by simp [hh]⟩
    rw [h1] at h
    cases h
theorem firstI_inA {v : Int} {P : Nat → Bool} {r : Int} (e : firstI v P = r) (h : ¬ r < 0) : ∃ i : Nat, (i : Int) < v ∧ P i = true ∧ r = i := by
  unfold firstI at e
  split at e
  · rename_i h0; exact ⟨0, by omega, h0.2, by omega⟩
  · split at e
    · rename_i h0; exact ⟨1, by omega, h0.2, by omega⟩
    · split at e
      · rename_i h0; exact ⟨2, by omega, h0.2, by omega⟩
      · omega
theorem safeK_all {zs ws : List Int} : ∀ (k : Nat) (pre vs : List Int), safeK zs ws k pre = true → vs.length = k → (∀ x ∈ vs, x ∈ zs) → hasB zs ((applyK (pre ++ vs) ws ws.length : Nat) : Int) = true
  | 0, pre, vs, h, hl, _ => by
    rw [List.length_eq_zero_iff.1 hl, List.append_nil]
    exact h
  | k + 1, pre, [], _, hl, _ => by simp at hl
  | k + 1, pre, x :: vs, h, hl, hin => by
    have h1 : (zs.all fun x => safeK zs ws k (pre ++ [x])) = true := h
    rw [List.all_eq_true] at h1
    have h2 := safeK_all k (pre ++ [x]) vs (h1 x (hin x (by simp))) (by simpa using hl) (fun y hy => hin y (by simp [hy]))
    rwa [List.append_assoc, List.singleton_append] at h2
/-- a safe rule answers in the space -/
theorem app_safe {n v r : Int} {zs ws vs : List Int} (hr : applyR n zs v ws vs = r) (h0 : ¬ r < 0) (hs : safeR n zs v ws = true) : inB n zs r = true := by
  by_cases hok : ApplyOk n zs v ws vs
  · rw [applyR_yes hok] at hr
    obtain ⟨hv, hvo, hl⟩ := hok
    rw [safeR_yes hv] at hs
    have hvo' : VotesOk zs vs := by simpa [votesB] using hvo
    have h1 := safeK_all v.toNat [] vs hs (by omega) (fun x hx => hvo'.mem x hx)
    rw [List.nil_append, hr] at h1
    rw [inB_true (vsB_true (vr_of hv).1)]
    exact h1
  · rw [applyR_no hok] at hr
    omega
theorem groupK_bit (vs : List Int) (j : Nat) : ∀ k i, i < k → bitN (groupK vs j k) i = bitN (vs.getD i 0).toNat j
  | 0, i, h => by omega
  | k + 1, i, h => by
    have hb := bitN_le (vs.getD k 0).toNat j
    have hlt := groupK_lt vs j k
    rw [groupK]
    rcases Nat.lt_or_ge i k with h1 | h1
    · rw [← groupK_bit vs j k i h1]
      unfold bitN
      have e : (groupK vs j k + 2 ^ k * bitN (vs.getD k 0).toNat j) = groupK vs j k + 2 ^ i * (2 * (2 ^ (k - i - 1) * bitN (vs.getD k 0).toNat j)) := by
        have e2 : 2 ^ k = 2 ^ i * (2 * 2 ^ (k - i - 1)) := by
          rw [← Nat.pow_succ', ← Nat.pow_add]
          congr 1
          omega
        rw [e2, Nat.mul_assoc, Nat.mul_assoc]
      show (groupK vs j k + 2 ^ k * bitN (vs.getD k 0).toNat j) / 2 ^ i % 2 = _
      rw [e, Nat.add_mul_div_left _ _ (Nat.two_pow_pos i), Nat.add_mul_mod_self_left]
    · obtain rfl : i = k := by omega
      show (groupK vs j i + 2 ^ i * bitN (vs.getD i 0).toNat j) / 2 ^ i % 2 = _
      rw [Nat.add_mul_div_left _ _ (Nat.two_pow_pos i), Nat.div_eq_of_lt hlt, Nat.zero_add]
      have := bitN_le (vs.getD i 0).toNat j
      omega
/-- a dictator's answer is his vote -/
theorem app_dict {n v r d : Int} {zs ws vs : List Int} (hr : applyR n zs v ws vs = r) (h0 : ¬ r < 0) (hd : dictR n zs v ws = d) (hd0 : ¬ d < 0) : ∃ i : Nat, d = i ∧ i < vs.length ∧ vs.getD i 0 = r := by
  by_cases hok : ApplyOk n zs v ws vs
  · rw [applyR_yes hok] at hr
    obtain ⟨hv, hvo, hl⟩ := hok
    obtain ⟨hV, hru⟩ := vr_of hv
    have hvo' : VotesOk zs vs := by simpa [votesB] using hvo
    unfold dictR at hd
    rw [if_pos hv] at hd
    obtain ⟨i, hi, hD, rfl⟩ := firstI_inA hd hd0
    have hDS : ∀ j, j < ws.length → ∀ g : Nat, (g : Int) < pw v → bitN (ws.getD j 0).toNat g = bitN g i := fun j hj g hg => by
      rw [getD_lt hj]
      exact dictA hru.1 (isD_all hD _ (List.getElem_mem hj)) g hg
    refine ⟨i, rfl, by omega, ?_⟩
    have hiv : i < vs.length := by omega
    have hx : vs.getD i 0 ∈ zs := hvo'.1 i hiv
    obtain ⟨x, hxe⟩ : ∃ x, x = vs.getD i 0 := ⟨_, rfl⟩
    rw [← hxe] at hx ⊢
    have key : ∀ k, k ≤ ws.length → applyK vs ws k = x.toNat % 2 ^ k := by
      intro k
      induction k with
      | zero => intro _; simp [applyK, Nat.mod_one]
      | succ k ih =>
        intro hk
        have hlt := groupK_lt vs k vs.length
        have hs := hDS k (by omega) (groupK vs k vs.length) (by
          have e : pw v = ((2 ^ vs.length : Nat) : Int) := by
            have : v.toNat = vs.length := by omega
            unfold pw
            rw [this]
          rw [e]
          omega)
        rw [groupK_bit vs k vs.length i hiv, ← hxe] at hs
        rw [applyK, ih (by omega), hs, Nat.mod_pow_succ]
        rfl
    have hxr : 0 ≤ x ∧ x < ((2 ^ ws.length : Nat) : Int) := by
      obtain ⟨t, ht, rfl⟩ := List.getElem_of_mem hx
      have h1 := (hV.2.2 t ht).1
      rw [getD_lt ht] at h1
      have e : pw n = ((2 ^ ws.length : Nat) : Int) := by
        have : n.toNat = ws.length := by have := hru.2.1; omega
        unfold pw
        rw [this]
      rw [e] at h1
      omega
    rw [key ws.length (Nat.le_refl _), Nat.mod_eq_of_lt (by omega)] at hr
    omega
  · rw [applyR_no hok] at hr
    omega

theorem implApplyA_was (n v : Int) (a b l : Option Addr) (cap capb capl : Nat) (zs ws vs : List Int) (w : World) (r : Int) (hi : Ints w a zs) (hj : Ints w b ws) (hl : Ints w l vs) (hn : zs.length ≤ 1048576) (hm : ws.length ≤ 1048576) (ho : vs.length ≤ 1048576) (hr : applyR n zs v ws vs = r) :
    Calls Try.prog 35 #[.agg #[.int .i64 n, .slice a zs.length cap], .agg #[.int .i64 v, .slice b ws.length capb], .slice l vs.length capl] w fun e w' => e = .returned (.int .i64 r) ∧ Below w.heap.size w w' := by
  subst hr
  exact implApplyRule_any n v a b l cap capb capl zs ws vs w hi hj hl hn hm ho
theorem implDictA_was (n v : Int) (a b : Option Addr) (cap capb : Nat) (zs ws : List Int) (w : World) (r : Int) (hi : Ints w a zs) (hj : Ints w b ws) (hn : zs.length ≤ 1048576) (hm : ws.length ≤ 1048576) (hr : dictR n zs v ws = r) :
    Calls Try.prog 20 #[.agg #[.int .i64 n, .slice a zs.length cap], .agg #[.int .i64 v, .slice b ws.length capb]] w fun e w' => e = .returned (.int .i64 r) ∧ Below w.heap.size w w' := by
  subst hr
  exact implDictatorOf_any n v a b cap capb zs ws w hi hj hn hm
theorem implSafeA_was (n v : Int) (a b : Option Addr) (cap capb : Nat) (zs ws : List Int) (w : World) (r : Bool) (hi : Ints w a zs) (hj : Ints w b ws) (hn : zs.length ≤ 1048576) (hm : ws.length ≤ 1048576) (hr : safeR n zs v ws = r) :
    Calls Try.prog 11 #[.agg #[.int .i64 n, .slice a zs.length cap], .agg #[.int .i64 v, .slice b ws.length capb]] w fun e w' => e = .returned (.bool r) ∧ Below w.heap.size w w' := by
  subst hr
  exact implIsSafe_any n v a b cap capb zs ws w hi hj hn hm
end Go.Proofs.Ytnmfhnieknckcaa

/- Vlt: A judgment of a space as a number. -/
namespace Go.Proofs.Ytnmfhnieknckcaa
open Go.RowKit Go.Joins

theorem valid_lt {N : Nat} {zs : List Int} (h : Valid (N : Int) zs) {z : Int} (hz : z ∈ zs) : 0 ≤ z ∧ z.toNat < 2 ^ N := by
  obtain ⟨i, hi, rfl⟩ := List.getElem_of_mem hz
  have h1 := (h.2.2 i hi).1
  rw [getD_lt hi] at h1
  have e : pw (N : Int) = ((2 ^ N : Nat) : Int) := by unfold pw; rw [Int.toNat_natCast]
  omega
end Go.Proofs.Ytnmfhnieknckcaa

/- CrE: Critical parts: which parts a judgment has. Plain mathematics. -/
namespace Go.Proofs.Ytnmfhnieknckcaa
open Go.RowKit Go.Joins

set_option maxRecDepth 100000 in
theorem ord_all : range5 (fun n => (List.range (2 ^ n)).all fun c => (List.range (2 ^ n)).all fun b => !(b &&& c == b) || (ordL n).contains (c, b)) = true := by decide +kernel
theorem ord_mem {n : Nat} (hn : n ≤ 4) {c b : Nat} (hc : c < 2 ^ n) (hb : b &&& c = b) : (c, b) ∈ ordL n := by
  have hb' : b < 2 ^ n := by
    have : b &&& c ≤ c := Nat.and_le_right
    omega
  have h := range5_of ord_all hn
  rw [List.all_eq_true] at h
  have h1 := h c (List.mem_range.2 hc)
  rw [List.all_eq_true] at h1
  have h2 := h1 b (List.mem_range.2 hb')
  rw [show (b &&& c == b) = true from by simpa using hb] at h2
  simpa using h2
theorem crit_mem {n : Nat} {zs : List Int} {m : Nat × Nat} : m ∈ critL n zs ↔ m ∈ ordL n ∧ crB n zs m = true := List.mem_filter
/-- open exactly if no critical part lies in it -/
theorem opn_crit {n : Nat} (hn : n ≤ 4) (zs : List Int) {p : Nat × Nat} (hp : p ∈ ordL n) : opn zs p = !(critL n zs).any fun m => subP m p := by
  rw [Bool.eq_iff_iff, Bool.not_eq_true', List.any_eq_false]
  constructor
  · intro ho m hm hs
    have := (cr_iff.1 (crit_mem.1 hm).2).1
    rw [opn_sub hs ho] at this
    cases this
  · intro h
    rcases Bool.eq_false_or_eq_true (opn zs p) with ho | ho
    · exact ho
    · obtain ⟨m, hm, hc, hs⟩ := cr_ex hn zs _ p hp (Nat.le_refl _) ho
      exact absurd hs (h m (crit_mem.2 ⟨hm, hc⟩))
theorem and_full {n x : Nat} (hx : x < 2 ^ n) : x &&& (2 ^ n - 1) = x := by rw [Nat.and_two_pow_sub_one_eq_mod, Nat.mod_eq_of_lt hx]
theorem sub_full {N : Nat} {m : Nat × Nat} (hm : m.1 < 2 ^ N) (x : Nat) : subP m (2 ^ N - 1, x) = (x &&& m.1 == m.2) := by
  unfold subP
  rw [and_full hm]
  simp
theorem full_mem {n : Nat} (hn : n ≤ 4) {x : Nat} (hx : x < 2 ^ n) : (2 ^ n - 1, x) ∈ ordL n :=
  ord_mem hn (by have := Nat.two_pow_pos n; omega) (and_full hx)
theorem opn_full {N : Nat} {zs : List Int} (hV : Valid (N : Int) zs) {x : Nat} (hx : x < 2 ^ N) : opn zs (2 ^ N - 1, x) = true ↔ (x : Int) ∈ zs := by
  rw [opn_iff]
  constructor
  · rintro ⟨z, hz, e⟩
    have h1 := valid_lt hV hz
    rw [and_full h1.2] at e
    have e2 : (x : Int) = z := by
      have e' : z.toNat = x := e
      omega
    rw [e2]
    exact hz
  · intro h
    exact ⟨(x : Int), h, by rw [Int.toNat_natCast]; exact and_full hx⟩
/-- a critical part answers something, and is a part that is not open -/
theorem crit_pt {N : Nat} {zs : List Int} (hV : Valid (N : Int) zs) {m : Nat × Nat} (hm : m ∈ critL N zs) : m.1 ≠ 0 ∧ IsPt (N : Int) (m.1 : Int) (m.2 : Int) ∧ openB zs (m.1 : Int) (m.2 : Int) = false ∧ m.1 < 16 ∧ m.2 < 16 := by
  have hn : N ≤ 4 := by have := hV.1; omega
  obtain ⟨h1, h2⟩ := crit_mem.1 hm
  have hf := ord_facts hn h1
  have ho := (cr_iff.1 h2).1
  have e : pw (N : Int) = ((2 ^ N : Nat) : Int) := by unfold pw; rw [Int.toNat_natCast]
  have p2 : 2 ^ N ≤ 16 := Nat.pow_le_pow_right (n := 2) (by omega) hn
  have hb : m.2 ≤ m.1 := by rw [← hf.2.1]; exact Nat.and_le_right
  refine ⟨fun h0 => ?_, ⟨⟨by omega, by omega⟩, ⟨by omega, by omega⟩, by rw [Int.toNat_natCast, Int.toNat_natCast]; exact hf.2.1⟩, ho, by omega, by omega⟩
  have hx : opn zs m = true := by
    rw [opn_iff]
    have hpos := hV.2.1
    refine ⟨zs[0], List.getElem_mem hpos, ?_⟩
    rw [h0, Nat.and_zero]
    omega
  rw [ho] at hx
  cases hx

set_option maxRecDepth 100000 in
theorem less_chk : ((List.range 16).all fun c => (List.range 16).all fun b => (List.range 4).all fun i => !(bitN c i == 1 && b &&& c == b) || (List.range 16).all fun x => !(x &&& (c - 2 ^ i) == b - (b &&& 2 ^ i)) || (List.range 4).all fun t => t == i || bitN (x &&& c) t == bitN b t) = true := by decide +kernel
theorem less_bit {c b i x t : Nat} (hc : c < 16) (hb : b &&& c = b) (hi : i < 4) (hx : x < 16) (hci : bitN c i = 1) (he : x &&& (c - 2 ^ i) = b - (b &&& 2 ^ i)) (ht : t < 4) (hne : t ≠ i) : bitN (x &&& c) t = bitN b t := by
  have hb16 : b < 16 := by
    have : b &&& c ≤ c := Nat.and_le_right
    omega
  have h := less_chk
  rw [List.all_eq_true] at h
  have h1 := h c (List.mem_range.2 hc)
  rw [List.all_eq_true] at h1
  have h2 := h1 b (List.mem_range.2 hb16)
  rw [List.all_eq_true] at h2
  have h3 := h2 i (List.mem_range.2 hi)
  rw [show (bitN c i == 1 && b &&& c == b) = true from by simp [hci, hb], Bool.not_true, Bool.false_or, List.all_eq_true] at h3
  have h4 := h3 x (List.mem_range.2 hx)
  rw [show (x &&& (c - 2 ^ i) == b - (b &&& 2 ^ i)) = true from by simpa using he, Bool.not_true, Bool.false_or, List.all_eq_true] at h4
  have h5 := h4 t (List.mem_range.2 ht)
  rw [show (t == i) = false from by simpa using hne, Bool.false_or, beq_iff_eq] at h5
  exact h5
theorem bits_ext {a b : Nat} (ha : a < 16) (hb : b < 16) (h : ∀ t, t < 4 → bitN a t = bitN b t) : a = b := by
  have h0 := h 0 (by omega)
  have h1 := h 1 (by omega)
  have h2 := h 2 (by omega)
  have h3 := h 3 (by omega)
  unfold bitN at h0 h1 h2 h3
  simp only [Nat.reducePow] at h0 h1 h2 h3
  omega
end Go.Proofs.Ytnmfhnieknckcaa

/- LawH: The helpers of the laws of promises: equalInts, isIn, among, ascends, weight, power. -/
namespace Go.Proofs.Ytnmfhnieknckcaa
open Go.RowKit Go.Joins


/-- whether two lists are the same -/
def eqB (xs ys : List Int) : Bool := decide (xs = ys)
theorem eqB_refl (xs : List Int) : eqB xs xs = true := by simp [eqB]
set_option maxHeartbeats 400000 in
theorem equalInts_any (a b : Option Addr) (ca cb : Nat) (xs ys : List Int) (w : World) (hx : Ints w a xs) (hy : Ints w b ys) (hn : xs.length ≤ 1048576) (hm : ys.length ≤ 1048576) :
    Calls Try.prog 94 #[.slice a xs.length ca, .slice b ys.length cb] w fun e w' => e = .returned (.bool (eqB xs ys)) ∧ Below w.heap.size w w' := by
  by_cases hl : xs.length = ys.length
  · have hne : ((xs.length : Int) != (ys.length : Int)) = false := by simp [hl]
    have HL := hide hl
    clear hl
    go_enter Try.func94, Try.ntmps94
    go_wp2
    go_loopw [5] (fun i wr => ∃ k : Nat, k ≤ xs.length ∧ i = .int .i64 k ∧ (∀ j, j < k → xs.getD j 0 = ys.getD j 0) ∧ Below w.heap.size w wr) (fun i _ => xs.length - (intOf i).toNat)
    case atStart => exact ⟨0, Nat.zero_le _, rfl, fun j hj => by omega, Below.refl _ _⟩
    case round =>
      obtain ⟨k, hk, rfl, hall, hb⟩ := hrel
      have HA := hide hall
      clear hall
      by_cases hlt : k < xs.length
      · obtain ⟨b1, o1, rfl, hb1, hc1⟩ := hx (by omega)
        obtain ⟨b2, o2, rfl, hb2, hc2⟩ := hy (by rw [← HL.out]; omega)
        have hlt2 : k < ys.length := by rw [← HL.out]; exact hlt
        have h1 := (hb.cell (p := ⟨b1, o1 + k, none⟩) hb1).trans (hc1 k hlt)
        have h2 := (hb.cell (p := ⟨b2, o2 + k, none⟩) hb2).trans (hc2 k hlt2)
        clear hc1 hc2
        rw [getD_lt hlt] at h1
        rw [getD_lt hlt2] at h2
        by_cases he : xs[k] = ys[k]
        · have hE : (xs[k] != ys[k]) = false := by simpa using he
          have HE := hide he
          clear he
          go_wp2
          go_quiet (fail)
          go_wp2
          go_roundw
          case rel => exact ⟨k + 1, by omega, by go_num, fun j hj => by
            rcases Nat.lt_or_ge j k with h | h
            · exact HA.out j h
            · obtain rfl : j = k := by omega
              rw [getD_lt hlt, getD_lt hlt2]
              exact HE.out, hb.trans ((belN _ _).mono hb.size)⟩
          case measure => simp only [intOf]; omega
        · have hE : (xs[k] != ys[k]) = true := by simpa using he
          go_wp2
          go_quiet (fail)
          go_wp2
          go_ret
          exact ⟨ret_bool (by simp [eqB]; intro e; subst e; exact he rfl), hb.trans ((belN _ _).mono hb.size)⟩
      · obtain rfl : k = xs.length := by omega
        go_wp2
        go_ret
        refine ⟨ret_bool ?_, hb⟩
        have : xs = ys := ints_ext HL.out HA.out
        simp [this, eqB]
  · have hne : ((xs.length : Int) != (ys.length : Int)) = true := by simp; omega
    have HL := hide (show ¬ xs = ys from fun e => hl (by rw [e]))
    clear hl
    go_enter Try.func94, Try.ntmps94
    go_wp2
    go_ret
    exact ⟨ret_bool (by simp [eqB, HL.out]), Below.refl _ _⟩
theorem equalInts_yes (a b : Option Addr) (ca cb : Nat) (xs : List Int) (w : World) (hx : Ints w a xs) (hy : Ints w b xs) (hn : xs.length ≤ 1048576) :
    Calls Try.prog 94 #[.slice a xs.length ca, .slice b xs.length cb] w fun e w' => e = .returned (.bool true) ∧ Below w.heap.size w w' :=
  (equalInts_any a b ca cb xs xs w hx hy hn hn).mono fun _ _ ⟨he, hb⟩ => ⟨he.trans (ret_bool (eqB_refl _)), hb⟩


/-- whether all of a list are in another one -/
def amongB (xs ys : List Int) : Bool := xs.all fun x => hasB ys x
theorem amongB_true {xs ys : List Int} (h : ∀ x ∈ xs, x ∈ ys) : amongB xs ys = true := List.all_eq_true.2 fun x hx => hasB_true (h x hx)

/-- Each is more than the one before. -/
def Ups (zs : List Int) : Prop := ∀ i, i < zs.length → 0 < i → zs.getD (i - 1) 0 < zs.getD i 0

end Go.Proofs.Ytnmfhnieknckcaa

/- PNeut: The law of IsNeutral answers true at every code: dictators, neutral, monotone and unanimous rules; its walk. -/
namespace Go.Proofs.Ytnmfhnieknckcaa
open Go.RowKit Go.Joins

set_option maxRecDepth 100000 in
theorem neut_unan0 : ∀ v : Fin 3, ∀ x : Fin 256, (holdOwn ((v.val : Nat) + 1 : Int) ((x.val : Nat) : Int) && holdMono ((v.val : Nat) + 1 : Int) ((x.val : Nat) : Int)) = true → holdUnan ((v.val : Nat) + 1 : Int) ((x.val : Nat) : Int) = true := by decide +kernel
set_option maxRecDepth 100000 in
theorem dict_own0 : ∀ v : Fin 3, ∀ i : Fin 3, ∀ x : Fin 256, i.val ≤ v.val → holdDict ((v.val : Nat) + 1 : Int) (upT ((v.val : Nat) + 1 : Int) (memF ((i.val : Nat) : Int))) ((x.val : Nat) : Int) = true → holdOwn ((v.val : Nat) + 1 : Int) ((x.val : Nat) : Int) = true := by decide +kernel
theorem neut_unan {v x : Int} (hv : 1 ≤ v ∧ v ≤ 3) (hx : 0 ≤ x ∧ x ≤ 255) (h1 : holdOwn v x = true) (h2 : holdMono v x = true) : holdUnan v x = true := by
  have h := neut_unan0 ⟨(v - 1).toNat, by omega⟩ ⟨x.toNat, by omega⟩
  have e1 : (((v - 1).toNat : Nat) : Int) + 1 = v := by omega
  have e2 : ((x.toNat : Nat) : Int) = x := by omega
  dsimp only at h
  rw [e1, e2] at h
  exact h (by rw [h1, h2]; rfl)
theorem dict_own {v x : Int} {i : Nat} (hv : 1 ≤ v ∧ v ≤ 3) (hx : 0 ≤ x ∧ x ≤ 255) (hi : (i : Int) < v) (h1 : holdDict v (upT v (memF i)) x = true) : holdOwn v x = true := by
  have h := dict_own0 ⟨(v - 1).toNat, by omega⟩ ⟨i, by omega⟩ ⟨x.toNat, by omega⟩
  have e1 : (((v - 1).toNat : Nat) : Int) + 1 = v := by omega
  have e2 : ((x.toNat : Nat) : Int) = x := by omega
  dsimp only at h
  rw [e1, e2] at h
  exact h (by omega) h1
theorem any_hold {p : Int → Bool} {ws : List Int} : (!ws.any fun x => !p x) = true ↔ ∀ x ∈ ws, p x = true := by
  rw [Bool.not_eq_true', List.any_eq_false]
  constructor
  · intro h x hx
    simpa using h x hx
  · intro h x hx
    simp [h x hx]
theorem firstI_in {v : Int} {P : Nat → Bool} (h : ¬ firstI v P < 0) : ∃ i : Nat, (i : Int) < v ∧ P i = true := by
  unfold firstI at h
  split at h
  · rename_i h0; exact ⟨0, by omega, h0.2⟩
  · split at h
    · rename_i h0; exact ⟨1, by omega, h0.2⟩
    · split at h
      · rename_i h0; exact ⟨2, by omega, h0.2⟩
      · omega
theorem neut_dict {n v : Int} {zs ws : List Int} (hv : vrB n zs v ws = true) (h : neutR n zs v ws = false) : dictR n zs v ws < 0 := by
  have hr := (vr_of hv).2
  by_cases hd : dictR n zs v ws < 0
  · exact hd
  · exfalso
    unfold dictR at hd
    rw [if_pos hv] at hd
    obtain ⟨i, hi, hP⟩ := firstI_in hd
    have hall := any_hold.1 hP
    have : neutR n zs v ws = true := by
      rw [neutR_yes hv]
      exact any_hold.2 fun x hx => dict_own hr.1 (hr.range x hx) hi (hall x hx)
    rw [h] at this
    cases this
theorem neut_mono {n v : Int} {zs ws : List Int} (hv : vrB n zs v ws = true) (h1 : neutR n zs v ws = true) (h2 : monoR n zs v ws = true) : unanR n zs v ws = true := by
  have hr := (vr_of hv).2
  rw [neutR_yes hv] at h1
  rw [monoR_yes hv] at h2
  rw [unanR_yes hv]
  exact any_hold.2 fun x hx => neut_unan hr.1 (hr.range x hx) (any_hold.1 h1 x hx) (any_hold.1 h2 x hx)
theorem SR.cells5 {w0 w : World} {n v : Int} {a b : Option Addr} {zs ws : List Int} {cap capb : Nat} (h : SR w0 n a zs cap v b ws capb w) :
    w.cell? ⟨w0.heap.size, 0, none⟩ = some (.int .i64 n) ∧ w.cell? ⟨w0.heap.size, 1, none⟩ = some (.slice a zs.length cap) ∧ w.cell? ⟨w0.heap.size + 1, 0, none⟩ = some (.int .i64 v) ∧ w.cell? ⟨w0.heap.size + 1, 1, none⟩ = some (.slice b ws.length capb) :=
  ⟨h.1.2.1, h.1.2.2, h.2.1.2.1, h.2.1.2.2⟩
theorem implNeut_was (n v : Int) (a b : Option Addr) (cap capb : Nat) (zs ws : List Int) (w : World) (r : Bool) (hi : Ints w a zs) (hj : Ints w b ws) (hn : zs.length ≤ 1048576) (hm : ws.length ≤ 1048576) (hr : neutR n zs v ws = r) :
    Calls Try.prog 23 #[.agg #[.int .i64 n, .slice a zs.length cap], .agg #[.int .i64 v, .slice b ws.length capb]] w fun e w' => e = .returned (.bool r) ∧ Below w.heap.size w w' := by
  subst hr
  exact implIsNeutral_any n v a b cap capb zs ws w hi hj hn hm
theorem implMono_was (n v : Int) (a b : Option Addr) (cap capb : Nat) (zs ws : List Int) (w : World) (r : Bool) (hi : Ints w a zs) (hj : Ints w b ws) (hn : zs.length ≤ 1048576) (hm : ws.length ≤ 1048576) (hr : monoR n zs v ws = r) :
    Calls Try.prog 14 #[.agg #[.int .i64 n, .slice a zs.length cap], .agg #[.int .i64 v, .slice b ws.length capb]] w fun e w' => e = .returned (.bool r) ∧ Below w.heap.size w w' := by
  subst hr
  exact implIsMonotone_any n v a b cap capb zs ws w hi hj hn hm
theorem implUnan_was (n v : Int) (a b : Option Addr) (cap capb : Nat) (zs ws : List Int) (w : World) (r : Bool) (hi : Ints w a zs) (hj : Ints w b ws) (hn : zs.length ≤ 1048576) (hm : ws.length ≤ 1048576) (hr : unanR n zs v ws = r) :
    Calls Try.prog 22 #[.agg #[.int .i64 n, .slice a zs.length cap], .agg #[.int .i64 v, .slice b ws.length capb]] w fun e w' => e = .returned (.bool r) ∧ Below w.heap.size w w' := by
  subst hr
  exact implIsUnanimous_any n v a b cap capb zs ws w hi hj hn hm
theorem implDict_was (n v : Int) (a b : Option Addr) (cap capb : Nat) (zs ws : List Int) (w : World) (r : Int) (hi : Ints w a zs) (hj : Ints w b ws) (hn : zs.length ≤ 1048576) (hm : ws.length ≤ 1048576) (hr : dictR n zs v ws = r) :
    Calls Try.prog 20 #[.agg #[.int .i64 n, .slice a zs.length cap], .agg #[.int .i64 v, .slice b ws.length capb]] w fun e w' => e = .returned (.int .i64 r) ∧ Below w.heap.size w w' := by
  subst hr
  exact implDictatorOf_any n v a b cap capb zs ws w hi hj hn hm
theorem implRule_was (n v : Int) (a b : Option Addr) (cap capb : Nat) (zs ws : List Int) (w : World) (r : Bool) (hi : Ints w a zs) (hj : Ints w b ws) (hn : zs.length ≤ 1048576) (hm : ws.length ≤ 1048576) (hr : vrB n zs v ws = r) :
    Calls Try.prog 13 #[.agg #[.int .i64 n, .slice a zs.length cap], .agg #[.int .i64 v, .slice b ws.length capb]] w fun e w' => e = .returned (.bool r) ∧ Below w.heap.size w w' := by
  subst hr
  exact implValidRule_any n v a b cap capb zs ws w hi hj hn hm
end Go.Proofs.Ytnmfhnieknckcaa

/- SmE: Safe rules are those whose groups meet: plain mathematics. -/
namespace Go.Proofs.Ytnmfhnieknckcaa
open Go.RowKit Go.Joins

/-- where groups do not meet there are some that have no voter in common -/
theorem mt_false {v : Nat} {ws : List Int} {m : Nat × Nat} : ∀ (k j c : Nat), mtK v ws m k j c = false → ∃ g : Nat → Nat, (∀ i, j ≤ i → i < j + k → bitN m.1 i = 1 → g i < 2 ^ v ∧ winB v ws m i (g i) = true) ∧ ∀ t, c.testBit t = true → ∃ i, j ≤ i ∧ i < j + k ∧ bitN m.1 i = 1 ∧ (g i).testBit t = false
  | 0, j, c, h => by
    rw [mtK, decide_eq_false_iff_not] at h
    obtain rfl : c = 0 := by omega
    exact ⟨fun _ => 0, fun i h1 h2 => by omega, fun t ht => by simp at ht⟩
  | k + 1, j, c, h => by
    by_cases hb : bitN m.1 j = 0
    · rw [mtK_skip hb] at h
      obtain ⟨g, h1, h2⟩ := mt_false k (j + 1) c h
      refine ⟨g, fun i a b e => ?_, fun t ht => ?_⟩
      · rcases Nat.eq_or_lt_of_le a with e2 | e2
        · subst e2
          rw [hb] at e
          cases e
        · exact h1 i e2 (by omega) e
      · obtain ⟨i, a, b, d⟩ := h2 t ht
        exact ⟨i, by omega, by omega, d⟩
    · have hb1 : bitN m.1 j = 1 := by have := bitN_le m.1 j; omega
      have hx : ∃ x, x < 2 ^ v ∧ winB v ws m j x = true ∧ mtK v ws m k (j + 1) (c &&& x) = false := by
        refine Classical.byContradiction fun hno => ?_
        have hyes := mtK_yes (v := v) (ws := ws) (m := m) (k := k) (j := j) (c := c) hb1 (fun x hx => by
          cases hw : winB v ws m j x with
          | false => rfl
          | true =>
            cases hm : mtK v ws m k (j + 1) (c &&& x) with
            | true => rfl
            | false => exact absurd ⟨x, hx, hw, hm⟩ hno)
        rw [hyes] at h
        cases h
      obtain ⟨x, hx, hw, hm⟩ := hx
      obtain ⟨g, h1, h2⟩ := mt_false k (j + 1) (c &&& x) hm
      refine ⟨fun i => if i = j then x else g i, fun i a b e => ?_, fun t ht => ?_⟩
      · show (if i = j then x else g i) < 2 ^ v ∧ winB v ws m i (if i = j then x else g i) = true
        by_cases e2 : i = j
        · rw [if_pos e2, e2]
          exact ⟨hx, hw⟩
        · rw [if_neg e2]
          exact h1 i (by omega) (by omega) e
      · by_cases hxt : x.testBit t = true
        · obtain ⟨i, a, b, d, f⟩ := h2 t (by rw [Nat.testBit_and, ht, hxt]; rfl)
          refine ⟨i, by omega, by omega, d, ?_⟩
          show (if i = j then x else g i).testBit t = false
          rw [if_neg (by omega)]
          exact f
        · refine ⟨j, Nat.le_refl _, by omega, hb1, ?_⟩
          show (if j = j then x else g j).testBit t = false
          rw [if_pos rfl]
          simpa using hxt

def upC (v : Nat) : Bool := (List.range 256).all fun x => !monoC (v : Int) x || (List.range 8).all fun g => (List.range 8).all fun h => !(decide (g < 2 ^ v) && decide (h < 2 ^ v) && (g &&& h == g) && (bitN x g == 1)) || (bitN x h == 1)
theorem up_chk1 : upC 1 = true := by kernel_rfl
theorem up_chk2 : upC 2 = true := by kernel_rfl
theorem up_chk3 : upC 3 = true := by kernel_rfl
/-- a greater group of one that wins wins -/
theorem mono_up {v : Nat} (hv : 1 ≤ v ∧ v ≤ 3) {x g h : Nat} (hx : x < 256) (hm : monoC (v : Int) x = true) (hg : g < 2 ^ v) (hh : h < 2 ^ v) (hs : g &&& h = g) (hb : bitN x g = 1) : bitN x h = 1 := by
  have h8 : 2 ^ v ≤ 2 ^ 3 := Nat.pow_le_pow_right (by omega) hv.2
  have hc : upC v = true := by
    rcases (show v = 1 ∨ v = 2 ∨ v = 3 from by omega) with rfl | rfl | rfl
    · exact up_chk1
    · exact up_chk2
    · exact up_chk3
  unfold upC at hc
  rw [List.all_eq_true] at hc
  have h1 := hc x (List.mem_range.2 hx)
  rw [hm, Bool.not_true, Bool.false_or, List.all_eq_true] at h1
  have h2 := h1 g (List.mem_range.2 (by omega))
  rw [List.all_eq_true] at h2
  have h3 := h2 h (List.mem_range.2 (by omega))
  rw [decide_eq_true hg, decide_eq_true hh, hs, hb] at h3
  simpa using h3
theorem comp_sub : ∀ v : Fin 4, ∀ g : Fin 8, ∀ h : Fin 8, g.val < 2 ^ v.val → h.val < 2 ^ v.val → g.val &&& h.val = g.val → (2 ^ v.val - 1 - h.val) &&& (2 ^ v.val - 1 - g.val) = 2 ^ v.val - 1 - h.val := by decide +kernel
theorem win_up {v : Nat} (hv : 1 ≤ v ∧ v ≤ 3) {ws : List Int} {m : Nat × Nat} {j g h : Nat} (hx : (ws.getD j 0).toNat < 256) (hm : monoC (v : Int) (ws.getD j 0).toNat = true) (hg : g < 2 ^ v) (hh : h < 2 ^ v) (hs : g &&& h = g) (hw : winB v ws m j g = true) : winB v ws m j h = true := by
  have h8 : 2 ^ v ≤ 2 ^ 3 := Nat.pow_le_pow_right (by omega) hv.2
  unfold winB at hw ⊢
  by_cases hb : bitN m.2 j = 0
  · rw [if_pos hb, beq_iff_eq] at hw ⊢
    have l := bitN_le (ws.getD j 0).toNat (2 ^ v - 1 - h)
    rcases (show bitN (ws.getD j 0).toNat (2 ^ v - 1 - h) = 0 ∨ bitN (ws.getD j 0).toNat (2 ^ v - 1 - h) = 1 from by omega) with e | e
    · exact e
    · have hp := Nat.two_pow_pos v
      have := mono_up hv hx hm (g := 2 ^ v - 1 - h) (h := 2 ^ v - 1 - g) (by omega) (by omega) (comp_sub ⟨v, by omega⟩ ⟨g, by omega⟩ ⟨h, by omega⟩ hg hh hs) e
      omega
  · rw [if_neg hb, beq_iff_eq] at hw ⊢
    exact mono_up hv hx hm hg hh hs hw
theorem sub_bits {v g h : Nat} (hg : g < 2 ^ v) (hb : ∀ t, t < v → g.testBit t = true → h.testBit t = true) : g &&& h = g := by
  apply Nat.eq_of_testBit_eq
  intro t
  rw [Nat.testBit_and]
  cases hgt : g.testBit t with
  | false => rfl
  | true =>
    rcases Nat.lt_or_ge t v with h1 | h1
    · rw [hb t h1 hgt]; rfl
    · have : g < 2 ^ t := Nat.lt_of_lt_of_le hg (Nat.pow_le_pow_right (by omega) h1)
      rw [Nat.testBit_lt_two_pow this] at hgt
      cases hgt
theorem applyK_bitS (vs ws : List Int) : ∀ k i, i < k → bitN (applyK vs ws k) i = bitN (ws.getD i 0).toNat (groupK vs i vs.length)
  | 0, i, h => by omega
  | k + 1, i, h => by
    have hb := bitN_le (ws.getD k 0).toNat (groupK vs k vs.length)
    have hlt := applyK_lt vs ws k
    rw [applyK]
    rcases Nat.lt_or_ge i k with h1 | h1
    · rw [← applyK_bitS vs ws k i h1]
      generalize bitN (ws.getD k 0).toNat (groupK vs k vs.length) = b
      unfold bitN
      have e : applyK vs ws k + 2 ^ k * b = applyK vs ws k + 2 ^ i * (2 * (2 ^ (k - i - 1) * b)) := by
        have e2 : 2 ^ k = 2 ^ i * (2 * 2 ^ (k - i - 1)) := by
          rw [← Nat.pow_succ', ← Nat.pow_add]
          congr 1
          omega
        rw [e2, Nat.mul_assoc, Nat.mul_assoc]
      rw [e, Nat.add_mul_div_left _ _ (Nat.two_pow_pos i), Nat.add_mul_mod_self_left]
    · obtain rfl : i = k := by omega
      generalize bitN (ws.getD i 0).toNat (groupK vs i vs.length) = b at hb ⊢
      show (applyK vs ws i + 2 ^ i * b) / 2 ^ i % 2 = b
      rw [Nat.add_mul_div_left _ _ (Nat.two_pow_pos i), Nat.div_eq_of_lt hlt, Nat.zero_add]
      omega
theorem bitN_and (x c t : Nat) : bitN (x &&& c) t = bitN x t * bitN c t := by
  rw [bitN_eq, bitN_eq x, bitN_eq c, Nat.testBit_and]
  cases x.testBit t <;> cases c.testBit t <;> rfl
theorem and_bits {x c b : Nat} (hc : c < 16) (hb : b &&& c = b) (h : ∀ t, t < 4 → bitN c t = 1 → bitN x t = bitN b t) : x &&& c = b := by
  have hb16 : b < 16 := by
    have : b &&& c ≤ c := Nat.and_le_right
    omega
  have hx16 : x &&& c < 16 := by
    have : x &&& c ≤ c := Nat.and_le_right
    omega
  refine bits_ext hx16 hb16 fun t ht => ?_
  have l := bitN_le c t
  rcases (show bitN c t = 0 ∨ bitN c t = 1 from by omega) with e | e
  · rw [← hb, bitN_and, bitN_and, e]
    simp
  · rw [bitN_and, e, h t ht e, Nat.mul_one]
theorem bits_and {x c b t : Nat} (h : x &&& c = b) (ht : bitN c t = 1) : bitN x t = bitN b t := by
  rw [← h, bitN_and, ht, Nat.mul_one]
/-- what all lists of votes lead to is what all lists from some on lead to -/
theorem safeK_of {zs ws : List Int} : ∀ (k : Nat) (pre : List Int), (∀ vs : List Int, vs.length = k → (∀ x ∈ vs, x ∈ zs) → hasB zs ((applyK (pre ++ vs) ws ws.length : Nat) : Int) = true) → safeK zs ws k pre = true
  | 0, pre, h => by
    have := h [] rfl (fun x hx => by cases hx)
    rwa [List.append_nil] at this
  | k + 1, pre, h => by
    show (zs.all fun x => safeK zs ws k (pre ++ [x])) = true
    rw [List.all_eq_true]
    intro x hx
    refine safeK_of k (pre ++ [x]) fun vs hl hin => ?_
    rw [List.append_assoc, List.singleton_append]
    exact h (x :: vs) (by simp [hl]) (fun y hy => by
      rcases List.mem_cons.1 hy with e | e
      · rw [e]; exact hx
      · exact hin y e)
theorem hasB_iff {zs : List Int} {x : Int} : hasB zs x = true ↔ x ∈ zs := by unfold hasB; exact decide_eq_true_iff
/-- if groups meet all votes lead to judgments -/
theorem meet_safe {v : Nat} (hv : 1 ≤ v ∧ v ≤ 3) {zs ws : List Int} (hV : Valid (ws.length : Int) zs) (h : ∀ m ∈ critL ws.length zs, mtK v ws m ws.length 0 (2 ^ v - 1) = true) : safeK zs ws v [] = true := by
  have hn : ws.length ≤ 4 := by have := hV.1; omega
  refine safeK_of v [] fun vs hl hin => ?_
  rw [List.nil_append, hasB_iff]
  have hlt := applyK_lt vs ws ws.length
  generalize hx : applyK vs ws ws.length = x at hlt
  refine Classical.byContradiction fun hno => ?_
  have ho : opn zs (2 ^ ws.length - 1, x) = false := by
    rcases Bool.eq_false_or_eq_true (opn zs (2 ^ ws.length - 1, x)) with e | e
    · exact absurd ((opn_full hV hlt).1 e) hno
    · exact e
  rw [opn_crit hn zs (full_mem hn hlt), Bool.not_eq_false', List.any_eq_true] at ho
  obtain ⟨m, hm, hs⟩ := ho
  have hf := ord_facts hn (crit_mem.1 hm).1
  rw [sub_full hf.1, beq_iff_eq] at hs
  obtain ⟨_, _, hclosed, h16, _⟩ := crit_pt hV hm
  have hpos := mt_and (vs := vs) ws.length 0 (2 ^ v - 1) (h m hm) (fun i _ hi hb => by
    rw [win_ag, beq_iff_eq]
    have e := bits_and hs hb
    rw [← hx, applyK_bitS vs ws ws.length i (by omega), hl] at e
    exact e)
  have hex : ∃ t, (andA v m vs ws.length 0 (2 ^ v - 1)).testBit t = true := Classical.byContradiction fun hno => by
    have h0 : andA v m vs ws.length 0 (2 ^ v - 1) = 0 := Nat.eq_of_testBit_eq fun i => by
      rw [Nat.zero_testBit]
      cases hb : (andA v m vs ws.length 0 (2 ^ v - 1)).testBit i with
      | false => rfl
      | true => exact absurd ⟨i, hb⟩ hno
    omega
  obtain ⟨t, ht⟩ := hex
  obtain ⟨h1, h2⟩ := andA_bit ws.length 0 (2 ^ v - 1) ht
  rw [Nat.testBit_two_pow_sub_one, decide_eq_true_eq] at h1
  have hmem : vs.getD t 0 ∈ zs := by
    rw [getD_lt (by omega)]
    exact hin _ (List.getElem_mem _)
  have hag : (vs.getD t 0).toNat &&& m.1 = m.2 := and_bits h16 hf.2.1 fun s hs4 hb => by
    have hsN : s < ws.length := by
      refine Classical.byContradiction fun hge => ?_
      have h1 : m.1 < 2 ^ s := Nat.lt_of_lt_of_le hf.1 (Nat.pow_le_pow_right (by omega) (by omega))
      unfold bitN at hb
      rw [Nat.div_eq_of_lt h1] at hb
      omega
    have := h2 s (Nat.zero_le _) (by omega) hb
    rw [agN_bit hv.2 m vs s h1, beq_iff_eq] at this
    exact this
  have hop : opn zs m = true := opn_iff.2 ⟨_, hmem, hag⟩
  have hno2 : opn zs m = false := hclosed
  rw [hop] at hno2
  cases hno2
/-- if all votes lead to judgments by a monotone rule groups meet -/
theorem safe_meets {v : Nat} (hv : 1 ≤ v ∧ v ≤ 3) {zs ws : List Int} (hV : Valid (ws.length : Int) zs) (hr : ∀ x ∈ ws, 0 ≤ x ∧ x ≤ 255) (hmono : ∀ x ∈ ws, monoC (v : Int) x.toNat = true) (h : safeK zs ws v [] = true) {m : Nat × Nat} (hm : m ∈ critL ws.length zs) : mtK v ws m ws.length 0 (2 ^ v - 1) = true := by
  have hn : ws.length ≤ 4 := by have := hV.1; omega
  have p2 : 2 ^ ws.length ≤ 16 := Nat.pow_le_pow_right (n := 2) (by omega) hn
  rcases Bool.eq_false_or_eq_true (mtK v ws m ws.length 0 (2 ^ v - 1)) with hmt | hmt
  · exact hmt
  exfalso
  obtain ⟨g, hg, hz⟩ := mt_false _ _ _ hmt
  have hf := ord_facts hn (crit_mem.1 hm).1
  have hcr := (cr_iff.1 (crit_mem.1 hm).2).2
  obtain ⟨_, _, hclosed, h16, _⟩ := crit_pt hV hm
  have hy : ∀ t, ∃ y : Int, t < v → y ∈ zs ∧ ∃ i, i < ws.length ∧ bitN m.1 i = 1 ∧ (g i).testBit t = false ∧ y.toNat &&& (m.1 - 2 ^ i) = m.2 - (m.2 &&& 2 ^ i) := fun t => by
    by_cases ht : t < v
    · obtain ⟨i, _, hi, hb, hgt⟩ := hz t (by rw [Nat.testBit_two_pow_sub_one, decide_eq_true_eq]; exact ht)
      obtain ⟨y, hy, e⟩ := opn_iff.1 (hcr i (by omega) hb)
      exact ⟨y, fun _ => ⟨hy, i, by omega, hb, hgt, e⟩⟩
    · exact ⟨0, fun h => absurd h ht⟩
  obtain ⟨yf, hyf⟩ := Classical.axiomOfChoice hy
  have hlen : ((List.range v).map yf).length = v := by simp
  have hat : ∀ t, t < v → ((List.range v).map yf).getD t 0 = yf t := fun t ht => by
    rw [getD_lt (by rw [hlen]; exact ht)]
    simp
  have hall := safeK_all v [] ((List.range v).map yf) h hlen (fun x hx => by
    obtain ⟨t, ht, rfl⟩ := List.mem_map.1 hx
    exact (hyf t (List.mem_range.1 ht)).1)
  rw [List.nil_append, hasB_iff] at hall
  generalize (List.range v).map yf = vs at hlen hat hall
  have hlt := applyK_lt vs ws ws.length
  have key : ∀ j, j < ws.length → bitN m.1 j = 1 → bitN (applyK vs ws ws.length) j = bitN m.2 j := fun j hj hb => by
    rw [applyK_bitS vs ws ws.length j hj, hlen]
    obtain ⟨hgl, hgw⟩ := hg j (Nat.zero_le _) (by omega) hb
    have hsub : g j &&& agN v m vs j = g j := sub_bits hgl fun t ht hgt => by
      rw [agN_bit hv.2 m vs j ht, beq_iff_eq, hat t ht]
      obtain ⟨hyz, i, hi, hbi, hgi, he⟩ := hyf t ht
      have hne : j ≠ i := fun e => by
        rw [e] at hgt
        rw [hgt] at hgi
        cases hgi
      have h1 := valid_lt hV hyz
      have hbit := less_bit h16 hf.2.1 (by omega) (show (yf t).toNat < 16 by omega) hbi he (show j < 4 by omega) hne
      rw [bitN_and, hb, Nat.mul_one] at hbit
      exact hbit
    have hrj := hr _ (List.getElem_mem hj)
    have hmj := hmono _ (List.getElem_mem hj)
    have hw := win_up hv (ws := ws) (m := m) (j := j) (by rw [getD_lt hj]; omega) (by rw [getD_lt hj]; exact hmj) hgl (agN_lt v m vs j) hsub hgw
    rw [win_ag, beq_iff_eq] at hw
    exact hw
  have hag : applyK vs ws ws.length &&& m.1 = m.2 := and_bits h16 hf.2.1 fun s hs4 hb => by
    have hsN : s < ws.length := by
      refine Classical.byContradiction fun hge => ?_
      have h1 : m.1 < 2 ^ s := Nat.lt_of_lt_of_le hf.1 (Nat.pow_le_pow_right (by omega) (by omega))
      unfold bitN at hb
      rw [Nat.div_eq_of_lt h1] at hb
      omega
    exact key s hsN hb
  have hop : opn zs m = true := opn_iff.2 ⟨_, hall, by rw [Int.toNat_natCast]; exact hag⟩
  have hno2 : opn zs m = false := hclosed
  rw [hop] at hno2
  cases hno2
/-- a monotone rule is safe exactly if its groups meet -/
theorem safe_meet {n v : Int} {zs ws : List Int} (hv : vrB n zs v ws = true) (hm : monoR n zs v ws = true) : safeR n zs v ws = meetR n zs v ws := by
  obtain ⟨hV, hr⟩ := vr_of hv
  have hrv := hr.1
  have hrl := hr.2.1
  obtain rfl : n = (ws.length : Int) := by omega
  obtain ⟨vN, rfl⟩ : ∃ vN : Nat, v = (vN : Int) := ⟨v.toNat, by omega⟩
  have hvN : 1 ≤ vN ∧ vN ≤ 3 := by omega
  rw [safeR_yes hv, meetR_yes hv, Int.toNat_natCast, Int.toNat_natCast, Bool.eq_iff_iff, Bool.not_eq_true', List.any_eq_false]
  constructor
  · intro hs m hmem hnone
    rw [monoR_yes hv] at hm
    have hmono : ∀ x ∈ ws, monoC (vN : Int) x.toNat = true := fun x hx => by
      have h1 := hr.range x hx
      rw [← mono_eq hrv h1]
      obtain ⟨i, hi, e⟩ := List.getElem_of_mem hx
      have := all_not.1 hm i hi
      rwa [getD_lt hi, e] at this
    have := safe_meets hvN hV hr.range hmono hs hmem
    rw [mt_none hvN, hnone] at this
    cases this
  · intro hall
    refine meet_safe hvN hV fun m hmem => ?_
    rw [mt_none hvN]
    have := hall m hmem
    simpa using this
theorem meet_empty {n v : Int} {zs ws : List Int} (hv : vrB n zs v ws = true) (h : (critL n.toNat zs).length = 0) : meetR n zs v ws = true := by
  rw [meetR_yes hv, List.length_eq_zero_iff.1 h]
  rfl

def dictC (v : Nat) : Bool := (List.range 256).all fun x => (List.range 3).all fun i => !(decide (i < v) && (List.range 8).all fun g => !decide (g < 2 ^ v) || (bitN x g == bitN g i)) || (monoC (v : Int) x && !badUnan (v : Int) x && neutC (v : Int) x)
theorem dict_chk1 : dictC 1 = true := by kernel_rfl
theorem dict_chk2 : dictC 2 = true := by kernel_rfl
theorem dict_chk3 : dictC 3 = true := by kernel_rfl
theorem dict_all {v : Nat} (hv : 1 ≤ v ∧ v ≤ 3) {x i : Nat} (hx : x < 256) (hi : i < v) (h : ∀ g, g < 2 ^ v → bitN x g = bitN g i) : monoC (v : Int) x = true ∧ badUnan (v : Int) x = false ∧ neutC (v : Int) x = true := by
  have hc : dictC v = true := by
    rcases (show v = 1 ∨ v = 2 ∨ v = 3 from by omega) with rfl | rfl | rfl
    · exact dict_chk1
    · exact dict_chk2
    · exact dict_chk3
  unfold dictC at hc
  rw [List.all_eq_true] at hc
  have h1 := hc x (List.mem_range.2 hx)
  rw [List.all_eq_true] at h1
  have h2 := h1 i (List.mem_range.2 (by omega))
  have h3 : ((List.range 8).all fun g => !decide (g < 2 ^ v) || (bitN x g == bitN g i)) = true := by
    rw [List.all_eq_true]
    intro g _
    by_cases hg : g < 2 ^ v
    · rw [h g hg]; simp
    · simp [hg]
  rw [h3, decide_eq_true hi] at h2
  simp only [Bool.and_self, Bool.not_true, Bool.false_or, Bool.and_eq_true, Bool.not_eq_true'] at h2
  exact ⟨h2.1.1, h2.1.2, h2.2⟩
theorem not_any_of {p : Int → Bool} {ws : List Int} (h : ∀ x ∈ ws, p x = true) : (!ws.any fun x => !p x) = true :=
  all_not.2 fun j hj => by rw [getD_lt hj]; exact h _ (List.getElem_mem hj)
/-- dictators are all that a rule may be -/
theorem dict_facts {n v d : Int} {zs ws : List Int} (hv : vrB n zs v ws = true) (hd : dictR n zs v ws = d) (hd0 : ¬ d < 0) : d < v ∧ monoR n zs v ws = true ∧ unanR n zs v ws = true ∧ neutR n zs v ws = true ∧ safeR n zs v ws = true ∧ meetR n zs v ws = true := by
  obtain ⟨hV, hr⟩ := vr_of hv
  have hrv := hr.1
  obtain ⟨vN, rfl⟩ : ∃ vN : Nat, v = (vN : Int) := ⟨v.toNat, by omega⟩
  have hvN : 1 ≤ vN ∧ vN ≤ 3 := by omega
  have hd2 := hd
  rw [dictR_yes hv] at hd2
  obtain ⟨i, hi, hD, hdi⟩ := firstI_inA hd2 hd0
  have hall : ∀ x ∈ ws, monoC (vN : Int) x.toNat = true ∧ badUnan (vN : Int) x.toNat = false ∧ neutC (vN : Int) x.toNat = true := fun x hx => by
    have h1 := hr.range x hx
    exact dict_all hvN (by omega) (show i < vN by omega) fun g hg => dictA hrv (isD_all hD x hx) g (by rw [pwN]; omega)
  have hmono : monoR n zs (vN : Int) ws = true := by
    rw [monoR_yes hv]
    exact not_any_of fun x hx => by rw [mono_eq hrv (hr.range x hx)]; exact (hall x hx).1
  have hsafe : safeR n zs (vN : Int) ws = true := by
    rw [safeR_yes hv, Int.toNat_natCast]
    refine safeK_of vN [] fun vs hl hin => ?_
    rw [List.nil_append, hasB_iff]
    have hok : ApplyOk n zs (vN : Int) ws vs := ⟨hv, votesB_true ⟨fun j hj => by rw [getD_lt hj]; exact hin _ (List.getElem_mem hj), by omega, by omega⟩, by omega⟩
    have hap := applyR_yes hok
    obtain ⟨k, _, hk, he⟩ := app_dict hap (by omega) hd hd0
    rw [← he, getD_lt hk]
    exact hin _ (List.getElem_mem hk)
  refine ⟨by omega, hmono, ?_, ?_, hsafe, ?_⟩
  · rw [unanR_yes hv]
    exact not_any_of fun x hx => by rw [unan_eq hrv (hr.range x hx), (hall x hx).2.1]; rfl
  · rw [neutR_yes hv]
    exact not_any_of fun x hx => by rw [neut_eq hrv (hr.range x hx)]; exact (hall x hx).2.2
  · rw [← safe_meet hv hmono]
    exact hsafe
end Go.Proofs.Ytnmfhnieknckcaa

/- SafeS: IsSafe in the model. -/
namespace Go.Proofs.Ytnmfhnieknckcaa
open Go.RowKit Go.Joins

theorem own_emptyS (w : World) (base : Nat) (hb : base ≤ w.heap.size) : (w.alloc (.cells #[] 3)).ownsRow base 3 1 (.slice (some ⟨w.heap.size, 0, none⟩) 0 0) 0 [] :=
  World.ownsRow_made w #[] 0 hb (by unfold maxLen; omega) rfl
theorem owns_row {w : World} {base m : Nat} {v : Value} {vs : List Int} (hm : vs.length = m) (h : Owns w base v vs) : w.ownsRow base 3 1 v m (vs.map (Value.int .i64)) := by subst hm; exact h
theorem first5 {wr W w5 : World} {v5 : Value} {vs : List Int} {k m : Nat} (hm : vs.length = m) (hB : Below wr.drew.heap.size wr.drew W) (ho : w5.ownsRow wr.heap.size 3 1 v5 (0 + m) ([] ++ vs.map (Value.int .i64))) (hg : W.grownBy w5 (some k)) (hk : wr.heap.size ≤ k) :
    Owns w5 wr.heap.size v5 vs ∧ Below wr.heap.size wr w5 := by
  subst hm
  refine ⟨by unfold Owns; simpa using ho, ?_⟩
  exact (bdrew hB).grown hg (bdrew hB).size (fun j hj => by cases hj; exact hk)
theorem last7 {wr w5 W w7 : World} {v5 v7 : Value} {vs : List Int} {z : Int} {m : Nat} (hm : vs.length = m) (h : Owns w5 wr.heap.size v5 vs ∧ Below wr.heap.size wr w5) (hB : Below w5.heap.size w5 W) (ho : w7.ownsRow wr.heap.size 3 1 v7 (m + 1) (vs.map (Value.int .i64) ++ [.int .i64 z])) (hg : W.grownBy w7 v5.ownBlock) :
    Owns w7 wr.heap.size v7 (vs ++ [z]) ∧ Below wr.heap.size wr w7 := by
  subst hm
  exact ⟨Owns.push ho, (bnext h.2 hB).grown hg (bnext h.2 hB).size (fun k hk => own_ge h.1 k hk)⟩
/-- what safeFrom promises for k more votes -/
def Safes (n : Int) (a : Option Addr) (zs : List Int) (cap : Nat) (v : Int) (b : Option Addr) (ws : List Int) (capb k : Nat) : Prop :=
  ∀ (vs : List Int) (m : Nat) (ad : Addr) (capl : Nat) (w : World), Ints w a zs → Ints w b ws → Ints w (some ad) vs → vs.length = m → m + k = v.toNat → (∀ x ∈ vs, 0 ≤ x ∧ x ≤ 255) →
    Calls Try.prog 52 #[.agg #[.int .i64 n, .slice a zs.length cap], .agg #[.int .i64 v, .slice b ws.length capb], .slice (some ad) m capl] w fun e w' => e = .returned (.bool (safeK zs ws k vs)) ∧ Below w.heap.size w w'
theorem SR.cells {w0 w : World} {n v : Int} {a b : Option Addr} {zs ws : List Int} {cap capb : Nat} (h : SR w0 n a zs cap v b ws capb w) :
    w.cell? ⟨w0.heap.size, 0, none⟩ = some (.int .i64 n) ∧ w.cell? ⟨w0.heap.size, 1, none⟩ = some (.slice a zs.length cap) ∧ w.cell? ⟨w0.heap.size + 1, 0, none⟩ = some (.int .i64 v) ∧ w.cell? ⟨w0.heap.size + 1, 1, none⟩ = some (.slice b ws.length capb) :=
  ⟨h.1.2.1, h.1.2.2, h.2.1.2.1, h.2.1.2.2⟩
theorem news_ints {w W : World} {ad : Addr} {vs : List Int} (h : Ints w (some ad) vs) (hB : Below w.heap.size w W) : ∀ j u, (vs.map (Value.int .i64))[j]? = some u → W.cell? (ad.add j) = some u := by
  intro j u hu
  rw [List.getElem?_map] at hu
  have hj : j < vs.length := by
    rcases Nat.lt_or_ge j vs.length with h | h
    · exact h
    · rw [List.getElem?_eq_none h] at hu; cases hu
  obtain ⟨b, off, e, hlt, hc⟩ := h (by omega)
  cases e
  have e1 : (⟨b, off, none⟩ : Addr).add j = ⟨b, off + j, none⟩ := by
    unfold Addr.add
    by_cases h : j = 0 <;> simp [h]
  rw [e1]
  have := (hB.cell (p := ⟨b, off + j, none⟩) hlt).trans (hc j hj)
  rw [this, getD_lt hj]
  rw [List.getElem?_eq_getElem hj] at hu
  exact hu
theorem own_emptyS1 (w : World) (o : Obj) (base : Nat) (hb : base ≤ w.heap.size) : ((w.alloc o).alloc (.cells #[] 3)).ownsRow base 3 1 (.slice (some ⟨w.heap.size + 1, 0, none⟩) 0 0) 0 [] := by
  have h := own_emptyS (w.alloc o) base (by rw [World.size_alloc]; omega)
  rw [World.size_alloc] at h
  exact h
theorem lit_kept2 {w w5 : World} {x : Int} (hg : ((w.alloc (.cells #[] 3)).alloc (.cells #[.int .i64 x] 3)).drew.grownBy w5 (some w.heap.size)) : w5.heap[w.heap.size + 1]? = some (.cells #[.int .i64 x] 3 (0, 0)) := by
  have h := heap_alloc_new (w.alloc (.cells #[] 3)) (.cells #[.int .i64 x] 3)
  rw [World.size_alloc] at h
  exact (hg.block (w.heap.size + 1) (by show w.heap.size + 1 < ((w.alloc (.cells #[] 3)).alloc (.cells #[.int .i64 x] 3)).heap.size; simp) (by simp)).trans h
theorem lit_kept3 {w w5 : World} {x : Int} (hg : ((w.alloc (.cells #[.int .i64 x] 3)).alloc (.cells #[] 3)).drew.grownBy w5 (some (w.heap.size + 1))) : w5.heap[w.heap.size]? = some (.cells #[.int .i64 x] 3 (0, 0)) := by
  have h := heap_alloc_new w (.cells #[.int .i64 x] 3)
  have h2 := ((bel1 (w.alloc (.cells #[.int .i64 x] 3)) (.cells #[] 3)).block w.heap.size (by simp)).trans h
  exact (hg.block w.heap.size (by show w.heap.size < ((w.alloc (.cells #[.int .i64 x] 3)).alloc (.cells #[] 3)).heap.size; rw [World.size_alloc, World.size_alloc]; omega) (by simp)).trans h2
theorem own_drewS {w : World} {base n : Nat} {e : TypeId} {size : Nat} {v : Value} {xs : List Value} (h : w.ownsRow base e size v n xs) : w.drew.ownsRow base e size v n xs := h
theorem bel_drewS {w W : World} (h : Below w.heap.size w W) : Below w.drew.heap.size w.drew W.drew := ⟨h.os, h.tape, h.output, h.size, h.block⟩
set_option maxHeartbeats 4000000 in
set_option maxRecDepth 100000 in
theorem safeLeaf_any (n v : Int) (a b : Option Addr) (cap capb : Nat) (zs ws : List Int) (hn : 1 ≤ n ∧ n ≤ 4) (hv : 1 ≤ v ∧ v ≤ 3) (hl : (ws.length : Int) = n) (hw : ∀ x ∈ ws, 0 ≤ x ∧ x ≤ 255) (hzn : zs.length ≤ 1048576) : Safes n a zs cap v b ws capb 0 := by
  intro vs m ad capl w hi hj hvs hm hk hr
  have S0 := SR.new w n v a b zs ws cap capb 25 27 hi hj
  have I0 := hvs.below S0.2.2.2.2
  have HW := hide hw
  have HR := hide hr
  subst hm
  have hE : ((vs.length : Int) == v) = true := by rw [beq_iff_eq]; omega
  have hv3 : vs.length ≤ 3 := by omega
  obtain ⟨c0, c1, d0, d1⟩ := S0.cells
  have SD := hide (S0.below (bdrew' (Below.refl _ _)))
  have HD := hide SD.out.cells
  have iD := SD.out.2.2.1
  have jD := SD.out.2.2.2.1
  have oD := I0.below (bdrew' (Below.refl _ _))
  clear hi hj hk S0 hw hr I0 hvs
  go_enter Try.func52, Try.ntmps52
  go_wp2_with fail
  go_region_held3 (fun w' => w'.cell? ⟨w.heap.size, 0, none⟩ = some (.int .i64 n) ∧ w'.cell? ⟨w.heap.size, 1, none⟩ = some (.slice a zs.length cap) ∧ w'.cell? ⟨w.heap.size + 1, 0, none⟩ = some (.int .i64 v) ∧ w'.cell? ⟨w.heap.size + 1, 1, none⟩ = some (.slice b ws.length capb))
    (first | go_keep | exact HS6.out | exact HS5.out | exact HD.out)
    (first
      | (go_at_call 104; refine (apply_any n v a b (some ad) cap capb capl zs ws vs _ iD jD oD hv3 HR.out hn hl HW.out).mono ?_; rintro e w5 ⟨rfl, b5⟩; have S5 := hide (SD.out.below b5); have HS5 := hide S5.out.cells; have i5 := S5.out.2.2.1; clear b5)
      | (go_at_call 103; refine (has_any n _ a cap zs _ i5 hzn).mono ?_; rintro e w6 ⟨rfl, b6⟩; have S6 := hide (S5.out.below b6); have HS6 := hide S6.out.cells; clear b6))
  all_goals
    go_wp2
    go_ret
    exact ⟨rfl, S6.out.2.2.2.2⟩
set_option maxHeartbeats 8000000 in
set_option maxRecDepth 100000 in
theorem safeFrom_any (n v : Int) (a b : Option Addr) (cap capb : Nat) (zs ws : List Int) (hn : 1 ≤ n ∧ n ≤ 4) (hv : 1 ≤ v ∧ v ≤ 3) (hl : (ws.length : Int) = n) (hz : ∀ x ∈ zs, 0 ≤ x ∧ x ≤ 255) (hw : ∀ x ∈ ws, 0 ≤ x ∧ x ≤ 255) (hzn : zs.length ≤ 1048576) : ∀ k, Safes n a zs cap v b ws capb k
  | 0 => safeLeaf_any n v a b cap capb zs ws hn hv hl hw hzn
  | k + 1 => by
    have HIH := hide (safeFrom_any n v a b cap capb zs ws hn hv hl hz hw hzn k)
    obtain ⟨i0, hi0, hz0, hz1, hz2⟩ := info_parts info_int
    intro vs m ad capl w hi hj hvs hm hk hr
    have S0 := SRV.new w n v a b (some ad) zs ws vs cap capb 25 27 hi hj hvs
    have HZ := hide hz
    have HR0 := hide hr
    have hE : ((m : Int) == v) = false := by rw [beq_eq_false_iff_ne]; omega
    have hm3 : m ≤ 3 := by omega
    have HK0 := hide hk
    have HM := hide hm
    have HONE : Hid (∀ u ∈ vs.map (Value.int .i64), u.oneCell' = true) := fun u hu => by
      obtain ⟨x, _, rfl⟩ := List.mem_map.1 hu
      rfl
    obtain ⟨c0, c1, d0, d1⟩ := S0.1.cells
    clear hi hj hvs hk hz hw hr hm
    go_enter Try.func52, Try.ntmps52
    go_wp2_with fail
    go_loopw [7] (fun i wq => ∃ j : Nat, j ≤ zs.length ∧ i = .int .i64 j ∧ (∀ t, t < j → safeK zs ws k (vs ++ [zs.getD t 0]) = true) ∧ SRV w n a zs cap v b ws capb (some ad) vs wq) (fun i _ => zs.length - (intOf i).toNat)
    case atStart => exact ⟨0, Nat.zero_le _, rfl, fun t ht => by omega, S0⟩
    case round =>
      clear S0 c0 c1 d0 d1
      obtain ⟨j, hj, rfl, hall, hs⟩ := hrel
      have HALL := hide hall
      clear hall
      by_cases hlt : j < zs.length
      · obtain ⟨bz, oz, rfl, hbl, hc⟩ := hs.1.2.2.1 (by omega)
        have hck := hc j hlt
        rw [getD_lt hlt] at hck
        have HKP : Hid (∀ w5 : World, Below wr.heap.size wr w5 → w5.cell? ⟨w.heap.size, 0, none⟩ = some (.int .i64 n) ∧ w5.cell? ⟨w.heap.size, 1, none⟩ = some (.slice (some ⟨bz, oz, none⟩) zs.length cap) ∧ w5.cell? ⟨w.heap.size + 1, 0, none⟩ = some (.int .i64 v) ∧ w5.cell? ⟨w.heap.size + 1, 1, none⟩ = some (.slice b ws.length capb) ∧ w5.cell? ⟨bz, oz + j, none⟩ = some (.int .i64 zs[j])) := fun w5 hB => by
          obtain ⟨q0, q1, q2, q3⟩ := (hs.1.below hB).cells
          exact ⟨q0, q1, q2, q3, (hB.cell (p := ⟨bz, oz + j, none⟩) hbl).trans hck⟩
        have HVN : Hid (∀ W : World, Below wr.drew.heap.size wr.drew W → ∀ j u, (vs.map (Value.int .i64))[j]? = some u → W.cell? (ad.add j) = some u) := fun W hB => news_ints hs.2 (bdrew hB)
        have HII : Hid (∀ W : World, Below wr.heap.size wr W → Ints W (some ⟨bz, oz, none⟩) zs) := fun W hB => hs.1.2.2.1.below hB
        have HIJ : Hid (∀ W : World, Below wr.heap.size wr W → Ints W b ws) := fun W hB => hs.1.2.2.2.1.below hB
        have HR := hide (mem_pushed (P := fun x => 0 ≤ x ∧ x ≤ 255) HR0.out (HZ.out _ (mem_of_at hlt)))
        have HLN : Hid ((vs ++ [zs[j]]).length = m + 1) := by have := HM.out; show (vs ++ [zs[j]]).length = m + 1; simp; omega
        have HK : Hid (m + 1 + k = v.toNat) := by have := HK0.out; show m + 1 + k = v.toNat; omega
        have hm0 := HM.out
        obtain ⟨c0, c1, d0, d1⟩ := hs.1.cells
        have HS := hide hs
        clear hs hc
        rcases Bool.eq_false_or_eq_true (safeK zs ws k (vs ++ [zs[j]])) with he | he
        · have HE := hide he
          clear he
          go_upto_region 6 with fail
          go_region_held3 (fun w' => w'.cell? ⟨w.heap.size, 0, none⟩ = some (.int .i64 n) ∧ w'.cell? ⟨w.heap.size, 1, none⟩ = some (.slice (some ⟨bz, oz, none⟩) zs.length cap) ∧ w'.cell? ⟨w.heap.size + 1, 0, none⟩ = some (.int .i64 v) ∧ w'.cell? ⟨w.heap.size + 1, 1, none⟩ = some (.slice b ws.length capb) ∧ w'.cell? ⟨bz, oz + j, none⟩ = some (.int .i64 zs[j]))
            (first | go_keep | exact HS8.out | exact HS7.out | exact HS5.out | exact HKP.out _ (bdrew' (Below.refl _ _)))
            (first
              | (refine step_append_own (by rfl) _ _ 23 (by rfl) wr.heap.size 3 i0 (.int .i64 0) 1 8 Try.underlying23 hi0 hz0 hz1 hz2 rfl (by decide) _ 0 [] (by rfl) (own_emptyS wr.drew wr.heap.size (Nat.le_refl _)) ad m capl (vs.map (Value.int .i64)) (by rfl) (by simp; omega) (HVN.out _ (bel1 _ _)) HONE.out (by unfold maxLen; omega) (by omega) (by simp) ?_; intro v5 w5 hown5 hgrow5 _; have F5 := hide (first5 hm0 (bel1 wr.drew (.cells #[] 3)) hown5 hgrow5 (by simp)); have HS5 := hide (HKP.out w5 F5.out.2); clear hown5 hgrow5)
              | (refine step_append_own (by rfl) _ _ 23 (by rfl) wr.heap.size 3 i0 (.int .i64 0) 1 8 Try.underlying23 hi0 hz0 hz1 hz2 rfl (by decide) _ 0 [] (by rfl) (own_drewS ((own_emptyS wr wr.heap.size (Nat.le_refl _)).alloc (.cells #[.int .i64 zs[j]] 3))) ad m capl (vs.map (Value.int .i64)) (by rfl) (by simp; omega) (HVN.out _ (bel_drewS (bel2 wr (.cells #[] 3) (.cells #[.int .i64 zs[j]] 3)))) HONE.out (by unfold maxLen; omega) (by omega) (by first | (simp; done) | (simp; omega)) ?_; intro v5 w5 hown5 hgrow5 _; have HLIT := hide (lit_kept2 hgrow5); have F5 := hide (first5 hm0 (bel_drewS (bel2 wr (.cells #[] 3) (.cells #[.int .i64 zs[j]] 3))) hown5 hgrow5 (by simp)); have HS5 := hide (HKP.out w5 F5.out.2); clear hown5 hgrow5)
              | (refine step_append_own (by rfl) _ _ 23 (by rfl) wr.heap.size 3 i0 (.int .i64 0) 1 8 Try.underlying23 hi0 hz0 hz1 hz2 rfl (by decide) _ 0 [] (by rfl) (own_drewS (own_emptyS1 wr (.cells #[.int .i64 zs[j]] 3) wr.heap.size (Nat.le_refl _))) ad m capl (vs.map (Value.int .i64)) (by rfl) (by simp; omega) (HVN.out _ (bel_drewS (bel2 wr (.cells #[.int .i64 zs[j]] 3) (.cells #[] 3)))) HONE.out (by unfold maxLen; omega) (by omega) (by first | (simp; done) | (simp; omega)) ?_; intro v5 w5 hown5 hgrow5 _; have HLIT := hide (lit_kept3 hgrow5); have F5 := hide (first5 hm0 (bel_drewS (bel2 wr (.cells #[.int .i64 zs[j]] 3) (.cells #[] 3))) hown5 hgrow5 (by simp)); have HS5 := hide (HKP.out w5 F5.out.2); clear hown5 hgrow5)
              | (refine step_append_own (by rfl) _ _ 23 (by rfl) wr.heap.size 3 i0 (.int .i64 0) 1 8 Try.underlying23 hi0 hz0 hz1 hz2 rfl (by decide) _ m (vs.map (Value.int .i64)) (by rfl) ((owns_row hm0 F5.out.1).alloc _) ⟨w5.heap.size, 0, none⟩ 1 1 [.int .i64 zs[j]] (by rfl) (by rfl) (World.news_of_block (cs := #[.int .i64 zs[j]]) (t := 3) (fr := (0, 0)) (heap_alloc_new w5 _)) (by simp [Value.oneCell']) (by unfold maxLen; omega) (by omega) (by have := F5.out.2.size; first | omega | (simp; omega)) ?_; intro v7 w7 hown7 hgrow7 _; obtain ⟨gg, cc, rfl, hgb, hgl⟩ := World.ownsRow.form hown7 (by omega); have F7 := hide (last7 hm0 F5.out (bel1 _ _) hown7 hgrow7); have HS7 := hide (HKP.out w7 F7.out.2); clear hown7 hgrow7 hgb hgl)
              | (refine step_append_own (by rfl) _ _ 23 (by rfl) wr.heap.size 3 i0 (.int .i64 0) 1 8 Try.underlying23 hi0 hz0 hz1 hz2 rfl (by decide) _ m (vs.map (Value.int .i64)) (by rfl) (owns_row hm0 F5.out.1) ⟨_, 0, none⟩ 1 1 [.int .i64 zs[j]] (by rfl) (by rfl) (World.news_of_block (cs := #[.int .i64 zs[j]]) (t := 3) (fr := (0, 0)) (HLIT.out)) (by simp [Value.oneCell']) (by unfold maxLen; omega) (by omega) (by have := F5.out.2.size; first | omega | (simp; omega)) ?_; intro v7 w7 hown7 hgrow7 _; obtain ⟨gg, cc, rfl, hgb, hgl⟩ := World.ownsRow.form hown7 (by omega); have F7 := hide (last7 hm0 F5.out (Below.refl _ _) hown7 hgrow7); have HS7 := hide (HKP.out w7 F7.out.2); clear hown7 hgrow7 hgb hgl)
              | (go_at_call 52; refine (HIH.out (vs ++ [zs[j]]) (m + 1) ⟨gg, 0, none⟩ cc w7 (HII.out w7 F7.out.2) (HIJ.out w7 F7.out.2) F7.out.1.ints HLN.out HK.out HR.out).mono ?_; rintro e w8 ⟨e8, b8⟩; rw [HE.out] at e8; subst e8; have B8 := hide (bnext F7.out.2 b8); have HS8 := hide (HKP.out w8 B8.out); clear b8))
          all_goals
            go_wp2
            go_roundw
            case rel => exact ⟨j + 1, by omega, by go_num, fun t ht => by
              rcases Nat.lt_or_ge t j with h | h
              · exact HALL.out t h
              · obtain rfl : t = j := by omega
                rw [getD_lt hlt]
                exact HE.out, HS.out.below B8.out⟩
            case measure => simp only [intOf]; omega
        · have HE := hide he
          clear he
          go_upto_region 6 with fail
          go_region_held3 (fun w' => w'.cell? ⟨w.heap.size, 0, none⟩ = some (.int .i64 n) ∧ w'.cell? ⟨w.heap.size, 1, none⟩ = some (.slice (some ⟨bz, oz, none⟩) zs.length cap) ∧ w'.cell? ⟨w.heap.size + 1, 0, none⟩ = some (.int .i64 v) ∧ w'.cell? ⟨w.heap.size + 1, 1, none⟩ = some (.slice b ws.length capb) ∧ w'.cell? ⟨bz, oz + j, none⟩ = some (.int .i64 zs[j]))
            (first | go_keep | exact HS8.out | exact HS7.out | exact HS5.out | exact HKP.out _ (bdrew' (Below.refl _ _)))
            (first
              | (refine step_append_own (by rfl) _ _ 23 (by rfl) wr.heap.size 3 i0 (.int .i64 0) 1 8 Try.underlying23 hi0 hz0 hz1 hz2 rfl (by decide) _ 0 [] (by rfl) (own_emptyS wr.drew wr.heap.size (Nat.le_refl _)) ad m capl (vs.map (Value.int .i64)) (by rfl) (by simp; omega) (HVN.out _ (bel1 _ _)) HONE.out (by unfold maxLen; omega) (by omega) (by simp) ?_; intro v5 w5 hown5 hgrow5 _; have F5 := hide (first5 hm0 (bel1 wr.drew (.cells #[] 3)) hown5 hgrow5 (by simp)); have HS5 := hide (HKP.out w5 F5.out.2); clear hown5 hgrow5)
              | (refine step_append_own (by rfl) _ _ 23 (by rfl) wr.heap.size 3 i0 (.int .i64 0) 1 8 Try.underlying23 hi0 hz0 hz1 hz2 rfl (by decide) _ 0 [] (by rfl) (own_drewS ((own_emptyS wr wr.heap.size (Nat.le_refl _)).alloc (.cells #[.int .i64 zs[j]] 3))) ad m capl (vs.map (Value.int .i64)) (by rfl) (by simp; omega) (HVN.out _ (bel_drewS (bel2 wr (.cells #[] 3) (.cells #[.int .i64 zs[j]] 3)))) HONE.out (by unfold maxLen; omega) (by omega) (by first | (simp; done) | (simp; omega)) ?_; intro v5 w5 hown5 hgrow5 _; have HLIT := hide (lit_kept2 hgrow5); have F5 := hide (first5 hm0 (bel_drewS (bel2 wr (.cells #[] 3) (.cells #[.int .i64 zs[j]] 3))) hown5 hgrow5 (by simp)); have HS5 := hide (HKP.out w5 F5.out.2); clear hown5 hgrow5)
              | (refine step_append_own (by rfl) _ _ 23 (by rfl) wr.heap.size 3 i0 (.int .i64 0) 1 8 Try.underlying23 hi0 hz0 hz1 hz2 rfl (by decide) _ 0 [] (by rfl) (own_drewS (own_emptyS1 wr (.cells #[.int .i64 zs[j]] 3) wr.heap.size (Nat.le_refl _))) ad m capl (vs.map (Value.int .i64)) (by rfl) (by simp; omega) (HVN.out _ (bel_drewS (bel2 wr (.cells #[.int .i64 zs[j]] 3) (.cells #[] 3)))) HONE.out (by unfold maxLen; omega) (by omega) (by first | (simp; done) | (simp; omega)) ?_; intro v5 w5 hown5 hgrow5 _; have HLIT := hide (lit_kept3 hgrow5); have F5 := hide (first5 hm0 (bel_drewS (bel2 wr (.cells #[.int .i64 zs[j]] 3) (.cells #[] 3))) hown5 hgrow5 (by simp)); have HS5 := hide (HKP.out w5 F5.out.2); clear hown5 hgrow5)
              | (refine step_append_own (by rfl) _ _ 23 (by rfl) wr.heap.size 3 i0 (.int .i64 0) 1 8 Try.underlying23 hi0 hz0 hz1 hz2 rfl (by decide) _ m (vs.map (Value.int .i64)) (by rfl) ((owns_row hm0 F5.out.1).alloc _) ⟨w5.heap.size, 0, none⟩ 1 1 [.int .i64 zs[j]] (by rfl) (by rfl) (World.news_of_block (cs := #[.int .i64 zs[j]]) (t := 3) (fr := (0, 0)) (heap_alloc_new w5 _)) (by simp [Value.oneCell']) (by unfold maxLen; omega) (by omega) (by have := F5.out.2.size; first | omega | (simp; omega)) ?_; intro v7 w7 hown7 hgrow7 _; obtain ⟨gg, cc, rfl, hgb, hgl⟩ := World.ownsRow.form hown7 (by omega); have F7 := hide (last7 hm0 F5.out (bel1 _ _) hown7 hgrow7); have HS7 := hide (HKP.out w7 F7.out.2); clear hown7 hgrow7 hgb hgl)
              | (refine step_append_own (by rfl) _ _ 23 (by rfl) wr.heap.size 3 i0 (.int .i64 0) 1 8 Try.underlying23 hi0 hz0 hz1 hz2 rfl (by decide) _ m (vs.map (Value.int .i64)) (by rfl) (owns_row hm0 F5.out.1) ⟨_, 0, none⟩ 1 1 [.int .i64 zs[j]] (by rfl) (by rfl) (World.news_of_block (cs := #[.int .i64 zs[j]]) (t := 3) (fr := (0, 0)) (HLIT.out)) (by simp [Value.oneCell']) (by unfold maxLen; omega) (by omega) (by have := F5.out.2.size; first | omega | (simp; omega)) ?_; intro v7 w7 hown7 hgrow7 _; obtain ⟨gg, cc, rfl, hgb, hgl⟩ := World.ownsRow.form hown7 (by omega); have F7 := hide (last7 hm0 F5.out (Below.refl _ _) hown7 hgrow7); have HS7 := hide (HKP.out w7 F7.out.2); clear hown7 hgrow7 hgb hgl)
              | (go_at_call 52; refine (HIH.out (vs ++ [zs[j]]) (m + 1) ⟨gg, 0, none⟩ cc w7 (HII.out w7 F7.out.2) (HIJ.out w7 F7.out.2) F7.out.1.ints HLN.out HK.out HR.out).mono ?_; rintro e w8 ⟨e8, b8⟩; rw [HE.out] at e8; subst e8; have B8 := hide (bnext F7.out.2 b8); have HS8 := hide (HKP.out w8 B8.out); clear b8))
          all_goals
            go_wp2
            go_ret
            exact ⟨ret_bool (all_false hlt HE.out).symm, (HS.out.below B8.out).1.2.2.2.2⟩
      · obtain rfl : j = zs.length := by omega
        obtain ⟨c0, c1, d0, d1⟩ := hs.1.cells
        go_wp2
        go_ret
        exact ⟨ret_bool (all_true HALL.out).symm, hs.1.2.2.2.2⟩
set_option maxHeartbeats 2000000 in
theorem specIsSafe_any (n v : Int) (a b : Option Addr) (cap capb : Nat) (zs ws : List Int) (w : World) (hi : Ints w a zs) (hj : Ints w b ws) (hn : zs.length ≤ 1048576) (hm : ws.length ≤ 1048576) :
    Calls Try.prog 12 #[.agg #[.int .i64 n, .slice a zs.length cap], .agg #[.int .i64 v, .slice b ws.length capb]] w fun e w' => e = .returned (.bool (safeR n zs v ws)) ∧ Below w.heap.size w w' := by
  have S0 := SR.new w n v a b zs ws cap capb 25 27 hi hj
  clear hi hj
  by_cases hs : vsB n zs = false
  · have HV := hide (safeR_no (v := v) (ws := ws) (vrB_no hs))
    go_enter Try.func12, Try.ntmps12
    go_wp2_with fail
    refine (validSpace_any _ _ _ _ _ S0.2.2.1 hn).mono ?_
    rintro e w1 ⟨rfl, hb⟩
    go_wp2
    go_ret
    exact ⟨ret_bool HV.out.symm, (S0.below hb).2.2.2.2⟩
  · have hs : vsB n zs = true := by simpa using hs
    by_cases hr : ruleB n v ws = false
    · have HV := hide (safeR_no ((vrB_yes hs).trans hr))
      go_enter Try.func12, Try.ntmps12
      go_wp2_with fail
      refine (validSpace_any _ _ _ _ _ S0.2.2.1 hn).mono ?_
      rintro e w1 ⟨rfl, hb⟩
      have S1 := S0.below hb
      have HS := hide S1
      clear S0 hb
      obtain ⟨⟨_, c0, c1⟩, ⟨_, d0, d1⟩, _⟩ := S1
      go_wp2_with fail
      refine (validRule_any _ _ _ _ _ _ _ _ _ HS.out.2.2.1 HS.out.2.2.2.1 hm).mono ?_
      rintro e w2 ⟨rfl, hb2⟩
      go_wp2
      go_ret
      exact ⟨ret_bool HV.out.symm, (HS.out.below hb2).2.2.2.2⟩
    · have hr : ruleB n v ws = true := by simpa using hr
      have hvr := (vrB_yes (v := v) (ws := ws) hs).trans hr
      have HV := hide (safeR_yes hvr)
      obtain ⟨hVa, hRo⟩ := vr_of hvr
      have hv3 := hRo.1
      have hn4 := hVa.1
      have hln := hRo.2.1
      have HLN := hide hln
      have HWR := hide hRo.range
      have HZR : Hid (∀ x ∈ zs, 0 ≤ x ∧ x ≤ 255) := fun x hx => by have := valid_range hVa x hx; omega
      clear hVa hRo hvr hln
      go_enter Try.func12, Try.ntmps12
      go_wp2_with fail
      refine (validSpace_any _ _ _ _ _ S0.2.2.1 hn).mono ?_
      rintro e w1 ⟨rfl, hb⟩
      have S1 := S0.below hb
      have HS := hide S1
      clear S0 hb
      obtain ⟨⟨_, c0, c1⟩, ⟨_, d0, d1⟩, _⟩ := S1
      go_wp2_with fail
      refine (validRule_any _ _ _ _ _ _ _ _ _ HS.out.2.2.1 HS.out.2.2.2.1 hm).mono ?_
      rintro e w2 ⟨rfl, hb2⟩
      have S2 := HS.out.below hb2
      have HS2 := hide S2
      clear HS hb2 c0 c1 d0 d1
      obtain ⟨⟨_, c0, c1⟩, ⟨_, d0, d1⟩, _⟩ := S2
      have S3 := hide (HS2.out.below (bel1 w2 (.cells #[] 3)))
      go_wp2_with fail
      refine (safeFrom_any n v a b cap capb zs ws hn4 hv3 HLN.out HZR.out HWR.out hn v.toNat [] 0 _ _ _ S3.out.2.2.1 S3.out.2.2.2.1 (fun h => by simp at h) rfl (by simp) (nil_range _)).mono ?_
      rintro e w4 ⟨rfl, hb4⟩
      go_wp2
      go_ret
      exact ⟨ret_bool HV.out.symm, (S3.out.below hb4).2.2.2.2⟩
end Go.Proofs.Ytnmfhnieknckcaa

/- PSafe: The laws of IsSafe, DoMeet and DictatorOf answer true at every code: their walks. -/
namespace Go.Proofs.Ytnmfhnieknckcaa
open Go.RowKit Go.Joins

theorem implSafe_was (n v : Int) (a b : Option Addr) (cap capb : Nat) (zs ws : List Int) (w : World) (r : Bool) (hi : Ints w a zs) (hj : Ints w b ws) (hn : zs.length ≤ 1048576) (hm : ws.length ≤ 1048576) (hr : safeR n zs v ws = r) :
    Calls Try.prog 11 #[.agg #[.int .i64 n, .slice a zs.length cap], .agg #[.int .i64 v, .slice b ws.length capb]] w fun e w' => e = .returned (.bool r) ∧ Below w.heap.size w w' := by
  subst hr
  exact implIsSafe_any n v a b cap capb zs ws w hi hj hn hm
theorem specSafe_was (n v : Int) (a b : Option Addr) (cap capb : Nat) (zs ws : List Int) (w : World) (r : Bool) (hi : Ints w a zs) (hj : Ints w b ws) (hn : zs.length ≤ 1048576) (hm : ws.length ≤ 1048576) (hr : safeR n zs v ws = r) :
    Calls Try.prog 12 #[.agg #[.int .i64 n, .slice a zs.length cap], .agg #[.int .i64 v, .slice b ws.length capb]] w fun e w' => e = .returned (.bool r) ∧ Below w.heap.size w w' := by
  subst hr
  exact specIsSafe_any n v a b cap capb zs ws w hi hj hn hm
theorem implMeet_was (n v : Int) (a b : Option Addr) (cap capb : Nat) (zs ws : List Int) (w : World) (r : Bool) (hi : Ints w a zs) (hj : Ints w b ws) (hn : zs.length ≤ 1048576) (hm : ws.length ≤ 1048576) (hr : meetR n zs v ws = r) :
    Calls Try.prog 15 #[.agg #[.int .i64 n, .slice a zs.length cap], .agg #[.int .i64 v, .slice b ws.length capb]] w fun e w' => e = .returned (.bool r) ∧ Below w.heap.size w w' := by
  subst hr
  exact implDoMeet_any n v a b cap capb zs ws w hi hj hn hm
theorem specMeet_was (n v : Int) (a b : Option Addr) (cap capb : Nat) (zs ws : List Int) (w : World) (r : Bool) (hi : Ints w a zs) (hj : Ints w b ws) (hn : zs.length ≤ 1048576) (hm : ws.length ≤ 1048576) (hr : meetR n zs v ws = r) :
    Calls Try.prog 17 #[.agg #[.int .i64 n, .slice a zs.length cap], .agg #[.int .i64 v, .slice b ws.length capb]] w fun e w' => e = .returned (.bool r) ∧ Below w.heap.size w w' := by
  subst hr
  exact specDoMeet_any n v a b cap capb zs ws w hi hj hn hm
theorem specDict_was (n v : Int) (a b : Option Addr) (cap capb : Nat) (zs ws : List Int) (w : World) (r : Int) (hi : Ints w a zs) (hj : Ints w b ws) (hn : zs.length ≤ 1048576) (hm : ws.length ≤ 1048576) (hr : dictR n zs v ws = r) :
    Calls Try.prog 21 #[.agg #[.int .i64 n, .slice a zs.length cap], .agg #[.int .i64 v, .slice b ws.length capb]] w fun e w' => e = .returned (.int .i64 r) ∧ Below w.heap.size w w' := by
  subst hr
  exact specDictatorOf_any n v a b cap capb zs ws w hi hj hn hm
theorem vr_space {n v : Int} {zs ws : List Int} (h : vrB n zs v ws = true) : vsB n zs = true := vsB_true (vr_of h).1
theorem implCritM_was (n : Int) (a : Option Addr) (cap : Nat) (zs : List Int) (ps : List (Int × Int)) (w : World) (hi : Ints w a zs) (hn : zs.length ≤ 1048576) (h : crR n zs = ps) :
    Calls Try.prog 18 #[.agg #[.int .i64 n, .slice a zs.length cap]] w fun e w' => (∃ gv gc, e = .returned (.slice gv ps.length gc)) ∧ Below w.heap.size w w' := by
  subst h
  refine (implCriticalParts_any n a cap zs w hi hn).mono ?_
  rintro e w' ⟨v, rfl, ho, hb⟩
  obtain ⟨gv, gc, rfl, _⟩ := ho.form
  exact ⟨⟨gv, gc, rfl⟩, hb⟩
set_option maxHeartbeats 8000000 in
set_option maxRecDepth 100000 in
theorem walk_FnIsSafe (a : Option Addr) (zs : List Nat) (cap : Nat) (w : World) (hi : Byts w a zs) (hl : zs.length ≤ maxLen) (hc : zs.length ≤ cap) :
    Calls Try.prog 3 #[.slice a zs.length cap] w fun e w' => e = .returned (.bool true) ∧ Below w.heap.size w w' := by
  by_cases h : 1048576 < zs.length
  · unfold maxLen at hl
    go_enter Try.func3, Try.ntmps3
    go_wp2
    go_ret
    exact ⟨rfl, Below.refl _ _⟩
  · have hl' : zs.length ≤ 1048576 := by omega
    clear h hl
    go_enter Try.func3, Try.ntmps3
    go_wp2_with fail
    refine (drawIsSafe_any _ _ _ _ hi hl' hc).mono ?_
    rintro e w1 ⟨m, av, ss, cv, v, bv, ws, cb, rfl, iv, hsl, iw, hwl, hb⟩
    have S0 := SR.new w1 m v av bv ss ws cv cb 25 27 iv iw
    have HB := hide hb
    have hn : ss.length ≤ 1048576 := by omega
    have hm : ws.length ≤ 1048576 := by omega
    clear hb hi iv iw hl' hsl hwl
    obtain ⟨c0, c1, d0, d1⟩ := S0.cells5
    obtain ⟨nb, hnb⟩ : ∃ r, safeR m ss v ws = r := ⟨_, rfl⟩
    have HNB := hide hnb
    clear hnb
    go_wp2_with fail
    refine (implSafe_was _ _ _ _ _ _ _ _ _ _ S0.2.2.1 S0.2.2.2.1 hn hm HNB.out).mono ?_
    rintro e w2 ⟨rfl, b2⟩
    have S2 := S0.below b2
    clear c0 c1 d0 d1 S0 b2
    obtain ⟨c0, c1, d0, d1⟩ := S2.cells5
    go_wp2_with fail
    refine (specSafe_was _ _ _ _ _ _ _ _ _ _ S2.2.2.1 S2.2.2.2.1 hn hm HNB.out).mono ?_
    rintro e w3 ⟨rfl, b3⟩
    have S3 := S2.below b3
    clear c0 c1 d0 d1 S2 b3
    obtain ⟨c0, c1, d0, d1⟩ := S3.cells5
    have hne : (nb != nb) = false := by simp
    by_cases hv : vrB m ss v ws = false
    · have HV := hide hv
      clear hv
      go_wp2_with fail
      refine (implRule_was _ _ _ _ _ _ _ _ _ _ S3.2.2.1 S3.2.2.2.1 hn hm HV.out).mono ?_
      rintro e w4 ⟨rfl, b4⟩
      have S4 := S3.below b4
      clear c0 c1 d0 d1 S3 b4
      obtain ⟨c0, c1, d0, d1⟩ := S4.cells5
      go_wp2_with fail
      refine (specSafe_was _ _ _ _ _ _ _ _ _ _ S4.2.2.1 S4.2.2.2.1 hn hm HNB.out).mono ?_
      rintro e w5 ⟨rfl, b5⟩
      go_wp2
      go_ret
      exact ⟨ret_bool (by simp), bnext HB.out (S4.below b5).2.2.2.2⟩
    · have hv : vrB m ss v ws = true := by simpa using hv
      have HV := hide hv
      clear hv
      go_wp2_with fail
      refine (implRule_was _ _ _ _ _ _ _ _ _ _ S3.2.2.1 S3.2.2.2.1 hn hm HV.out).mono ?_
      rintro e w4 ⟨rfl, b4⟩
      have S4 := S3.below b4
      clear c0 c1 d0 d1 S3 b4
      obtain ⟨c0, c1, d0, d1⟩ := S4.cells5
      obtain ⟨mb, hmb⟩ : ∃ r, monoR m ss v ws = r := ⟨_, rfl⟩
      have HMB := hide hmb
      clear hmb
      go_wp2_with fail
      refine (implMono_was _ _ _ _ _ _ _ _ _ _ S4.2.2.1 S4.2.2.2.1 hn hm HMB.out).mono ?_
      rintro e w5 ⟨rfl, b5⟩
      have S5 := S4.below b5
      clear c0 c1 d0 d1 S4 b5
      obtain ⟨c0, c1, d0, d1⟩ := S5.cells5
      cases mb with
      | false =>
        go_wp2
        go_ret
        exact ⟨ret_bool rfl, bnext HB.out S5.2.2.2.2⟩
      | true =>
        have HMR := hide (show meetR m ss v ws = nb from by rw [← safe_meet HV.out HMB.out]; exact HNB.out)
        go_wp2_with fail
        refine (implMeet_was _ _ _ _ _ _ _ _ _ _ S5.2.2.1 S5.2.2.2.1 hn hm HMR.out).mono ?_
        rintro e w6 ⟨rfl, b6⟩
        go_wp2
        go_ret
        exact ⟨ret_bool (by simp), bnext HB.out (S5.below b6).2.2.2.2⟩
set_option maxHeartbeats 8000000 in
set_option maxRecDepth 100000 in
theorem walk_FnDoMeet (a : Option Addr) (zs : List Nat) (cap : Nat) (w : World) (hi : Byts w a zs) (hl : zs.length ≤ maxLen) (hc : zs.length ≤ cap) :
    Calls Try.prog 4 #[.slice a zs.length cap] w fun e w' => e = .returned (.bool true) ∧ Below w.heap.size w w' := by
  by_cases h : 1048576 < zs.length
  · unfold maxLen at hl
    go_enter Try.func4, Try.ntmps4
    go_wp2
    go_ret
    exact ⟨rfl, Below.refl _ _⟩
  · have hl' : zs.length ≤ 1048576 := by omega
    clear h hl
    go_enter Try.func4, Try.ntmps4
    go_wp2_with fail
    refine (drawDoMeet_any _ _ _ _ hi hl' hc).mono ?_
    rintro e w1 ⟨m, av, ss, cv, v, bv, ws, cb, rfl, iv, hsl, iw, hwl, hb⟩
    have S0 := SR.new w1 m v av bv ss ws cv cb 25 27 iv iw
    have HB := hide hb
    have hn : ss.length ≤ 1048576 := by omega
    have hm : ws.length ≤ 1048576 := by omega
    clear hb hi iv iw hl' hsl hwl
    obtain ⟨c0, c1, d0, d1⟩ := S0.cells5
    obtain ⟨nb, hnb⟩ : ∃ r, meetR m ss v ws = r := ⟨_, rfl⟩
    have HNB := hide hnb
    clear hnb
    go_wp2_with fail
    refine (implMeet_was _ _ _ _ _ _ _ _ _ _ S0.2.2.1 S0.2.2.2.1 hn hm HNB.out).mono ?_
    rintro e w2 ⟨rfl, b2⟩
    have S2 := S0.below b2
    clear c0 c1 d0 d1 S0 b2
    obtain ⟨c0, c1, d0, d1⟩ := S2.cells5
    go_wp2_with fail
    refine (specMeet_was _ _ _ _ _ _ _ _ _ _ S2.2.2.1 S2.2.2.2.1 hn hm HNB.out).mono ?_
    rintro e w3 ⟨rfl, b3⟩
    have S3 := S2.below b3
    clear c0 c1 d0 d1 S2 b3
    obtain ⟨c0, c1, d0, d1⟩ := S3.cells5
    have hne : (nb != nb) = false := by simp
    by_cases hv : vrB m ss v ws = false
    · have HV := hide hv
      clear hv
      go_wp2_with fail
      refine (implRule_was _ _ _ _ _ _ _ _ _ _ S3.2.2.1 S3.2.2.2.1 hn hm HV.out).mono ?_
      rintro e w4 ⟨rfl, b4⟩
      have S4 := S3.below b4
      clear c0 c1 d0 d1 S3 b4
      obtain ⟨c0, c1, d0, d1⟩ := S4.cells5
      go_wp2_with fail
      refine (specMeet_was _ _ _ _ _ _ _ _ _ _ S4.2.2.1 S4.2.2.2.1 hn hm HNB.out).mono ?_
      rintro e w5 ⟨rfl, b5⟩
      go_wp2
      go_ret
      exact ⟨ret_bool (by simp), bnext HB.out (S4.below b5).2.2.2.2⟩
    · have hv : vrB m ss v ws = true := by simpa using hv
      have HV := hide hv
      have HCR := hide (crR_yes (vr_space hv))
      clear hv
      go_wp2_with fail
      refine (implRule_was _ _ _ _ _ _ _ _ _ _ S3.2.2.1 S3.2.2.2.1 hn hm HV.out).mono ?_
      rintro e w4 ⟨rfl, b4⟩
      have S4 := S3.below b4
      clear c0 c1 d0 d1 S3 b4
      obtain ⟨c0, c1, d0, d1⟩ := S4.cells5
      obtain ⟨mb, hmb⟩ : ∃ r, monoR m ss v ws = r := ⟨_, rfl⟩
      have HMB := hide hmb
      clear hmb
      obtain ⟨ps, hps⟩ : ∃ ps, crR m ss = ps := ⟨_, rfl⟩
      have HPS := hide hps
      have HEM := hide (show ps.length = 0 → nb = true from fun h0 => by
        rw [← HNB.out]
        refine meet_empty HV.out ?_
        rw [← hps, HCR.out] at h0
        simpa [ofP] using h0)
      clear hps HCR
      go_wp2_with fail
      refine (implMono_was _ _ _ _ _ _ _ _ _ _ S4.2.2.1 S4.2.2.2.1 hn hm HMB.out).mono ?_
      rintro e w5 ⟨rfl, b5⟩
      have S5 := S4.below b5
      clear c0 c1 d0 d1 S4 b5
      obtain ⟨c0, c1, d0, d1⟩ := S5.cells5
      cases mb with
      | false =>
        go_wp2_with fail
        refine (implCritM_was _ _ _ _ ps _ S5.2.2.1 hn HPS.out).mono ?_
        rintro e w7 ⟨⟨gv, gc, rfl⟩, b7⟩
        have S7 := S5.below b7
        by_cases h0 : ps.length = 0
        · have hnb := HEM.out h0
          have hno : ¬ (0 : Int) < (ps.length : Int) := by omega
          subst hnb
          go_wp2
          go_ret
          exact ⟨ret_bool rfl, bnext HB.out S7.2.2.2.2⟩
        · have hyes : (0 : Int) < (ps.length : Int) := by omega
          go_wp2
          go_ret
          exact ⟨ret_bool rfl, bnext HB.out S7.2.2.2.2⟩
      | true =>
        have HMR := hide (show safeR m ss v ws = nb from by rw [safe_meet HV.out HMB.out]; exact HNB.out)
        go_wp2_with fail
        refine (implSafe_was _ _ _ _ _ _ _ _ _ _ S5.2.2.1 S5.2.2.2.1 hn hm HMR.out).mono ?_
        rintro e w6 ⟨rfl, b6⟩
        have S6 := S5.below b6
        have heq : (nb == nb) = true := by simp
        clear c0 c1 d0 d1 S5 b6
        obtain ⟨c0, c1, d0, d1⟩ := S6.cells5
        go_wp2_with fail
        refine (implCritM_was _ _ _ _ ps _ S6.2.2.1 hn HPS.out).mono ?_
        rintro e w7 ⟨⟨gv, gc, rfl⟩, b7⟩
        have S7 := S6.below b7
        by_cases h0 : ps.length = 0
        · have hnb := HEM.out h0
          have hno : ¬ (0 : Int) < (ps.length : Int) := by omega
          subst hnb
          go_wp2
          go_ret
          exact ⟨ret_bool rfl, bnext HB.out S7.2.2.2.2⟩
        · have hyes : (0 : Int) < (ps.length : Int) := by omega
          go_wp2
          go_ret
          exact ⟨ret_bool rfl, bnext HB.out S7.2.2.2.2⟩
set_option maxHeartbeats 8000000 in
set_option maxRecDepth 100000 in
theorem walk_FnDictatorOf (a : Option Addr) (zs : List Nat) (cap : Nat) (w : World) (hi : Byts w a zs) (hl : zs.length ≤ maxLen) (hc : zs.length ≤ cap) :
    Calls Try.prog 5 #[.slice a zs.length cap] w fun e w' => e = .returned (.bool true) ∧ Below w.heap.size w w' := by
  by_cases h : 1048576 < zs.length
  · unfold maxLen at hl
    go_enter Try.func5, Try.ntmps5
    go_wp2
    go_ret
    exact ⟨rfl, Below.refl _ _⟩
  · have hl' : zs.length ≤ 1048576 := by omega
    clear h hl
    go_enter Try.func5, Try.ntmps5
    go_wp2_with fail
    refine (drawDictatorOf_any _ _ _ _ hi hl' hc).mono ?_
    rintro e w1 ⟨m, av, ss, cv, v, bv, ws, cb, rfl, iv, hsl, iw, hwl, hb⟩
    have S0 := SR.new w1 m v av bv ss ws cv cb 25 27 iv iw
    have HB := hide hb
    have hn : ss.length ≤ 1048576 := by omega
    have hm : ws.length ≤ 1048576 := by omega
    clear hb hi iv iw hl' hsl hwl
    obtain ⟨c0, c1, d0, d1⟩ := S0.cells5
    obtain ⟨nd, hnd⟩ : ∃ r, dictR m ss v ws = r := ⟨_, rfl⟩
    have HND := hide hnd
    clear hnd
    go_wp2_with fail
    refine (implDict_was _ _ _ _ _ _ _ _ _ _ S0.2.2.1 S0.2.2.2.1 hn hm HND.out).mono ?_
    rintro e w2 ⟨rfl, b2⟩
    have S2 := S0.below b2
    clear c0 c1 d0 d1 S0 b2
    obtain ⟨c0, c1, d0, d1⟩ := S2.cells5
    go_wp2_with fail
    refine (specDict_was _ _ _ _ _ _ _ _ _ _ S2.2.2.1 S2.2.2.2.1 hn hm HND.out).mono ?_
    rintro e w3 ⟨rfl, b3⟩
    have S3 := S2.below b3
    clear c0 c1 d0 d1 S2 b3
    obtain ⟨c0, c1, d0, d1⟩ := S3.cells5
    have hne : (nd != nd) = false := by simp
    by_cases hv : vrB m ss v ws = false
    · have HV := hide hv
      clear hv
      go_wp2_with fail
      refine (implRule_was _ _ _ _ _ _ _ _ _ _ S3.2.2.1 S3.2.2.2.1 hn hm HV.out).mono ?_
      rintro e w4 ⟨rfl, b4⟩
      have S4 := S3.below b4
      clear c0 c1 d0 d1 S3 b4
      obtain ⟨c0, c1, d0, d1⟩ := S4.cells5
      go_wp2_with fail
      refine (specDict_was _ _ _ _ _ _ _ _ _ _ S4.2.2.1 S4.2.2.2.1 hn hm HND.out).mono ?_
      rintro e w5 ⟨rfl, b5⟩
      go_wp2
      go_ret
      exact ⟨ret_bool (by simp), bnext HB.out (S4.below b5).2.2.2.2⟩
    · have hv : vrB m ss v ws = true := by simpa using hv
      have HV := hide hv
      clear hv
      go_wp2_with fail
      refine (implRule_was _ _ _ _ _ _ _ _ _ _ S3.2.2.1 S3.2.2.2.1 hn hm HV.out).mono ?_
      rintro e w4 ⟨rfl, b4⟩
      have S4 := S3.below b4
      clear c0 c1 d0 d1 S3 b4
      obtain ⟨c0, c1, d0, d1⟩ := S4.cells5
      by_cases hd : nd < 0
      · go_wp2
        go_ret
        exact ⟨ret_bool rfl, bnext HB.out S4.2.2.2.2⟩
      · obtain ⟨hdv, f1, f2, f3, f4, f5⟩ := dict_facts HV.out HND.out hd
        have F1 := hide f1
        have F2 := hide f2
        have F3 := hide f3
        have F4 := hide f4
        have F5 := hide f5
        clear f1 f2 f3 f4 f5
        go_wp2_with fail
        refine (implMono_was _ _ _ _ _ _ _ _ _ _ S4.2.2.1 S4.2.2.2.1 hn hm F1.out).mono ?_
        rintro e w5 ⟨rfl, b5⟩
        have S5 := S4.below b5
        clear c0 c1 d0 d1 S4 b5
        obtain ⟨c0, c1, d0, d1⟩ := S5.cells5
        go_wp2_with fail
        refine (implUnan_was _ _ _ _ _ _ _ _ _ _ S5.2.2.1 S5.2.2.2.1 hn hm F2.out).mono ?_
        rintro e w6 ⟨rfl, b6⟩
        have S6 := S5.below b6
        clear c0 c1 d0 d1 S5 b6
        obtain ⟨c0, c1, d0, d1⟩ := S6.cells5
        go_wp2_with fail
        refine (implNeut_was _ _ _ _ _ _ _ _ _ _ S6.2.2.1 S6.2.2.2.1 hn hm F3.out).mono ?_
        rintro e w7 ⟨rfl, b7⟩
        have S7 := S6.below b7
        clear c0 c1 d0 d1 S6 b7
        obtain ⟨c0, c1, d0, d1⟩ := S7.cells5
        go_wp2_with fail
        refine (implSafe_was _ _ _ _ _ _ _ _ _ _ S7.2.2.1 S7.2.2.2.1 hn hm F4.out).mono ?_
        rintro e w8 ⟨rfl, b8⟩
        have S8 := S7.below b8
        clear c0 c1 d0 d1 S7 b8
        obtain ⟨c0, c1, d0, d1⟩ := S8.cells5
        go_wp2_with fail
        refine (implMeet_was _ _ _ _ _ _ _ _ _ _ S8.2.2.1 S8.2.2.2.1 hn hm F5.out).mono ?_
        rintro e w9 ⟨rfl, b9⟩
        go_wp2
        go_ret
        exact ⟨ret_bool rfl, bnext HB.out (S8.below b9).2.2.2.2⟩
end Go.Proofs.Ytnmfhnieknckcaa
