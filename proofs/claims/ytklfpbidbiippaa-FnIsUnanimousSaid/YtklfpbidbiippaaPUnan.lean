/- The law of IsUnanimous answers true at every code: votes that are all the same; its walk. -/
import Derived.Test.YtklfpbidbiippaaPNeut
import Derived.Test.YtklfpbidbiippaaApplyR
import Derived.Deep.RegionHeld3
namespace Go.Proofs.Ytklfpbidbiippaa
open Go.RowKit Go.Joins

theorem groupK_same {vs : List Int} {x : Int} (h : ∀ y ∈ vs, y = x) (j : Nat) : ∀ k, k ≤ vs.length → groupK vs j k = (2 ^ k - 1) * bitN x.toNat j
  | 0, _ => by simp [groupK]
  | k + 1, hk => by
    have hx : vs.getD k 0 = x := by rw [getD_lt (by omega)]; exact h _ (List.getElem_mem _)
    have h2 : 1 ≤ 2 ^ k := Nat.one_le_two_pow
    rw [groupK, groupK_same h j k (by omega), hx, Nat.pow_succ]
    rcases (show bitN x.toNat j = 0 ∨ bitN x.toNat j = 1 from by have := bitN_le x.toNat j; omega) with e | e <;> rw [e] <;> omega
theorem apply_same {n v x : Int} {zs ws vs : List Int} (hv : vrB n zs v ws = true) (hu : unanR n zs v ws = true) (hx : x ∈ zs) (he : ∀ y ∈ vs, y = x) (hl : (vs.length : Int) = v) : applyR n zs v ws vs = x := by
  obtain ⟨hV, hr⟩ := vr_of hv
  have hr3 := hr.1
  have hU : UnanS v ws := (unanS_iff hr.1 hr.range).2 (by rw [← unanR_yes hv]; exact hu)
  have hok : ApplyOk n zs v ws vs := ⟨hv, votesB_true ⟨fun j hj => by rw [getD_lt hj, he _ (List.getElem_mem hj)]; exact hx, by omega, by omega⟩, hl⟩
  rw [applyR_yes hok]
  have hp : (pw v).toNat - 1 = 2 ^ vs.length - 1 := by
    have e : v.toNat = vs.length := by omega
    unfold pw
    rw [e, Int.toNat_natCast]
  have key : ∀ k, k ≤ ws.length → applyK vs ws k = x.toNat % 2 ^ k := by
    intro k
    induction k with
    | zero => intro _; simp [applyK, Nat.mod_one]
    | succ k ih =>
      intro hk
      have hb := hU k (by omega)
      unfold badUnan at hb
      rw [Bool.or_eq_false_iff] at hb
      obtain ⟨hb0, hb1⟩ := hb
      rw [beq_eq_false_iff_ne] at hb0 hb1
      have l0 := bitN_le (ws.getD k 0).toNat 0
      have l1 := bitN_le (ws.getD k 0).toNat ((pw v).toNat - 1)
      have hw : bitN (ws.getD k 0).toNat (groupK vs k vs.length) = bitN x.toNat k := by
        rw [groupK_same he k vs.length (Nat.le_refl _)]
        rcases (show bitN x.toNat k = 0 ∨ bitN x.toNat k = 1 from by have := bitN_le x.toNat k; omega) with e | e
        · rw [e, Nat.mul_zero]; omega
        · rw [e, Nat.mul_one, ← hp]; omega
      rw [applyK, ih (by omega), hw, Nat.mod_pow_succ]
      rfl
  have hxr : 0 ≤ x ∧ x < ((2 ^ ws.length : Nat) : Int) := by
    obtain ⟨i, hi, rfl⟩ := List.getElem_of_mem hx
    have h1 := (hV.2.2 i hi).1
    rw [getD_lt hi] at h1
    have e : pw n = ((2 ^ ws.length : Nat) : Int) := by
      have : n.toNat = ws.length := by have := hr.2.1; omega
      unfold pw
      rw [this]
    rw [e] at h1
    omega
  rw [key ws.length (Nat.le_refl _), Nat.mod_eq_of_lt (by omega)]
  omega
theorem implApply_was (n v : Int) (a b l : Option Addr) (cap capb capl : Nat) (zs ws vs : List Int) (w : World) (r : Int) (hi : Ints w a zs) (hj : Ints w b ws) (hl : Ints w l vs) (hn : zs.length ≤ 1048576) (hm : ws.length ≤ 1048576) (ho : vs.length ≤ 1048576) (hr : applyR n zs v ws vs = r) :
    Calls Try.prog 41 #[.agg #[.int .i64 n, .slice a zs.length cap], .agg #[.int .i64 v, .slice b ws.length capb], .slice l vs.length capl] w fun e w' => e = .returned (.int .i64 r) ∧ Below w.heap.size w w' := by
  subst hr
  exact implApplyRule_any n v a b l cap capb capl zs ws vs w hi hj hl hn hm ho
set_option maxHeartbeats 8000000 in
set_option maxRecDepth 100000 in
theorem walk_FnIsUnanimous (a : Option Addr) (zs : List Nat) (cap : Nat) (w : World) (hi : Byts w a zs) (hl : zs.length ≤ maxLen) (hc : zs.length ≤ cap) :
    Calls Try.prog 7 #[.slice a zs.length cap] w fun e w' => e = .returned (.bool true) ∧ Below w.heap.size w w' := by
  obtain ⟨i0, hi0, hz0, hz1, hz2⟩ := info_parts info_int
  by_cases h : 1048576 < zs.length
  · unfold maxLen at hl
    go_enter Try.func7, Try.ntmps7
    go_wp2
    go_ret
    exact ⟨rfl, Below.refl _ _⟩
  · have hl' : zs.length ≤ 1048576 := by omega
    clear h hl
    go_enter Try.func7, Try.ntmps7
    go_wp2_with fail
    refine (drawIsUnanimous_any _ _ _ _ hi hl' hc).mono ?_
    rintro e w1 ⟨m, av, ss, cv, v, bv, ws, cb, rfl, iv, hsl, iw, hwl, hb⟩
    have S0 := SR.new w1 m v av bv ss ws cv cb 25 41 iv iw
    have HB := hide hb
    have hn : ss.length ≤ 1048576 := by omega
    have hm : ws.length ≤ 1048576 := by omega
    clear hb hi iv iw hl' hsl hwl
    obtain ⟨c0, c1, d0, d1⟩ := S0.cells5
    obtain ⟨nb, hnb⟩ : ∃ r, unanR m ss v ws = r := ⟨_, rfl⟩
    have HNB := hide hnb
    clear hnb
    go_wp2_with fail
    refine (implUnan_was _ _ _ _ _ _ _ _ _ _ S0.2.2.1 S0.2.2.2.1 hn hm HNB.out).mono ?_
    rintro e w2 ⟨rfl, b2⟩
    have S2 := S0.below b2
    clear c0 c1 d0 d1 S0 b2
    obtain ⟨c0, c1, d0, d1⟩ := S2.cells5
    go_wp2_with fail
    refine (specUnan_was _ _ _ _ _ _ _ _ _ _ S2.2.2.1 S2.2.2.2.1 hn hm HNB.out).mono ?_
    rintro e w3 ⟨rfl, b3⟩
    have S3 := S2.below b3
    clear c0 c1 d0 d1 S2 b3
    obtain ⟨c0, c1, d0, d1⟩ := S3.cells5
    have hne : (nb != nb) = false := by simp
    by_cases hv : vrB m ss v ws = false
    · have HV := hide hv
      clear hv
      go_wp2_with fail
      refine (implRule_was _ _ _ _ _ _ _ _ _ _ S3.2.2.1 S3.2.2.2.1 hn hm HV.out).mono ?_
      rintro e w4 ⟨rfl, b4⟩
      have S4 := S3.below b4
      clear c0 c1 d0 d1 S3 b4
      obtain ⟨c0, c1, d0, d1⟩ := S4.cells5
      go_wp2_with fail
      refine (specUnan_was _ _ _ _ _ _ _ _ _ _ S4.2.2.1 S4.2.2.2.1 hn hm HNB.out).mono ?_
      rintro e w5 ⟨rfl, b5⟩
      go_wp2
      go_ret
      exact ⟨ret_bool (by simp), bnext HB.out (S4.below b5).2.2.2.2⟩
    · have hv : vrB m ss v ws = true := by simpa using hv
      have hv3 := (vr_of hv).2.1
      have HV := hide hv
      clear hv
      go_wp2_with fail
      refine (implRule_was _ _ _ _ _ _ _ _ _ _ S3.2.2.1 S3.2.2.2.1 hn hm HV.out).mono ?_
      rintro e w4 ⟨rfl, b4⟩
      have S4 := S3.below b4
      clear c0 c1 d0 d1 S3 b4
      go_wp2_with fail
      cases nb with
      | false =>
        go_loopw [6] (fun i wr => i = .int .i64 0 ∧ SR w1 m av ss cv v bv ws cb wr) (fun i _ => 0)
        case atStart => exact ⟨rfl, S4⟩
        case round =>
          obtain ⟨rfl, hs⟩ := hrel
          obtain ⟨c0, c1, d0, d1⟩ := hs.cells5
          have HS := hide hs
          by_cases h0 : (0 : Int) < (ss.length : Int)
          all_goals
            go_wp2
            go_ret
            exact ⟨rfl, bnext HB.out HS.out.2.2.2.2⟩
      | true =>
        go_loopw [6] (fun i wr => ∃ k : Nat, k ≤ ss.length ∧ i = .int .i64 k ∧ SR w1 m av ss cv v bv ws cb wr) (fun i _ => ss.length - (intOf i).toNat)
        case atStart => exact ⟨0, Nat.zero_le _, rfl, S4⟩
        case round =>
          clear S4
          obtain ⟨k, hk, rfl, hs⟩ := hrel
          obtain ⟨c0, c1, d0, d1⟩ := hs.cells5
          by_cases hlt : k < ss.length
          · obtain ⟨sb, so, rfl, hbl, hcc⟩ := hs.2.2.1 (by omega)
            have hck := hcc k hlt
            rw [getD_lt hlt] at hck
            obtain ⟨z, hz⟩ : ∃ z, z = ss[k] := ⟨_, rfl⟩
            have hzm : z ∈ ss := by rw [hz]; exact List.getElem_mem hlt
            rw [← hz] at hck
            have HZM := hide hzm
            have HS := hide hs
            have HCK := hide hck
            have HBL := hide hbl
            clear hcc hz hzm hs hck hbl
            obtain ⟨wo, hwo⟩ : ∃ wo : World, wo = wr := ⟨_, rfl⟩
            subst hwo
            go_wp2_with fail
            clear c0 c1 d0 d1
            go_loopw [7] (fun u wq => ∃ vs : List Int, (vs.length : Int) ≤ v ∧ (∀ y ∈ vs, y = z) ∧ Owns wq wo.heap.size u vs ∧ Below wo.heap.size wo wq) (fun u _ => lackOf 3 u)
            case atStart => exact ⟨[], by simp; omega, fun y hy => by (cases hy), Owns.empty wo (Nat.le_refl _), bel1 _ _⟩
            case round =>
              obtain ⟨vs, hvl, hall, hown, BI⟩ := hrel
              have HALL := hide hall
              have hsq := HS.out.below BI
              obtain ⟨c0, c1, d0, d1⟩ := hsq.cells5
              have hck := (BI.cell (p := ⟨sb, so + k, none⟩) HBL.out).trans HCK.out
              obtain ⟨va, vc, rfl, hvi, _⟩ := hown.form
              have HVI := hide hvi
              have hsz := BI.size
              have hv3' : vs.length ≤ 3 := by omega
              have BIH := hide BI
              clear hall hvi BI
              by_cases hlv : (vs.length : Int) < v
              · go_wp2_with ((at_builtin; refine wpList_append_own _ rfl _ _ 23 rfl wo.heap.size 3 i0 (.int .i64 0) 1 8 Try.underlying23 hi0 hz0 hz1 hz2 rfl (by decide) _ _ _ rfl (hown.alloc _) ⟨wr.heap.size, 0, none⟩ 1 1 [.int .i64 z] rfl rfl (cell_one_new wr _ _) (by intro u hu; simp at hu; subst hu; rfl) (by unfold maxLen; omega) (by omega) (by first | omega | (simp; omega)) ?_))
                intro v' w6 hown' hgrow _
                have hge := hide (own_ge hown)
                have O6 := Owns.push hown'
                have B6 := hide (bgrown (bnext BIH.out (bel1 wr (.cells #[.int .i64 z] 3))) hgrow (by simp; omega) (fun j hj => hge.out j hj))
                obtain ⟨vz, hvz⟩ : ∃ vz, vz = vs ++ [z] := ⟨_, rfl⟩
                rw [← hvz] at O6
                have HL := hide (show vz.length = vs.length + 1 by rw [hvz, List.length_append]; rfl)
                have HA2 := hide (show ∀ y ∈ vz, y = z by
                  rw [hvz]
                  intro y hy
                  rcases List.mem_append.1 hy with hy | hy
                  · exact HALL.out y hy
                  · exact List.mem_singleton.1 hy)
                obtain ⟨qa, qc, rfl, _, _⟩ := O6.form
                have HO6 := hide O6
                clear hown hown' hgrow O6 hvz hsq
                go_wp2
                go_roundw
                case rel => exact ⟨vz, by have := HL.out; omega, HA2.out, HO6.out, B6.out⟩
                case measure => simp only [lackOf]; have := HL.out; omega
              · have hve : (vs.length : Int) = v := by omega
                have HRES := hide (apply_same HV.out HNB.out HZM.out HALL.out hve)
                have SQ := hide hsq
                have hne2 : (z != z) = false := by simp
                have SD := hide (SQ.out.below (bdrew' (Below.refl _ _)))
                have hvd := HVI.out.below (bdrew' (Below.refl wr.heap.size wr))
                have hckd : wr.drew.cell? ⟨sb, so + k, none⟩ = some (.int .i64 z) := hck
                have HCQ := hide hckd
                clear hown hsq
                go_upto_region 13 with fail
                go_region_held3 (fun w' => w'.cell? ⟨w1.heap.size, 0, none⟩ = some (.int .i64 m) ∧ w'.cell? ⟨w1.heap.size, 1, none⟩ = some (.slice (some ⟨sb, so, none⟩) ss.length cv) ∧ w'.cell? ⟨w1.heap.size + 1, 0, none⟩ = some (.int .i64 v) ∧ w'.cell? ⟨w1.heap.size + 1, 1, none⟩ = some (.slice bv ws.length cb) ∧ w'.cell? ⟨sb, so + k, none⟩ = some (.int .i64 z))
                  (first | go_keep | exact K6.out | exact ⟨SD.out.1.2.1, SD.out.1.2.2, SD.out.2.1.2.1, SD.out.2.1.2.2, HCQ.out⟩)
                  (first
                    | (go_at_call 41; refine (implApply_was _ _ _ _ _ _ _ _ _ _ _ _ _ SD.out.2.2.1 SD.out.2.2.2.1 hvd hn hm (by omega) HRES.out).mono ?_; rintro e w6 ⟨rfl, b6⟩; have S6 := hide (SD.out.below b6); have K6 := hide (show w6.cell? ⟨w1.heap.size, 0, none⟩ = some (.int .i64 m) ∧ w6.cell? ⟨w1.heap.size, 1, none⟩ = some (.slice (some ⟨sb, so, none⟩) ss.length cv) ∧ w6.cell? ⟨w1.heap.size + 1, 0, none⟩ = some (.int .i64 v) ∧ w6.cell? ⟨w1.heap.size + 1, 1, none⟩ = some (.slice bv ws.length cb) ∧ w6.cell? ⟨sb, so + k, none⟩ = some (.int .i64 z) from ⟨S6.out.1.2.1, S6.out.1.2.2, S6.out.2.1.2.1, S6.out.2.1.2.2, (b6.cell (p := ⟨sb, so + k, none⟩) (Nat.lt_of_lt_of_le HBL.out hsz)).trans HCQ.out⟩); clear b6)
                    | fail)
                all_goals
                  go_wp2
                  go_roundw
                  case rel => exact ⟨k + 1, by omega, by go_num, S6.out⟩
                  case measure => simp only [intOf]; omega
          · obtain rfl : k = ss.length := by omega
            have HS := hide hs
            clear hs
            go_wp2
            go_ret
            exact ⟨rfl, bnext HB.out HS.out.2.2.2.2⟩
end Go.Proofs.Ytklfpbidbiippaa
