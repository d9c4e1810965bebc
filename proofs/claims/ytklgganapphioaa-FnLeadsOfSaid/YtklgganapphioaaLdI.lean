/- Leads in the program. -/
import Derived.Test.YtklgganapphioaaLdC
namespace Go.Proofs.Ytklgganapphioaa
open Go.RowKit Go.Joins

theorem shl_small (t : Nat) (ht : t < 8) : wrap64 ((2 : Int) ^ t) = ((2 ^ t : Nat) : Int) := by
  have h := pow_256 ht
  have e : ((2 : Int) ^ t) = ((2 ^ t : Nat) : Int) := by simp
  rw [e]
  generalize 2 ^ t = p at h
  unfold wrap64
  omega
theorem implVS_was (n : Int) (a : Option Addr) (cap : Nat) (zs : List Int) (r : Bool) (w : World) (hi : Ints w a zs) (hn : zs.length ≤ 1048576) (h : vsB n zs = r) :
    Calls Try.prog 45 #[.agg #[.int .i64 n, .slice a zs.length cap]] w fun e w' => e = .returned (.bool r) ∧ Below w.heap.size w w' := by
  subst h
  exact implValidSpace_any n a cap zs w hi hn
theorem specVS_was (n : Int) (a : Option Addr) (cap : Nat) (zs : List Int) (r : Bool) (w : World) (hi : Ints w a zs) (hn : zs.length ≤ 1048576) (h : vsB n zs = r) :
    Calls Try.prog 66 #[.agg #[.int .i64 n, .slice a zs.length cap]] w fun e w' => e = .returned (.bool r) ∧ Below w.heap.size w w' := by
  subst h
  exact validSpace_any n a cap zs w hi hn
theorem PL_lt {N : Nat} {m : Nat × Nat} {i : Nat} (hi : i < (PL N m).length) : (PL N m)[i] < 2 * N := by
  have key : ∀ x ∈ PL N m, x < 2 * N := fun x h => by
    unfold PL at h
    obtain ⟨j, hj, e⟩ := List.mem_map.1 h
    have := List.mem_range.1 (List.mem_filter.1 hj).1
    have h2 := plc_lt m this
    omega
  exact key _ (List.getElem_mem hi)
theorem natD_lt {l : List Nat} {k : Nat} (h : k < l.length) : l.getD k 0 = l[k] := by simp [List.getD_eq_getElem?_getD, h]
theorem PL_len (N : Nat) (m : Nat × Nat) : (PL N m).length ≤ N := PLk_len N m
theorem LDs.g {w2 wr : World} {B0 K : Nat} {r : List Nat} (h : LDs w2 B0 K r wr) : LDg w2 B0 B0 K K r wr := h
theorem LDg.join {w1 w2 wr : World} {base g c K : Nat} {r r' : List Nat} (h : LDg w1 base g c K r w2) (h' : LDg w2 base g c K r' wr) : LDg w1 base g c K r' wr := ⟨h'.1, gtrans h.2.1 h'.2.1, h'.2.2⟩

set_option maxHeartbeats 8000000 in
set_option maxRecDepth 100000 in
theorem implLeadsOf_any (n : Int) (a : Option Addr) (cap : Nat) (zs : List Int) (w : World) (hi : Ints w a zs) (hn : zs.length ≤ 1048576) :
    Calls Try.prog 25 #[.agg #[.int .i64 n, .slice a zs.length cap]] w (Gives (ci (ldR n zs)) w) := by
  obtain ⟨i0, hi0, hz0, hz1, hz2⟩ := info_parts info_int
  have S0 := SV.new w n a zs cap none [] 28 hi (Ints.nil _ _)
  clear hi
  obtain ⟨⟨_, c0, c1⟩, _⟩ := S0.pair
  by_cases hv : vsB n zs = false
  · have HV := hide (show ci (ldR n zs) = [] from by rw [ldR_no hv]; rfl)
    have HVV := hide hv
    clear hv
    go_enter Try.func25, Try.ntmps25
    go_wp2_with fail
    refine (implVS_was _ _ _ _ _ _ S0.2.1 hn HVV.out).mono ?_
    rintro e w1 ⟨rfl, hb⟩
    go_wp2
    go_ret
    exact gives_nil HV.out (S0.below hb).2.2.2
  · have hv : vsB n zs = true := by simpa using hv
    have hV := valid_of hv
    have HR := hide (valid_range hV)
    have hN4 := hV.1
    obtain ⟨N, hN⟩ : ∃ N : Nat, n = (N : Int) := ⟨n.toNat, by omega⟩
    subst hN
    have HV := hide (ldR_yes hv)
    have HCR := hide (crR_yes hv)
    have HVV := hide hv
    have hN : 1 ≤ N ∧ N ≤ 4 := by omega
    clear hV hN4 hv
    go_enter Try.func25, Try.ntmps25
    go_wp2_with fail
    refine (implVS_was _ _ _ _ _ _ S0.2.1 hn HVV.out).mono ?_
    rintro e w1 ⟨rfl, hb⟩
    have S1 := S0.below hb
    clear S0 hb c0 c1
    obtain ⟨⟨_, c0, c1⟩, _⟩ := S1.pair
    go_wp2_with (at_make; refine wpList_make_full _ rfl _ _ 22 rfl w1.heap.size 3 i0 (.int .i64 0) 1 Try.underlying22 hi0 hz0 hz1 _ _ _ _ (2 * N) rfl rfl (by first | omega | (simp; omega)) (by first | omega | (simp; omega)) ?b2 ?b3 (by simp) ?_)
    case b2 => rw [hz2]; omega
    case b3 => unfold maxLen; omega
    intro w0 hown0 hgrow0
    rw [madeInts] at hown0
    have S2 := S1.below ((Below.refl _ _).grown hgrow0 (Nat.le_refl _) (fun k h => by cases h))
    have hw1 : w.heap.size < w1.heap.size := S1.1.1
    have HS1 := hide S1
    clear c0 c1 S1 hgrow0
    obtain ⟨⟨_, c0, c1⟩, _⟩ := S2.pair
    go_wp2_with fail
    refine (implCriticalParts_any _ _ _ _ _ S2.2.1 hn).mono ?_
    rintro e w3 ⟨v, rfl, own, hb3⟩
    obtain ⟨L, hL⟩ : ∃ L, L = critL N zs := ⟨_, rfl⟩
    have e1 : crR (N : Int) zs = ofP L := by rw [HCR.out, Int.toNat_natCast, hL]
    rw [e1] at own
    have hl81 : L.length ≤ 81 := by
      rw [hL]
      have h1 : (ordL N).length ≤ 81 := by simpa using range5_of ord_len hN.2
      exact Nat.le_trans (List.length_filter_le _ _) h1
    have H16 : Hid (∀ p ∈ L, p.1 < 16 ∧ p.2 < 16) := fun p hp => by
      rw [hL] at hp
      exact ord_16 hN.2 (List.mem_filter.1 hp).1
    have HLL := hide (ofP_len L)
    have HL := hide hL
    obtain ⟨va, vc, hve, pin⟩ := own.form
    rw [HLL.out] at hve
    subst hve
    have hB0 : w1.heap.size < w0.heap.size := (hown0.lt w1.heap.size rfl).2
    have HNE := hide (ownsP_ne own (g := w1.heap.size) (by omega))
    have PIN := hide pin
    have D0 := hide ((LDs.start hown0 hb3).g)
    have S3 := hide (S2.below hb3)
    have hw3 : w1.heap.size < w3.heap.size := Nat.lt_of_lt_of_le hB0 hb3.size
    obtain ⟨⟨_, d0, _⟩, _⟩ := S3.out.pair
    have DN := hide d0
    clear c0 c1 S2 own hown0 hb3 pin d0 hB0 hL e1
    go_wp2_with fail
    go_loopw [21] (fun i wr => ∃ ii : Nat, ii ≤ L.length ∧ i = .int .i64 ii ∧ LDg w3 w1.heap.size w1.heap.size (2 * N) (2 * N) (stI N L ii) wr) (fun i _ => L.length - (intOf i).toNat)
    case atStart => exact ⟨0, Nat.zero_le _, rfl, D0.out⟩
    case round =>
      clear D0
      obtain ⟨ii, hii, rfl, hc⟩ := hrel
      by_cases hlt : ii < L.length
      · obtain ⟨pc, hpc⟩ : ∃ pc, pc = L[ii].1 := ⟨_, rfl⟩
        obtain ⟨pb, hpb⟩ : ∃ pb, pb = L[ii].2 := ⟨_, rfl⟩
        have hm : L[ii] = (pc, pb) := by rw [hpc, hpb]
        have h16 := H16.out L[ii] (List.getElem_mem hlt)
        rw [hm] at h16
        have HS := hide (show stI N L (ii + 1) = stJ N (pc, pb) N (stI N L ii) from by rw [← hm]; exact stI_succ hlt)
        obtain ⟨r0, hr0⟩ : ∃ r0, r0 = stI N L ii := ⟨_, rfl⟩
        rw [← hr0] at hc HS
        obtain ⟨b1, o1, rfl, hb1, hc1⟩ := PIN.out (by rw [HLL.out]; omega)
        obtain ⟨x1, x2⟩ := hc1 ii (by rw [HLL.out]; omega)
        have hnb : b1 ≠ w1.heap.size := HNE.out b1 o1 none rfl
        rw [ofP_at hlt, hm] at x1 x2
        have z1 := hc.keep x1 (by simpa using hnb)
        have z2 := hc.keep x2 (by simpa using hnb)
        have hc5 := hc.below (bel1 wr (.cells #[.int .i64 (pc : Int), .int .i64 (pb : Int)] 52))
        obtain ⟨_, p0, p1⟩ := PBox.new wr (pc : Int) (pb : Int) 52
        have qn := hc5.keep DN.out (by simp; omega)
        have HC5 := hide hc5
        have hsz : w1.heap.size < wr.heap.size := Nat.lt_of_lt_of_le hw3 hc.2.1.size
        have H16m := hide h16
        clear x1 x2 hc1 hnb hb1 hm h16 hr0 hc hc5 hpc hpb
        go_wp2_with fail
        refine (placesOf_any N pc pb _ hN.2 H16m.out.1 H16m.out.2).mono ?_
        rintro e w6 ⟨v6, rfl, own6, b6⟩
        have HC6 := hide ((HC5.out.below b6).anchor)
        have HJ6 := hide (HC5.out.below b6)
        obtain ⟨P, hP⟩ : ∃ P, P = PL N (pc, pb) := ⟨_, rfl⟩
        have HPR := hide (show prU P P.length r0 = stJ N (pc, pb) N r0 from by rw [hP]; exact pr_eq hN.2 _ _)
        have hpl : P.length ≤ 4 := by rw [hP]; have := PL_len N (pc, pb); omega
        have HPL : Hid (∀ i (hi : i < P.length), P[i] < 2 * N) := fun i hi => by subst hP; exact PL_lt hi
        rw [← hP] at own6
        obtain ⟨ap, cp, hve, ip, gp⟩ := own6.form
        rw [ci_len] at hve
        subst hve
        have IP := hide ip
        have GP : Hid (∀ b o s, ap = some ⟨b, o, s⟩ → b ≠ w1.heap.size) := fun b o s e => by have h1 := (gp b o s e).1; have h2 := hsz; simp at h1; omega
        clear z1 z2 p0 p1 qn HC5 own6 b6 ip gp hP
        go_wp2_with fail
        go_loopw [31] (fun i wq => ∃ uu : Nat, uu ≤ P.length ∧ i = .int .i64 uu ∧ LDg w6 w1.heap.size w1.heap.size (2 * N) (2 * N) (prU P uu r0) wq) (fun i _ => P.length - (intOf i).toNat)
        case atStart => exact ⟨0, Nat.zero_le _, rfl, HC6.out⟩
        case round =>
          clear HC6
          obtain ⟨uu, huu, rfl, hc⟩ := hrel
          by_cases hut : uu < P.length
          · have HU := hide (prU_succ (P := P) (r := r0) hut)
            obtain ⟨f, hf⟩ : ∃ f, f = P[uu] := ⟨_, rfl⟩
            have hf8 : f < 2 * N := by rw [hf]; exact HPL.out uu hut
            obtain ⟨r1, hr1⟩ : ∃ r1, r1 = prU P uu r0 := ⟨_, rfl⟩
            rw [← hr1, ← hf] at HU
            rw [← hr1] at hc
            obtain ⟨b2, o2, rfl, _, hc2⟩ := IP.out (by rw [ci_len]; omega)
            have x1 := hc2 uu (by rw [ci_len]; exact hut)
            rw [ci_at hut, natD_lt hut, ← hf] at x1
            have y1 := hc.keep x1 (by have := GP.out b2 o2 none rfl; simpa using this)
            have HC := hide hc
            have HC2 := hide hc2
            clear x1 hc2 hf hr1 hc
            go_wp2_with fail
            clear y1
            go_loopw [37] (fun i wq => ∃ vv : Nat, vv ≤ P.length ∧ i = .int .i64 vv ∧ LDg w6 w1.heap.size w1.heap.size (2 * N) (2 * N) (prV P f vv r1) wq) (fun i _ => P.length - (intOf i).toNat)
            case atStart => exact ⟨0, Nat.zero_le _, rfl, HC.out⟩
            case round =>
              clear HC
              obtain ⟨vv, hvv, rfl, hc⟩ := hrel
              by_cases hvt : vv < P.length
              · obtain ⟨o, ho⟩ : ∃ o, o = P[vv] := ⟨_, rfl⟩
                have ho8 : o < 2 * N := by rw [ho]; exact HPL.out vv hvt
                have x1 := HC2.out vv (by rw [ci_len]; exact hvt)
                rw [ci_at hvt, natD_lt hvt, ← ho] at x1
                have y1 := hc.keep x1 (by have := GP.out b2 o2 none rfl; simpa using this)
                have HC := hide hc
                have HO := hide ho
                clear x1 ho hc
                by_cases hfo : f = o
                · have hne : ((f : Int) != (o : Int)) = false := by rw [hfo]; simp
                  have HV0 := hide (prV_no (f := f) (r := r1) hvt (show (f != P[vv]) = false from by rw [← HO.out]; simpa using hfo))
                  clear hfo
                  go_wp2_with fail
                  go_roundw
                  case rel => exact ⟨vv + 1, by omega, by go_num, by rw [HV0.out]; exact HC.out⟩
                  case measure => simp only [intOf]; omega
                · have hne : ((f : Int) != (o : Int)) = true := by simp; omega
                  have HV1 := hide (prV_yes (f := f) (r := r1) hvt (show (f != P[vv]) = true from by rw [← HO.out]; simpa using hfo))
                  clear hfo
                  obtain ⟨t, ht⟩ : ∃ t, o ^^^ 1 = t := ⟨_, rfl⟩
                  have ht8 : t < 8 := by rw [← ht]; exact Nat.xor_lt_two_pow (n := 3) (by omega) (by omega)
                  obtain ⟨u, hu⟩ : ∃ u, u = prV P f vv r1 := ⟨_, rfl⟩
                  rw [← HO.out, ht, ← hu] at HV1
                  rw [← hu] at HC
                  obtain ⟨q, hq⟩ := HC.out.at (f := f) hf8
                  have hl := HC.out.2.2.at f
                  obtain ⟨lf, hlf⟩ : ∃ lf, u.getD f 0 = lf := ⟨_, rfl⟩
                  have hp := pow_256 ht8
                  have hsh := shl_small t ht8
                  obtain ⟨pt, hpt⟩ : ∃ pt, 2 ^ t = pt := ⟨_, rfl⟩
                  rw [hlf] at q hl
                  rw [hpt] at hp hsh
                  have hor := orL lf pt (by omega) (by omega)
                  have HE := hide (show bits .or .i64 (lf : Int) (wrap64 ((2 : Int) ^ t)) = ((lf ||| pt : Nat) : Int) from by rw [hsh]; exact hor)
                  have HP := hide hpt
                  have HLF := hide hlf
                  have HT := hide ht
                  clear hu hpt hlf ht hsh hor
                  go_wp2_with fail
                  clear y1
                  go_region_with (go_at_call 75; refine (oppositePlace_was o t _ (by omega) HT.out).mono ?_; rintro e w' ⟨rfl, rfl⟩)
                  all_goals go_wp2
                  all_goals
                    go_roundw
                    case rel => exact ⟨vv + 1, by omega, by go_num, by rw [HV1.out]; unfold upd; rw [HLF.out, HP.out]; have h5 := (HC.out.store (f := f) (or_256 hl hp)).drew; rw [← HE.out] at h5; exact h5⟩
                    case measure => simp only [intOf]; omega
              · obtain rfl : vv = P.length := by omega
                go_wp2_with fail
                go_roundw
                case rel => exact ⟨uu + 1, by omega, by go_num, by rw [HU.out]; exact hc⟩
                case measure => simp only [intOf]; omega
          · obtain rfl : uu = P.length := by omega
            go_wp2_with fail
            go_roundw
            case rel => exact ⟨ii + 1, by omega, by go_num, by rw [HS.out, ← HPR.out]; exact HJ6.out.join hc⟩
            case measure => simp only [intOf]; omega
      · obtain rfl : ii = L.length := by omega
        go_wp2_with fail
        refine (followLeads_any (2 * N) _ _ _ _ _ hc.anchor (by omega)).mono ?_
        rintro e w8 ⟨rfl, h8⟩
        go_wp2_with fail
        go_ret
        have h9 := hc.join h8
        refine ⟨_, rfl, ?_, ?_⟩
        · refine Owns.le (base := w1.heap.size) ?_ (by omega)
          have h1 := h9.1
          have h2 := h9.2.2.1
          unfold Owns
          rw [HV.out, ← HL.out, ci_len]
          clear h9 h8 hc
          generalize (clK (2 * N) (2 * N) (stI N L L.length)) = z at h1 h2 ⊢
          rw [h2]
          exact h1
        · exact bgrown S3.out.2.2.2 h9.2.1 (by omega) (fun k hk => by cases hk; omega)
end Go.Proofs.Ytklgganapphioaa
