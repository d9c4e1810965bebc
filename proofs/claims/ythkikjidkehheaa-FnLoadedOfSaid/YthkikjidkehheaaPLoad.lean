/- The promise of LoadedOf: loads are as many as names, and its committee is just by together. -/
import Derived.Test.YthkikjidkehheaaLoadP
import Derived.Test.YthkikjidkehheaaLoadI
import Derived.Test.YthkikjidkehheaaDrawB4
import Derived.Test.YthkikjidkehheaaPJust
import Derived.Test.YthkikjidkehheaaMask
namespace Go.Proofs.Ythkikjidkehheaa
open Go.RowKit Go.Joins

theorem nz_names {ns : List Nat} (h : ∀ x ∈ ns, x < 5) : NamesOk (nz ns) := fun j hj => by
  rw [nz_len] at hj
  rw [nz_getD]
  have := h _ (List.getElem_mem hj)
  rw [List.getD_eq_getElem?_getD, List.getElem?_eq_getElem hj]
  simp only [Option.getD_some]
  omega
theorem or_new : ∀ w : Fin 32, ∀ x : Fin 5, bitN w.val x.val = 0 → w.val ||| 2 ^ x.val = w.val + 2 ^ x.val := by decide +kernel
theorem maskK_app (zs : List Int) (x : Int) : ∀ k, k ≤ zs.length → maskK (zs ++ [x]) k = maskK zs k
  | 0, _ => rfl
  | k + 1, h => by
    rw [maskK, maskK, maskK_app zs x k (by omega), List.getD_eq_getElem?_getD, List.getElem?_append_left (by omega), ← List.getD_eq_getElem?_getD]
theorem maskK_nz : ∀ ns : List Nat, ns.Nodup → (∀ x ∈ ns, x < 5) → maskK (nz ns) (nz ns).length = maskN ns := by
  intro ns
  induction h : ns.length generalizing ns with
  | zero =>
    intro _ _
    obtain rfl := List.eq_nil_of_length_eq_zero h
    rfl
  | succ n ih =>
    intro hd hlt
    obtain ⟨ms, x, rfl⟩ : ∃ ms x, ns = ms ++ [x] := ⟨ns.dropLast, ns.getLast (by intro e; subst e; simp at h), (List.dropLast_concat_getLast _).symm⟩
    rw [List.nodup_append] at hd
    have hx : ¬ x ∈ ms := fun hm => hd.2.2 x hm x (by simp) rfl
    have hx5 := hlt x (by simp)
    have hlt' : ∀ y ∈ ms, y < 5 := fun y hy => hlt y (by simp [hy])
    obtain ⟨h1, h2⟩ := mask_ok ms hd.1 hlt'
    rw [maskN_app, nz_app, List.length_append]
    show maskK (nz ms ++ [(x : Int)]) (nz ms).length ||| 2 ^ ((nz ms ++ [(x : Int)]).getD (nz ms).length 0).toNat = _
    rw [maskK_app _ _ _ (Nat.le_refl _), ih ms (by simpa using h) hd.1 hlt']
    rw [show ((nz ms ++ [(x : Int)]).getD (nz ms).length 0) = (x : Int) from by simp [List.getD_eq_getElem?_getD], Int.toNat_natCast]
    exact or_new ⟨maskN ms, h1⟩ ⟨x, hx5⟩ (by rw [h2 x hx5, if_neg hx])
theorem pc_put : ∀ w : Fin 32, ∀ x : Fin 5, bitN w.val x.val = 0 → pc (w.val + 2 ^ x.val) = pc w.val + 1 := by decide +kernel
theorem pc_mask : ∀ ns : List Nat, ns.Nodup → (∀ x ∈ ns, x < 5) → pc (maskN ns) = ns.length := by
  intro ns
  induction h : ns.length generalizing ns with
  | zero =>
    intro _ _
    obtain rfl := List.eq_nil_of_length_eq_zero h
    rfl
  | succ n ih =>
    intro hd hlt
    obtain ⟨ms, x, rfl⟩ : ∃ ms x, ns = ms ++ [x] := ⟨ns.dropLast, ns.getLast (by intro e; subst e; simp at h), (List.dropLast_concat_getLast _).symm⟩
    rw [List.nodup_append] at hd
    have hx : ¬ x ∈ ms := fun hm => hd.2.2 x hm x (by simp) rfl
    have hx5 := hlt x (by simp)
    have hlt' : ∀ y ∈ ms, y < 5 := fun y hy => hlt y (by simp [hy])
    obtain ⟨h1, h2⟩ := mask_ok ms hd.1 hlt'
    have hl : ms.length = n := by simpa using h
    rw [maskN_app, pc_put ⟨maskN ms, h1⟩ ⟨x, hx5⟩ (by rw [h2 x hx5, if_neg hx]), ih ms hl hd.1 hlt']
theorem mask_le : ∀ m : Fin 6, ∀ w : Fin 32, (∀ y : Fin 5, bitN w.val y.val = 1 → y.val < m.val) → w.val < 2 ^ m.val := by decide +kernel
theorem mask_lt {m : Nat} {ns : List Nat} (hm : m ≤ 5) (hd : ns.Nodup) (h : ∀ x ∈ ns, x < m) : maskN ns < 2 ^ m := by
  obtain ⟨h1, h2⟩ := mask_ok ns hd (fun x hx => by have := h x hx; omega)
  refine mask_le ⟨m, by omega⟩ ⟨_, h1⟩ fun y hy => ?_
  simp only at hy ⊢
  rw [h2 _ y.isLt] at hy
  by_cases e : y.val ∈ ns
  · exact h _ e
  · rw [if_neg e] at hy; cases hy
theorem wrong2_iff {ms : List Int} {l w : Nat} : wrongB 2 ms l w = true ↔ pc (orL ms 0 &&& w) < l := by
  unfold wrongB
  rw [if_neg (by decide), if_pos rfl, decide_eq_true_iff]
/-- what the law wants of the names and loads -/
theorem load_facts {c : Int} {bs : List Int} {k : Int} (h : seatsB c bs k = true) : ∃ m K : Nat, c = (m : Int) ∧ k = (K : Int) ∧ m ≤ 5 ∧ 1 ≤ K ∧ K ≤ m ∧ bs.length ≤ 6 ∧ loadA c bs k = runL m bs K ∧ LdOk m bs K (runL m bs K) ∧ maskV (nz (runL m bs K).1) = (maskN (runL m bs K).1 : Nat) ∧ maskN (runL m bs K).1 < 32 ∧ pc (maskN (runL m bs K).1) = K ∧
    totK (nz (runL m bs K).2.1) bs.length = (((runL m bs K).2.2 * ((runL m bs K).1.filter fun x => decide (supN bs x ≠ 0)).length : Nat) : Int) ∧ justB togS c bs k (maskN (runL m bs K).1 : Nat) = true := by
  have hS := seats_of h
  obtain ⟨m, rfl⟩ := Int.eq_ofNat_of_zero_le (show 0 ≤ c from by have := hS.1.1; omega)
  obtain ⟨K, rfl⟩ := Int.eq_ofNat_of_zero_le (show 0 ≤ k from by have := hS.2; omega)
  have hm5 : m ≤ 5 := by have := hS.1.1; omega
  have hKm : K ≤ m := by have := hS.2; omega
  have hK1 : 1 ≤ K := by have := hS.2; omega
  have h6 : bs.length ≤ 6 := by have := hS.1.2.1; omega
  have h1 : 1 ≤ bs.length := by have := hS.1.2.1; omega
  have hr := bal_range hS.1
  have OK := run_ok (c := m) (bs := bs) h6 K hKm
  have hlt5 : ∀ x ∈ (runL m bs K).1, x < 5 := fun x hx => by have := OK.lt x hx; omega
  have hmk : maskV (nz (runL m bs K).1) = (maskN (runL m bs K).1 : Nat) := by rw [maskV_yes (nz_names hlt5), maskK_nz _ OK.nd hlt5]
  have hpc : pc (maskN (runL m bs K).1) = K := by rw [pc_mask _ OK.nd hlt5, OK.ns]
  have hm32 := (mask_ok _ OK.nd hlt5).1
  have hml := mask_lt hm5 OK.nd OK.lt
  refine ⟨m, K, rfl, rfl, hm5, hK1, hKm, h6, by rw [loadA_yes h, Int.toNat_natCast, Int.toNat_natCast], OK, hmk, hm32, hpc, ?_, ?_⟩
  · have INV := ldI_run (m := m) (bs := bs) (U := 0) (g := 0) hm5 h6 (fun i _ hb => by unfold bitN at hb; simp at hb) K hKm
    rw [← INV.i2]
    have key : ∀ n, totK (nz (runL m bs K).2.1) n = ((su (fun i => (runL m bs K).2.1.getD i 0) n : Nat) : Int) := by
      intro n
      induction n with
      | zero => rfl
      | succ n ih => rw [totK, su, ih, nz_getD]; omega
    exact key _
  · have hseat : seatedB (m : Int) bs (K : Int) (maskN (runL m bs K).1 : Nat) = true := seatedB_yes h ⟨Int.natCast_nonneg _, by rw [pw_nat]; omega⟩ (by rw [Int.toNat_natCast, hpc]; exact Int.le_refl _)
    rw [just_iff (by rw [claim_tog]; decide) hseat, claim_tog]
    intro l hl1 hl2 g hg
    rw [Bool.eq_false_iff]
    intro hbad
    unfold badB at hbad
    rw [Bool.and_eq_true, due_iff, wrong2_iff] at hbad
    obtain ⟨⟨hd1, hd2⟩, hw⟩ := hbad
    rw [Int.toNat_natCast] at hd1 hd2 hw
    exact loads_fair hm5 h6 h1 hKm hr hg hl1 hd1 hd2 hw
/-- how many of the first names have ballots -/
def wantT (bs : List Int) (ns : List Nat) (t : Nat) : Nat := ((ns.take t).filter fun x => decide (supN bs x ≠ 0)).length
theorem wantT_yes {bs : List Int} {ns : List Nat} {t : Nat} (h : t < ns.length) (hs : supN bs ns[t] ≠ 0) : wantT bs ns (t + 1) = wantT bs ns t + 1 := by
  unfold wantT
  rw [List.take_succ_eq_append_getElem h, filter_snoc, if_pos (decide_eq_true hs)]
theorem wantT_no {bs : List Int} {ns : List Nat} {t : Nat} (h : t < ns.length) (hs : supN bs ns[t] = 0) : wantT bs ns (t + 1) = wantT bs ns t := by
  unfold wantT
  rw [List.take_succ_eq_append_getElem h, filter_snoc, if_neg (by simp [hs])]; rfl
theorem wantT_le (bs : List Int) (ns : List Nat) (t : Nat) : wantT bs ns t ≤ t := Nat.le_trans (List.length_filter_le _ _) (List.length_take_le _ _)
theorem implLd_was (c k : Int) (a : Option Addr) (cap : Nat) (bs : List Int) (s : List Nat × List Nat × Nat) (w : World) (hi : Ints w a bs) (hn : bs.length ≤ 1048576) (h : loadA c bs k = s) :
    Calls Try.prog 9 #[.int .i64 c, .slice a bs.length cap, .int .i64 k] w fun e w' => LdE w w' s e := by
  subst h
  exact implLoaded_any c k a cap bs w hi hn
theorem specLd_was (c k : Int) (a : Option Addr) (cap : Nat) (bs : List Int) (s : List Nat × List Nat × Nat) (w : World) (hi : Ints w a bs) (hn : bs.length ≤ 1048576) (h : loadA c bs k = s) :
    Calls Try.prog 7 #[.int .i64 c, .slice a bs.length cap, .int .i64 k] w fun e w' => LdE w w' s e := by
  subst h
  exact specLoaded_any c k a cap bs w hi hn
set_option maxHeartbeats 2000000 in
set_option maxRecDepth 100000 in
theorem walk_FnLoadedOf (a : Option Addr) (zs : List Nat) (cap : Nat) (w : World) (hi : Byts w a zs) (hl : zs.length ≤ maxLen) (hc : zs.length ≤ cap) :
    Calls Try.prog 5 #[.slice a zs.length cap] w fun e w' => e = .returned (.bool true) ∧ Below w.heap.size w w' := by
  by_cases h : 1048576 < zs.length
  · unfold maxLen at hl
    go_enter Try.func5, Try.ntmps5
    go_wp2
    go_ret
    exact ⟨rfl, Below.refl _ _⟩
  · have hl' : zs.length ≤ 1048576 := by omega
    clear h hl
    go_enter Try.func5, Try.ntmps5
    go_wp2_with fail
    refine (drawLd_any _ _ _ _ hi hl' hc).mono ?_
    rintro e w1 ⟨c, ab, bs, cb, k, rfl, hc6, ib, hb6, hk32, hb1⟩
    have hn : bs.length ≤ 1048576 := by omega
    clear hi
    by_cases hS : seatsB c bs k = true
    · obtain ⟨m, K, rfl, rfl, hm5, hK1, hKm, h6, hA, OK, hmk, hm32, hpc, htot, hjust⟩ := load_facts hS
      have hv := (seats_of hS).1
      have HAP := hide (appA_yes (c := (m : Int)) (bs := bs) (balB_true hv))
      rw [Int.toNat_natCast] at HAP
      obtain ⟨⟨ns, ls, den⟩, hs⟩ : ∃ s, runL m bs K = s := ⟨_, rfl⟩
      rw [hs] at hA OK hmk hm32 hpc htot hjust
      obtain ⟨hnl, hnd, hlt, hll, hd1, hd6, hlb⟩ := OK
      simp only at hA hmk hm32 hpc htot hjust hnl hnd hlt hll hd1 hd6 hlb
      have hd7 : den ≤ 7776 := Nat.le_trans hd6 (pow6 K (by omega))
      have htr : ∀ t, t ≤ bs.length → -1073741824 ≤ totK (nz ls) t ∧ totK (nz ls) t ≤ 1073741824 := by
        have key : ∀ t, 0 ≤ totK (nz ls) t ∧ totK (nz ls) t ≤ (t : Int) * 38880 := by
          intro t
          induction t with
          | zero => simp [totK]
          | succ t ih =>
            have h1 := Nat.le_trans (hlb t) (Nat.mul_le_mul (show K ≤ 5 from by omega) hd7)
            rw [totK, nz_getD]
            omega
        intro t ht
        have := key t
        omega
      obtain ⟨W, hW⟩ : ∃ W, W = maskN ns := ⟨_, rfl⟩
      rw [← hW] at hmk hm32 hpc hjust
      have hwf : wantT bs ns K = (ns.filter fun x => decide (supN bs x ≠ 0)).length := by unfold wantT; rw [← hnl, List.take_length]
      rw [← hwf] at htot
      have hwl := wantT_le bs ns K
      obtain ⟨Z, hZ⟩ : ∃ Z, Z = nz ns := ⟨_, rfl⟩
      obtain ⟨X, hX⟩ : ∃ X, X = nz ls := ⟨_, rfl⟩
      have hZl : Z.length = K := by rw [hZ, nz_len, hnl]
      have hXl : X.length = bs.length := by rw [hX, nz_len, hll]
      rw [← hZ] at hmk
      rw [← hX] at htot htr
      rw [← hXl] at htot htr
      have HAA := hide hA
      have HMK := hide hmk
      have HTOT := hide htot
      have HTR := hide htr
      have HJ := hide hjust
      have HPC := hide hpc
      have HZ := hide hZ
      have HX := hide hX
      have HLT := hide hlt
      have HNL := hide hnl
      have HZL := hide hZl
      have HXL := hide hXl
      have hZ5 : Z.length ≤ 5 := by omega
      have hX6 : X.length ≤ 6 := by omega
      have hdz : ((den : Int) == 0) = false := by rw [beq_eq_false_iff_ne]; omega
      have hdd : ((den : Int) != (den : Int)) = false := by simp
      clear hA hmk htot htr hjust hs hW hZ hX hwf hlb hnl hlt hnd hll hd6 hpc hS hv hZl hXl
      go_wp2_with fail
      refine (implLd_was _ _ _ _ _ _ _ ib hn HAA.out).mono ?_
      rintro e w2 ⟨v2, x2, rfl, own2, ox2, _, hb2⟩
      simp only at own2 ox2
      rw [← HZ.out] at own2
      rw [← HX.out] at ox2
      obtain ⟨a2, c2, rfl, i2, _⟩ := own2.form
      obtain ⟨b2, d2, rfl, j2, _⟩ := ox2.form
      have ib2 := ib.below hb2
      have B2 := bnext hb1 hb2
      clear ib hb1 hb2 own2 ox2
      go_wp2_with fail
      refine (specLd_was _ _ _ _ _ _ _ ib2 hn HAA.out).mono ?_
      rintro e w3 ⟨v3, x3, rfl, own3, ox3, _, hb3⟩
      simp only at own3 ox3
      rw [← HZ.out] at own3
      rw [← HX.out] at ox3
      obtain ⟨a3, c3, rfl, i3, _⟩ := own3.form
      obtain ⟨b3, d3, rfl, j3, _⟩ := ox3.form
      have ib3 := ib2.below hb3
      have B3 := bnext B2 hb3
      have k2 := i2.below hb3
      have l2 := j2.below hb3
      clear ib2 B2 hb3 own3 ox3 i2 j2
      go_wp2_with fail
      refine (equalInts_yes _ _ _ _ _ _ k2 i3 (by omega)).mono ?_
      rintro e w4 ⟨rfl, hb4⟩
      go_wp2_with fail
      refine (equalInts_yes _ _ _ _ _ _ (l2.below hb4) (j3.below hb4) (by omega)).mono ?_
      rintro e w5 ⟨rfl, hb5⟩
      have hb45 := bnext hb4 hb5
      have ib5 := ib3.below hb45
      have B5 := bnext B3 hb45
      have k5 := k2.below hb45
      have l5 := l2.below hb45
      clear ib3 B3 hb4 hb5 hb45 i3 j3 k2 l2
      go_wp2_with fail
      refine (implApp_any _ _ _ _ _ ib5 hn).mono ?_
      rintro e w6 ⟨v6, rfl, own6, hb6'⟩
      rw [HAP.out] at own6
      obtain ⟨a6, c6, rfl, i6, _⟩ := own6.form
      have hsl := supL_length m bs
      have ib6 := ib5.below hb6'
      have B6 := bnext B5 hb6'
      have k6 := k5.below hb6'
      have l6 := l5.below hb6'
      clear ib5 B5 k5 l5 hb6' own6
      go_wp2_with fail
      go_loop [13, 14] (fun n i => ∃ t : Nat, t ≤ Z.length ∧ i = .int .i64 t ∧ n = .int .i64 (wantT bs ns t : Nat)) (fun _ i => Z.length - (intOf i).toNat)
      case atStart => exact ⟨0, Nat.zero_le _, rfl, rfl⟩
      case round =>
        obtain ⟨t, ht, rfl, rfl⟩ := hrel
        have hwt := wantT_le bs ns t
        by_cases hlt : t < Z.length
        · have htn : t < ns.length := by rw [HNL.out, ← HZL.out]; exact hlt
          obtain ⟨b, off, rfl, hbl, hc⟩ := k6 (by omega)
          have hck := hc t hlt
          have hzt : Z.getD t 0 = ((ns[t] : Nat) : Int) := by
            rw [HZ.out, nz_getD, List.getD_eq_getElem?_getD, List.getElem?_eq_getElem htn]; rfl
          rw [hzt] at hck
          have hxm := HLT.out _ (List.getElem_mem htn)
          have HWY := hide (fun hs => wantT_yes (bs := bs) htn hs)
          have HWN := hide (fun hs => wantT_no (bs := bs) htn hs)
          obtain ⟨x, hx⟩ : ∃ x, x = ns[t] := ⟨_, rfl⟩
          rw [← hx] at hck hxm HWY HWN
          obtain ⟨b2, off2, rfl, hbl2, hc2⟩ := i6 (by rw [hsl]; omega)
          have hcx := hc2 x (by rw [hsl]; exact hxm)
          rw [supL_getD m bs x hxm] at hcx
          have hsp := supN_le bs x
          obtain ⟨sp, hsp2⟩ : ∃ sp, sp = supN bs x := ⟨_, rfl⟩
          rw [← hsp2] at hcx hsp HWY HWN
          clear hc hc2 hzt hx hsp2 k6 l6
          have hsl2 : (supL m bs).length = m := hsl
          by_cases hz : sp = 0
          · have HN := hide (HWN.out hz)
            subst hz
            go_wp2
            go_round
            case rel => exact ⟨t + 1, by omega, by go_num, by rw [HN.out]⟩
            case measure => simp only [intOf]; omega
          · have HN := hide (HWY.out hz)
            go_wp2
            go_round
            case rel => exact ⟨t + 1, by omega, by go_num, by rw [HN.out]; go_num⟩
            case measure => simp only [intOf]; omega
        · obtain rfl : t = Z.length := by omega
          obtain ⟨wn, hwn⟩ : ∃ wn, wn = wantT bs ns Z.length := ⟨_, rfl⟩
          have hwn2 : wantT bs ns K = wn := by rw [hwn, HZL.out]
          have HT2 := HTOT.out
          rw [hwn2] at HT2
          rw [← hwn]
          have hwn5 : wn ≤ 5 := by have := wantT_le bs ns Z.length; omega
          obtain ⟨P, hP⟩ : ∃ P, P = den * wn := ⟨_, rfl⟩
          rw [← hP] at HT2
          have hP2 : P ≤ 38880 := by rw [hP]; exact Nat.mul_le_mul hd7 hwn5
          have hmul : (wn : Int) * (den : Int) = (P : Int) := by rw [hP, Int.natCast_mul, Int.mul_comm]
          have HTT := hide HT2
          have hzk : ((Z.length : Int) == (K : Int)) = true := by rw [HZL.out]; simp
          have hkk : ((K : Int) == (K : Int)) = true := by simp
          have hpp : ((P : Int) == (P : Int)) = true := by simp
          have hW64 : W < 64 := by omega
          clear hP hwn hwn2 HT2 ht hwt hlt hwl
          go_wp2_with fail
          refine (implMask_any _ _ _ _ k6 (by omega)).mono ?_
          rintro e w7 ⟨rfl, hb7⟩
          rw [HMK.out]
          have ib7 := ib6.below hb7
          have l7 := l6.below hb7
          have B7 := bnext B6 hb7
          clear ib6 l6 B6 hb7 k6
          go_wp2_with (first
            | (go_at_call 19; refine (lawWeight_any W _ hW64).mono ?_; rintro e w' ⟨rfl, rfl⟩; rw [HPC.out])
            | (go_at_call 20; refine (lawTotal_any _ _ _ _ l7 (by omega) HTR.out).mono ?_; rintro e w' ⟨rfl, rfl⟩; rw [HTT.out])
            | (go_at_call 21; refine (implIsJust_any togS _ _ _ _ _ _ _ ib7 hn).mono ?_; rintro e w8 ⟨rfl, hb8⟩; rw [HJ.out]))
          go_ret
          exact ⟨rfl, bnext B7 hb8⟩
    · have hS : seatsB c bs k = false := by simpa using hS
      have HAA := hide (loadA_no hS)
      clear hS
      go_wp2_with fail
      refine (implLd_was _ _ _ _ _ _ _ ib hn HAA.out).mono ?_
      rintro e w2 ⟨v2, x2, rfl, own2, ox2, _, hb2⟩
      obtain ⟨a2, c2, rfl, i2, _⟩ := own2.form
      obtain ⟨b2, d2, rfl, j2, _⟩ := ox2.form
      have ib2 := ib.below hb2
      have B2 := bnext hb1 hb2
      clear ib hb1 hb2 own2 ox2
      go_wp2_with fail
      refine (specLd_was _ _ _ _ _ _ _ ib2 hn HAA.out).mono ?_
      rintro e w3 ⟨v3, x3, rfl, own3, ox3, _, hb3⟩
      obtain ⟨a3, c3, rfl, i3, _⟩ := own3.form
      obtain ⟨b3, d3, rfl, j3, _⟩ := ox3.form
      have B3 := bnext B2 hb3
      have k2 := i2.below hb3
      have l2 := j2.below hb3
      clear ib2 B2 hb3 own3 ox3 i2 j2
      go_wp2_with fail
      refine (equalInts_yes _ _ _ _ (nz []) _ k2 i3 (by decide)).mono ?_
      rintro e w4 ⟨rfl, hb4⟩
      go_wp2_with fail
      refine (equalInts_yes _ _ _ _ (nz []) _ (l2.below hb4) (j3.below hb4) (by decide)).mono ?_
      rintro e w5 ⟨rfl, hb5⟩
      have hb45 := bnext hb4 hb5
      go_wp2_with fail
      refine (equalInts_yes _ _ _ _ (nz []) _ (k2.below hb45) (i3.below hb45) (by decide)).mono ?_
      rintro e w6 ⟨rfl, hb6'⟩
      have hb46 := bnext hb45 hb6'
      go_wp2_with fail
      refine (equalInts_yes _ _ _ _ (nz []) _ (l2.below hb46) (j3.below hb46) (by decide)).mono ?_
      rintro e w7 ⟨rfl, hb7'⟩
      go_wp2
      go_ret
      exact ⟨rfl, bnext (bnext B3 hb46) hb7'⟩
end Go.Proofs.Ythkikjidkehheaa
