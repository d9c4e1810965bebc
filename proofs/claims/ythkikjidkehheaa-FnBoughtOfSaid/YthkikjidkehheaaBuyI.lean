/- BoughtOf of the program. -/
import Derived.Test.YthkikjidkehheaaBuyL
import Derived.Test.YthkikjidkehheaaBuyP
import Derived.Test.YthkikjidkehheaaBuyW
namespace Go.Proofs.Ythkikjidkehheaa
open Go.RowKit Go.Joins

/-- the purses while the first t of them are paid -/
def pyTo (bs : List Int) (ls : List Nat) (d a top bot t : Nat) : List Pur := (List.range bs.length).map fun i =>
  if i < t then (((if bitN (bs.getD i 0).toNat a = 1 then ls.getD i 0 * bot - top else ls.getD i 0 * bot : Nat) : Int), ((d * bot : Nat) : Int), bs.getD i 0) else (((ls.getD i 0 : Nat) : Int), (d : Int), bs.getD i 0)
theorem pyTo_len (bs : List Int) (ls : List Nat) (d a top bot t : Nat) : (pyTo bs ls d a top bot t).length = bs.length := by simp [pyTo]
theorem pyTo_zero (bs : List Int) (ls : List Nat) (d a top bot : Nat) : pyTo bs ls d a top bot 0 = pq bs ls d := by
  unfold pyTo pq pqK
  exact List.map_congr_left fun i _ => by rw [if_neg (by omega)]
theorem pyTo_all (bs : List Int) (ls : List Nat) (d a top bot : Nat) : pyTo bs ls d a top bot bs.length = pq bs (payUp bs ls a top bot) (d * bot) := by
  unfold pyTo pq pqK
  exact List.map_congr_left fun i hi => by rw [if_pos (by simpa using hi), payUp_at (by simpa using hi)]
theorem pyTo_at {bs : List Int} {ls : List Nat} {d a top bot t : Nat} (h : t < bs.length) : (pyTo bs ls d a top bot t)[t]'(by rw [pyTo_len]; exact h) = (((ls.getD t 0 : Nat) : Int), (d : Int), bs[t]) := by
  simp only [pyTo, List.getElem_map, List.getElem_range]
  rw [if_neg (by omega), getD_lt h]
theorem pyTo_set {bs : List Int} {ls : List Nat} {d a top bot t X : Nat} (h : t < bs.length) (hX : (if bitN bs[t].toNat a = 1 then ls.getD t 0 * bot - top else ls.getD t 0 * bot) = X) : (pyTo bs ls d a top bot t).set t ((X : Int), ((d * bot : Nat) : Int), bs[t]) = pyTo bs ls d a top bot (t + 1) := by
  refine List.ext_getElem (by rw [List.length_set, pyTo_len, pyTo_len]) fun i h1 h2 => ?_
  rw [List.getElem_set]
  by_cases e : t = i
  · subst e
    rw [if_pos rfl]
    simp only [pyTo, List.getElem_map, List.getElem_range]
    rw [if_pos (show t < t + 1 from by omega), getD_lt h, hX]
  · rw [if_neg e]
    simp only [pyTo, List.getElem_map, List.getElem_range]
    by_cases h3 : i < t
    · simp only [h3, show i < t + 1 from by omega, if_true]
    · rw [if_neg h3, if_neg (by omega)]
theorem pay_val {bs : List Int} {ls : List Nat} {d a top bot t : Nat} (h : t < bs.length) :
    (pyTo bs ls d a top bot t).set t (if apQ a (((ls.getD t 0 : Nat) : Int), (d : Int), bs[t]) = true then ((ls.getD t 0 * bot - top : Nat) : Int) else ((ls.getD t 0 : Nat) : Int) * (bot : Int), ((bot * d : Nat) : Int), bs[t]) = pyTo bs ls d a top bot (t + 1) := by
  by_cases e : bitN bs[t].toNat a = 1
  · rw [← pyTo_set (top := top) (X := ls.getD t 0 * bot - top) h (if_pos e), if_pos (show apQ a (((ls.getD t 0 : Nat) : Int), (d : Int), bs[t]) = true from decide_eq_true e), Nat.mul_comm bot d]
  · rw [← pyTo_set (top := top) (X := ls.getD t 0 * bot) h (if_neg e), if_neg (by unfold apQ; rw [decide_eq_false e]; decide), Nat.mul_comm bot d, Int.natCast_mul (ls.getD t 0) bot]
theorem left_val (x q t : Nat) : (if (x : Int) * (q : Int) - (t : Int) < 0 then 0 else (x : Int) * (q : Int) - (t : Int)) = ((x * q - t : Nat) : Int) := by
  rw [← Int.natCast_mul]
  split <;> omega
theorem py_new (k : Nat) (bs : List Int) : newQ (k : Int) bs = pq bs (List.replicate bs.length k) 1 := by
  unfold newQ pq pqK
  refine List.ext_getElem (by simp) fun i h1 h2 => ?_
  have h3 : i < bs.length := by simpa using h1
  simp [List.getD_eq_getElem?_getD, h3]
theorem leastB_was (m j : Nat) (a b : Option Addr) (ca cb : Nat) (bs : List Int) (ls ns : List Nat) (den cost gp : Nat) (r : Int × Nat × Nat) (w : World) (hm : m ≤ 5) (h6 : bs.length ≤ 6) (hr : ∀ b ∈ bs, 0 ≤ b ∧ b ≤ 31) (hd : den ≤ 7776) (hd1 : 1 ≤ den) (hb : ∀ i, ls.getD i 0 ≤ 38880)
    (hi : Ints w a (nz ns)) (hn : ns.length = j) (hj : j ≤ 5) (hq : QInts w b (pq bs ls den)) (hgp : w.cell? ⟨gp, 0, none⟩ = some (.int .i64 cost)) (hcost : cost = bs.length * den) (he : scanB (shB bs ls den) ns m = r) :
    Calls Try.prog 28 #[.int .i64 m, .slice a j ca, .slice b bs.length cb, .func (.func 34) #[] #[.pointer (some ⟨gp, 0, none⟩)]] w fun e w' => LsE den r e ∧ Below w.heap.size w w' := by
  subst hn he
  exact leastShareB_any m a b ca cb bs ls ns den cost gp w hm h6 hr hd hd1 hb hi hj hq hgp hcost
set_option maxHeartbeats 4000000 in
set_option maxRecDepth 100000 in
theorem implBought_any (c k : Int) (a : Option Addr) (cap : Nat) (bs : List Int) (w : World) (hi : Ints w a bs) (hn : bs.length ≤ 1048576) :
    Calls Try.prog 14 #[.int .i64 c, .slice a bs.length cap, .int .i64 k] w fun e w' => LdE w w' (boughtA c bs k) e := by
  obtain ⟨i0, hi0, hz0, hz1, hz2⟩ := info_parts info_int
  by_cases hv : balB c bs = true
  · by_cases hk : 1 ≤ k ∧ k ≤ c
    · have hsb : seatsB c bs k = true := (seatsB_yes hv).trans (decide_eq_true hk)
      have HA := hide (boughtA_yes hsb)
      have hS := seats_of hsb
      have hl6 : bs.length ≤ 6 := by have := hS.1.2.1; omega
      have hl1 : 1 ≤ bs.length := by have := hS.1.2.1; omega
      have HR := hide (bal_range hS.1)
      have HS := hide hk
      have HV := hide hv
      obtain ⟨m, rfl⟩ := Int.eq_ofNat_of_zero_le (show 0 ≤ c from by have := hS.1.1; omega)
      obtain ⟨K, rfl⟩ := Int.eq_ofNat_of_zero_le (show 0 ≤ k from by have := hS.2; omega)
      have hm5 : m ≤ 5 := by have := hS.1.1; omega
      have hKm : K ≤ m := by have := hS.2; omega
      rw [Int.toNat_natCast, Int.toNat_natCast] at HA
      clear hS hk hsb hv
      go_enter Try.func14, Try.ntmps14
      go_wp2_with fail
      refine (implBal_any _ _ _ _ _ hi hn).mono ?_
      rintro e wo ⟨rfl, B0⟩
      rw [HV.out]
      have hio := hi.below B0
      clear hi
      go_wp2_with (first
        | (go_at_call 26; refine (validSeats_yes _ _ _ HS.out).mono ?_; rintro e w' ⟨rfl, rfl⟩))
      refine (pursesWith_any _ _ _ bs _ hio hl6).mono ?_
      rintro e w1 ⟨⟨vq, rfl, oq⟩, hb1⟩
      rw [py_new] at oq
      obtain ⟨gq, cq, rfl⟩ : ∃ g cp, vq = .slice (some ⟨g, 0, none⟩) bs.length cp := by
        have h : w1.ownsRow wo.heap.size 47 3 vq (pq bs (List.replicate bs.length K) 1).length (qflat (pq bs (List.replicate bs.length K) 1)) := oq
        rw [pq_len] at h
        exact ownsRow_form h (by omega)
      have hgq := World.ownsRow.lt oq gq rfl
      have BW1 := bnext B0 hb1
      have OQR := row_of_ownsQ oq (pq_len _ _ _)
      have hwo := B0.size
      have hgw : w.heap.size ≤ gq := Nat.le_trans hwo hgq.1
      have hww : w.heap.size ≤ w1.heap.size := by omega
      clear oq hb1 B0
      go_wp2_with fail
      go_loopw [10] (fun v wr => ∃ j : Nat, (runB m bs K j).1.length = j ∧ wr.ownsRow w1.heap.size 3 1 v j ((nz (runB m bs K j).1).map (Value.int .i64)) ∧ wr.ownsRow wo.heap.size 47 3 (.slice (some ⟨gq, 0, none⟩) bs.length cq) bs.length (qflat (pq bs (runB m bs K j).2.1 (runB m bs K j).2.2)) ∧ Below w.heap.size w wr ∧ w1.heap.size ≤ wr.heap.size) (fun v _ => m + 1 - lenW v)
      case atStart => exact ⟨0, rfl, World.ownsRow_nil _ _ _ _, OQR, BW1, Nat.le_refl _⟩
      case round =>
        clear OQR BW1
        obtain ⟨j, hjl, O10, OQ, BR, hsz⟩ := hrel
        obtain ⟨wq, rfl⟩ : ∃ wq, wq = wr := ⟨_, rfl⟩
        have OK := runB_ok (c := m) (bs := bs) (k := K) hl6 j
        have HST := hide (show runB m bs K (j + 1) = stepB m bs (runB m bs K j) from rfl)
        have HSTOP := hide (@runB_stop m bs K j)
        obtain ⟨⟨ns, ls, den⟩, hst⟩ : ∃ s, runB m bs K j = s := ⟨_, rfl⟩
        rw [hst] at O10 OQ OK HST hjl HSTOP
        have HSS := hide hst
        clear hst
        simp only at O10 OQ OK hjl
        obtain ⟨_, hnd, hlt, hll, hd1, hd6, hlb⟩ := OK
        simp only at hnd hlt hll hd1 hd6 hlb
        have hjm : j ≤ m := by have := nodup_most hnd hlt; omega
        have hd7 : den ≤ 7776 := by rw [hjl] at hd6; exact Nat.le_trans hd6 (pow6 j (by omega))
        have hlb2 : ∀ i, ls.getD i 0 ≤ 38880 := fun i => Nat.le_trans (hlb i) (Nat.mul_le_mul (show K ≤ 5 from by omega) hd7)
        have HLB := hide hlb2
        have HNL := hide hjl
        have HLL := hide hll
        have HND := hide hnd
        have HLT := hide hlt
        clear hd6 hlb hlb2 hlt hnd hjl hll
        have c1 : wq.cell? ⟨gq, 1, none⟩ = some (.int .i64 (den : Int)) := by
          have hpl := pq_len bs ls den
          have h1 := (OQ.cellAt 1 (by omega)).trans (qflat_get (pq bs ls den) 0 (by rw [hpl]; omega)).2.1
          have hd0 : ((pq bs ls den).getD 0 (0, 0, 0)).2.1 = (den : Int) := by
            rw [qgetD_lt (by rw [hpl]; omega)]
            simp [pq, pqK]
          rw [hd0] at h1
          exact h1
        obtain ⟨cost, hcost⟩ : ∃ cost, cost = bs.length * den := ⟨_, rfl⟩
        have HCO := hide hcost
        have HMU : Hid ((bs.length : Int) * (den : Int) = (cost : Int)) := by unfold Hid; rw [hcost]; omega
        have hpb := mul_small6 hl6 hd7
        clear hcost
        obtain ⟨r, hr⟩ : ∃ r, scanB (shB bs ls den) ns m = r := ⟨_, rfl⟩
        have HRR := hide hr
        have HSK := hide (scanB_ok (sh := shB bs ls den) (ns := ns) m)
        have hsm := scanB_small (bs := bs) (ps := ls) (ns := ns) hl6 hd7 m
        rw [hr] at HSK hsm
        have bp := bel1 wq (.cells #[.int .i64 cost] 3)
        have kp := cell_of_block (heap_alloc_new wq (.cells #[.int .i64 cost] 3)) 0
        obtain ⟨av, cv, hvf, OI, _⟩ := (owns_of_row O10 (by rw [nz_len, HNL.out])).form
        rw [nz_len, HNL.out] at hvf
        subst hvf
        have QI := (ownsQ_of_row OQ (pq_len _ _ _)).qints
        clear hr
        go_wp2_with fail
        rw [HMU.out]
        obtain ⟨Wp, hWp⟩ : ∃ W : World, W = wq.alloc (.cells #[.int .i64 cost] 3) := ⟨_, rfl⟩
        obtain ⟨gp, hgp⟩ : ∃ g, g = wq.heap.size := ⟨_, rfl⟩
        rw [← hWp] at bp kp ⊢
        rw [← hgp] at kp ⊢
        clear hWp hgp
        refine (leastB_was m j _ _ _ _ bs ls ns den cost gp r _ hm5 hl6 HR.out hd7 hd1 HLB.out (OI.below bp) HNL.out (by omega) (QI.below bp) kp HCO.out HRR.out).mono ?_
        rintro e w3 ⟨⟨F, found, T, B, hls, rfl⟩, hb3p⟩
        have hb3 := bnext bp hb3p
        clear hb3p bp kp
        have bb := bel1 w3 (.cells #[.int .i64 T, .int .i64 B] 42)
        have B4 := bnext hb3 bb
        have k12 := heap_alloc_new w3 (.cells #[.int .i64 T, .int .i64 B] 42)
        have hg12 : wq.heap.size ≤ w3.heap.size := hb3.size
        go_upto_region 7 with fail
        obtain ⟨W4, hW4⟩ : ∃ W4 : World, W4 = w3.alloc (.cells #[.int .i64 T, .int .i64 B] 42) := ⟨_, rfl⟩
        obtain ⟨g12, hgg⟩ : ∃ g, g = w3.heap.size := ⟨_, rfl⟩
        rw [← hW4, ← hgg] at k12
        rw [← hW4] at B4
        rw [← hgg] at hg12
        rw [← hW4, ← hgg]
        clear hW4 hgg bb hb3
        have O10b := row_of_owns ((owns_of_row O10 (by rw [nz_len, HNL.out])).below B4) (n := j) (by rw [nz_len, HNL.out])
        have OQb := row_of_ownsQ ((ownsQ_of_row OQ (pq_len _ _ _)).below B4) (pq_len _ _ _)
        have BR4 := BR.trans (B4.mono BR.size)
        have hs4 := Nat.le_trans hsz B4.size
        have c1b := (B4.cell (p := ⟨gq, 1, none⟩) (by show gq < wq.heap.size; omega)).trans c1
        have HNB := hide (fun k hk => (World.ownsRow.lt O10 k hk).2)
        clear O10 OQ OI QI BR B4 c1
        obtain ⟨hT, hcase⟩ := hls
        rcases hcase with ⟨c1, c2, c3, c4, c5⟩ | ⟨c1, c3, c4, c5⟩
        · subst c3 c4 c5
          have hstep := stepB_none HRR.out (by rw [c1]; exact Int.negSucc_lt_zero 0)
          have HRUN := hide (show runB m bs K (m + 1) = (ns, ls, den) by
            have h3 := HSTOP.out hstep (m + 1 - j)
            rw [show j + (m + 1 - j) = m + 1 from by omega] at h3
            exact h3)
          have QI := hide (ownsQ_of_row OQb (pq_len _ _ _)).qints
          have HPL := hide (pq_len bs ls den)
          have HOW := hide (owns_of_row O10b (by rw [nz_len, HNL.out]))
          have HAB := hide (abv_pq (ls := ls) (d := den) HLL.out)
          have hgl : gq < W4.heap.size := by omega
          clear O10b OQb c1 c2 hT hsm k12 hstep
          go_wp2
          go_region_with (go_at_call 32; refine (numbersW_was _ _ _ (pq bs ls den) _ _ (QI.out.below (belN _ 1)) HPL.out hl6 HAB.out).mono ?_; rintro e w8 ⟨⟨v8, rfl, o8⟩, hb8⟩; have c1c := (hb8.cell (p := ⟨gq, 1, none⟩) hgl).trans c1b)
          all_goals
            go_wp2
            go_ret3
            rw [HA.out, HRUN.out]
            exact ⟨.slice av j cv, v8, rfl, (HOW.out.below (bdrew hb8)).le hww, o8.le BR4.size, fun g hg e => by
              have h1 := (World.ownsRow.lt o8 g e).1
              have h2 := (World.ownsRow.lt HOW.out g hg).2
              simp at h1
              omega, bnext BR4 (bdrew hb8)⟩
        · obtain ⟨q, tp, bt, hq, hqm, hqn, hbt, hb6, htp⟩ : ∃ q tp bt : Nat, r = ((q : Int), tp, bt) ∧ q < m ∧ ¬ q ∈ ns ∧ 1 ≤ bt ∧ bt ≤ 6 ∧ tp ≤ 46656 := by
            rcases HSK.out with ⟨e, _⟩ | ⟨q, a, b, e, h1, h2, h3⟩
            · omega
            · rw [e] at hsm
              exact ⟨q, a, b, e, h1, h2, hsm.2.2.2.2, hsm.2.2.2.1, hsm.2.2.1⟩
          subst hq
          simp only at c1 c4 c5 hT
          subst c3 c4 c5 hT
          obtain ⟨D, hD⟩ : ∃ D, bt * den = D := ⟨_, rfl⟩
          have HD := hide hD
          have hD2 : D ≤ 46656 := by rw [← hD]; exact Nat.mul_le_mul hb6 hd7
          rw [hD] at k12 ⊢
          have HRUN := hide (HST.out.trans (stepB_some HRR.out))
          have hwz : w.heap.size ≤ W4.heap.size := BR4.size
          have hgl12 := lt_of_block k12
          have HQN := hide hqn
          clear hsm c1 hD HSK hqn
          go_wp2_with ((at_builtin; refine wpList_append_apart _ rfl _ _ 22 rfl w1.heap.size 3 i0 (.int .i64 0) 1 8 Try.underlying22 hi0 hz0 hz1 hz2 rfl (by decide) _ j _ rfl (O10b.alloc _) ⟨W4.heap.size, 0, none⟩ 1 1 [.int .i64 q] rfl rfl (cell_one_new _ _ _) (by intro u hu; simp at hu; subst hu; rfl) (by decide) (by unfold maxLen; omega) (by omega) (by simp; omega) ?_))
          intro v6 w6 hown6 hgrow6 hne6
          have BL6 := (BR4.alloc hwz (.cells #[.int .i64 q] 3)).grown hgrow6 (by simp; omega) (fun k hk => by have := (World.ownsRow.lt O10b k hk).1; omega)
          have OQ6 := row_of_ownsQ (qown_kept (((ownsQ_of_row OQb (pq_len _ _ _))).below (bel1 W4 (.cells #[.int .i64 q] 3))) hgrow6 (fun k hk e => by have := (World.ownsRow.lt O10b k hk).1; simp [Value.ownBlock] at e; omega)) (pq_len _ _ _)
          have OW6 : w6.ownsRow w1.heap.size 3 1 v6 (j + 1) ((nz (ns ++ [q])).map (Value.int .i64)) := by
            rw [nz_app, List.map_append]
            exact hown6
          have HS6 : w1.heap.size ≤ w6.heap.size := by have := hgrow6.size; simp at this; omega
          have k12b : w6.heap[g12]? = some (.cells #[.int .i64 tp, .int .i64 D] 42 (0, 0)) := (hgrow6.block g12 (by simp; omega) (by intro e; have := HNB.out g12 e.symm; omega)).trans (((bel1 W4 (.cells #[.int .i64 q] 3)).block g12 hgl12).trans k12)
          have hgn : ¬ g12 = gq := by omega
          clear hown6 hgrow6 O10b OQb BR4 k12 hs4 hne6
          go_wp2
          go_loopw [62] (fun i wt => ∃ t : Nat, t ≤ bs.length ∧ i = .int .i64 t ∧ wt.ownsRow wo.heap.size 47 3 (.slice (some ⟨gq, 0, none⟩) bs.length cq) bs.length (qflat (pyTo bs ls den q tp bt t)) ∧ wt.ownsRow w1.heap.size 3 1 v6 (j + 1) ((nz (ns ++ [q])).map (Value.int .i64)) ∧ wt.heap[g12]? = some (.cells #[.int .i64 tp, .int .i64 D] 42 (0, 0)) ∧ Below w.heap.size w wt ∧ w1.heap.size ≤ wt.heap.size) (fun i _ => bs.length - (intOf i).toNat)
          case atStart => exact ⟨0, Nat.zero_le _, rfl, by rw [pyTo_zero]; exact OQ6, OW6, k12b, BL6, HS6⟩
          case round =>
            clear OQ6 OW6 k12b BL6 HS6
            obtain ⟨t, ht, rfl, OQt, OWt, k12, BT, hst⟩ := hrel
            by_cases htn : t < bs.length
            · have e0 := cell_of_block k12 0
              have e1 := cell_of_block k12 1
              have hpl := pyTo_len bs ls den q tp bt t
              have HAT := hide (pyTo_at (ls := ls) (d := den) (a := q) (top := tp) (bot := bt) htn)
              have HCV := hide (pay_val (ls := ls) (d := den) (a := q) (top := tp) (bot := bt) htn)
              rw [HD.out] at HCV
              have HTD := hide (tdiv_mul bt den hd1)
              rw [HD.out] at HTD
              have HZ := hide (HR.out _ (mem_of_at htn))
              have HX := hide (prod_in (HLB.out t) hb6 (by decide))
              have HLV := hide (left_val (ls.getD t 0) bt tp)
              have HK12 := hide k12
              have hgl := lt_of_block k12
              have HOW := hide OWt
              have HVB := hide (fun k hk => (World.ownsRow.lt OWt k hk).1)
              clear k12 OWt
              go_wp2
              go_region_with (go_at_call 36; refine (pay_any wo.heap.size gq bs.length cq t (pyTo bs ls den q tp bt t) ((ls.getD t 0 : Nat) : Int) den bs[t] D bt tp q _ OQt.drew (by rw [hpl]; exact htn) HAT.out (by omega) HTD.out (by omega) HX.out HZ.out (by omega) (by omega) _ HLV.out (pyTo bs ls den q tp bt (t + 1)) HCV.out).mono ?_; rintro e w7 ⟨rfl, HW⟩)
              all_goals
                have k12c : w7.heap[g12]? = some (.cells #[.int .i64 tp, .int .i64 D] 42 (0, 0)) := (HW.2.block g12 hgl (by intro e; cases e; exact hgn rfl)).trans HK12.out
                have OW7 := row_of_owns (own_kept (w := wr.drew) (owns_of_row HOW.out (n := j + 1) (by rw [nz_len, List.length_append, HNL.out]; rfl)) HW.2 (fun k hk e => by cases hk; have := HVB.out _ e; omega)) (n := j + 1) (by rw [nz_len, List.length_append, HNL.out]; rfl)
                have BT7 := (bdrew' BT).grown HW.2 BT.size (fun k hk => by cases hk; exact hgw)
                have hs7 := Nat.le_trans hst HW.2.size
                have HW1 := hide HW.1
                have HALL := hide (And.intro OW7 (And.intro k12c (And.intro BT7 hs7)))
                clear HW k12c OW7 BT7 hs7
                go_wp2
                go_roundw
                case rel => exact ⟨t + 1, by omega, by go_num, HW1.out, HALL.out⟩
                case measure => simp only [intOf]; omega
            · obtain rfl : t = bs.length := by omega
              rw [pyTo_all] at OQt
              have HOQ := hide OQt
              have HOW := hide OWt
              obtain ⟨a6, c6, hv6, _, _⟩ := (owns_of_row OWt (n := j + 1) (by rw [nz_len, List.length_append, HNL.out]; rfl)).form
              rw [nz_len, List.length_append, HNL.out] at hv6
              have HV6 := hide hv6
              have hjm1 : j + 1 ≤ m := by
                have hd := nodup_most (c := m) (ns := ns ++ [q]) (List.nodup_append.2 ⟨HND.out, by simp, fun x hx y hy => by simp at hy; subst hy; intro e; subst e; exact HQN.out hx⟩) (fun x hx => by
                  rcases List.mem_append.1 hx with hx | hx
                  · exact HLT.out x hx
                  · simp at hx; omega)
                rw [List.length_append, HNL.out] at hd
                exact hd
              clear OQt OWt hv6
              go_wp2
              go_roundw
              case rel => exact ⟨j + 1, by rw [HRUN.out, List.length_append, HNL.out]; rfl, by rw [HRUN.out]; exact HOW.out, by rw [HRUN.out]; exact HOQ.out, BT, hst⟩
              case measure => rw [HV6.out]; simp only [lenW]; simp; omega
    · have hs : seatsB c bs k = false := (seatsB_yes hv).trans (decide_eq_false hk)
      have HS := hide hs
      have HK := hide hk
      have HV := hide hv
      clear hk hv hs
      go_enter Try.func14, Try.ntmps14
      go_wp2_with fail
      refine (implBal_any _ _ _ _ _ hi hn).mono ?_
      rintro e wo ⟨rfl, B0⟩
      rw [HV.out]
      go_wp2_with (first
        | (go_at_call 26; refine (validSeats_no _ _ _ HK.out).mono ?_; rintro e w' ⟨rfl, rfl⟩))
      go_ret3
      exact byE_none HS.out B0
  · have hv : balB c bs = false := by simpa using hv
    have HS := hide (seatsB_no (k := k) hv)
    have HV := hide hv
    clear hv
    go_enter Try.func14, Try.ntmps14
    go_wp2_with fail
    refine (implBal_any _ _ _ _ _ hi hn).mono ?_
    rintro e wo ⟨rfl, B0⟩
    rw [HV.out]
    go_wp2
    go_ret3
    exact byE_none HS.out B0
end Go.Proofs.Ythkikjidkehheaa
