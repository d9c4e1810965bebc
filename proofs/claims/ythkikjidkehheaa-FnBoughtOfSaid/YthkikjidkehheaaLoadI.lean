/- LoadedOf of the model and of the program. -/
import Derived.Test.YthkikjidkehheaaLoadL
import Derived.Deep.RegionHeld3
namespace Go.Proofs.Ythkikjidkehheaa
open Go.RowKit Go.Joins

/-- what LoadedOf answers -/
def loadA (c : Int) (bs : List Int) (k : Int) : List Nat × List Nat × Nat := if seatsB c bs k = true then runL c.toNat bs k.toNat else ([], [], 0)
theorem loadA_no {c : Int} {bs : List Int} {k : Int} (h : seatsB c bs k = false) : loadA c bs k = ([], [], 0) := by unfold loadA; rw [h]; rfl
theorem loadA_yes {c : Int} {bs : List Int} {k : Int} (h : seatsB c bs k = true) : loadA c bs k = runL c.toNat bs k.toNat := by unfold loadA; rw [if_pos h]
theorem loadA_len (c : Int) (bs : List Int) (k : Int) : (loadA c bs k).1.length ≤ 6 ∧ (loadA c bs k).2.1.length ≤ 6 := by
  by_cases h : seatsB c bs k = true
  · rw [loadA_yes h]
    have hS := seats_of h
    have h6 : bs.length ≤ 6 := by have := hS.1.2.1; omega
    have OK := run_ok (c := c.toNat) (bs := bs) h6 k.toNat (by omega)
    exact ⟨by rw [OK.ns]; have := hS.1.1; have := hS.2; omega, by rw [OK.ls]; exact h6⟩
  · rw [loadA_no (by simpa using h)]
    exact ⟨by decide, by decide⟩
theorem ldE_none {c : Int} {bs : List Int} {k : Int} {w w' : World} (h : seatsB c bs k = false) (hb : Below w.heap.size w w') : LdE w w' (loadA c bs k) (.returned (.tuple #[.slice none 0 0, .slice none 0 0, .int .i64 0])) := by
  rw [loadA_no h]
  exact ⟨_, _, rfl, World.ownsRow_nil _ _ _ _, World.ownsRow_nil _ _ _ _, (fun g e => by cases e), hb⟩
theorem LdE.back {w w1 w' : World} {s : List Nat × List Nat × Nat} {e : Ending} (h : LdE w1 w' s e) (hb : Below w.heap.size w w1) : LdE w w' s e := by
  obtain ⟨v1, v2, he, h1, h2, h3, h4⟩ := h
  exact ⟨v1, v2, he, h1.le hb.size, h2.le hb.size, h3, bnext hb h4⟩
theorem specLoaded_any (c k : Int) (a : Option Addr) (cap : Nat) (bs : List Int) (w : World) (hi : Ints w a bs) (hn : bs.length ≤ 1048576) :
    Calls Try.prog 7 #[.int .i64 c, .slice a bs.length cap, .int .i64 k] w fun e w' => LdE w w' (loadA c bs k) e := by
  by_cases hs : seatsB c bs k = true
  · have hS := seats_of hs
    have HA := hide (loadA_yes hs)
    obtain ⟨m, rfl⟩ := Int.eq_ofNat_of_zero_le (show 0 ≤ c from by have := hS.1.1; omega)
    obtain ⟨K, rfl⟩ := Int.eq_ofNat_of_zero_le (show 0 ≤ k from by have := hS.2; omega)
    rw [Int.toNat_natCast, Int.toNat_natCast] at HA
    have hKm : K ≤ m := by have := hS.2; omega
    have HV := hide hS.1
    have HS := hide hs
    clear hS hs
    go_enter Try.func7, Try.ntmps7
    go_wp2_with fail
    refine (specSeats_any _ _ _ _ _ _ hi hn).mono ?_
    rintro e w1 ⟨rfl, hb1⟩
    rw [HS.out]
    go_wp2_with fail
    refine (loadsOf_any m K _ _ _ _ (hi.below hb1) HV.out hKm).mono ?_
    rintro e w2 ⟨v1, v2, rfl, o1, o2, hne, hb2⟩
    go_wp2
    go_ret3
    rw [HA.out]
    exact LdE.back ⟨v1, v2, rfl, o1, o2, hne, hb2⟩ hb1
  · have hs : seatsB c bs k = false := by simpa using hs
    have HS := hide hs
    clear hs
    go_enter Try.func7, Try.ntmps7
    go_wp2_with fail
    refine (specSeats_any _ _ _ _ _ _ hi hn).mono ?_
    rintro e w1 ⟨rfl, hb1⟩
    rw [HS.out]
    go_wp2
    go_ret3
    exact ldE_none HS.out hb1
theorem ownsQ_of_row {w : World} {B n : Nat} {v : Value} {ps : List Pur} (h : w.ownsRow B 47 3 v n (qflat ps)) (hz : ps.length = n) : OwnsQ w B v ps := by
  subst hz; exact h
theorem row_of_ownsQ {w : World} {B n : Nat} {v : Value} {ps : List Pur} (h : OwnsQ w B v ps) (hz : ps.length = n) : w.ownsRow B 47 3 v n (qflat ps) := by
  subst hz; exact h
/-- the purses while the first t of them are carried on -/
def pqTo (bs : List Int) (ls : List Nat) (d a top bot t : Nat) : List Pur := (List.range bs.length).map fun i =>
  if i < t then (((if bitN (bs.getD i 0).toNat a = 1 then top else ls.getD i 0 * bot : Nat) : Int), ((d * bot : Nat) : Int), bs.getD i 0) else (((ls.getD i 0 : Nat) : Int), (d : Int), bs.getD i 0)
theorem pqTo_len (bs : List Int) (ls : List Nat) (d a top bot t : Nat) : (pqTo bs ls d a top bot t).length = bs.length := by simp [pqTo]
theorem pqTo_zero (bs : List Int) (ls : List Nat) (d a top bot : Nat) : pqTo bs ls d a top bot 0 = pq bs ls d := by
  unfold pqTo pq pqK
  exact List.map_congr_left fun i _ => by rw [if_neg (by omega)]
theorem pqTo_all (bs : List Int) (ls : List Nat) (d a top bot : Nat) : pqTo bs ls d a top bot bs.length = pq bs (loadUp bs ls a top bot) (d * bot) := by
  unfold pqTo pq pqK
  exact List.map_congr_left fun i hi => by rw [if_pos (by simpa using hi), loadUp_at (by simpa using hi)]
theorem pqTo_at {bs : List Int} {ls : List Nat} {d a top bot t : Nat} (h : t < bs.length) : (pqTo bs ls d a top bot t)[t]'(by rw [pqTo_len]; exact h) = (((ls.getD t 0 : Nat) : Int), (d : Int), bs[t]) := by
  simp only [pqTo, List.getElem_map, List.getElem_range]
  rw [if_neg (by omega), getD_lt h]
theorem pqTo_set {bs : List Int} {ls : List Nat} {d a top bot t X : Nat} (h : t < bs.length) (hX : (if bitN bs[t].toNat a = 1 then top else ls.getD t 0 * bot) = X) : (pqTo bs ls d a top bot t).set t ((X : Int), ((d * bot : Nat) : Int), bs[t]) = pqTo bs ls d a top bot (t + 1) := by
  refine List.ext_getElem (by rw [List.length_set, pqTo_len, pqTo_len]) fun i h1 h2 => ?_
  rw [List.getElem_set]
  by_cases e : t = i
  · subst e
    rw [if_pos rfl]
    simp only [pqTo, List.getElem_map, List.getElem_range]
    rw [if_pos (show t < t + 1 from by omega), getD_lt h, hX]
  · rw [if_neg e]
    simp only [pqTo, List.getElem_map, List.getElem_range]
    by_cases h3 : i < t
    · simp only [h3, show i < t + 1 from by omega, if_true]
    · rw [if_neg h3, if_neg (by omega)]
theorem carry_val {bs : List Int} {ls : List Nat} {d a top bot t : Nat} (h : t < bs.length) :
    (pqTo bs ls d a top bot t).set t (if apQ a (((ls.getD t 0 : Nat) : Int), (d : Int), bs[t]) = true then ((top : Nat) : Int) else ((ls.getD t 0 : Nat) : Int) * (bot : Int), ((bot * d : Nat) : Int), bs[t]) = pqTo bs ls d a top bot (t + 1) := by
  by_cases e : bitN bs[t].toNat a = 1
  · rw [← pqTo_set (top := top) (X := top) h (if_pos e), if_pos (show apQ a (((ls.getD t 0 : Nat) : Int), (d : Int), bs[t]) = true from decide_eq_true e), Nat.mul_comm bot d]
  · rw [← pqTo_set (top := top) (X := ls.getD t 0 * bot) h (if_neg e), if_neg (by unfold apQ; rw [decide_eq_false e]; decide), Nat.mul_comm bot d, Int.natCast_mul (ls.getD t 0) bot]
theorem abv_pq {bs : List Int} {ls : List Nat} {d : Nat} (h : ls.length = bs.length) : abvL (pq bs ls d) = nz ls := by
  unfold abvL pq pqK nz
  rw [List.map_map]
  refine List.ext_getElem (by simp [h]) fun i h1 h2 => ?_
  have h3 : i < ls.length := by simpa using h2
  simp [List.getD_eq_getElem?_getD, h3]
theorem pq_new (bs : List Int) : newQ 0 bs = pq bs (List.replicate bs.length 0) 1 := by
  unfold newQ pq pqK
  refine List.ext_getElem (by simp) fun i h1 h2 => ?_
  have h3 : i < bs.length := by simpa using h1
  simp [List.getD_eq_getElem?_getD, h3]
theorem tdiv_mul (b d : Nat) (h : 1 ≤ d) : Int.tdiv ((b * d : Nat) : Int) (d : Int) = (b : Int) := by
  rw [Int.natCast_mul]
  exact Int.mul_tdiv_cancel _ (by omega)
theorem leastL_was (m j : Nat) (a b : Option Addr) (ca cb : Nat) (bs : List Int) (ls ns : List Nat) (den : Nat) (r : Int × Nat × Nat) (w : World) (hm : m ≤ 5) (h6 : bs.length ≤ 6) (hr : ∀ b ∈ bs, 0 ≤ b ∧ b ≤ 31) (hd : den ≤ 7776) (hd1 : 1 ≤ den) (hb : ∀ i, ls.getD i 0 ≤ 38880)
    (hi : Ints w a (nz ns)) (hn : ns.length = j) (hj : j ≤ 5) (hq : QInts w b (pq bs ls den)) (he : scanL bs ls den ns m = r) :
    Calls Try.prog 28 #[.int .i64 m, .slice a j ca, .slice b bs.length cb, .func (.func 29) #[] #[]] w fun e w' => LsE den r e ∧ Below w.heap.size w w' := by
  subst hn he
  exact leastShareL_any m a b ca cb bs ls ns den w hm h6 hr hd hd1 hb hi hj hq
theorem firstLeft_was (a : Option Addr) (cap j q : Nat) (ns : List Nat) (w : World) (hi : Ints w a (nz ns)) (hn : ns.length = j) (hj : j ≤ 5) (hq : freeN ns = q) :
    Calls Try.prog 30 #[.slice a j cap] w fun e w' => e = .returned (.int .i64 q) ∧ Below w.heap.size w w' := by
  subst hn hq
  exact firstLeft_any a cap ns w hi hj
theorem numbersW_was (a : Option Addr) (cap n : Nat) (ps : List Pur) (zs : List Int) (w : World) (hi : QInts w a ps) (hn : ps.length = n) (h6 : n ≤ 6) (hz : abvL ps = zs) :
    Calls Try.prog 32 #[.slice a n cap] w fun e w' => (∃ v, e = .returned v ∧ Owns w' w.heap.size v zs) ∧ Below w.heap.size w w' := by
  subst hn hz
  exact numbersAbove_any a cap ps w hi h6
set_option maxHeartbeats 4000000 in
set_option maxRecDepth 100000 in
theorem implLoaded_any (c k : Int) (a : Option Addr) (cap : Nat) (bs : List Int) (w : World) (hi : Ints w a bs) (hn : bs.length ≤ 1048576) :
    Calls Try.prog 9 #[.int .i64 c, .slice a bs.length cap, .int .i64 k] w fun e w' => LdE w w' (loadA c bs k) e := by
  obtain ⟨i0, hi0, hz0, hz1, hz2⟩ := info_parts info_int
  by_cases hv : balB c bs = true
  · by_cases hk : 1 ≤ k ∧ k ≤ c
    · have hsb : seatsB c bs k = true := (seatsB_yes hv).trans (decide_eq_true hk)
      have HA := hide (loadA_yes hsb)
      have hS := seats_of hsb
      have hl6 : bs.length ≤ 6 := by have := hS.1.2.1; omega
      have hl1 : 1 ≤ bs.length := by have := hS.1.2.1; omega
      have HR := hide (bal_range hS.1)
      have HS := hide hk
      have HV := hide hv
      obtain ⟨m, rfl⟩ := Int.eq_ofNat_of_zero_le (show 0 ≤ c from by have := hS.1.1; omega)
      obtain ⟨K, rfl⟩ := Int.eq_ofNat_of_zero_le (show 0 ≤ k from by have := hS.2; omega)
      have hm5 : m ≤ 5 := by have := hS.1.1; omega
      have hKm : K ≤ m := by have := hS.2; omega
      rw [Int.toNat_natCast, Int.toNat_natCast] at HA
      clear hS hk hsb hv
      go_enter Try.func9, Try.ntmps9
      go_wp2_with fail
      refine (implBal_any _ _ _ _ _ hi hn).mono ?_
      rintro e wo ⟨rfl, B0⟩
      rw [HV.out]
      have hio := hi.below B0
      clear hi
      go_wp2_with (first
        | (go_at_call 26; refine (validSeats_yes _ _ _ HS.out).mono ?_; rintro e w' ⟨rfl, rfl⟩))
      refine (pursesWith_any 0 _ _ bs _ hio hl6).mono ?_
      rintro e w1 ⟨⟨vq, rfl, oq⟩, hb1⟩
      rw [pq_new] at oq
      obtain ⟨gq, cq, rfl⟩ : ∃ g cp, vq = .slice (some ⟨g, 0, none⟩) bs.length cp := by
        have h : w1.ownsRow wo.heap.size 47 3 vq (pq bs (List.replicate bs.length 0) 1).length (qflat (pq bs (List.replicate bs.length 0) 1)) := oq
        rw [pq_len] at h
        exact ownsRow_form h (by omega)
      have hgq := World.ownsRow.lt oq gq rfl
      have BW1 := bnext B0 hb1
      go_wp2_with (first
        | (at_make; refine wpList_make_own _ rfl _ _ 22 rfl w1.heap.size 3 i0 (.int .i64 0) 1 Try.underlying22 hi0 hz0 hz1 _ _ _ K rfl rfl (by omega) ?b2 ?b3 (Nat.le_refl _) ?_))
      case b2 => rw [hz2]; omega
      case b3 => unfold maxLen; omega
      intro w2 hown2 hgrow2
      have BW2 : Below w.heap.size w w2 := BW1.grown hgrow2 BW1.size (fun k h => by cases h)
      have OQ2 := qown_kept oq hgrow2 (fun k h => by cases h)
      have hs2 : w1.heap.size + 1 ≤ w2.heap.size := (World.ownsRow.lt hown2 w1.heap.size rfl).2
      have hwo := B0.size
      have hgne : ¬ gq = w1.heap.size := by omega
      have O2 := hown2
      have OQR := row_of_ownsQ OQ2 (pq_len _ _ _)
      have hgw : w.heap.size ≤ gq := Nat.le_trans hwo hgq.1
      have hww : w.heap.size ≤ w1.heap.size := by omega
      clear hgrow2 hown2 oq hb1 OQ2 B0 BW1
      go_wp2
      go_loopw [10] (fun v wr => ∃ j : Nat, j ≤ K ∧ v = .slice (some ⟨w1.heap.size, 0, none⟩) j K ∧ wr.ownsRow w1.heap.size 3 1 (.slice (some ⟨w1.heap.size, 0, none⟩) j K) j ((nz (runL m bs j).1).map (Value.int .i64)) ∧ wr.ownsRow wo.heap.size 47 3 (.slice (some ⟨gq, 0, none⟩) bs.length cq) bs.length (qflat (pq bs (runL m bs j).2.1 (runL m bs j).2.2)) ∧ Below w.heap.size w wr ∧ w1.heap.size + 1 ≤ wr.heap.size) (fun v _ => K - lenW v)
      case atStart => exact ⟨0, Nat.zero_le _, rfl, O2, OQR, BW2, hs2⟩
      case round =>
        clear O2 OQR BW2 hs2
        obtain ⟨j, hj, rfl, O10, OQ, BR, hsz⟩ := hrel
        obtain ⟨wq, rfl⟩ : ∃ wq, wq = wr := ⟨_, rfl⟩
        have OK := run_ok (c := m) (bs := bs) hl6 j (by omega)
        have HST := hide (show runL m bs (j + 1) = stepL m bs (runL m bs j) from rfl)
        obtain ⟨⟨ns, ls, den⟩, hst⟩ : ∃ s, runL m bs j = s := ⟨_, rfl⟩
        rw [hst] at O10 OQ OK HST
        have HSS := hide hst
        clear hst
        simp only at O10 OQ OK
        obtain ⟨hnl, hnd, hlt, hll, hd1, hd6, hlb⟩ := OK
        simp only at hnl hnd hlt hll hd1 hd6 hlb
        have hd7 : den ≤ 7776 := Nat.le_trans hd6 (pow6 j (by omega))
        have hlb2 : ∀ i, ls.getD i 0 ≤ 38880 := fun i => Nat.le_trans (hlb i) (Nat.mul_le_mul (show j ≤ 5 from by omega) hd7)
        have HLB := hide hlb2
        have HNL := hide hnl
        have HLL := hide hll
        clear hd6 hlb hlb2 hlt hnd hnl hll
        by_cases hjk : j < K
        · obtain ⟨r, hr⟩ : ∃ r, scanL bs ls den ns m = r := ⟨_, rfl⟩
          have HRR := hide hr
          have HSK := hide (scanL_ok (bs := bs) (ls := ls) (den := den) (ns := ns) m)
          have hsm := scan_small (bs := bs) (ls := ls) (ns := ns) hl6 hd7 HLB.out m
          rw [hr] at HSK hsm
          have OI := (owns_of_row O10 (by rw [nz_len, HNL.out])).ints
          have QI := (ownsQ_of_row OQ (pq_len _ _ _)).qints
          clear hr
          go_wp2_with fail
          refine (leastL_was m j _ _ _ _ bs ls ns den r _ hm5 hl6 HR.out hd7 hd1 HLB.out OI HNL.out (by omega) QI HRR.out).mono ?_
          rintro e w3 ⟨⟨F, found, T, B, hls, rfl⟩, hb3⟩
          have bb := bel1 w3 (.cells #[.int .i64 T, .int .i64 B] 42)
          have B4 := bnext hb3 bb
          have k12 := heap_alloc_new w3 (.cells #[.int .i64 T, .int .i64 B] 42)
          have hg12 : wq.heap.size ≤ w3.heap.size := hb3.size
          go_upto_region 7 with fail
          obtain ⟨W4, hW4⟩ : ∃ W4 : World, W4 = w3.alloc (.cells #[.int .i64 T, .int .i64 B] 42) := ⟨_, rfl⟩
          obtain ⟨g12, hgg⟩ : ∃ g, g = w3.heap.size := ⟨_, rfl⟩
          rw [← hW4, ← hgg] at k12
          rw [← hW4] at B4
          rw [← hgg] at hg12
          rw [← hW4, ← hgg]
          clear hW4 hgg bb hb3
          have O10b := row_of_owns ((owns_of_row O10 (by rw [nz_len, HNL.out])).below B4) (by rw [nz_len, HNL.out])
          have OQb := row_of_ownsQ ((ownsQ_of_row OQ (pq_len _ _ _)).below B4) (pq_len _ _ _)
          have BR4 := BR.trans (B4.mono BR.size)
          have hs4 := Nat.le_trans hsz B4.size
          clear O10 OQ OI QI BR B4
          obtain ⟨hT, hcase⟩ := hls
          rcases hcase with ⟨c1, c2, c3, c4, c5⟩ | ⟨c1, c3, c4, c5⟩
          · subst c3 c4 c5
            have HRUN := hide (HST.out.trans (step_none HRR.out (by rw [c1]; exact Int.negSucc_lt_zero 0)))
            obtain ⟨q, hq⟩ : ∃ q, freeN ns = q := ⟨_, rfl⟩
            have HQ := hide hq
            rw [hq] at HRUN
            clear hq c1 c2 hT hsm
            go_wp2_with fail
            refine (firstLeft_was _ _ j q ns _ (owns_of_row O10b (by rw [nz_len, HNL.out])).ints HNL.out (by omega) HQ.out).mono ?_
            rintro e w5 ⟨rfl, hb5⟩
            have O10c := row_of_owns ((owns_of_row O10b (by rw [nz_len, HNL.out])).below hb5) (by rw [nz_len, HNL.out])
            have OQc := (ownsQ_of_row OQb (pq_len _ _ _)).below hb5
            have BR5 := bnext BR4 hb5
            have hs5 := Nat.le_trans hs4 hb5.size
            have hwz : w.heap.size ≤ w5.heap.size := BR5.size
            clear O10b OQb BR4 hs4
            go_wp2_with ((at_builtin; refine wpList_append_fits _ rfl _ _ 22 rfl w1.heap.size 3 i0 1 Try.underlying22 hi0 hz1 w1.heap.size j K _ rfl (O10c.alloc _) ⟨w5.heap.size, 0, none⟩ 1 1 [.int .i64 q] rfl rfl (cell_one_new _ _ _) (by intro u hu; simp at hu; subst hu; rfl) (by omega) ?_))
            intro w6 hown6 hgrow6
            have HBL := hide ((BR5.alloc hwz (.cells #[.int .i64 q] 3)).grown hgrow6 (by simp; omega) (fun k hk => by cases hk; exact hww))
            have HOQ := hide (qown_kept (OQc.below (bel1 w5 (.cells #[.int .i64 q] 3))) hgrow6 (fun k hk e => by cases hk; simp [Value.ownBlock] at e; exact hgne e))
            have HOW : Hid (w6.ownsRow w1.heap.size 3 1 (.slice (some ⟨w1.heap.size, 0, none⟩) (j + 1) K) (j + 1) ((nz (ns ++ [q])).map (Value.int .i64))) := by
              unfold Hid
              rw [nz_app, List.map_append]
              exact hown6
            have HS6 : Hid (w1.heap.size + 1 ≤ w6.heap.size) := hide (by have := hgrow6.size; simp at this; omega)
            clear hown6 hgrow6
            go_wp2
            go_roundw
            case rel => exact ⟨j + 1, by omega, rfl, by rw [HRUN.out]; exact HOW.out, by rw [HRUN.out]; exact row_of_ownsQ HOQ.out (pq_len _ _ _), HBL.out, HS6.out⟩
            case measure => simp only [lenW]; omega
          · obtain ⟨q, tp, bt, hq, hqm, hbt, hb6, htp⟩ : ∃ q tp bt : Nat, r = ((q : Int), tp, bt) ∧ q < m ∧ 1 ≤ bt ∧ bt ≤ 6 ∧ tp ≤ 241056 := by
              rcases HSK.out with ⟨e, _⟩ | ⟨q, e, h1, _, h3⟩
              · omega
              · exact ⟨q, _, _, e, h1, by omega, by have := hsm.2.2.2.1; rw [e] at this; exact this, by have := hsm.2.2.1; rw [e] at this; exact this⟩
            subst hq
            simp only at c1 c4 c5 hT
            subst c3 c4 c5 hT
            obtain ⟨D, hD⟩ : ∃ D, bt * den = D := ⟨_, rfl⟩
            have HD := hide hD
            have hD2 : D ≤ 46656 := by rw [← hD]; exact Nat.mul_le_mul hb6 hd7
            rw [hD] at k12 ⊢
            have HRUN := hide (HST.out.trans (step_some HRR.out))
            have hwz : w.heap.size ≤ W4.heap.size := BR4.size
            have hgl12 := lt_of_block k12
            clear hsm c1 hD HSK
            go_wp2_with ((at_builtin; refine wpList_append_fits _ rfl _ _ 22 rfl w1.heap.size 3 i0 1 Try.underlying22 hi0 hz1 w1.heap.size j K _ rfl (O10b.alloc _) ⟨W4.heap.size, 0, none⟩ 1 1 [.int .i64 q] rfl rfl (cell_one_new _ _ _) (by intro u hu; simp at hu; subst hu; rfl) (by omega) ?_))
            intro w6 hown6 hgrow6
            have BL6 := (BR4.alloc hwz (.cells #[.int .i64 q] 3)).grown hgrow6 (by simp; omega) (fun k hk => by cases hk; exact hww)
            have OQ6 := row_of_ownsQ (qown_kept (((ownsQ_of_row OQb (pq_len _ _ _))).below (bel1 W4 (.cells #[.int .i64 q] 3))) hgrow6 (fun k hk e => by cases hk; simp [Value.ownBlock] at e; exact hgne e)) (pq_len _ _ _)
            have OW6 : w6.ownsRow w1.heap.size 3 1 (.slice (some ⟨w1.heap.size, 0, none⟩) (j + 1) K) (j + 1) ((nz (ns ++ [q])).map (Value.int .i64)) := by
              rw [nz_app, List.map_append]
              exact hown6
            have k12b : w6.heap[g12]? = some (.cells #[.int .i64 tp, .int .i64 D] 42 (0, 0)) := (hgrow6.block g12 (by simp; omega) (by intro e; cases e; omega)).trans (((bel1 W4 (.cells #[.int .i64 q] 3)).block g12 hgl12).trans k12)
            have hs6 : w1.heap.size + 1 ≤ w6.heap.size := by have := hgrow6.size; simp at this; omega
            have hgn : ¬ g12 = gq := by omega
            clear hown6 hgrow6 O10b OQb BR4 k12 hs4
            go_wp2
            go_loopw [54] (fun i wt => ∃ t : Nat, t ≤ bs.length ∧ i = .int .i64 t ∧ wt.ownsRow wo.heap.size 47 3 (.slice (some ⟨gq, 0, none⟩) bs.length cq) bs.length (qflat (pqTo bs ls den q tp bt t)) ∧ wt.ownsRow w1.heap.size 3 1 (.slice (some ⟨w1.heap.size, 0, none⟩) (j + 1) K) (j + 1) ((nz (ns ++ [q])).map (Value.int .i64)) ∧ wt.heap[g12]? = some (.cells #[.int .i64 tp, .int .i64 D] 42 (0, 0)) ∧ Below w.heap.size w wt ∧ w1.heap.size + 1 ≤ wt.heap.size) (fun i _ => bs.length - (intOf i).toNat)
            case atStart => exact ⟨0, Nat.zero_le _, rfl, by rw [pqTo_zero]; exact OQ6, OW6, k12b, BL6, hs6⟩
            case round =>
              clear OQ6 OW6 k12b BL6 hs6
              obtain ⟨t, ht, rfl, OQt, OWt, k12, BT, hst⟩ := hrel
              by_cases htn : t < bs.length
              · have e0 := cell_of_block k12 0
                have e1 := cell_of_block k12 1
                have hpl := pqTo_len bs ls den q tp bt t
                have HAT := hide (pqTo_at (ls := ls) (d := den) (a := q) (top := tp) (bot := bt) htn)
                have HCV := hide (carry_val (ls := ls) (d := den) (a := q) (top := tp) (bot := bt) htn)
                rw [HD.out] at HCV
                have HTD := hide (tdiv_mul bt den hd1)
                rw [HD.out] at HTD
                have HZ := hide (HR.out _ (mem_of_at htn))
                have HX := hide (prod_in (HLB.out t) hb6 (by decide))
                have HK12 := hide k12
                have hgl := lt_of_block k12
                have HOW := hide OWt
                clear k12 OWt
                go_wp2
                go_region_with (go_at_call 31; refine (carry_any wo.heap.size gq bs.length cq t (pqTo bs ls den q tp bt t) ((ls.getD t 0 : Nat) : Int) den bs[t] D bt tp q _ OQt.drew (by rw [hpl]; exact htn) HAT.out (by omega) HTD.out (by omega) HX.out HZ.out (by omega) (pqTo bs ls den q tp bt (t + 1)) HCV.out).mono ?_; rintro e w7 ⟨rfl, HW⟩)
                all_goals
                  have k12c : w7.heap[g12]? = some (.cells #[.int .i64 tp, .int .i64 D] 42 (0, 0)) := (HW.2.block g12 hgl (by intro e; cases e; exact hgn rfl)).trans HK12.out
                  have OW7 := row_of_owns (own_kept (w := wr.drew) (owns_of_row HOW.out (n := j + 1) (by rw [nz_len, List.length_append, HNL.out]; rfl)) HW.2 (fun k hk e => by cases hk; simp [Value.ownBlock] at e; exact hgne e.symm)) (n := j + 1) (by rw [nz_len, List.length_append, HNL.out]; rfl)
                  have BT7 := (bdrew' BT).grown HW.2 BT.size (fun k hk => by cases hk; exact hgw)
                  have hs7 := Nat.le_trans hst HW.2.size
                  have HW1 := hide HW.1
                  have HALL := hide (And.intro OW7 (And.intro k12c (And.intro BT7 hs7)))
                  clear HW k12c OW7 BT7 hs7
                  go_wp2
                  go_roundw
                  case rel => exact ⟨t + 1, by omega, by go_num, HW1.out, HALL.out⟩
                  case measure => simp only [intOf]; omega
              · obtain rfl : t = bs.length := by omega
                rw [pqTo_all] at OQt
                have HOQ := hide OQt
                have HOW := hide OWt
                clear OQt OWt
                go_wp2
                go_roundw
                case rel => exact ⟨j + 1, by omega, rfl, by rw [HRUN.out]; exact HOW.out, by rw [HRUN.out]; exact HOQ.out, BT, hst⟩
                case measure => simp only [lenW]; omega
        · obtain rfl : j = K := by omega
          have QI := hide (ownsQ_of_row OQ (pq_len _ _ _)).qints
          have hpl := pq_len bs ls den
          have c1 := (OQ.cellAt 1 (by omega)).trans (qflat_get (pq bs ls den) 0 (by rw [hpl]; omega)).2.1
          have hd0 : ((pq bs ls den).getD 0 (0, 0, 0)).2.1 = (den : Int) := by
            rw [qgetD_lt (by rw [hpl]; omega)]
            simp [pq, pqK]
          rw [hd0] at c1
          have HOW := hide (owns_of_row O10 (by rw [nz_len, HNL.out]))
          have HPL := hide hpl
          have HAB := hide (abv_pq (ls := ls) (d := den) HLL.out)
          have hgl : gq < wq.heap.size := by omega
          clear O10 hpl hd0 OQ
          go_wp2
          go_region_with (go_at_call 32; refine (numbersW_was _ _ _ (pq bs ls den) _ _ (QI.out.below (belN _ 1)) HPL.out hl6 HAB.out).mono ?_; rintro e w8 ⟨⟨v8, rfl, o8⟩, hb8⟩; have c1b := (hb8.cell (p := ⟨gq, 1, none⟩) hgl).trans c1)
          all_goals
            go_wp2
            go_ret3
            rw [HA.out, HSS.out]
            exact ⟨.slice (some ⟨w1.heap.size, 0, none⟩) j j, v8, rfl, (HOW.out.below (bdrew hb8)).le hww, o8.le BR.size, fun g hg e => by
              have h1 := (World.ownsRow.lt o8 g e).1
              have h2 := (World.ownsRow.lt HOW.out g hg).2
              simp at h1
              omega, bnext BR (bdrew hb8)⟩
    · have hs : seatsB c bs k = false := (seatsB_yes hv).trans (decide_eq_false hk)
      have HS := hide hs
      have HK := hide hk
      have HV := hide hv
      clear hk hv hs
      go_enter Try.func9, Try.ntmps9
      go_wp2_with fail
      refine (implBal_any _ _ _ _ _ hi hn).mono ?_
      rintro e wo ⟨rfl, B0⟩
      rw [HV.out]
      go_wp2_with (first
        | (go_at_call 26; refine (validSeats_no _ _ _ HK.out).mono ?_; rintro e w' ⟨rfl, rfl⟩))
      go_ret3
      exact ldE_none HS.out B0
  · have hv : balB c bs = false := by simpa using hv
    have HS := hide (seatsB_no (k := k) hv)
    have HV := hide hv
    clear hv
    go_enter Try.func9, Try.ntmps9
    go_wp2_with fail
    refine (implBal_any _ _ _ _ _ hi hn).mono ?_
    rintro e wo ⟨rfl, B0⟩
    rw [HV.out]
    go_wp2
    go_ret3
    exact ldE_none HS.out B0
end Go.Proofs.Ythkikjidkehheaa
