/- Texts of this seat one behind the other: TurnI, TurnS, RankR, PrsK. Conditions: none. -/
import Derived.Test.YtgebplpbnaeckaaGreatDoorMg20
import Derived.Test.YtgebplpbnaeckaaGreatDoorMg28
import Derived.Test.YtgebplpbnaeckaaGreatDoorRankM
import Derived.Test.YtgebplpbnaeckaaGreatDoorMg07
import Derived.Test.YtgebplpbnaeckaaGreatDoorMg04
import Derived.RegionTactic
import Derived.BigRegion
import Derived.Deep.RegionHeld3

/- TurnI: TurnRule of the program. -/
namespace Go.Proofs.YtgebplpbnaeckaaGreatDoor
open Go.RowKit Go.Joins

theorem isOrder_is (n : Int) (a : Option Addr) (cap : Nat) (ls : List Int) (w : World) (r : Bool) (hi : Ints w a ls) (h1 : 1 ≤ n) (h4 : n ≤ 4) (hm : ls.length ≤ 1048576) (hr : ordB n ls = r) :
    Calls Tryz.prog 141 #[.int .i64 n, .slice a ls.length cap] w fun e w' => e = .returned (.bool r) ∧ Below w.heap.size w w' := by
  subst hr
  exact isOrder_any n a cap ls w hi h1 h4 hm
theorem asks_is (n c b : Int) (a : Option Addr) (cap g : Nat) (zs : List Int) (w : World) (r : Bool) (hi : Ints w a zs) (hn : zs.length ≤ 1048576) (bx : Box w g n a zs.length cap) (hr : ∀ x ∈ zs, 0 ≤ x ∧ x ≤ 15) (hc : 0 ≤ c ∧ c ≤ 15) (hb : 0 ≤ b) (h : openB zs c b = r) :
    Calls Tryz.prog 123 #[.agg #[.int .i64 c, .int .i64 b], .pointer (some ⟨g, 0, none⟩)] w fun e w' => e = .returned (.bool r) ∧ Below w.heap.size w w' := by
  subst h
  exact openAsker1_any n c b a cap g zs w hi hn bx hr hc hb

set_option maxHeartbeats 8000000 in
set_option maxRecDepth 100000 in
theorem implTurnRule_any (n : Int) (a l q : Option Addr) (cap capl capq : Nat) (zs vs ls : List Int) (w : World) (hi : Ints w a zs) (hj : Ints w l vs) (hq : Ints w q ls) (hn : zs.length ≤ 1048576) (hm : vs.length ≤ 1048576) (ho : ls.length ≤ 1048576) :
    Calls Tryz.prog 111 #[.agg #[.int .i64 n, .slice a zs.length cap], .slice l vs.length capl, .slice q ls.length capq] w fun e w' => e = .returned (.int .i64 (turnV n zs vs ls)) ∧ Below w.heap.size w w' := by
  have S0 := SV.new w n a zs cap l vs 37 hi hj
  have q0 := hq.below (bel1 w (.cells #[.int .i64 n, .slice a zs.length cap] 37))
  clear hi hj hq
  by_cases hv : vvB n zs vs = false
  · have HN := hide (turnV_no1 (ls := ls) hv)
    have HV := hide hv
    clear hv
    obtain ⟨⟨_, c0, c1⟩, _⟩ := S0.pair
    go_enter Tryz.func111, Tryz.ntmps111
    go_wp2_with fail
    refine (votes_was _ _ _ _ _ _ _ _ false S0.2.1 S0.2.2.1 hn hm HV.out).mono ?_
    rintro e w1 ⟨rfl, hb⟩
    go_wp2
    go_ret
    exact ⟨ret_int HN.out.symm, (S0.below hb).2.2.2⟩
  · have hv : vvB n zs vs = true := by simpa using hv
    have hV := vv_of hv
    obtain ⟨m, rfl⟩ := Int.eq_ofNat_of_zero_le (show 0 ≤ n from by have := hV.1.1; omega)
    have h4 : m ≤ 4 := by have := hV.1.1; omega
    have h1 : 1 ≤ (m : Int) := hV.1.1.1
    have HZ := hide (valid_range hV.1)
    have HV := hide hv
    by_cases hod : ordB (m : Int) ls = false
    · have HN := hide (turnV_no2 (zs := zs) (vs := vs) hod)
      have HO := hide hod
      clear hv hV hod
      obtain ⟨⟨_, c0, c1⟩, _⟩ := S0.pair
      go_enter Tryz.func111, Tryz.ntmps111
      go_wp2_with fail
      refine (votes_was _ _ _ _ _ _ _ _ true S0.2.1 S0.2.2.1 hn hm HV.out).mono ?_
      rintro e w1 ⟨rfl, hb⟩
      have S1 := S0.below hb
      have q1 := q0.below hb
      clear S0 hb c0 c1
      obtain ⟨⟨_, c0, c1⟩, _⟩ := S1.pair
      go_wp2_with fail
      refine (isOrder_is _ _ _ _ _ false q1 h1 (by omega) ho HO.out).mono ?_
      rintro e w2 ⟨rfl, hb⟩
      go_wp2
      go_ret
      exact ⟨ret_int HN.out.symm, (S1.below hb).2.2.2⟩
    · have hod : ordB (m : Int) ls = true := by simpa using hod
      have HN := hide (turnV_yes hv hod)
      have HO := hide hod
      have HOK := hide (ord_of hod)
      have HMJ := hide (majV_yes hv)
      have hM := wantB_lt vs m
      have hM16 : wantB vs m < 16 := Nat.lt_of_lt_of_le hM (Nat.pow_le_pow_right (n := 2) (by omega) h4)
      clear hv hV hod hM
      obtain ⟨⟨_, c0, c1⟩, _⟩ := S0.pair
      go_enter Tryz.func111, Tryz.ntmps111
      go_wp2_with fail
      refine (votes_was _ _ _ _ _ _ _ _ true S0.2.1 S0.2.2.1 hn hm HV.out).mono ?_
      rintro e w1 ⟨rfl, hb⟩
      have S1 := S0.below hb
      have q1 := q0.below hb
      clear S0 hb c0 c1
      obtain ⟨⟨_, c0, c1⟩, _⟩ := S1.pair
      go_wp2_with fail
      refine (isOrder_is _ _ _ _ _ true q1 h1 (by omega) ho HO.out).mono ?_
      rintro e w2 ⟨rfl, hb⟩
      have S2 := S1.below hb
      have q2 := q1.below hb
      clear S1 hb c0 c1 q1
      obtain ⟨⟨_, c0, c1⟩, _⟩ := S2.pair
      go_wp2_with fail
      refine (implMajorityOf_any _ _ _ _ _ _ _ _ S2.2.1 S2.2.2.1 hn hm).mono ?_
      rintro e w3 ⟨rfl, hb⟩
      rw [HMJ.out, Int.toNat_natCast]
      have S3 := S2.below hb
      have q3 := q2.below hb
      clear S2 hb c0 c1 q2
      obtain ⟨⟨_, c0, c1⟩, _⟩ := S3.pair
      go_wp2_with fail
      refine (openAsker_any _ _ _ _ _).mono ?_
      rintro e w4 ⟨rfl, hw4⟩
      have bxo := Box.new w3 m a zs.length cap 37
      have S4 := S3.below (bel1 w3 (.cells #[.int .i64 m, .slice a zs.length cap] 37))
      have q4 := q3.below (bel1 w3 (.cells #[.int .i64 m, .slice a zs.length cap] 37))
      obtain ⟨gs, hgs⟩ : ∃ gs : Nat, w3.heap.size = gs := ⟨_, rfl⟩
      rw [← hw4] at bxo S4 q4
      rw [hgs] at bxo ⊢
      have hblk0 := heap_alloc_new w4 (.cells #[.int .i64 0, .int .i64 0] 79)
      have BA := bel1 w4 (.cells #[.int .i64 0, .int .i64 0] 79)
      clear S3 c0 c1 q3 hw4 hgs
      go_wp2
      go_loopw [30] (fun i wr => ∃ k : Nat, k ≤ ls.length ∧ i = .int .i64 k ∧ wr.heap[w4.heap.size]? = some (.cells #[.int .i64 ((turnK zs vs ls k).1 : Nat), .int .i64 ((turnK zs vs ls k).2 : Nat)] 79 (0, 0)) ∧ Below w4.heap.size w4 wr) (fun i _ => ls.length - (intOf i).toNat)
      case atStart => exact ⟨0, Nat.zero_le _, rfl, hblk0, BA⟩
      case round =>
        clear hblk0 BA
        obtain ⟨k, hk, rfl, hblk, BR⟩ := hrel
        by_cases hlt : k < ls.length
        · obtain ⟨j, hj, hj4, hjm, hst, hC, hB, o1, o1', o2, o2'⟩ := tstep (zs := zs) (vs := vs) HOK.out (by omega) hlt
          obtain ⟨bq, oq, rfl, hbq, hcq⟩ := (q4.below BR) (by omega)
          have hck := hcq k hlt
          rw [getD_lt hlt, hj] at hck
          have hma := maj_and (vs := vs) (m := m) (j := j) h4 (by omega)
          obtain ⟨p, hp⟩ : ∃ p : Nat × Nat, turnK zs vs ls k = p := ⟨_, rfl⟩
          obtain ⟨C, B⟩ := p
          rw [hp] at hblk hst hC hB o1 o1' o2 o2'
          simp only at hblk hC hB o1 o1' o2 o2'
          have hpj : 2 ^ j < 16 := Nat.lt_of_lt_of_le (Nat.pow_lt_pow_right (by omega) hj4) (by decide)
          obtain ⟨Q, hQ⟩ : ∃ Q : Nat, (if vs.length < 2 * supN vs j then 2 ^ j else 0) = Q := ⟨_, rfl⟩
          have hQv : (Q = 0 ∨ Q = 2 ^ j) := by rw [← hQ]; split <;> simp
          have hoB : B ||| Q = B + Q ∧ B + Q < 16 ∧ Q < 16 := by
            rcases hQv with e | e
            · rw [e]; simp; omega
            · rw [e]; exact ⟨o2, o2', hpj⟩
          have hw2 := wrap_pow2 j (by omega)
          have e1 : bits .or .i64 (C : Int) (2 ^ j) = ((C + 2 ^ j : Nat) : Int) := by rw [← pow_cast, bits_or ⟨C, hC⟩ ⟨2 ^ j, hpj⟩, o1]
          have e2 : bits .and .i64 (wantB vs m : Int) (2 ^ j) = (Q : Int) := by rw [← pow_cast, bits_and ⟨_, hM16⟩ ⟨2 ^ j, hpj⟩, hma, hQ]
          have e3 : bits .or .i64 (B : Int) (Q : Int) = ((B + Q : Nat) : Int) := by rw [bits_or ⟨B, hB⟩ ⟨Q, hoB.2.2⟩, hoB.1]
          have e4 : bits .xor .i64 ((B + Q : Nat) : Int) (2 ^ j) = (((B + Q) ^^^ 2 ^ j : Nat) : Int) := by rw [← pow_cast, bits_xor ⟨B + Q, hoB.2.1⟩ ⟨2 ^ j, hpj⟩]
          have hB1 := hoB.2.1
          have HQ := hide hQ
          have HST := hide hst
          obtain ⟨C1, hC1⟩ : ∃ C1, C + 2 ^ j = C1 := ⟨_, rfl⟩
          obtain ⟨B1, hB1'⟩ : ∃ B1, B + Q = B1 := ⟨_, rfl⟩
          obtain ⟨B2, hB2⟩ : ∃ B2, B1 ^^^ 2 ^ j = B2 := ⟨_, rfl⟩
          rw [hC1] at e1 o1'
          rw [hB1'] at e3 e4 hB1
          rw [hB2] at e4
          have HC1 := hide hC1
          have HB1 := hide hB1'
          have HB2 := hide hB2
          have g0 := cell_of_block hblk 0
          have g1 := cell_of_block hblk 1
          have f0 := unfrozen_of_block hblk 0
          have f1 := unfrozen_of_block hblk 1
          have BH := hide BR
          have HBK := hide hblk
          have HC16 := hide o1'
          clear hcq hst hp hma hQ hQv hoB hC hB o1 o2 o2' hC1 hB1' hB2 hblk BR hj
          by_cases hop : openB zs (C1 : Int) (B1 : Int) = true
          · have HOP := hide hop
            clear hop
            go_wp2
            go_region
            all_goals go_wp2
            all_goals go_region
            all_goals go_wp2_with fail
            all_goals
              have BX := bdrew' ((bdrew' (BH.out.setCell (p := ⟨w4.heap.size, 0, none⟩) (Nat.le_refl _) (.int .i64 (C1 : Int)))).setCell (p := ⟨w4.heap.size, 1, none⟩) (Nat.le_refl _) (.int .i64 (B1 : Int)))
              refine (asks_is _ _ _ _ _ _ _ _ true (S4.below BX).2.1 hn (bxo.below BX) HZ.out (by have := HC16.out; omega) (by omega) HOP.out).mono ?_
              rintro e w8 ⟨rfl, hb8⟩
              have hX := block_setCell (i := 1) (block_setCell (i := 0) HBK.out (.int .i64 (C1 : Int))) (.int .i64 (B1 : Int))
              go_wp2
              go_roundw
              case rel => exact ⟨k + 1, by omega, by go_num, by
                rw [HST.out, stpT_open HQ.out (by rw [HC1.out, HB1.out]; exact HOP.out)]
                simp only [HC1.out, HB1.out]
                exact (hb8.block _ (lt_of_block hX)).trans hX, bnext BX hb8⟩
              case measure => simp [intOf]; omega
          · have hop : openB zs (C1 : Int) (B1 : Int) = false := by simpa using hop
            have HOP := hide hop
            clear hop
            go_wp2
            go_region
            all_goals go_wp2
            all_goals go_region
            all_goals go_wp2_with fail
            all_goals
              have BX := bdrew' ((bdrew' (BH.out.setCell (p := ⟨w4.heap.size, 0, none⟩) (Nat.le_refl _) (.int .i64 (C1 : Int)))).setCell (p := ⟨w4.heap.size, 1, none⟩) (Nat.le_refl _) (.int .i64 (B1 : Int)))
              refine (asks_is _ _ _ _ _ _ _ _ false (S4.below BX).2.1 hn (bxo.below BX) HZ.out (by have := HC16.out; omega) (by omega) HOP.out).mono ?_
              rintro e w8 ⟨rfl, hb8⟩
              have hX := block_setCell (i := 1) (block_setCell (i := 0) HBK.out (.int .i64 (C1 : Int))) (.int .i64 (B1 : Int))
              have hY := (hb8.block _ (lt_of_block hX)).trans hX
              have y1 := cell_of_block hY 1
              have x1 := unfrozen_of_block hY 1
              have BY := bnext BX hb8
              have HY := hide hY
              clear hX hY hb8 BX g0 g1 f0 f1
              go_wp2
              go_region
              all_goals go_wp2
              all_goals
                go_roundw
                case rel => exact ⟨k + 1, by omega, by go_num, by
                  rw [HST.out, stpT_shut HQ.out (by rw [HC1.out, HB1.out]; exact HOP.out)]
                  simp only [HC1.out, HB1.out, HB2.out]
                  exact block_setCell (i := 1) HY.out _, bdrew' (BY.setCell (p := ⟨w4.heap.size, 1, none⟩) (Nat.le_refl _) _)⟩
                case measure => simp [intOf]; omega
        · obtain rfl : k = ls.length := by omega
          have g1 := cell_of_block hblk 1
          have hS := bnext S4.2.2.2 BR
          go_wp2
          go_ret
          exact ⟨ret_int HN.out.symm, hS⟩
end Go.Proofs.YtgebplpbnaeckaaGreatDoor

/- TurnS: TurnRule of the model. -/
namespace Go.Proofs.YtgebplpbnaeckaaGreatDoor
open Go.RowKit Go.Joins

theorem power_was (n r : Int) (w : World) (h0 : 0 ≤ n) (h4 : n ≤ 6) (hr : pw n = r) : Calls Tryz.prog 45 #[.int .i64 n] w fun e w' => e = .returned (.int .i64 r) ∧ w = w' := by
  subst hr
  exact power_any n w h0 h4
theorem opent_was (n c b : Int) (a : Option Addr) (cap : Nat) (zs : List Int) (w : World) (r : Bool) (hi : Ints w a zs) (hn : zs.length ≤ 1048576) (hr : ∀ x ∈ zs, 0 ≤ x ∧ x ≤ 15) (hc : 0 ≤ c ∧ c ≤ 15) (hb : 0 ≤ b) (h : openB zs c b = r) :
    Calls Tryz.prog 60 #[.agg #[.int .i64 n, .slice a zs.length cap], .agg #[.int .i64 c, .int .i64 b]] w fun e w' => e = .returned (.bool r) ∧ Below w.heap.size w w' := by
  subst h
  exact open_any n c b a cap zs w hi hn hr hc hb

set_option maxHeartbeats 8000000 in
set_option maxRecDepth 100000 in
theorem inTurn_any (m : Nat) (a l q : Option Addr) (cap capl capq : Nat) (zs vs ls : List Int) (w : World) (hi : Ints w a zs) (hj : Ints w l vs) (hq : Ints w q ls) (hn : zs.length ≤ 1048576) (h5 : vs.length ≤ 5) (h1 : 1 ≤ m) (h4 : m ≤ 4) (hz : ∀ x ∈ zs, 0 ≤ x ∧ x ≤ 15) (hr : ∀ x ∈ vs, 0 ≤ x ∧ x ≤ 15) (hok : OrdOk (m : Int) ls) :
    Calls Tryz.prog 69 #[.agg #[.int .i64 m, .slice a zs.length cap], .slice l vs.length capl, .slice q ls.length capq] w fun e w' => e = .returned (.int .i64 ((turnK zs vs ls ls.length).2 : Nat)) ∧ Below w.heap.size w w' := by
  have S0 := SV.new w m a zs cap l vs 37 hi hj
  have q0 := hq.below (bel1 w (.cells #[.int .i64 m, .slice a zs.length cap] 37))
  have hlen : ls.length ≤ 4 := by have := hok.1; omega
  have HOK := hide hok
  have HZ := hide hz
  have HR := hide hr
  clear hi hj hq hok hz hr
  obtain ⟨wp, hwp⟩ : ∃ wp, w.alloc (.cells #[.int .i64 m, .slice a zs.length cap] 37) = wp := ⟨_, rfl⟩
  rw [hwp] at S0 q0
  have hblk0 := heap_alloc_new wp (.cells #[.int .i64 0, .int .i64 0] 79)
  have BA := bel1 wp (.cells #[.int .i64 0, .int .i64 0] 79)
  have hws : wp.heap.size = w.heap.size + 1 := by rw [← hwp]; simp
  go_enter Tryz.func69, Tryz.ntmps69
  go_wp2_with fail
  rw [← hws]
  clear hwp hws
  go_loopw [8] (fun i wr => ∃ k : Nat, k ≤ ls.length ∧ i = .int .i64 k ∧ wr.heap[wp.heap.size]? = some (.cells #[.int .i64 ((turnK zs vs ls k).1 : Nat), .int .i64 ((turnK zs vs ls k).2 : Nat)] 79 (0, 0)) ∧ Below wp.heap.size wp wr) (fun i _ => ls.length - (intOf i).toNat)
  case atStart => exact ⟨0, Nat.zero_le _, rfl, hblk0, BA⟩
  case round =>
    clear hblk0 BA
    obtain ⟨k, hk, rfl, hblk, BR⟩ := hrel
    by_cases hlt : k < ls.length
    · obtain ⟨j, hj, hj4, hjm, hst, hC, hB, o1, o1', o2, o2'⟩ := tstep (zs := zs) (vs := vs) HOK.out (by omega) hlt
      obtain ⟨bq, oq, rfl, hbq, hcq⟩ := (q0.below BR) (by omega)
      have hck := hcq k hlt
      rw [getD_lt hlt, hj] at hck
      obtain ⟨p, hp⟩ : ∃ p : Nat × Nat, turnK zs vs ls k = p := ⟨_, rfl⟩
      obtain ⟨C, B⟩ := p
      rw [hp] at hblk hst hC hB o1 o1' o2 o2'
      simp only at hblk hC hB o1 o1' o2 o2'
      obtain ⟨P, hP⟩ : ∃ P : Nat, 2 ^ j = P := ⟨_, rfl⟩
      have hP16 : P < 16 := by rw [← hP]; exact Nat.lt_of_lt_of_le (Nat.pow_lt_pow_right (by omega) hj4) (by decide)
      have HPW : Hid (pw (j : Int) = (P : Int)) := by unfold Hid; rw [pw_nat, ← pow_cast, hP]
      have hx0 : bits .xor .i64 (B : Int) (P : Int) = ((B ^^^ P : Nat) : Int) := bits_xor ⟨B, hB⟩ ⟨P, hP16⟩
      have hx1 : bits .xor .i64 ((B : Int) + (P : Int)) (P : Int) = (((B + P) ^^^ P : Nat) : Int) := by
        rw [← Int.natCast_add]; exact bits_xor ⟨B + P, by rw [hP] at o2'; exact o2'⟩ ⟨P, hP16⟩
      rw [hP] at o1' o2'
      have HP := hide hP
      have HST := hide hst
      have g0 := cell_of_block hblk 0
      have g1 := cell_of_block hblk 1
      have hgl := lt_of_block hblk
      have hs5 := supN_le vs j
      have SR := S0.below BR
      obtain ⟨⟨_, c0, c1⟩, _, il, _⟩ := SR.pair
      have BH := hide BR
      have HBK := hide hblk
      clear hcq hst hp hP o1 o2 hblk BR hj
      by_cases hs : vs.length < 2 * supN vs j
      · have HS := hide hs
        by_cases hop : openB zs ((C : Int) + (P : Int)) ((B : Int) + (P : Int)) = true
        · have HOP := hide hop
          clear hop
          go_wp2_with (first
            | (go_at_call 45; refine (power_was _ _ _ (by omega) (by omega) HPW.out).mono ?_; rintro e w' ⟨rfl, rfl⟩)
            | (go_at_call 64; refine (support_any _ _ _ _ _ (il.below (bel1 wr _)) (by omega) HR.out (by omega)).mono ?_; rintro e w' ⟨rfl, rfl⟩))
          have hX := heap_alloc_new wr (.cells #[.int .i64 ((C : Int) + (P : Int)), .int .i64 ((B : Int) + (P : Int))] 79)
          have bN := bel1 wr (.cells #[.int .i64 ((C : Int) + (P : Int)), .int .i64 ((B : Int) + (P : Int))] 79)
          obtain ⟨wn, hwn⟩ : ∃ wn, wr.alloc (.cells #[.int .i64 ((C : Int) + (P : Int)), .int .i64 ((B : Int) + (P : Int))] 79) = wn := ⟨_, rfl⟩
          rw [hwn] at hX bN ⊢
          obtain ⟨H, hH⟩ : ∃ H, wr.heap.size = H := ⟨_, rfl⟩
          rw [hH] at hX ⊢
          have hGH : wp.heap.size ≠ H := by omega
          have hge : wp.heap.size ≤ H := by omega
          have SN := SR.below bN
          refine (opent_was _ _ _ _ _ _ _ true SN.2.1 hn HZ.out (by omega) (by omega) HOP.out).mono ?_
          rintro e w8 ⟨rfl, hb8⟩
          have hX8 := (hb8.block _ (lt_of_block hX)).trans hX
          have hG8 := (hb8.block _ (Nat.lt_of_lt_of_le hgl bN.size)).trans ((bN.block _ hgl).trans HBK.out)
          have B8 := bnext (bnext BH.out bN) hb8
          have x0 := cell_of_block hX8 0
          have x1 := cell_of_block hX8 1
          have f0 := unfrozen_of_block hG8 0
          have f1 := unfrozen_of_block hG8 1
          have r0 := cell_of_block hG8 0
          have r1 := cell_of_block hG8 1
          have HG8 := hide hG8
          have HB8 := hide B8
          clear hX bN hwn hH SN hb8 hX8 hG8 B8 g0 g1 c0 c1 il
          go_wp2
          go_roundw
          case rel => exact ⟨k + 1, by omega, by go_num, by
            rw [HST.out, stpT_open (q := P) (by rw [if_pos HS.out]; exact HP.out) (by rw [HP.out, Int.natCast_add, Int.natCast_add]; exact HOP.out), HP.out]
            simp only [Int.natCast_add]
            exact block_setCell (i := 1) (block_setCell (i := 0) HG8.out _) _, (HB8.out.setCell (p := ⟨wp.heap.size, 0, none⟩) (Nat.le_refl _) _).setCell (p := ⟨wp.heap.size, 1, none⟩) (Nat.le_refl _) _⟩
          case measure => simp [intOf]; omega
        · have hop : openB zs ((C : Int) + (P : Int)) ((B : Int) + (P : Int)) = false := by simpa using hop
          have HOP := hide hop
          clear hop
          go_wp2_with (first
            | (go_at_call 45; refine (power_was _ _ _ (by omega) (by omega) HPW.out).mono ?_; rintro e w' ⟨rfl, rfl⟩)
            | (go_at_call 64; refine (support_any _ _ _ _ _ (il.below (bel1 wr _)) (by omega) HR.out (by omega)).mono ?_; rintro e w' ⟨rfl, rfl⟩))
          have hX := heap_alloc_new wr (.cells #[.int .i64 ((C : Int) + (P : Int)), .int .i64 ((B : Int) + (P : Int))] 79)
          have bN := bel1 wr (.cells #[.int .i64 ((C : Int) + (P : Int)), .int .i64 ((B : Int) + (P : Int))] 79)
          obtain ⟨wn, hwn⟩ : ∃ wn, wr.alloc (.cells #[.int .i64 ((C : Int) + (P : Int)), .int .i64 ((B : Int) + (P : Int))] 79) = wn := ⟨_, rfl⟩
          rw [hwn] at hX bN ⊢
          obtain ⟨H, hH⟩ : ∃ H, wr.heap.size = H := ⟨_, rfl⟩
          rw [hH] at hX ⊢
          have hGH : wp.heap.size ≠ H := by omega
          have hge : wp.heap.size ≤ H := by omega
          have SN := SR.below bN
          refine (opent_was _ _ _ _ _ _ _ false SN.2.1 hn HZ.out (by omega) (by omega) HOP.out).mono ?_
          rintro e w8 ⟨rfl, hb8⟩
          have hX8 := (hb8.block _ (lt_of_block hX)).trans hX
          have hG8 := (hb8.block _ (Nat.lt_of_lt_of_le hgl bN.size)).trans ((bN.block _ hgl).trans HBK.out)
          have B8 := bnext (bnext BH.out bN) hb8
          have x0 := cell_of_block hX8 0
          have x1 := cell_of_block hX8 1
          have f0 := unfrozen_of_block hG8 0
          have f1 := unfrozen_of_block hG8 1
          have r0 := cell_of_block hG8 0
          have r1 := cell_of_block hG8 1
          have HG8 := hide hG8
          have HB8 := hide B8
          have u0 := unfrozen_of_block hX8 0
          have u1 := unfrozen_of_block hX8 1
          clear hX bN hwn hH SN hb8 hX8 hG8 B8 g0 g1 c0 c1 il
          go_wp2
          go_roundw
          case rel => exact ⟨k + 1, by omega, by go_num, by
            rw [HST.out, stpT_shut (q := P) (by rw [if_pos HS.out]; exact HP.out) (by rw [HP.out, Int.natCast_add, Int.natCast_add]; exact HOP.out), HP.out]
            simp only [Int.natCast_add]
            exact block_setCell (i := 1) (block_setCell (i := 0) ((Below.heap_setCell _ _ _ _ hGH).trans HG8.out) _) _,
            ((HB8.out.setCell (p := ⟨H, 1, none⟩) hge _).setCell (p := ⟨wp.heap.size, 0, none⟩) (Nat.le_refl _) _).setCell (p := ⟨wp.heap.size, 1, none⟩) (Nat.le_refl _) _⟩
          case measure => simp [intOf]; omega
      · have HS := hide hs
        by_cases hop : openB zs ((C : Int) + (P : Int)) (B : Int) = true
        · have HOP := hide hop
          clear hop
          go_wp2_with (first
            | (go_at_call 45; refine (power_was _ _ _ (by omega) (by omega) HPW.out).mono ?_; rintro e w' ⟨rfl, rfl⟩)
            | (go_at_call 64; refine (support_any _ _ _ _ _ (il.below (bel1 wr _)) (by omega) HR.out (by omega)).mono ?_; rintro e w' ⟨rfl, rfl⟩))
          have hX := heap_alloc_new wr (.cells #[.int .i64 ((C : Int) + (P : Int)), .int .i64 (B : Int)] 79)
          have bN := bel1 wr (.cells #[.int .i64 ((C : Int) + (P : Int)), .int .i64 (B : Int)] 79)
          obtain ⟨wn, hwn⟩ : ∃ wn, wr.alloc (.cells #[.int .i64 ((C : Int) + (P : Int)), .int .i64 (B : Int)] 79) = wn := ⟨_, rfl⟩
          rw [hwn] at hX bN ⊢
          obtain ⟨H, hH⟩ : ∃ H, wr.heap.size = H := ⟨_, rfl⟩
          rw [hH] at hX ⊢
          have hGH : wp.heap.size ≠ H := by omega
          have hge : wp.heap.size ≤ H := by omega
          have SN := SR.below bN
          refine (opent_was _ _ _ _ _ _ _ true SN.2.1 hn HZ.out (by omega) (by omega) HOP.out).mono ?_
          rintro e w8 ⟨rfl, hb8⟩
          have hX8 := (hb8.block _ (lt_of_block hX)).trans hX
          have hG8 := (hb8.block _ (Nat.lt_of_lt_of_le hgl bN.size)).trans ((bN.block _ hgl).trans HBK.out)
          have B8 := bnext (bnext BH.out bN) hb8
          have x0 := cell_of_block hX8 0
          have x1 := cell_of_block hX8 1
          have f0 := unfrozen_of_block hG8 0
          have f1 := unfrozen_of_block hG8 1
          have r0 := cell_of_block hG8 0
          have r1 := cell_of_block hG8 1
          have HG8 := hide hG8
          have HB8 := hide B8
          clear hX bN hwn hH SN hb8 hX8 hG8 B8 g0 g1 c0 c1 il
          go_wp2
          go_roundw
          case rel => exact ⟨k + 1, by omega, by go_num, by
            rw [HST.out, stpT_open (q := 0) (by rw [if_neg HS.out]) (by rw [HP.out, Int.natCast_add, Int.natCast_add]; simp only [Int.natCast_zero, Int.add_zero]; exact HOP.out), HP.out]
            simp only [Int.natCast_add, Nat.add_zero]
            exact block_setCell (i := 1) (block_setCell (i := 0) HG8.out _) _, (HB8.out.setCell (p := ⟨wp.heap.size, 0, none⟩) (Nat.le_refl _) _).setCell (p := ⟨wp.heap.size, 1, none⟩) (Nat.le_refl _) _⟩
          case measure => simp [intOf]; omega
        · have hop : openB zs ((C : Int) + (P : Int)) (B : Int) = false := by simpa using hop
          have HOP := hide hop
          clear hop
          go_wp2_with (first
            | (go_at_call 45; refine (power_was _ _ _ (by omega) (by omega) HPW.out).mono ?_; rintro e w' ⟨rfl, rfl⟩)
            | (go_at_call 64; refine (support_any _ _ _ _ _ (il.below (bel1 wr _)) (by omega) HR.out (by omega)).mono ?_; rintro e w' ⟨rfl, rfl⟩))
          have hX := heap_alloc_new wr (.cells #[.int .i64 ((C : Int) + (P : Int)), .int .i64 (B : Int)] 79)
          have bN := bel1 wr (.cells #[.int .i64 ((C : Int) + (P : Int)), .int .i64 (B : Int)] 79)
          obtain ⟨wn, hwn⟩ : ∃ wn, wr.alloc (.cells #[.int .i64 ((C : Int) + (P : Int)), .int .i64 (B : Int)] 79) = wn := ⟨_, rfl⟩
          rw [hwn] at hX bN ⊢
          obtain ⟨H, hH⟩ : ∃ H, wr.heap.size = H := ⟨_, rfl⟩
          rw [hH] at hX ⊢
          have hGH : wp.heap.size ≠ H := by omega
          have hge : wp.heap.size ≤ H := by omega
          have SN := SR.below bN
          refine (opent_was _ _ _ _ _ _ _ false SN.2.1 hn HZ.out (by omega) (by omega) HOP.out).mono ?_
          rintro e w8 ⟨rfl, hb8⟩
          have hX8 := (hb8.block _ (lt_of_block hX)).trans hX
          have hG8 := (hb8.block _ (Nat.lt_of_lt_of_le hgl bN.size)).trans ((bN.block _ hgl).trans HBK.out)
          have B8 := bnext (bnext BH.out bN) hb8
          have x0 := cell_of_block hX8 0
          have x1 := cell_of_block hX8 1
          have f0 := unfrozen_of_block hG8 0
          have f1 := unfrozen_of_block hG8 1
          have r0 := cell_of_block hG8 0
          have r1 := cell_of_block hG8 1
          have HG8 := hide hG8
          have HB8 := hide B8
          have u0 := unfrozen_of_block hX8 0
          have u1 := unfrozen_of_block hX8 1
          clear hX bN hwn hH SN hb8 hX8 hG8 B8 g0 g1 c0 c1 il
          go_wp2
          go_roundw
          case rel => exact ⟨k + 1, by omega, by go_num, by
            rw [HST.out, stpT_shut (q := 0) (by rw [if_neg HS.out]) (by rw [HP.out, Int.natCast_add, Int.natCast_add]; simp only [Int.natCast_zero, Int.add_zero]; exact HOP.out), HP.out]
            simp only [Int.natCast_add, Nat.add_zero]
            exact block_setCell (i := 1) (block_setCell (i := 0) ((Below.heap_setCell _ _ _ _ hGH).trans HG8.out) _) _,
            ((HB8.out.setCell (p := ⟨H, 1, none⟩) hge _).setCell (p := ⟨wp.heap.size, 0, none⟩) (Nat.le_refl _) _).setCell (p := ⟨wp.heap.size, 1, none⟩) (Nat.le_refl _) _⟩
          case measure => simp [intOf]; omega
    · obtain rfl : k = ls.length := by omega
      have g1 := cell_of_block hblk 1
      have hS := bnext S0.2.2.2 BR
      go_wp2
      go_ret
      exact ⟨rfl, hS⟩

end Go.Proofs.YtgebplpbnaeckaaGreatDoor

/- RankR: RankedRule of the program and of the model. -/
namespace Go.Proofs.YtgebplpbnaeckaaGreatDoor
open Go.RowKit Go.Joins

set_option maxHeartbeats 4000000 in
theorem implRankedRule_any (n : Int) (a l : Option Addr) (cap capl : Nat) (zs vs : List Int) (w : World) (hi : Ints w a zs) (hj : Ints w l vs) (hn : zs.length ≤ 1048576) (hm : vs.length ≤ 1048576) :
    Calls Tryz.prog 89 #[.agg #[.int .i64 n, .slice a zs.length cap], .slice l vs.length capl] w fun e w' => e = .returned (.int .i64 (rankV n zs vs)) ∧ Below w.heap.size w w' := by
  have S0 := SV.new w n a zs cap l vs 37 hi hj
  clear hi hj
  by_cases hv : vvB n zs vs = false
  · have HN := hide (rankV_no hv)
    have HV := hide hv
    clear hv
    obtain ⟨⟨_, c0, c1⟩, _⟩ := S0.pair
    go_enter Tryz.func89, Tryz.ntmps89
    go_wp2_with fail
    refine (votes_was _ _ _ _ _ _ _ _ false S0.2.1 S0.2.2.1 hn hm HV.out).mono ?_
    rintro e w1 ⟨rfl, hb⟩
    go_wp2
    go_ret
    exact ⟨ret_int HN.out.symm, (S0.below hb).2.2.2⟩
  · have hv : vvB n zs vs = true := by simpa using hv
    have hV := vv_of hv
    obtain ⟨m, rfl⟩ := Int.eq_ofNat_of_zero_le (show 0 ≤ n from by have := hV.1.1; omega)
    have h4 : m ≤ 4 := by have := hV.1.1; omega
    have h1 : 1 ≤ m := by have := hV.1.1; omega
    have hv5 : 0 ≤ (vs.length : Int) ∧ (vs.length : Int) ≤ 5 := by have := hV.2.2; omega
    have HV := hide hv
    have HSA : Hid (supA (m : Int) zs vs = supL m vs) := (supA_yes hv).trans (by rw [Int.toNat_natCast])
    have HSL := hide (supL_le (m := m) (vs := vs))
    have HN : Hid (rankV (m : Int) zs vs = turnV (m : Int) zs vs (clearL vs.length (supL m vs))) := by unfold Hid rankV; rw [Int.toNat_natCast]
    have hql := clearL_len vs.length (supL m vs)
    have hsl := supL_length m vs
    clear hv hV
    obtain ⟨ss, hss⟩ : ∃ ss, supL m vs = ss := ⟨_, rfl⟩
    rw [hss] at HSA HSL HN hql hsl
    obtain ⟨q, hqe⟩ : ∃ q, clearL vs.length ss = q := ⟨_, rfl⟩
    rw [hqe] at HN hql
    have HQ := hide hqe
    have hs1 : 0 < ss.length := by omega
    have hs4 : ss.length ≤ 4 := by omega
    have hq : q.length ≤ 1048576 := by omega
    clear hss hqe hql hsl
    obtain ⟨⟨_, c0, c1⟩, _⟩ := S0.pair
    go_enter Tryz.func89, Tryz.ntmps89
    go_wp2_with fail
    refine (votes_was _ _ _ _ _ _ _ _ true S0.2.1 S0.2.2.1 hn hm HV.out).mono ?_
    rintro e w1 ⟨rfl, hb⟩
    have S1 := S0.below hb
    clear S0 hb c0 c1
    obtain ⟨⟨_, c0, c1⟩, _⟩ := S1.pair
    go_wp2
    refine wp_region_held_drew (S := (fun w' => w'.cell? ⟨w.heap.size, 0, none⟩ = some (.int .i64 (m : Int)) ∧ w'.cell? ⟨w.heap.size, 1, none⟩ = some (.slice a zs.length cap))) (by kernel_rfl) ?_ (fun hHeld => ?_)
    · exact ⟨c0, c1⟩
    refine wpAnyH_take (i := 0) (v := ?vvt1) rfl (by kernel_rfl) (by kernel_rfl) (by kernel_rfl) (fun _ _ _ h => h) (Or.inl ⟨by rfl, ?hyt1⟩) (by assumption) ?restt1
    case hyt1 => (intro w hSw; (try dsimp only at hSw); go_simp; (try with_reducible rfl))
    case restt1 =>
      (try simp only [Act.put, List.setIfInBounds_toArray, List.set_cons_zero, List.set_cons_succ, List.getElem_toArray, List.getElem_cons_zero])
      refine wpAnyH_take (i := 1) (v := ?vvt2) rfl (by kernel_rfl) (by kernel_rfl) (by kernel_rfl) (fun _ _ _ h => h) (Or.inl ⟨by rfl, ?hyt2⟩) (by assumption) ?restt2
      case hyt2 => (intro w hSw; (try dsimp only at hSw); go_simp; (try with_reducible rfl))
      case restt2 =>
        (try simp only [Act.put, List.setIfInBounds_toArray, List.set_cons_zero, List.set_cons_succ, List.getElem_toArray, List.getElem_cons_zero, List.getElem_cons_succ])
        refine wpAnyH_take (i := 2) (v := ?vvt3) rfl (by kernel_rfl) (by kernel_rfl) (by kernel_rfl) (fun _ _ _ h => h) (Or.inl ⟨by rfl, ?hyt3⟩) (by assumption) ?restt3
        case hyt3 => (intro w hSw; (try dsimp only at hSw); go_simp; (try with_reducible rfl))
        case restt3 =>
          (try simp only [Act.put, List.setIfInBounds_toArray, List.set_cons_zero, List.set_cons_succ, List.getElem_toArray, List.getElem_cons_zero, List.getElem_cons_succ])
          refine wpAnyH_take (i := 3) (v := ?vvt4) rfl (by kernel_rfl) (by kernel_rfl) (by kernel_rfl) (fun _ _ _ h => h) (Or.inl ⟨by rfl, ?hyt4⟩) (by assumption) ?restt4
          case hyt4 => (intro w hSw; (try dsimp only at hSw); go_simp; (try with_reducible rfl))
          case restt4 =>
            (try simp only [Act.put, List.setIfInBounds_toArray, List.set_cons_zero, List.set_cons_succ, List.getElem_toArray, List.getElem_cons_zero, List.getElem_cons_succ])
            refine wpAnyH_take (i := 5) (v := ?vvt5) rfl (by kernel_rfl) (by kernel_rfl) (by kernel_rfl) (fun _ _ _ h => h) (Or.inl ⟨by rfl, ?hyt5⟩) (by assumption) ?restt5
            case hyt5 => (intro w hSw; (try dsimp only at hSw); go_simp; (try with_reducible rfl))
            case restt5 =>
              (try simp only [Act.put, List.setIfInBounds_toArray, List.set_cons_zero, List.set_cons_succ, List.getElem_toArray, List.getElem_cons_zero, List.getElem_cons_succ])
              refine wpAnyH_take (i := 6) (v := ?vvt6) rfl (by kernel_rfl) (by kernel_rfl) (by kernel_rfl) (fun _ _ _ h => h) (Or.inl ⟨by rfl, ?hyt6⟩) (by assumption) ?restt6
              case hyt6 => (intro w hSw; (try dsimp only at hSw); go_simp; (try with_reducible rfl))
              case restt6 =>
                (try simp only [Act.put, List.setIfInBounds_toArray, List.set_cons_zero, List.set_cons_succ, List.getElem_toArray, List.getElem_cons_zero, List.getElem_cons_succ])
                refine wpAnyH_ready (rs := [4]) (by kernel_rfl) (by simp) ?_
                refine (AllReadyH.cons rfl (fun K hK => ?_) AllReadyH.nil)
                go_simp
                go_at_call 113
                refine (implSupportOf_any _ _ _ _ _ _ _ _ (S1.below (bdrew' (Below.refl _ _))).2.1 (S1.below (bdrew' (Below.refl _ _))).2.2.1 hn hm).mono ?_
                rintro e w2 ⟨v2, rfl, ov, hb2⟩
                rw [HSA.out] at ov
                obtain ⟨av, cv, rfl, iv, _⟩ := ov.form
                have S2 := S1.below (bdrew hb2)
                have IV := hide iv
                clear ov iv hb2 c0 c1
                obtain ⟨⟨_, c0, c1⟩, _⟩ := S2.pair
                refine hK.out _ _ ?_ (fun hHeld => ?_)
                · exact ⟨c0, c1⟩
                clear hK K
                (try simp only [Act.put, List.setIfInBounds_toArray, List.set_cons_zero, List.set_cons_succ, List.getElem_toArray, List.getElem_cons_zero, List.getElem_cons_succ])
                refine wpAnyH_ready (rs := [7]) (by kernel_rfl) (by simp) ?_
                refine (AllReadyH.cons rfl (fun K hK => ?_) AllReadyH.nil)
                go_simp
                go_at_call 112
                refine (clearestFirst_any _ _ _ _ _ IV.out hs1 hs4 hv5 HSL.out).mono ?_
                rintro e w3 ⟨v3, rfl, oq, hb3⟩
                rw [HQ.out] at oq
                obtain ⟨aq, cq, rfl, iq, _⟩ := oq.form
                have S3 := S2.below hb3
                have IQ := hide iq
                clear oq iq hb3 c0 c1
                obtain ⟨⟨_, c0, c1⟩, _⟩ := S3.pair
                refine hK.out _ _ ?_ (fun hHeld => ?_)
                · exact ⟨c0, c1⟩
                clear hK K
                (try simp only [Act.put, List.setIfInBounds_toArray, List.set_cons_zero, List.set_cons_succ, List.getElem_toArray, List.getElem_cons_zero, List.getElem_cons_succ])
                refine wpAnyH_ready (rs := [8]) (by kernel_rfl) (by simp) ?_
                refine (AllReadyH.cons rfl (fun K hK => ?_) AllReadyH.nil)
                go_simp
                go_at_call 111
                refine (implTurnRule_any _ _ _ _ _ _ _ _ _ _ _ S3.2.1 S3.2.2.1 IQ.out hn hm hq).mono ?_
                rintro e w4 ⟨rfl, hb4⟩
                have S4 := S3.below hb4
                clear c0 c1
                obtain ⟨⟨_, c0, c1⟩, _⟩ := S4.pair
                refine hK.out _ _ ?_ (fun hHeld => ?_)
                · exact ⟨c0, c1⟩
                clear hK K
                (try simp only [Act.put, List.setIfInBounds_toArray, List.set_cons_zero, List.set_cons_succ, List.getElem_toArray, List.getElem_cons_zero, List.getElem_cons_succ])
                refine wpAnyH_take (i := 9) (v := ?vvt7) rfl (by kernel_rfl) (by kernel_rfl) (by kernel_rfl) (fun _ _ _ h => h) (Or.inl ⟨by rfl, ?hyt7⟩) (by assumption) ?restt7
                case hyt7 => (intro w hSw; (try dsimp only at hSw); go_simp; (try with_reducible rfl))
                case restt7 =>
                  (try simp only [Act.put, List.setIfInBounds_toArray, List.set_cons_zero, List.set_cons_succ, List.getElem_toArray, List.getElem_cons_zero, List.getElem_cons_succ])
                  refine wpAnyH_done (by kernel_rfl) ?_ _
                  go_wp2
                  go_ret
                  exact ⟨ret_int HN.out.symm, S4.2.2.2⟩

theorem rowF_yes {f : Int → Int} {d : Int} {k : Nat} (h : f (k : Int) = d) : rowF f d (k + 1) = rowF f d k ++ [(k : Int)] := by rw [rowF, if_pos h]
theorem rowF_no {f : Int → Int} {d : Int} {k : Nat} (h : ¬ f (k : Int) = d) : rowF f d (k + 1) = rowF f d k := by rw [rowF, if_neg h]
theorem lead_sup {m : Nat} {vs : List Int} {j : Nat} (h : j < m) : leadV vs.length (supL m vs) (j : Int) = max (2 * (supN vs j : Int) - vs.length) (vs.length - 2 * (supN vs j : Int)) := by
  unfold leadV supL
  rw [Int.toNat_natCast, supKL_getD _ _ _ _ h]
  rfl
set_option maxHeartbeats 4000000 in
set_option maxRecDepth 100000 in
theorem specRankedRule_any (n : Int) (a l : Option Addr) (cap capl : Nat) (zs vs : List Int) (w : World) (hi : Ints w a zs) (hj : Ints w l vs) (hn : zs.length ≤ 1048576) (hm : vs.length ≤ 1048576) :
    Calls Tryz.prog 44 #[.agg #[.int .i64 n, .slice a zs.length cap], .slice l vs.length capl] w fun e w' => e = .returned (.int .i64 (rankV n zs vs)) ∧ Below w.heap.size w w' := by
  obtain ⟨i0, hi0, hz0, hz1, hz2⟩ := info_parts info_int
  have S0 := SV.new w n a zs cap l vs 37 hi hj
  clear hi hj
  by_cases hv : vsB n zs = false
  · have HN := hide (rankV_no (vvB_no (vs := vs) hv))
    go_enter Tryz.func44, Tryz.ntmps44
    go_wp2_with fail
    refine (validSpace_any _ _ _ _ _ S0.2.1 hn).mono ?_
    rintro e w1 ⟨rfl, hb⟩
    go_wp2
    go_ret
    exact ⟨ret_int HN.out.symm, (S0.below hb).2.2.2⟩
  · have hv : vsB n zs = true := by simpa using hv
    have hV := hide (valid_of hv)
    have HVV := hide (vvB_yes (vs := vs) hv)
    by_cases hvo : votesB zs vs = false
    · have HN := hide (rankV_no (HVV.out.trans hvo))
      go_enter Tryz.func44, Tryz.ntmps44
      go_wp2_with fail
      refine (validSpace_any _ _ _ _ _ S0.2.1 hn).mono ?_
      rintro e w1 ⟨rfl, hb⟩
      have S1 := S0.below hb
      obtain ⟨⟨_, c0, c1⟩, _⟩ := S1.pair
      go_wp2_with fail
      refine (validVotes_any _ _ _ _ _ _ _ _ S1.2.1 S1.2.2.1 hn hm).mono ?_
      rintro e w2 ⟨rfl, hb2⟩
      go_wp2
      go_ret
      exact ⟨ret_int HN.out.symm, (S1.below hb2).2.2.2⟩
    · have hvo : votesB zs vs = true := by simpa using hvo
      have hvv := HVV.out.trans hvo
      have HVO := hide (votes_of hvo)
      have HR := hide (votes_range hV.out HVO.out)
      have HZ := hide (valid_range hV.out)
      have h5 : vs.length ≤ 5 := by have := HVO.out.2; omega
      obtain ⟨m, rfl⟩ := Int.eq_ofNat_of_zero_le (show 0 ≤ n from by have := hV.out.1; omega)
      have h4 : m ≤ 4 := by have := hV.out.1; omega
      have h1 : 1 ≤ m := by have := hV.out.1; omega
      have hk := rankV_yes hvv
      rw [hk.1] at hk
      have HOK := hide hk.2.1
      have HN := hide hk.2.2
      have HLS : Hid (∀ j : Nat, j < m → leadV vs.length (supL m vs) (j : Int) = max (2 * (supN vs j : Int) - vs.length) (vs.length - 2 * (supN vs j : Int))) := fun j hj => lead_sup hj
      obtain ⟨f, hf⟩ : ∃ f, leadV vs.length (supL m vs) = f := ⟨_, rfl⟩
      rw [hf] at HOK HN HLS
      clear hvv hvo hk hf
      go_enter Tryz.func44, Tryz.ntmps44
      go_wp2_with fail
      refine (validSpace_any _ _ _ _ _ S0.2.1 hn).mono ?_
      rintro e w1 ⟨rfl, hb⟩
      have S1 := S0.below hb
      obtain ⟨⟨_, c0, c1⟩, _⟩ := S1.pair
      go_wp2_with fail
      refine (validVotes_any _ _ _ _ _ _ _ _ S1.2.1 S1.2.2.1 hn hm).mono ?_
      rintro e wo ⟨rfl, hb2⟩
      have SR := S1.below hb2
      clear S0 hb S1 hb2 c0 c1
      obtain ⟨⟨_, c0, c1⟩, _⟩ := SR.pair
      have ho0 : Owns (wo.alloc (.cells #[] 3)) wo.heap.size (.slice (some ⟨wo.heap.size, 0, none⟩) 0 0) [] := World.ownsRow_lit wo #[] 0 (Nat.le_refl _) (by simp) rfl
      have BA := bel1 wo (.cells #[] 3)
      go_wp2
      clear c0 c1
      go_loopw [5, 6] (fun v d wr => ∃ t : Nat, t ≤ vs.length + 1 ∧ d = .int .i64 ((vs.length : Int) - (t : Int)) ∧ Owns wr wo.heap.size v (rowsF f vs.length m t) ∧ Below wo.heap.size wo wr) (fun _ d _ => (intOf d + 1).toNat)
      case atStart => exact ⟨0, Nat.zero_le _, by simp, ho0, BA⟩
      case round =>
        clear ho0 BA
        obtain ⟨t, ht, rfl, hown, BR⟩ := hrel
        obtain ⟨wk, rfl⟩ : ∃ wk, wk = wr := ⟨_, rfl⟩
        obtain ⟨⟨_, c0, c1⟩, _, il, _⟩ := (SR.below BR).pair
        have hws : IntKind.i64.wrap ((vs.length : Int) - (t : Int) - 1) = (vs.length : Int) - ((t + 1 : Nat) : Int) := by rw [IntWalk.i64_in _ (by omega)]; omega
        obtain ⟨d, hd⟩ : ∃ d : Int, (vs.length : Int) - (t : Int) = d := ⟨_, rfl⟩
        rw [hd] at hws ⊢
        by_cases hlt : t ≤ vs.length
        · have hd0 : 0 ≤ d := by omega
          have HD := hide hd
          have HR1 : Hid (rowsF f vs.length m (t + 1) = rowsF f vs.length m t ++ rowF f d m) := by unfold Hid; rw [← hd]; rfl
          have hlen := rowsF_len f vs.length m t
          have hlen' : (rowsF f vs.length m t).length ≤ 24 := Nat.le_trans hlen (Nat.le_trans (Nat.mul_le_mul h4 (show t ≤ 6 by omega)) (by decide))
          obtain ⟨L0, hL0⟩ : ∃ L0, rowsF f vs.length m t = L0 := ⟨_, rfl⟩
          rw [hL0] at hown HR1 hlen'
          clear hd hlen hL0
          go_wp2
          clear c0 c1 il
          go_loopw [5, 7] (fun v i wq => ∃ j : Nat, j ≤ m ∧ i = .int .i64 j ∧ Owns wq wo.heap.size v (L0 ++ rowF f d j) ∧ Below wo.heap.size wo wq) (fun _ i _ => m - (intOf i).toNat)
          case atStart => exact ⟨0, Nat.zero_le _, rfl, by rw [rowF, List.append_nil]; exact hown, BR⟩
          case round =>
            clear hown BR
            obtain ⟨j, hj, rfl, hown, BR⟩ := hrel
            obtain ⟨wq, rfl⟩ : ∃ wq, wq = wr := ⟨_, rfl⟩
            obtain ⟨⟨_, c0, c1⟩, _, il, _⟩ := (SR.below BR).pair
            by_cases hjt : j < m
            · have hsz := BR.size
              have hsn := supN_le vs j
              have hls := HLS.out j hjt
              have hle := rowF_len f d j
              have hwa : IntKind.i64.wrap (2 * (supN vs j : Int)) = 2 * (supN vs j : Int) := IntWalk.i64_in _ (by omega)
              have hwb : IntKind.i64.wrap (2 * (supN vs j : Int) - (vs.length : Int)) = 2 * (supN vs j : Int) - (vs.length : Int) := IntWalk.i64_in _ (by omega)
              have hwc : IntKind.i64.wrap (-(2 * (supN vs j : Int) - (vs.length : Int))) = (vs.length : Int) - 2 * (supN vs j : Int) := by rw [IntWalk.i64_in _ (by omega)]; omega
              obtain ⟨F, hF⟩ : ∃ F, f (j : Int) = F := ⟨_, rfl⟩
              have hmx : max (2 * (supN vs j : Int) - (vs.length : Int)) (-(2 * (supN vs j : Int) - (vs.length : Int))) = F := by rw [← hF, hls]; omega
              obtain ⟨LL, hLL⟩ : ∃ LL, L0 ++ rowF f d j = LL := ⟨_, rfl⟩
              have hll : LL.length ≤ 28 := by rw [← hLL, List.length_append]; omega
              rw [hLL] at hown
              clear hls hwc hle
              by_cases hyes : F = d
              · have HRW : Hid (L0 ++ rowF f d (j + 1) = LL ++ [(j : Int)]) := by unfold Hid; rw [rowF_yes (hF.trans hyes), ← List.append_assoc, hLL]
                clear hF HLS hLL
                go_wp2_with (first | (go_at_call 64; refine (support_any _ _ _ _ _ il hm HR.out (by omega)).mono ?_; rintro e w' ⟨rfl, rfl⟩) | (at_builtin; refine wpList_append_own _ rfl _ _ 35 rfl wo.heap.size 3 i0 (.int .i64 0) 1 8 Tryz.underlying35 hi0 hz0 hz1 hz2 rfl (by decide) _ _ _ rfl (hown.alloc _) ⟨wq.heap.size, 0, none⟩ 1 1 [.int .i64 (j : Int)] rfl rfl ?c1 ?c2 ?c3 ?c4 ?c5 ?_))
                case c1 => exact cell_one_new _ _ _
                case c2 => intro u hu; simp at hu; subst hu; rfl
                case c3 => unfold maxLen; omega
                case c4 => omega
                case c5 => simp; omega
                intro v' w2 hown' hgrow _
                have hpush := hide (Owns.push hown')
                have hbel : Below wo.heap.size wo w2 := (BR.alloc hsz _).grown hgrow (by simp; omega) (fun k hk => own_ge hown k hk)
                clear hown' hgrow hown
                go_wp2
                go_roundw
                case rel => exact ⟨j + 1, by omega, by go_num, by rw [HRW.out]; exact hpush.out, hbel⟩
                case measure => simp only [intOf]; omega
              · have hno : ¬ F = d := hyes
                have HRW : Hid (L0 ++ rowF f d (j + 1) = LL) := by unfold Hid; rw [rowF_no (fun e => hno (hF.symm.trans e)), hLL]
                clear hF HLS hyes hLL
                go_wp2_with (go_at_call 64; refine (support_any _ _ _ _ _ il hm HR.out (by omega)).mono ?_; rintro e w' ⟨rfl, rfl⟩)
                go_roundw
                case rel => exact ⟨j + 1, by omega, by go_num, by rw [HRW.out]; exact hown, BR⟩
                case measure => simp only [intOf]; omega
            · obtain rfl : j = m := by omega
              go_wp2
              go_roundw
              case rel => exact ⟨t + 1, by omega, by go_num, by rw [HR1.out]; exact hown, BR⟩
              case measure => simp only [intOf]; have := HD.out; omega
        · obtain rfl : t = vs.length + 1 := by omega
          have hd1 : ¬ (0 ≤ d) := by omega
          have hlen := rowsF_len f vs.length m (vs.length + 1)
          obtain ⟨L, hL⟩ : ∃ L, rowsF f vs.length m (vs.length + 1) = L := ⟨_, rfl⟩
          rw [hL] at hown HOK HN
          obtain ⟨av, cv, rfl, iv, _⟩ := hown.form
          have IV := hide iv
          clear hown iv hL hlen hd hws
          go_wp2_with fail
          refine (inTurn_any _ _ _ _ _ _ _ _ _ _ _ (SR.below BR).2.1 (SR.below BR).2.2.1 IV.out hn h5 h1 h4 HZ.out HR.out HOK.out).mono ?_
          rintro e w9 ⟨rfl, hb9⟩
          go_wp2
          go_ret
          exact ⟨ret_int HN.out.symm, ((SR.below BR).below hb9).2.2.2⟩
end Go.Proofs.YtgebplpbnaeckaaGreatDoor

/- PrsK: ParseSpace of the program. -/
namespace Go.Proofs.YtgebplpbnaeckaaGreatDoor
open Go.RowKit Go.Joins

theorem cut_was (s H T : ByteArray) (b : Bool) (w : World) (hs : s.size ≤ 1048576) (hg : GV w) (hH : ⟨(Lib.cut s.data.toList [58]).1.toArray⟩ = H) (hT : ⟨(Lib.cut s.data.toList [58]).2.1.toArray⟩ = T) (hb : (Lib.cut s.data.toList [58]).2.2 = b) :
    Calls Tryz.prog 130 #[.string s, .string ⟨#[58]⟩] w fun e w' => e = .returned (.tuple #[.string H, .string T, .bool b]) ∧ Below w.heap.size w w' := by
  subst hH hT hb
  obtain ⟨m, hm⟩ := hg.ml
  refine (Tryz.strings_Cut s ⟨#[58]⟩ m w (by omega) hm).mono ?_
  rintro e w' ⟨rfl, n, rfl⟩
  exact ⟨rfl, ⟨rfl, rfl, rfl, Nat.le_refl _, fun _ _ => rfl⟩⟩
theorem cut_small (l : List UInt8) : (Lib.cut l [58]).1.length ≤ l.length ∧ ((Lib.cut l [58]).2.1.length = 0 ∨ (Lib.cut l [58]).2.1.length + 1 ≤ l.length) := by
  rcases cut_spl 58 l with ⟨_, hc⟩ | ⟨a, b, rfl, _, hc⟩
  · rw [hc]; simp
  · rw [hc]
    simp only [List.length_append, List.length_cons]
    omega
def bothO : Option Int → Option (List Int) → Option (Int × List Int)
  | some n, some zs => if vsB n zs = true then some (n, zs) else none
  | _, _ => none
theorem parI_eq (l : List UInt8) (o1 : Option Int) (o2 : Option (List Int)) (h1 : prN (Lib.cut l [58]).1 = o1) (h2 : prL (spl 44 (Lib.cut l [58]).2.1) = o2) : parS l = bothO o1 o2 := by
  subst h1 h2
  rw [← par_same]
  unfold parI bothO
  rfl
set_option maxHeartbeats 2000000 in
set_option maxRecDepth 100000 in
theorem implParse_any (s : ByteArray) (o : Option (Int × List Int)) (w : World) (hs : s.size ≤ 1048576) (hg : GV w) (ho : parS s.data.toList = o) :
    Calls Tryz.prog 106 #[.string s] w fun e w' => PsE o w w' e ∧ Below w.heap.size w w' := by
  subst ho
  obtain ⟨H, hH⟩ : ∃ H : ByteArray, ⟨(Lib.cut s.data.toList [58]).1.toArray⟩ = H := ⟨_, rfl⟩
  obtain ⟨T, hT⟩ : ∃ T : ByteArray, ⟨(Lib.cut s.data.toList [58]).2.1.toArray⟩ = T := ⟨_, rfl⟩
  obtain ⟨b, hb⟩ : ∃ b, (Lib.cut s.data.toList [58]).2.2 = b := ⟨_, rfl⟩
  have hHl : (Lib.cut s.data.toList [58]).1 = H.data.toList := by rw [← hH]
  have hTl : (Lib.cut s.data.toList [58]).2.1 = T.data.toList := by rw [← hT]
  have hcs := cut_small s.data.toList
  rw [hHl, hTl, Array.length_toList, Array.length_toList, Array.length_toList] at hcs
  have hHs : H.size ≤ 1048576 := Nat.le_trans hcs.1 hs
  have hTn : T.size + 1 ≤ 1048576 := by
    have h3 : T.data.size = T.size := rfl
    have h4 : s.data.size = s.size := rfl
    omega
  have hTs : T.size ≤ 1048576 := by omega
  obtain ⟨o1, h1⟩ : ∃ o1, prN H.data.toList = o1 := ⟨_, rfl⟩
  obtain ⟨o2, h2⟩ : ∃ o2, prL (spl 44 T.data.toList) = o2 := ⟨_, rfl⟩
  have HPE := hide (parI_eq s.data.toList o1 o2 (by rw [hHl]; exact h1) (by rw [hTl]; exact h2))
  have HC1 := hide hH
  have HC2 := hide hT
  have HC3 := hide hb
  have HO1 := hide h1
  have HO2 := hide h2
  have BB := bel1 w (.cells #[.int .i64 0, .slice none 0 0] 37)
  have hb0 := heap_alloc_new w (.cells #[.int .i64 0, .slice none 0 0] 37)
  obtain ⟨W, hW⟩ : ∃ W : World, W = w.alloc (.cells #[.int .i64 0, .slice none 0 0] 37) := ⟨_, rfl⟩
  rw [← hW] at BB hb0
  have hW1 : w.heap.size < W.heap.size := lt_of_block hb0
  have HKB := hide hb0
  clear hH hT hb hHl hTl hcs h1 h2 hb0
  go_enter Tryz.func106, Tryz.ntmps106
  go_wp2_with fail
  rw [← hW]
  clear hW
  refine (cut_was s H T b _ hs (hg.below BB) HC1.out HC2.out HC3.out).mono ?_
  rintro e w1 ⟨rfl, hb1⟩
  have B1 := BB.trans (hb1.mono BB.size)
  go_wp2_with fail
  refine (parseNumber_any H o1 _ hHs (hg.below B1) HO1.out).mono ?_
  rintro e w2 ⟨hE, hb2⟩
  have B2 := bnext B1 hb2
  have hs2 : w.heap.size < w2.heap.size := by have := hb1.size; have := hb2.size; omega
  have r2 := (hb2.block _ (by have := hb1.size; omega)).trans ((hb1.block _ hW1).trans HKB.out)
  have HR2 := hide r2
  clear hb1 hb2 B1 r2 BB HC1 HC2 HC3 HO1 HKB
  have fin0 : ∀ (w3 : World), Below w.heap.size w w3 → Below w.heap.size w ((w3.setCell ⟨w.heap.size, 0, none⟩ (.int .i64 0)).setCell ⟨w.heap.size, 1, none⟩ (.slice none 0 0)) := fun w3 h => (h.setCell (p := ⟨w.heap.size, 0, none⟩) (Nat.le_refl _) _).setCell (p := ⟨w.heap.size, 1, none⟩) (Nat.le_refl _) _
  rcases hE with ⟨n, rfl, rfl⟩ | ⟨rfl, rfl⟩
  · go_wp2_with fail
    refine (parseNumbers_any T o2 _ hTs (hg.below B2) HO2.out).mono ?_
    rintro e w3 ⟨hE3, hb3⟩
    have B3 := bnext B2 hb3
    have r3 := (hb3.block _ hs2).trans HR2.out
    have hs3 : w.heap.size < w3.heap.size := lt_of_block r3
    rcases hE3 with ⟨zs, a3, c3, rfl, rfl, OW, hzl⟩ | ⟨rfl, rfl⟩
    · have bb := bel1 w3 (.cells #[.int .i64 n, .slice a3 zs.length c3] 37)
      have kb := heap_alloc_new w3 (.cells #[.int .i64 n, .slice a3 zs.length c3] 37)
      have iw := OW.ints.below bb
      go_wp2_with fail
      refine (implValidSpace_any _ _ _ _ _ iw (by omega)).mono ?_
      rintro e w4 ⟨rfl, hb4⟩
      have B4 := bnext (bnext B3 bb) hb4
      have r4 := (hb4.block _ (by simp; omega)).trans ((bb.block _ hs3).trans r3)
      have k4 := (hb4.block _ (by simp)).trans kb
      have f0 := unfrozen_of_block r4 0
      have f1 := unfrozen_of_block r4 1
      have g0 := cell_of_block r4 0
      have g1 := cell_of_block r4 1
      have x0 := cell_of_block k4 0
      have x1 := cell_of_block k4 1
      have HRS := hide r4
      have HOW := hide (OW.below (bb.trans (hb4.mono bb.size)))
      clear r3 r4 k4 OW iw hb3 hb4 kb
      cases hvb : vsB n zs with
      | true =>
        have HN : Hid (parS s.data.toList = some (n, zs)) := HPE.out.trans (if_pos hvb)
        clear hvb
        go_wp2
        refine bodyPost_ret (ret_spb rfl _ _ _ _ _ rfl (block_setCell (i := 1) (block_setCell (i := 0) HRS.out _) _)) rfl ?_
        refine ⟨.inl ⟨n, zs, a3, c3, HN.out, rfl, ?_⟩, (B4.setCell (p := ⟨w.heap.size, 0, none⟩) (Nat.le_refl _) _).setCell (p := ⟨w.heap.size, 1, none⟩) (Nat.le_refl _) _⟩
        exact ((HOW.out.setBelow (p := ⟨w.heap.size, 0, none⟩) hs2 _).setBelow (p := ⟨w.heap.size, 1, none⟩) hs2 _).le B2.size
      | false =>
        have HN : Hid (parS s.data.toList = none) := HPE.out.trans (if_neg (by rw [hvb]; decide))
        clear hvb
        go_wp2
        refine bodyPost_ret (ret_spb rfl _ _ _ _ _ rfl (block_setCell (i := 1) (block_setCell (i := 0) HRS.out _) _)) rfl ?_
        exact ⟨.inr ⟨HN.out, rfl⟩, fin0 _ B4⟩
    · have f0 := unfrozen_of_block r3 0
      have f1 := unfrozen_of_block r3 1
      have g0 := cell_of_block r3 0
      have g1 := cell_of_block r3 1
      have HRS := hide r3
      have HN : Hid (parS s.data.toList = none) := HPE.out
      clear r3
      go_wp2
      refine bodyPost_ret (ret_spb rfl _ _ _ _ _ rfl (((bel1 _ _).block _ (by simp; exact hs3)).trans (block_setCell (i := 1) (block_setCell (i := 0) HRS.out _) _))) rfl ?_
      exact ⟨.inr ⟨HN.out, rfl⟩, (fin0 _ B3).alloc (by simp; omega) _⟩
  · have HN : Hid (parS s.data.toList = none) := HPE.out
    go_wp2_with fail
    refine (parseNumbers_any T o2 _ hTs (hg.below B2) HO2.out).mono ?_
    rintro e w3 ⟨hE3, hb3⟩
    have B3 := bnext B2 hb3
    have r3 := (hb3.block _ hs2).trans HR2.out
    have hs3 : w.heap.size < w3.heap.size := lt_of_block r3
    obtain ⟨a3, n3, c3, b3, rfl⟩ : ∃ (a3 : Option Addr) (n3 c3 : Nat) (b3 : Bool), e = .returned (.tuple #[.slice a3 n3 c3, .bool b3]) := by
      rcases hE3 with ⟨zs, a3, c3, _, e3, _⟩ | ⟨_, e3⟩
      · exact ⟨_, _, _, _, e3⟩
      · exact ⟨_, _, _, _, e3⟩
    have f0 := unfrozen_of_block r3 0
    have f1 := unfrozen_of_block r3 1
    have g0 := cell_of_block r3 0
    have g1 := cell_of_block r3 1
    have HRS := hide r3
    clear r3 hE3
    go_wp2
    refine bodyPost_ret (ret_spb rfl _ _ _ _ _ rfl (((bel1 _ _).block _ (by simp; exact hs3)).trans (block_setCell (i := 1) (block_setCell (i := 0) HRS.out _) _))) rfl ?_
    exact ⟨.inr ⟨HN.out, rfl⟩, (fin0 _ B3).alloc (by simp; omega) _⟩
end Go.Proofs.YtgebplpbnaeckaaGreatDoor
