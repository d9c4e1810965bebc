/- TurnRule of the program. -/
import Derived.Test.YtccemllgglfgkaaTurn
import Derived.Test.YtccemllgglfgkaaVotesW
import Derived.RegionTactic
import Derived.BigRegion
namespace Go.Proofs.Ytccemllgglfgkaa
open Go.RowKit Go.Joins

theorem isOrder_is (n : Int) (a : Option Addr) (cap : Nat) (ls : List Int) (w : World) (r : Bool) (hi : Ints w a ls) (h1 : 1 ≤ n) (h4 : n ≤ 4) (hm : ls.length ≤ 1048576) (hr : ordB n ls = r) :
    Calls Try.prog 78 #[.int .i64 n, .slice a ls.length cap] w fun e w' => e = .returned (.bool r) ∧ Below w.heap.size w w' := by
  subst hr
  exact isOrder_any n a cap ls w hi h1 h4 hm
theorem asks_is (n c b : Int) (a : Option Addr) (cap g : Nat) (zs : List Int) (w : World) (r : Bool) (hi : Ints w a zs) (hn : zs.length ≤ 1048576) (bx : Box w g n a zs.length cap) (hr : ∀ x ∈ zs, 0 ≤ x ∧ x ≤ 15) (hc : 0 ≤ c ∧ c ≤ 15) (hb : 0 ≤ b) (h : openB zs c b = r) :
    Calls Try.prog 119 #[.agg #[.int .i64 c, .int .i64 b], .pointer (some ⟨g, 0, none⟩)] w fun e w' => e = .returned (.bool r) ∧ Below w.heap.size w w' := by
  subst h
  exact openAsker1_any n c b a cap g zs w hi hn bx hr hc hb

set_option maxHeartbeats 8000000 in
set_option maxRecDepth 100000 in
theorem implTurnRule_any (n : Int) (a l q : Option Addr) (cap capl capq : Nat) (zs vs ls : List Int) (w : World) (hi : Ints w a zs) (hj : Ints w l vs) (hq : Ints w q ls) (hn : zs.length ≤ 1048576) (hm : vs.length ≤ 1048576) (ho : ls.length ≤ 1048576) :
    Calls Try.prog 39 #[.agg #[.int .i64 n, .slice a zs.length cap], .slice l vs.length capl, .slice q ls.length capq] w fun e w' => e = .returned (.int .i64 (turnV n zs vs ls)) ∧ Below w.heap.size w w' := by
  have S0 := SV.new w n a zs cap l vs 28 hi hj
  have q0 := hq.below (bel1 w (.cells #[.int .i64 n, .slice a zs.length cap] 28))
  clear hi hj hq
  by_cases hv : vvB n zs vs = false
  · have HN := hide (turnV_no1 (ls := ls) hv)
    have HV := hide hv
    clear hv
    obtain ⟨⟨_, c0, c1⟩, _⟩ := S0.pair
    go_enter Try.func39, Try.ntmps39
    go_wp2_with fail
    refine (votes_was _ _ _ _ _ _ _ _ false S0.2.1 S0.2.2.1 hn hm HV.out).mono ?_
    rintro e w1 ⟨rfl, hb⟩
    go_wp2
    go_ret
    exact ⟨ret_int HN.out.symm, (S0.below hb).2.2.2⟩
  · have hv : vvB n zs vs = true := by simpa using hv
    have hV := vv_of hv
    obtain ⟨m, rfl⟩ := Int.eq_ofNat_of_zero_le (show 0 ≤ n from by have := hV.1.1; omega)
    have h4 : m ≤ 4 := by have := hV.1.1; omega
    have h1 : 1 ≤ (m : Int) := hV.1.1.1
    have HZ := hide (valid_range hV.1)
    have HV := hide hv
    by_cases hod : ordB (m : Int) ls = false
    · have HN := hide (turnV_no2 (zs := zs) (vs := vs) hod)
      have HO := hide hod
      clear hv hV hod
      obtain ⟨⟨_, c0, c1⟩, _⟩ := S0.pair
      go_enter Try.func39, Try.ntmps39
      go_wp2_with fail
      refine (votes_was _ _ _ _ _ _ _ _ true S0.2.1 S0.2.2.1 hn hm HV.out).mono ?_
      rintro e w1 ⟨rfl, hb⟩
      have S1 := S0.below hb
      have q1 := q0.below hb
      clear S0 hb c0 c1
      obtain ⟨⟨_, c0, c1⟩, _⟩ := S1.pair
      go_wp2_with fail
      refine (isOrder_is _ _ _ _ _ false q1 h1 (by omega) ho HO.out).mono ?_
      rintro e w2 ⟨rfl, hb⟩
      go_wp2
      go_ret
      exact ⟨ret_int HN.out.symm, (S1.below hb).2.2.2⟩
    · have hod : ordB (m : Int) ls = true := by simpa using hod
      have HN := hide (turnV_yes hv hod)
      have HO := hide hod
      have HOK := hide (ord_of hod)
      have HMJ := hide (majV_yes hv)
      have hM := wantB_lt vs m
      have hM16 : wantB vs m < 16 := Nat.lt_of_lt_of_le hM (Nat.pow_le_pow_right (n := 2) (by omega) h4)
      clear hv hV hod hM
      obtain ⟨⟨_, c0, c1⟩, _⟩ := S0.pair
      go_enter Try.func39, Try.ntmps39
      go_wp2_with fail
      refine (votes_was _ _ _ _ _ _ _ _ true S0.2.1 S0.2.2.1 hn hm HV.out).mono ?_
      rintro e w1 ⟨rfl, hb⟩
      have S1 := S0.below hb
      have q1 := q0.below hb
      clear S0 hb c0 c1
      obtain ⟨⟨_, c0, c1⟩, _⟩ := S1.pair
      go_wp2_with fail
      refine (isOrder_is _ _ _ _ _ true q1 h1 (by omega) ho HO.out).mono ?_
      rintro e w2 ⟨rfl, hb⟩
      have S2 := S1.below hb
      have q2 := q1.below hb
      clear S1 hb c0 c1 q1
      obtain ⟨⟨_, c0, c1⟩, _⟩ := S2.pair
      go_wp2_with fail
      refine (implMajorityOf_any _ _ _ _ _ _ _ _ S2.2.1 S2.2.2.1 hn hm).mono ?_
      rintro e w3 ⟨rfl, hb⟩
      rw [HMJ.out, Int.toNat_natCast]
      have S3 := S2.below hb
      have q3 := q2.below hb
      clear S2 hb c0 c1 q2
      obtain ⟨⟨_, c0, c1⟩, _⟩ := S3.pair
      go_wp2_with fail
      refine (openAsker_any _ _ _ _ _).mono ?_
      rintro e w4 ⟨rfl, hw4⟩
      have bxo := Box.new w3 m a zs.length cap 28
      have S4 := S3.below (bel1 w3 (.cells #[.int .i64 m, .slice a zs.length cap] 28))
      have q4 := q3.below (bel1 w3 (.cells #[.int .i64 m, .slice a zs.length cap] 28))
      obtain ⟨gs, hgs⟩ : ∃ gs : Nat, w3.heap.size = gs := ⟨_, rfl⟩
      rw [← hw4] at bxo S4 q4
      rw [hgs] at bxo ⊢
      have hblk0 := heap_alloc_new w4 (.cells #[.int .i64 0, .int .i64 0] 67)
      have BA := bel1 w4 (.cells #[.int .i64 0, .int .i64 0] 67)
      clear S3 c0 c1 q3 hw4 hgs
      go_wp2
      go_loopw [30] (fun i wr => ∃ k : Nat, k ≤ ls.length ∧ i = .int .i64 k ∧ wr.heap[w4.heap.size]? = some (.cells #[.int .i64 ((turnK zs vs ls k).1 : Nat), .int .i64 ((turnK zs vs ls k).2 : Nat)] 67 (0, 0)) ∧ Below w4.heap.size w4 wr) (fun i _ => ls.length - (intOf i).toNat)
      case atStart => exact ⟨0, Nat.zero_le _, rfl, hblk0, BA⟩
      case round =>
        clear hblk0 BA
        obtain ⟨k, hk, rfl, hblk, BR⟩ := hrel
        by_cases hlt : k < ls.length
        · obtain ⟨j, hj, hj4, hjm, hst, hC, hB, o1, o1', o2, o2'⟩ := tstep (zs := zs) (vs := vs) HOK.out (by omega) hlt
          obtain ⟨bq, oq, rfl, hbq, hcq⟩ := (q4.below BR) (by omega)
          have hck := hcq k hlt
          rw [getD_lt hlt, hj] at hck
          have hma := maj_and (vs := vs) (m := m) (j := j) h4 (by omega)
          obtain ⟨p, hp⟩ : ∃ p : Nat × Nat, turnK zs vs ls k = p := ⟨_, rfl⟩
          obtain ⟨C, B⟩ := p
          rw [hp] at hblk hst hC hB o1 o1' o2 o2'
          simp only at hblk hC hB o1 o1' o2 o2'
          have hpj : 2 ^ j < 16 := Nat.lt_of_lt_of_le (Nat.pow_lt_pow_right (by omega) hj4) (by decide)
          obtain ⟨Q, hQ⟩ : ∃ Q : Nat, (if vs.length < 2 * supN vs j then 2 ^ j else 0) = Q := ⟨_, rfl⟩
          have hQv : (Q = 0 ∨ Q = 2 ^ j) := by rw [← hQ]; split <;> simp
          have hoB : B ||| Q = B + Q ∧ B + Q < 16 ∧ Q < 16 := by
            rcases hQv with e | e
            · rw [e]; simp; omega
            · rw [e]; exact ⟨o2, o2', hpj⟩
          have hw2 := wrap_pow2 j (by omega)
          have e1 : bits .or .i64 (C : Int) (2 ^ j) = ((C + 2 ^ j : Nat) : Int) := by rw [← pow_cast, bits_or ⟨C, hC⟩ ⟨2 ^ j, hpj⟩, o1]
          have e2 : bits .and .i64 (wantB vs m : Int) (2 ^ j) = (Q : Int) := by rw [← pow_cast, bits_and ⟨_, hM16⟩ ⟨2 ^ j, hpj⟩, hma, hQ]
          have e3 : bits .or .i64 (B : Int) (Q : Int) = ((B + Q : Nat) : Int) := by rw [bits_or ⟨B, hB⟩ ⟨Q, hoB.2.2⟩, hoB.1]
          have e4 : bits .xor .i64 ((B + Q : Nat) : Int) (2 ^ j) = (((B + Q) ^^^ 2 ^ j : Nat) : Int) := by rw [← pow_cast, bits_xor ⟨B + Q, hoB.2.1⟩ ⟨2 ^ j, hpj⟩]
          have hB1 := hoB.2.1
          have HQ := hide hQ
          have HST := hide hst
          obtain ⟨C1, hC1⟩ : ∃ C1, C + 2 ^ j = C1 := ⟨_, rfl⟩
          obtain ⟨B1, hB1'⟩ : ∃ B1, B + Q = B1 := ⟨_, rfl⟩
          obtain ⟨B2, hB2⟩ : ∃ B2, B1 ^^^ 2 ^ j = B2 := ⟨_, rfl⟩
          rw [hC1] at e1 o1'
          rw [hB1'] at e3 e4 hB1
          rw [hB2] at e4
          have HC1 := hide hC1
          have HB1 := hide hB1'
          have HB2 := hide hB2
          have g0 := cell_of_block hblk 0
          have g1 := cell_of_block hblk 1
          have f0 := unfrozen_of_block hblk 0
          have f1 := unfrozen_of_block hblk 1
          have BH := hide BR
          have HBK := hide hblk
          have HC16 := hide o1'
          clear hcq hst hp hma hQ hQv hoB hC hB o1 o2 o2' hC1 hB1' hB2 hblk BR hj
          by_cases hop : openB zs (C1 : Int) (B1 : Int) = true
          · have HOP := hide hop
            clear hop
            go_wp2
            go_region
            all_goals go_wp2
            all_goals go_region
            all_goals go_wp2_with fail
            all_goals
              have BX := bdrew' ((bdrew' (BH.out.setCell (p := ⟨w4.heap.size, 0, none⟩) (Nat.le_refl _) (.int .i64 (C1 : Int)))).setCell (p := ⟨w4.heap.size, 1, none⟩) (Nat.le_refl _) (.int .i64 (B1 : Int)))
              refine (asks_is _ _ _ _ _ _ _ _ true (S4.below BX).2.1 hn (bxo.below BX) HZ.out (by have := HC16.out; omega) (by omega) HOP.out).mono ?_
              rintro e w8 ⟨rfl, hb8⟩
              have hX := block_setCell (i := 1) (block_setCell (i := 0) HBK.out (.int .i64 (C1 : Int))) (.int .i64 (B1 : Int))
              go_wp2
              go_roundw
              case rel => exact ⟨k + 1, by omega, by go_num, by
                rw [HST.out, stpT_open HQ.out (by rw [HC1.out, HB1.out]; exact HOP.out)]
                simp only [HC1.out, HB1.out]
                exact (hb8.block _ (lt_of_block hX)).trans hX, bnext BX hb8⟩
              case measure => simp [intOf]; omega
          · have hop : openB zs (C1 : Int) (B1 : Int) = false := by simpa using hop
            have HOP := hide hop
            clear hop
            go_wp2
            go_region
            all_goals go_wp2
            all_goals go_region
            all_goals go_wp2_with fail
            all_goals
              have BX := bdrew' ((bdrew' (BH.out.setCell (p := ⟨w4.heap.size, 0, none⟩) (Nat.le_refl _) (.int .i64 (C1 : Int)))).setCell (p := ⟨w4.heap.size, 1, none⟩) (Nat.le_refl _) (.int .i64 (B1 : Int)))
              refine (asks_is _ _ _ _ _ _ _ _ false (S4.below BX).2.1 hn (bxo.below BX) HZ.out (by have := HC16.out; omega) (by omega) HOP.out).mono ?_
              rintro e w8 ⟨rfl, hb8⟩
              have hX := block_setCell (i := 1) (block_setCell (i := 0) HBK.out (.int .i64 (C1 : Int))) (.int .i64 (B1 : Int))
              have hY := (hb8.block _ (lt_of_block hX)).trans hX
              have y1 := cell_of_block hY 1
              have x1 := unfrozen_of_block hY 1
              have BY := bnext BX hb8
              have HY := hide hY
              clear hX hY hb8 BX g0 g1 f0 f1
              go_wp2
              go_region
              all_goals go_wp2
              all_goals
                go_roundw
                case rel => exact ⟨k + 1, by omega, by go_num, by
                  rw [HST.out, stpT_shut HQ.out (by rw [HC1.out, HB1.out]; exact HOP.out)]
                  simp only [HC1.out, HB1.out, HB2.out]
                  exact block_setCell (i := 1) HY.out _, bdrew' (BY.setCell (p := ⟨w4.heap.size, 1, none⟩) (Nat.le_refl _) _)⟩
                case measure => simp [intOf]; omega
        · obtain rfl : k = ls.length := by omega
          have g1 := cell_of_block hblk 1
          have hS := bnext S4.2.2.2 BR
          go_wp2
          go_ret
          exact ⟨ret_int HN.out.symm, hS⟩
end Go.Proofs.Ytccemllgglfgkaa
