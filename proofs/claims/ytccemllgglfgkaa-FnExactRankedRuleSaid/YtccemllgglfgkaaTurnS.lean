/- TurnRule of the model. -/
import Derived.Test.YtccemllgglfgkaaTurn
import Derived.Test.YtccemllgglfgkaaVotesW
namespace Go.Proofs.Ytccemllgglfgkaa
open Go.RowKit Go.Joins

theorem power_was (n r : Int) (w : World) (h0 : 0 ≤ n) (h4 : n ≤ 6) (hr : pw n = r) : Calls Try.prog 90 #[.int .i64 n] w fun e w' => e = .returned (.int .i64 r) ∧ w = w' := by
  subst hr
  exact power_any n w h0 h4
theorem open_was (n c b : Int) (a : Option Addr) (cap : Nat) (zs : List Int) (w : World) (r : Bool) (hi : Ints w a zs) (hn : zs.length ≤ 1048576) (hr : ∀ x ∈ zs, 0 ≤ x ∧ x ≤ 15) (hc : 0 ≤ c ∧ c ≤ 15) (hb : 0 ≤ b) (h : openB zs c b = r) :
    Calls Try.prog 116 #[.agg #[.int .i64 n, .slice a zs.length cap], .agg #[.int .i64 c, .int .i64 b]] w fun e w' => e = .returned (.bool r) ∧ Below w.heap.size w w' := by
  subst h
  exact open_any n c b a cap zs w hi hn hr hc hb

set_option maxHeartbeats 4000000 in
theorem validOrder_any (m : Nat) (a q : Option Addr) (cap capq len : Nat) (ls : List Int) (w : World) (hq : Ints w q ls) (h1 : 1 ≤ m) (h4 : m ≤ 4) (ho : ls.length ≤ 1048576) :
    Calls Try.prog 76 #[.agg #[.int .i64 m, .slice a len cap], .slice q ls.length capq] w fun e w' => e = .returned (.bool (ordB (m : Int) ls)) ∧ Below w.heap.size w w' := by
  have bx0 := Box.new w m a len cap 28
  have B0 := bel1 w (.cells #[.int .i64 m, .slice a len cap] 28)
  have iq0 := hq.below B0
  have hsub : IntKind.i64.wrap ((m : Int) - 1) = (m : Int) - 1 := IntWalk.i64_in _ (by omega)
  obtain ⟨w1, hw1⟩ : ∃ w1, w.alloc (.cells #[.int .i64 m, .slice a len cap] 28) = w1 := ⟨_, rfl⟩
  rw [hw1] at bx0 B0 iq0
  clear hq
  go_enter Try.func76, Try.ntmps76
  go_wp2_with fail
  clear hw1
  go_loopw [5] (fun x wr => ∃ i : Nat, i ≤ ls.length ∧ x = .int .i64 i ∧ (∀ t, t < i → (0 ≤ ls.getD t 0 ∧ ls.getD t 0 ≤ (m : Int) - 1) ∧ ∀ k, k < t → ls.getD k 0 ≠ ls.getD t 0) ∧ Below w1.heap.size w1 wr) (fun x _ => ls.length - (intOf x).toNat)
  case atStart => exact ⟨0, Nat.zero_le _, rfl, fun t ht => by omega, Below.refl _ _⟩
  case round =>
    obtain ⟨i, hi, rfl, hall, BR⟩ := hrel
    have HA := hide hall
    clear hall
    obtain ⟨_, c0, c1⟩ := bx0.below BR
    have hB := hide (bnext B0 BR)
    by_cases hlt : i < ls.length
    · obtain ⟨bq, oq, rfl, hbq, hcq⟩ := (iq0.below BR) (by omega)
      have hci := hcq i hlt
      have HCQ := hide hcq
      obtain ⟨x, hx⟩ : ∃ x, ls.getD i 0 = x := ⟨_, rfl⟩
      rw [hx] at hci
      clear hcq
      by_cases hr : 0 ≤ x ∧ x ≤ (m : Int) - 1
      · have HR := hide hr
        have HX := hide hx
        clear hr hx
        go_wp2
        go_quiet ((go_at_call 56; exact quiet_left (inRange_yes _ _ _ _ HR.out)))
        obtain ⟨wi, hwi⟩ : ∃ wi, wi = wr.drewN nq := ⟨_, rfl⟩
        have BI : Below w1.heap.size w1 wi := by rw [hwi]; exact bnext BR (belN _ _)
        have BWI : Below wr.heap.size wr wi := by rw [hwi]; exact belN _ _
        rw [← hwi]
        clear hwi c0 c1 hci
        go_wp2
        go_loopw [6] (fun y wq => ∃ k : Nat, k ≤ i ∧ y = .int .i64 k ∧ (∀ t, t < k → ls.getD t 0 ≠ x) ∧ Below wi.heap.size wi wq) (fun y _ => i - (intOf y).toNat)
        case atStart => exact ⟨0, Nat.zero_le _, rfl, fun t ht => by omega, Below.refl _ _⟩
        case round =>
          obtain ⟨k, hk, rfl, hne, BQ⟩ := hrel
          have HNE := hide hne
          clear hne
          by_cases hki : k < i
          · have hci := (BQ.cell (p := ⟨bq, oq + i, none⟩) (Nat.lt_of_lt_of_le hbq BWI.size)).trans ((BWI.cell (p := ⟨bq, oq + i, none⟩) hbq).trans (HCQ.out i hlt))
            have hck := (BQ.cell (p := ⟨bq, oq + k, none⟩) (Nat.lt_of_lt_of_le hbq BWI.size)).trans ((BWI.cell (p := ⟨bq, oq + k, none⟩) hbq).trans (HCQ.out k (by omega)))
            rw [HX.out] at hci
            obtain ⟨y, hy⟩ : ∃ y, ls.getD k 0 = y := ⟨_, rfl⟩
            rw [hy] at hck
            by_cases he : y = x
            · have hE : (y == x) = true := by rw [beq_iff_eq]; exact he
              have HN : Hid (ordB (m : Int) ls = false) := ordB_false (fun h => h.2.2 i hlt k hki (by rw [hy, HX.out]; exact he))
              have HE := hide (bnext BI BQ)
              clear he hy BQ BI BWI
              go_wp2
              go_quiet (fail)
              go_wp2
              go_ret
              exact ⟨ret_bool HN.out.symm, bnext (bnext B0 HE.out) (belN _ _)⟩
            · have hE : (y == x) = false := by rw [beq_eq_false_iff_ne]; exact he
              have HY : Hid (ls.getD k 0 ≠ x) := by rw [hy]; exact he
              have HE := hide BQ
              clear he hy BQ BI BWI
              go_wp2
              go_quiet (fail)
              go_wp2
              go_roundw
              case rel => exact ⟨k + 1, by omega, by go_num, fun t ht => by
                rcases Nat.lt_or_ge t k with h | h
                · exact HNE.out t h
                · obtain rfl : t = k := by omega
                  exact HY.out, bnext HE.out (belN _ _)⟩
              case measure => simp only [intOf]; omega
          · obtain rfl : k = i := by omega
            go_wp2
            go_roundw
            case rel => exact ⟨k + 1, by omega, by go_num, fun t ht => by
              rcases Nat.lt_or_ge t k with h | h
              · exact HA.out t h
              · obtain rfl : t = k := by omega
                rw [HX.out]
                exact ⟨HR.out, HNE.out⟩, bnext BI BQ⟩
            case measure => simp only [intOf]; omega
      · have HN : Hid (ordB (m : Int) ls = false) := ordB_false (fun h => hr (by rw [← hx]; exact h.2.1 i hlt))
        have HR := hide hr
        clear hr hx
        go_wp2
        go_quiet ((go_at_call 56; exact quiet_left (inRange_no _ _ _ _ HR.out)))
        go_wp2
        go_ret
        exact ⟨ret_bool HN.out.symm, bnext hB.out (belN _ _)⟩
    · obtain rfl : i = ls.length := by omega
      by_cases hl : (ls.length : Int) = m
      · have hE : ((ls.length : Int) == (m : Int)) = true := by rw [beq_iff_eq]; exact hl
        have HN : Hid (ordB (m : Int) ls = true) := ordB_true ⟨hl, fun i hi => (HA.out i hi).1, fun i hi k hk => (HA.out i hi).2 k hk⟩
        clear hl
        go_wp2
        go_ret
        exact ⟨ret_bool HN.out.symm, hB.out⟩
      · have hE : ((ls.length : Int) == (m : Int)) = false := by rw [beq_eq_false_iff_ne]; exact hl
        have HN : Hid (ordB (m : Int) ls = false) := ordB_false (fun h => hl h.1)
        clear hl
        go_wp2
        go_ret
        exact ⟨ret_bool HN.out.symm, hB.out⟩

set_option maxHeartbeats 8000000 in
set_option maxRecDepth 100000 in
theorem inTurn_any (m : Nat) (a l q : Option Addr) (cap capl capq : Nat) (zs vs ls : List Int) (w : World) (hi : Ints w a zs) (hj : Ints w l vs) (hq : Ints w q ls) (hn : zs.length ≤ 1048576) (h5 : vs.length ≤ 5) (h1 : 1 ≤ m) (h4 : m ≤ 4) (hz : ∀ x ∈ zs, 0 ≤ x ∧ x ≤ 15) (hr : ∀ x ∈ vs, 0 ≤ x ∧ x ≤ 15) (hok : OrdOk (m : Int) ls) :
    Calls Try.prog 77 #[.agg #[.int .i64 m, .slice a zs.length cap], .slice l vs.length capl, .slice q ls.length capq] w fun e w' => e = .returned (.int .i64 ((turnK zs vs ls ls.length).2 : Nat)) ∧ Below w.heap.size w w' := by
  have S0 := SV.new w m a zs cap l vs 28 hi hj
  have q0 := hq.below (bel1 w (.cells #[.int .i64 m, .slice a zs.length cap] 28))
  have hlen : ls.length ≤ 4 := by have := hok.1; omega
  have HOK := hide hok
  have HZ := hide hz
  have HR := hide hr
  clear hi hj hq hok hz hr
  obtain ⟨wp, hwp⟩ : ∃ wp, w.alloc (.cells #[.int .i64 m, .slice a zs.length cap] 28) = wp := ⟨_, rfl⟩
  rw [hwp] at S0 q0
  have hblk0 := heap_alloc_new wp (.cells #[.int .i64 0, .int .i64 0] 67)
  have BA := bel1 wp (.cells #[.int .i64 0, .int .i64 0] 67)
  have hws : wp.heap.size = w.heap.size + 1 := by rw [← hwp]; simp
  go_enter Try.func77, Try.ntmps77
  go_wp2_with fail
  rw [← hws]
  clear hwp hws
  go_loopw [8] (fun i wr => ∃ k : Nat, k ≤ ls.length ∧ i = .int .i64 k ∧ wr.heap[wp.heap.size]? = some (.cells #[.int .i64 ((turnK zs vs ls k).1 : Nat), .int .i64 ((turnK zs vs ls k).2 : Nat)] 67 (0, 0)) ∧ Below wp.heap.size wp wr) (fun i _ => ls.length - (intOf i).toNat)
  case atStart => exact ⟨0, Nat.zero_le _, rfl, hblk0, BA⟩
  case round =>
    clear hblk0 BA
    obtain ⟨k, hk, rfl, hblk, BR⟩ := hrel
    by_cases hlt : k < ls.length
    · obtain ⟨j, hj, hj4, hjm, hst, hC, hB, o1, o1', o2, o2'⟩ := tstep (zs := zs) (vs := vs) HOK.out (by omega) hlt
      obtain ⟨bq, oq, rfl, hbq, hcq⟩ := (q0.below BR) (by omega)
      have hck := hcq k hlt
      rw [getD_lt hlt, hj] at hck
      obtain ⟨p, hp⟩ : ∃ p : Nat × Nat, turnK zs vs ls k = p := ⟨_, rfl⟩
      obtain ⟨C, B⟩ := p
      rw [hp] at hblk hst hC hB o1 o1' o2 o2'
      simp only at hblk hC hB o1 o1' o2 o2'
      obtain ⟨P, hP⟩ : ∃ P : Nat, 2 ^ j = P := ⟨_, rfl⟩
      have hP16 : P < 16 := by rw [← hP]; exact Nat.lt_of_lt_of_le (Nat.pow_lt_pow_right (by omega) hj4) (by decide)
      have HPW : Hid (pw (j : Int) = (P : Int)) := by unfold Hid; rw [pw_nat, ← pow_cast, hP]
      have hx0 : bits .xor .i64 (B : Int) (P : Int) = ((B ^^^ P : Nat) : Int) := bits_xor ⟨B, hB⟩ ⟨P, hP16⟩
      have hx1 : bits .xor .i64 ((B : Int) + (P : Int)) (P : Int) = (((B + P) ^^^ P : Nat) : Int) := by
        rw [← Int.natCast_add]; exact bits_xor ⟨B + P, by rw [hP] at o2'; exact o2'⟩ ⟨P, hP16⟩
      rw [hP] at o1' o2'
      have HP := hide hP
      have HST := hide hst
      have g0 := cell_of_block hblk 0
      have g1 := cell_of_block hblk 1
      have hgl := lt_of_block hblk
      have hs5 := supN_le vs j
      have SR := S0.below BR
      obtain ⟨⟨_, c0, c1⟩, _, il, _⟩ := SR.pair
      have BH := hide BR
      have HBK := hide hblk
      clear hcq hst hp hP o1 o2 hblk BR hj
      by_cases hs : vs.length < 2 * supN vs j
      · have HS := hide hs
        by_cases hop : openB zs ((C : Int) + (P : Int)) ((B : Int) + (P : Int)) = true
        · have HOP := hide hop
          clear hop
          go_wp2_with (first
            | (go_at_call 90; refine (power_was _ _ _ (by omega) (by omega) HPW.out).mono ?_; rintro e w' ⟨rfl, rfl⟩)
            | (go_at_call 83; refine (support_any _ _ _ _ _ (il.below (bel1 wr _)) (by omega) HR.out (by omega)).mono ?_; rintro e w' ⟨rfl, rfl⟩))
          have hX := heap_alloc_new wr (.cells #[.int .i64 ((C : Int) + (P : Int)), .int .i64 ((B : Int) + (P : Int))] 67)
          have bN := bel1 wr (.cells #[.int .i64 ((C : Int) + (P : Int)), .int .i64 ((B : Int) + (P : Int))] 67)
          obtain ⟨wn, hwn⟩ : ∃ wn, wr.alloc (.cells #[.int .i64 ((C : Int) + (P : Int)), .int .i64 ((B : Int) + (P : Int))] 67) = wn := ⟨_, rfl⟩
          rw [hwn] at hX bN ⊢
          obtain ⟨H, hH⟩ : ∃ H, wr.heap.size = H := ⟨_, rfl⟩
          rw [hH] at hX ⊢
          have hGH : wp.heap.size ≠ H := by omega
          have hge : wp.heap.size ≤ H := by omega
          have SN := SR.below bN
          refine (open_was _ _ _ _ _ _ _ true SN.2.1 hn HZ.out (by omega) (by omega) HOP.out).mono ?_
          rintro e w8 ⟨rfl, hb8⟩
          have hX8 := (hb8.block _ (lt_of_block hX)).trans hX
          have hG8 := (hb8.block _ (Nat.lt_of_lt_of_le hgl bN.size)).trans ((bN.block _ hgl).trans HBK.out)
          have B8 := bnext (bnext BH.out bN) hb8
          have x0 := cell_of_block hX8 0
          have x1 := cell_of_block hX8 1
          have f0 := unfrozen_of_block hG8 0
          have f1 := unfrozen_of_block hG8 1
          have r0 := cell_of_block hG8 0
          have r1 := cell_of_block hG8 1
          have HG8 := hide hG8
          have HB8 := hide B8
          clear hX bN hwn hH SN hb8 hX8 hG8 B8 g0 g1 c0 c1 il
          go_wp2
          go_roundw
          case rel => exact ⟨k + 1, by omega, by go_num, by
            rw [HST.out, stpT_open (q := P) (by rw [if_pos HS.out]; exact HP.out) (by rw [HP.out, Int.natCast_add, Int.natCast_add]; exact HOP.out), HP.out]
            simp only [Int.natCast_add]
            exact block_setCell (i := 1) (block_setCell (i := 0) HG8.out _) _, (HB8.out.setCell (p := ⟨wp.heap.size, 0, none⟩) (Nat.le_refl _) _).setCell (p := ⟨wp.heap.size, 1, none⟩) (Nat.le_refl _) _⟩
          case measure => simp [intOf]; omega
        · have hop : openB zs ((C : Int) + (P : Int)) ((B : Int) + (P : Int)) = false := by simpa using hop
          have HOP := hide hop
          clear hop
          go_wp2_with (first
            | (go_at_call 90; refine (power_was _ _ _ (by omega) (by omega) HPW.out).mono ?_; rintro e w' ⟨rfl, rfl⟩)
            | (go_at_call 83; refine (support_any _ _ _ _ _ (il.below (bel1 wr _)) (by omega) HR.out (by omega)).mono ?_; rintro e w' ⟨rfl, rfl⟩))
          have hX := heap_alloc_new wr (.cells #[.int .i64 ((C : Int) + (P : Int)), .int .i64 ((B : Int) + (P : Int))] 67)
          have bN := bel1 wr (.cells #[.int .i64 ((C : Int) + (P : Int)), .int .i64 ((B : Int) + (P : Int))] 67)
          obtain ⟨wn, hwn⟩ : ∃ wn, wr.alloc (.cells #[.int .i64 ((C : Int) + (P : Int)), .int .i64 ((B : Int) + (P : Int))] 67) = wn := ⟨_, rfl⟩
          rw [hwn] at hX bN ⊢
          obtain ⟨H, hH⟩ : ∃ H, wr.heap.size = H := ⟨_, rfl⟩
          rw [hH] at hX ⊢
          have hGH : wp.heap.size ≠ H := by omega
          have hge : wp.heap.size ≤ H := by omega
          have SN := SR.below bN
          refine (open_was _ _ _ _ _ _ _ false SN.2.1 hn HZ.out (by omega) (by omega) HOP.out).mono ?_
          rintro e w8 ⟨rfl, hb8⟩
          have hX8 := (hb8.block _ (lt_of_block hX)).trans hX
          have hG8 := (hb8.block _ (Nat.lt_of_lt_of_le hgl bN.size)).trans ((bN.block _ hgl).trans HBK.out)
          have B8 := bnext (bnext BH.out bN) hb8
          have x0 := cell_of_block hX8 0
          have x1 := cell_of_block hX8 1
          have f0 := unfrozen_of_block hG8 0
          have f1 := unfrozen_of_block hG8 1
          have r0 := cell_of_block hG8 0
          have r1 := cell_of_block hG8 1
          have HG8 := hide hG8
          have HB8 := hide B8
          have u0 := unfrozen_of_block hX8 0
          have u1 := unfrozen_of_block hX8 1
          clear hX bN hwn hH SN hb8 hX8 hG8 B8 g0 g1 c0 c1 il
          go_wp2
          go_roundw
          case rel => exact ⟨k + 1, by omega, by go_num, by
            rw [HST.out, stpT_shut (q := P) (by rw [if_pos HS.out]; exact HP.out) (by rw [HP.out, Int.natCast_add, Int.natCast_add]; exact HOP.out), HP.out]
            simp only [Int.natCast_add]
            exact block_setCell (i := 1) (block_setCell (i := 0) ((Below.heap_setCell _ _ _ _ hGH).trans HG8.out) _) _,
            ((HB8.out.setCell (p := ⟨H, 1, none⟩) hge _).setCell (p := ⟨wp.heap.size, 0, none⟩) (Nat.le_refl _) _).setCell (p := ⟨wp.heap.size, 1, none⟩) (Nat.le_refl _) _⟩
          case measure => simp [intOf]; omega
      · have HS := hide hs
        by_cases hop : openB zs ((C : Int) + (P : Int)) (B : Int) = true
        · have HOP := hide hop
          clear hop
          go_wp2_with (first
            | (go_at_call 90; refine (power_was _ _ _ (by omega) (by omega) HPW.out).mono ?_; rintro e w' ⟨rfl, rfl⟩)
            | (go_at_call 83; refine (support_any _ _ _ _ _ (il.below (bel1 wr _)) (by omega) HR.out (by omega)).mono ?_; rintro e w' ⟨rfl, rfl⟩))
          have hX := heap_alloc_new wr (.cells #[.int .i64 ((C : Int) + (P : Int)), .int .i64 (B : Int)] 67)
          have bN := bel1 wr (.cells #[.int .i64 ((C : Int) + (P : Int)), .int .i64 (B : Int)] 67)
          obtain ⟨wn, hwn⟩ : ∃ wn, wr.alloc (.cells #[.int .i64 ((C : Int) + (P : Int)), .int .i64 (B : Int)] 67) = wn := ⟨_, rfl⟩
          rw [hwn] at hX bN ⊢
          obtain ⟨H, hH⟩ : ∃ H, wr.heap.size = H := ⟨_, rfl⟩
          rw [hH] at hX ⊢
          have hGH : wp.heap.size ≠ H := by omega
          have hge : wp.heap.size ≤ H := by omega
          have SN := SR.below bN
          refine (open_was _ _ _ _ _ _ _ true SN.2.1 hn HZ.out (by omega) (by omega) HOP.out).mono ?_
          rintro e w8 ⟨rfl, hb8⟩
          have hX8 := (hb8.block _ (lt_of_block hX)).trans hX
          have hG8 := (hb8.block _ (Nat.lt_of_lt_of_le hgl bN.size)).trans ((bN.block _ hgl).trans HBK.out)
          have B8 := bnext (bnext BH.out bN) hb8
          have x0 := cell_of_block hX8 0
          have x1 := cell_of_block hX8 1
          have f0 := unfrozen_of_block hG8 0
          have f1 := unfrozen_of_block hG8 1
          have r0 := cell_of_block hG8 0
          have r1 := cell_of_block hG8 1
          have HG8 := hide hG8
          have HB8 := hide B8
          clear hX bN hwn hH SN hb8 hX8 hG8 B8 g0 g1 c0 c1 il
          go_wp2
          go_roundw
          case rel => exact ⟨k + 1, by omega, by go_num, by
            rw [HST.out, stpT_open (q := 0) (by rw [if_neg HS.out]) (by rw [HP.out, Int.natCast_add, Int.natCast_add]; simp only [Int.natCast_zero, Int.add_zero]; exact HOP.out), HP.out]
            simp only [Int.natCast_add, Nat.add_zero]
            exact block_setCell (i := 1) (block_setCell (i := 0) HG8.out _) _, (HB8.out.setCell (p := ⟨wp.heap.size, 0, none⟩) (Nat.le_refl _) _).setCell (p := ⟨wp.heap.size, 1, none⟩) (Nat.le_refl _) _⟩
          case measure => simp [intOf]; omega
        · have hop : openB zs ((C : Int) + (P : Int)) (B : Int) = false := by simpa using hop
          have HOP := hide hop
          clear hop
          go_wp2_with (first
            | (go_at_call 90; refine (power_was _ _ _ (by omega) (by omega) HPW.out).mono ?_; rintro e w' ⟨rfl, rfl⟩)
            | (go_at_call 83; refine (support_any _ _ _ _ _ (il.below (bel1 wr _)) (by omega) HR.out (by omega)).mono ?_; rintro e w' ⟨rfl, rfl⟩))
          have hX := heap_alloc_new wr (.cells #[.int .i64 ((C : Int) + (P : Int)), .int .i64 (B : Int)] 67)
          have bN := bel1 wr (.cells #[.int .i64 ((C : Int) + (P : Int)), .int .i64 (B : Int)] 67)
          obtain ⟨wn, hwn⟩ : ∃ wn, wr.alloc (.cells #[.int .i64 ((C : Int) + (P : Int)), .int .i64 (B : Int)] 67) = wn := ⟨_, rfl⟩
          rw [hwn] at hX bN ⊢
          obtain ⟨H, hH⟩ : ∃ H, wr.heap.size = H := ⟨_, rfl⟩
          rw [hH] at hX ⊢
          have hGH : wp.heap.size ≠ H := by omega
          have hge : wp.heap.size ≤ H := by omega
          have SN := SR.below bN
          refine (open_was _ _ _ _ _ _ _ false SN.2.1 hn HZ.out (by omega) (by omega) HOP.out).mono ?_
          rintro e w8 ⟨rfl, hb8⟩
          have hX8 := (hb8.block _ (lt_of_block hX)).trans hX
          have hG8 := (hb8.block _ (Nat.lt_of_lt_of_le hgl bN.size)).trans ((bN.block _ hgl).trans HBK.out)
          have B8 := bnext (bnext BH.out bN) hb8
          have x0 := cell_of_block hX8 0
          have x1 := cell_of_block hX8 1
          have f0 := unfrozen_of_block hG8 0
          have f1 := unfrozen_of_block hG8 1
          have r0 := cell_of_block hG8 0
          have r1 := cell_of_block hG8 1
          have HG8 := hide hG8
          have HB8 := hide B8
          have u0 := unfrozen_of_block hX8 0
          have u1 := unfrozen_of_block hX8 1
          clear hX bN hwn hH SN hb8 hX8 hG8 B8 g0 g1 c0 c1 il
          go_wp2
          go_roundw
          case rel => exact ⟨k + 1, by omega, by go_num, by
            rw [HST.out, stpT_shut (q := 0) (by rw [if_neg HS.out]) (by rw [HP.out, Int.natCast_add, Int.natCast_add]; simp only [Int.natCast_zero, Int.add_zero]; exact HOP.out), HP.out]
            simp only [Int.natCast_add, Nat.add_zero]
            exact block_setCell (i := 1) (block_setCell (i := 0) ((Below.heap_setCell _ _ _ _ hGH).trans HG8.out) _) _,
            ((HB8.out.setCell (p := ⟨H, 1, none⟩) hge _).setCell (p := ⟨wp.heap.size, 0, none⟩) (Nat.le_refl _) _).setCell (p := ⟨wp.heap.size, 1, none⟩) (Nat.le_refl _) _⟩
          case measure => simp [intOf]; omega
    · obtain rfl : k = ls.length := by omega
      have g1 := cell_of_block hblk 1
      have hS := bnext S0.2.2.2 BR
      go_wp2
      go_ret
      exact ⟨rfl, hS⟩

theorem order_was (m : Nat) (a q : Option Addr) (cap capq len : Nat) (ls : List Int) (w : World) (r : Bool) (hq : Ints w q ls) (h1 : 1 ≤ m) (h4 : m ≤ 4) (ho : ls.length ≤ 1048576) (hr : ordB (m : Int) ls = r) :
    Calls Try.prog 76 #[.agg #[.int .i64 m, .slice a len cap], .slice q ls.length capq] w fun e w' => e = .returned (.bool r) ∧ Below w.heap.size w w' := by
  subst hr
  exact validOrder_any m a q cap capq len ls w hq h1 h4 ho

set_option maxHeartbeats 4000000 in
theorem specTurnRule_any (n : Int) (a l q : Option Addr) (cap capl capq : Nat) (zs vs ls : List Int) (w : World) (hi : Ints w a zs) (hj : Ints w l vs) (hq : Ints w q ls) (hn : zs.length ≤ 1048576) (hm : vs.length ≤ 1048576) (ho : ls.length ≤ 1048576) :
    Calls Try.prog 38 #[.agg #[.int .i64 n, .slice a zs.length cap], .slice l vs.length capl, .slice q ls.length capq] w fun e w' => e = .returned (.int .i64 (turnV n zs vs ls)) ∧ Below w.heap.size w w' := by
  have S0 := SV.new w n a zs cap l vs 28 hi hj
  have q0 := hq.below (bel1 w (.cells #[.int .i64 n, .slice a zs.length cap] 28))
  clear hi hj hq
  by_cases hv : vsB n zs = false
  · have HN := hide (turnV_no1 (ls := ls) (vvB_no (vs := vs) hv))
    go_enter Try.func38, Try.ntmps38
    go_wp2_with fail
    refine (validSpace_any _ _ _ _ _ S0.2.1 hn).mono ?_
    rintro e w1 ⟨rfl, hb⟩
    go_wp2
    go_ret
    exact ⟨ret_int HN.out.symm, (S0.below hb).2.2.2⟩
  · have hv : vsB n zs = true := by simpa using hv
    have hV := hide (valid_of hv)
    have HVV := hide (vvB_yes (vs := vs) hv)
    by_cases hvo : votesB zs vs = false
    · have HN := hide (turnV_no1 (ls := ls) (HVV.out.trans hvo))
      go_enter Try.func38, Try.ntmps38
      go_wp2_with fail
      refine (validSpace_any _ _ _ _ _ S0.2.1 hn).mono ?_
      rintro e w1 ⟨rfl, hb⟩
      have S1 := S0.below hb
      obtain ⟨⟨_, c0, c1⟩, _⟩ := S1.pair
      go_wp2_with fail
      refine (validVotes_any _ _ _ _ _ _ _ _ S1.2.1 S1.2.2.1 hn hm).mono ?_
      rintro e w2 ⟨rfl, hb2⟩
      go_wp2
      go_ret
      exact ⟨ret_int HN.out.symm, (S1.below hb2).2.2.2⟩
    · have hvo : votesB zs vs = true := by simpa using hvo
      have hvv := HVV.out.trans hvo
      have HVO := hide (votes_of hvo)
      have HR := hide (votes_range hV.out HVO.out)
      have HZ := hide (valid_range hV.out)
      have h5 : vs.length ≤ 5 := by have := HVO.out.2; omega
      obtain ⟨m, rfl⟩ := Int.eq_ofNat_of_zero_le (show 0 ≤ n from by have := hV.out.1; omega)
      have h4 : m ≤ 4 := by have := hV.out.1; omega
      have h1 : 1 ≤ m := by have := hV.out.1; omega
      by_cases hod : ordB (m : Int) ls = false
      · have HN := hide (turnV_no2 (zs := zs) (vs := vs) hod)
        have HO := hide hod
        clear hod hvv
        go_enter Try.func38, Try.ntmps38
        go_wp2_with fail
        refine (validSpace_any _ _ _ _ _ S0.2.1 hn).mono ?_
        rintro e w1 ⟨rfl, hb⟩
        have S1 := S0.below hb
        have q1 := q0.below hb
        obtain ⟨⟨_, c0, c1⟩, _⟩ := S1.pair
        go_wp2_with fail
        refine (validVotes_any _ _ _ _ _ _ _ _ S1.2.1 S1.2.2.1 hn hm).mono ?_
        rintro e w2 ⟨rfl, hb2⟩
        have S2 := S1.below hb2
        have q2 := q1.below hb2
        clear S0 S1 hb hb2 c0 c1
        obtain ⟨⟨_, c0, c1⟩, _⟩ := S2.pair
        go_wp2_with fail
        refine (order_was _ _ _ _ _ _ _ _ false q2 h1 h4 ho HO.out).mono ?_
        rintro e w3 ⟨rfl, hb3⟩
        go_wp2
        go_ret
        exact ⟨ret_int HN.out.symm, (S2.below hb3).2.2.2⟩
      · have hod : ordB (m : Int) ls = true := by simpa using hod
        have HN := hide (turnV_yes hvv hod)
        have HO := hide hod
        have HOK := hide (ord_of hod)
        clear hod hvv
        go_enter Try.func38, Try.ntmps38
        go_wp2_with fail
        refine (validSpace_any _ _ _ _ _ S0.2.1 hn).mono ?_
        rintro e w1 ⟨rfl, hb⟩
        have S1 := S0.below hb
        have q1 := q0.below hb
        obtain ⟨⟨_, c0, c1⟩, _⟩ := S1.pair
        go_wp2_with fail
        refine (validVotes_any _ _ _ _ _ _ _ _ S1.2.1 S1.2.2.1 hn hm).mono ?_
        rintro e w2 ⟨rfl, hb2⟩
        have S2 := S1.below hb2
        have q2 := q1.below hb2
        clear S0 S1 hb hb2 c0 c1
        obtain ⟨⟨_, c0, c1⟩, _⟩ := S2.pair
        go_wp2_with fail
        refine (order_was _ _ _ _ _ _ _ _ true q2 h1 h4 ho HO.out).mono ?_
        rintro e w3 ⟨rfl, hb3⟩
        have S3 := S2.below hb3
        have q3 := q2.below hb3
        clear S2 hb3 c0 c1
        obtain ⟨⟨_, c0, c1⟩, _⟩ := S3.pair
        go_wp2_with fail
        refine (inTurn_any _ _ _ _ _ _ _ _ _ _ _ S3.2.1 S3.2.2.1 q3 hn h5 h1 h4 HZ.out HR.out HOK.out).mono ?_
        rintro e w4 ⟨rfl, hb4⟩
        go_wp2
        go_ret
        exact ⟨ret_int HN.out.symm, (S3.below hb4).2.2.2⟩
end Go.Proofs.Ytccemllgglfgkaa
