/- The name with the least share of the price, in the program. -/
import Derived.Test.YthkikjidkehheaaBuyC
import Derived.Test.YthkikjidkehheaaBuyS
namespace Go.Proofs.Ythkikjidkehheaa
open Go.RowKit Go.Joins

theorem appr_tops (bs : List Int) (ls : List Nat) (d x : Nat) : ∀ k, topsQ ((pqK bs ls d k).filter (apQ x)) = mineK bs ls x k
  | 0 => rfl
  | k + 1 => by
    have h := appr_tops bs ls d x k
    unfold topsQ at h ⊢
    rw [pqK_succ, List.filter_append, List.map_append, h]
    by_cases e : bitN (bs.getD k 0).toNat x = 1
    · rw [apq_yes e, mineK_yes e]; simp
    · rw [apq_no e, mineK_no e]; simp
theorem ov_forms {w : World} {B : Nat} {v : Value} {fs : List Pur} (h : OwnsQ w B v fs) (hB : B ≤ w.heap.size) : ∃ g cap, ((v = .slice none 0 0 ∧ fs.length = 0 ∧ g = w.heap.size) ∨ v = .slice (some ⟨g, 0, none⟩) fs.length cap) ∧ B ≤ g := by
  have h' : w.ownsRow B 47 3 v fs.length (qflat fs) := h
  rcases ownsRow_forms h' with ⟨rfl, h0⟩ | ⟨g, cap, rfl⟩
  · exact ⟨w.heap.size, 0, .inl ⟨rfl, h0, rfl⟩, hB⟩
  · exact ⟨g, cap, .inr rfl, (h'.lt g rfl).1⟩
theorem shareC_was (base g cap n d cost gp : Nat) (v : Value) (ps : List Pur) (o : Option (Nat × Nat)) (w : World) (hv : (v = .slice none 0 0 ∧ n = 0 ∧ g = w.heap.size) ∨ v = .slice (some ⟨g, 0, none⟩) n cap) (h : OwnsQ w base v ps) (hn : ps.length = n) (h6 : n ≤ 6) (hd : d ≤ 7776) (hr : ∀ p ∈ ps, (0 ≤ p.1 ∧ p.1 ≤ 38880) ∧ p.2.1 = d) (hc : cost ≤ 100000)
    (hp : w.cell? ⟨gp, 0, none⟩ = some (.int .i64 cost)) (ho : priceN (topsQ ps) cost = o) :
    Calls Try.prog 34 #[v, .pointer (some ⟨gp, 0, none⟩)] w fun e w' => ShE d o e ∧ Below g w w' := by
  subst hn
  exact shareC base g cap _ d cost gp v ps o w hv h rfl h6 hd hr hc hp ho
set_option maxHeartbeats 1000000 in
set_option maxRecDepth 100000 in
theorem leastShareB_any (m : Nat) (a b : Option Addr) (ca cb : Nat) (bs : List Int) (ls ns : List Nat) (den cost gp : Nat) (w : World) (hm : m ≤ 5) (h6 : bs.length ≤ 6) (hr : ∀ b ∈ bs, 0 ≤ b ∧ b ≤ 31) (hd : den ≤ 7776) (hd1 : 1 ≤ den) (hb : ∀ i, ls.getD i 0 ≤ 38880)
    (hi : Ints w a (nz ns)) (hn : ns.length ≤ 5) (hq : QInts w b (pq bs ls den)) (hgp : w.cell? ⟨gp, 0, none⟩ = some (.int .i64 cost)) (hcost : cost = bs.length * den) :
    Calls Try.prog 28 #[.int .i64 m, .slice a ns.length ca, .slice b bs.length cb, .func (.func 34) #[] #[.pointer (some ⟨gp, 0, none⟩)]] w fun e w' => LsE den (scanB (shB bs ls den) ns m) e ∧ Below w.heap.size w w' := by
  have HR := hide hr
  have HLB := hide hb
  have HM := hide (fun (p : Pur) => @pq_mem bs ls den p hr hb)
  have HPL := hide (pq_len bs ls den)
  have hgpl := World.block_lt_of_cell? w ⟨gp, 0, none⟩ hgp
  have HGP := hide hgp
  have hcs : cost ≤ 46656 := by rw [hcost]; exact Nat.mul_le_mul h6 hd
  have HCOST := hide hcost
  obtain ⟨PQ, hPQ⟩ : ∃ PQ, PQ = pq bs ls den := ⟨_, rfl⟩
  have HPQ := hide hPQ
  rw [← hPQ] at hq HPL
  obtain ⟨Z, hZ⟩ : ∃ Z, Z = nz ns := ⟨_, rfl⟩
  have HZ := hide hZ
  rw [← hZ] at hi
  have hzl : Z.length = ns.length := by rw [hZ, nz_len]
  have B2 := bel2 w (.cells #[.int .i64 0, .int .i64 0] 42) (.cells #[.int .i64 0, .int .i64 0] 42)
  have k9 := ((bel1 (w.alloc (.cells #[.int .i64 0, .int .i64 0] 42)) (.cells #[.int .i64 0, .int .i64 0] 42)).block w.heap.size (by simp)).trans (heap_alloc_new w (.cells #[.int .i64 0, .int .i64 0] 42))
  have k12 := heap_alloc_new (w.alloc (.cells #[.int .i64 0, .int .i64 0] 42)) (.cells #[.int .i64 0, .int .i64 0] 42)
  rw [World.size_alloc] at k12
  clear hr hb hPQ hZ hgp hcost
  rw [← hzl, ← HPL.out]
  have hz5 : Z.length ≤ 5 := by omega
  clear hzl hn
  obtain ⟨SH, hSH⟩ : ∃ SH, SH = shB bs ls den := ⟨_, rfl⟩
  have HSH := hide hSH
  rw [← hSH]
  clear hSH
  go_enter Try.func28, Try.ntmps28
  go_wp2_with fail
  obtain ⟨W, hW⟩ : ∃ W : World, W = (w.alloc (.cells #[.int .i64 0, .int .i64 0] 42)).alloc (.cells #[.int .i64 0, .int .i64 0] 42) := ⟨_, rfl⟩
  rw [← hW] at B2 k9 k12 ⊢
  clear hW
  go_loopw [11, 13, 19] (fun f11 f13 i wr => ∃ x : Nat, ∃ F T B : Int, ∃ found : Bool, x ≤ m ∧ i = .int .i64 x ∧ f11 = .int .i64 F ∧ f13 = .bool found ∧ Hid (LsI den (scanB SH ns x) F found T B) ∧ wr.heap[w.heap.size]? = some (.cells #[.int .i64 0, .int .i64 0] 42 (0, 0)) ∧ wr.heap[w.heap.size + 1]? = some (.cells #[.int .i64 T, .int .i64 B] 42 (0, 0)) ∧ Below w.heap.size w wr) (fun _ _ i _ => m - (intOf i).toNat)
  case atStart => exact ⟨0, 0, 0, 0, false, Nat.zero_le _, rfl, rfl, rfl, ⟨rfl, .inl ⟨rfl, rfl, rfl, rfl, rfl⟩⟩, k9, k12, B2⟩
  case round =>
    clear k9 k12 B2
    obtain ⟨x, F, T, B, found, hx, rfl, rfl, rfl, HI, k9, k12, BR⟩ := hrel
    have HYE : Hid (∀ a b : Nat, takesB SH ns x (scanB SH ns x) = true → SH x = some (a, b) → scanB SH ns (x + 1) = ((x : Int), a, b)) := fun a b => scanB_yes
    have HNO := hide (@scanB_no SH ns x)
    have hzi := hi.below BR
    by_cases hxm : x < m
    · by_cases hin : x ∈ ns
      · have HFN := hide (HNO.out (takesB_in hin))
        have hin' : Hid (decide (((x : Nat) : Int) ∈ Z) = true) := by rw [HZ.out]; exact decide_eq_true (nz_mem.2 hin)
        clear hin
        go_wp2_with (go_at_call 53; refine (contains_was _ _ _ _ _ _ hzi (by omega) hin'.out).mono ?_; rintro e w1 ⟨rfl, hb1⟩)
        have k9' := (hb1.block _ (lt_of_block k9)).trans k9
        have k12' := (hb1.block _ (lt_of_block k12)).trans k12
        go_wp2
        go_roundw
        case rel => exact ⟨x + 1, F, T, B, found, by omega, by go_num, rfl, rfl, HI.out.keep HFN.out, k9', k12', bnext BR hb1⟩
        case measure => simp only [intOf]; omega
      · have hin' : Hid (decide (((x : Nat) : Int) ∈ Z) = false) := by rw [HZ.out]; exact decide_eq_false (fun h => hin (nz_mem.1 h))
        have HIN := hide hin
        clear hin
        obtain ⟨fs, hfs⟩ : ∃ fs, PQ.filter (apQ x) = fs := ⟨_, rfl⟩
        have hfl : fs.length = supN bs x := by rw [← hfs, HPQ.out]; exact appr_len bs ls den x bs.length
        have hft : topsQ fs = mineK bs ls x bs.length := by rw [← hfs, HPQ.out]; exact appr_tops bs ls den x bs.length
        have HFM : Hid (∀ p ∈ fs, (0 ≤ p.1 ∧ p.1 ≤ 38880) ∧ p.2.1 = den) := fun p hp => (HM.out p (by rw [← HPQ.out]; rw [← hfs] at hp; exact (List.mem_filter.1 hp).1)).1
        have HFS := hide hfs
        have hsl := supN_le bs x
        have hsl6 : fs.length ≤ 6 := by omega
        obtain ⟨o, ho⟩ : ∃ o, SH x = o := ⟨_, rfl⟩
        have HO := hide ho
        have HPN : Hid (priceN (topsQ fs) cost = o) := by
          unfold Hid
          rw [hft, HCOST.out, ← ho, HSH.out]
          rfl
        have HIN2 : Hid (∀ a b, o = some (a, b) → a ≤ cost ∧ 1 ≤ b ∧ b ≤ 6) := fun a b e => by
          rw [e, HSH.out] at ho
          have h3 := shB_in ho
          rw [HCOST.out]
          omega
        clear hfs hfl hft ho hsl
        go_wp2_with (first
          | (go_at_call 53; refine (contains_was _ _ _ _ _ _ hzi (by omega) hin'.out).mono ?_; rintro e w1 ⟨rfl, hb1⟩))
        have BR1 := bnext BR hb1
        have hs1 : w.heap.size + 1 < w1.heap.size := lt_of_block ((hb1.block _ (lt_of_block k12)).trans k12)
        refine (approving_was x _ _ PQ fs _ (hq.below BR1) (by rw [HPL.out]; exact h6) (fun p hp => (HM.out p (by rw [← HPQ.out]; exact hp)).2) (by omega) HFS.out).mono ?_
        rintro e w2 ⟨⟨v, rfl, ov⟩, hb2⟩
        have BR2 := bnext BR1 hb2
        have k9b := (hb2.block _ (lt_of_block ((hb1.block _ (lt_of_block k9)).trans k9))).trans ((hb1.block _ (lt_of_block k9)).trans k9)
        have k12b := (hb2.block _ (lt_of_block ((hb1.block _ (lt_of_block k12)).trans k12))).trans ((hb1.block _ (lt_of_block k12)).trans k12)
        obtain ⟨gv, cv, hv, hgv⟩ := ov_forms ov hb2.size
        have hgp2 := (BR2.cell (p := ⟨gp, 0, none⟩) hgpl).trans HGP.out
        obtain ⟨sp, hsp⟩ : ∃ sp, fs.length = sp := ⟨_, rfl⟩
        have HSP := hide hsp
        rw [hsp] at hv hsl6
        have hwg : w.heap.size ≤ gv := by omega
        clear hsp k9 k12 hb1 hb2 BR BR1 hzi
        go_wp2_with fail
        refine (shareC_was w1.heap.size gv cv sp den cost gp v fs o _ hv ov HSP.out hsl6 hd HFM.out (by omega) hgp2 HPN.out).mono ?_
        rintro e w3 ⟨hE, hb3⟩
        have k9c := (hb3.block _ (by omega)).trans k9b
        have k12c := (hb3.block _ (by omega)).trans k12b
        have BR3 := BR2.trans (hb3.mono hwg)
        clear hv hgp2 ov k9b k12b BR2 hb3
        rcases hE with ⟨L, sp2, rfl, rfl⟩ | ⟨rfl, rfl⟩
        · obtain ⟨hL0, hb0, hb6⟩ := HIN2.out L sp2 rfl
          have hL2 : L ≤ 46656 := by omega
          obtain ⟨D, hD⟩ : ∃ D, sp2 * den = D := ⟨_, rfl⟩
          have hD2 : D ≤ 46656 := by rw [← hD]; exact Nat.mul_le_mul hb6 hd
          have HD := hide hD
          rw [hD]
          have bb := bel1 w3 (.cells #[.int .i64 L, .int .i64 D] 42)
          have BR4 := bnext BR3 bb
          have k9d := (bb.block _ (lt_of_block k9c)).trans k9c
          have k12d := (bb.block _ (lt_of_block k12c)).trans k12c
          have k15d := heap_alloc_new w3 (.cells #[.int .i64 L, .int .i64 D] 42)
          have hg : w.heap.size + 2 ≤ w3.heap.size := by have := lt_of_block k12c; omega
          clear k9c k12c BR3 bb hD
          go_upto_region 7 with fail
          obtain ⟨W4, hW4⟩ : ∃ W4 : World, W4 = w3.alloc (.cells #[.int .i64 L, .int .i64 D] 42) := ⟨_, rfl⟩
          obtain ⟨g15, hg15⟩ : ∃ g, g = w3.heap.size := ⟨_, rfl⟩
          rw [← hW4, ← hg15] at k15d
          rw [← hW4] at BR4 k9d k12d
          rw [← hg15] at hg
          rw [← hW4, ← hg15]
          clear hW4 hg15
          have u0 := cell_of_block k15d 0
          have u1 := cell_of_block k15d 1
          have h0 := cell_of_block k12d 0
          have h1 := cell_of_block k12d 1
          have f0 := unfrozen_of_block k12d 0
          have f1 := unfrozen_of_block k12d 1
          have HK9 := hide k9d
          have HK12 := hide k12d
          have hne1 : ¬ g15 = w.heap.size + 1 := by omega
          have hne2 : ¬ w.heap.size + 1 = g15 := by omega
          have hne3 : ¬ w.heap.size = w.heap.size + 1 := by omega
          obtain ⟨hT, hcase⟩ := HI.out
          have hsm := scanB_small (bs := bs) (ps := ls) (ns := ns) h6 hd x
          rw [← HSH.out] at hsm
          obtain ⟨⟨ra, rt, rb⟩, hr⟩ : ∃ r, scanB SH ns x = r := ⟨_, rfl⟩
          rw [hr] at hsm hT hcase
          simp only at hsm hT
          have HRR := hide hr
          rcases hcase with ⟨c1, c2, c3, c4, c5⟩ | ⟨c1, c2, c3, c5⟩
          · simp only at c1
            subst c3 c4 c5 hT
            have HFY := hide (HYE.out _ _ (by rw [hr]; exact takesB_new HIN.out HO.out (by rw [c1]; exact Int.negSucc_lt_zero 0)) HO.out)
            clear hr c1 c2 hsm
            go_wp2
            go_region
            all_goals
              go_wp2
              go_roundw
              case rel => exact ⟨x + 1, (x : Int), (L : Int), (D : Int), true, by omega, by go_num, rfl, rfl, by
                rw [HFY.out]
                exact ⟨rfl, .inr ⟨Int.natCast_nonneg _, rfl, rfl, by rw [HD.out]⟩⟩, (heap_setCell_other _ _ _ _ hne3).trans ((heap_setCell_other _ _ _ _ hne3).trans HK9.out), block_setCell (i := 1) (block_setCell (i := 0) HK12.out _) _, bdrew' ((BR4.setCell (p := ⟨w.heap.size + 1, 0, none⟩) (Nat.le_succ _) _).setCell (p := ⟨w.heap.size + 1, 1, none⟩) (Nat.le_succ _) _)⟩
              case measure => simp only [intOf]; omega
          · simp only at c1 c3 c5
            subst c2 c3 c5 hT
            obtain ⟨Bn, hBn⟩ : ∃ Bn, rb * den = Bn := ⟨_, rfl⟩
            have hB2 : Bn ≤ 46656 := by rw [← hBn]; exact Nat.mul_le_mul hsm.2.2.2.1 hd
            have HFL2 := hide (show takesB SH ns x (F, rt, rb) = decide (L * rb < rt * sp2) from takesB_less HIN.out HO.out (by simp only; omega))
            have HLS := hide (less_same (L := L) (rb := rb) (rt := rt) (sp := sp2) hd1)
            rw [hBn, HD.out] at HLS
            have p1 := hide (prod_in hL2 hB2 (by decide))
            have p2 := hide (prod_in hsm.2.2.1 hD2 (by decide))
            rw [hBn] at h0 h1 HK12 k12d
            have HBN := hide hBn
            have HRA := hide c1
            have hsm3 := hsm.2.2.1
            clear hBn hsm c1
            by_cases hless : L * rb < rt * sp2
            · have HDC : Hid (decide ((L : Int) * (Bn : Int) < (rt : Int) * (D : Int)) = true) := decide_eq_true (HLS.out.2 hless)
              have HFY := hide (HYE.out _ _ (by rw [HRR.out, HFL2.out]; exact decide_eq_true hless) HO.out)
              clear hless hr
              go_wp2_with (go_at_call 55; refine (isLess_was _ _ _ _ _ _ p1.out p2.out HDC.out).mono ?_; rintro e w5 ⟨rfl, hb5⟩)
              have h0b := (hb5.cell (p := ⟨w.heap.size + 1, 0, none⟩) (lt_of_block HK12.out)).trans h0
              have h1b := (hb5.cell (p := ⟨w.heap.size + 1, 1, none⟩) (lt_of_block HK12.out)).trans h1
              have f0b := (hb5.frozen (p := ⟨w.heap.size + 1, 0, none⟩) (lt_of_block HK12.out)).trans f0
              have f1b := (hb5.frozen (p := ⟨w.heap.size + 1, 1, none⟩) (lt_of_block HK12.out)).trans f1
              have u0b := (hb5.cell (p := ⟨g15, 0, none⟩) (lt_of_block k15d)).trans u0
              have u1b := (hb5.cell (p := ⟨g15, 1, none⟩) (lt_of_block k15d)).trans u1
              have HK9b := hide ((hb5.block _ (lt_of_block HK9.out)).trans HK9.out)
              have HK12b := hide ((hb5.block _ (lt_of_block HK12.out)).trans HK12.out)
              have BR5 := bnext BR4 hb5
              clear h0 h1 f0 f1 u0 u1 k12d k15d hb5 k9d
              go_wp2
              go_region
              all_goals
                go_wp2
                go_roundw
                case rel => exact ⟨x + 1, (x : Int), (L : Int), (D : Int), true, by omega, by go_num, rfl, rfl, by
                  rw [HFY.out]
                  exact ⟨rfl, .inr ⟨Int.natCast_nonneg _, rfl, rfl, by rw [HD.out]⟩⟩, (heap_setCell_other _ _ _ _ hne3).trans ((heap_setCell_other _ _ _ _ hne3).trans HK9b.out), block_setCell (i := 1) (block_setCell (i := 0) HK12b.out _) _, bdrew' ((BR5.setCell (p := ⟨w.heap.size + 1, 0, none⟩) (Nat.le_succ _) _).setCell (p := ⟨w.heap.size + 1, 1, none⟩) (Nat.le_succ _) _)⟩
                case measure => simp only [intOf]; omega
            · have HDC : Hid (decide ((L : Int) * (Bn : Int) < (rt : Int) * (D : Int)) = false) := decide_eq_false (fun h => hless (HLS.out.1 h))
              have HFN := hide (HNO.out (by rw [HRR.out, HFL2.out]; exact decide_eq_false hless))
              clear hless hr
              go_wp2_with (go_at_call 55; refine (isLess_was _ _ _ _ _ _ p1.out p2.out HDC.out).mono ?_; rintro e w5 ⟨rfl, hb5⟩)
              go_roundw
              case rel => exact ⟨x + 1, F, (rt : Int), (Bn : Int), true, by omega, by go_num, rfl, rfl, by
                rw [HFN.out, HRR.out]
                exact ⟨rfl, .inr ⟨HRA.out, rfl, rfl, by rw [HBN.out]⟩⟩, (hb5.block _ (lt_of_block HK9.out)).trans HK9.out, (hb5.block _ (lt_of_block HK12.out)).trans HK12.out, bnext BR4 hb5⟩
              case measure => simp only [intOf]; omega
        · have HFN := hide (HNO.out (takesB_none HO.out))
          have bb := bel1 w3 (.cells #[.int .i64 0, .int .i64 0] 42)
          have BR4 := bnext BR3 bb
          have k9d := (bb.block _ (lt_of_block k9c)).trans k9c
          have k12d := (bb.block _ (lt_of_block k12c)).trans k12c
          have HR4 := hide (And.intro BR4 (And.intro k9d k12d))
          clear k9c k12c BR3 bb BR4 k9d k12d
          go_wp2
          go_roundw
          case rel => exact ⟨x + 1, F, T, B, found, by omega, by go_num, rfl, rfl, HI.out.keep HFN.out, HR4.out.2.1, HR4.out.2.2, HR4.out.1⟩
          case measure => simp only [intOf]; omega
    · obtain rfl : x = m := by omega
      have f0 := unfrozen_of_block k9 0
      have f1 := unfrozen_of_block k9 1
      have g0 := cell_of_block k9 0
      have g1 := cell_of_block k9 1
      have h0 := cell_of_block k12 0
      have h1 := cell_of_block k12 1
      have hne : ¬ w.heap.size + 1 = w.heap.size := by omega
      have HK := hide k9
      go_wp2
      go_region
      all_goals
        go_wp2
        refine bodyPost_ret (ret_least rfl _ _ _ _ _ rfl (block_setCell (i := 1) (block_setCell (i := 0) HK.out _) _)) rfl ?_
        exact ⟨⟨F, found, T, B, HI.out, rfl⟩, bdrew' ((BR.setCell (p := ⟨w.heap.size, 0, none⟩) (Nat.le_refl _) _).setCell (p := ⟨w.heap.size, 1, none⟩) (Nat.le_refl _) _)⟩
end Go.Proofs.Ythkikjidkehheaa
