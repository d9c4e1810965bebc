/- The law of QuotaOf answers true at every code: its walk. -/
import Derived.Test.YtccgjnibafbfjaaDrawQ
import Derived.Test.YtccgjnibafbfjaaLawH
import Derived.Test.YtccgjnibafbfjaaQuota
namespace Go.Proofs.Ytccgjnibafbfjaa
open Go.RowKit Go.Joins

theorem getD_replicate' (n : Nat) (a : Int) (j : Nat) (h : j < n) : (List.replicate n a).getD j 0 = a := by
  rw [getD_lt (by simpa using h), List.getElem_replicate]
theorem quotaK_maj (vs : List Int) (N : Nat) : ∀ k, k ≤ N → quotaK vs (List.replicate N ((vs.length / 2 + 1 : Nat) : Int)) k = wantB vs k
  | 0, _ => rfl
  | k + 1, h => by
    rw [quotaK, wantB, quotaK_maj vs N k (by omega), getD_replicate' N _ k (by omega)]
    congr 1
    by_cases hc : vs.length < 2 * supN vs k
    · rw [if_pos hc, if_pos (by omega)]
    · rw [if_neg hc, if_neg (by omega)]
theorem and_digit_fin : ∀ k : Fin 4, ∀ a : Fin 16, ∀ b : Fin 16, a.val < 2 ^ k.val → b.val < 2 ^ k.val → a.val &&& b.val = a.val → a.val &&& (b.val + 2 ^ k.val) = a.val ∧ (a.val + 2 ^ k.val) &&& (b.val + 2 ^ k.val) = a.val + 2 ^ k.val := by decide +kernel
theorem quotaK_and {vs ms qs : List Int} {N : Nat} (h4 : N ≤ 4) (h : ∀ j, j < N → qs.getD j 0 ≤ ms.getD j 0) : ∀ k, k ≤ N → quotaK vs ms k &&& quotaK vs qs k = quotaK vs ms k
  | 0, _ => by simp [quotaK]
  | k + 1, hk => by
    have ih := quotaK_and (vs := vs) h4 h k (by omega)
    have l1 := quotaK_lt vs ms k
    have l2 := quotaK_lt vs qs k
    have h16 : 2 ^ k ≤ 2 ^ 4 := Nat.pow_le_pow_right (by omega) (by omega)
    have hf := and_digit_fin ⟨k, by omega⟩ ⟨quotaK vs ms k, by omega⟩ ⟨quotaK vs qs k, by omega⟩ l1 l2 ih
    dsimp only at hf
    have hq := h k (by omega)
    by_cases h1 : ms.getD k 0 ≤ (supN vs k : Int)
    · rw [quotaK_yes h1, quotaK_yes (show qs.getD k 0 ≤ (supN vs k : Int) by omega)]
      exact hf.2
    · rw [quotaK_no h1]
      by_cases h2 : qs.getD k 0 ≤ (supN vs k : Int)
      · rw [quotaK_yes h2]; exact hf.1
      · rw [quotaK_no h2]; exact ih
theorem quotas_rep {n : Int} {L N : Nat} {a : Int} (hN : (N : Int) = n) (h : 1 ≤ a ∧ a ≤ L) : quotasB n L (List.replicate N a) = true :=
  quotasB_true ⟨fun j hj => by rw [List.length_replicate] at hj; rw [getD_replicate' N a j hj]; exact qOut_no h, by rw [List.length_replicate]; exact hN⟩
theorem quota_facts {n : Int} {zs vs qs : List Int} (h : QuotaOk n zs vs qs) :
    qs.length ≤ 4 ∧ vs.length ≤ 5 ∧ quotaV n zs vs (List.replicate qs.length ((vs.length / 2 + 1 : Nat) : Int)) = majV n zs vs ∧
      ∃ Y Q : Nat, Y < 16 ∧ Q < 16 ∧ quotaV n zs vs (List.replicate qs.length (vs.length : Int)) = (Y : Nat) ∧ quotaV n zs vs qs = (Q : Nat) ∧ Y &&& Q = Y := by
  obtain ⟨hV, hO⟩ := vv_of h.1
  have h14 := hV.1
  have hq := quotas_of h.2
  have hl := hq.2
  have hL := hO.2
  have e : qs.length = n.toNat := by omega
  have h16 : 2 ^ n.toNat ≤ 2 ^ 4 := Nat.pow_le_pow_right (by omega) (by omega)
  have ok1 : QuotaOk n zs vs (List.replicate qs.length ((vs.length / 2 + 1 : Nat) : Int)) := ⟨h.1, quotas_rep hl (by omega)⟩
  have ok2 : QuotaOk n zs vs (List.replicate qs.length (vs.length : Int)) := ⟨h.1, quotas_rep hl (by omega)⟩
  have l1 := quotaK_lt vs (List.replicate qs.length (vs.length : Int)) n.toNat
  have l2 := quotaK_lt vs qs n.toNat
  refine ⟨by omega, by omega, ?_, _, _, ?_, ?_, quotaV_yes ok2, quotaV_yes h, ?_⟩
  · rw [quotaV_yes ok1, majV_yes h.1, quotaK_maj vs qs.length n.toNat (by omega)]
  · omega
  · omega
  · refine quotaK_and (N := n.toNat) (by omega) (fun j hj => ?_) n.toNat (Nat.le_refl _)
    have := hq.1 j (by omega)
    rw [getD_replicate' _ _ j (by omega)]
    simp only [qOut, decide_eq_false_iff_not] at this
    omega
theorem quota_is (n : Int) (a l q : Option Addr) (cap capl capq : Nat) (zs vs qs : List Int) (w : World) (r : Int) (hi : Ints w a zs) (hj : Ints w l vs) (hq : Ints w q qs) (hn : zs.length ≤ 1048576) (hm : vs.length ≤ 1048576) (ho : qs.length ≤ 1048576) (hr : quotaV n zs vs qs = r) :
    Calls Try.prog 16 #[.agg #[.int .i64 n, .slice a zs.length cap], .slice l vs.length capl, .slice q qs.length capq] w fun e w' => e = .returned (.int .i64 r) ∧ Below w.heap.size w w' := by
  subst hr
  exact implQuotaOf_any n a l q cap capl capq zs vs qs w hi hj hq hn hm ho
theorem maj_is (n : Int) (a l : Option Addr) (cap capl : Nat) (zs vs : List Int) (w : World) (r : Int) (hi : Ints w a zs) (hj : Ints w l vs) (hn : zs.length ≤ 1048576) (hm : vs.length ≤ 1048576) (hr : majV n zs vs = r) :
    Calls Try.prog 18 #[.agg #[.int .i64 n, .slice a zs.length cap], .slice l vs.length capl] w fun e w' => e = .returned (.int .i64 r) ∧ Below w.heap.size w w' := by
  subst hr
  exact implMajorityOf_any n a l cap capl zs vs w hi hj hn hm
/-- two lists under way beside what a world holds -/
def TI (w0 : World) (xs ys : List Int) (v u : Value) (wq : World) : Prop :=
  Owns wq w0.heap.size v xs ∧ Owns wq w0.heap.size u ys ∧ (∀ k, v.ownBlock = some k → u.ownBlock ≠ some k) ∧ Below w0.heap.size w0 wq
theorem TI.push1 {w0 wq w5 : World} {xs ys : List Int} {v u : Value} {z : Int} {g cap : Nat} {o : Obj} {k : Nat} (h : TI w0 xs ys v u wq) (hk0 : xs.length = k) (hg : (wq.alloc o).grownBy w5 v.ownBlock)
    (ho : w5.ownsRow w0.heap.size 3 1 (.slice (some ⟨g, 0, none⟩) (k + 1) cap) (k + 1) (xs.map (Value.int .i64) ++ [.int .i64 z])) (hat : v.ownBlock = some g ∨ g = wq.heap.size + 1) :
    TI w0 (xs ++ [z]) ys (.slice (some ⟨g, 0, none⟩) (k + 1) cap) u w5 := by
  subst hk0
  obtain ⟨h1, h2, h3, h4⟩ := h
  have g1 := own_ge h1
  have g2 := own_lt h2
  refine ⟨Owns.push ho, own_kept (h2.below (bel1 wq o)) hg h3, fun k hk e => ?_, ?_⟩
  · have hk' : g = k := by simpa [Value.ownBlock] using hk
    subst hk'
    rcases hat with h | h
    · exact h3 _ h e
    · have := g2 _ e
      omega
  · exact bgrown (bnext h4 (bel1 wq o)) hg (Nat.le_trans h4.size (by simp)) (fun k hk => g1 k hk)
theorem TI.push2 {w0 wq w5 : World} {xs ys : List Int} {v u : Value} {z : Int} {g cap : Nat} {o : Obj} {k : Nat} (h : TI w0 xs ys v u wq) (hk0 : ys.length = k) (hg : (wq.alloc o).grownBy w5 u.ownBlock)
    (ho : w5.ownsRow w0.heap.size 3 1 (.slice (some ⟨g, 0, none⟩) (k + 1) cap) (k + 1) (ys.map (Value.int .i64) ++ [.int .i64 z])) (hat : u.ownBlock = some g ∨ g = wq.heap.size + 1) :
    TI w0 xs (ys ++ [z]) v (.slice (some ⟨g, 0, none⟩) (k + 1) cap) w5 := by
  subst hk0
  obtain ⟨h1, h2, h3, h4⟩ := h
  have g1 := own_ge h2
  have g2 := own_lt h1
  refine ⟨own_kept (h1.below (bel1 wq o)) hg (fun k hk e => h3 k e hk), Owns.push ho, fun k hk e => ?_, ?_⟩
  · have hk' : g = k := by simpa [Value.ownBlock] using e
    subst hk'
    rcases hat with h | h
    · exact h3 _ hk h
    · have := g2 _ hk
      omega
  · exact bgrown (bnext h4 (bel1 wq o)) hg (Nat.le_trans h4.size (by simp)) (fun k hk => g1 k hk)
theorem TI.new (w : World) : TI w [] [] (.slice (some ⟨w.heap.size, 0, none⟩) 0 0) (.slice (some ⟨w.heap.size + 1, 0, none⟩) 0 0) ((w.alloc (.cells #[] 3)).alloc (.cells #[] 3)) := by
  have o1 := Owns.empty w (Nat.le_refl _)
  have o2 := Owns.empty (w.alloc (.cells #[] 3)) (base := w.heap.size) (by simp)
  simp only [World.size_alloc] at o2
  refine ⟨o1.below (bel1 _ _), o2, fun k hk e => ?_, bel2 w _ _⟩
  have e1 : w.heap.size = k := by simpa [Value.ownBlock] using hk
  have e2 : w.heap.size + 1 = k := by simpa [Value.ownBlock] using e
  omega
theorem TI.below {w0 wq w' : World} {xs ys : List Int} {v u : Value} (h : TI w0 xs ys v u wq) (hb : Below wq.heap.size wq w') : TI w0 xs ys v u w' :=
  ⟨h.1.below hb, h.2.1.below hb, h.2.2.1, bnext h.2.2.2 hb⟩
/-- the law's space and lists, and the two lists that it made -/
def TV (w0 : World) (n : Int) (a : Option Addr) (zs : List Int) (cap : Nat) (l : Option Addr) (vs : List Int) (q : Option Addr) (qs : List Int) (h : Option Addr) (hs : List Int) (k : Option Addr) (ks : List Int) (wx : World) : Prop :=
  QV w0 n a zs cap l vs q qs wx ∧ Ints wx h hs ∧ Ints wx k ks
theorem TV.below {w0 wx wy : World} {n : Int} {a l q h k : Option Addr} {zs vs qs hs ks : List Int} {cap : Nat} (t : TV w0 n a zs cap l vs q qs h hs k ks wx) (hb : Below wx.heap.size wx wy) : TV w0 n a zs cap l vs q qs h hs k ks wy :=
  ⟨t.1.below hb, t.2.1.below hb, t.2.2.below hb⟩
theorem half_int (n : Nat) : Int.tdiv (n : Int) 2 = ((n / 2 : Nat) : Int) := by
  rw [Int.tdiv_eq_ediv_of_nonneg (by omega)]; omega
set_option maxHeartbeats 8000000 in
set_option maxRecDepth 100000 in
theorem walk_FnQuotaOf (a : Option Addr) (zs : List Nat) (cap : Nat) (w : World) (hi : Byts w a zs) (hl : zs.length ≤ maxLen) (hc : zs.length ≤ cap) :
    Calls Try.prog 3 #[.slice a zs.length cap] w fun e w' => e = .returned (.bool true) ∧ Below w.heap.size w w' := by
  obtain ⟨i0, hi0, hz0, hz1, hz2⟩ := info_parts info_int
  by_cases h : 1048576 < zs.length
  · unfold maxLen at hl
    go_enter Try.func3, Try.ntmps3
    go_wp2
    go_ret
    exact ⟨rfl, Below.refl _ _⟩
  · have hl' : zs.length ≤ 1048576 := by omega
    clear h hl
    go_enter Try.func3, Try.ntmps3
    go_wp2_with fail
    refine (drawQuotaOf_any _ _ _ _ hi hl' hc).mono ?_
    rintro e w1 ⟨m, av, ss, cv, al, ls, cl, aq, qs, cq, rfl, ii, hsl, il, hll, iq, hql, hb⟩
    have S0 := QV.new w1 m av al aq ss ls qs cv 25 ii il iq
    have HB := hide hb
    have hn : ss.length ≤ 1048576 := by omega
    have hm : ls.length ≤ 1048576 := by omega
    have ho : qs.length ≤ 1048576 := by omega
    have hne : (quotaV m ss ls qs != quotaV m ss ls qs) = false := by simp
    have heq : (quotaV m ss ls qs == quotaV m ss ls qs) = true := by simp
    clear hb hi ii il iq hl' hsl
    obtain ⟨⟨_, c0, c1⟩, _⟩ := S0.1.pair
    go_wp2_with fail
    refine (implQuotaOf_any _ _ _ _ _ _ _ _ _ _ _ S0.1.2.1 S0.1.2.2.1 S0.2 hn hm ho).mono ?_
    rintro e w2 ⟨rfl, b2⟩
    have S2 := S0.below b2
    clear c0 c1 S0 b2
    obtain ⟨⟨_, c0, c1⟩, _⟩ := S2.1.pair
    go_wp2_with fail
    refine (specQuotaOf_any _ _ _ _ _ _ _ _ _ _ _ S2.1.2.1 S2.1.2.2.1 S2.2 hn hm ho).mono ?_
    rintro e w3 ⟨rfl, b3⟩
    have S3 := S2.below b3
    clear c0 c1 S2 b3
    by_cases hq : QuotaOk m ss ls qs
    · obtain ⟨hq4, hl5, hX, Y, Q, hY16, hQ16, hY, hQ, hand⟩ := quota_facts hq
      obtain ⟨X, hXX⟩ : ∃ X, X = majV m ss ls := ⟨_, rfl⟩
      rw [← hXX] at hX
      have HX := hide hX
      have HX2 := hide hXX.symm
      have HY := hide hY
      have HQ := hide hQ
      have hbits : bits .and .i64 (Y : Int) (Q : Int) = (Y : Int) := by rw [and_small Y Q hY16 hQ16, hand]
      have hQ0 : ¬ ((Q : Int) < 0) := by omega
      have hXe : (X == X) = true := by simp
      have hYe : ((Y : Int) == (Y : Int)) = true := by simp
      rw [hQ] at hne heq ⊢
      have HS := hide S3
      have HT := hide (TI.new w3)
      have hdv := half_int ls.length
      obtain ⟨hh, hhh⟩ : ∃ hh : Nat, hh = ls.length / 2 := ⟨_, rfl⟩
      rw [← hhh] at hdv
      have hX' : quotaV m ss ls (List.replicate qs.length ((hh : Int) + 1)) = X := by
        have := HX.out
        rw [← hhh] at this
        exact this
      have HX := hide hX'
      have hh5 : hh ≤ 5 := by omega
      clear S3 hX hXX hY hQ hq hX' hhh
      go_wp2_with fail
      go_loopw [7, 8, 9] (fun v u i wq => ∃ k : Nat, k ≤ qs.length ∧ i = .int .i64 k ∧ TI w3 (List.replicate k ((hh : Int) + 1)) (List.replicate k (ls.length : Int)) v u wq) (fun _ _ i _ => qs.length - (intOf i).toNat)
      case atStart => exact ⟨0, Nat.zero_le _, rfl, HT.out⟩
      case round =>
        clear HT
        obtain ⟨k, hk, rfl, ht⟩ := hrel
        by_cases hlt : k < qs.length
        · have lx : (List.replicate k ((hh : Int) + 1)).length = k := List.length_replicate
          have ly : (List.replicate k (ls.length : Int)).length = k := List.length_replicate
          have hsx := hide (show List.replicate (k + 1) ((hh : Int) + 1) = List.replicate k ((hh : Int) + 1) ++ [(hh : Int) + 1] from List.replicate_succ')
          have hsy := hide (show List.replicate (k + 1) (ls.length : Int) = List.replicate k (ls.length : Int) ++ [(ls.length : Int)] from List.replicate_succ')
          obtain ⟨xs, hxs⟩ : ∃ xs, xs = List.replicate k ((hh : Int) + 1) := ⟨_, rfl⟩
          obtain ⟨ys, hys⟩ : ∃ ys, ys = List.replicate k (ls.length : Int) := ⟨_, rfl⟩
          rw [← hxs] at lx ht
          rw [← hys] at ly ht
          have HXS := hide hxs
          have HYS := hide hys
          obtain ⟨va, vc, rfl, _, _⟩ := ht.1.form
          obtain ⟨ua, uc, rfl, _, _⟩ := ht.2.1.form
          have HLX := hide lx
          have HLY := hide ly
          clear lx ly
          have hsz := ht.2.2.2.size
          have hown := ht.1
          have HT := hide ht
          clear ht hxs hys
          have hb1 : wr.heap.size + 1 ≤ wr.heap.size + 1 := Nat.le_refl _
          go_wp2_with (at_builtin; refine wpList_append_lies _ rfl _ _ 23 rfl w3.heap.size 3 i0 (.int .i64 0) 1 8 Try.underlying23 hi0 hz0 hz1 hz2 rfl (by decide) _ _ _ rfl (hown.alloc _) ⟨wr.heap.size, 0, none⟩ 1 1 [.int .i64 ((hh : Int) + 1)] rfl rfl (cell_one_new wr _ _) (by intro u hu; simp at hu; subst hu; rfl) (by decide) (by have := HLX.out; have := HLY.out; unfold maxLen; omega) (by have := HLX.out; have := HLY.out; omega) (by first | omega | (simp; omega)) (wr.heap.size + 1) (by simp) ?_)
          intro g1 cap1 w5 hown5 hgrow5 hat5 hlt5
          have T5 := HT.out.push1 rfl hgrow5 hown5 hat5
          have hown := T5.2.1
          have hsz5 := T5.2.2.2.size
          have HT5 := hide T5
          clear hown5 hgrow5 hat5 T5 HT hsz
          go_wp2_with (at_builtin; refine wpList_append_lies _ rfl _ _ 23 rfl w3.heap.size 3 i0 (.int .i64 0) 1 8 Try.underlying23 hi0 hz0 hz1 hz2 rfl (by decide) _ _ _ rfl (hown.alloc _) ⟨w5.heap.size, 0, none⟩ 1 1 [.int .i64 (ls.length : Int)] rfl rfl (cell_one_new w5 _ _) (by intro u hu; simp at hu; subst hu; rfl) (by decide) (by have := HLX.out; have := HLY.out; unfold maxLen; omega) (by have := HLX.out; have := HLY.out; omega) (by first | omega | (simp; omega)) (w5.heap.size + 1) (by simp) ?_)
          intro g2 cap2 w7 hown7 hgrow7 hat7 hlt7
          have T7 := HT5.out.push2 rfl hgrow7 hown7 hat7
          have e1 : xs ++ [(hh : Int) + 1] = List.replicate (k + 1) ((hh : Int) + 1) := by rw [hsx.out, ← HXS.out]
          have e2 : ys ++ [(ls.length : Int)] = List.replicate (k + 1) (ls.length : Int) := by rw [hsy.out, ← HYS.out]
          rw [e1, e2] at T7
          have HT7 := hide T7
          clear hown7 hgrow7 hat7 T7 HT5 e1 e2 hsz5
          go_wp2
          go_roundw
          case rel => exact ⟨k + 1, by omega, by go_num, HT7.out⟩
          case measure => simp only [intOf]; omega
        · obtain rfl : k = qs.length := by omega
          obtain ⟨half, hhalf⟩ : ∃ half, half = List.replicate qs.length ((hh : Int) + 1) := ⟨_, rfl⟩
          obtain ⟨most, hmost⟩ : ∃ most, most = List.replicate qs.length (ls.length : Int) := ⟨_, rfl⟩
          have hhl : half.length ≤ 1048576 := by rw [hhalf, List.length_replicate]; exact ho
          have hml : most.length ≤ 1048576 := by rw [hmost, List.length_replicate]; exact ho
          have HX := hide (show quotaV m ss ls half = X by rw [hhalf]; exact HX.out)
          have HY := hide (show quotaV m ss ls most = (Y : Nat) by rw [hmost]; exact HY.out)
          rw [← hhalf, ← hmost] at ht
          obtain ⟨ha, hcap, rfl, _, _⟩ := ht.1.form
          obtain ⟨ma, mcap, rfl, _, _⟩ := ht.2.1.form
          have T0 : TV w1 m av ss cv al ls aq qs ha half ma most wr := ⟨HS.out.below ht.2.2.2, ht.1.ints, ht.2.1.ints⟩
          have TD : Hid (TV w1 m av ss cv al ls aq qs ha half ma most wr.drew) := T0.below (bdrew' (Below.refl _ _))
          obtain ⟨⟨_, c0, c1⟩, _⟩ := T0.1.1.pair
          clear ht hhalf hmost T0
          have iD := TD.out.1.1.2.1
          have jD := TD.out.1.1.2.2.1
          have xD := TD.out.2.1
          have yD := TD.out.2.2
          go_upto_region 14 with fail
          refine wp_region_held_drew (S := (fun w' => w'.cell? ⟨w1.heap.size, 0, none⟩ = some (.int .i64 m) ∧ w'.cell? ⟨w1.heap.size, 1, none⟩ = some (.slice av ss.length cv))) (by kernel_rfl) ?_ (fun hHeld => ?_)
          · exact ⟨TD.out.1.1.1.2.1, TD.out.1.1.1.2.2⟩
          refine wpAnyH_take (i := 0) (v := ?vv0) rfl (by kernel_rfl) (by kernel_rfl) (by kernel_rfl) (fun _ _ _ h => h) (Or.inl ⟨by rfl, ?hy0⟩) (by assumption) ?rest0
          case hy0 => (intro w hSw; (try dsimp only at hSw); go_simp; (try with_reducible rfl))
          case rest0 =>
            (try simp only [Act.put, List.setIfInBounds_toArray, List.set_cons_zero, List.set_cons_succ, List.getElem_toArray, List.getElem_cons_zero])
            refine wpAnyH_take (i := 1) (v := ?vv1) rfl (by kernel_rfl) (by kernel_rfl) (by kernel_rfl) (fun _ _ _ h => h) (Or.inl ⟨by rfl, ?hy1⟩) (by assumption) ?rest1
            case hy1 => (intro w hSw; (try dsimp only at hSw); go_simp; (try with_reducible rfl))
            case rest1 =>
              (try simp only [Act.put, List.setIfInBounds_toArray, List.set_cons_zero, List.set_cons_succ, List.getElem_toArray, List.getElem_cons_zero, List.getElem_cons_succ])
              refine wpAnyH_take (i := 2) (v := ?vv2) rfl (by kernel_rfl) (by kernel_rfl) (by kernel_rfl) (fun _ _ _ h => h) (Or.inl ⟨by rfl, ?hy2⟩) (by assumption) ?rest2
              case hy2 => (intro w hSw; (try dsimp only at hSw); go_simp; (try with_reducible rfl))
              case rest2 =>
                (try simp only [Act.put, List.setIfInBounds_toArray, List.set_cons_zero, List.set_cons_succ, List.getElem_toArray, List.getElem_cons_zero, List.getElem_cons_succ])
                refine wpAnyH_take (i := 4) (v := ?vv4) rfl (by kernel_rfl) (by kernel_rfl) (by kernel_rfl) (fun _ _ _ h => h) (Or.inl ⟨by rfl, ?hy4⟩) (by assumption) ?rest4
                case hy4 => (intro w hSw; (try dsimp only at hSw); go_simp; (try with_reducible rfl))
                case rest4 =>
                  (try simp only [Act.put, List.setIfInBounds_toArray, List.set_cons_zero, List.set_cons_succ, List.getElem_toArray, List.getElem_cons_zero, List.getElem_cons_succ])
                  refine wpAnyH_take (i := 5) (v := ?vv5) rfl (by kernel_rfl) (by kernel_rfl) (by kernel_rfl) (fun _ _ _ h => h) (Or.inl ⟨by rfl, ?hy5⟩) (by assumption) ?rest5
                  case hy5 => (intro w hSw; (try dsimp only at hSw); go_simp; (try with_reducible rfl))
                  case rest5 =>
                    (try simp only [Act.put, List.setIfInBounds_toArray, List.set_cons_zero, List.set_cons_succ, List.getElem_toArray, List.getElem_cons_zero, List.getElem_cons_succ])
                    refine wpAnyH_ready (rs := [3]) (by kernel_rfl) (by simp) ?_
                    refine AllReadyH.cons rfl (fun K hK => ?_) AllReadyH.nil
                    go_simp
                    (go_at_call 16; (with_reducible refine (quota_is m av al ha cv cl hcap ss ls half _ X iD jD xD hn hm hhl HX.out).mono ?_); rintro e w10 ⟨rfl, b10⟩; have T10 := hide (TD.out.below b10); have i10 := T10.out.1.1.2.1; have j10 := T10.out.1.1.2.2.1; have x10 := T10.out.2.1; have y10 := T10.out.2.2; clear b10)
                    go_wp2_with fail
                    refine hK.out _ _ ?_ (fun hHeld => ?_)
                    · exact ⟨T10.out.1.1.1.2.1, T10.out.1.1.1.2.2⟩
                    clear hK K
                    (try simp only [Act.put, List.setIfInBounds_toArray, List.set_cons_zero, List.set_cons_succ, List.getElem_toArray, List.getElem_cons_zero, List.getElem_cons_succ])
                    refine wpAnyH_ready (rs := [6]) (by kernel_rfl) (by simp) ?_
                    refine AllReadyH.cons rfl (fun K hK => ?_) AllReadyH.nil
                    go_simp
                    (go_at_call 18; (with_reducible refine (maj_is m av al cv cl ss ls _ X i10 j10 hn hm HX2.out).mono ?_); rintro e w11 ⟨rfl, b11⟩; have T11 := hide (T10.out.below b11); have i11 := T11.out.1.1.2.1; have j11 := T11.out.1.1.2.2.1; have x11 := T11.out.2.1; have y11 := T11.out.2.2; clear b11)
                    go_wp2_with fail
                    refine hK.out _ _ ?_ (fun hHeld => ?_)
                    · exact ⟨T11.out.1.1.1.2.1, T11.out.1.1.1.2.2⟩
                    clear hK K
                    (try simp only [Act.put, List.setIfInBounds_toArray, List.set_cons_zero, List.set_cons_succ, List.getElem_toArray, List.getElem_cons_zero, List.getElem_cons_succ])
                    refine wpAnyH_take (i := 7) (v := ?vv7) rfl (by kernel_rfl) (by kernel_rfl) (by kernel_rfl) (fun _ _ _ h => h) (Or.inl ⟨by rfl, ?hy7⟩) (by assumption) ?rest7
                    case hy7 => (intro w hSw; (try dsimp only at hSw); go_simp; (try with_reducible rfl))
                    case rest7 =>
                      (try simp only [Act.put, List.setIfInBounds_toArray, List.set_cons_zero, List.set_cons_succ, List.getElem_toArray, List.getElem_cons_zero, List.getElem_cons_succ])
                      refine wpAnyH_take (i := 8) (v := ?vv8) rfl (by kernel_rfl) (by kernel_rfl) (by kernel_rfl) (fun _ _ _ h => h) (Or.inl ⟨by rfl, ?hy8⟩) (by assumption) ?rest8
                      case hy8 => (intro w hSw; (try dsimp only at hSw); go_simp; (try with_reducible rfl))
                      case rest8 =>
                        (try simp only [Act.put, List.setIfInBounds_toArray, List.set_cons_zero, List.set_cons_succ, List.getElem_toArray, List.getElem_cons_zero, List.getElem_cons_succ])
                        refine wpAnyH_take (i := 9) (v := ?vv9) rfl (by kernel_rfl) (by kernel_rfl) (by kernel_rfl) (fun _ _ _ h => h) (Or.inl ⟨by rfl, ?hy9⟩) (by assumption) ?rest9
                        case hy9 => (intro w hSw; (try dsimp only at hSw); go_simp; (try with_reducible rfl))
                        case rest9 =>
                          (try simp only [Act.put, List.setIfInBounds_toArray, List.set_cons_zero, List.set_cons_succ, List.getElem_toArray, List.getElem_cons_zero, List.getElem_cons_succ])
                          refine wpAnyH_take (i := 10) (v := ?vv10) rfl (by kernel_rfl) (by kernel_rfl) (by kernel_rfl) (fun _ _ _ h => h) (Or.inl ⟨by rfl, ?hy10⟩) (by assumption) ?rest10
                          case hy10 => (intro w hSw; (try dsimp only at hSw); go_simp; (try with_reducible rfl))
                          case rest10 =>
                            (try simp only [Act.put, List.setIfInBounds_toArray, List.set_cons_zero, List.set_cons_succ, List.getElem_toArray, List.getElem_cons_zero, List.getElem_cons_succ])
                            refine wpAnyH_take (i := 11) (v := ?vv11) rfl (by kernel_rfl) (by kernel_rfl) (by kernel_rfl) (fun _ _ _ h => h) (Or.inl ⟨by rfl, ?hy11⟩) (by assumption) ?rest11
                            case hy11 => (intro w hSw; (try dsimp only at hSw); go_simp; (try with_reducible rfl))
                            case rest11 =>
                              (try simp only [Act.put, List.setIfInBounds_toArray, List.set_cons_zero, List.set_cons_succ, List.getElem_toArray, List.getElem_cons_zero, List.getElem_cons_succ])
                              refine wpAnyH_take (i := 13) (v := ?vv13) rfl (by kernel_rfl) (by kernel_rfl) (by kernel_rfl) (fun _ _ _ h => h) (Or.inl ⟨by rfl, ?hy13⟩) (by assumption) ?rest13
                              case hy13 => (intro w hSw; (try dsimp only at hSw); go_simp; (try with_reducible rfl))
                              case rest13 =>
                                (try simp only [Act.put, List.setIfInBounds_toArray, List.set_cons_zero, List.set_cons_succ, List.getElem_toArray, List.getElem_cons_zero, List.getElem_cons_succ])
                                refine wpAnyH_take (i := 15) (v := ?vv15) rfl (by kernel_rfl) (by kernel_rfl) (by kernel_rfl) (fun _ _ _ h => h) (Or.inl ⟨by rfl, ?hy15⟩) (by assumption) ?rest15
                                case hy15 => (intro w hSw; (try dsimp only at hSw); go_simp; (try with_reducible rfl))
                                case rest15 =>
                                  (try simp only [Act.put, List.setIfInBounds_toArray, List.set_cons_zero, List.set_cons_succ, List.getElem_toArray, List.getElem_cons_zero, List.getElem_cons_succ])
                                  refine wpAnyH_take (i := 16) (v := ?vv16) rfl (by kernel_rfl) (by kernel_rfl) (by kernel_rfl) (fun _ _ _ h => h) (Or.inl ⟨by rfl, ?hy16⟩) (by assumption) ?rest16
                                  case hy16 => (intro w hSw; (try dsimp only at hSw); go_simp; (try with_reducible rfl))
                                  case rest16 =>
                                    (try simp only [Act.put, List.setIfInBounds_toArray, List.set_cons_zero, List.set_cons_succ, List.getElem_toArray, List.getElem_cons_zero, List.getElem_cons_succ])
                                    refine wpAnyH_take (i := 17) (v := ?vv17) rfl (by kernel_rfl) (by kernel_rfl) (by kernel_rfl) (fun _ _ _ h => h) (Or.inl ⟨by rfl, ?hy17⟩) (by assumption) ?rest17
                                    case hy17 => (intro w hSw; (try dsimp only at hSw); go_simp; (try with_reducible rfl))
                                    case rest17 =>
                                      (try simp only [Act.put, List.setIfInBounds_toArray, List.set_cons_zero, List.set_cons_succ, List.getElem_toArray, List.getElem_cons_zero, List.getElem_cons_succ])
                                      refine wpAnyH_ready (rs := [12]) (by kernel_rfl) (by simp) ?_
                                      refine AllReadyH.cons rfl (fun K hK => ?_) AllReadyH.nil
                                      go_simp
                                      (go_at_call 16; (with_reducible refine (quota_is m av al ma cv cl mcap ss ls most _ (Y : Nat) i11 j11 y11 hn hm hml HY.out).mono ?_); rintro e w12 ⟨rfl, b12⟩; have T12 := hide (T11.out.below b12); have i12 := T12.out.1.1.2.1; have j12 := T12.out.1.1.2.2.1; have x12 := T12.out.2.1; have y12 := T12.out.2.2; clear b12)
                                      go_wp2_with fail
                                      refine hK.out _ _ ?_ (fun hHeld => ?_)
                                      · exact ⟨T12.out.1.1.1.2.1, T12.out.1.1.1.2.2⟩
                                      clear hK K
                                      (try simp only [Act.put, List.setIfInBounds_toArray, List.set_cons_zero, List.set_cons_succ, List.getElem_toArray, List.getElem_cons_zero, List.getElem_cons_succ])
                                      refine wpAnyH_take (i := 14) (v := ?vv14) rfl (by kernel_rfl) (by kernel_rfl) (by kernel_rfl) (fun _ _ _ h => h) (Or.inl ⟨by rfl, ?hy14⟩) (by assumption) ?rest14
                                      case hy14 => (intro w hSw; (try dsimp only at hSw); go_simp; (try with_reducible rfl))
                                      case rest14 =>
                                        (try simp only [Act.put, List.setIfInBounds_toArray, List.set_cons_zero, List.set_cons_succ, List.getElem_toArray, List.getElem_cons_zero, List.getElem_cons_succ])
                                        refine wpAnyH_ready (rs := [18]) (by kernel_rfl) (by simp) ?_
                                        refine AllReadyH.cons rfl (fun K hK => ?_) AllReadyH.nil
                                        go_simp
                                        (go_at_call 16; (with_reducible refine (quota_is m av al ma cv cl mcap ss ls most _ (Y : Nat) i12 j12 y12 hn hm hml HY.out).mono ?_); rintro e w13 ⟨rfl, b13⟩; have T13 := hide (T12.out.below b13); have i13 := T13.out.1.1.2.1; have j13 := T13.out.1.1.2.2.1; have x13 := T13.out.2.1; have y13 := T13.out.2.2; clear b13)
                                        go_wp2_with fail
                                        refine hK.out _ _ ?_ (fun hHeld => ?_)
                                        · exact ⟨T13.out.1.1.1.2.1, T13.out.1.1.1.2.2⟩
                                        clear hK K
                                        (try simp only [Act.put, List.setIfInBounds_toArray, List.set_cons_zero, List.set_cons_succ, List.getElem_toArray, List.getElem_cons_zero, List.getElem_cons_succ])
                                        refine wpAnyH_take (i := 19) (v := ?vv19) rfl (by kernel_rfl) (by kernel_rfl) (by kernel_rfl) (fun _ _ _ h => h) (Or.inl ⟨by rfl, ?hy19⟩) (by assumption) ?rest19
                                        case hy19 => (intro w hSw; (try dsimp only at hSw); go_simp; (try with_reducible rfl))
                                        case rest19 =>
                                          (try simp only [Act.put, List.setIfInBounds_toArray, List.set_cons_zero, List.set_cons_succ, List.getElem_toArray, List.getElem_cons_zero, List.getElem_cons_succ])
                                          refine wpAnyH_take (i := 20) (v := ?vv20) rfl (by kernel_rfl) (by kernel_rfl) (by kernel_rfl) (fun _ _ _ h => h) (Or.inl ⟨by rfl, ?hy20⟩) (by assumption) ?rest20
                                          case hy20 => (intro w hSw; (try dsimp only at hSw); go_simp; (try with_reducible rfl))
                                          case rest20 =>
                                            (try simp only [Act.put, List.setIfInBounds_toArray, List.set_cons_zero, List.set_cons_succ, List.getElem_toArray, List.getElem_cons_zero, List.getElem_cons_succ])
                                            refine wpAnyH_take (i := 21) (v := ?vv21) rfl (by kernel_rfl) (by kernel_rfl) (by kernel_rfl) (fun _ _ _ h => h) (Or.inl ⟨by rfl, ?hy21⟩) (by assumption) ?rest21
                                            case hy21 => (intro w hSw; (try dsimp only at hSw); go_simp; (try with_reducible rfl))
                                            case rest21 =>
                                              (try simp only [Act.put, List.setIfInBounds_toArray, List.set_cons_zero, List.set_cons_succ, List.getElem_toArray, List.getElem_cons_zero, List.getElem_cons_succ])
                                              refine wpAnyH_done (by kernel_rfl) ?_ _
                                              go_wp2
                                              go_ret
                                              exact ⟨rfl, bnext HB.out T13.out.1.1.2.2.2⟩
    · have hv := quotaV_no hq
      rw [hv] at hne heq ⊢
      obtain ⟨⟨_, c0, c1⟩, _⟩ := S3.1.pair
      have HV := hide hv
      clear hv hq
      go_wp2_with fail
      refine (specQuotaOf_any _ _ _ _ _ _ _ _ _ _ _ S3.1.2.1 S3.1.2.2.1 S3.2 hn hm ho).mono ?_
      rintro e w4 ⟨rfl, b4⟩
      rw [HV.out]
      have S4 := S3.below b4
      go_wp2
      go_ret
      exact ⟨rfl, bnext HB.out S4.1.2.2.2⟩
end Go.Proofs.Ytccgjnibafbfjaa
