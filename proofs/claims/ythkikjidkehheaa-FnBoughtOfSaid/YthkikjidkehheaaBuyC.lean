/- The sort of purses, in the program. -/
import Derived.Test.YthkikjidkehheaaBuyQ
namespace Go.Proofs.Ythkikjidkehheaa
open Go.RowKit Go.Joins Go.Sort

set_option maxHeartbeats 1000000 in
theorem cmpP (a b : Nat) (x y z u : Int) (W : World) (ha : a ≤ 100000) (hb : b ≤ 100000) :
    Calls Try.prog 60 #[.agg #[.int .i64 a, .int .i64 x, .int .i64 y], .agg #[.int .i64 b, .int .i64 z, .int .i64 u]] W fun e w' => e = .returned (.int .i64 ((a : Int) - (b : Int))) ∧ ∃ q os', w' = grow (W.drewN q) os' := by
  go_enter Try.func60, Try.ntmps60
  go_wp2
  go_ret
  exact ⟨rfl, 0, _, by rw [alloc_eq_grow, alloc_eq_grow, grow_grow]; rfl⟩
theorem cmpLays (blk off size : Nat) (w : World) : CmpLays Try.prog 60 #[] encF 3 cfF blk off size w :=
  fun _ _ _ _ x y => cmpP x.1.val y.1.val _ _ _ _ _ (by have := x.1.isLt; omega) (by have := y.1.isLt; omega)
theorem lenP (n : Nat) (W : World) (h : n ≤ 12) : Calls Try.prog 72 #[.int .u64 n] W fun e w' => (∃ l : Int, e = .returned (.int .i64 l)) ∧ w' = W :=
  (Any.bits_Len Try.bitsLen n W (by omega) (by omega)).mono fun _ _ ⟨he, hw⟩ => ⟨⟨_, he⟩, hw⟩
/-- slices.SortFunc puts the purses in order -/
theorem sortP_some (base g cap n : Nat) (ps : List Pur) (w : World) (h : w.ownsRow base 47 3 (.slice (some ⟨g, 0, none⟩) ps.length cap) ps.length (qflat ps)) (hn : ps.length = n) (h6 : ps.length ≤ 6) (hb : ∀ p ∈ ps, 0 ≤ p.1 ∧ p.1 ≤ 100000) :
    Calls Try.prog 59 #[.slice (some ⟨g, 0, none⟩) n cap, .func (.func 60) #[] #[]] w fun e w' => e = .returned (.tuple #[]) ∧ (∃ qs : List Pur, QInts w' (some ⟨g, 0, none⟩) qs ∧ topsQ qs = srtN (topsQ ps) ∧ qs.Perm ps) ∧ w.grownBy w' (some g) := by
  subst hn
  have hg := (World.ownsRow.lt h g rfl).2
  have hz : (ps.map inF).toArray.size = ps.length := by simp
  have eg : ∀ args w, (callFunc 60 args).run Try.prog w = .ok (.enter 60 args) w := enters_of Try.func60 (by kernel_rfl) rfl
  have hH := holdsF h hb
  have hcon := AnyQ.slices_SortFunc_small_sorted Try.sortP 3 Try.isAgg47 Try.sizeOf47 encF (fun _ => rfl) (fun x v hv => by simp [encF] at hv; rcases hv with rfl | rfl | rfl <;> rfl) cfF 60 #[] swoF g 0 cap (ps.map inF).toArray w eg (cmpLays g 0 _ w) hH hg (by rw [hz]; omega) lenP
  change Calls Try.prog 59 _ _ _ at hcon
  rw [hz] at hcon
  refine hcon.mono ?_
  rintro e w' ⟨rfl, d', n, os, hp, hs, rfl⟩
  rw [← hz] at hp hs
  have hB := grownF (w := w) (g := g) (n := n) (dk := d') (os := os)
  obtain ⟨t1, t2⟩ := topsF hb hp hs
  exact ⟨rfl, ⟨_, qintsF (Nat.lt_of_lt_of_le hg hB.size) (holdsK_sortWorldK_c encF 3 w g 0 _ d' n os hH hg hp.1), t1, t2⟩, hB⟩
set_option maxHeartbeats 2000000 in
theorem insP_none (w : World) : Calls Try.prog 77 #[.slice none 0 0, .int .i64 0, .int .i64 0, .func (.func 60) #[] #[]] w fun e w' => e = .returned (.tuple #[]) ∧ Below w.heap.size w w' := by
  go_enter Try.func77, Try.ntmps77
  go_wp2_with fail
  refine wp_loop_rounds 1 ?_
  rw [rounds_succ]
  go_wp2
  go_end0
  exact ⟨rfl, Below.refl _ _⟩
set_option maxHeartbeats 2000000 in
theorem pdqP_none (l : Int) (w : World) : Calls Try.prog 71 #[.slice none 0 0, .int .i64 0, .int .i64 0, .int .i64 l, .func (.func 60) #[] #[]] w fun e w' => e = .returned (.tuple #[]) ∧ Below w.heap.size w w' := by
  go_enter Try.func71, Try.ntmps71
  go_wp2
  refine wp_loop_rounds 1 ?_
  rw [rounds_succ]
  go_wp2_with (go_at_call 77; refine (insP_none _).mono ?_; rintro e w' ⟨rfl, hb⟩)
  (try simp only [Exit.inBlock, Exit.then]); refine bodyPost_ret (results_none rfl _ _ _) rfl ?_
  exact ⟨rfl, hb⟩
theorem sortP_none (w : World) : Calls Try.prog 59 #[.slice none 0 0, .func (.func 60) #[] #[]] w fun e w' => e = .returned (.tuple #[]) ∧ Below w.heap.size w w' := by
  have hl := lenP 0 w (by decide)
  go_enter Try.func59, Try.ntmps59
  go_wp2_with (first | (go_at_call 72; refine hl.mono ?_; rintro e w' ⟨⟨l, rfl⟩, rfl⟩) | (go_at_call 71; refine (pdqP_none _ _).mono ?_; rintro e w' ⟨rfl, hb⟩))
  go_end0
  exact ⟨rfl, hb⟩
/-- how the share of a name is told -/
def ShE (d : Nat) (o : Option (Nat × Nat)) (e : Ending) : Prop := (∃ a b, o = some (a, b) ∧ e = .returned (.tuple #[.agg #[.int .i64 (a : Nat), .int .i64 ((b * d : Nat) : Int)], .bool true])) ∨ (o = none ∧ e = .returned (.tuple #[.agg #[.int .i64 0, .int .i64 0], .bool false]))
theorem topsQ_at {ps : List Pur} {i : Nat} (h : i < ps.length) : (topsQ ps).getD i 0 = ps[i].1.toNat := by simp [topsQ, List.getD_eq_getElem?_getD, h]
theorem topsQ_len (ps : List Pur) : (topsQ ps).length = ps.length := by simp [topsQ]
set_option maxHeartbeats 1000000 in
theorem shareP_none (cost : Nat) (d : Nat) (w : World) :
    Calls Try.prog 35 #[.int .i64 cost, .slice none 0 0] w fun e w' => ShE d (priceN [] cost) e ∧ Below w.heap.size w w' := by
  have HRES := hide (heap_alloc_new w (.cells #[.int .i64 0, .int .i64 0] 42))
  have BB := bel1 w (.cells #[.int .i64 0, .int .i64 0] 42)
  obtain ⟨W, hW⟩ : ∃ W : World, W = w.alloc (.cells #[.int .i64 0, .int .i64 0] 42) := ⟨_, rfl⟩
  rw [← hW] at BB HRES
  go_enter Try.func35, Try.ntmps35
  go_wp2_with fail
  rw [← hW]
  refine (sortP_none _).mono ?_
  rintro e w1 ⟨rfl, hb1⟩
  have hres := (hb1.block _ (lt_of_block HRES.out)).trans HRES.out
  have f0 := unfrozen_of_block hres 0
  have f1 := unfrozen_of_block hres 1
  have g0 := cell_of_block hres 0
  have g1 := cell_of_block hres 1
  have HRS := hide hres
  clear hres hW
  go_wp2
  refine wp_loop_rounds 1 ?_
  rw [rounds_succ]
  go_wp2
  refine bodyPost_ret (ret_frac rfl _ _ _ _ _ rfl (block_setCell (i := 1) (block_setCell (i := 0) HRS.out _) _)) rfl ?_
  exact ⟨.inr ⟨rfl, rfl⟩, ((BB.trans (hb1.mono BB.size)).setCell (p := ⟨w.heap.size, 0, none⟩) (Nat.le_refl _) _).setCell (p := ⟨w.heap.size, 1, none⟩) (Nat.le_refl _) _⟩
theorem spared_end {g : Nat} {w w1 w2 : World} (B1 : Go.RowKit.Below g w w1) (S1 : ∀ k, k < w.heap.size → k ≠ g → w1.heap[k]? = w.heap[k]?) (B2 : Go.RowKit.Below w1.heap.size w1 w2) (x y : Value) : w.grownBy ((w2.setCell ⟨w.heap.size, 0, none⟩ x).setCell ⟨w.heap.size, 1, none⟩ y) (some g) := by
  have hs1 := B1.size
  have hs2 := B2.size
  refine ⟨B2.os.trans B1.os, B2.tape.trans B1.tape, B2.output.trans B1.output, by simp [World.setCell]; omega, fun k hk hne => ?_⟩
  have hkg : k ≠ g := fun e => hne (by rw [e])
  rw [Go.RowKit.Below.heap_setCell _ _ _ _ (show k ≠ w.heap.size by omega), Go.RowKit.Below.heap_setCell _ _ _ _ (show k ≠ w.heap.size by omega), B2.block k (by omega), S1 k hk hkg]
set_option maxHeartbeats 1000000 in
theorem shareP_some (base g cap n d cost : Nat) (ps : List Pur) (w : World) (h : w.ownsRow base 47 3 (.slice (some ⟨g, 0, none⟩) n cap) n (qflat ps)) (hn : ps.length = n) (h6 : n ≤ 6) (hd : d ≤ 7776) (hr : ∀ p ∈ ps, (0 ≤ p.1 ∧ p.1 ≤ 38880) ∧ p.2.1 = d) (hc : cost ≤ 100000) :
    Calls Try.prog 35 #[.int .i64 cost, .slice (some ⟨g, 0, none⟩) n cap] w fun e w' => ShE d (priceN (topsQ ps) cost) e ∧ w.grownBy w' (some g) := by
  have HRES := hide (heap_alloc_new w (.cells #[.int .i64 0, .int .i64 0] 42))
  have BB := bel1 w (.cells #[.int .i64 0, .int .i64 0] 42)
  have hgl := (World.ownsRow.lt h g rfl).2
  obtain ⟨W, hW⟩ : ∃ W : World, W = w.alloc (.cells #[.int .i64 0, .int .i64 0] 42) := ⟨_, rfl⟩
  have hW1 : W.ownsRow base 47 3 (.slice (some ⟨g, 0, none⟩) n cap) n (qflat ps) := by rw [hW]; exact h.alloc _
  rw [← hW] at BB HRES
  clear h
  go_enter Try.func35, Try.ntmps35
  go_wp2_with fail
  rw [← hW]
  subst hn
  refine (sortP_some base g cap _ ps _ hW1 rfl h6 (fun p hp => by have := (hr p hp).1; omega)).mono ?_
  rintro e w1 ⟨rfl, ⟨qs, qi, htops, hperm⟩, hb1⟩
  clear hW hW1
  have hres : w1.heap[w.heap.size]? = some (.cells #[.int .i64 0, .int .i64 0] 42 (0, 0)) := (hb1.block _ (lt_of_block HRES.out) (by intro e; cases e; omega)).trans HRES.out
  obtain ⟨so, hso⟩ : ∃ so, srtN (topsQ ps) = so := ⟨_, rfl⟩
  have HP : Hid (priceN (topsQ ps) cost = priceL cost so) := by unfold Hid priceN; rw [hso]
  have hql : qs.length = ps.length := hperm.length_eq
  have hsl : so.length = ps.length := by rw [← hso, srt_len, topsQ_len]
  rw [hso] at htops
  have HSO := hide htops
  have HQ := hide (fun p hp => hr p (hperm.mem_iff.1 hp))
  have HQL := hide hql
  have HSL := hide hsl
  have B1 : Below g w w1 := (BB.mono (by omega)).grown hb1 (by have := BB.size; omega) (fun k e => by cases e; exact Nat.le_refl _)
  have hgl1 : g < w1.heap.size := Nat.lt_of_lt_of_le hgl B1.size
  have S1 := hide (fun k (hk : k < w.heap.size) (hkg : k ≠ g) => (hb1.block k (by have := BB.size; omega) (by intro e; cases e; exact hkg rfl)).trans (BB.block k hk))
  have hbw : w.heap.size < w1.heap.size := lt_of_block hres
  have HRS := hide hres
  clear hr hso htops hperm hql hsl hb1 BB hres
  go_wp2_with fail
  go_loopw [0, 13] (fun l i wr => ∃ k lf : Nat, k ≤ ps.length ∧ i = .int .i64 k ∧ l = .int .i64 lf ∧ lf ≤ cost ∧ Hid (priceL cost so = priceL lf (so.drop k)) ∧ Below w1.heap.size w1 wr) (fun _ i _ => ps.length - (intOf i).toNat)
  case atStart => exact ⟨0, cost, Nat.zero_le _, rfl, rfl, Nat.le_refl _, rfl, Below.refl _ _⟩
  case round =>
    obtain ⟨k, lf, hk, rfl, rfl, hlf, HL, BR⟩ := hrel
    by_cases hlt : k < ps.length
    · obtain ⟨b', off', hbo, hb', d1, d2, d3⟩ := qload3 (qi.below BR) (k := k) (by rw [HQL.out]; exact hlt)
      cases hbo
      rw [Nat.zero_add] at d1 d2 d3
      have hrr := HQ.out _ (List.getElem_mem (show k < qs.length by rw [HQL.out]; exact hlt))
      have hy := topsQ_at (ps := qs) (i := k) (by rw [HQL.out]; exact hlt)
      rw [HSO.out] at hy
      have hd2 := hide (priceL_drop (so := so) (i := k) (by rw [HSL.out]; exact hlt) lf)
      rw [HSL.out, hy] at hd2
      obtain ⟨⟨px, py, pz⟩, hp⟩ : ∃ p, p = qs[k]'(by rw [HQL.out]; exact hlt) := ⟨_, rfl⟩
      rw [← hp] at d1 d2 d3 hrr hd2
      simp only at d1 d2 d3 hrr hd2
      obtain ⟨y, rfl⟩ := Int.eq_ofNat_of_zero_le hrr.1.1
      rw [Int.toNat_natCast] at hd2
      rw [hrr.2] at d2
      have bb := bel1 wr (.cells #[.int .i64 (y : Int), .int .i64 (d : Int), .int .i64 pz] 47)
      have hsz := bb.size
      have hszr := BR.size
      have hy2 : y ≤ 38880 := by omega
      obtain ⟨q, hq⟩ : ∃ q : Nat, ps.length - k = q := ⟨_, rfl⟩
      have hqi : (ps.length : Int) - (k : Int) = (q : Int) := by omega
      have hq6 : q ≤ 6 := by omega
      rw [hq] at hd2
      obtain ⟨p1, p2⟩ := mul_small (show y ≤ 100000 by omega) hq6
      have HP1 := hide p1
      have p3 : 0 ≤ (y : Int) * (q : Int) ∧ (y : Int) * (q : Int) ≤ 600000 := by rw [p1]; omega
      have p4 : 0 ≤ (q : Int) * (y : Int) ∧ (q : Int) * (y : Int) ≤ 600000 := by rw [Int.mul_comm]; exact p3
      have HC := hide (Int.mul_comm (q : Int) (y : Int))
      have p5 := mul_small6 hq6 hd
      clear hp hy p1 p2 hrr
      by_cases hge : lf ≤ y * q
      · have HS := hide (show priceN (topsQ ps) cost = some (lf, q) by rw [HP.out, HL.out, hd2.out, if_pos hge])
        have hge' : (lf : Int) ≤ (q : Int) * (y : Int) := by rw [HC.out, HP1.out]; omega
        have hres : (wr.alloc (.cells #[.int .i64 (y : Int), .int .i64 (d : Int), .int .i64 pz] 47)).heap[w.heap.size]? = some (.cells #[.int .i64 0, .int .i64 0] 42 (0, 0)) := (bb.block _ (by omega)).trans ((BR.block _ hbw).trans HRS.out)
        have f0 := unfrozen_of_block hres 0
        have f1 := unfrozen_of_block hres 1
        have g0 := cell_of_block hres 0
        have g1 := cell_of_block hres 1
        have HR2 := hide hres
        clear hge hres
        go_wp2
        refine bodyPost_ret (ret_frac rfl _ _ _ _ _ rfl (block_setCell (i := 1) (block_setCell (i := 0) HR2.out _) _)) rfl ?_
        exact ⟨.inl ⟨lf, q, HS.out, by rw [Int.natCast_mul]; rfl⟩, spared_end B1 S1.out (bnext BR bb) _ _⟩
      · have hyl : y ≤ lf := by
          have : y * 1 ≤ y * q := Nat.mul_le_mul_left _ (by omega)
          omega
        have HS : Hid (priceL cost so = priceL (lf - y) (so.drop (k + 1))) := hide (by rw [HL.out, hd2.out, if_neg hge])
        have hge' : ¬ (lf : Int) ≤ (q : Int) * (y : Int) := by rw [HC.out, HP1.out]; omega
        clear hge
        go_wp2
        go_roundw
        case rel => exact ⟨k + 1, lf - y, by omega, by go_num, by go_num, by omega, HS.out, bnext BR bb⟩
        case measure => simp only [intOf]; omega
    · obtain rfl : k = ps.length := by omega
      have HS := hide (show priceN (topsQ ps) cost = none by rw [HP.out, HL.out, List.drop_of_length_le (by rw [HSL.out]; exact Nat.le_refl _)]; rfl)
      have hres := (BR.block _ hbw).trans HRS.out
      have f0 := unfrozen_of_block hres 0
      have f1 := unfrozen_of_block hres 1
      have g0 := cell_of_block hres 0
      have g1 := cell_of_block hres 1
      have HR2 := hide hres
      clear hres
      go_wp2
      refine bodyPost_ret (ret_frac rfl _ _ _ _ _ rfl (block_setCell (i := 1) (block_setCell (i := 0) HR2.out _) _)) rfl ?_
      exact ⟨.inr ⟨HS.out, rfl⟩, spared_end B1 S1.out BR _ _⟩
theorem ShE.form {d : Nat} {o : Option (Nat × Nat)} {e : Ending} (h : ShE d o e) : ∃ x y : Int, ∃ b : Bool, e = .returned (.tuple #[.agg #[.int .i64 x, .int .i64 y], .bool b]) := by
  rcases h with ⟨a, b, _, rfl⟩ | ⟨_, rfl⟩
  · exact ⟨_, _, _, rfl⟩
  · exact ⟨_, _, _, rfl⟩
/-- the share of the closure that holds the price -/
theorem shareC (base g cap n d cost gp : Nat) (v : Value) (ps : List Pur) (o : Option (Nat × Nat)) (w : World) (hv : (v = .slice none 0 0 ∧ n = 0 ∧ g = w.heap.size) ∨ v = .slice (some ⟨g, 0, none⟩) n cap) (h : w.ownsRow base 47 3 v n (qflat ps)) (hn : ps.length = n) (h6 : n ≤ 6) (hd : d ≤ 7776) (hr : ∀ p ∈ ps, (0 ≤ p.1 ∧ p.1 ≤ 38880) ∧ p.2.1 = d) (hc : cost ≤ 100000)
    (hp : w.cell? ⟨gp, 0, none⟩ = some (.int .i64 cost)) (ho : priceN (topsQ ps) cost = o) :
    Calls Try.prog 34 #[v, .pointer (some ⟨gp, 0, none⟩)] w fun e w' => ShE d o e ∧ Below g w w' := by
  subst ho
  have HRES := hide (heap_alloc_new w (.cells #[.int .i64 0, .int .i64 0] 42))
  have BB := bel1 w (.cells #[.int .i64 0, .int .i64 0] 42)
  have hp2 := (BB.cell (p := ⟨gp, 0, none⟩) (World.block_lt_of_cell? w ⟨gp, 0, none⟩ hp)).trans hp
  have h2 := h.alloc (.cells #[.int .i64 0, .int .i64 0] 42)
  obtain ⟨W, hW⟩ : ∃ W : World, W = w.alloc (.cells #[.int .i64 0, .int .i64 0] 42) := ⟨_, rfl⟩
  rw [← hW] at BB HRES hp2 h2
  rcases hv with ⟨rfl, rfl, rfl⟩ | rfl
  · have e : ps = [] := List.length_eq_zero_iff.1 hn
    subst e
    clear hp h h2
    go_enter Try.func34, Try.ntmps34
    go_upto_region 1 with fail
    rw [← hW]
    clear hW
    go_wp2_with fail
    refine (shareP_none cost d _).mono ?_
    rintro e w1 ⟨hE, hb1⟩
    have hres := (hb1.block _ (lt_of_block HRES.out)).trans HRES.out
    have f0 := unfrozen_of_block hres 0
    have f1 := unfrozen_of_block hres 1
    have g0 := cell_of_block hres 0
    have g1 := cell_of_block hres 1
    have HRS := hide hres
    obtain ⟨x, y, b, rfl⟩ := hE.form
    have HE := hide hE
    clear hE hres hp2
    go_wp2
    refine bodyPost_ret (ret_frac rfl _ _ _ _ _ rfl (block_setCell (i := 1) (block_setCell (i := 0) HRS.out _) _)) rfl ?_
    exact ⟨HE.out, ((BB.trans (hb1.mono BB.size)).setCell (p := ⟨w.heap.size, 0, none⟩) (Nat.le_refl _) _).setCell (p := ⟨w.heap.size, 1, none⟩) (Nat.le_refl _) _⟩
  · have hgl := (World.ownsRow.lt h g rfl).2
    clear hp h
    go_enter Try.func34, Try.ntmps34
    go_upto_region 1 with fail
    rw [← hW]
    clear hW
    go_wp2_with fail
    refine (shareP_some base g cap n d cost ps _ h2 hn h6 hd hr hc).mono ?_
    rintro e w1 ⟨hE, hb1⟩
    have hres := (hb1.block _ (lt_of_block HRES.out) (by intro e; cases e; omega)).trans HRES.out
    have f0 := unfrozen_of_block hres 0
    have f1 := unfrozen_of_block hres 1
    have g0 := cell_of_block hres 0
    have g1 := cell_of_block hres 1
    have HRS := hide hres
    have BW := ((BB.mono (Nat.le_of_lt hgl)).grown hb1 (by have := BB.size; omega) (fun k e => by cases e; exact Nat.le_refl _))
    obtain ⟨x, y, b, rfl⟩ := hE.form
    have HE := hide hE
    clear hE hres hp2 hb1
    go_wp2
    refine bodyPost_ret (ret_frac rfl _ _ _ _ _ rfl (block_setCell (i := 1) (block_setCell (i := 0) HRS.out _) _)) rfl ?_
    exact ⟨HE.out, (BW.setCell (p := ⟨w.heap.size, 0, none⟩) (Nat.le_of_lt hgl) _).setCell (p := ⟨w.heap.size, 1, none⟩) (Nat.le_of_lt hgl) _⟩
end Go.Proofs.Ythkikjidkehheaa
