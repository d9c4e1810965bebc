/- The draw of an order of issues. -/
import Derived.Test.YtccemllgglfgkaaDrawT
import Derived.Test.YtccemllgglfgkaaDrawP
import Derived.Test.YtccemllgglfgkaaSpare
import Derived.Deep.RegionHeld3
namespace Go.Proofs.Ytccemllgglfgkaa
open Go.RowKit Go.Joins

/-- a list under way: the list, the reader -/
def UI (R : Nat) (w : World) (n : Nat) (v : Value) (ls : List Int) (wq : World) : Prop :=
  Owns wq w.heap.size v ls ∧ w.grownBy wq (some R) ∧ RD wq R n ∧ w.heap.size ≤ wq.heap.size ∧ R < w.heap.size
theorem UI.rd {R : Nat} {w : World} {n : Nat} {v : Value} {ls : List Int} {wq : World} (h : UI R w n v ls wq) : RD wq R n := h.2.2.1
theorem UI.new {R : Nat} {w : World} {n : Nat} (h : RD w R n) :
    UI R w n (.slice (some ⟨w.heap.size, 0, none⟩) 0 0) [] (w.alloc (.cells #[] 3)) :=
  ⟨Owns.empty w (Nat.le_refl _), gbelow (grefl0 w R) (bel1 w _), h.below (bel1 w _), by simp, h.lt⟩
theorem UI.below {R : Nat} {w : World} {n : Nat} {v : Value} {ls : List Int} {wq w' : World} (h : UI R w n v ls wq) (hb : Below wq.heap.size wq w') : UI R w n v ls w' := by
  obtain ⟨h2, h3, h4, h5, h6⟩ := h
  exact ⟨h2.below hb, gbelow h3 (hb.mono (by omega)), h4.below hb, Nat.le_trans h5 hb.size, h6⟩
theorem UI.drew {R : Nat} {w : World} {n : Nat} {v : Value} {ls : List Int} {wq : World} (h : UI R w n v ls wq) : UI R w n v ls wq.drew := h.below (bdrew' (Below.refl _ _))
theorem UI.pick {R : Nat} {w : World} {n k : Nat} {v : Value} {ls : List Int} {wq w' : World} (h : UI R w n v ls wq) (hg : wq.grownBy w' (some R)) (hr : RD w' R k) : UI R w k v ls w' := by
  obtain ⟨h2, h3, _, h5, h6⟩ := h
  exact ⟨h2.other hg (fun g e => by cases e; omega), gpick h3 hg, hr, Nat.le_trans h5 hg.size, h6⟩
theorem UI.more {R : Nat} {w : World} {n k : Nat} {v : Value} {ls : List Int} {wq : World} (h : UI R w n v ls wq) (hk : n ≤ k) : UI R w k v ls wq :=
  ⟨h.1, h.2.1, h.2.2.1.more hk, h.2.2.2⟩
theorem UI.push {R : Nat} {w : World} {z : Int} {n : Nat} {v v' : Value} {ls : List Int} {wq w5 : World} {o : Obj} (h : UI R w n v ls wq) (hg : (wq.alloc o).grownBy w5 v.ownBlock)
    (ho : w5.ownsRow w.heap.size 3 1 v' (ls.length + 1) (ls.map (Value.int .i64) ++ [.int .i64 z])) : UI R w n v' (ls ++ [z]) w5 := by
  obtain ⟨h2, h3, h4, h5, h6⟩ := h.below (bel1 wq o)
  exact ⟨Owns.push ho, gbelow h3 ((Below.refl _ _).grown hg (by omega) (fun k hk => by have := own_ge h2 k hk; omega)), h4.grown hg (fun g e => by have := own_ge h2 g e; omega), Nat.le_trans h5 hg.size, h6⟩
/-- a write into the list -/
theorem UI.row {R : Nat} {w : World} {n : Nat} {v v' : Value} {ls ls' : List Int} {wq w5 : World} {k : Nat} (h : UI R w n v ls wq) (hk : v.ownBlock = some k) (hg : wq.grownBy w5 (some k)) (ho : Owns w5 w.heap.size v' ls') : UI R w n v' ls' w5 := by
  obtain ⟨h2, h3, h4, h5, h6⟩ := h
  have hge := own_ge h2 k hk
  exact ⟨ho, gbelow h3 ((Below.refl _ _).grown hg (by omega) (fun j hj => by cases hj; omega)), h4.grown hg (fun g e => by cases e; omega), Nat.le_trans h5 hg.size, h6⟩
theorem UI.done {R : Nat} {w : World} {n k : Nat} {v : Value} {ls : List Int} {wq : World} (h : UI R w n v ls wq) (hl : ls.length ≤ 10) (hk : n ≤ k) : VotesPost R k w (.returned v) wq :=
  ⟨v, ls, rfl, h.1, hl, h.2.1, h.2.2.1.more hk⟩
/-- another list in its place, all of it behind -/
theorem UI.turn {R : Nat} {w : World} {n : Nat} {v v' : Value} {ls ls' : List Int} {wq w5 : World} (h : UI R w n v ls wq) (hb : Below wq.heap.size wq w5) (ho : Owns w5 wq.heap.size v' ls') : UI R w n v' ls' w5 := by
  have hs := h.2.2.2.1
  obtain ⟨_, h3, h4, h5, h6⟩ := h.below hb
  exact ⟨ho.le hs, h3, h4, h5, h6⟩

theorem own_some {w : World} {base : Nat} {v : Value} {zs : List Int} (h : Owns w base v zs) (hv : v ≠ .slice none 0 0) :
    ∃ g c, v = .slice (some ⟨g, 0, none⟩) zs.length c ∧ zs.length ≤ c ∧ g < w.heap.size ∧ ∀ i, i < zs.length → w.cell? ⟨g, i, none⟩ = some (.int .i64 (zs.getD i 0)) := by
  have h' : w.ownsRow base 3 1 v zs.length (zs.map (Value.int .i64)) := h
  rcases h'.2 with ⟨h0, _⟩ | ⟨g, c, cur, rfl, hg, hb, h1, h2, h3, h4⟩
  · exact absurd h0 hv
  · refine ⟨g, c, rfl, h1, lt_of_block hb, fun i hi => ?_⟩
    have := h'.cellAt i (by omega)
    rw [List.getElem?_map, List.getElem?_eq_getElem hi, Option.map_some] at this
    rw [getD_lt hi]
    exact this
theorem sub_cells {w : World} {g a : Nat} {zs ys : List Int} (hc : ∀ i, i < zs.length → w.cell? ⟨g, i, none⟩ = some (.int .i64 (zs.getD i 0))) (hy : ∀ j, j < ys.length → a + j < zs.length ∧ zs.getD (a + j) 0 = ys.getD j 0) :
    ∀ j u, (ys.map (Value.int .i64))[j]? = some u → w.cell? ((⟨g, a, none⟩ : Addr).add j) = some u := by
  intro j u hu
  rw [List.getElem?_map] at hu
  by_cases hl : j < ys.length
  · rw [List.getElem?_eq_getElem hl, Option.map_some] at hu
    cases hu
    have h := hy j hl
    have e1 : (⟨g, a, none⟩ : Addr).add j = ⟨g, a + j, none⟩ := by
      unfold Addr.add
      by_cases h : j = 0 <;> simp [h]
    rw [e1, hc _ h.1, h.2, getD_lt hl]
  · rw [List.getElem?_eq_none (by omega)] at hu
    cases hu
theorem one_all (ys : List Int) : ∀ u ∈ ys.map (Value.int .i64), u.oneCell' = true := by
  intro u hu
  obtain ⟨x, _, rfl⟩ := List.mem_map.1 hu
  rfl
set_option maxHeartbeats 8000000 in
set_option maxRecDepth 100000 in
theorem orderOf_any (R n : Nat) (m : Int) (w : World) (hr : RD w R n) (hn : n < 1073730000) (hm : m ≤ 5) :
    Calls Try.prog 80 #[.pointer (some ⟨R, 0, none⟩), .int .i64 m] w (VotesPost R (n + 8) w) := by
  obtain ⟨i0, hi0, hz0, hz1, hz2⟩ := info_parts info_int
  have V0 := UI.new hr
  have hRw := hr.lt
  clear hr
  go_enter Try.func80, Try.ntmps80
  go_wp2_with fail
  go_loopw [5, 6] (fun v x wq => ∃ ls : List Int, ls.length ≤ 5 ∧ x = .int .i64 (ls.length : Int) ∧ UI R w (n + ls.length) v ls wq ∧ v ≠ .slice none 0 0) (fun _ x _ => (5 - intOf x).toNat)
  case atStart => exact ⟨[], by simp, rfl, V0, by intro e; cases e⟩
  case round =>
    clear V0
    obtain ⟨ls, hl5, rfl, hs, hv⟩ := hrel
    obtain ⟨g, vc, rfl, hcap, hgl, hcells⟩ := own_some hs.1 hv
    obtain ⟨N, hN⟩ : ∃ N, ls.length = N := ⟨_, rfl⟩
    rw [hN] at hl5 hs hcap hcells ⊢
    have HN := hide hN
    by_cases hlt : (N : Int) < m
    · have HS := hide hs
      have HCE := hide hcells
      clear hs hN hv hcells
      go_wp2_with fail
      refine (pick_any R (n + N) _ _ HS.out.rd (by omega) ⟨by omega, by omega⟩).mono ?_
      rintro e w3 ⟨y, rfl, hy0, hyl, _, gg, rd⟩
      have V3 := hide (HS.out.pick gg rd)
      have hyn : y < (N : Int) + 1 := hyl (by omega)
      obtain ⟨k, rfl⟩ := Int.eq_ofNat_of_zero_le hy0
      have hkN : k ≤ N := by omega
      have hsome := V3.out.1
      have hcl3 : ∀ i, i < N → w3.cell? ⟨g, i, none⟩ = some (.int .i64 (ls.getD i 0)) := by
        have o := V3.out.1
        have o' : w3.ownsRow w.heap.size 3 1 (.slice (some ⟨g, 0, none⟩) N vc) N (ls.map (Value.int .i64)) := by unfold Owns at o; rwa [HN.out] at o
        intro i hi
        have hi' : i < ls.length := by rw [HN.out]; exact hi
        have := o'.cellAt i (by omega)
        rw [List.getElem?_map, List.getElem?_eq_getElem hi', Option.map_some] at this
        rw [getD_lt hi']
        exact this
      have hg3 : g < w3.heap.size := Nat.lt_of_lt_of_le hgl gg.size
      have HC : Hid (∀ W, Below w3.heap.size w3 W → ∀ j u, ((ls.take k).map (Value.int .i64))[j]? = some u → W.cell? ((⟨g, 0, none⟩ : Addr).add j) = some u) := fun W hb => sub_cells (zs := ls) (fun i hi => (hb.cell (p := ⟨g, i, none⟩) hg3).trans (hcl3 i (by rw [← HN.out]; exact hi))) (fun j hj => by
        rw [List.length_take] at hj
        refine ⟨by omega, ?_⟩
        simp only [List.getD_eq_getElem?_getD, Nat.zero_add, List.getElem?_take]
        rw [if_pos (by omega)])
      have HD : Hid (∀ W, Below w3.heap.size w3 W → ∀ j u, ((ls.drop k).map (Value.int .i64))[j]? = some u → W.cell? ((⟨g, k, none⟩ : Addr).add j) = some u) := fun W hb => sub_cells (zs := ls) (fun i hi => (hb.cell (p := ⟨g, i, none⟩) hg3).trans (hcl3 i (by rw [← HN.out]; exact hi))) (fun j hj => by
        rw [List.length_drop] at hj
        refine ⟨by omega, ?_⟩
        simp only [List.getD_eq_getElem?_getD, List.getElem?_drop])
      have HO1 := hide (one_all (ls.take k))
      have HO2 := hide (one_all (ls.drop k))
      have HA1 : Hid ((ls.take k).length = k) := by unfold Hid; rw [List.length_take, HN.out]; omega
      have HD1 : Hid ((ls.drop k).length = N - k) := by unfold Hid; rw [List.length_drop, HN.out]
      obtain ⟨A1, hA⟩ : ∃ A1, ls.take k = A1 := ⟨_, rfl⟩
      obtain ⟨D1, hD⟩ : ∃ D1, ls.drop k = D1 := ⟨_, rfl⟩
      rw [hA] at HC HO1 HA1
      rw [hD] at HD HO2 HD1
      have HLEN : Hid ((A1 ++ [(N : Int)] ++ D1).length = N + 1) := by unfold Hid; rw [List.length_append, List.length_append, HA1.out, HD1.out]; simp; omega
      clear HS gg rd hyl hy0 hyn hA hD hcl3 hsome HCE
      have hkv : k ≤ vc := by omega
      have HO3 : Hid (((w3.alloc (.cells #[.int .i64 (N : Int)] 3)).alloc (.cells #[] 3)).drew.ownsRow w3.heap.size 3 1 (.slice (some ⟨w3.heap.size + 1, 0, none⟩) 0 0) 0 []) := by
        have h := (World.ownsRow_lit (base := w3.heap.size) (e := 3) (size := 1) (w3.alloc (.cells #[.int .i64 (N : Int)] 3)) #[] 0 (by simp) (by simp) rfl).drew
        rwa [show (w3.alloc (.cells #[.int .i64 (N : Int)] 3)).heap.size = w3.heap.size + 1 from by simp] at h
      by_cases hvk : k = vc
      · subst hvk
        obtain rfl : N = k := by omega
        have HD0 : Hid (D1.length = 0) := HD1.out.trans (Nat.sub_self _)
        have HDD : Hid (∀ W, Below w3.heap.size w3 W → ∀ j u, (D1.map (Value.int .i64))[j]? = some u → W.cell? ((⟨g, 0, none⟩ : Addr).add j) = some u) := fun W hb j u hu => by rw [List.length_eq_zero_iff.1 HD0.out] at hu; simp at hu
        clear HD HD1 hcap hkN hkv
        have HD := HDD
        have HD1 := HD0
        clear HDD HD0
        go_wp2
        refine wp_region_held_drew (S := (fun _ => True)) (by kernel_rfl) ?_ (fun hHeld => ?_)
        · exact trivial
        refine wpAnyH_take (i := 1) (v := ?vvt1) rfl (by kernel_rfl) (by kernel_rfl) (by kernel_rfl) (fun _ _ _ h => h) (Or.inl ⟨by rfl, ?hyt1⟩) (by assumption) ?restt1
        case hyt1 => (intro w hSw; (try dsimp only at hSw); go_simp; (try with_reducible rfl))
        case restt1 =>
          (try simp only [Act.put, List.setIfInBounds_toArray, List.set_cons_zero, List.set_cons_succ, List.getElem_toArray, List.getElem_cons_zero, List.getElem_cons_succ])
          refine wpAnyH_take (i := 2) (v := ?vvt2) rfl (by kernel_rfl) (by kernel_rfl) (by kernel_rfl) (fun _ _ _ h => h) (Or.inl ⟨by rfl, ?hyt2⟩) (by assumption) ?restt2
          case hyt2 => (intro w hSw; (try dsimp only at hSw); go_simp; (try with_reducible rfl))
          case restt2 =>
            (try simp only [Act.put, List.setIfInBounds_toArray, List.set_cons_zero, List.set_cons_succ, List.getElem_toArray, List.getElem_cons_zero, List.getElem_cons_succ])
            refine wpAnyH_take (i := 3) (v := ?vvt3) rfl (by kernel_rfl) (by kernel_rfl) (by kernel_rfl) (fun _ _ _ h => h) (Or.inl ⟨by rfl, ?hyt3⟩) (by assumption) ?restt3
            case hyt3 => (intro w hSw; (try dsimp only at hSw); go_simp; (try with_reducible rfl))
            case restt3 =>
              (try simp only [Act.put, List.setIfInBounds_toArray, List.set_cons_zero, List.set_cons_succ, List.getElem_toArray, List.getElem_cons_zero, List.getElem_cons_succ])
              refine wpAnyH_take (i := 5) (v := ?vvt4) rfl (by kernel_rfl) (by kernel_rfl) (by kernel_rfl) (fun _ _ _ h => h) (Or.inl ⟨by rfl, ?hyt4⟩) (by assumption) ?restt4
              case hyt4 => (intro w hSw; (try dsimp only at hSw); go_simp; (try with_reducible rfl))
              case restt4 =>
                (try simp only [Act.put, List.setIfInBounds_toArray, List.set_cons_zero, List.set_cons_succ, List.getElem_toArray, List.getElem_cons_zero, List.getElem_cons_succ])
                refine wpAnyH_take (i := 8) (v := ?vvt5) rfl (by kernel_rfl) (by kernel_rfl) (by kernel_rfl) (fun _ _ _ h => h) (Or.inl ⟨by rfl, ?hyt5⟩) (by assumption) ?restt5
                case hyt5 => (intro w hSw; (try dsimp only at hSw); go_simp; (try with_reducible rfl))
                case restt5 =>
                  (try simp only [Act.put, List.setIfInBounds_toArray, List.set_cons_zero, List.set_cons_succ, List.getElem_toArray, List.getElem_cons_zero, List.getElem_cons_succ])
                  refine wpAnyH_take (i := 9) (v := ?vvt6) rfl (by kernel_rfl) (by kernel_rfl) (by kernel_rfl) (fun _ _ _ h => h) (Or.inl ⟨by rfl, ?hyt6⟩) (by assumption) ?restt6
                  case hyt6 => (intro w hSw; (try dsimp only at hSw); go_simp; (try with_reducible rfl))
                  case restt6 =>
                    (try simp only [Act.put, List.setIfInBounds_toArray, List.set_cons_zero, List.set_cons_succ, List.getElem_toArray, List.getElem_cons_zero, List.getElem_cons_succ])
                    refine wpAnyH_take (i := 10) (v := ?vvt7) rfl (by kernel_rfl) (by kernel_rfl) (by kernel_rfl) (fun _ _ _ h => h) (Or.inl ⟨by rfl, ?hyt7⟩) (by assumption) ?restt7
                    case hyt7 => (intro w hSw; (try dsimp only at hSw); go_simp; (try with_reducible rfl))
                    case restt7 =>
                      (try simp only [Act.put, List.setIfInBounds_toArray, List.set_cons_zero, List.set_cons_succ, List.getElem_toArray, List.getElem_cons_zero, List.getElem_cons_succ])
                      refine wpAnyH_ready (rs := [0, 6]) (by kernel_rfl) (by simp) ?_
                      refine (AllReadyH.cons rfl (fun K hK => ?_) (AllReadyH.cons rfl (fun K hK => ?_) AllReadyH.nil))
                      · go_simp
                        refine hK.out _ _ ?_ (fun hHeld => ?_)
                        · exact trivial
                        clear hK K
                        (try simp only [Act.put, List.setIfInBounds_toArray, List.set_cons_zero, List.set_cons_succ, List.getElem_toArray, List.getElem_cons_zero])
                        refine wpAnyH_ready (rs := [4, 6]) (by kernel_rfl) (by simp) ?_
                        refine (AllReadyH.cons rfl (fun K hK => ?_) (AllReadyH.cons rfl (fun K hK => ?_) AllReadyH.nil))
                        · have BW := bdrew' (bel1 w3 (.cells #[] 3))
                          (refine step_append_own (by rfl) _ _ _ (by rfl) w3.heap.size 3 i0 (.int .i64 0) 1 8 Try.underlying22 hi0 hz0 hz1 hz2 rfl (by decide) _ 0 [] (by rfl) (World.ownsRow_lit w3 #[] 0 (Nat.le_refl _) (by simp) rfl).drew ⟨g, 0, none⟩ N N (A1.map (Value.int .i64)) (by rfl) (by rw [List.length_map, Nat.mul_one]; exact HA1.out) (HC.out _ BW) HO1.out (by unfold maxLen; omega) (by omega) (by first | (simp; done) | (simp; omega)) ?_)
                          intro v1 W1 own1 grow1 hnil1
                          rw [List.nil_append, Nat.zero_add] at own1
                          have B1 := BW.grown grow1 (by first | (simp; done) | (simp; omega)) (fun q hq => by simp [Value.ownBlock] at hq; omega)
                          have hn1 : v1 ≠ .slice none 0 0 := fun e => by have := (hnil1.1 e).1; cases this
                          clear BW grow1 hnil1
                          refine hK.out _ _ ?_ (fun hHeld => ?_)
                          · exact trivial
                          clear hK K
                          (try simp only [Act.put, List.setIfInBounds_toArray, List.set_cons_zero, List.set_cons_succ, List.getElem_toArray, List.getElem_cons_zero, List.getElem_cons_succ])
                          refine wpAnyH_ready (rs := [6]) (by kernel_rfl) (by simp) ?_
                          refine (AllReadyH.cons rfl (fun K hK => ?_) AllReadyH.nil)
                          go_simp
                          refine hK.out _ _ ?_ (fun hHeld => ?_)
                          · exact trivial
                          clear hK K
                          (try simp only [Act.put, List.setIfInBounds_toArray, List.set_cons_zero, List.set_cons_succ, List.getElem_toArray, List.getElem_cons_zero, List.getElem_cons_succ])
                          refine wpAnyH_ready (rs := [7]) (by kernel_rfl) (by simp) ?_
                          refine (AllReadyH.cons rfl (fun K hK => ?_) AllReadyH.nil)
                          (refine step_append_own (by rfl) _ _ _ (by rfl) w3.heap.size 3 i0 (.int .i64 0) 1 8 Try.underlying22 hi0 hz0 hz1 hz2 rfl (by decide) _ N (A1.map (Value.int .i64)) (by rfl) (own1.alloc _) ⟨W1.heap.size, 0, none⟩ 1 1 [.int .i64 (N : Int)] (by rfl) rfl (World.news_of_block (cs := #[.int .i64 (N : Int)]) (t := 3) (fr := (0, 0)) (heap_alloc_new W1 _)) (by intro u hu; simp at hu; subst hu; rfl) (by unfold maxLen; omega) (by omega) (by simp; have := B1.size; omega) ?_)
                          intro v2 W2 own2 grow2 hnil2
                          have B2 := (B1.alloc B1.size _).grown grow2 (by simp; have := B1.size; omega) (fun q hq => (World.ownsRow.lt own1 q hq).1)
                          have hn2 : v2 ≠ .slice none 0 0 := fun e => hn1 (hnil2.1 e).1
                          clear grow2 hnil2 own1 B1 hn1
                          refine hK.out _ _ ?_ (fun hHeld => ?_)
                          · exact trivial
                          clear hK K
                          (try simp only [Act.put, List.setIfInBounds_toArray, List.set_cons_zero, List.set_cons_succ, List.getElem_toArray, List.getElem_cons_zero, List.getElem_cons_succ])
                          refine wpAnyH_ready (rs := [11]) (by kernel_rfl) (by simp) ?_
                          refine (AllReadyH.cons rfl (fun K hK => ?_) AllReadyH.nil)
                          (refine step_append_own (by rfl) _ _ _ (by rfl) w3.heap.size 3 i0 (.int .i64 0) 1 8 Try.underlying22 hi0 hz0 hz1 hz2 rfl (by decide) _ (N + 1) (A1.map (Value.int .i64) ++ [.int .i64 (N : Int)]) (by rfl) own2 ⟨g, 0, none⟩ 0 0 (D1.map (Value.int .i64)) (by rfl) (by rw [List.length_map, Nat.mul_one]; exact HD1.out) (HD.out _ B2) HO2.out (by unfold maxLen; omega) (by omega) B2.size ?_)
                          intro v3 W3 own3 grow3 hnil3
                          have B3 := hide (B2.grown grow3 B2.size (fun q hq => (World.ownsRow.lt own2 q hq).1))
                          have hn3 : v3 ≠ .slice none 0 0 := fun e => hn2 (hnil3.1 e).1
                          have O3 : Hid (Owns W3 w3.heap.size v3 (A1 ++ [(N : Int)] ++ D1)) := by
                            unfold Hid Owns
                            rw [List.length_append, List.length_append, HA1.out, HD1.out, List.map_append, List.map_append]
                            exact own3
                          clear own3 grow3 hnil3 own2 B2 hn2
                          refine hK.out _ _ ?_ (fun hHeld => ?_)
                          · exact trivial
                          clear hK K
                          (try simp only [Act.put, List.setIfInBounds_toArray, List.set_cons_zero, List.set_cons_succ, List.getElem_toArray, List.getElem_cons_zero, List.getElem_cons_succ])
                          refine wpAnyH_take (i := 12) (v := ?vvt8) rfl (by kernel_rfl) (by kernel_rfl) (by kernel_rfl) (fun _ _ _ h => h) (Or.inl ⟨by rfl, ?hyt8⟩) (by assumption) ?restt8
                          case hyt8 => (intro w hSw; (try dsimp only at hSw); go_simp; (try with_reducible rfl))
                          case restt8 =>
                            (try simp only [Act.put, List.setIfInBounds_toArray, List.set_cons_zero, List.set_cons_succ, List.getElem_toArray, List.getElem_cons_zero, List.getElem_cons_succ])
                            refine wpAnyH_done (by kernel_rfl) ?_ _
                            go_wp2
                            go_roundw
                            case rel => exact ⟨A1 ++ [(N : Int)] ++ D1, by rw [HLEN.out]; omega, by rw [HLEN.out]; go_num, by rw [HLEN.out]; exact V3.out.turn B3.out O3.out, hn3⟩
                            case measure => simp only [intOf]; omega
                        · go_simp
                          refine hK.out _ _ ?_ (fun hHeld => ?_)
                          · exact trivial
                          clear hK K
                          (try simp only [Act.put, List.setIfInBounds_toArray, List.set_cons_zero, List.set_cons_succ, List.getElem_toArray, List.getElem_cons_zero, List.getElem_cons_succ])
                          refine wpAnyH_ready (rs := [4]) (by kernel_rfl) (by simp) ?_
                          refine (AllReadyH.cons rfl (fun K hK => ?_) AllReadyH.nil)
                          have BW := bdrew' (bel2 w3 (.cells #[] 3) (.cells #[.int .i64 (N : Int)] 3))
                          (refine step_append_own (by rfl) _ _ _ (by rfl) w3.heap.size 3 i0 (.int .i64 0) 1 8 Try.underlying22 hi0 hz0 hz1 hz2 rfl (by decide) _ 0 [] (by rfl) ((World.ownsRow_lit w3 #[] 0 (Nat.le_refl _) (by simp) rfl).alloc (.cells #[.int .i64 (N : Int)] 3)).drew ⟨g, 0, none⟩ N N (A1.map (Value.int .i64)) (by rfl) (by rw [List.length_map, Nat.mul_one]; exact HA1.out) (HC.out _ BW) HO1.out (by unfold maxLen; omega) (by omega) (by first | (simp; done) | (simp; omega)) ?_)
                          intro v1 W1 own1 grow1 hnil1
                          rw [List.nil_append, Nat.zero_add] at own1
                          have B1 := BW.grown grow1 (by first | (simp; done) | (simp; omega)) (fun q hq => by simp [Value.ownBlock] at hq; omega)
                          have hn1 : v1 ≠ .slice none 0 0 := fun e => by have := (hnil1.1 e).1; cases this
                          have hXb : W1.heap[w3.heap.size + 1]? = some (.cells #[.int .i64 (N : Int)] 3 (0, 0)) := (grow1.block _ (by first | (simp; done) | (simp; omega)) (by simp [Value.ownBlock])).trans (by show ((w3.alloc (.cells #[] 3)).alloc (.cells #[.int .i64 (N : Int)] 3)).heap[w3.heap.size + 1]? = _; have h := heap_alloc_new (w3.alloc (.cells #[] 3)) (.cells #[.int .i64 (N : Int)] 3); simpa using h)
                          clear BW grow1 hnil1
                          refine hK.out _ _ ?_ (fun hHeld => ?_)
                          · exact trivial
                          clear hK K
                          (try simp only [Act.put, List.setIfInBounds_toArray, List.set_cons_zero, List.set_cons_succ, List.getElem_toArray, List.getElem_cons_zero, List.getElem_cons_succ])
                          refine wpAnyH_ready (rs := [7]) (by kernel_rfl) (by simp) ?_
                          refine (AllReadyH.cons rfl (fun K hK => ?_) AllReadyH.nil)
                          (refine step_append_own (by rfl) _ _ _ (by rfl) w3.heap.size 3 i0 (.int .i64 0) 1 8 Try.underlying22 hi0 hz0 hz1 hz2 rfl (by decide) _ N (A1.map (Value.int .i64)) (by rfl) own1 ⟨w3.heap.size + 1, 0, none⟩ 1 1 [.int .i64 (N : Int)] (by rfl) rfl (World.news_of_block (cs := #[.int .i64 (N : Int)]) (t := 3) (fr := (0, 0)) hXb) (by intro u hu; simp at hu; subst hu; rfl) (by unfold maxLen; omega) (by omega) B1.size ?_)
                          intro v2 W2 own2 grow2 hnil2
                          have B2 := (B1).grown grow2 B1.size (fun q hq => (World.ownsRow.lt own1 q hq).1)
                          have hn2 : v2 ≠ .slice none 0 0 := fun e => hn1 (hnil2.1 e).1
                          clear grow2 hnil2 own1 B1 hn1 hXb
                          refine hK.out _ _ ?_ (fun hHeld => ?_)
                          · exact trivial
                          clear hK K
                          (try simp only [Act.put, List.setIfInBounds_toArray, List.set_cons_zero, List.set_cons_succ, List.getElem_toArray, List.getElem_cons_zero, List.getElem_cons_succ])
                          refine wpAnyH_ready (rs := [11]) (by kernel_rfl) (by simp) ?_
                          refine (AllReadyH.cons rfl (fun K hK => ?_) AllReadyH.nil)
                          (refine step_append_own (by rfl) _ _ _ (by rfl) w3.heap.size 3 i0 (.int .i64 0) 1 8 Try.underlying22 hi0 hz0 hz1 hz2 rfl (by decide) _ (N + 1) (A1.map (Value.int .i64) ++ [.int .i64 (N : Int)]) (by rfl) own2 ⟨g, 0, none⟩ 0 0 (D1.map (Value.int .i64)) (by rfl) (by rw [List.length_map, Nat.mul_one]; exact HD1.out) (HD.out _ B2) HO2.out (by unfold maxLen; omega) (by omega) B2.size ?_)
                          intro v3 W3 own3 grow3 hnil3
                          have B3 := hide (B2.grown grow3 B2.size (fun q hq => (World.ownsRow.lt own2 q hq).1))
                          have hn3 : v3 ≠ .slice none 0 0 := fun e => hn2 (hnil3.1 e).1
                          have O3 : Hid (Owns W3 w3.heap.size v3 (A1 ++ [(N : Int)] ++ D1)) := by
                            unfold Hid Owns
                            rw [List.length_append, List.length_append, HA1.out, HD1.out, List.map_append, List.map_append]
                            exact own3
                          clear own3 grow3 hnil3 own2 B2 hn2
                          refine hK.out _ _ ?_ (fun hHeld => ?_)
                          · exact trivial
                          clear hK K
                          (try simp only [Act.put, List.setIfInBounds_toArray, List.set_cons_zero, List.set_cons_succ, List.getElem_toArray, List.getElem_cons_zero, List.getElem_cons_succ])
                          refine wpAnyH_take (i := 12) (v := ?vvt9) rfl (by kernel_rfl) (by kernel_rfl) (by kernel_rfl) (fun _ _ _ h => h) (Or.inl ⟨by rfl, ?hyt9⟩) (by assumption) ?restt9
                          case hyt9 => (intro w hSw; (try dsimp only at hSw); go_simp; (try with_reducible rfl))
                          case restt9 =>
                            (try simp only [Act.put, List.setIfInBounds_toArray, List.set_cons_zero, List.set_cons_succ, List.getElem_toArray, List.getElem_cons_zero, List.getElem_cons_succ])
                            refine wpAnyH_done (by kernel_rfl) ?_ _
                            go_wp2
                            go_roundw
                            case rel => exact ⟨A1 ++ [(N : Int)] ++ D1, by rw [HLEN.out]; omega, by rw [HLEN.out]; go_num, by rw [HLEN.out]; exact V3.out.turn B3.out O3.out, hn3⟩
                            case measure => simp only [intOf]; omega
                      · go_simp
                        refine hK.out _ _ ?_ (fun hHeld => ?_)
                        · exact trivial
                        clear hK K
                        (try simp only [Act.put, List.setIfInBounds_toArray, List.set_cons_zero, List.set_cons_succ, List.getElem_toArray, List.getElem_cons_zero, List.getElem_cons_succ])
                        refine wpAnyH_ready (rs := [0]) (by kernel_rfl) (by simp) ?_
                        refine (AllReadyH.cons rfl (fun K hK => ?_) AllReadyH.nil)
                        go_simp
                        refine hK.out _ _ ?_ (fun hHeld => ?_)
                        · exact trivial
                        clear hK K
                        (try simp only [Act.put, List.setIfInBounds_toArray, List.set_cons_zero, List.set_cons_succ, List.getElem_toArray, List.getElem_cons_zero])
                        refine wpAnyH_ready (rs := [4]) (by kernel_rfl) (by simp) ?_
                        refine (AllReadyH.cons rfl (fun K hK => ?_) AllReadyH.nil)
                        have BW := bdrew' (bel2 w3 (.cells #[.int .i64 (N : Int)] 3) (.cells #[] 3))
                        (refine step_append_own (by rfl) _ _ _ (by rfl) w3.heap.size 3 i0 (.int .i64 0) 1 8 Try.underlying22 hi0 hz0 hz1 hz2 rfl (by decide) _ 0 [] (by rfl) HO3.out ⟨g, 0, none⟩ N N (A1.map (Value.int .i64)) (by rfl) (by rw [List.length_map, Nat.mul_one]; exact HA1.out) (HC.out _ BW) HO1.out (by unfold maxLen; omega) (by omega) (by first | (simp; done) | (simp; omega)) ?_)
                        intro v1 W1 own1 grow1 hnil1
                        rw [List.nil_append, Nat.zero_add] at own1
                        have B1 := BW.grown grow1 (by first | (simp; done) | (simp; omega)) (fun q hq => by simp [Value.ownBlock] at hq; omega)
                        have hn1 : v1 ≠ .slice none 0 0 := fun e => by have := (hnil1.1 e).1; cases this
                        have hXb : W1.heap[w3.heap.size]? = some (.cells #[.int .i64 (N : Int)] 3 (0, 0)) := (grow1.block _ (by first | (simp; done) | (simp; omega)) (by simp [Value.ownBlock])).trans (by show ((w3.alloc (.cells #[.int .i64 (N : Int)] 3)).alloc (.cells #[] 3)).heap[w3.heap.size]? = _; exact ((bel1 (w3.alloc (.cells #[.int .i64 (N : Int)] 3)) (.cells #[] 3)).block _ (by first | (simp; done) | (simp; omega))).trans (heap_alloc_new w3 (.cells #[.int .i64 (N : Int)] 3)))
                        clear BW grow1 hnil1
                        refine hK.out _ _ ?_ (fun hHeld => ?_)
                        · exact trivial
                        clear hK K
                        (try simp only [Act.put, List.setIfInBounds_toArray, List.set_cons_zero, List.set_cons_succ, List.getElem_toArray, List.getElem_cons_zero, List.getElem_cons_succ])
                        refine wpAnyH_ready (rs := [7]) (by kernel_rfl) (by simp) ?_
                        refine (AllReadyH.cons rfl (fun K hK => ?_) AllReadyH.nil)
                        (refine step_append_own (by rfl) _ _ _ (by rfl) w3.heap.size 3 i0 (.int .i64 0) 1 8 Try.underlying22 hi0 hz0 hz1 hz2 rfl (by decide) _ N (A1.map (Value.int .i64)) (by rfl) own1 ⟨w3.heap.size, 0, none⟩ 1 1 [.int .i64 (N : Int)] (by rfl) rfl (World.news_of_block (cs := #[.int .i64 (N : Int)]) (t := 3) (fr := (0, 0)) hXb) (by intro u hu; simp at hu; subst hu; rfl) (by unfold maxLen; omega) (by omega) B1.size ?_)
                        intro v2 W2 own2 grow2 hnil2
                        have B2 := (B1).grown grow2 B1.size (fun q hq => (World.ownsRow.lt own1 q hq).1)
                        have hn2 : v2 ≠ .slice none 0 0 := fun e => hn1 (hnil2.1 e).1
                        clear grow2 hnil2 own1 B1 hn1 hXb
                        refine hK.out _ _ ?_ (fun hHeld => ?_)
                        · exact trivial
                        clear hK K
                        (try simp only [Act.put, List.setIfInBounds_toArray, List.set_cons_zero, List.set_cons_succ, List.getElem_toArray, List.getElem_cons_zero, List.getElem_cons_succ])
                        refine wpAnyH_ready (rs := [11]) (by kernel_rfl) (by simp) ?_
                        refine (AllReadyH.cons rfl (fun K hK => ?_) AllReadyH.nil)
                        (refine step_append_own (by rfl) _ _ _ (by rfl) w3.heap.size 3 i0 (.int .i64 0) 1 8 Try.underlying22 hi0 hz0 hz1 hz2 rfl (by decide) _ (N + 1) (A1.map (Value.int .i64) ++ [.int .i64 (N : Int)]) (by rfl) own2 ⟨g, 0, none⟩ 0 0 (D1.map (Value.int .i64)) (by rfl) (by rw [List.length_map, Nat.mul_one]; exact HD1.out) (HD.out _ B2) HO2.out (by unfold maxLen; omega) (by omega) B2.size ?_)
                        intro v3 W3 own3 grow3 hnil3
                        have B3 := hide (B2.grown grow3 B2.size (fun q hq => (World.ownsRow.lt own2 q hq).1))
                        have hn3 : v3 ≠ .slice none 0 0 := fun e => hn2 (hnil3.1 e).1
                        have O3 : Hid (Owns W3 w3.heap.size v3 (A1 ++ [(N : Int)] ++ D1)) := by
                          unfold Hid Owns
                          rw [List.length_append, List.length_append, HA1.out, HD1.out, List.map_append, List.map_append]
                          exact own3
                        clear own3 grow3 hnil3 own2 B2 hn2
                        refine hK.out _ _ ?_ (fun hHeld => ?_)
                        · exact trivial
                        clear hK K
                        (try simp only [Act.put, List.setIfInBounds_toArray, List.set_cons_zero, List.set_cons_succ, List.getElem_toArray, List.getElem_cons_zero, List.getElem_cons_succ])
                        refine wpAnyH_take (i := 12) (v := ?vvt10) rfl (by kernel_rfl) (by kernel_rfl) (by kernel_rfl) (fun _ _ _ h => h) (Or.inl ⟨by rfl, ?hyt10⟩) (by assumption) ?restt10
                        case hyt10 => (intro w hSw; (try dsimp only at hSw); go_simp; (try with_reducible rfl))
                        case restt10 =>
                          (try simp only [Act.put, List.setIfInBounds_toArray, List.set_cons_zero, List.set_cons_succ, List.getElem_toArray, List.getElem_cons_zero, List.getElem_cons_succ])
                          refine wpAnyH_done (by kernel_rfl) ?_ _
                          go_wp2
                          go_roundw
                          case rel => exact ⟨A1 ++ [(N : Int)] ++ D1, by rw [HLEN.out]; omega, by rw [HLEN.out]; go_num, by rw [HLEN.out]; exact V3.out.turn B3.out O3.out, hn3⟩
                          case measure => simp only [intOf]; omega
      · have hvk' : ¬ vc = k := fun e => hvk e.symm
        go_wp2
        refine wp_region_held_drew (S := (fun _ => True)) (by kernel_rfl) ?_ (fun hHeld => ?_)
        · exact trivial
        refine wpAnyH_take (i := 1) (v := ?vvt11) rfl (by kernel_rfl) (by kernel_rfl) (by kernel_rfl) (fun _ _ _ h => h) (Or.inl ⟨by rfl, ?hyt11⟩) (by assumption) ?restt11
        case hyt11 => (intro w hSw; (try dsimp only at hSw); go_simp; (try with_reducible rfl))
        case restt11 =>
          (try simp only [Act.put, List.setIfInBounds_toArray, List.set_cons_zero, List.set_cons_succ, List.getElem_toArray, List.getElem_cons_zero, List.getElem_cons_succ])
          refine wpAnyH_take (i := 2) (v := ?vvt12) rfl (by kernel_rfl) (by kernel_rfl) (by kernel_rfl) (fun _ _ _ h => h) (Or.inl ⟨by rfl, ?hyt12⟩) (by assumption) ?restt12
          case hyt12 => (intro w hSw; (try dsimp only at hSw); go_simp; (try with_reducible rfl))
          case restt12 =>
            (try simp only [Act.put, List.setIfInBounds_toArray, List.set_cons_zero, List.set_cons_succ, List.getElem_toArray, List.getElem_cons_zero, List.getElem_cons_succ])
            refine wpAnyH_take (i := 3) (v := ?vvt13) rfl (by kernel_rfl) (by kernel_rfl) (by kernel_rfl) (fun _ _ _ h => h) (Or.inl ⟨by rfl, ?hyt13⟩) (by assumption) ?restt13
            case hyt13 => (intro w hSw; (try dsimp only at hSw); go_simp; (try with_reducible rfl))
            case restt13 =>
              (try simp only [Act.put, List.setIfInBounds_toArray, List.set_cons_zero, List.set_cons_succ, List.getElem_toArray, List.getElem_cons_zero, List.getElem_cons_succ])
              refine wpAnyH_take (i := 5) (v := ?vvt14) rfl (by kernel_rfl) (by kernel_rfl) (by kernel_rfl) (fun _ _ _ h => h) (Or.inl ⟨by rfl, ?hyt14⟩) (by assumption) ?restt14
              case hyt14 => (intro w hSw; (try dsimp only at hSw); go_simp; (try with_reducible rfl))
              case restt14 =>
                (try simp only [Act.put, List.setIfInBounds_toArray, List.set_cons_zero, List.set_cons_succ, List.getElem_toArray, List.getElem_cons_zero, List.getElem_cons_succ])
                refine wpAnyH_take (i := 8) (v := ?vvt15) rfl (by kernel_rfl) (by kernel_rfl) (by kernel_rfl) (fun _ _ _ h => h) (Or.inl ⟨by rfl, ?hyt15⟩) (by assumption) ?restt15
                case hyt15 => (intro w hSw; (try dsimp only at hSw); go_simp; (try with_reducible rfl))
                case restt15 =>
                  (try simp only [Act.put, List.setIfInBounds_toArray, List.set_cons_zero, List.set_cons_succ, List.getElem_toArray, List.getElem_cons_zero, List.getElem_cons_succ])
                  refine wpAnyH_take (i := 9) (v := ?vvt16) rfl (by kernel_rfl) (by kernel_rfl) (by kernel_rfl) (fun _ _ _ h => h) (Or.inl ⟨by rfl, ?hyt16⟩) (by assumption) ?restt16
                  case hyt16 => (intro w hSw; (try dsimp only at hSw); go_simp; (try with_reducible rfl))
                  case restt16 =>
                    (try simp only [Act.put, List.setIfInBounds_toArray, List.set_cons_zero, List.set_cons_succ, List.getElem_toArray, List.getElem_cons_zero, List.getElem_cons_succ])
                    refine wpAnyH_take (i := 10) (v := ?vvt17) rfl (by kernel_rfl) (by kernel_rfl) (by kernel_rfl) (fun _ _ _ h => h) (Or.inl ⟨by rfl, ?hyt17⟩) (by assumption) ?restt17
                    case hyt17 => (intro w hSw; (try dsimp only at hSw); go_simp; (try with_reducible rfl))
                    case restt17 =>
                      (try simp only [Act.put, List.setIfInBounds_toArray, List.set_cons_zero, List.set_cons_succ, List.getElem_toArray, List.getElem_cons_zero, List.getElem_cons_succ])
                      refine wpAnyH_ready (rs := [0, 6]) (by kernel_rfl) (by simp) ?_
                      refine (AllReadyH.cons rfl (fun K hK => ?_) (AllReadyH.cons rfl (fun K hK => ?_) AllReadyH.nil))
                      · go_simp
                        refine hK.out _ _ ?_ (fun hHeld => ?_)
                        · exact trivial
                        clear hK K
                        (try simp only [Act.put, List.setIfInBounds_toArray, List.set_cons_zero, List.set_cons_succ, List.getElem_toArray, List.getElem_cons_zero])
                        refine wpAnyH_ready (rs := [4, 6]) (by kernel_rfl) (by simp) ?_
                        refine (AllReadyH.cons rfl (fun K hK => ?_) (AllReadyH.cons rfl (fun K hK => ?_) AllReadyH.nil))
                        · have BW := bdrew' (bel1 w3 (.cells #[] 3))
                          (refine step_append_own (by rfl) _ _ _ (by rfl) w3.heap.size 3 i0 (.int .i64 0) 1 8 Try.underlying22 hi0 hz0 hz1 hz2 rfl (by decide) _ 0 [] (by rfl) (World.ownsRow_lit w3 #[] 0 (Nat.le_refl _) (by simp) rfl).drew ⟨g, 0, none⟩ k vc (A1.map (Value.int .i64)) (by rfl) (by rw [List.length_map, Nat.mul_one]; exact HA1.out) (HC.out _ BW) HO1.out (by unfold maxLen; omega) (by omega) (by first | (simp; done) | (simp; omega)) ?_)
                          intro v1 W1 own1 grow1 hnil1
                          rw [List.nil_append, Nat.zero_add] at own1
                          have B1 := BW.grown grow1 (by first | (simp; done) | (simp; omega)) (fun q hq => by simp [Value.ownBlock] at hq; omega)
                          have hn1 : v1 ≠ .slice none 0 0 := fun e => by have := (hnil1.1 e).1; cases this
                          clear BW grow1 hnil1
                          refine hK.out _ _ ?_ (fun hHeld => ?_)
                          · exact trivial
                          clear hK K
                          (try simp only [Act.put, List.setIfInBounds_toArray, List.set_cons_zero, List.set_cons_succ, List.getElem_toArray, List.getElem_cons_zero, List.getElem_cons_succ])
                          refine wpAnyH_ready (rs := [6]) (by kernel_rfl) (by simp) ?_
                          refine (AllReadyH.cons rfl (fun K hK => ?_) AllReadyH.nil)
                          go_simp
                          refine hK.out _ _ ?_ (fun hHeld => ?_)
                          · exact trivial
                          clear hK K
                          (try simp only [Act.put, List.setIfInBounds_toArray, List.set_cons_zero, List.set_cons_succ, List.getElem_toArray, List.getElem_cons_zero, List.getElem_cons_succ])
                          refine wpAnyH_ready (rs := [7]) (by kernel_rfl) (by simp) ?_
                          refine (AllReadyH.cons rfl (fun K hK => ?_) AllReadyH.nil)
                          (refine step_append_own (by rfl) _ _ _ (by rfl) w3.heap.size 3 i0 (.int .i64 0) 1 8 Try.underlying22 hi0 hz0 hz1 hz2 rfl (by decide) _ k (A1.map (Value.int .i64)) (by rfl) (own1.alloc _) ⟨W1.heap.size, 0, none⟩ 1 1 [.int .i64 (N : Int)] (by rfl) rfl (World.news_of_block (cs := #[.int .i64 (N : Int)]) (t := 3) (fr := (0, 0)) (heap_alloc_new W1 _)) (by intro u hu; simp at hu; subst hu; rfl) (by unfold maxLen; omega) (by omega) (by simp; have := B1.size; omega) ?_)
                          intro v2 W2 own2 grow2 hnil2
                          have B2 := (B1.alloc B1.size _).grown grow2 (by simp; have := B1.size; omega) (fun q hq => (World.ownsRow.lt own1 q hq).1)
                          have hn2 : v2 ≠ .slice none 0 0 := fun e => hn1 (hnil2.1 e).1
                          clear grow2 hnil2 own1 B1 hn1
                          refine hK.out _ _ ?_ (fun hHeld => ?_)
                          · exact trivial
                          clear hK K
                          (try simp only [Act.put, List.setIfInBounds_toArray, List.set_cons_zero, List.set_cons_succ, List.getElem_toArray, List.getElem_cons_zero, List.getElem_cons_succ])
                          refine wpAnyH_ready (rs := [11]) (by kernel_rfl) (by simp) ?_
                          refine (AllReadyH.cons rfl (fun K hK => ?_) AllReadyH.nil)
                          (refine step_append_own (by rfl) _ _ _ (by rfl) w3.heap.size 3 i0 (.int .i64 0) 1 8 Try.underlying22 hi0 hz0 hz1 hz2 rfl (by decide) _ (k + 1) (A1.map (Value.int .i64) ++ [.int .i64 (N : Int)]) (by rfl) own2 ⟨g, k, none⟩ (N - k) (vc - k) (D1.map (Value.int .i64)) (by rfl) (by rw [List.length_map, Nat.mul_one]; exact HD1.out) (HD.out _ B2) HO2.out (by unfold maxLen; omega) (by omega) B2.size ?_)
                          intro v3 W3 own3 grow3 hnil3
                          have B3 := hide (B2.grown grow3 B2.size (fun q hq => (World.ownsRow.lt own2 q hq).1))
                          have hn3 : v3 ≠ .slice none 0 0 := fun e => hn2 (hnil3.1 e).1
                          have O3 : Hid (Owns W3 w3.heap.size v3 (A1 ++ [(N : Int)] ++ D1)) := by
                            unfold Hid Owns
                            rw [List.length_append, List.length_append, HA1.out, HD1.out, List.map_append, List.map_append]
                            exact own3
                          clear own3 grow3 hnil3 own2 B2 hn2
                          refine hK.out _ _ ?_ (fun hHeld => ?_)
                          · exact trivial
                          clear hK K
                          (try simp only [Act.put, List.setIfInBounds_toArray, List.set_cons_zero, List.set_cons_succ, List.getElem_toArray, List.getElem_cons_zero, List.getElem_cons_succ])
                          refine wpAnyH_take (i := 12) (v := ?vvt18) rfl (by kernel_rfl) (by kernel_rfl) (by kernel_rfl) (fun _ _ _ h => h) (Or.inl ⟨by rfl, ?hyt18⟩) (by assumption) ?restt18
                          case hyt18 => (intro w hSw; (try dsimp only at hSw); go_simp; (try with_reducible rfl))
                          case restt18 =>
                            (try simp only [Act.put, List.setIfInBounds_toArray, List.set_cons_zero, List.set_cons_succ, List.getElem_toArray, List.getElem_cons_zero, List.getElem_cons_succ])
                            refine wpAnyH_done (by kernel_rfl) ?_ _
                            go_wp2
                            go_roundw
                            case rel => exact ⟨A1 ++ [(N : Int)] ++ D1, by rw [HLEN.out]; omega, by rw [HLEN.out]; go_num, by rw [HLEN.out]; exact V3.out.turn B3.out O3.out, hn3⟩
                            case measure => simp only [intOf]; omega
                        · go_simp
                          refine hK.out _ _ ?_ (fun hHeld => ?_)
                          · exact trivial
                          clear hK K
                          (try simp only [Act.put, List.setIfInBounds_toArray, List.set_cons_zero, List.set_cons_succ, List.getElem_toArray, List.getElem_cons_zero, List.getElem_cons_succ])
                          refine wpAnyH_ready (rs := [4]) (by kernel_rfl) (by simp) ?_
                          refine (AllReadyH.cons rfl (fun K hK => ?_) AllReadyH.nil)
                          have BW := bdrew' (bel2 w3 (.cells #[] 3) (.cells #[.int .i64 (N : Int)] 3))
                          (refine step_append_own (by rfl) _ _ _ (by rfl) w3.heap.size 3 i0 (.int .i64 0) 1 8 Try.underlying22 hi0 hz0 hz1 hz2 rfl (by decide) _ 0 [] (by rfl) ((World.ownsRow_lit w3 #[] 0 (Nat.le_refl _) (by simp) rfl).alloc (.cells #[.int .i64 (N : Int)] 3)).drew ⟨g, 0, none⟩ k vc (A1.map (Value.int .i64)) (by rfl) (by rw [List.length_map, Nat.mul_one]; exact HA1.out) (HC.out _ BW) HO1.out (by unfold maxLen; omega) (by omega) (by first | (simp; done) | (simp; omega)) ?_)
                          intro v1 W1 own1 grow1 hnil1
                          rw [List.nil_append, Nat.zero_add] at own1
                          have B1 := BW.grown grow1 (by first | (simp; done) | (simp; omega)) (fun q hq => by simp [Value.ownBlock] at hq; omega)
                          have hn1 : v1 ≠ .slice none 0 0 := fun e => by have := (hnil1.1 e).1; cases this
                          have hXb : W1.heap[w3.heap.size + 1]? = some (.cells #[.int .i64 (N : Int)] 3 (0, 0)) := (grow1.block _ (by first | (simp; done) | (simp; omega)) (by simp [Value.ownBlock])).trans (by show ((w3.alloc (.cells #[] 3)).alloc (.cells #[.int .i64 (N : Int)] 3)).heap[w3.heap.size + 1]? = _; have h := heap_alloc_new (w3.alloc (.cells #[] 3)) (.cells #[.int .i64 (N : Int)] 3); simpa using h)
                          clear BW grow1 hnil1
                          refine hK.out _ _ ?_ (fun hHeld => ?_)
                          · exact trivial
                          clear hK K
                          (try simp only [Act.put, List.setIfInBounds_toArray, List.set_cons_zero, List.set_cons_succ, List.getElem_toArray, List.getElem_cons_zero, List.getElem_cons_succ])
                          refine wpAnyH_ready (rs := [7]) (by kernel_rfl) (by simp) ?_
                          refine (AllReadyH.cons rfl (fun K hK => ?_) AllReadyH.nil)
                          (refine step_append_own (by rfl) _ _ _ (by rfl) w3.heap.size 3 i0 (.int .i64 0) 1 8 Try.underlying22 hi0 hz0 hz1 hz2 rfl (by decide) _ k (A1.map (Value.int .i64)) (by rfl) own1 ⟨w3.heap.size + 1, 0, none⟩ 1 1 [.int .i64 (N : Int)] (by rfl) rfl (World.news_of_block (cs := #[.int .i64 (N : Int)]) (t := 3) (fr := (0, 0)) hXb) (by intro u hu; simp at hu; subst hu; rfl) (by unfold maxLen; omega) (by omega) B1.size ?_)
                          intro v2 W2 own2 grow2 hnil2
                          have B2 := (B1).grown grow2 B1.size (fun q hq => (World.ownsRow.lt own1 q hq).1)
                          have hn2 : v2 ≠ .slice none 0 0 := fun e => hn1 (hnil2.1 e).1
                          clear grow2 hnil2 own1 B1 hn1 hXb
                          refine hK.out _ _ ?_ (fun hHeld => ?_)
                          · exact trivial
                          clear hK K
                          (try simp only [Act.put, List.setIfInBounds_toArray, List.set_cons_zero, List.set_cons_succ, List.getElem_toArray, List.getElem_cons_zero, List.getElem_cons_succ])
                          refine wpAnyH_ready (rs := [11]) (by kernel_rfl) (by simp) ?_
                          refine (AllReadyH.cons rfl (fun K hK => ?_) AllReadyH.nil)
                          (refine step_append_own (by rfl) _ _ _ (by rfl) w3.heap.size 3 i0 (.int .i64 0) 1 8 Try.underlying22 hi0 hz0 hz1 hz2 rfl (by decide) _ (k + 1) (A1.map (Value.int .i64) ++ [.int .i64 (N : Int)]) (by rfl) own2 ⟨g, k, none⟩ (N - k) (vc - k) (D1.map (Value.int .i64)) (by rfl) (by rw [List.length_map, Nat.mul_one]; exact HD1.out) (HD.out _ B2) HO2.out (by unfold maxLen; omega) (by omega) B2.size ?_)
                          intro v3 W3 own3 grow3 hnil3
                          have B3 := hide (B2.grown grow3 B2.size (fun q hq => (World.ownsRow.lt own2 q hq).1))
                          have hn3 : v3 ≠ .slice none 0 0 := fun e => hn2 (hnil3.1 e).1
                          have O3 : Hid (Owns W3 w3.heap.size v3 (A1 ++ [(N : Int)] ++ D1)) := by
                            unfold Hid Owns
                            rw [List.length_append, List.length_append, HA1.out, HD1.out, List.map_append, List.map_append]
                            exact own3
                          clear own3 grow3 hnil3 own2 B2 hn2
                          refine hK.out _ _ ?_ (fun hHeld => ?_)
                          · exact trivial
                          clear hK K
                          (try simp only [Act.put, List.setIfInBounds_toArray, List.set_cons_zero, List.set_cons_succ, List.getElem_toArray, List.getElem_cons_zero, List.getElem_cons_succ])
                          refine wpAnyH_take (i := 12) (v := ?vvt19) rfl (by kernel_rfl) (by kernel_rfl) (by kernel_rfl) (fun _ _ _ h => h) (Or.inl ⟨by rfl, ?hyt19⟩) (by assumption) ?restt19
                          case hyt19 => (intro w hSw; (try dsimp only at hSw); go_simp; (try with_reducible rfl))
                          case restt19 =>
                            (try simp only [Act.put, List.setIfInBounds_toArray, List.set_cons_zero, List.set_cons_succ, List.getElem_toArray, List.getElem_cons_zero, List.getElem_cons_succ])
                            refine wpAnyH_done (by kernel_rfl) ?_ _
                            go_wp2
                            go_roundw
                            case rel => exact ⟨A1 ++ [(N : Int)] ++ D1, by rw [HLEN.out]; omega, by rw [HLEN.out]; go_num, by rw [HLEN.out]; exact V3.out.turn B3.out O3.out, hn3⟩
                            case measure => simp only [intOf]; omega
                      · go_simp
                        refine hK.out _ _ ?_ (fun hHeld => ?_)
                        · exact trivial
                        clear hK K
                        (try simp only [Act.put, List.setIfInBounds_toArray, List.set_cons_zero, List.set_cons_succ, List.getElem_toArray, List.getElem_cons_zero, List.getElem_cons_succ])
                        refine wpAnyH_ready (rs := [0]) (by kernel_rfl) (by simp) ?_
                        refine (AllReadyH.cons rfl (fun K hK => ?_) AllReadyH.nil)
                        go_simp
                        refine hK.out _ _ ?_ (fun hHeld => ?_)
                        · exact trivial
                        clear hK K
                        (try simp only [Act.put, List.setIfInBounds_toArray, List.set_cons_zero, List.set_cons_succ, List.getElem_toArray, List.getElem_cons_zero])
                        refine wpAnyH_ready (rs := [4]) (by kernel_rfl) (by simp) ?_
                        refine (AllReadyH.cons rfl (fun K hK => ?_) AllReadyH.nil)
                        have BW := bdrew' (bel2 w3 (.cells #[.int .i64 (N : Int)] 3) (.cells #[] 3))
                        (refine step_append_own (by rfl) _ _ _ (by rfl) w3.heap.size 3 i0 (.int .i64 0) 1 8 Try.underlying22 hi0 hz0 hz1 hz2 rfl (by decide) _ 0 [] (by rfl) HO3.out ⟨g, 0, none⟩ k vc (A1.map (Value.int .i64)) (by rfl) (by rw [List.length_map, Nat.mul_one]; exact HA1.out) (HC.out _ BW) HO1.out (by unfold maxLen; omega) (by omega) (by first | (simp; done) | (simp; omega)) ?_)
                        intro v1 W1 own1 grow1 hnil1
                        rw [List.nil_append, Nat.zero_add] at own1
                        have B1 := BW.grown grow1 (by first | (simp; done) | (simp; omega)) (fun q hq => by simp [Value.ownBlock] at hq; omega)
                        have hn1 : v1 ≠ .slice none 0 0 := fun e => by have := (hnil1.1 e).1; cases this
                        have hXb : W1.heap[w3.heap.size]? = some (.cells #[.int .i64 (N : Int)] 3 (0, 0)) := (grow1.block _ (by first | (simp; done) | (simp; omega)) (by simp [Value.ownBlock])).trans (by show ((w3.alloc (.cells #[.int .i64 (N : Int)] 3)).alloc (.cells #[] 3)).heap[w3.heap.size]? = _; exact ((bel1 (w3.alloc (.cells #[.int .i64 (N : Int)] 3)) (.cells #[] 3)).block _ (by first | (simp; done) | (simp; omega))).trans (heap_alloc_new w3 (.cells #[.int .i64 (N : Int)] 3)))
                        clear BW grow1 hnil1
                        refine hK.out _ _ ?_ (fun hHeld => ?_)
                        · exact trivial
                        clear hK K
                        (try simp only [Act.put, List.setIfInBounds_toArray, List.set_cons_zero, List.set_cons_succ, List.getElem_toArray, List.getElem_cons_zero, List.getElem_cons_succ])
                        refine wpAnyH_ready (rs := [7]) (by kernel_rfl) (by simp) ?_
                        refine (AllReadyH.cons rfl (fun K hK => ?_) AllReadyH.nil)
                        (refine step_append_own (by rfl) _ _ _ (by rfl) w3.heap.size 3 i0 (.int .i64 0) 1 8 Try.underlying22 hi0 hz0 hz1 hz2 rfl (by decide) _ k (A1.map (Value.int .i64)) (by rfl) own1 ⟨w3.heap.size, 0, none⟩ 1 1 [.int .i64 (N : Int)] (by rfl) rfl (World.news_of_block (cs := #[.int .i64 (N : Int)]) (t := 3) (fr := (0, 0)) hXb) (by intro u hu; simp at hu; subst hu; rfl) (by unfold maxLen; omega) (by omega) B1.size ?_)
                        intro v2 W2 own2 grow2 hnil2
                        have B2 := (B1).grown grow2 B1.size (fun q hq => (World.ownsRow.lt own1 q hq).1)
                        have hn2 : v2 ≠ .slice none 0 0 := fun e => hn1 (hnil2.1 e).1
                        clear grow2 hnil2 own1 B1 hn1 hXb
                        refine hK.out _ _ ?_ (fun hHeld => ?_)
                        · exact trivial
                        clear hK K
                        (try simp only [Act.put, List.setIfInBounds_toArray, List.set_cons_zero, List.set_cons_succ, List.getElem_toArray, List.getElem_cons_zero, List.getElem_cons_succ])
                        refine wpAnyH_ready (rs := [11]) (by kernel_rfl) (by simp) ?_
                        refine (AllReadyH.cons rfl (fun K hK => ?_) AllReadyH.nil)
                        (refine step_append_own (by rfl) _ _ _ (by rfl) w3.heap.size 3 i0 (.int .i64 0) 1 8 Try.underlying22 hi0 hz0 hz1 hz2 rfl (by decide) _ (k + 1) (A1.map (Value.int .i64) ++ [.int .i64 (N : Int)]) (by rfl) own2 ⟨g, k, none⟩ (N - k) (vc - k) (D1.map (Value.int .i64)) (by rfl) (by rw [List.length_map, Nat.mul_one]; exact HD1.out) (HD.out _ B2) HO2.out (by unfold maxLen; omega) (by omega) B2.size ?_)
                        intro v3 W3 own3 grow3 hnil3
                        have B3 := hide (B2.grown grow3 B2.size (fun q hq => (World.ownsRow.lt own2 q hq).1))
                        have hn3 : v3 ≠ .slice none 0 0 := fun e => hn2 (hnil3.1 e).1
                        have O3 : Hid (Owns W3 w3.heap.size v3 (A1 ++ [(N : Int)] ++ D1)) := by
                          unfold Hid Owns
                          rw [List.length_append, List.length_append, HA1.out, HD1.out, List.map_append, List.map_append]
                          exact own3
                        clear own3 grow3 hnil3 own2 B2 hn2
                        refine hK.out _ _ ?_ (fun hHeld => ?_)
                        · exact trivial
                        clear hK K
                        (try simp only [Act.put, List.setIfInBounds_toArray, List.set_cons_zero, List.set_cons_succ, List.getElem_toArray, List.getElem_cons_zero, List.getElem_cons_succ])
                        refine wpAnyH_take (i := 12) (v := ?vvt20) rfl (by kernel_rfl) (by kernel_rfl) (by kernel_rfl) (fun _ _ _ h => h) (Or.inl ⟨by rfl, ?hyt20⟩) (by assumption) ?restt20
                        case hyt20 => (intro w hSw; (try dsimp only at hSw); go_simp; (try with_reducible rfl))
                        case restt20 =>
                          (try simp only [Act.put, List.setIfInBounds_toArray, List.set_cons_zero, List.set_cons_succ, List.getElem_toArray, List.getElem_cons_zero, List.getElem_cons_succ])
                          refine wpAnyH_done (by kernel_rfl) ?_ _
                          go_wp2
                          go_roundw
                          case rel => exact ⟨A1 ++ [(N : Int)] ++ D1, by rw [HLEN.out]; omega, by rw [HLEN.out]; go_num, by rw [HLEN.out]; exact V3.out.turn B3.out O3.out, hn3⟩
                          case measure => simp only [intOf]; omega
    · have HS := hide hs
      clear hs hcells
      go_wp2_with fail
      refine (pick_any R (n + N) _ _ HS.out.rd (by omega) ⟨by omega, by omega⟩).mono ?_
      rintro e w3 ⟨r, rfl, _, _, _, gg, rd⟩
      have V3 := HS.out.pick gg rd
      clear gg rd HS
      by_cases e0 : (r == 0) = true
      · have hown := V3.1
        have hown' : w3.ownsRow w.heap.size 3 1 (.slice (some ⟨g, 0, none⟩) N vc) N (ls.map (Value.int .i64)) := by have := hown; unfold Owns at this; rwa [hN] at this
        have hw3 := V3.2.2.2.1
        have HV := hide V3
        clear V3 hown
        go_wp2_with ((at_builtin; refine wpList_append_own _ rfl _ _ 22 rfl w.heap.size 3 i0 (.int .i64 0) 1 8 Try.underlying22 hi0 hz0 hz1 hz2 rfl (by decide) _ _ _ rfl (hown'.alloc _) ⟨w3.heap.size, 0, none⟩ 1 1 [.int .i64 0] rfl rfl (cell_one_new w3 _ _) (by intro u hu; simp at hu; subst hu; rfl) (by unfold maxLen; omega) (by omega) (by first | omega | (simp; omega)) ?_))
        intro v' w5 hown5 hgrow _
        rw [← HN.out] at hown5
        have V5 := HV.out.push hgrow hown5
        have HV5 := hide V5
        clear hown' hown5 hgrow V5 HV
        go_wp2
        go_ret
        exact HV5.out.done (by rw [List.length_append, HN.out]; simp; omega) (by omega)
      · have e0 : (r == 0) = false := by simpa using e0
        have HV := hide V3
        clear V3
        go_wp2
        go_ret
        exact HV.out.done (by rw [HN.out]; omega) (by omega)
/-- What a draw of a space, votes and an order leaves. -/
def DrawSVQPost (w : World) (e : Ending) (w' : World) : Prop :=
  ∃ (m : Int) (a : Option Addr) (zs : List Int) (cap : Nat) (l : Option Addr) (ls : List Int) (capl : Nat) (q : Option Addr) (qs : List Int) (capq : Nat), e = .returned (.tuple #[.agg #[.int .i64 m, .slice a zs.length cap], .slice l ls.length capl, .slice q qs.length capq]) ∧ Ints w' a zs ∧ zs.length ≤ 65 ∧ Ints w' l ls ∧ ls.length ≤ 10 ∧ Ints w' q qs ∧ qs.length ≤ 10 ∧ Below w.heap.size w w'
set_option maxHeartbeats 4000000 in
set_option maxRecDepth 100000 in
theorem drawTurnRule_any (a : Option Addr) (cap : Nat) (zs : List Nat) (w : World) (hi : Byts w a zs) (hl : zs.length ≤ 1048576) (hc : zs.length ≤ cap) :
    Calls Try.prog 40 #[.slice a zs.length cap] w (DrawSVQPost w) := by
  have h0 := heap_alloc_new w (.cells #[.int .i64 0, .slice none 0 0] 28)
  have b0 := bel1 w (.cells #[.int .i64 0, .slice none 0 0] 28)
  have hi0 := hi.below b0
  have H0 := hide h0
  have HB0 := hide b0
  clear hi h0 b0
  go_enter Try.func40, Try.ntmps40
  go_wp2_with fail
  refine (newReader_any _ _ _ _ hi0 hl hc).mono ?_
  rintro e w1 ⟨R, rfl, hR, rd, B⟩
  have s1 := hide ((B.block w.heap.size (by simp)).trans H0.out)
  have B1 := hide (bnext HB0.out B)
  have hR' : w.heap.size + 1 ≤ R := by simpa using hR
  have HR := hide hR'
  have hlt := hide rd.lt
  clear hR hR' B hi0
  go_wp2_with fail
  refine (someVotes_any R 0 _ rd (by omega)).mono ?_
  rintro e w2 ⟨m, v, ss, u, ls, rfl, own, hsl, owu, hll, g, rd2⟩
  obtain ⟨av, cv, rfl, D2⟩ := DS.new (m := m) HR.out rd s1.out B1.out own g rd2
  obtain ⟨au, cu, rfl, iu, hgu⟩ := owu.form
  have I2 := iu.below (bel1 w2 (.cells #[.int .i64 m, .slice av ss.length cv] 28))
  have HG := hide (fun b o s (e : au = some ⟨b, o, s⟩) => show R < b by have := (hgu b o s e).1; have := hlt.out; omega)
  have HSL := hide hsl
  have hm5 := hsl.2
  clear s1 B1 rd rd2 g own owu hsl H0 HB0 iu hgu
  go_wp2_with fail
  generalize w2.alloc (.cells #[.int .i64 m, .slice av ss.length cv] 28) = W at D2 I2 ⊢
  have D3 := hide D2.drew
  have I3 := hide (I2.below (bdrew' (Below.refl W.heap.size W)))
  have c0 := cell_of_block D3.out.2.1 0
  have c1 := cell_of_block D3.out.2.1 1
  have f0 := unfrozen_of_block D3.out.1 0
  have f1 := unfrozen_of_block D3.out.1 1
  have HRW := hide D3.out.rd.lt
  clear D2 I2
  go_region_with ((go_at_call 80; refine (orderOf_any R 52 m _ (D3.out.rd.more (by omega)) (by omega) hm5).mono ?_; rintro e w5 ⟨v5, qs, rfl, ow5, hql, g5, rd5⟩; have E5 := hide (D3.out.pick g5 rd5); have I5 := hide (I3.out.other g5 (fun b o s e e' => by have h1 := HG.out b o s e; have h2 : R = b := by { simpa using e' }; omega)); obtain ⟨aq, cq, rfl, iq, hgq⟩ := ow5.form; have IQ := hide iq; have HGQ := hide (fun b o s (e : aq = some ⟨b, o, s⟩) => show R < b by have := (hgq b o s e).1; have := HRW.out; omega); have e0 := cell_of_block E5.out.2.1 0; have e1 := cell_of_block E5.out.2.1 1; have q0 := cell_of_block E5.out.1 0; have q1 := cell_of_block E5.out.1 1; have k0 := unfrozen_of_block E5.out.1 0; have k1 := unfrozen_of_block E5.out.1 1; clear g5 rd5 ow5 iq hgq))
  all_goals
    have hw := hide E5.out.2.2.2.2.2.2.1
    go_wp2_with fail
    refine bodyPost_ret (ret_cross3 rfl _ _ _ _ _ rfl E5.out.set2.1) rfl ?_
    refine ⟨m, av, ss, cv, au, ls, cu, aq, qs, cq, rfl, E5.out.set2.ints, HSL.out.1, (I5.out.other (gset _ _ 0 _) ?_).other (gset _ _ 1 _) ?_, hll, (IQ.out.other (gset _ _ 0 _) ?_).other (gset _ _ 1 _) ?_, hql, E5.out.set2.bel⟩
    all_goals
      intro b o s e e'
      first
        | (have h1 := HG.out b o s e
           have h2 : w.heap.size = b := by simpa using e'
           have h3 := hw.out
           omega)
        | (have h1 := HGQ.out b o s e
           have h2 : w.heap.size = b := by simpa using e'
           have h3 := hw.out
           omega)
end Go.Proofs.Ytccemllgglfgkaa
